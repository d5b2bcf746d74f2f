/- The jobs in fixed turns: turns.serve of somebody who waits. -/
import Derived.Test.YtkigagglkmdccaaMg
namespace Go.Proofs.Ytkigagglkmdccaa
open Go.RowKit
set_option linter.unusedVariables false
set_option linter.unusedSimpArgs false

set_option maxRecDepth 20000 in
set_option maxHeartbeats 4000000 in
theorem mserve_any {w : World} {B : Nat} {F : Nat → Prop} {J : List UInt8 → List Wn} (h : MP w B F J) (s : List UInt8) {id cost n : Int} {r : List Wn} (hJ : J s = (id, cost, n) :: r) (hlen : (J s).length ≤ 16) (hn : 1 ≤ n ∧ n ≤ 1000) :
    Calls Try.prog 39 #[.map (some B), .string (tx s)] w fun e w' => e = .returned (.tuple #[.agg #[.int .i64 id, .int .i64 cost], .bool (decide (n ≤ 1)), .bool true]) ∧ ∃ F', MP w' B F' (upd J s (if n ≤ 1 then r else (id, cost, n - 1) :: r)) ∧ Fr F F' w w' := by
  obtain ⟨c, ls, h1, h2, h3⟩ := h
  have hJe : J = (tsW · ls) := funext fun s => (h2 s).symm
  have hFe : F = MF B ls := funext fun q => propext (h3 q)
  subst hJe hFe
  clear h2 h3
  obtain ⟨l, hf⟩ : ∃ l, lnF s ls = some l := by
    cases hf : lnF s ls with
    | none => simp only [tsW_none hf] at hJ; cases hJ
    | some l => exact ⟨l, rfl⟩
  obtain ⟨j, e1, e2, rfl⟩ := fndE_some ls 0 hf
  simp only [tsW_some hf] at hJ hlen
  obtain ⟨t, r', hts, htw, hr⟩ : ∃ t r', l.ts = t :: r' ∧ t.w = (id, cost, n) ∧ r'.map Tk.w = r := by
    cases hl : l.ts with
    | nil => rw [hl] at hJ; cases hJ
    | cons t r' =>
      rw [hl, List.map_cons] at hJ
      injection hJ with k1 k2
      exact ⟨t, r', rfl, k1, k2⟩
  obtain ⟨p, id', cost', n'⟩ := t
  obtain ⟨rfl, rfl, rfl⟩ : id' = id ∧ cost' = cost ∧ n' = n := by simpa [Tk.w] using htw
  subst hr
  have hlm := List.mem_of_getElem? e2
  have hps : l.ps = p :: r'.map Tk.p := by simp [Lf.ps, hts]
  obtain ⟨W0, hW0⟩ : ∃ W, w.alloc (.cells #[.int .i64 0, .int .i64 0] 30) = W := ⟨_, rfl⟩
  have hb0 : Below w.heap.size w W0 := by rw [← hW0]; exact bel1' _ _
  have hg0 : W0.heap[w.heap.size]? = some (.cells #[.int .i64 0, .int .i64 0] 30 (0, 0)) := by rw [← hW0]; exact heap_alloc_new _ _
  have h0 : MR W0 B c ls := h1.at' fun q hq => hb0.block q (h1.lt q hq)
  have hk0 := run_look h0.map l.nm
  have hat : atE l.nm (ls.map Lf.en) = .pointer (some ⟨l.q, 0, none⟩) := by unfold atE; rw [e1]
  rw [hat] at hk0
  have htm : (⟨p, id', cost', n'⟩ : Tk) ∈ l.ts := by rw [hts]; exact List.mem_cons_self ..
  have hpg : p ≠ w.heap.size := fun e => h0.not30 hg0 (e ▸ .inr (.inr (mem_tps.2 ⟨l, hlm, _, htm, rfl⟩)))
  obtain ⟨c0, c1, c2, z2⟩ := tk_cells (h0.tk l hlm _ htm)
  have HP : Hid (Calls Try.prog 69 #[.pointer (some ⟨l.q, 0, none⟩)] W0 fun e w' => e = .returned (.tuple #[.pointer (some ⟨p, 0, none⟩), .bool true]) ∧ w' = W0) := by
    obtain ⟨sv, k1, _⟩ := h0.qs l hlm
    have := ipeek_any l.q 16 sv l.ps W0 k1 (by have : l.ps.length = l.ts.length := by simp [Lf.ps]
                                               have h16 : l.ts.length ≤ 16 := by simpa using hlen
                                               omega)
    rw [hps] at this
    exact this
  obtain ⟨W1, hW1⟩ : ∃ W, W0.setCell ⟨p, 2, none⟩ (.int .i64 (n' - 1)) = W := ⟨_, rfl⟩
  have hM1 : MR W1 B c (ls.set j ⟨l.nm, l.q, l.born, l.F, ⟨p, id', cost', n' - 1⟩ :: r'⟩) := by rw [← hW1]; exact h0.had e2 hts (n' - 1)
  have hjl : j < ls.length := (List.getElem?_eq_some_iff.1 e2).1
  obtain ⟨l1, hl1⟩ : ∃ l1 : Lf, (⟨l.nm, l.q, l.born, l.F, ⟨p, id', cost', n' - 1⟩ :: r'⟩ : Lf) = l1 := ⟨_, rfl⟩
  rw [hl1] at hM1
  have hj1 : (ls.set j l1)[j]? = some l1 := List.getElem?_set_self hjl
  have hm1 := List.mem_of_getElem? hj1
  have hps1 : l1.ps = p :: r'.map Tk.p := by rw [← hl1]; rfl
  have hF1 : l1.F = l.F := by rw [← hl1]
  have hq1 : l1.q = l.q := by rw [← hl1]
  have hn1 : l1.nm = l.nm := by rw [← hl1]
  have hts1 : l1.ts = ⟨p, id', cost', n' - 1⟩ :: r' := by rw [← hl1]
  have hot1 : ∀ q, q ≠ p → W1.heap[q]? = W0.heap[q]? := fun q hq => by rw [← hW1]; exact Below.heap_setCell _ _ _ _ hq
  have hsz1 : W1.heap.size = W0.heap.size := by rw [← hW1]; simp
  have hos1 : W1.os = W0.os ∧ W1.tape = W0.tape ∧ W1.output = W0.output := by rw [← hW1]; exact ⟨rfl, rfl, rfl⟩
  have hg1 : W1.heap[w.heap.size]? = some (.cells #[.int .i64 0, .int .i64 0] 30 (0, 0)) := (hot1 _ (Ne.symm hpg)).trans hg0
  have hMFp : MF B ls p := .inr (.inr (mem_tps.2 ⟨l, hlm, _, htm, rfl⟩))
  have hMFF : ∀ q, l.F q → MF B ls q := fun q hq => .inr (.inl ⟨l, hlm, hq⟩)
  have hMFps : ∀ q, q ∈ l1.ps → MF B ls q := fun q hq => by
    rw [hps1, ← hps] at hq
    obtain ⟨u, k1, k2⟩ := List.mem_map.1 hq
    exact .inr (.inr (mem_tps.2 ⟨l, hlm, u, k1, k2⟩))
  have hMF1 : ∀ q, MF B (ls.set j l1) q → MF B ls q := fun q hq => by
    rcases MF.turn e2 hq with k | k | k
    · exact k
    · rw [hF1] at k; exact hMFF q k
    · exact hMFps q k
  have hfr1 : Fr (MF B ls) (MF B (ls.set j l1)) w W1 := ⟨hos1.1.trans hb0.os, hos1.2.1.trans hb0.tape, hos1.2.2.trans hb0.output, by have := hb0.size; omega, fun q hq hnq => (hot1 q fun e => hnq (e ▸ hMFp)).trans (hb0.block q hq), fun q hq => .inl (hMF1 q hq)⟩
  obtain ⟨d0, d1, d2, -⟩ := tk_cells (hM1.tk l1 hm1 ⟨p, id', cost', n' - 1⟩ (by rw [hts1]; exact List.mem_cons_self ..))
  by_cases hle : n' ≤ 1
  · rw [if_pos hle]
    have hd : decide (n' ≤ 1) = true := by simpa using hle
    rw [hd]
    have hen : (ls.set j l1).map Lf.en = ls.map Lf.en := map_set_same Lf.en ls j l l1 e2 (by rw [← hl1]; rfl)
    have hgt : ¬ n' - 1 > 0 := by omega
    have hk1 := run_look hM1.map l.nm
    rw [hen, hat] at hk1
    have hBp : p ≠ B := h0.t_ne_map hlm htm
    have hpF : ¬ l.F p := h0.t_ne_q hlm hlm htm
    have hBF : ¬ l.F B := fun k => h0.q_ne_map hlm k rfl
    have hgF : ¬ l.F w.heap.size := fun k => h0.not30 hg0 (hMFF _ k)
    have hBg : B ≠ w.heap.size := fun e => h0.not30 hg0 (e ▸ .inl rfl)
    have HPop : Hid (Calls Try.prog 70 #[.pointer (some ⟨l.q, 0, none⟩)] W1 fun e w' => e = .returned (.tuple #[.pointer (some ⟨p, 0, none⟩), .bool true]) ∧ ∃ F', PQ w' l.q F' 16 (r'.map Tk.p) ∧ Fr l.F F' W1 w') := by
      have k := hM1.qs l1 hm1
      rw [hq1, hF1, hps1] at k
      exact ipop_any l.q l.F 16 p (r'.map Tk.p) W1 k (by have h16 : l.ts.length ≤ 16 := by simpa using hlen
                                                         rw [hts] at h16
                                                         simp at h16 ⊢
                                                         omega)
    have HN : Hid (∀ (W2 : World) (F' : Nat → Prop), PQ W2 l.q F' 16 (r'.map Tk.p) → Fr l.F F' W1 W2 → MapAt W2 B (ls.map Lf.en) c ∧ W2.heap[p]? = W1.heap[p]? ∧ W2.heap[w.heap.size]? = W1.heap[w.heap.size]?) := fun W2 F' k1 k2 => by
      refine ⟨?_, k2.block p (hM1.lt p (.inr (.inr (mem_tps.2 ⟨l1, hm1, ⟨p, id', cost', n' - 1⟩, by rw [hts1]; exact List.mem_cons_self .., rfl⟩)))) hpF, k2.block _ (Array.getElem?_eq_some_iff.1 hg1).1 hgF⟩
      have := hM1.map
      rw [hen] at this
      exact (k2.block B (hM1.lt B (.inl rfl)) hBF).trans this
    have hrow1 := hM1.tk l1 hm1 ⟨p, id', cost', n' - 1⟩ (by rw [hts1]; exact List.mem_cons_self ..)
    have hnd1 : ((ls.set j l1).map Lf.nm).Nodup := hM1.nm
    have HE : Hid (∀ (W2 W3 : World) (F' : Nat → Prop), r' = [] → PQ W2 l.q F' 16 (r'.map Tk.p) → Fr l.F F' W1 W2 → W3 = { W2 with heap := W2.heap.setIfInBounds B (.map (ents ((ls.map Lf.en).eraseIdx j)).toArray c) } → Aft w W3 B (MF B ls) (upd (tsW · ls) l.nm (r'.map Tk.w)) ∧ TkAt W3 ⟨p, id', cost', n' - 1⟩) := fun W2 W3 F' hr k1 k2 k3 => by
      obtain ⟨m2, p2, g2⟩ := HN.out W2 F' k1 k2
      have hoth : ∀ q, q ≠ B → W3.heap[q]? = W2.heap[q]? := fun q hq => by rw [k3]; simp [Array.getElem?_setIfInBounds_ne (Ne.symm hq)]
      have hBlt : B < W2.heap.size := (Array.getElem?_eq_some_iff.1 m2).1
      have hm3 : MapAt W3 B (((ls.set j l1).eraseIdx j).map Lf.en) c := by
        rw [map_erase, hen]
        unfold MapAt
        rw [k3]
        simp [hBlt]
      have hos3 : W3.os = W2.os ∧ W3.tape = W2.tape ∧ W3.output = W2.output ∧ W3.heap.size = W2.heap.size := by rw [k3]; simp
      have hM3 : MR W3 B c ((ls.set j l1).eraseIdx j) := hM1.drop hj1 hm3 fun q hq hne hnF hnp => (hoth q hne).trans (k2.block q (hM1.lt q hq) (by rw [← hF1]; exact hnF))
      refine ⟨⟨⟨c, _, hM3, fun s => ?_, ⟨hos3.1.trans (k2.os.trans hfr1.os), hos3.2.1.trans (k2.tape.trans hfr1.tape), hos3.2.2.1.trans (k2.output.trans hfr1.output), by have := k2.size; have := hfr1.size; omega, fun q hq hnq => ?_, fun q hq => .inl (hMF1 q (MF.drop hq))⟩⟩, ?_⟩, ?_⟩
      · have e := lnF_erase (ls.set j l1) j l1 s hj1 hnd1
        rw [lnF_set ls j l l1 s e2 hn1 h1.nm, hn1] at e
        unfold tsW tsF upd
        rw [e, hr]
        by_cases hs : s = l.nm <;> simp [hs]
      · rw [hoth q fun e => hnq (e ▸ .inl rfl), k2.block q (by have := hfr1.size; omega) fun k => hnq (hMFF q k)]
        exact hfr1.block q hq hnq
      · rw [hoth _ (Ne.symm hBg), g2]
        exact hg1
      · show W3.heap[p]? = _
        rw [hoth p hBp, p2]
        exact hrow1
    have HL : Hid (∀ (W2 : World) (F' : Nat → Prop), r' ≠ [] → PQ W2 l.q F' 16 (r'.map Tk.p) → Fr l.F F' W1 W2 → Aft w W2 B (MF B ls) (upd (tsW · ls) l.nm (r'.map Tk.w)) ∧ TkAt W2 ⟨p, id', cost', n' - 1⟩) := fun W2 F' hr k1 k2 => by
      obtain ⟨m2, p2, g2⟩ := HN.out W2 F' k1 k2
      have hsub : ∀ u ∈ r', u ∈ l1.ts := fun u hu => by rw [hts1]; exact List.mem_cons_of_mem _ hu
      have hM2 : MR W2 B c ((ls.set j l1).set j ⟨l.nm, l.q, l.born, F', r'⟩) := by
        refine hM1.turn hj1 (by rw [← hl1]; rfl) k1 hr (fun u hu => ?_) (fun u hu => .inl (List.mem_map.2 ⟨u, hsub u hu, rfl⟩)) ?_ (fun q hq hnF hnp => k2.block q (hM1.lt q hq) (by rw [← hF1]; exact hnF)) (fun q hq => ?_)
        · have hu1 := hM1.tk l1 hm1 u (hsub u hu)
          have hu2 := hM1.t_ne_q hm1 hm1 (hsub u hu)
          rw [hF1] at hu2
          exact (k2.block u.p (Array.getElem?_eq_some_iff.1 hu1).1 hu2).trans hu1
        · have := hM1.tn l1 hm1
          rw [hps1, List.nodup_cons] at this
          exact this.2
        · rcases k2.grow q hq with k | k
          · exact .inl (by rw [hF1]; exact k)
          · exact .inr fun k' => by have := hM1.lt q k'; omega
      refine ⟨⟨⟨c, _, hM2, fun s => ?_, ⟨k2.os.trans hfr1.os, k2.tape.trans hfr1.tape, k2.output.trans hfr1.output, Nat.le_trans hfr1.size k2.size, fun q hq hnq => ?_, fun q hq => ?_⟩⟩, g2.trans hg1⟩, p2.trans hrow1⟩
      · rw [List.set_set, tsW_set (l' := ⟨l.nm, l.q, l.born, F', r'⟩) e2 rfl h1.nm s]
      · rw [k2.block q (by have := hfr1.size; omega) fun k => hnq (hMFF q k)]
        exact hfr1.block q hq hnq
      · rcases MF.turn hj1 hq with k | k | k
        · exact .inl (hMF1 q k)
        · rcases k2.grow q k with k' | k'
          · exact .inl (hMFF q k')
          · exact .inr (Nat.le_trans hfr1.size k')
        · exact .inl (hMFps q (by rw [hps1]; exact List.mem_cons_of_mem _ k))
    obtain ⟨J', hJ'⟩ : ∃ J', upd (tsW · ls) l.nm (r'.map Tk.w) = J' := ⟨_, rfl⟩
    rw [hJ'] at HE HL ⊢
    have hfE : fndE l.nm (ls.map Lf.en) 0 = some (j, l.q) := by rw [e1, Nat.zero_add]
    clear hJ' hd hle hfr1 hMF1 hMFps hMFF hMFp hg1 hos1 hsz1 hot1 hts1 hn1 hq1 hF1 hps1 hm1 hj1 hl1 hjl hM1 hpg htm h0 hg0 hb0 hps hlm hts htw hlen hJ e1 e2 hf h1 hrow1 hnd1 hen hBp hpF hBF hgF hBg
    go_enter Try.func39, Try.ntmps39
    go_upto_region 5 with (go_at_call 69; refine HP.out.mono ?_; rintro e w1 ⟨rfl, hw1⟩; rw [hw1]; clear hw1)
    clear hW0 hW1 c0 c1 c2 z2 hk0 HP
    go_upto_region 8 with (go_at_call 70; refine HPop.out.mono ?_; rintro e W2 ⟨rfl, HX⟩)
    clear d0 d1 d2 hk1 HPop
    obtain ⟨F', k1, k2⟩ := HX
    obtain ⟨m2, -, -⟩ := HN.out W2 F' k1 k2
    have HWt : Hid (Calls Try.prog 44 #[.map (some B), .string (tx l.nm)] W2 fun e w' => e = .returned (.int .i64 ((r'.map Tk.p).length : Int)) ∧ w' = W2) := mwait_at m2 l.nm hat k1
    rw [List.length_map] at HWt
    by_cases hr : r' = []
    · have hdel := run_del m2 hfE 0
      obtain ⟨W3, hW3⟩ : ∃ W, ({ W2 with heap := W2.heap.setIfInBounds B (.map (ents ((ls.map Lf.en).eraseIdx j)).toArray c) } : World) = W := ⟨_, rfl⟩
      rw [hW3] at hdel
      obtain ⟨hA, hT⟩ := HE.out W2 W3 F' hr k1 k2 hW3.symm
      have HF : Hid _ := hA.fill id' cost'
      obtain ⟨b0, b1, b2, b3⟩ := hA.cells
      obtain ⟨d0, d1, -, -⟩ := tk_cells hT
      have hlr : (r'.length : Int) = 0 := by rw [hr]; rfl
      rw [hlr] at HWt
      clear hA hT hW3 hlr hr HE HL HN k1 k2 m2 hfE hat
      go_wp2_with (go_at_call 44; refine HWt.out.mono ?_; rintro e w1 ⟨rfl, hw1⟩; rw [hw1]; clear hw1)
      exact bodyPost_ret (results_cell3 Try.results39 _ _ w.heap.size #[.int .i64 id', .int .i64 cost'] _ _ rfl rfl rfl (load30 HF.out.1 rfl)) rfl ⟨rfl, HF.out.2⟩
    · obtain ⟨hA, hT⟩ := HL.out W2 F' hr k1 k2
      have HF : Hid _ := hA.fill id' cost'
      obtain ⟨b0, b1, b2, b3⟩ := hA.cells
      obtain ⟨d0, d1, -, -⟩ := tk_cells hT
      have hlr : ¬ (r'.length : Int) = 0 := fun e => hr (List.eq_nil_of_length_eq_zero (by omega))
      generalize r'.length = nn at HWt hlr
      clear hA hT hr HE HL HN k1 k2 m2 hfE hat
      go_wp2_with (go_at_call 44; refine HWt.out.mono ?_; rintro e w1 ⟨rfl, hw1⟩; rw [hw1]; clear hw1)
      exact bodyPost_ret (results_cell3 Try.results39 _ _ w.heap.size #[.int .i64 id', .int .i64 cost'] _ _ rfl rfl rfl (load30 HF.out.1 rfl)) rfl ⟨rfl, HF.out.2⟩
  · have hA : Aft w W1 B (MF B ls) (upd (tsW · ls) l.nm ((id', cost', n' - 1) :: r'.map Tk.w)) := by
      refine ⟨⟨c, _, hM1, fun s => ?_, hfr1⟩, hg1⟩
      rw [tsW_set e2 hn1 h1.nm s, hts1]
      rfl
    have HF : Hid _ := hA.fill id' cost'
    obtain ⟨b0, b1, b2, b3⟩ := hA.cells
    have hgt : n' - 1 > 0 := by omega
    rw [if_neg hle]
    have hd : decide (n' ≤ 1) = false := by simpa using hle
    rw [hd]
    obtain ⟨J', hJ'⟩ : ∃ J', upd (tsW · ls) l.nm ((id', cost', n' - 1) :: r'.map Tk.w) = J' := ⟨_, rfl⟩
    rw [hJ'] at HF ⊢
    clear hA hJ' hd hle hfr1 hMF1 hMFps hMFF hMFp hg1 hos1 hsz1 hot1 hts1 hn1 hq1 hF1 hps1 hm1 hj1 hl1 hjl hM1 hpg htm hat h0 hg0 hb0 hps hlm hts htw hlen hJ e1 e2 hf h1
    go_enter Try.func39, Try.ntmps39
    go_upto_region 5 with (go_at_call 69; refine HP.out.mono ?_; rintro e w1 ⟨rfl, hw1⟩; rw [hw1]; clear hw1)
    clear hW0 hW1 c0 c1 c2 z2 hk0 HP
    go_wp2_with fail
    exact bodyPost_ret (results_cell3 Try.results39 _ _ w.heap.size #[.int .i64 id', .int .i64 cost'] _ _ rfl rfl rfl (load30 HF.out.1 rfl)) rfl ⟨rfl, HF.out.2⟩
end Go.Proofs.Ytkigagglkmdccaa
