/- The jobs in fixed turns: turns.push. -/
import Derived.Test.YtkigagglkmdccaaMd
namespace Go.Proofs.Ytkigagglkmdccaa
open Go.RowKit
set_option linter.unusedVariables false
set_option linter.unusedSimpArgs false

/-- The first job of a name, behind the map's new entry. -/
theorem push_new {w : World} {B c : Nat} {ls : List Lf} (h : MR w B c ls) (s : List UInt8) (hs : lnF s ls = none) (id cost : Int) (W : World) (Q : Nat) (FQ : Nat → Prop) (x : Nat) (hQ : PQ W Q FQ 16 []) (hFQ : ∀ q, FQ q → w.heap.size ≤ q) (hmap : MapAt W B (ls.map Lf.en ++ [⟨s, Q, c⟩]) (c + 1))
    (hos : W.os = w.os) (htp : W.tape = w.tape) (hou : W.output = w.output) (hsz : w.heap.size ≤ W.heap.size) (hk : ∀ q, q < w.heap.size → q ≠ B → W.heap[q]? = w.heap[q]?) (hx : w.heap.size ≤ x) (ht : TkAt W ⟨x, id, cost, cost⟩) :
    Calls Try.prog 68 #[.pointer (some ⟨Q, 0, none⟩), .pointer (some ⟨x, 0, none⟩)] W fun e w' => e = .returned (.int .i64 0) ∧ ∃ F', MP w' B F' (upd (tsW · ls) s [(id, cost, cost)]) ∧ Fr (MF B ls) F' w w' := by
  have hxw : x < W.heap.size := (Array.getElem?_eq_some_iff.1 ht).1
  have hBw : B < w.heap.size := h.lt B (.inl rfl)
  have hnx : ¬ MF B ls x := fun k => by have := h.lt x k; omega
  have hnF : ¬ FQ x := fun k => by
    obtain ⟨cs, ty, k1, hty⟩ := hQ.kind k
    unfold TkAt at ht
    rw [show (⟨x, id, cost, cost⟩ : Tk).p = x from rfl, k1] at ht
    rcases hty with rfl | rfl <;> cases ht
  refine (ipush_any Q FQ 16 [] x W hQ (by simp) (by simp)).mono ?_
  rintro e w' ⟨rfl, F', k1, k2⟩
  have hF' : ∀ q, F' q → w.heap.size ≤ q := fun q hq => by
    rcases k2.grow q hq with h' | h'
    · exact hFQ q h'
    · omega
  have hkk : ∀ q, q < w.heap.size → w'.heap[q]? = W.heap[q]? := fun q hq => k2.block q (by omega) fun k => by have := hFQ q k; omega
  have hn : (⟨s, Q, c, F', [⟨x, id, cost, cost⟩]⟩ : Lf).nm ∉ ls.map Lf.nm := lnF_nmem hs
  refine ⟨rfl, MF B (ls ++ [⟨s, Q, c, F', [⟨x, id, cost, cost⟩]⟩]), ⟨c + 1, ls ++ [⟨s, Q, c, F', [⟨x, id, cost, cost⟩]⟩], ?_, ?_, fun q => Iff.rfl⟩, ?_⟩
  · refine h.add hn ?_ k1 (by simp) (fun t htm => ?_) (by simp [Lf.ps]) (fun q hq hne => (hkk q (h.lt q hq)).trans (hk q (h.lt q hq) hne)) (fun q hq k => ?_) (fun q hq k => ?_)
    · rw [List.map_append]
      unfold MapAt
      rw [hkk B hBw]
      exact hmap
    · rw [List.mem_singleton.1 htm]
      exact (k2.block x hxw hnF).trans ht
    · have := h.lt q k
      have := hF' q hq
      omega
    · have : q = x := by simpa [Lf.ps] using hq
      exact hnx (this ▸ k)
  · intro s'
    unfold upd tsW tsF
    rw [lnF_add ls _ s' hn]
    by_cases e : s' = s <;> simp [e, Tk.w]
  · refine ⟨k2.os.trans hos, k2.tape.trans htp, k2.output.trans hou, Nat.le_trans hsz k2.size, fun q hq hnq => (hkk q hq).trans (hk q hq fun e => hnq (.inl e)), fun q hq => ?_⟩
    rcases hq with rfl | ⟨m, hm, hq⟩ | hq
    · exact .inl (.inl rfl)
    · rcases List.mem_append.1 hm with k | k
      · exact .inl (.inr (.inl ⟨m, k, hq⟩))
      · rw [List.mem_singleton.1 k] at hq
        exact .inr (hF' q hq)
    · obtain ⟨m, hm, t, ht, rfl⟩ := mem_tps.1 hq
      rcases List.mem_append.1 hm with k | k
      · exact .inl (.inr (.inr (mem_tps.2 ⟨m, k, t, ht, rfl⟩)))
      · rw [List.mem_singleton.1 k] at ht
        rw [List.mem_singleton.1 ht]
        exact .inr hx
/-- How a push ends. -/
def pushJ (J : List UInt8 → List Wn) (s : List UInt8) (id cost : Int) : Int × (List UInt8 → List Wn) :=
  if 16 ≤ (J s).length then (200, J) else (0, upd J s (J s ++ [(id, cost, cost)]))
theorem upd_same (J : List UInt8 → List Wn) (s : List UInt8) : upd J s (J s) = J := by
  funext s'
  unfold upd
  by_cases e : s' = s <;> simp [e]
set_option maxRecDepth 20000 in
set_option maxHeartbeats 4000000 in
theorem mpush_any {w : World} {B : Nat} {F : Nat → Prop} {J : List UInt8 → List Wn} (h : MP w B F J) (s : List UInt8) (id cost : Int) (hJ : (J s).length ≤ 16) :
    Calls Try.prog 38 #[.map (some B), .string (tx s), .agg #[.int .i64 id, .int .i64 cost]] w fun e w' => e = .returned (.int .i64 (pushJ J s id cost).1) ∧ ∃ F', MP w' B F' (pushJ J s id cost).2 ∧ Fr F F' w w' := by
  obtain ⟨c, ls, h1, h2, h3⟩ := h
  have hJe : J = (tsW · ls) := funext fun s => (h2 s).symm
  have hFe : F = MF B ls := funext fun q => propext (h3 q)
  subst hJe hFe
  clear h2 h3
  obtain ⟨W0, hW0⟩ : ∃ W, w.alloc (.cells #[.int .i64 id, .int .i64 cost] 30) = W := ⟨_, rfl⟩
  have hb0 : Below w.heap.size w W0 := by rw [← hW0]; exact bel1' _ _
  have h0 : MR W0 B c ls := h1.at' fun q hq => hb0.block q (h1.lt q hq)
  have hg : W0.heap[w.heap.size]? = some (.cells #[.int .i64 id, .int .i64 cost] 30 (0, 0)) := by rw [← hW0]; exact heap_alloc_new _ _
  have hs0 : W0.heap.size = w.heap.size + 1 := by rw [← hW0]; simp
  have hk0 := run_look h0.map s
  cases hf : lnF s ls with
  | some l =>
    obtain ⟨j, e1, e2, e3⟩ := fndE_some ls 0 hf
    have hat : atE s (ls.map Lf.en) = .pointer (some ⟨l.q, 0, none⟩) := by unfold atE; rw [e1]
    rw [hat] at hk0
    have hts : (tsW s ls) = l.ts.map Tk.w := by unfold tsW tsF; rw [hf]; rfl
    have hlen : l.ts.length ≤ 16 := by have := hJ; simp only [hts, List.length_map] at this; exact this
    have HC0 : (Calls Try.prog 68 #[.pointer (some ⟨l.q, 0, none⟩), .pointer (some ⟨W0.heap.size, 0, none⟩)] (W0.alloc (.cells #[.int .i64 id, .int .i64 cost, .int .i64 cost] 114)) fun e w' => e = .returned (.int .i64 (pushJ (tsW · ls) s id cost).1) ∧ ∃ F', MP w' B F' (pushJ (tsW · ls) s id cost).2 ∧ Fr (MF B ls) F' w w') := by
      have := push_old h1 e2 hlen id cost (W0.alloc (.cells #[.int .i64 id, .int .i64 cost, .int .i64 cost] 114)) W0.heap.size (hb0.alloc hb0.size _) hb0.size (heap_alloc_new _ _)
      refine this.mono ?_
      rintro e w' ⟨k1, k2⟩
      unfold pushJ
      simp only [hts, List.length_map]
      by_cases hfu : 16 ≤ l.ts.length
      · rw [if_pos hfu] at k1 k2 ⊢
        refine ⟨k1, ?_⟩
        have hu := upd_same (tsW · ls) s
        simp only [hts] at hu
        rw [e3, hu] at k2
        exact k2
      · rw [if_neg hfu] at k1 k2 ⊢
        refine ⟨k1, ?_⟩
        rw [e3] at k2
        exact k2
    have HC : Hid (Calls Try.prog 68 #[.pointer (some ⟨l.q, 0, none⟩), .pointer (some ⟨W0.heap.size, 0, none⟩)] (W0.alloc (.cells #[.int .i64 id, .int .i64 cost, .int .i64 cost] 114)) fun e w' => e = .returned (.int .i64 (pushJ (tsW · ls) s id cost).1) ∧ ∃ F', MP w' B F' (pushJ (tsW · ls) s id cost).2 ∧ Fr (MF B ls) F' w w') := HC0
    clear HC0
    obtain ⟨r, hr⟩ : ∃ r, pushJ (tsW · ls) s id cost = r := ⟨_, rfl⟩
    rw [hr] at HC ⊢
    clear hr hf e1 e2 e3 hat hts hlen hJ h1 h0 hb0 hs0
    have c0 : W0.cell? ⟨w.heap.size, 0, none⟩ = some (.int .i64 id) := by rw [cell_of_row _ _ _ _ _ _ hg]; rfl
    have c1 : W0.cell? ⟨w.heap.size, 1, none⟩ = some (.int .i64 cost) := by rw [cell_of_row _ _ _ _ _ _ hg]; rfl
    go_enter Try.func38, Try.ntmps38
    go_upto_region 1 with fail
    clear hW0
    go_wp2_with (go_at_call 68; refine HC.out.mono ?_; rintro e w1 ⟨rfl, HP⟩)
    go_ret
    exact ⟨rfl, HP⟩
  | none =>
    have hat : atE s (ls.map Lf.en) = .pointer none := by unfold atE; rw [fndE_none ls 0 hf]
    rw [hat] at hk0
    have hts : (tsW s ls) = [] := by unfold tsW tsF; rw [hf]; rfl
    have hr : pushJ (tsW · ls) s id cost = (0, upd (tsW · ls) s [(id, cost, cost)]) := by unfold pushJ; simp [hts]
    rw [hr]
    clear hr hts hat hJ
    have HM : Hid (MR w B c ls) := h1
    have H0 : Hid (MR W0 B c ls) := h0
    have HG : Hid (Below w.heap.size w W0 ∧ W0.heap[w.heap.size]? = some (.cells #[.int .i64 id, .int .i64 cost] 30 (0, 0)) ∧ W0.heap.size = w.heap.size + 1) := ⟨hb0, hg, hs0⟩
    clear h1 h0 hb0 hg hs0
    go_enter Try.func38, Try.ntmps38
    go_upto_region 4 with (go_at_call 67; refine (inew 16 W0 (by omega)).mono ?_; rintro e w1 ⟨Q, FQ, rfl, HQ⟩)
    clear hW0 hk0
    obtain ⟨hQ, hFQ, hb1⟩ := HQ
    obtain ⟨hb0, hg, hs0⟩ := HG.out
    have hm1 : MapAt w1 B (ls.map Lf.en) c := (hb1.block B (H0.out.lt B (.inl rfl))).trans H0.out.map
    have hput := run_put_new hm1 (fndE_none ls 0 hf) Q
    have hBlt : B < w1.heap.size := (Array.getElem?_eq_some_iff.1 hm1).1
    have hBw : B < w.heap.size := HM.out.lt B (.inl rfl)
    obtain ⟨W2, hW2⟩ : ∃ W, ({ w1 with heap := w1.heap.setIfInBounds B (.map (ents (ls.map Lf.en ++ [⟨s, Q, c⟩])).toArray (c + 1)) } : World) = W := ⟨_, rfl⟩
    rw [hW2] at hput
    have hoth : ∀ q, q ≠ B → W2.heap[q]? = w1.heap[q]? := fun q hq => by rw [← hW2]; simp [Array.getElem?_setIfInBounds_ne (Ne.symm hq)]
    have hmp : MapAt W2 B (ls.map Lf.en ++ [⟨s, Q, c⟩]) (c + 1) := by unfold MapAt; rw [← hW2]; simp [hBlt]
    have hsz2 : W2.heap.size = w1.heap.size := by rw [← hW2]; simp
    have hos : W2.os = w1.os ∧ W2.tape = w1.tape ∧ W2.output = w1.output := by rw [← hW2]; exact ⟨rfl, rfl, rfl⟩
    have hs1 := hb1.size
    have hg2 : W2.heap[w.heap.size]? = some (.cells #[.int .i64 id, .int .i64 cost] 30 (0, 0)) := by rw [hoth _ (by omega), hb1.block _ (by omega)]; exact hg
    have HC : Hid (Calls Try.prog 68 #[.pointer (some ⟨Q, 0, none⟩), .pointer (some ⟨W2.heap.size, 0, none⟩)] (W2.alloc (.cells #[.int .i64 id, .int .i64 cost, .int .i64 cost] 114)) fun e w' => e = .returned (.int .i64 0) ∧ ∃ F', MP w' B F' (upd (tsW · ls) s [(id, cost, cost)]) ∧ Fr (MF B ls) F' w w') := by
      have hal : ∀ q, q < W2.heap.size → (W2.alloc (.cells #[.int .i64 id, .int .i64 cost, .int .i64 cost] 114)).heap[q]? = W2.heap[q]? := fun q hq => Below.heap_alloc _ _ _ hq
      refine push_new HM.out s hf id cost _ Q FQ W2.heap.size (hQ.at' fun q hq => ?_) (fun q hq => by have := hFQ q hq; omega) ((hal B (by omega)).trans hmp) (hos.1.trans (hb1.os.trans hb0.os)) (hos.2.1.trans (hb1.tape.trans hb0.tape)) (hos.2.2.trans (hb1.output.trans hb0.output)) (by simp; omega) (fun q hq hne => ?_) (by omega) (heap_alloc_new _ _)
      · have := hFQ q hq
        have := hQ.lt q hq
        rw [hal q (by omega), hoth q (by omega)]
      · rw [hal q (by omega), hoth q hne, hb1.block q (by omega), hb0.block q hq]
    have c0 : W2.cell? ⟨w.heap.size, 0, none⟩ = some (.int .i64 id) := by rw [cell_of_row _ _ _ _ _ _ hg2]; rfl
    have c1 : W2.cell? ⟨w.heap.size, 1, none⟩ = some (.int .i64 cost) := by rw [cell_of_row _ _ _ _ _ _ hg2]; rfl
    clear HM H0 HG hQ hFQ hb1 hb0 hg hs0 hm1 hBlt hBw hW2 hoth hmp hsz2 hos hs1 hg2 hf
    go_wp2_with (go_at_call 68; refine HC.out.mono ?_; rintro e w3 ⟨rfl, HP⟩)
    go_ret
    exact ⟨rfl, HP⟩
end Go.Proofs.Ytkigagglkmdccaa
