/- The program's table: a copy. -/
import Derived.Test.YtpobfcmbbabchaaQe
namespace Go.Proofs.Ytpobfcmbbabchaa
open Go.RowKit Go.Lib
set_option linter.unusedVariables false
set_option linter.unusedSimpArgs false

/-- A copy that is under way: its first rows stand. -/
structure Cpy (w wr : World) (m : List (Nat × Bk)) (n k : Nat) (qs : List Nat) : Prop where
  bel : Below w.heap.size w wr
  res : wr.heap[w.heap.size]? = some (.cells #[.slice none 0 0] 56 (0, 0))
  out : wr.heap[w.heap.size + 1 + 1]? = some (.cells #[.slice (some ⟨w.heap.size + 1, 0, none⟩) n n] 56 (0, 0))
  row : ∃ cur, wr.heap[w.heap.size + 1]? = some (.cells cur 86 (0, 0)) ∧ cur.size = n ∧ ∀ (j q : Nat), qs[j]? = some q → cur[j]? = some (ptrV q)
  len : qs.length = k
  each : ∀ (j q : Nat) (x : Nat × Bk), qs[j]? = some q → m[j]? = some x → wr.heap[q]? = some (pkO x.2)
  new : ∀ q ∈ qs, w.heap.size + 3 ≤ q
  lt : ∀ q ∈ qs, q < wr.heap.size
  nd : qs.Nodup
  size : w.heap.size + 3 ≤ wr.heap.size
theorem bel_set {B g : Nat} {a b : World} (h : Below B a b) (hg : B ≤ g) (i : Nat) (v : Value) : Below B a (b.setCell ⟨g, i, none⟩ v) :=
  ⟨h.os, h.tape, h.output, by have := h.size; simpa using this, fun k hk => (Below.heap_setCell _ _ _ _ (show k ≠ g by omega)).trans (h.block k hk)⟩
theorem load56r {W : World} {g : Nat} {cs : Array Value} (h : W.heap[g]? = some (.cells cs 56 (0, 0))) (hs : cs.size = 1) : (loadVar 56 ⟨g, 0, none⟩).run Try.prog W = .ok (.agg cs) W :=
  run_loadVar_row W g 56 56 cs (0, 0) _ h Try.underlying56 rfl (by rw [hs]; kernel_rfl)
/-- A copy that stands. -/
structure Cpd (w w' : World) (m : List (Nat × Bk)) (n : Nat) (qs : List Nat) : Prop where
  bel : Below w.heap.size w w'
  ptrs : Ptrs w' (.slice (some ⟨w.heap.size + 1, 0, none⟩) n n) qs
  each : ∀ (j q : Nat) (x : Nat × Bk), qs[j]? = some q → m[j]? = some x → w'.heap[q]? = some (pkO x.2)
  len : qs.length = n
  new : ∀ q ∈ qs, w.heap.size ≤ q
  nd : qs.Nodup
theorem Cpy.done {w wr : World} {m : List (Nat × Bk)} {n : Nat} {qs : List Nat} {v : Value} (h : Cpy w wr m n n qs) (hn : n ≤ 16) : Cpd w (wr.setCell ⟨w.heap.size, 0, none⟩ v) m n qs ∧ (wr.setCell ⟨w.heap.size, 0, none⟩ v).heap[w.heap.size]? = some (.cells #[v] 56 (0, 0)) := by
  obtain ⟨cur, h1, h2, h3⟩ := h.row
  refine ⟨⟨(bel_set h.bel (Nat.le_refl _) _ _), ptrs_of ((Below.heap_setCell _ _ _ _ (show w.heap.size + 1 ≠ w.heap.size by omega)).trans h1) h.len (Nat.le_refl _) (by unfold maxLen; omega) h2 h3, fun j q x hq hx => (Below.heap_setCell _ _ _ _ (show q ≠ w.heap.size by have := h.new q (List.mem_of_getElem? hq); omega)).trans (h.each j q x hq hx), h.len, fun q hq => by have := h.new q hq; omega, h.nd⟩, row_set _ h.res⟩
theorem Cpy.next {w wr : World} {m : List (Nat × Bk)} {n k p : Nat} {b : Bk} {qs : List Nat} (h : Cpy w wr m n k qs) (hx : m[k]? = some (p, b)) (hk : k < n) : Cpy w ((wr.alloc (pkO b)).setCell ⟨w.heap.size + 1, k, none⟩ (ptrV wr.heap.size)) m n (k + 1) (qs ++ [wr.heap.size]) := by
  obtain ⟨cur, h1, h2, h3⟩ := h.row
  have hs := h.size
  have hb : Below wr.heap.size wr (wr.alloc (pkO b)) := bel1 wr _
  have h1' : (wr.alloc (pkO b)).heap[w.heap.size + 1]? = some (.cells cur 86 (0, 0)) := (hb.block _ (by omega)).trans h1
  have hsz : (wr.alloc (pkO b)).heap.size = wr.heap.size + 1 := by simp
  refine ⟨bel_set (h.bel.trans (hb.mono (by omega))) (show w.heap.size ≤ w.heap.size + 1 by omega) _ _, (Below.heap_setCell _ _ _ _ (show w.heap.size ≠ w.heap.size + 1 by omega)).trans ((hb.block _ (by omega)).trans h.res), (Below.heap_setCell _ _ _ _ (show w.heap.size + 1 + 1 ≠ w.heap.size + 1 by omega)).trans ((hb.block _ (by omega)).trans h.out), ⟨_, row_set _ h1', by simpa using h2, fun j q hq => ?_⟩, by simp [h.len], fun j q x hq hm => ?_, fun q hq => ?_, fun q hq => ?_, ?_, by simp; omega⟩
  · by_cases hj : j < k
    · rw [List.getElem?_append_left (by rw [h.len]; exact hj)] at hq
      rw [Array.getElem?_setIfInBounds_ne (by omega)]
      exact h3 j q hq
    · have hjl := (List.getElem?_eq_some_iff.1 hq).1
      have hl := h.len
      simp at hjl
      have e : j = k := by omega
      subst e
      rw [List.getElem?_append_right (by omega), hl, Nat.sub_self] at hq
      have : wr.heap.size = q := by simpa using hq
      subst this
      simp [h2, hk]
  · by_cases hj : j < k
    · rw [List.getElem?_append_left (by rw [h.len]; exact hj)] at hq
      have hm2 := List.mem_of_getElem? hq
      have g1 := h.new q hm2
      have g2 := h.lt q hm2
      rw [Below.heap_setCell _ _ _ _ (show q ≠ w.heap.size + 1 by omega), hb.block q (by omega)]
      exact h.each j q x hq hm
    · have hjl := (List.getElem?_eq_some_iff.1 hq).1
      have hl := h.len
      simp at hjl
      have e : j = k := by omega
      subst e
      rw [List.getElem?_append_right (by omega), hl, Nat.sub_self] at hq
      have e2 : wr.heap.size = q := by simpa using hq
      subst e2
      rw [hx] at hm
      have e3 := Option.some.inj hm
      subst e3
      rw [Below.heap_setCell _ _ _ _ (show wr.heap.size ≠ w.heap.size + 1 by omega)]
      exact heap_alloc_new _ _
  · rcases List.mem_append.1 hq with hq | hq
    · exact h.new q hq
    · simp at hq; omega
  · show q < ((wr.alloc (pkO b)).setCell _ _).heap.size
    rw [show ((wr.alloc (pkO b)).setCell ⟨w.heap.size + 1, k, none⟩ (ptrV wr.heap.size)).heap.size = wr.heap.size + 1 by simp]
    rcases List.mem_append.1 hq with hq | hq
    · have := h.lt q hq; omega
    · simp at hq; omega
  · rw [List.nodup_append]
    refine ⟨h.nd, by simp, fun a ha c hc => ?_⟩
    simp at hc
    have := h.lt a ha
    omega
theorem Cpy.drew {w wr : World} {m : List (Nat × Bk)} {n k : Nat} {qs : List Nat} (h : Cpy w wr m n k qs) : Cpy w wr.drew m n k qs := ⟨h.bel.drew, h.res, h.out, h.row, h.len, h.each, h.new, h.lt, h.nd, h.size⟩
set_option maxRecDepth 20000 in
set_option maxHeartbeats 4000000 in
theorem rcopy_any (T : Nat) (sv : Value) (m : List (Nat × Bk)) (w : World) (h : PR w T sv m) (hl : m.length ≤ 16) :
    Calls Try.prog 38 #[.pointer (some ⟨T, 0, none⟩)] w fun e w' => e = .returned (.agg #[.slice (some ⟨w.heap.size + 1, 0, none⟩) m.length m.length]) ∧ ∃ qs, Cpd w w' m m.length qs := by
  have HP : Hid (PR w T sv m) := h
  obtain ⟨sa, cap, hsv⟩ := own_slice h.row
  have hlen : (pts m).length = m.length := by simp [pts]
  rw [hlen] at hsv
  have c0 := h.cell
  rw [hsv] at c0
  have hT := h.lt T (.inl rfl)
  have hTne : ¬ T = w.heap.size := by omega
  have hl' : (m.length : Int) ≤ 16 := by omega
  have HSV : Hid (sv = .slice sa m.length cap) := hsv
  obtain ⟨n, hn⟩ : ∃ n, m.length = n := ⟨_, rfl⟩
  have HN : Hid (m.length = n) := hn
  rw [hn] at c0 hl' HSV hl ⊢
  obtain ⟨ROW, hRs, HMK⟩ : ∃ ROW : Array Value, ROW.size = n ∧ Hid (∀ W : World, (Instr.makeSlice 54 (.int .i64 (n : Int)) (.int .i64 (n : Int))).run Try.prog W = .ok (.slice (some ⟨W.heap.size, 0, none⟩) n n) (W.alloc (.cells ROW 86))) := by
    obtain ⟨i0, hi0, hz0, hz1, hz2⟩ := info_parts info86
    refine ⟨madeCells (Value.pointer none).cells n, size_madeCells _ _, fun W => ?_⟩
    have := run_make (P := Try.prog) W 54 86 i0 _ Try.underlying54 hi0 hz0 .i64 .i64 n n (by omega) (Int.le_refl _) (by rw [hz2]; omega) (by omega)
    rw [hz1] at this
    simpa using this
  have hmk := HMK.out (w.alloc (.cells #[.slice none 0 0] 56))
  rw [show (w.alloc (.cells #[.slice none 0 0] 56)).heap.size = w.heap.size + 1 by simp] at hmk
  have HRS : Hid (ROW.size = n) := hRs
  have HC0 : Hid (Cpy w (((w.alloc (.cells #[.slice none 0 0] 56)).alloc (.cells ROW 86)).alloc (.cells #[.slice (some ⟨w.heap.size + 1, 0, none⟩) n n] 56)) m n 0 []) := by
    have e1 : (w.alloc (.cells #[.slice none 0 0] 56)).heap.size = w.heap.size + 1 := by simp
    have e2 : ((w.alloc (.cells #[.slice none 0 0] 56)).alloc (.cells ROW 86)).heap.size = w.heap.size + 1 + 1 := by simp
    refine ⟨((bel1 w _).alloc (by simp) _).alloc (by simp; omega) _, ?_, ?_, ⟨ROW, ?_, hRs, fun j q hq => by simp at hq⟩, rfl, fun j q x hq => by simp at hq, fun q hq => by simp at hq, fun q hq => by simp at hq, List.Pairwise.nil, by simp⟩
    · rw [Below.heap_alloc _ _ _ (by rw [e2]; omega), Below.heap_alloc _ _ _ (by rw [e1]; omega)]
      exact heap_alloc_new w _
    · have := heap_alloc_new ((w.alloc (.cells #[.slice none 0 0] 56)).alloc (.cells ROW 86)) (.cells #[.slice (some ⟨w.heap.size + 1, 0, none⟩) n n] 56)
      rwa [e2] at this
    · rw [Below.heap_alloc _ _ _ (by rw [e2]; omega)]
      have := heap_alloc_new (w.alloc (.cells #[.slice none 0 0] 56)) (.cells ROW 86)
      rwa [e1] at this
  have c3 : (((w.alloc (.cells #[.slice none 0 0] 56)).alloc (.cells ROW 86)).alloc (.cells #[.slice (some ⟨w.heap.size + 1, 0, none⟩) n n] 56)).cell? ⟨T, 0, none⟩ = some (.slice sa n cap) := by
    rw [World.cell?_of_block (HC0.out.bel.block T hT)]
    exact c0
  clear h hsv hlen hn HMK hRs
  go_enter Try.func38, Try.ntmps38
  go_wp2_with fail
  generalize (((w.alloc (.cells #[.slice none 0 0] 56)).alloc (.cells ROW 86)).alloc (.cells #[.slice (some ⟨w.heap.size + 1, 0, none⟩) n n] 56)) = W0 at HC0 c3 ⊢
  clear hmk HRS c3 c0
  go_loopw [18] (fun v wr => ∃ (k : Nat) (qs : List Nat), k ≤ n ∧ v = .int .i64 k ∧ Hid (Cpy w wr m n k qs)) (fun v wr => n - (RowKit.intOf v).toNat)
  case atStart => exact ⟨0, [], Nat.zero_le _, rfl, HC0⟩
  case round =>
    obtain ⟨k, qs, hk, rfl, HC⟩ := hrel
    by_cases hlt : k < n
    · have hlt' : (k : Int) < (n : Int) := by omega
      obtain ⟨⟨p, b⟩, hx⟩ : ∃ x, m[k]? = some x := ⟨_, List.getElem?_eq_getElem (by rw [HN.out]; omega)⟩
      have HX : Hid (m[k]? = some (p, b)) := hx
      obtain ⟨g, cp, hv⟩ := own_form HP.out.row (by have := HN.out; simp [pts]; omega)
      rw [HSV.out] at hv
      have hsa : sa = some ⟨g, 0, none⟩ := (Value.slice.inj hv).1
      subst hsa
      have hlen : (pts m).length = n := by simp [pts, HN.out]
      have hrow : Ptrs w (.slice (some ⟨g, 0, none⟩) (pts m).length cap) (pts m) := by rw [hlen, ← HSV.out]; exact HP.out.row
      have hgl : g < w.heap.size := (HP.out.lt g (.inr (.inl (by rw [HSV.out]; rfl))))
      have hcap : (n : Int) ≤ (cap : Int) := by have := own_cap hrow; omega
      have e1 : wr.cell? ⟨g, k, none⟩ = some (.pointer (some ⟨p, 0, none⟩)) := by rw [World.cell?_of_block (HC.out.bel.block g hgl)]; exact hrow.cell (pts_at HX.out)
      have hp0 : w.heap[p]? = some (pkO b) := HP.out.each p b (List.mem_of_getElem? HX.out)
      have hp1 : wr.heap[p]? = some (pkO b) := (HC.out.bel.block p (Array.getElem?_eq_some_iff.1 hp0).1).trans hp0
      obtain ⟨r0, r1, r2, r3, r4, r5, r6, r7⟩ := row8_cells hp1
      have d0 : wr.cell? ⟨w.heap.size + 1 + 1, 0, none⟩ = some (.slice (some ⟨w.heap.size + 1, 0, none⟩) n n) := by rw [cell_of_row _ _ _ _ _ _ HC.out.out]; rfl
      obtain ⟨v0, d2⟩ : ∃ v0, wr.cell? ⟨w.heap.size + 1, k, none⟩ = some v0 := by
        obtain ⟨cur, h1, h2, h3⟩ := HC.out.row
        exact ⟨_, by rw [cell_of_row _ _ _ _ _ _ h1]; exact Array.getElem?_eq_getElem (by omega)⟩
      have f2 : wr.frozen? ⟨w.heap.size + 1, k, none⟩ = false := by
        obtain ⟨cur, h1, h2, h3⟩ := HC.out.row
        simp [World.frozen?, h1]
      have hws : w.heap.size + 1 < wr.heap.size := by have := HC.out.size; omega
      have hpw : p < wr.heap.size := (Array.getElem?_eq_some_iff.1 hp1).1
      have hws2 : w.heap.size + 1 + 1 < wr.heap.size := by have := HC.out.size; omega
      have HNX : Hid (Cpy w (((wr.setCell ⟨w.heap.size + 1, k, none⟩ (ptrV wr.heap.size)).alloc (pkO b)).drew) m n (k + 1) (qs ++ [wr.heap.size])) := by
        have := HC.out.next HX.out hlt
        rw [World.setCell_alloc_past _ _ _ _ hws] at this
        exact this.drew
      clear hx hv hlen hrow hgl hp0 hp1 HC0
      go_wp2_with fail
      go_region
      all_goals
        go_wp2_with fail
        go_roundw
        case rel => exact ⟨k + 1, _, by omega, by go_num, HNX⟩
        case measure => simp [RowKit.intOf]; omega
    · obtain rfl : k = n := by omega
      have hnl : ¬ (k : Int) < (k : Int) := by omega
      obtain ⟨d0, d1⟩ : wr.cell? ⟨w.heap.size + 1 + 1, 0, none⟩ = some (.slice (some ⟨w.heap.size + 1, 0, none⟩) k k) ∧ wr.cell? ⟨w.heap.size, 0, none⟩ = some (.slice none 0 0) := ⟨by rw [cell_of_row _ _ _ _ _ _ HC.out.out]; rfl, by rw [cell_of_row _ _ _ _ _ _ HC.out.res]; rfl⟩
      have f0 : wr.frozen? ⟨w.heap.size, 0, none⟩ = false := by simp [World.frozen?, HC.out.res]
      go_wp2_with fail
      obtain ⟨hd1, hd2⟩ := HC.out.done (v := .slice (some ⟨w.heap.size + 1, 0, none⟩) k k) hl
      refine bodyPost_ret (v := .agg #[.slice (some ⟨w.heap.size + 1, 0, none⟩) k k]) (results_one Try.results38 _ _ w.heap.size _ rfl (load56r hd2 rfl)) rfl ⟨rfl, _, hd1⟩
theorem list_zip {m : List (Nat × Bk)} {qs : List Nat} (h : qs.length = m.length) : ∃ m' : List (Nat × Bk), pts m' = qs ∧ bks m' = bks m ∧ nms m' = nms m ∧ ∀ q b, (q, b) ∈ m' → ∃ (j : Nat) (x : Nat × Bk), qs[j]? = some q ∧ m[j]? = some x ∧ x.2 = b := by
  refine ⟨(qs.zip (bks m)), ?_, ?_, ?_, fun q b hq => ?_⟩
  · unfold pts
    exact List.map_fst_zip (by simp [bks, h])
  · unfold bks
    exact List.map_snd_zip (by simp [h])
  · have : bks (qs.zip (bks m)) = bks m := by unfold bks; exact List.map_snd_zip (by simp [h])
    have h2 : nms (qs.zip (bks m)) = (bks (qs.zip (bks m))).map (fun b => b.nm) := by unfold nms bks; rw [List.map_map]; rfl
    rw [h2, this]
    unfold nms bks
    rw [List.map_map]
    rfl
  · obtain ⟨j, hj⟩ := List.getElem?_of_mem hq
    rw [List.getElem?_zip_eq_some] at hj
    obtain ⟨h1, h2⟩ := hj
    unfold bks at h2
    rw [List.getElem?_map] at h2
    cases hx : m[j]? with
    | none => rw [hx] at h2; cases h2
    | some x =>
      rw [hx] at h2
      exact ⟨j, x, h1, hx, by simpa using h2⟩
set_option maxRecDepth 20000 in
set_option maxHeartbeats 4000000 in
theorem copy_any (N : Int) (T : Nat) (F : Nat → Prop) (l : List Bk) (w : World) (h : PF w T F l) (ht : Tok N l) (hN : N ≤ 1000000) :
    Calls Try.prog 18 #[.pointer (some ⟨T, 0, none⟩)] w fun e w' => ∃ U FU, e = .returned (.pointer (some ⟨U, 0, none⟩)) ∧ PF w' U FU l ∧ (∀ q, FU q → w.heap.size ≤ q) ∧ Below w.heap.size w w' := by
  obtain ⟨sv, m, h1, h2, h3⟩ := h
  have hlen : m.length = l.length := by have := h2.length_eq; unfold bks at this; rwa [List.length_map] at this
  have HC : Hid (∀ W, W = w → Calls Try.prog 38 #[.pointer (some ⟨T, 0, none⟩)] W fun e w' => e = .returned (.agg #[.slice (some ⟨W.heap.size + 1, 0, none⟩) m.length m.length]) ∧ ∃ qs, Cpd W w' m m.length qs) := fun W e => by
    subst e
    exact rcopy_any T sv m W h1 (by have := ht.len; omega)
  have HU : Hid (Up (nms m) ∧ (bks m).Perm l) := ⟨h1.up, h2⟩
  generalize hn : m.length = n at *
  have HL : Hid (m.length = n) := hn
  clear h1 h2 h3 hlen ht hn
  go_enter Try.func18, Try.ntmps18
  go_wp2_with (go_at_call 38; refine (HC.out _ rfl).mono ?_; rintro e w1 ⟨rfl, hE⟩; (have HE : Hid (∃ qs, Cpd w w1 m n qs) := hE); clear hE)
  go_ret
  obtain ⟨qs, hq⟩ := HE.out
  obtain ⟨m', e1, e2, e3, e4⟩ := list_zip (m := m) (qs := qs) (by rw [hq.len, HL.out])
  have hb := bel1 w1 (.cells #[.slice (some ⟨w.heap.size + 1, 0, none⟩) n n] 58)
  have hsz := hq.bel.size
  refine ⟨w1.heap.size, foot w1.heap.size (.slice (some ⟨w.heap.size + 1, 0, none⟩) n n) m', rfl, ⟨_, m', ⟨heap_alloc_new _ _, ?_, fun q b hqb => ?_, by rw [e3]; exact HU.out.1, by rw [e1]; exact hq.nd⟩, by rw [e2]; exact HU.out.2, fun q => Iff.rfl⟩, ?_, hq.bel.trans (hb.mono hsz)⟩
  · rw [e1]
    exact own_at hq.ptrs fun q hqq => hb.block q (hq.ptrs.lt q hqq).2
  · obtain ⟨j, x, g1, g2, rfl⟩ := e4 q b hqb
    have := hq.each j q x g1 g2
    rw [hb.block q (Array.getElem?_eq_some_iff.1 this).1]
    exact this
  · rintro q (rfl | hqq | hqq)
    · exact hsz
    · have : w.heap.size + 1 = q := by simpa [Value.ownBlock] using hqq
      omega
    · rw [e1] at hqq
      exact hq.new q hqq
end Go.Proofs.Ytpobfcmbbabchaa
