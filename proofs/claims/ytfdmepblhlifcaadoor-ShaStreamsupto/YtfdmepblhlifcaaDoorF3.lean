/- A state's bytes, by the definition. -/
import Derived.Test.YtfdmepblhlifcaaDoorA6
namespace Go.Proofs.YtfdmepblhlifcaaDoor
open Go.RowKit
set_option linter.unusedVariables false
set_option linter.unusedSimpArgs false

theorem set1_u8 {w : World} {g j : Nat} {ty : TypeId} {P R : List Int} {a A : Int} (hj : P.length = j) (h : w.heap[g]? = some (.cells (u8s (P ++ a :: R)) ty (0, 0))) :
    (w.setCell ⟨g, j, none⟩ (.int .u8 A)).heap[g]? = some (.cells (u8s (P ++ A :: R)) ty (0, 0)) := by
  subst hj
  have h0 := heap_setCell_same _ _ P.length _ _ (.int .u8 A) h
  rw [set_u8s, List.set_append_right _ _ (by omega)] at h0
  simp only [Nat.sub_self, List.set_cons_zero] at h0
  exact h0
theorem bytes_at (s : List Int) : ∀ j m, j < s.length → m < 4 → (bytesI s).getD (4 * j + m) 0 = s.getD j 0 / 2 ^ (24 - 8 * m) % 256 := by
  induction s with
  | nil => intro j m hj; simp at hj
  | cons x s ih =>
    intro j m hj hm
    have e : bytesI (x :: s) = x / 16777216 % 256 :: x / 65536 % 256 :: x / 256 % 256 :: x % 256 :: bytesI s := rfl
    rw [e]
    match j with
    | 0 =>
      have : m = 0 ∨ m = 1 ∨ m = 2 ∨ m = 3 := by omega
      rcases this with rfl | rfl | rfl | rfl <;> simp
    | j + 1 =>
      have h := ih j m (by simpa using hj) hm
      rw [show 4 * (j + 1) + m = (4 * j + m) + 1 + 1 + 1 + 1 by omega]
      simpa using h

set_option maxRecDepth 20000 in
set_option maxHeartbeats 4000000 in
theorem rbytes_any (s : List Int) (w : World) (hs : s.length = 8) (hw : W32 s) :
    Calls Tryd.prog 33 #[.agg (u32s s)] w fun e w' => e = .returned (.agg (u8s (bytesI s))) ∧ Below w.heap.size w w' := by
  have HS : Hid (s.length = 8) := hs
  have HW : Hid (W32 s) := hw
  have HBL : Hid ((bytesI s).length = 32) := by show _ = _; rw [bytes_len, hs]
  clear hs hw
  go_enter Tryd.func33, Tryd.ntmps33
  go_wp2_with fail
  go_loopw [4] (fun v wr => ∃ k : Nat, k ≤ 32 ∧ v = .int .i64 k ∧ wr.heap[w.heap.size]? = some (.cells (u32s s) 62 (0, 0)) ∧ wr.heap[w.heap.size + 1]? = some (.cells (u8s (List.replicate 32 0)) 23 (0, 0)) ∧ wr.heap[w.heap.size + 2]? = some (.cells (u8s ((bytesI s).take k ++ List.replicate (32 - k) 0)) 23 (0, 0)) ∧ Below w.heap.size w wr) (fun v wr => 32 - (intOf v).toNat)
  case atStart =>
    refine ⟨0, by omega, rfl, ?_, ?_, ?_, ?_⟩
    · rw [Below.heap_alloc _ _ _ (by simp <;> omega), Below.heap_alloc _ _ _ (by simp), Go.heap_alloc_new]
    · rw [Below.heap_alloc _ _ _ (by simp <;> omega)]
      have h := Go.heap_alloc_new (w.alloc (.cells (u32s s) 62)) (.cells (u8s (List.replicate 32 0)) 23)
      simp only [World.size_alloc] at h
      exact h
    · have h := Go.heap_alloc_new ((w.alloc (.cells (u32s s) 62)).alloc (.cells (u8s (List.replicate 32 0)) 23)) (.cells (u8s (List.replicate 32 0)) 23)
      simp only [World.size_alloc] at h
      exact h
    · exact (((Below.refl _ w).alloc (Nat.le_refl _) _).alloc (by simp) _).alloc (by simp <;> omega) _
  case round =>
    obtain ⟨k, hk, rfl, q0, q1, q2, hbel⟩ := hrel
    have HQ0 : Hid (wr.heap[w.heap.size]? = some (.cells (u32s s) 62 (0, 0))) := q0
    have HQ1 : Hid (wr.heap[w.heap.size + 1]? = some (.cells (u8s (List.replicate 32 0)) 23 (0, 0))) := q1
    have HQ2 : Hid (wr.heap[w.heap.size + 2]? = some (.cells (u8s ((bytesI s).take k ++ List.replicate (32 - k) 0)) 23 (0, 0))) := q2
    clear q0 q1 q2
    by_cases hlt : k < 32
    · have hlt' : (k : Int) < 32 := by omega
      obtain ⟨j, hj⟩ : ∃ j : Nat, j = k / 4 := ⟨_, rfl⟩
      obtain ⟨m, hm⟩ : ∃ m : Nat, m = k % 4 := ⟨_, rfl⟩
      have e1 : (k : Int) / 4 = (j : Int) := by omega
      have e2 : (k : Int) % 4 = (m : Int) := by omega
      have hj8 : (j : Int) < 8 := by omega
      have hm4 : (m : Int) < 4 := by omega
      obtain ⟨sh, hsh⟩ : ∃ sh : Nat, sh = 24 - 8 * m := ⟨_, rfl⟩
      have e3 : 24 - 8 * (m : Int) = (sh : Int) := by omega
      have hsh2 : (sh : Int) ≤ 24 := by omega
      have cj : wr.cell? ⟨w.heap.size, j, none⟩ = some (.int .u32 (s.getD j 0)) := by
        rw [cell_of_row _ _ _ _ _ _ HQ0.out, get_u32s _ _ (by rw [HS.out]; omega)]
      obtain ⟨p0, p1⟩ := w32_at HW.out j (by rw [HS.out]; omega)
      have HV : Hid ((bytesI s).getD k 0 = s.getD j 0 / 2 ^ sh % 256) := by
        show _ = _
        rw [hsh, ← bytes_at s j m (by rw [HS.out]; omega) (by omega)]
        congr 1
        omega
      generalize s.getD j 0 = x at cj p0 p1 HV
      obtain ⟨z, c4⟩ : ∃ z, wr.cell? ⟨w.heap.size + 2, k, none⟩ = some (.int .u8 z) := ⟨_, by rw [cell_of_row _ _ _ _ _ _ HQ2.out, get_u8s _ _ (by have := HBL.out; simp; omega)]⟩
      have f4 : wr.frozen? ⟨w.heap.size + 2, k, none⟩ = false := frozen_of_row _ _ _ _ _ HQ2.out
      clear hj hm hsh
      go_wp2_with fail
      go_roundw
      case rel =>
        refine ⟨k + 1, by omega, by go_num, ?_, ?_, ?_, hbel.setCell (by dsimp only; omega) _⟩
        · exact (Below.heap_setCell _ _ _ _ (by dsimp only; omega)).trans HQ0.out
        · exact (Below.heap_setCell _ _ _ _ (by dsimp only; omega)).trans HQ1.out
        · have hq := HQ2.out
          have hl := HBL.out
          rw [show 32 - k = (32 - (k + 1)) + 1 by omega, List.replicate_succ] at hq
          have h := set1_u8 (A := x / 2 ^ sh % 256) (j := k) (by simp; omega) hq
          refine h.trans ?_
          rw [← HV.out, List.getD_eq_getElem?_getD, List.getElem?_eq_getElem (by omega), List.take_succ_eq_append_getElem (by omega), List.append_assoc]
          rfl
      case measure => simp [intOf]; omega
    · have hk8 : k = 32 := by omega
      subst hk8
      rw [show ((32 : Nat) : Int) = 32 from rfl]
      have HQ' : Hid (wr.heap[w.heap.size + 2]? = some (.cells (u8s (bytesI s)) 23 (0, 0))) := by
        have h := HQ2.out
        have hl := HBL.out
        rw [List.take_of_length_le (by omega)] at h
        show _ = _
        simpa using h
      clear hlt hk
      go_wp2_with (first | (refine wpList_load_row rfl 23 _ rfl (w.heap.size + 2) rfl 23 (u8s (bytesI s)) (0, 0) _ HQ'.out Tryd.underlying23 rfl ?h1 ?_) | (refine wpList_store_row rfl 23 _ _ rfl (w.heap.size + 1) (u8s (bytesI s)) rfl rfl 23 (u8s (List.replicate 32 0)) HQ1.out ?h2 ?h3 (one_u8s _) ?_))
      case h1 => rw [size_u8s, HBL.out]; kernel_rfl
      case h2 => rw [size_u8s, HBL.out]; kernel_rfl
      case h3 => simp [size_u8s, HBL.out]
      refine bodyPost_ret (v := .agg (u8s (bytesI s))) (results_cell_row Tryd.results33 _ _ (w.heap.size + 1) 23 (u8s (bytesI s)) (0, 0) _ rfl (setRow_heap _ _ _ _ _ _ HQ1.out) Tryd.underlying23 rfl (by rw [size_u8s, HBL.out]; kernel_rfl)) rfl ⟨rfl, below_setRow hbel (by omega) _⟩
end Go.Proofs.YtfdmepblhlifcaaDoor
