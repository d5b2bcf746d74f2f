/- The beginning, and a state as bytes. -/
import Derived.Test.YtfdmepblhlifcaaDoorA3
namespace Go.Proofs.YtfdmepblhlifcaaDoor
open Go.RowKit
set_option linter.unusedVariables false
set_option linter.unusedSimpArgs false

def beginI : List Int := [1779033703, 3144134277, 1013904242, 2773480762, 1359893119, 2600822924, 528734635, 1541459225]
theorem begin_w32 : W32 beginI := by unfold W32 beginI; decide

set_option maxHeartbeats 1000000 in
theorem begin_any (w : World) : Calls Tryd.prog 28 #[] w fun e w' => e = .returned (.agg (chainV beginI 0)) ∧ Below w.heap.size w w' := by
  go_enter Tryd.func28, Tryd.ntmps28
  go_wp2
  refine bodyPost_ret (v := .agg (chainV beginI 0)) (by simp [results, Tryd.results28, go_sem, chainV, u32s, beginI]) rfl ⟨rfl, ?_⟩
  exact (Below.refl _ w).alloc (Nat.le_refl _) _

def fourI (x : Int) : List Int := [x / 16777216 % 256, x / 65536 % 256, x / 256 % 256, x % 256]
def bytesI (s : List Int) : List Int := s.flatMap fourI
theorem four_len (x : Int) : (fourI x).length = 4 := rfl
theorem bytes_len (s : List Int) : (bytesI s).length = 4 * s.length := by
  induction s with
  | nil => rfl
  | cons x s ih => simp [bytesI, fourI] at ih ⊢; omega
theorem bytes_byt (s : List Int) : Byt (bytesI s) := by
  intro x hx
  obtain ⟨y, _, hy⟩ := List.mem_flatMap.1 hx
  simp only [fourI, List.mem_cons, List.not_mem_nil, or_false] at hy
  rcases hy with rfl | rfl | rfl | rfl <;> omega
theorem bytes_snoc (s : List Int) (x : Int) : bytesI (s ++ [x]) = bytesI s ++ fourI x := by simp [bytesI]
theorem set4_row {w : World} {g j : Nat} {ty : TypeId} {P R : List Int} {a b c d A B C D : Int} (hj : P.length = j) (h : w.heap[g]? = some (.cells (u8s (P ++ a :: b :: c :: d :: R)) ty (0, 0))) :
    ((((w.setCell ⟨g, j, none⟩ (.int .u8 A)).setCell ⟨g, j + 1, none⟩ (.int .u8 B)).setCell ⟨g, j + 2, none⟩ (.int .u8 C)).setCell ⟨g, j + 3, none⟩ (.int .u8 D)).heap[g]? = some (.cells (u8s (P ++ A :: B :: C :: D :: R)) ty (0, 0)) := by
  subst hj
  have h0 := heap_setCell_same _ _ P.length _ _ (.int .u8 A) h
  rw [set_u8s, List.set_append_right _ _ (by omega)] at h0
  simp only [Nat.sub_self, List.set_cons_zero] at h0
  have h1 := heap_setCell_same _ _ (P.length + 1) _ _ (.int .u8 B) h0
  rw [set_u8s, List.set_append_right _ _ (by omega)] at h1
  simp only [Nat.add_sub_cancel_left, List.set_cons_zero, List.set_cons_succ] at h1
  have h2 := heap_setCell_same _ _ (P.length + 2) _ _ (.int .u8 C) h1
  rw [set_u8s, List.set_append_right _ _ (by omega)] at h2
  simp only [Nat.add_sub_cancel_left, List.set_cons_zero, List.set_cons_succ] at h2
  have h3 := heap_setCell_same _ _ (P.length + 3) _ _ (.int .u8 D) h2
  rw [set_u8s, List.set_append_right _ _ (by omega)] at h3
  simp only [Nat.add_sub_cancel_left, List.set_cons_zero, List.set_cons_succ] at h3
  exact h3

set_option maxRecDepth 20000 in
set_option maxHeartbeats 4000000 in
theorem bytes_any (s : List Int) (n : Int) (w : World) (hs : s.length = 8) (hw : W32 s) :
    Calls Tryd.prog 31 #[.agg (chainV s n)] w fun e w' => e = .returned (.agg (u8s (bytesI s))) ∧ Below w.heap.size w w' := by
  have HS : Hid _ := hs
  have HW : Hid _ := hw
  obtain ⟨a, b, c, d, e, f, g, q, es⟩ := len8 hs
  have ecv : chainV s n = #[.int .u32 a, .int .u32 b, .int .u32 c, .int .u32 d, .int .u32 e, .int .u32 f, .int .u32 g, .int .u32 q, .int .i64 n] := by rw [es]; rfl
  rw [ecv]
  have HES : Hid _ := es
  clear ecv es hs hw
  go_enter Tryd.func31, Tryd.ntmps31
  go_wp2
  go_loopw [4, 5, 8] (fun x y v wr => ∃ k : Nat, k ≤ 8 ∧ v = .int .i64 k ∧ wr.heap[w.heap.size + 2]? = some (.cells (u8s (bytesI (s.take k) ++ List.replicate (32 - 4 * k) 0)) 23 (0, 0)) ∧ wr.heap[w.heap.size + 1]? = some (.cells (u8s (List.replicate 32 0)) 23 (0, 0)) ∧ Below w.heap.size w wr) (fun x y v wr => 8 - (intOf v).toNat)
  case atStart =>
    refine ⟨0, by omega, rfl, ?_, ?_, ?_⟩
    · have h := Go.heap_alloc_new ((w.alloc (.cells #[.int .u32 a, .int .u32 b, .int .u32 c, .int .u32 d, .int .u32 e, .int .u32 f, .int .u32 g, .int .u32 q, .int .i64 n] 54)).alloc (.cells (u8s (List.replicate 32 0)) 23)) (.cells (u8s (List.replicate 32 0)) 23)
      simp only [World.size_alloc] at h
      exact h
    · have h := Go.heap_alloc_new (w.alloc (.cells #[.int .u32 a, .int .u32 b, .int .u32 c, .int .u32 d, .int .u32 e, .int .u32 f, .int .u32 g, .int .u32 q, .int .i64 n] 54)) (.cells (u8s (List.replicate 32 0)) 23)
      simp only [World.size_alloc] at h
      exact (Below.heap_alloc _ _ _ (by simp)).trans h
    · exact (((Below.refl _ w).alloc (Nat.le_refl _) _).alloc (by simp) _).alloc (by simp <;> omega) _
  case round =>
    obtain ⟨k, hk, rfl, q2, q1, hbel⟩ := hrel
    have HQ2 : Hid _ := q2
    have HQ1 : Hid _ := q1
    clear q1 q2
    by_cases hlt : k < 8
    · have hlt' : (k : Int) < 8 := by omega
      have hx := run_index_u32s 52 8 s k Tryd.underlying52 (by rw [HS.out]; exact hlt) hlt wr
      rw [show u32s s = #[.int .u32 a, .int .u32 b, .int .u32 c, .int .u32 d, .int .u32 e, .int .u32 f, .int .u32 g, .int .u32 q] from by rw [HES.out]; rfl] at hx
      obtain ⟨x0, x1⟩ := w32_at HW.out k (by rw [HS.out]; exact hlt)
      have HTK : Hid (bytesI (s.take (k + 1)) = bytesI (s.take k) ++ fourI (s.getD k 0)) := by
        show _ = _
        rw [← bytes_snoc, List.take_succ_eq_append_getElem (by rw [HS.out]; exact hlt), List.getD_eq_getElem?_getD, List.getElem?_eq_getElem (by rw [HS.out]; exact hlt)]
        rfl
      generalize s.getD k 0 = x at hx x0 x1 HTK
      have hl32 : (bytesI (s.take k) ++ List.replicate (32 - 4 * k) 0).length = 32 := by
        have := HS.out
        simp [bytes_len]; omega
      have hc : ∀ j, j < 32 → ∃ z, wr.cell? ⟨w.heap.size + 2, j, none⟩ = some (.int .u8 z) := fun j hj => ⟨_, by rw [cell_of_row _ _ _ _ _ _ HQ2.out, get_u8s _ _ (by omega)]⟩
      have hf : ∀ j, wr.frozen? ⟨w.heap.size + 2, j, none⟩ = false := fun j => frozen_of_row _ _ _ _ _ HQ2.out
      obtain ⟨z0, c0⟩ := hc (4 * k) (by omega)
      obtain ⟨z1, c1⟩ := hc (4 * k + 1) (by omega)
      obtain ⟨z2, c2⟩ := hc (4 * k + 2) (by omega)
      obtain ⟨z3, c3⟩ := hc (4 * k + 3) (by omega)
      have f0 := hf (4 * k)
      have f1 := hf (4 * k + 1)
      have f2 := hf (4 * k + 2)
      have f3 := hf (4 * k + 3)
      have HL32 : Hid _ := hl32
      have i0 : 4 * (k : Int) < 32 := by omega
      have i1 : 4 * (k : Int) + 1 < 32 := by omega
      have i2 : 4 * (k : Int) + 2 < 32 := by omega
      have i3 : 4 * (k : Int) + 3 < 32 := by omega
      clear hl32 hc hf
      go_wp2_with fail
      go_roundw
      case rel =>
        refine ⟨k + 1, by omega, by go_num, ?_, ?_, ?_⟩
        · have h8 := HS.out
          have hq := HQ2.out
          rw [show 32 - 4 * k = (32 - 4 * (k + 1)) + 1 + 1 + 1 + 1 by omega, List.replicate_succ, List.replicate_succ, List.replicate_succ, List.replicate_succ] at hq
          have h := set4_row (A := x / 16777216) (B := x / 65536 % 256) (C := x / 256 % 256) (D := x % 256) (j := 4 * k) (by rw [bytes_len]; simp; omega) hq
          refine h.trans ?_
          rw [HTK.out, List.append_assoc, fourI, show x / 16777216 % 256 = x / 16777216 by omega]
          rfl
        · exact (Below.heap_setCell _ _ _ _ (by dsimp only; omega)).trans ((Below.heap_setCell _ _ _ _ (by dsimp only; omega)).trans ((Below.heap_setCell _ _ _ _ (by dsimp only; omega)).trans ((Below.heap_setCell _ _ _ _ (by dsimp only; omega)).trans HQ1.out)))
        · iterate 4 refine Below.setCell ?_ (by dsimp only; omega) _
          exact hbel
      case measure => simp [intOf]; omega
    · have hk8 : k = 8 := by omega
      subst hk8
      rw [show ((8 : Nat) : Int) = 8 from rfl]
      have h8 := HS.out
      have HQ2' : Hid (wr.heap[w.heap.size + 2]? = some (.cells (u8s (bytesI s)) 23 (0, 0))) := by
        have h := HQ2.out
        rw [List.take_of_length_le (by omega)] at h
        show _ = _
        simpa using h
      have hbl : (bytesI s).length = 32 := by rw [bytes_len]; omega
      have HBL : Hid _ := hbl
      clear hlt hk h8 hbl HQ2
      go_wp2_with (first | (refine wpList_load_row rfl 23 _ rfl (w.heap.size + 2) rfl 23 (u8s (bytesI s)) (0, 0) _ HQ2'.out Tryd.underlying23 rfl ?h1 ?_) | (refine wpList_store_row rfl 23 _ _ rfl (w.heap.size + 1) (u8s (bytesI s)) rfl rfl 23 (u8s (List.replicate 32 0)) HQ1.out ?h2 ?h3 (one_u8s _) ?_))
      case h1 => rw [size_u8s, HBL.out]; kernel_rfl
      case h2 => rw [size_u8s, HBL.out]; kernel_rfl
      case h3 => rw [size_u8s, size_u8s, HBL.out]; rfl
      refine bodyPost_ret (v := .agg (u8s (bytesI s))) (results_cell_row Tryd.results31 _ _ (w.heap.size + 1) 23 (u8s (bytesI s)) (0, 0) _ rfl (setRow_heap _ _ _ _ _ _ HQ1.out) Tryd.underlying23 rfl (by rw [size_u8s, HBL.out]; kernel_rfl)) rfl ⟨rfl, below_setRow hbel (by omega) _⟩
end Go.Proofs.YtfdmepblhlifcaaDoor
