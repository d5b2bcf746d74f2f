/- A file is synced, and read. -/
import Derived.Test.YtfllepgcgbpfiaaA6
namespace Go.Proofs.Ytfllepgcgbpfiaa
open Go.RowKit
set_option linter.unusedVariables false
set_option linter.unusedSimpArgs false

set_option maxRecDepth 20000 in
set_option maxHeartbeats 4000000 in
theorem sync_one (D base B F : Nat) (s : Int) (dv bv : Value) (zs bg : List Int) (w : World) (h : One w D base B F s dv bv zs bg) (s0 : 0 ≤ s) (s1 : s ≤ 1000) :
    Calls Try.prog 24 #[.pointer (some ⟨D, 0, none⟩), .string ⟨#[97]⟩] w fun e w' => e = .returned (.int .i64 0) ∧ One w' D base B F (s + 1) dv (.slice none 0 0) zs [] ∧ Below base w w' := by
  have H : Hid (One w D base B F s dv bv zs bg) := h
  obtain ⟨ba, bc, hbv⟩ := own_slice h.begins
  have hDF : D ≠ F := ne_tag h.disk h.file (by decide)
  have cD : w.cell? ⟨D, 0, none⟩ = some (.map (some B)) := by rw [cell_of_row _ _ _ _ _ _ h.disk]; rfl
  have cF : w.cell? ⟨F, 1, none⟩ = some bv := by rw [cell_of_row _ _ _ _ _ _ h.file]; rfl
  have fF : w.frozen? ⟨F, 1, none⟩ = false := frozen_of_row _ _ 1 _ _ h.file
  rw [hbv] at cF
  have HFI : Hid (Calls Try.prog 48 #[.pointer (some ⟨D, 0, none⟩), .string ⟨#[97]⟩] w fun e w' => e = .returned (.tuple #[.pointer (some ⟨F, 0, none⟩), .int .i64 0]) ∧ w' = w) := find_some D _ B 1 0 _ _ w cD h.map fnd_a
  obtain ⟨W, hW⟩ : ∃ W, w.setCell ⟨F, 1, none⟩ (.slice none 0 0) = W := ⟨_, rfl⟩
  have e1 : W.heap[F]? = some (.cells #[dv, .slice none 0 0] 80 (0, 0)) := by rw [← hW]; exact row_set _ h.file
  have e2 : W.heap[D]? = some (.cells #[.map (some B), .int .i64 s] 70 (0, 0)) := by rw [← hW, Below.heap_setCell _ _ _ _ hDF]; exact h.disk
  have e3 : ∀ q, q ≠ F → W.heap[q]? = w.heap[q]? := fun q hq => by rw [← hW]; exact Below.heap_setCell _ _ _ _ hq
  have e4 : W.heap.size = w.heap.size ∧ W.os = w.os ∧ W.tape = w.tape ∧ W.output = w.output := by rw [← hW]; exact ⟨by simp, rfl, rfl, rfl⟩
  have cW : W.cell? ⟨D, 1, none⟩ = some (.int .i64 s) := by rw [cell_of_row _ _ _ _ _ _ e2]; rfl
  have fW : W.frozen? ⟨D, 1, none⟩ = false := frozen_of_row _ _ 1 _ _ e2
  have HE : Hid (W.heap[F]? = some (.cells #[dv, .slice none 0 0] 80 (0, 0)) ∧ W.heap[D]? = some (.cells #[.map (some B), .int .i64 s] 70 (0, 0)) ∧ (∀ q, q ≠ F → W.heap[q]? = w.heap[q]?) ∧ W.heap.size = w.heap.size ∧ W.os = w.os ∧ W.tape = w.tape ∧ W.output = w.output) := ⟨e1, e2, e3, e4⟩
  clear h e1 e2 e3 e4 hbv
  go_enter Try.func24, Try.ntmps24
  go_wp2_with (go_at_call 48; refine HFI.out.mono ?_; rintro e w1 ⟨rfl, hw1⟩; rw [hw1]; clear hw1)
  go_ret
  have h := H.out
  obtain ⟨e1, e2, e3, z, o1, o2, o3⟩ := HE.out
  have hl := h.low
  have g : ∀ q, q ≠ F → q ≠ D → (W.setCell ⟨D, 1, none⟩ (.int .i64 (s + 1))).heap[q]? = w.heap[q]? := fun q h1 h2 => by
    rw [Below.heap_setCell _ _ _ _ h2]; exact e3 q h1
  refine ⟨rfl, ⟨⟨hl.1, hl.2.1, hl.2.2.1, by simp; omega⟩, row_set _ e2, ?_, ?_, ?_, World.ownsRow_nil _ _ _ _⟩, ?_⟩
  · exact (g B (ne_map h.file h.map) (ne_map h.disk h.map)).trans h.map
  · rw [Below.heap_setCell _ _ _ _ hDF.symm]; exact e1
  · refine own_at h.data fun q hq => ?_
    obtain ⟨cur, hc⟩ := own_tag h.data hq
    exact g q (ne_tag hc h.file (by decide)) (ne_tag hc h.disk (by decide))
  · exact ⟨o1, o2, o3, by simp; omega, fun q hq => g q (by omega) (by omega)⟩
end Go.Proofs.Ytfllepgcgbpfiaa
