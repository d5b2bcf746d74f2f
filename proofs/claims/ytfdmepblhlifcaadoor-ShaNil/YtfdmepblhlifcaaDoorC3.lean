/- The digest of a stream that is not there. -/
import Derived.Test.YtfdmepblhlifcaaDoorA6
namespace Go.Proofs.YtfdmepblhlifcaaDoor
open Go.RowKit
set_option linter.unusedVariables false
set_option linter.unusedSimpArgs false
set_option maxRecDepth 20000 in
theorem sum_nil (w : World) : Calls Tryd.prog 26 #[.pointer none] w fun e w' => e = .returned (.agg (u8s (List.replicate 32 0))) ∧ Below w.heap.size w w' := by
  go_enter Tryd.func26, Tryd.ntmps26
  go_wp2_with (refine wpList_store_row rfl 23 _ _ rfl w.heap.size (u8s (List.replicate 32 0)) rfl rfl 23 (u8s (List.replicate 32 0)) (Go.heap_alloc_new _ _) ?h2 ?h3 (one_u8s _) ?_)
  case h2 => kernel_rfl
  case h3 => rfl
  refine bodyPost_ret (v := .agg (u8s (List.replicate 32 0))) (results_cell_row Tryd.results26 _ _ w.heap.size 23 (u8s (List.replicate 32 0)) (0, 0) _ rfl (setRow_heap _ _ _ _ _ _ (Go.heap_alloc_new _ _)) Tryd.underlying23 rfl (by kernel_rfl)) rfl ⟨rfl, below_setRow ((Below.refl _ w).alloc (Nat.le_refl _) _) (Nat.le_refl _) _⟩
end Go.Proofs.YtfdmepblhlifcaaDoor
