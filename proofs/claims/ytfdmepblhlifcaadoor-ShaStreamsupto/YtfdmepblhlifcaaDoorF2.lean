/- The numbers K and a state's bytes, by the definition. -/
import Derived.Test.YtfdmepblhlifcaaDoorA6
namespace Go.Proofs.YtfdmepblhlifcaaDoor
open Go.RowKit
set_option linter.unusedVariables false
set_option linter.unusedSimpArgs false

set_option maxRecDepth 20000 in
set_option maxHeartbeats 2000000 in
theorem ks_any (w : World) : Calls Tryd.prog 43 #[] w fun e w' => e = .returned (.agg (u32s rootsI)) ∧ Below w.heap.size w w' := by
  go_enter Tryd.func43, Tryd.ntmps43
  go_wp2_with (refine wpList_store_row rfl 76 _ _ rfl w.heap.size (u32s rootsI) rfl rfl 76 (u32s (List.replicate 64 0)) (Go.heap_alloc_new _ _) ?h2 ?h3 (one_u32s _) ?_)
  case h2 => kernel_rfl
  case h3 => rfl
  refine bodyPost_ret (v := .agg (u32s rootsI)) (results_cell_row Tryd.results43 _ _ w.heap.size 76 (u32s rootsI) (0, 0) _ rfl (setRow_heap _ _ _ _ _ _ (Go.heap_alloc_new _ _)) Tryd.underlying76 rfl (by kernel_rfl)) rfl ⟨rfl, below_setRow ((Below.refl _ w).alloc (Nat.le_refl _) _) (Nat.le_refl _) _⟩
end Go.Proofs.YtfdmepblhlifcaaDoor
