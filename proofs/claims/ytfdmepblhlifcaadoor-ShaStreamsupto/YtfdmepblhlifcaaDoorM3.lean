/- The states of no bytes. -/
import Derived.Test.YtfdmepblhlifcaaDoorF4
namespace Go.Proofs.YtfdmepblhlifcaaDoor
open Go.RowKit Go.Shelf
set_option linter.unusedVariables false
set_option linter.unusedSimpArgs false

set_option maxRecDepth 20000 in
set_option maxHeartbeats 4000000 in
theorem states_none (a : Option Addr) (cap : Nat) (w : World) :
    Calls Tryd.prog 32 #[.slice a 0 cap] w fun e w' => (∃ v, e = .returned v ∧ w'.ownsRow w.heap.size 62 8 v 0 []) ∧ Below w.heap.size w w' := by
  go_enter Tryd.func32, Tryd.ntmps32
  go_wp2_with (first | (refine wpList_store_row rfl 62 _ _ rfl w.heap.size (u32s beginI) rfl rfl 62 (u32s (List.replicate 8 0)) (Go.heap_alloc_new _ _) ?h1 ?h2 (one_u32s _) ?_) | (go_at_call 43; refine (ks_any _).mono ?_; rintro e w1 ⟨rfl, hb1⟩) | (refine wpList_store_row rfl 76 _ _ rfl w1.heap.size (u32s rootsI) rfl rfl 76 (u32s (List.replicate 64 0)) (Go.heap_alloc_new _ _) ?h3 ?h4 (one_u32s _) ?_))
  case h1 => kernel_rfl
  case h2 => rfl
  case h3 => kernel_rfl
  case h4 => rfl
  obtain ⟨W1, hW1⟩ : ∃ W1, (w1.alloc (.cells (u32s (List.replicate 64 0)) 76)).setRow w1.heap.size (u32s rootsI) = W1 := ⟨_, rfl⟩
  have hb1' : Below (w.heap.size + 1) ((w.alloc (.cells (u32s (List.replicate 8 0)) 62)).setRow w.heap.size (u32s beginI)) w1 := hb1.mono (by simp)
  have HB : Hid (Below w.heap.size w W1) := by
    show Below _ _ _
    rw [← hW1]
    have h2 : Below w.heap.size w w1 := (below_setRow ((Below.refl _ w).alloc (Nat.le_refl _) _) (Nat.le_refl _) _).trans (hb1'.mono (by omega))
    exact below_setRow (h2.alloc h2.size _) h2.size _
  show Code.wp _ _ _ _ ((w1.alloc (.cells (u32s (List.replicate 64 0)) 76)).setRow w1.heap.size (u32s rootsI))
  rw [hW1]
  clear hW1 hb1 hb1'
  go_loopw [3, 6] (fun v x wr => v = .slice none 0 0 ∧ x = .int .i64 0 ∧ wr = W1) (fun v x wr => 0)
  case atStart => exact ⟨rfl, rfl, rfl⟩
  case round =>
    obtain ⟨rfl, rfl, hw⟩ := hrel
    rw [hw]
    clear hw
    go_wp2_with fail
    go_ret
    exact ⟨⟨_, rfl, World.ownsRow_nil _ _ _ _⟩, HB.out⟩
end Go.Proofs.YtfdmepblhlifcaaDoor
