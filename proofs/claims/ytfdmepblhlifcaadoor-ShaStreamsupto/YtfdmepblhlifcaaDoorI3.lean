/- No bytes are written; the blocks of a stream. -/
import Derived.Test.YtfdmepblhlifcaaDoorI2
import Derived.Test.YtfdmepblhlifcaaDoorC1
namespace Go.Proofs.YtfdmepblhlifcaaDoor
open Go.RowKit Go.Shelf
set_option linter.unusedVariables false
set_option linter.unusedSimpArgs false

theorem write_empty (p : Nat) (a : Option Addr) (cap : Nat) (w : World) :
    Calls Tryd.prog 20 #[.pointer (some ⟨p, 0, none⟩), .slice a 0 cap] w fun e w' => e = .returned (.int .i64 0) ∧ w' = w := by
  go_enter Tryd.func20, Tryd.ntmps20
  go_wp2_with fail
  go_loopw [1, 5] (fun v x wr => v = .slice a 0 cap ∧ wr = w) (fun v x wr => 0)
  case atStart => exact ⟨rfl, rfl⟩
  case round =>
    obtain ⟨rfl, hw⟩ := hrel
    rw [hw]
    clear hw
    go_wp2_with fail
    go_ret
    exact ⟨rfl, rfl⟩

/-- What Blocks tells: the list as it is. -/
theorem blocks_any (p : Nat) (s : List Int) (n : Int) (a : Option Addr) (l c : Nat) (rest : List Int) (left : Int) (w : World) (h : Str w p s n (.slice a l c) rest left) (hs : s.length = 8) :
    Calls Tryd.prog 25 #[.pointer (some ⟨p, 0, none⟩)] w fun e w' => e = .returned (.func (.func 46) #[] #[.pointer (some ⟨w.heap.size, 0, none⟩)]) ∧ w' = w.alloc (.cells #[.slice a l c] 44) := by
  have c9 := h.pastAt hs
  clear h hs
  go_enter Tryd.func25, Tryd.ntmps25
  go_wp2_with (go_at_call 39; refine (values_any _ _ _ _).mono ?_; rintro e w' ⟨rfl, rfl⟩)
  go_ret
  exact ⟨rfl, rfl⟩
end Go.Proofs.YtfdmepblhlifcaaDoor
