/- Lists that are alike; new memory; what is wrong of a set; a key set. -/
import Derived.Test.YtgmpmpgfpchbcaaGreatDoorR4
namespace Go.Proofs.YtgmpmpgfpchbcaaGreatDoor
open Go.RowKit
set_option linter.unusedVariables false
set_option linter.unusedSimpArgs false

theorem make_can (l : List At) (h : ∀ x ∈ l, Can x) : ∀ x ∈ (makeI l).1, Can x := by
  intro x hx
  unfold makeI at hx
  repeat' split at hx
  all_goals first | (simp at hx; done) | exact h x ((srt_perm l).mem_iff.1 hx)
theorem make_le (l : List At) : (makeI l).1.length ≤ 16 := by
  unfold makeI
  repeat' split
  all_goals first | (simp; done) | (rw [srt_len]; omega)
end Go.Proofs.YtgmpmpgfpchbcaaGreatDoor
