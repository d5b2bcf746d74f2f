/- Contracts of the small functions of layer fixed that buckets call. -/
import Derived.Test.YtpobfcmbbabchaaProg
import Derived.Test.YtpobfcmbbabchaaXp
import Derived.WalkKit
import Derived.WalkSpells
import Derived.WalkLawsBesides
import Derived.Handy
namespace Go.Proofs.Ytpobfcmbbabchaa
open Go.RowKit
theorem ret_int {k : IntKind} {a b : Int} (h : a = b) : Ending.returned (.int k a) = .returned (.int k b) := by rw [h]

theorem taken_any (a : Int) (w : World) : Calls Try.prog 58 #[.int .i64 a] w fun e w' => e = .returned (.int .i64 (nrm a)) ∧ w' = w := by
  by_cases h : a < -9223372036854775807
  all_goals
    go_enter Try.func58, Try.ntmps58
    go_wp2
    go_ret
    exact ⟨ret_int (by unfold nrm; split <;> omega), rfl⟩

theorem abs_any (a : Int) (w : World) (h2 : a ≤ 9223372036854775807) : Calls Try.prog 66 #[.int .i64 a] w fun e w' => e = .returned (.int .i64 (szI a)) ∧ w' = w := by
  have n1 := nrm_lo a
  have n2 := nrm_hi a h2
  have hs := sz_eq a
  have HS : Hid ((szI a : Int) = if nrm a < 0 then -nrm a else nrm a) := hs
  clear hs
  by_cases h : nrm a < 0
  all_goals
    go_enter Try.func66, Try.ntmps66
    go_wp2_with (go_at_call 58; refine (taken_any _ _).mono ?_; rintro e w' ⟨rfl, rfl⟩)
    go_ret
    exact ⟨ret_int (by rw [HS.out]; split <;> omega), rfl⟩

theorem add_any (a b : Int) (w : World) (h2 : a ≤ 9223372036854775807) (k2 : b ≤ 9223372036854775807) : Calls Try.prog 48 #[.int .i64 a, .int .i64 b] w fun e w' => e = .returned (.int .i64 (adI a b)) ∧ w' = w := by
  have n1 := nrm_lo a
  have n2 := nrm_hi a h2
  have m1 := nrm_lo b
  have m2 := nrm_hi b k2
  have HS : Hid (adI a b = sat (nrm a + nrm b)) := rfl
  rcases (show (0 < nrm b ∧ 9223372036854775807 - nrm b < nrm a) ∨ (0 < nrm b ∧ nrm a ≤ 9223372036854775807 - nrm b) ∨ (nrm b < 0 ∧ nrm a < -9223372036854775807 - nrm b) ∨ (nrm b < 0 ∧ -9223372036854775807 - nrm b ≤ nrm a) ∨ (0 ≤ nrm b ∧ nrm b ≤ 0) from by omega) with ⟨c1, c2⟩ | ⟨c1, c2⟩ | ⟨c1, c2⟩ | ⟨c1, c2⟩ | ⟨c1, c2⟩
  all_goals
    go_enter Try.func48, Try.ntmps48
    go_wp2_with (go_at_call 58; refine (taken_any _ _).mono ?_; rintro e w' ⟨rfl, rfl⟩)
    go_ret
    exact ⟨ret_int (by rw [HS.out]; unfold sat; split <;> (try split) <;> omega), rfl⟩

end Go.Proofs.Ytpobfcmbbabchaa
