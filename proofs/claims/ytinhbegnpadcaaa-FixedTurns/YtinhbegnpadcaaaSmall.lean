/- Contracts of the small functions of layer fixed and of its model: taken, Norm, Neg, Abs, Add, Sub, Cmp, Whole. -/
import Derived.Test.YtinhbegnpadcaaaProg
import Derived.Test.YtinhbegnpadcaaaOrder
import Derived.WalkKit
import Derived.WalkSpells
import Derived.WalkLawsBesides
import Derived.Handy
namespace Go.Proofs.Ytinhbegnpadcaaa
open Go.RowKit

theorem ret_int {k : IntKind} {a b : Int} (h : a = b) : Ending.returned (.int k a) = .returned (.int k b) := by rw [h]

theorem taken_any (a : Int) (w : World) : Calls Try.prog 37 #[.int .i64 a] w fun e w' => e = .returned (.int .i64 (nrm a)) ∧ w' = w := by
  by_cases h : a < -9223372036854775807
  all_goals
    go_enter Try.func37, Try.ntmps37
    go_wp2
    go_ret
    exact ⟨ret_int (by unfold nrm; split <;> omega), rfl⟩

theorem norm_any (a : Int) (w : World) : Calls Try.prog 17 #[.int .i64 a] w fun e w' => e = .returned (.int .i64 (nrm a)) ∧ w' = w := by
  by_cases h : a < -9223372036854775807
  all_goals
    go_enter Try.func17, Try.ntmps17
    go_wp2
    go_ret
    exact ⟨ret_int (by unfold nrm; split <;> omega), rfl⟩

theorem neg_any (a : Int) (w : World) (h2 : a ≤ 9223372036854775807) : Calls Try.prog 14 #[.int .i64 a] w fun e w' => e = .returned (.int .i64 (-nrm a)) ∧ w' = w := by
  have n1 := nrm_lo a
  have n2 := nrm_hi a h2
  go_enter Try.func14, Try.ntmps14
  go_wp2_with (go_at_call 37; refine (taken_any _ _).mono ?_; rintro e w' ⟨rfl, rfl⟩)
  go_ret
  exact ⟨rfl, rfl⟩

theorem rneg_any (a : Int) (w : World) (h2 : a ≤ 9223372036854775807) : Calls Try.prog 13 #[.int .i64 a] w fun e w' => e = .returned (.int .i64 (-nrm a)) ∧ w' = w := by
  have n1 := nrm_lo a
  have n2 := nrm_hi a h2
  go_enter Try.func13, Try.ntmps13
  go_wp2_with (go_at_call 17; refine (norm_any _ _).mono ?_; rintro e w' ⟨rfl, rfl⟩)
  go_ret
  exact ⟨rfl, rfl⟩

theorem abs_any (a : Int) (w : World) (h2 : a ≤ 9223372036854775807) : Calls Try.prog 15 #[.int .i64 a] w fun e w' => e = .returned (.int .i64 (szI a)) ∧ w' = w := by
  have n1 := nrm_lo a
  have n2 := nrm_hi a h2
  have hs := sz_eq a
  have HS : Hid ((szI a : Int) = if nrm a < 0 then -nrm a else nrm a) := hs
  clear hs
  by_cases h : nrm a < 0
  all_goals
    go_enter Try.func15, Try.ntmps15
    go_wp2_with (go_at_call 37; refine (taken_any _ _).mono ?_; rintro e w' ⟨rfl, rfl⟩)
    go_ret
    exact ⟨ret_int (by rw [HS.out]; split <;> omega), rfl⟩

/-- The model's Abs does not hold the least number: it is called with a number as it is taken, or at any number (then its Neg takes it). -/
theorem rabs_any (a : Int) (w : World) (h2 : a ≤ 9223372036854775807) : Calls Try.prog 16 #[.int .i64 a] w fun e w' => e = .returned (.int .i64 (szI a)) ∧ w' = w := by
  have hs := sz_eq a
  have hn := nrm_neg a
  have HS : Hid ((szI a : Int) = if nrm a < 0 then -nrm a else nrm a) := hs
  have HN : Hid (nrm a < 0 ↔ a < 0) := hn
  clear hs hn
  by_cases h : a < 0
  all_goals
    go_enter Try.func16, Try.ntmps16
    go_wp2_with (go_at_call 13; refine (rneg_any _ _ h2).mono ?_; rintro e w' ⟨rfl, rfl⟩)
    go_ret
    exact ⟨ret_int (by rw [HS.out]; have := HN.out; split <;> (unfold nrm at *; omega)), rfl⟩

theorem add_any (a b : Int) (w : World) (h2 : a ≤ 9223372036854775807) (k2 : b ≤ 9223372036854775807) : Calls Try.prog 10 #[.int .i64 a, .int .i64 b] w fun e w' => e = .returned (.int .i64 (adI a b)) ∧ w' = w := by
  have n1 := nrm_lo a
  have n2 := nrm_hi a h2
  have m1 := nrm_lo b
  have m2 := nrm_hi b k2
  have HS : Hid (adI a b = sat (nrm a + nrm b)) := rfl
  rcases (show (0 < nrm b ∧ 9223372036854775807 - nrm b < nrm a) ∨ (0 < nrm b ∧ nrm a ≤ 9223372036854775807 - nrm b) ∨ (nrm b < 0 ∧ nrm a < -9223372036854775807 - nrm b) ∨ (nrm b < 0 ∧ -9223372036854775807 - nrm b ≤ nrm a) ∨ (0 ≤ nrm b ∧ nrm b ≤ 0) from by omega) with ⟨c1, c2⟩ | ⟨c1, c2⟩ | ⟨c1, c2⟩ | ⟨c1, c2⟩ | ⟨c1, c2⟩
  all_goals
    go_enter Try.func10, Try.ntmps10
    go_wp2_with (go_at_call 37; refine (taken_any _ _).mono ?_; rintro e w' ⟨rfl, rfl⟩)
    go_ret
    exact ⟨ret_int (by rw [HS.out]; unfold sat; split <;> (try split) <;> omega), rfl⟩

theorem radd_any (a b : Int) (w : World) (h2 : a ≤ 9223372036854775807) (k2 : b ≤ 9223372036854775807) : Calls Try.prog 11 #[.int .i64 a, .int .i64 b] w fun e w' => e = .returned (.int .i64 (adI a b)) ∧ w' = w := by
  have n1 := nrm_lo a
  have n2 := nrm_hi a h2
  have m1 := nrm_lo b
  have m2 := nrm_hi b k2
  have HS : Hid (adI a b = sat (nrm a + nrm b)) := rfl
  rcases (show (0 < nrm a ∧ 9223372036854775807 - nrm a < nrm b) ∨ (0 < nrm a ∧ nrm b ≤ 9223372036854775807 - nrm a) ∨ (nrm a < 0 ∧ nrm b < -9223372036854775807 - nrm a) ∨ (nrm a < 0 ∧ -9223372036854775807 - nrm a ≤ nrm b) ∨ (0 ≤ nrm a ∧ nrm a ≤ 0) from by omega) with ⟨c1, c2⟩ | ⟨c1, c2⟩ | ⟨c1, c2⟩ | ⟨c1, c2⟩ | ⟨c1, c2⟩
  all_goals
    go_enter Try.func11, Try.ntmps11
    go_wp2_with (go_at_call 17; refine (norm_any _ _).mono ?_; rintro e w' ⟨rfl, rfl⟩)
    go_ret
    exact ⟨ret_int (by rw [HS.out]; unfold sat; split <;> (try split) <;> omega), rfl⟩

theorem sub_any (a b : Int) (w : World) (h2 : a ≤ 9223372036854775807) (k2 : b ≤ 9223372036854775807) : Calls Try.prog 12 #[.int .i64 a, .int .i64 b] w fun e w' => e = .returned (.int .i64 (adI a (-nrm b))) ∧ w' = w := by
  have m1 := nrm_lo b
  go_enter Try.func12, Try.ntmps12
  go_wp2_with (first | (go_at_call 14; refine (neg_any _ _ k2).mono ?_; rintro e w' ⟨rfl, rfl⟩) | (go_at_call 10; refine (add_any _ _ _ h2 (by omega)).mono ?_; rintro e w' ⟨rfl, rfl⟩))
  go_ret
  exact ⟨rfl, rfl⟩

theorem cmp_any (a b : Int) (w : World) : Calls Try.prog 29 #[.int .i64 a, .int .i64 b] w fun e w' => e = .returned (.int .i64 (cmI a b)) ∧ w' = w := by
  rcases (show nrm a < nrm b ∨ nrm b < nrm a ∨ (nrm a ≤ nrm b ∧ nrm b ≤ nrm a) from by omega) with c1 | c1 | ⟨c1, c2⟩
  all_goals
    go_enter Try.func29, Try.ntmps29
    go_wp2_with (go_at_call 37; refine (taken_any _ _).mono ?_; rintro e w' ⟨rfl, rfl⟩)
    go_ret
    exact ⟨ret_int (by unfold cmI; split <;> (try split) <;> omega), rfl⟩

theorem rcmp_any (a b : Int) (w : World) : Calls Try.prog 30 #[.int .i64 a, .int .i64 b] w fun e w' => e = .returned (.int .i64 (cmI a b)) ∧ w' = w := by
  rcases (show nrm a < nrm b ∨ nrm b < nrm a ∨ (nrm a ≤ nrm b ∧ nrm b ≤ nrm a) from by omega) with c1 | c1 | ⟨c1, c2⟩
  all_goals
    go_enter Try.func30, Try.ntmps30
    go_wp2_with (go_at_call 17; refine (norm_any _ _).mono ?_; rintro e w' ⟨rfl, rfl⟩)
    go_ret
    exact ⟨ret_int (by unfold cmI; split <;> (try split) <;> omega), rfl⟩

theorem whole_any (a : Int) (w : World) (h2 : a ≤ 9223372036854775807) : Calls Try.prog 27 #[.int .i64 a] w fun e w' => e = .returned (.int .i64 ((nrm a).tdiv 1000000)) ∧ w' = w := by
  have n1 := nrm_lo a
  have n2 := nrm_hi a h2
  go_enter Try.func27, Try.ntmps27
  go_wp2_with (go_at_call 37; refine (taken_any _ _).mono ?_; rintro e w' ⟨rfl, rfl⟩)
  go_ret
  exact ⟨rfl, rfl⟩

end Go.Proofs.Ytinhbegnpadcaaa
