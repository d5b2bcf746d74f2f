/- Lists of attributes compared: numbers compared, the first that is not 0. -/
import Derived.Test.YtgmpmpgfpchbcaaGreatDoorC3
import Derived.Deep.RegionHeld3
namespace Go.Proofs.YtgmpmpgfpchbcaaGreatDoor
open Go.RowKit
set_option linter.unusedVariables false
set_option linter.unusedSimpArgs false

theorem isNaNi_any (a : Int) (w : World) : Calls Tryz.prog 54 #[.int .i64 a] w fun e w' => e = .returned (.bool false) ∧ w' = w := by
  go_enter Tryz.func54, Tryz.ntmps54
  go_wp2
  go_ret
  exact ⟨by simp, rfl⟩
def ciI (a b : Int) : Int := if a < b then -1 else if b < a then 1 else 0
theorem comparei_any (a b : Int) (w : World) : Calls Tryz.prog 30 #[.int .i64 a, .int .i64 b] w fun e w' => e = .returned (.int .i64 (ciI a b)) ∧ w' = w := by
  have HN : Hid (∀ a, Calls Tryz.prog 54 #[.int .i64 a] w fun e w' => e = .returned (.bool false) ∧ w' = w) := fun a => isNaNi_any a w
  rcases (show a < b ∨ b < a ∨ a = b from by omega) with h | h | h
  · have e : ciI a b = -1 := by unfold ciI; rw [if_pos h]
    rw [e]; clear e
    go_enter Tryz.func30, Tryz.ntmps30
    go_wp2_with (go_at_call 54; refine (HN.out _).mono ?_; rintro e w1 ⟨rfl, hw1⟩; rw [hw1]; clear hw1)
    go_ret
    exact ⟨rfl, rfl⟩
  · have e : ciI a b = 1 := by unfold ciI; rw [if_neg (by omega), if_pos h]
    have h2 : ¬ a < b := by omega
    rw [e]; clear e
    go_enter Tryz.func30, Tryz.ntmps30
    go_wp2_with (go_at_call 54; refine (HN.out _).mono ?_; rintro e w1 ⟨rfl, hw1⟩; rw [hw1]; clear hw1)
    go_ret
    exact ⟨rfl, rfl⟩
  · have e : ciI a b = 0 := by unfold ciI; rw [if_neg (by omega), if_neg (by omega)]
    rw [e]; clear e
    subst h
    go_enter Tryz.func30, Tryz.ntmps30
    go_wp2_with (go_at_call 54; refine (HN.out _).mono ?_; rintro e w1 ⟨rfl, hw1⟩; rw [hw1]; clear hw1)
    go_ret
    exact ⟨rfl, rfl⟩
/-- The first that is not 0. -/
def orI (a b : Int) : Int := if a = 0 then b else a
theorem or_any (g : Nat) (a b : Int) (w : World) (h0 : w.cell? ⟨g, 0, none⟩ = some (.int .i64 a)) (h1 : w.cell? ⟨g, 1, none⟩ = some (.int .i64 b)) : Calls Tryz.prog 28 #[.slice (some ⟨g, 0, none⟩) 2 2] w fun e w' => e = .returned (.int .i64 (orI a b)) ∧ w' = w := by
  go_enter Tryz.func28, Tryz.ntmps28
  go_wp2
  go_loop [8] (fun i => i = .int .i64 0 ∨ (i = .int .i64 1 ∧ a = 0) ∨ (i = .int .i64 2 ∧ a = 0 ∧ b = 0)) (fun i => 2 - (intOf i).toNat)
  case atStart => exact .inl rfl
  case round =>
    rcases hrel with rfl | ⟨rfl, ha⟩ | ⟨rfl, ha, hb⟩
    · by_cases ha : a = 0
      · have HA : Hid (a = 0) := ha
        have hb : (a != 0) = false := by simp [ha]
        go_wp2
        go_round
        case rel => exact .inr (.inl ⟨by go_num, HA.out⟩)
        case measure => simp [intOf]
      · have HA : Hid (¬ a = 0) := ha
        have hb : (a != 0) = true := by simpa using ha
        go_wp2
        go_ret
        exact ⟨by unfold orI; rw [if_neg HA.out]; rfl, rfl⟩
    · have HA : Hid (a = 0) := ha
      clear ha
      by_cases hb : b = 0
      · have HB : Hid (b = 0) := hb
        have hb : (b != 0) = false := by simp [hb]
        go_wp2
        go_round
        case rel => exact .inr (.inr ⟨by go_num, HA.out, HB.out⟩)
        case measure => simp [intOf]
      · have hb : (b != 0) = true := by simpa using hb
        go_wp2
        go_ret
        exact ⟨by unfold orI; rw [if_pos HA.out]; rfl, rfl⟩
    · have HA : Hid (a = 0 ∧ b = 0) := ⟨ha, hb⟩
      clear ha hb
      go_wp2
      go_ret
      exact ⟨by unfold orI; rw [if_pos HA.out.1, HA.out.2]; rfl, rfl⟩
end Go.Proofs.YtgmpmpgfpchbcaaGreatDoor
