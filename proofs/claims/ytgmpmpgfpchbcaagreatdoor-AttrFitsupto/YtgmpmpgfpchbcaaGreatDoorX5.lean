/- Matchers compared. -/
import Derived.Test.YtgmpmpgfpchbcaaGreatDoorX4
namespace Go.Proofs.YtgmpmpgfpchbcaaGreatDoor
open Go.RowKit Go.Shelf
set_option linter.unusedVariables false
set_option linter.unusedSimpArgs false

theorem or3_any (g : Nat) (a b c : Int) (w : World) (h0 : w.cell? ⟨g, 0, none⟩ = some (.int .i64 a)) (h1 : w.cell? ⟨g, 1, none⟩ = some (.int .i64 b)) (h2 : w.cell? ⟨g, 2, none⟩ = some (.int .i64 c)) : Calls Tryz.prog 28 #[.slice (some ⟨g, 0, none⟩) 3 3] w fun e w' => e = .returned (.int .i64 (orI a (orI b c))) ∧ w' = w := by
  go_enter Tryz.func28, Tryz.ntmps28
  go_wp2
  go_loop [8] (fun i => i = .int .i64 0 ∨ (i = .int .i64 1 ∧ a = 0) ∨ (i = .int .i64 2 ∧ a = 0 ∧ b = 0) ∨ (i = .int .i64 3 ∧ a = 0 ∧ b = 0 ∧ c = 0)) (fun i => 3 - (intOf i).toNat)
  case atStart => exact .inl rfl
  case round =>
    rcases hrel with rfl | ⟨rfl, ha⟩ | ⟨rfl, ha, hb⟩ | ⟨rfl, ha, hb, hc⟩
    · by_cases ha : a = 0
      · have HA : Hid (a = 0) := ha
        have hb : (a != 0) = false := by simp [ha]
        go_wp2
        go_round
        case rel => exact .inr (.inl ⟨by go_num, HA.out⟩)
        case measure => simp [intOf]
      · have HA : Hid (¬ a = 0) := ha
        have hb : (a != 0) = true := by simpa using ha
        go_wp2
        go_ret
        exact ⟨by unfold orI; rw [if_neg HA.out]; rfl, rfl⟩
    · have HA : Hid (a = 0) := ha
      clear ha
      by_cases hb : b = 0
      · have HB : Hid (b = 0) := hb
        have hb : (b != 0) = false := by simp [hb]
        go_wp2
        go_round
        case rel => exact .inr (.inr (.inl ⟨by go_num, HA.out, HB.out⟩))
        case measure => simp [intOf]
      · have HB : Hid (¬ b = 0) := hb
        have hb : (b != 0) = true := by simpa using hb
        go_wp2
        go_ret
        exact ⟨by unfold orI; rw [if_pos HA.out, if_neg HB.out]; rfl, rfl⟩
    · have HA : Hid (a = 0 ∧ b = 0) := ⟨ha, hb⟩
      clear ha hb
      by_cases hc : c = 0
      · have HC : Hid (c = 0) := hc
        have hc : (c != 0) = false := by simp [hc]
        go_wp2
        go_round
        case rel => exact .inr (.inr (.inr ⟨by go_num, HA.out.1, HA.out.2, HC.out⟩))
        case measure => simp [intOf]
      · have hc : (c != 0) = true := by simpa using hc
        go_wp2
        go_ret
        exact ⟨by unfold orI; rw [if_pos HA.out.1, if_pos HA.out.2]; rfl, rfl⟩
    · have HA : Hid (a = 0 ∧ b = 0 ∧ c = 0) := ⟨ha, hb, hc⟩
      clear ha hb hc
      go_wp2
      go_ret
      exact ⟨by unfold orI; rw [if_pos HA.out.1, if_pos HA.out.2.1, HA.out.2.2]; rfl, rfl⟩
end Go.Proofs.YtgmpmpgfpchbcaaGreatDoor
