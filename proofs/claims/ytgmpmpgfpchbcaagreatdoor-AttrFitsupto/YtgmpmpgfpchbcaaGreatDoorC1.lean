/- Texts compared; attributes by their keys. -/
import Derived.Test.YtgmpmpgfpchbcaaGreatDoorK1
import Derived.Laws.Cover1
namespace Go.Proofs.YtgmpmpgfpchbcaaGreatDoor
open Go.RowKit
set_option linter.unusedVariables false
set_option linter.unusedSimpArgs false

/-- Which of two texts is less. -/
def csI (a b : List UInt8) : Int := if Op.bytesLess a b = true then -1 else if a = b then 0 else 1
theorem isNaN_any (a : List UInt8) (w : World) : Calls Tryz.prog 53 #[.string (tx a)] w fun e w' => e = .returned (.bool false) ∧ w' = w := by
  go_enter Tryz.func53, Tryz.ntmps53
  go_wp2
  go_ret
  exact ⟨by simp, rfl⟩
theorem compare_any (a b : List UInt8) (w : World) : Calls Tryz.prog 29 #[.string (tx a), .string (tx b)] w fun e w' => e = .returned (.int .i64 (csI a b)) ∧ w' = w := by
  have HN : Hid (∀ a, Calls Tryz.prog 53 #[.string (tx a)] w fun e w' => e = .returned (.bool false) ∧ w' = w) := fun a => isNaN_any a w
  have hta := tx_list a
  have htb := tx_list b
  by_cases h : Op.bytesLess a b = true
  · have e : csI a b = -1 := by unfold csI; rw [if_pos h]
    have h' : Op.bytesLess (tx a).toList (tx b).toList = true := by rw [hta, htb]; exact h
    rw [e]
    clear h e hta htb
    go_enter Tryz.func29, Tryz.ntmps29
    go_wp2_with (go_at_call 53; refine (HN.out _).mono ?_; rintro e w1 ⟨rfl, hw1⟩; rw [hw1]; clear hw1)
    go_ret
    exact ⟨rfl, rfl⟩
  · have h' : Op.bytesLess (tx a).toList (tx b).toList = false := by rw [hta, htb]; simpa using h
    by_cases he : a = b
    · have e : csI a b = 0 := by unfold csI; rw [if_neg h, if_pos he]
      rw [e]
      subst he
      clear h e hta htb
      go_enter Tryz.func29, Tryz.ntmps29
      go_wp2_with (go_at_call 53; refine (HN.out _).mono ?_; rintro e w1 ⟨rfl, hw1⟩; rw [hw1]; clear hw1)
      go_ret
      exact ⟨rfl, rfl⟩
    · have e : csI a b = 1 := by unfold csI; rw [if_neg h, if_neg he]
      have h2 : ((tx a).toList == (tx b).toList) = false := by rw [hta, htb]; simpa using he
      have h3 : ¬ (tx a).toList = (tx b).toList := by rw [hta, htb]; exact he
      rw [e]
      clear h e hta htb he
      go_enter Tryz.func29, Tryz.ntmps29
      go_wp2_with (go_at_call 53; refine (HN.out _).mono ?_; rintro e w1 ⟨rfl, hw1⟩; rw [hw1]; clear hw1)
      go_ret
      exact ⟨rfl, rfl⟩
theorem bel1 (w : World) (o : Obj) : Below w.heap.size w (w.alloc o) := (Below.refl _ w).alloc (Nat.le_refl _) _
theorem byKey_any (a b c d : List UInt8) (w : World) : Calls Tryz.prog 34 #[.agg #[.string (tx a), .string (tx b)], .agg #[.string (tx c), .string (tx d)]] w fun e w' => e = .returned (.int .i64 (csI a c)) ∧ Below w.heap.size w w' := by
  have HC : Hid (∀ W, Calls Tryz.prog 29 #[.string (tx a), .string (tx c)] W fun e w' => e = .returned (.int .i64 (csI a c)) ∧ w' = W) := fun W => compare_any a c W
  go_enter Tryz.func34, Tryz.ntmps34
  go_wp2_with (go_at_call 29; refine (HC.out _).mono ?_; rintro e w1 ⟨rfl, hw1⟩; rw [hw1]; clear hw1)
  go_ret
  exact ⟨rfl, (bel1 _ _).trans ((bel1 _ _).mono (by simp))⟩
end Go.Proofs.YtgmpmpgfpchbcaaGreatDoor
