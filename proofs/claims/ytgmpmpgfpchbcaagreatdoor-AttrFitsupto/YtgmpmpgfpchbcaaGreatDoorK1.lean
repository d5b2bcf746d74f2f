/- Keys: keyByte, Key. -/
import Derived.Test.YtgmpmpgfpchbcaaGreatDoorP1
namespace Go.Proofs.YtgmpmpgfpchbcaaGreatDoor
open Go.RowKit
set_option linter.unusedVariables false
set_option linter.unusedSimpArgs false

theorem ranges (C : Int) : C < 46 ∨ C = 46 ∨ C = 47 ∨ (48 ≤ C ∧ C ≤ 57) ∨ (58 ≤ C ∧ C ≤ 64) ∨ (65 ≤ C ∧ C ≤ 90) ∨ (91 ≤ C ∧ C ≤ 94) ∨ C = 95 ∨ C = 96 ∨ (97 ≤ C ∧ C ≤ 122) ∨ 122 < C := by omega
theorem kbI_eq (f : Bool) (C : Int) (p q r s t : Bool) (h1 : decide (97 ≤ C ∧ C ≤ 122) = p) (h2 : decide (65 ≤ C ∧ C ≤ 90) = q) (h3 : decide (C = 95) = r) (h4 : decide (48 ≤ C ∧ C ≤ 57) = s) (h5 : decide (C = 46) = t) : kbI f C = (p || q || r || (!f && (s || t))) := by
  unfold kbI; rw [h1, h2, h3, h4, h5]
set_option maxHeartbeats 4000000 in
theorem keyByte_any (C : Int) (f : Bool) (w : World) (c0 : 0 ≤ C) (c1 : C ≤ 255) : Calls Tryz.prog 41 #[.int .u8 C, .bool f] w fun e w' => e = .returned (.bool (kbI f C)) ∧ w' = w := by
  rcases ranges C with h | h | h | ⟨h, h'⟩ | ⟨h, h'⟩ | ⟨h, h'⟩ | ⟨h, h'⟩ | h | h | ⟨h, h'⟩ | h
  · have e : kbI f C = false := by rw [kbI_eq f C false false false false false (decide_eq_false (by omega)) (decide_eq_false (by omega)) (decide_eq_false (by omega)) (decide_eq_false (by omega)) (decide_eq_false (by omega))]; simp
    rw [e]
    clear e
    have b1 : ¬ 97 ≤ C := by omega
    have b2 : C ≤ 122 := by omega
    have b3 : ¬ 65 ≤ C := by omega
    have b4 : C ≤ 90 := by omega
    have b5 : ¬ 48 ≤ C := by omega
    have b6 : C ≤ 57 := by omega
    have b7 : (C == 95) = false := by simpa using (by omega : ¬ C = 95)
    have b8 : (C == 46) = false := by simpa using (by omega : ¬ C = 46)
    clear h
    go_enter Tryz.func41, Tryz.ntmps41
    go_wp2
    go_ret
    exact ⟨rfl, rfl⟩
  · have e : kbI f C = (!f) := by rw [kbI_eq f C false false false false true (decide_eq_false (by omega)) (decide_eq_false (by omega)) (decide_eq_false (by omega)) (decide_eq_false (by omega)) (decide_eq_true (by omega))]; simp
    rw [e]
    clear e
    subst h
    go_enter Tryz.func41, Tryz.ntmps41
    go_wp2
    go_ret
    exact ⟨rfl, rfl⟩
  · have e : kbI f C = false := by rw [kbI_eq f C false false false false false (decide_eq_false (by omega)) (decide_eq_false (by omega)) (decide_eq_false (by omega)) (decide_eq_false (by omega)) (decide_eq_false (by omega))]; simp
    rw [e]
    clear e
    subst h
    go_enter Tryz.func41, Tryz.ntmps41
    go_wp2
    go_ret
    exact ⟨rfl, rfl⟩
  · have e : kbI f C = (!f) := by rw [kbI_eq f C false false false true false (decide_eq_false (by omega)) (decide_eq_false (by omega)) (decide_eq_false (by omega)) (decide_eq_true (by omega)) (decide_eq_false (by omega))]; simp
    rw [e]
    clear e
    have b1 : ¬ 97 ≤ C := by omega
    have b2 : C ≤ 122 := by omega
    have b3 : ¬ 65 ≤ C := by omega
    have b4 : C ≤ 90 := by omega
    have b5 : 48 ≤ C := by omega
    have b6 : C ≤ 57 := by omega
    have b7 : (C == 95) = false := by simpa using (by omega : ¬ C = 95)
    have b8 : (C == 46) = false := by simpa using (by omega : ¬ C = 46)
    clear h h'
    go_enter Tryz.func41, Tryz.ntmps41
    go_wp2
    go_ret
    exact ⟨rfl, rfl⟩
  · have e : kbI f C = false := by rw [kbI_eq f C false false false false false (decide_eq_false (by omega)) (decide_eq_false (by omega)) (decide_eq_false (by omega)) (decide_eq_false (by omega)) (decide_eq_false (by omega))]; simp
    rw [e]
    clear e
    have b1 : ¬ 97 ≤ C := by omega
    have b2 : C ≤ 122 := by omega
    have b3 : ¬ 65 ≤ C := by omega
    have b4 : C ≤ 90 := by omega
    have b5 : 48 ≤ C := by omega
    have b6 : ¬ C ≤ 57 := by omega
    have b7 : (C == 95) = false := by simpa using (by omega : ¬ C = 95)
    have b8 : (C == 46) = false := by simpa using (by omega : ¬ C = 46)
    clear h h'
    go_enter Tryz.func41, Tryz.ntmps41
    go_wp2
    go_ret
    exact ⟨rfl, rfl⟩
  · have e : kbI f C = true := by rw [kbI_eq f C false true false false false (decide_eq_false (by omega)) (decide_eq_true (by omega)) (decide_eq_false (by omega)) (decide_eq_false (by omega)) (decide_eq_false (by omega))]; simp
    rw [e]
    clear e
    have b1 : ¬ 97 ≤ C := by omega
    have b2 : C ≤ 122 := by omega
    have b3 : 65 ≤ C := by omega
    have b4 : C ≤ 90 := by omega
    have b5 : 48 ≤ C := by omega
    have b6 : ¬ C ≤ 57 := by omega
    have b7 : (C == 95) = false := by simpa using (by omega : ¬ C = 95)
    have b8 : (C == 46) = false := by simpa using (by omega : ¬ C = 46)
    clear h h'
    go_enter Tryz.func41, Tryz.ntmps41
    go_wp2
    go_ret
    exact ⟨rfl, rfl⟩
  · have e : kbI f C = false := by rw [kbI_eq f C false false false false false (decide_eq_false (by omega)) (decide_eq_false (by omega)) (decide_eq_false (by omega)) (decide_eq_false (by omega)) (decide_eq_false (by omega))]; simp
    rw [e]
    clear e
    have b1 : ¬ 97 ≤ C := by omega
    have b2 : C ≤ 122 := by omega
    have b3 : 65 ≤ C := by omega
    have b4 : ¬ C ≤ 90 := by omega
    have b5 : 48 ≤ C := by omega
    have b6 : ¬ C ≤ 57 := by omega
    have b7 : (C == 95) = false := by simpa using (by omega : ¬ C = 95)
    have b8 : (C == 46) = false := by simpa using (by omega : ¬ C = 46)
    clear h h'
    go_enter Tryz.func41, Tryz.ntmps41
    go_wp2
    go_ret
    exact ⟨rfl, rfl⟩
  · have e : kbI f C = true := by rw [kbI_eq f C false false true false false (decide_eq_false (by omega)) (decide_eq_false (by omega)) (decide_eq_true (by omega)) (decide_eq_false (by omega)) (decide_eq_false (by omega))]; simp
    rw [e]
    clear e
    subst h
    go_enter Tryz.func41, Tryz.ntmps41
    go_wp2
    go_ret
    exact ⟨rfl, rfl⟩
  · have e : kbI f C = false := by rw [kbI_eq f C false false false false false (decide_eq_false (by omega)) (decide_eq_false (by omega)) (decide_eq_false (by omega)) (decide_eq_false (by omega)) (decide_eq_false (by omega))]; simp
    rw [e]
    clear e
    subst h
    go_enter Tryz.func41, Tryz.ntmps41
    go_wp2
    go_ret
    exact ⟨rfl, rfl⟩
  · have e : kbI f C = true := by rw [kbI_eq f C true false false false false (decide_eq_true (by omega)) (decide_eq_false (by omega)) (decide_eq_false (by omega)) (decide_eq_false (by omega)) (decide_eq_false (by omega))]; simp
    rw [e]
    clear e
    have b1 : 97 ≤ C := by omega
    have b2 : C ≤ 122 := by omega
    have b3 : 65 ≤ C := by omega
    have b4 : ¬ C ≤ 90 := by omega
    have b5 : 48 ≤ C := by omega
    have b6 : ¬ C ≤ 57 := by omega
    have b7 : (C == 95) = false := by simpa using (by omega : ¬ C = 95)
    have b8 : (C == 46) = false := by simpa using (by omega : ¬ C = 46)
    clear h h'
    go_enter Tryz.func41, Tryz.ntmps41
    go_wp2
    go_ret
    exact ⟨rfl, rfl⟩
  · have e : kbI f C = false := by rw [kbI_eq f C false false false false false (decide_eq_false (by omega)) (decide_eq_false (by omega)) (decide_eq_false (by omega)) (decide_eq_false (by omega)) (decide_eq_false (by omega))]; simp
    rw [e]
    clear e
    have b1 : 97 ≤ C := by omega
    have b2 : ¬ C ≤ 122 := by omega
    have b3 : 65 ≤ C := by omega
    have b4 : ¬ C ≤ 90 := by omega
    have b5 : 48 ≤ C := by omega
    have b6 : ¬ C ≤ 57 := by omega
    have b7 : (C == 95) = false := by simpa using (by omega : ¬ C = 95)
    have b8 : (C == 46) = false := by simpa using (by omega : ¬ C = 46)
    clear h
    go_enter Tryz.func41, Tryz.ntmps41
    go_wp2
    go_ret
    exact ⟨rfl, rfl⟩
set_option maxHeartbeats 4000000 in
theorem key_any (l : List UInt8) (w : World) (hm : (l.length : Int) ≤ 140737488351232) : Calls Tryz.prog 24 #[.string (tx l)] w fun e w' => e = .returned (.bool (keyI l)) ∧ w' = w := by
  have hsz : (tx l).size = l.length := tx_size l
  have HX : Hid (∀ (k : Nat) (c : UInt8), l[k]? = some c → ∀ W, (Instr.index 9 (.string (tx l)) (.int .i64 (k : Int))).run Tryz.prog W = .ok (.int .u8 (c.toNat : Int)) W) := fun k c h W => tx_at l k c h _ W
  by_cases h0 : l = []
  · subst h0
    rw [key_len [] (by simp)]
    have hq : (tx []) = ⟨#[]⟩ := rfl
    rw [hq]
    go_enter Tryz.func24, Tryz.ntmps24
    go_wp2
    go_ret
    exact ⟨rfl, rfl⟩
  · have hq : (tx l).toList.isEmpty = false := by rw [tx_list]; simpa using h0
    have hq2 : ¬ (tx l).toList = [] := by rw [tx_list]; exact h0
    have h1 : 1 ≤ l.length := by cases l with | nil => exact (h0 rfl).elim | cons _ _ => simp
    by_cases h64 : l.length ≤ 64
    · have h64' : ¬ (64 : Int) < (l.length : Int) := by omega
      go_enter Tryz.func24, Tryz.ntmps24
      go_wp2
      go_loop [13] (fun i => ∃ (k : Nat), k ≤ l.length ∧ i = .int .i64 k ∧ ∀ j c, j < k → l[j]? = some c → kb (j == 0) c = true) (fun i => l.length - (intOf i).toNat)
      case atStart => exact ⟨0, Nat.zero_le _, rfl, fun j c hj _ => by omega⟩
      case round =>
        obtain ⟨k, hk, rfl, hD⟩ := hrel
        have HD : Hid (∀ j c, j < k → l[j]? = some c → kb (j == 0) c = true) := hD
        clear hD
        by_cases hlt : k < l.length
        · obtain ⟨c, hc⟩ : ∃ c, l[k]? = some c := ⟨_, List.getElem?_eq_getElem hlt⟩
          have hix := HX.out k c hc
          have HC : Hid (l[k]? = some c) := hc
          have hlt' : (k : Int) < (l.length : Int) := by omega
          have hcb : c.toNat < 256 := UInt8.toNat_lt c
          have HKB : Hid (∀ f, Calls Tryz.prog 41 #[.int .u8 (c.toNat : Int), .bool f] w fun e w' => e = .returned (.bool (kbI f (c.toNat : Int))) ∧ w' = w) := fun f => keyByte_any _ f w (by omega) (by omega)
          have hke : ((k : Int) == 0) = (k == 0) := by
            rw [Bool.eq_iff_iff]; simp
          obtain ⟨r, hr⟩ : ∃ r, kb (k == 0) c = r := ⟨_, rfl⟩
          have HRR : Hid (kb (k == 0) c = r) := hr
          clear hc hr
          go_wp2_with fail
          refine (HKB.out _).mono ?_
          rintro e w5 ⟨rfl, hw5⟩
          rw [hw5]
          clear hw5
          simp only
          rw [show kbI (k == 0) (c.toNat : Int) = r from HRR.out]
          cases r
          · have HN : Hid (keyI l = false) := key_no l k c HC.out HRR.out
            go_wp2
            go_ret
            exact ⟨by rw [HN.out]; rfl, rfl⟩
          · go_wp2
            go_round
            case rel =>
              refine ⟨k + 1, by omega, by go_num, fun j x hj hx => ?_⟩
              rcases (show j = k ∨ j < k from by omega) with rfl | h
              · rw [HC.out] at hx
                rw [← Option.some.inj hx]
                exact HRR.out
              · exact HD.out j x h hx
            case measure => simp [intOf]; omega
        · have hkk : k = l.length := by omega
          have hge : ¬ ((k : Int) < (l.length : Int)) := by omega
          have HY : Hid (keyI l = true) := key_yes l h1 h64 (fun j c hj => HD.out j c (by have := (List.getElem?_eq_some_iff.1 hj).1; omega) hj)
          clear hkk hlt
          go_wp2
          go_ret
          exact ⟨by rw [HY.out]; rfl, rfl⟩
    · rw [key_len l (by omega)]
      have h64' : (64 : Int) < (l.length : Int) := by omega
      clear h64 h0
      go_enter Tryz.func24, Tryz.ntmps24
      go_wp2
      go_ret
      exact ⟨rfl, rfl⟩
end Go.Proofs.YtgmpmpgfpchbcaaGreatDoor
