/- Keys: the model's. -/
import Derived.Test.YtnfocmoieofbpaaDoorK1
namespace Go.Proofs.YtnfocmoieofbpaaDoor
open Go.RowKit
set_option linter.unusedVariables false
set_option linter.unusedSimpArgs false

set_option maxRecDepth 20000 in
set_option maxHeartbeats 8000000 in
theorem rkey_any (l : List UInt8) (w : World) (hm : (l.length : Int) ≤ 140737488351232) : Calls Tryd.prog 14 #[.string (tx l)] w fun e w' => e = .returned (.bool (keyI l)) ∧ w' = w := by
  have hsz : (tx l).size = l.length := tx_size l
  have HX : Hid (∀ (k : Nat) (c : UInt8), l[k]? = some c → ∀ W, (Instr.index 9 (.string (tx l)) (.int .i64 (k : Int))).run Tryd.prog W = .ok (.int .u8 (c.toNat : Int)) W) := fun k c h W => tx_at l k c h _ W
  by_cases h1 : l.length < 1
  · rw [key_len l (by omega)]
    have h1' : (l.length : Int) < 1 := by omega
    clear h1
    go_enter Tryd.func14, Tryd.ntmps14
    go_wp2
    go_ret
    exact ⟨rfl, rfl⟩
  · have h1' : ¬ (l.length : Int) < 1 := by omega
    by_cases h64 : l.length ≤ 64
    · have h64' : ¬ (64 : Int) < (l.length : Int) := by omega
      have HL : Hid (1 ≤ l.length ∧ l.length ≤ 64) := ⟨by omega, h64⟩
      clear h1 h64
      go_enter Tryd.func14, Tryd.ntmps14
      go_wp2
      go_loop [3] (fun i => ∃ (k : Nat), k ≤ l.length ∧ i = .int .i64 k ∧ ∀ j c, j < k → l[j]? = some c → kb (j == 0) c = true) (fun i => l.length - (intOf i).toNat)
      case atStart => exact ⟨0, Nat.zero_le _, rfl, fun j c hj _ => by omega⟩
      case round =>
        obtain ⟨k, hk, rfl, hD⟩ := hrel
        have HD : Hid (∀ j c, j < k → l[j]? = some c → kb (j == 0) c = true) := hD
        clear hD
        by_cases hlt : k < l.length
        · obtain ⟨c, hc⟩ : ∃ c, l[k]? = some c := ⟨_, List.getElem?_eq_getElem hlt⟩
          have hix := HX.out k c hc
          have HC : Hid (l[k]? = some c) := hc
          have hlt' : (k : Int) < (l.length : Int) := by omega
          have hcb : c.toNat < 256 := UInt8.toNat_lt c
          have HN : Hid (kb (k == 0) c = false → keyI l = false) := fun h => key_no l k c HC.out h
          have HS : Hid (kb (k == 0) c = true → ∀ j x, j < k + 1 → l[j]? = some x → kb (j == 0) x = true) := by
            intro hg j x hj hx
            rcases (show j = k ∨ j < k from by omega) with rfl | h
            · rw [HC.out] at hx
              rw [← Option.some.inj hx]
              exact hg
            · exact HD.out j x h hx
          unfold kb at HN HS
          obtain ⟨C, hC⟩ : ∃ C : Int, (c.toNat : Int) = C := ⟨_, rfl⟩
          rw [hC] at hix HN
          have HS' : Hid (kbI (k == 0) C = true → ∀ j x, j < k + 1 → l[j]? = some x → kb (j == 0) x = true) := by rw [← hC]; exact HS
          have c0 : 0 ≤ C := by omega
          have c1 : C ≤ 255 := by omega
          clear hc hcb hC HS
          have hke : ((k : Int) == 0) = (k == 0) := by rw [Bool.eq_iff_iff]; simp
          obtain ⟨f, hf⟩ : ∃ f, (k == 0) = f := ⟨_, rfl⟩
          rw [hf] at hke HN HS'
          clear hf
          rcases ranges C with h | h | h | ⟨h, h'⟩ | ⟨h, h'⟩ | ⟨h, h'⟩ | ⟨h, h'⟩ | h | h | ⟨h, h'⟩ | h
          · have e : kbI f C = false := by rw [kbI_eq f C false false false false false (decide_eq_false (by omega)) (decide_eq_false (by omega)) (decide_eq_false (by omega)) (decide_eq_false (by omega)) (decide_eq_false (by omega))]; simp
            rw [e] at HN HS'
            clear e
            have b1 : ¬ 97 ≤ C := by omega
            have b2 : C ≤ 122 := by omega
            have b3 : ¬ 65 ≤ C := by omega
            have b4 : C ≤ 90 := by omega
            have b5 : ¬ 48 ≤ C := by omega
            have b6 : C ≤ 57 := by omega
            have b7 : (C == 95) = false := by simpa using (by omega : ¬ C = 95)
            have b8 : (C == 46) = false := by simpa using (by omega : ¬ C = 46)
            clear h
            have HG : Hid (keyI l = false) := HN.out rfl
            cases f
            all_goals
              go_wp2
              go_ret
              exact ⟨by rw [HG.out]; rfl, rfl⟩
          · have e : kbI f C = (!f) := by rw [kbI_eq f C false false false false true (decide_eq_false (by omega)) (decide_eq_false (by omega)) (decide_eq_false (by omega)) (decide_eq_false (by omega)) (decide_eq_true (by omega))]; simp
            rw [e] at HN HS'
            clear e
            subst h
            cases f
            · have HG : Hid (∀ j x, j < k + 1 → l[j]? = some x → kb (j == 0) x = true) := HS'.out rfl
              go_wp2
              go_round
              case rel => exact ⟨k + 1, by omega, by go_num, HG.out⟩
              case measure => simp [intOf]; omega
            · have HG : Hid (keyI l = false) := HN.out rfl
              go_wp2
              go_ret
              exact ⟨by rw [HG.out]; rfl, rfl⟩
          · have e : kbI f C = false := by rw [kbI_eq f C false false false false false (decide_eq_false (by omega)) (decide_eq_false (by omega)) (decide_eq_false (by omega)) (decide_eq_false (by omega)) (decide_eq_false (by omega))]; simp
            rw [e] at HN HS'
            clear e
            subst h
            have HG : Hid (keyI l = false) := HN.out rfl
            cases f
            all_goals
              go_wp2
              go_ret
              exact ⟨by rw [HG.out]; rfl, rfl⟩
          · have e : kbI f C = (!f) := by rw [kbI_eq f C false false false true false (decide_eq_false (by omega)) (decide_eq_false (by omega)) (decide_eq_false (by omega)) (decide_eq_true (by omega)) (decide_eq_false (by omega))]; simp
            rw [e] at HN HS'
            clear e
            have b1 : ¬ 97 ≤ C := by omega
            have b2 : C ≤ 122 := by omega
            have b3 : ¬ 65 ≤ C := by omega
            have b4 : C ≤ 90 := by omega
            have b5 : 48 ≤ C := by omega
            have b6 : C ≤ 57 := by omega
            have b7 : (C == 95) = false := by simpa using (by omega : ¬ C = 95)
            have b8 : (C == 46) = false := by simpa using (by omega : ¬ C = 46)
            clear h h'
            cases f
            · have HG : Hid (∀ j x, j < k + 1 → l[j]? = some x → kb (j == 0) x = true) := HS'.out rfl
              go_wp2
              go_round
              case rel => exact ⟨k + 1, by omega, by go_num, HG.out⟩
              case measure => simp [intOf]; omega
            · have HG : Hid (keyI l = false) := HN.out rfl
              go_wp2
              go_ret
              exact ⟨by rw [HG.out]; rfl, rfl⟩
          · have e : kbI f C = false := by rw [kbI_eq f C false false false false false (decide_eq_false (by omega)) (decide_eq_false (by omega)) (decide_eq_false (by omega)) (decide_eq_false (by omega)) (decide_eq_false (by omega))]; simp
            rw [e] at HN HS'
            clear e
            have b1 : ¬ 97 ≤ C := by omega
            have b2 : C ≤ 122 := by omega
            have b3 : ¬ 65 ≤ C := by omega
            have b4 : C ≤ 90 := by omega
            have b5 : 48 ≤ C := by omega
            have b6 : ¬ C ≤ 57 := by omega
            have b7 : (C == 95) = false := by simpa using (by omega : ¬ C = 95)
            have b8 : (C == 46) = false := by simpa using (by omega : ¬ C = 46)
            clear h h'
            have HG : Hid (keyI l = false) := HN.out rfl
            cases f
            all_goals
              go_wp2
              go_ret
              exact ⟨by rw [HG.out]; rfl, rfl⟩
          · have e : kbI f C = true := by rw [kbI_eq f C false true false false false (decide_eq_false (by omega)) (decide_eq_true (by omega)) (decide_eq_false (by omega)) (decide_eq_false (by omega)) (decide_eq_false (by omega))]; simp
            rw [e] at HN HS'
            clear e
            have b1 : ¬ 97 ≤ C := by omega
            have b2 : C ≤ 122 := by omega
            have b3 : 65 ≤ C := by omega
            have b4 : C ≤ 90 := by omega
            have b5 : 48 ≤ C := by omega
            have b6 : ¬ C ≤ 57 := by omega
            have b7 : (C == 95) = false := by simpa using (by omega : ¬ C = 95)
            have b8 : (C == 46) = false := by simpa using (by omega : ¬ C = 46)
            clear h h'
            have HG : Hid (∀ j x, j < k + 1 → l[j]? = some x → kb (j == 0) x = true) := HS'.out rfl
            go_wp2
            go_round
            case rel => exact ⟨k + 1, by omega, by go_num, HG.out⟩
            case measure => simp [intOf]; omega
          · have e : kbI f C = false := by rw [kbI_eq f C false false false false false (decide_eq_false (by omega)) (decide_eq_false (by omega)) (decide_eq_false (by omega)) (decide_eq_false (by omega)) (decide_eq_false (by omega))]; simp
            rw [e] at HN HS'
            clear e
            have b1 : ¬ 97 ≤ C := by omega
            have b2 : C ≤ 122 := by omega
            have b3 : 65 ≤ C := by omega
            have b4 : ¬ C ≤ 90 := by omega
            have b5 : 48 ≤ C := by omega
            have b6 : ¬ C ≤ 57 := by omega
            have b7 : (C == 95) = false := by simpa using (by omega : ¬ C = 95)
            have b8 : (C == 46) = false := by simpa using (by omega : ¬ C = 46)
            clear h h'
            have HG : Hid (keyI l = false) := HN.out rfl
            cases f
            all_goals
              go_wp2
              go_ret
              exact ⟨by rw [HG.out]; rfl, rfl⟩
          · have e : kbI f C = true := by rw [kbI_eq f C false false true false false (decide_eq_false (by omega)) (decide_eq_false (by omega)) (decide_eq_true (by omega)) (decide_eq_false (by omega)) (decide_eq_false (by omega))]; simp
            rw [e] at HN HS'
            clear e
            subst h
            have HG : Hid (∀ j x, j < k + 1 → l[j]? = some x → kb (j == 0) x = true) := HS'.out rfl
            go_wp2
            go_round
            case rel => exact ⟨k + 1, by omega, by go_num, HG.out⟩
            case measure => simp [intOf]; omega
          · have e : kbI f C = false := by rw [kbI_eq f C false false false false false (decide_eq_false (by omega)) (decide_eq_false (by omega)) (decide_eq_false (by omega)) (decide_eq_false (by omega)) (decide_eq_false (by omega))]; simp
            rw [e] at HN HS'
            clear e
            subst h
            have HG : Hid (keyI l = false) := HN.out rfl
            cases f
            all_goals
              go_wp2
              go_ret
              exact ⟨by rw [HG.out]; rfl, rfl⟩
          · have e : kbI f C = true := by rw [kbI_eq f C true false false false false (decide_eq_true (by omega)) (decide_eq_false (by omega)) (decide_eq_false (by omega)) (decide_eq_false (by omega)) (decide_eq_false (by omega))]; simp
            rw [e] at HN HS'
            clear e
            have b1 : 97 ≤ C := by omega
            have b2 : C ≤ 122 := by omega
            have b3 : 65 ≤ C := by omega
            have b4 : ¬ C ≤ 90 := by omega
            have b5 : 48 ≤ C := by omega
            have b6 : ¬ C ≤ 57 := by omega
            have b7 : (C == 95) = false := by simpa using (by omega : ¬ C = 95)
            have b8 : (C == 46) = false := by simpa using (by omega : ¬ C = 46)
            clear h h'
            have HG : Hid (∀ j x, j < k + 1 → l[j]? = some x → kb (j == 0) x = true) := HS'.out rfl
            go_wp2
            go_round
            case rel => exact ⟨k + 1, by omega, by go_num, HG.out⟩
            case measure => simp [intOf]; omega
          · have e : kbI f C = false := by rw [kbI_eq f C false false false false false (decide_eq_false (by omega)) (decide_eq_false (by omega)) (decide_eq_false (by omega)) (decide_eq_false (by omega)) (decide_eq_false (by omega))]; simp
            rw [e] at HN HS'
            clear e
            have b1 : 97 ≤ C := by omega
            have b2 : ¬ C ≤ 122 := by omega
            have b3 : 65 ≤ C := by omega
            have b4 : ¬ C ≤ 90 := by omega
            have b5 : 48 ≤ C := by omega
            have b6 : ¬ C ≤ 57 := by omega
            have b7 : (C == 95) = false := by simpa using (by omega : ¬ C = 95)
            have b8 : (C == 46) = false := by simpa using (by omega : ¬ C = 46)
            clear h
            have HG : Hid (keyI l = false) := HN.out rfl
            cases f
            all_goals
              go_wp2
              go_ret
              exact ⟨by rw [HG.out]; rfl, rfl⟩
        · have hkk : k = l.length := by omega
          have hge : ¬ ((k : Int) < (l.length : Int)) := by omega
          have HY : Hid (keyI l = true) := key_yes l HL.out.1 HL.out.2 (fun j c hj => HD.out j c (by have := (List.getElem?_eq_some_iff.1 hj).1; omega) hj)
          clear hkk hlt
          go_wp2
          go_ret
          exact ⟨by rw [HY.out]; rfl, rfl⟩
    · rw [key_len l (by omega)]
      have h64' : (64 : Int) < (l.length : Int) := by omega
      clear h64 h1
      go_enter Tryd.func14, Tryd.ntmps14
      go_wp2
      go_ret
      exact ⟨rfl, rfl⟩
end Go.Proofs.YtnfocmoieofbpaaDoor
