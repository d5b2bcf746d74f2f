/- Names: how many bytes of a text are one. -/
import Derived.Test.YtnghgclogeefgaaP1
import Derived.Lib.TrimByte
namespace Go.Proofs.Ytnghgclogeefgaa
open Go.RowKit
set_option linter.unusedVariables false
set_option linter.unusedSimpArgs false

theorem tx_at (l : List UInt8) (i : Nat) (c : UInt8) (h : l[i]? = some c) (k : IntKind) (W : World) : (Instr.index 9 (.string (tx l)) (.int k (i : Int))).run Try.prog W = .ok (.int .u8 (c.toNat : Int)) W := by
  have hi : i < l.length := (List.getElem?_eq_some_iff.1 h).1
  rw [run_index_string W 9 (tx l) k (i : Int) Try.underlying9, dif_pos (by rw [tx_size]; omega)]
  have e := Lib.getElem_mk l i (by rw [Lib.size_mk]; exact hi)
  rw [h] at e
  have e2 := Option.some.inj e
  simp only [Int.toNat_natCast]
  congr 4
  exact e2.symm
/-- A byte, as a number. -/
theorem okB_first {c : UInt8} {C : Int} (hC : (c.toNat : Int) = C) : okB true c = decide (97 ≤ C ∧ C ≤ 122) := by
  subst hC
  simp only [okB]
  simp
  rw [Bool.eq_iff_iff]
  simp
  omega
theorem okB_rest {c : UInt8} {C : Int} (hC : (c.toNat : Int) = C) : okB false c = decide ((97 ≤ C ∧ C ≤ 122) ∨ (48 ≤ C ∧ C ≤ 57) ∨ C = 45) := by
  subst hC
  simp only [okB]
  rw [Bool.eq_iff_iff]
  simp
  omega

set_option maxHeartbeats 1000000 in
theorem length_any (l : List UInt8) (w : World) (hm : (l.length : Int) ≤ 140737488351232) :
    Calls Try.prog 48 #[.string (tx l)] w fun e w' => e = .returned (.int .i64 (nl l)) ∧ w' = w := by
  have hsz : (tx l).size = l.length := tx_size l
  have HX : Hid (∀ (k : Nat) (c : UInt8), l[k]? = some c → ∀ W, (Instr.index 9 (.string (tx l)) (.int .i64 (k : Int))).run Try.prog W = .ok (.int .u8 (c.toNat : Int)) W) := fun k c h W => tx_at l k c h _ W
  go_enter Try.func48, Try.ntmps48
  go_wp2
  go_step3
  go_wp2
  go_step3
  go_wp2
  go_loop [3, 4, 16, 23] (fun i _ _ _ => ∃ (k : Nat), k ≤ l.length ∧ k ≤ 32 ∧ i = .int .i64 k ∧ ∀ j c, j < k → l[j]? = some c → j < 32 ∧ okB (j == 0) c = true) (fun i _ _ _ => l.length - (intOf i).toNat)
  case atStart => exact ⟨0, Nat.zero_le _, by omega, rfl, fun j c hj _ => by omega⟩
  case round =>
    obtain ⟨k, hk, hk2, rfl, hD⟩ := hrel
    have HD : Hid _ := hD
    clear hD
    by_cases hlt : k < l.length
    · obtain ⟨c, hc⟩ : ∃ c, l[k]? = some c := ⟨_, List.getElem?_eq_getElem hlt⟩
      have hix := HX.out k c hc
      have HC : Hid _ := hc
      have hlt' : (k : Int) < (l.length : Int) := by omega
      clear hc
      by_cases h32 : k < 32
      · have h32' : (k : Int) < 32 := by omega
        have hcb : c.toNat < 256 := UInt8.toNat_lt c
        obtain ⟨C, hC⟩ : ∃ C : Int, (c.toNat : Int) = C := ⟨_, rfl⟩
        rw [hC] at hix
        have c0 : 0 ≤ C := by omega
        have c1 : C ≤ 255 := by omega
        have HCC : Hid _ := hC
        clear hC hcb
        have HB : Hid ((k = 0 → okB (k == 0) c = decide (97 ≤ C ∧ C ≤ 122)) ∧ (0 < k → okB (k == 0) c = decide ((97 ≤ C ∧ C ≤ 122) ∨ (48 ≤ C ∧ C ≤ 57) ∨ C = 45))) := by
          refine ⟨fun h => ?_, fun h => ?_⟩
          · subst h; exact okB_first HCC.out
          · rw [show (k == 0) = false by simpa using (by omega : ¬ k = 0)]; exact okB_rest HCC.out
        have HS : Hid (okB (k == 0) c = true → ∀ j x, j < k + 1 → l[j]? = some x → j < 32 ∧ okB (j == 0) x = true) := by
          intro hg j x hj hx
          rcases (show j = k ∨ j < k from by omega) with rfl | h
          · rw [HC.out] at hx
            rw [← Option.some.inj hx]
            exact ⟨h32, hg⟩
          · exact HD.out j x h hx
        have HE : Hid (okB (k == 0) c = false → nl l = k) := by
          intro hb
          refine nl_of k l HD.out (by omega) (fun x hx => ?_)
          rw [HC.out] at hx
          rw [← Option.some.inj hx, hb]
          simp
        by_cases g6 : 97 ≤ C ∧ C ≤ 122
        · obtain ⟨g1, g2⟩ := g6
          have HG : Hid (okB (k == 0) c = true) := by
            show _ = _
            rcases Nat.eq_zero_or_pos k with h | h
            · rw [HB.out.1 h]; exact decide_eq_true ⟨g1, g2⟩
            · rw [HB.out.2 h]; exact decide_eq_true (.inl ⟨g1, g2⟩)
          go_wp2
          go_round
          case rel => exact ⟨k + 1, by omega, by omega, by go_num, HS.out HG.out⟩
          case measure => simp [intOf]; omega
        · by_cases hk0 : k = 0
          · have HG : Hid (nl l = k) := HE.out (by rw [HB.out.1 hk0]; exact decide_eq_false g6)
            have hk0' : ¬ (0 : Int) < (k : Int) := by omega
            rcases (show C < 97 ∨ 122 < C from by omega) with g | g
            all_goals
              clear hk0 g6
              go_wp2
              go_ret
              exact ⟨by rw [HG.out]; rfl, rfl⟩
          · have hk0' : (0 : Int) < (k : Int) := by omega
            have HB2 : Hid (okB (k == 0) c = decide ((97 ≤ C ∧ C ≤ 122) ∨ (48 ≤ C ∧ C ≤ 57) ∨ C = 45)) := HB.out.2 (by omega)
            clear HB hk0
            rcases (show C = 45 ∨ (48 ≤ C ∧ C ≤ 57) ∨ C < 45 ∨ (45 < C ∧ C < 48) ∨ (57 < C ∧ C < 97) ∨ 122 < C from by omega) with g | ⟨g, g'⟩ | g | ⟨g, g'⟩ | ⟨g, g'⟩ | g
            · have HG : Hid (okB (k == 0) c = true) := by show _ = _; rw [HB2.out]; exact decide_eq_true (.inr (.inr g))
              clear g6
              subst g
              go_wp2
              go_round
              case rel => exact ⟨k + 1, by omega, by omega, by go_num, HS.out HG.out⟩
              case measure => simp [intOf]; omega
            · have HG : Hid (okB (k == 0) c = true) := by show _ = _; rw [HB2.out]; exact decide_eq_true (.inr (.inl ⟨g, g'⟩))
              have n45 : (C == 45) = false := by simpa using (by omega : ¬ C = 45)
              have b1 : C < 97 := by omega
              clear g6
              go_wp2
              go_round
              case rel => exact ⟨k + 1, by omega, by omega, by go_num, HS.out HG.out⟩
              case measure => simp [intOf]; omega
            all_goals
              have HG : Hid (nl l = k) := HE.out (by rw [HB2.out]; exact decide_eq_false (by omega))
              have n45 : (C == 45) = false := by simpa using (by omega : ¬ C = 45)
              clear g6
            · have b1 : C < 97 := by omega
              have b2 : C < 48 := by omega
              go_wp2
              go_ret
              exact ⟨by rw [HG.out]; rfl, rfl⟩
            · have b1 : C < 97 := by omega
              go_wp2
              go_ret
              exact ⟨by rw [HG.out]; rfl, rfl⟩
            · have b2 : 48 ≤ C := by omega
              go_wp2
              go_ret
              exact ⟨by rw [HG.out]; rfl, rfl⟩
            · have b1 : 97 ≤ C := by omega
              have b2 : 48 ≤ C := by omega
              have b3 : 57 < C := by omega
              go_wp2
              go_ret
              exact ⟨by rw [HG.out]; rfl, rfl⟩
      · have h32' : (32 : Int) ≤ (k : Int) := by omega
        have HE : Hid (nl l = k) := nl_of k l HD.out (by omega) (fun x hx hh => h32 hh.1)
        clear h32
        go_wp2
        go_ret
        exact ⟨by rw [HE.out]; rfl, rfl⟩
    · have hge : (l.length : Int) ≤ (k : Int) := by omega
      have HE : Hid (nl l = k) := nl_of k l HD.out (by omega) (fun x hx => by have := (List.getElem?_eq_some_iff.1 hx).1; omega)
      clear hlt
      go_wp2
      go_ret
      exact ⟨by rw [HE.out]; rfl, rfl⟩
end Go.Proofs.Ytnghgclogeefgaa
