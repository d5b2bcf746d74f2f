/- The model's names. -/
import Derived.Test.YtnghgclogeefgaaN1
namespace Go.Proofs.Ytnghgclogeefgaa
open Go.RowKit
set_option linter.unusedVariables false
set_option linter.unusedSimpArgs false

set_option maxHeartbeats 1000000 in
theorem fits_any (l : List UInt8) (w : World) (hm : (l.length : Int) ≤ 140737488351232) :
    Calls Try.prog 34 #[.string (tx l)] w fun e w' => e = .returned (.int .i64 (nl l)) ∧ w' = w := by
  have hsz : (tx l).size = l.length := tx_size l
  have HX : Hid (∀ (k : Nat) (c : UInt8), l[k]? = some c → ∀ W, (Instr.index 9 (.string (tx l)) (.int .i64 (k : Int))).run Try.prog W = .ok (.int .u8 (c.toNat : Int)) W) := fun k c h W => tx_at l k c h _ W
  go_enter Try.func34, Try.ntmps34
  go_wp2
  go_loop [3, 4, 5] (fun i _ _ => ∃ (k : Nat), k ≤ l.length ∧ k ≤ 32 ∧ i = .int .i64 k ∧ ∀ j c, j < k → l[j]? = some c → j < 32 ∧ okB (j == 0) c = true) (fun i _ _ => l.length - (intOf i).toNat)
  case atStart => exact ⟨0, Nat.zero_le _, by omega, rfl, fun j c hj _ => by omega⟩
  case round =>
    obtain ⟨k, hk, hk2, rfl, hD⟩ := hrel
    have HD : Hid _ := hD
    clear hD
    by_cases hlt : k < l.length
    · obtain ⟨c, hc⟩ : ∃ c, l[k]? = some c := ⟨_, List.getElem?_eq_getElem hlt⟩
      have hix := HX.out k c hc
      have HC : Hid _ := hc
      have hlt' : (k : Int) < (l.length : Int) := by omega
      clear hc
      by_cases h32 : k < 32
      · have h32' : (k : Int) < 32 := by omega
        have hcb : c.toNat < 256 := UInt8.toNat_lt c
        obtain ⟨C, hC⟩ : ∃ C : Int, (c.toNat : Int) = C := ⟨_, rfl⟩
        rw [hC] at hix
        have c0 : 0 ≤ C := by omega
        have c1 : C ≤ 255 := by omega
        have HCC : Hid _ := hC
        clear hC hcb
        have HB : Hid ((k = 0 → okB (k == 0) c = decide (97 ≤ C ∧ C ≤ 122)) ∧ (0 < k → okB (k == 0) c = decide ((97 ≤ C ∧ C ≤ 122) ∨ (48 ≤ C ∧ C ≤ 57) ∨ C = 45))) := by
          refine ⟨fun h => ?_, fun h => ?_⟩
          · subst h; exact okB_first HCC.out
          · rw [show (k == 0) = false by simpa using (by omega : ¬ k = 0)]; exact okB_rest HCC.out
        have HS : Hid (okB (k == 0) c = true → ∀ j x, j < k + 1 → l[j]? = some x → j < 32 ∧ okB (j == 0) x = true) := by
          intro hg j x hj hx
          rcases (show j = k ∨ j < k from by omega) with rfl | h
          · rw [HC.out] at hx
            rw [← Option.some.inj hx]
            exact ⟨h32, hg⟩
          · exact HD.out j x h hx
        have HE : Hid (okB (k == 0) c = false → nl l = k) := by
          intro hb
          refine nl_of k l HD.out (by omega) (fun x hx => ?_)
          rw [HC.out] at hx
          rw [← Option.some.inj hx, hb]
          simp
        by_cases g6 : 97 ≤ C ∧ C ≤ 122
        · obtain ⟨g1, g2⟩ := g6
          have HG : Hid (okB (k == 0) c = true) := by
            show _ = _
            rcases Nat.eq_zero_or_pos k with h | h
            · rw [HB.out.1 h]; exact decide_eq_true ⟨g1, g2⟩
            · rw [HB.out.2 h]; exact decide_eq_true (.inl ⟨g1, g2⟩)
          go_wp2
          go_round
          case rel => exact ⟨k + 1, by omega, by omega, by go_num, HS.out HG.out⟩
          case measure => simp [intOf]; omega
        · by_cases hk0 : k = 0
          · have HG : Hid (nl l = k) := HE.out (by rw [HB.out.1 hk0]; exact decide_eq_false g6)
            have hk0' : ((k : Int) == 0) = true := by simpa using hk0
            rcases (show C < 97 ∨ 122 < C from by omega) with g | g
            all_goals
              try have dd : decide (C ≤ 122) = false := decide_eq_false (by omega)
              clear hk0 g6
              go_wp2
              go_ret
              exact ⟨by rw [HG.out]; rfl, rfl⟩
          · have hk0' : ((k : Int) == 0) = false := by simpa using hk0
            have HB2 : Hid (okB (k == 0) c = decide ((97 ≤ C ∧ C ≤ 122) ∨ (48 ≤ C ∧ C ≤ 57) ∨ C = 45)) := HB.out.2 (by omega)
            clear HB hk0
            rcases (show C = 45 ∨ (48 ≤ C ∧ C ≤ 57) ∨ C < 45 ∨ (45 < C ∧ C < 48) ∨ (57 < C ∧ C < 97) ∨ 122 < C from by omega) with g | ⟨g, g'⟩ | g | ⟨g, g'⟩ | ⟨g, g'⟩ | g
            · have HG : Hid (okB (k == 0) c = true) := by show _ = _; rw [HB2.out]; exact decide_eq_true (.inr (.inr g))
              clear g6
              subst g
              go_wp2
              go_round
              case rel => exact ⟨k + 1, by omega, by omega, by go_num, HS.out HG.out⟩
              case measure => simp [intOf]; omega
            · have HG : Hid (okB (k == 0) c = true) := by show _ = _; rw [HB2.out]; exact decide_eq_true (.inr (.inl ⟨g, g'⟩))
              have n45 : (C == 45) = false := by simpa using (by omega : ¬ C = 45)
              have b1 : C < 97 := by omega
              clear g6
              go_wp2
              go_round
              case rel => exact ⟨k + 1, by omega, by omega, by go_num, HS.out HG.out⟩
              case measure => simp [intOf]; omega
            all_goals
              have HG : Hid (nl l = k) := HE.out (by rw [HB2.out]; exact decide_eq_false (by omega))
              have n45 : (C == 45) = false := by simpa using (by omega : ¬ C = 45)
              clear g6
            · have b1 : C < 97 := by omega
              have b2 : C < 48 := by omega
              go_wp2
              go_ret
              exact ⟨by rw [HG.out]; rfl, rfl⟩
            · have b1 : C < 97 := by omega
              go_wp2
              go_ret
              exact ⟨by rw [HG.out]; rfl, rfl⟩
            · have b2 : 48 ≤ C := by omega
              have dd : decide (C ≤ 57) = false := decide_eq_false (by omega)
              go_wp2
              go_ret
              exact ⟨by rw [HG.out]; rfl, rfl⟩
            · have b1 : 97 ≤ C := by omega
              have b2 : 48 ≤ C := by omega
              have b3 : 57 < C := by omega
              have dd : decide (C ≤ 57) = false := decide_eq_false (by omega)
              have dd2 : decide (C ≤ 122) = false := decide_eq_false (by omega)
              go_wp2
              go_ret
              exact ⟨by rw [HG.out]; rfl, rfl⟩
      · have h32' : (32 : Int) ≤ (k : Int) := by omega
        have HE : Hid (nl l = k) := nl_of k l HD.out (by omega) (fun x hx hh => h32 hh.1)
        clear h32
        go_wp2
        go_ret
        exact ⟨by rw [HE.out]; rfl, rfl⟩
    · have hge : (l.length : Int) ≤ (k : Int) := by omega
      have HE : Hid (nl l = k) := nl_of k l HD.out (by omega) (fun x hx => by have := (List.getElem?_eq_some_iff.1 hx).1; omega)
      clear hlt
      go_wp2
      go_ret
      exact ⟨by rw [HE.out]; rfl, rfl⟩
theorem okB_more {c : UInt8} (h : okB true c = true) : okB false c = true := by
  simp only [okB] at h ⊢
  simp at h
  simp
  omega
theorem rn_of (l : List UInt8) (h1 : 1 ≤ l.length) (h2 : l.length ≤ 32) (h3 : ∀ c, l[0]? = some c → okB true c = true) (h4 : ∀ (j : Nat) c, l[j]? = some c → okB false c = true) : rn l := by
  refine ⟨fun e => by rw [e] at h1; simp at h1, nl_of _ _ (fun j c hj hc => ⟨by omega, ?_⟩) (Nat.le_refl _) (fun c hc => ?_)⟩
  · cases j with
    | zero => exact h3 c hc
    | succ j => exact h4 _ c hc
  · rw [List.getElem?_eq_none (Nat.le_refl _)] at hc
    cases hc
theorem not_rn_long (l : List UInt8) (h : 32 < l.length) : ¬ rn l := fun hr => by have := nl_max l; have := hr.2; omega
theorem not_rn_first (l : List UInt8) (c : UInt8) (hc : l[0]? = some c) (h : okB true c = false) : ¬ rn l := fun hr => by
  have h0 : 0 < nl l := by rw [hr.2]; exact (List.getElem?_eq_some_iff.1 hc).1
  have := (nl_get h0 hc).2
  simp [h] at this
theorem not_rn_at (l : List UInt8) (j : Nat) (c : UInt8) (hc : l[j]? = some c) (h : okB false c = false) : ¬ rn l := fun hr => by
  have h0 : j < nl l := by rw [hr.2]; exact (List.getElem?_eq_some_iff.1 hc).1
  have := (nl_get h0 hc).2
  cases j with
  | zero => rw [okB_more this] at h; cases h
  | succ j => simp [h] at this
set_option maxHeartbeats 1000000 in
theorem rname_ref (l : List UInt8) (w : World) (hm : (l.length : Int) ≤ 140737488351232) :
    Calls Try.prog 15 #[.string (tx l)] w fun e w' => e = .returned (.bool (decide (rn l))) ∧ w' = w := by
  have hsz : (tx l).size = l.length := tx_size l
  have HX : Hid (∀ (k : Nat) (c : UInt8), l[k]? = some c → ∀ W, (Instr.index 9 (.string (tx l)) (.int .i64 (k : Int))).run Try.prog W = .ok (.int .u8 (c.toNat : Int)) W) := fun k c h W => tx_at l k c h _ W
  by_cases z1 : l.length < 1
  · have z1' : (l.length : Int) < 1 := by omega
    have HE : Hid (¬ rn l) := fun hr => hr.1 (List.length_eq_zero_iff.1 (by omega))
    clear z1
    go_enter Try.func15, Try.ntmps15
    go_wp2
    go_ret
    exact ⟨by rw [decide_eq_false HE.out]; rfl, rfl⟩
  by_cases z2 : 32 < l.length
  · have z2' : 32 < (l.length : Int) := by omega
    have z1' : 1 ≤ (l.length : Int) := by omega
    have HE : Hid (¬ rn l) := not_rn_long l z2
    clear z1 z2
    go_enter Try.func15, Try.ntmps15
    go_wp2
    go_ret
    exact ⟨by rw [decide_eq_false HE.out]; rfl, rfl⟩
  have z1' : 1 ≤ (l.length : Int) := by omega
  have z2' : (l.length : Int) ≤ 32 := by omega
  obtain ⟨c, hc⟩ : ∃ c, l[0]? = some c := ⟨_, List.getElem?_eq_getElem (by omega)⟩
  have hix0 : ∀ W, (Instr.index 9 (.string (tx l)) (.int .i64 0)).run Try.prog W = .ok (.int .u8 (c.toNat : Int)) W := fun W => tx_at l 0 c hc .i64 W
  have hcb : c.toNat < 256 := UInt8.toNat_lt c
  obtain ⟨C, hC⟩ : ∃ C : Int, (c.toNat : Int) = C := ⟨_, rfl⟩
  rw [hC] at hix0
  have c0 : 0 ≤ C := by omega
  have c1 : C ≤ 255 := by omega
  have hok := okB_first hC
  have HC : Hid (l[0]? = some c) := hc
  have HZ : Hid (1 ≤ l.length ∧ l.length ≤ 32) := ⟨by omega, by omega⟩
  clear hC hcb hc z1 z2 hm
  by_cases g : C < 97
  · have HE : Hid (¬ rn l) := not_rn_first l c HC.out (by rw [hok]; exact decide_eq_false (by omega))
    clear hok
    go_enter Try.func15, Try.ntmps15
    go_wp2
    go_ret
    exact ⟨by rw [decide_eq_false HE.out]; rfl, rfl⟩
  have g1 : 97 ≤ C := by omega
  by_cases g' : 122 < C
  · have HE : Hid (¬ rn l) := not_rn_first l c HC.out (by rw [hok]; exact decide_eq_false (by omega))
    clear hok g
    go_enter Try.func15, Try.ntmps15
    go_wp2
    go_ret
    exact ⟨by rw [decide_eq_false HE.out]; rfl, rfl⟩
  have g2 : C ≤ 122 := by omega
  have HO : Hid (okB true c = true) := by show _ = _; rw [hok]; exact decide_eq_true ⟨g1, g2⟩
  clear g g' hok
  go_enter Try.func15, Try.ntmps15
  go_wp2
  clear hix0 c0 c1 g1 g2
  go_loop [3, 4] (fun i _ => ∃ (k : Nat), k ≤ l.length ∧ i = .int .i64 k ∧ ∀ j c, j < k → l[j]? = some c → okB false c = true) (fun i _ => l.length - (intOf i).toNat)
  case atStart => exact ⟨0, Nat.zero_le _, rfl, fun j c hj _ => by omega⟩
  case round =>
    obtain ⟨k, hk, rfl, hD⟩ := hrel
    have HD : Hid _ := hD
    clear hD
    by_cases hlt : k < l.length
    · obtain ⟨d, hd⟩ : ∃ c, l[k]? = some c := ⟨_, List.getElem?_eq_getElem hlt⟩
      have hix := HX.out k d hd
      have HC' : Hid _ := hd
      have hlt' : (k : Int) < (l.length : Int) := by omega
      have hcb : d.toNat < 256 := UInt8.toNat_lt d
      obtain ⟨X, hX⟩ : ∃ X : Int, (d.toNat : Int) = X := ⟨_, rfl⟩
      rw [hX] at hix
      have c0 : 0 ≤ X := by omega
      have c1 : X ≤ 255 := by omega
      have HB2 : Hid (okB false d = decide ((97 ≤ X ∧ X ≤ 122) ∨ (48 ≤ X ∧ X ≤ 57) ∨ X = 45)) := okB_rest hX
      clear hd hX hcb
      have HS : Hid (okB false d = true → ∀ j x, j < k + 1 → l[j]? = some x → okB false x = true) := by
        intro hg j x hj hx
        rcases (show j = k ∨ j < k from by omega) with rfl | h
        · rw [HC'.out] at hx
          rw [← Option.some.inj hx]
          exact hg
        · exact HD.out j x h hx
      rcases (show (97 ≤ X ∧ X ≤ 122) ∨ X = 45 ∨ (48 ≤ X ∧ X ≤ 57) ∨ X < 45 ∨ (45 < X ∧ X < 48) ∨ (57 < X ∧ X < 97) ∨ 122 < X from by omega) with ⟨g, g'⟩ | g | ⟨g, g'⟩ | g | ⟨g, g'⟩ | ⟨g, g'⟩ | g
      · have HG : Hid (okB false d = true) := by show _ = _; rw [HB2.out]; exact decide_eq_true (.inl ⟨g, g'⟩)
        go_wp2
        go_round
        case rel => exact ⟨k + 1, by omega, by go_num, HS.out HG.out⟩
        case measure => simp [intOf]; omega
      · have HG : Hid (okB false d = true) := by show _ = _; rw [HB2.out]; exact decide_eq_true (.inr (.inr g))
        subst g
        go_wp2
        go_round
        case rel => exact ⟨k + 1, by omega, by go_num, HS.out HG.out⟩
        case measure => simp [intOf]; omega
      · have HG : Hid (okB false d = true) := by show _ = _; rw [HB2.out]; exact decide_eq_true (.inr (.inl ⟨g, g'⟩))
        have b1 : X < 97 := by omega
        go_wp2
        go_round
        case rel => exact ⟨k + 1, by omega, by go_num, HS.out HG.out⟩
        case measure => simp [intOf]; omega
      all_goals
        have HG : Hid (¬ rn l) := not_rn_at l k d HC'.out (by rw [HB2.out]; exact decide_eq_false (by omega))
        have n45 : (X == 45) = false := by simpa using (by omega : ¬ X = 45)
      · have b1 : X < 97 := by omega
        have b2 : X < 48 := by omega
        go_wp2
        go_ret
        exact ⟨by rw [decide_eq_false HG.out]; rfl, rfl⟩
      · have b1 : X < 97 := by omega
        go_wp2
        go_ret
        exact ⟨by rw [decide_eq_false HG.out]; rfl, rfl⟩
      · have b2 : 48 ≤ X := by omega
        have dd : decide (X ≤ 57) = false := decide_eq_false (by omega)
        go_wp2
        go_ret
        exact ⟨by rw [decide_eq_false HG.out]; rfl, rfl⟩
      · have b1 : 97 ≤ X := by omega
        have b2 : 48 ≤ X := by omega
        have b3 : 57 < X := by omega
        have dd : decide (X ≤ 57) = false := decide_eq_false (by omega)
        have dd2 : decide (X ≤ 122) = false := decide_eq_false (by omega)
        go_wp2
        go_ret
        exact ⟨by rw [decide_eq_false HG.out]; rfl, rfl⟩
    · have hge : (l.length : Int) ≤ (k : Int) := by omega
      have HE : Hid (rn l) := rn_of l HZ.out.1 HZ.out.2 (fun x hx => by rw [HC.out] at hx; rw [← Option.some.inj hx]; exact HO.out) (fun j x hx => HD.out j x (by have := (List.getElem?_eq_some_iff.1 hx).1; omega) hx)
      clear hlt
      go_wp2
      go_ret
      exact ⟨by rw [decide_eq_true HE.out]; rfl, rfl⟩
end Go.Proofs.Ytnghgclogeefgaa
