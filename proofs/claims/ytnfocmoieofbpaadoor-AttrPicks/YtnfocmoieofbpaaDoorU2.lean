/- Right UTF-8: the model's. -/
import Derived.Test.YtnfocmoieofbpaaDoorU1
namespace Go.Proofs.YtnfocmoieofbpaaDoor
open Go.RowKit
set_option linter.unusedVariables false
set_option linter.unusedSimpArgs false

theorem lead_at (c : Nat) : (c < 128 ∧ leadN c = some (0, 128, 191)) ∨ (128 ≤ c ∧ c < 194 ∧ leadN c = none) ∨ (194 ≤ c ∧ c ≤ 223 ∧ leadN c = some (1, 128, 191)) ∨ (c = 224 ∧ leadN c = some (2, 160, 191)) ∨ (c = 237 ∧ leadN c = some (2, 128, 159)) ∨ (225 ≤ c ∧ c ≤ 239 ∧ c ≠ 237 ∧ leadN c = some (2, 128, 191)) ∨
    (c = 240 ∧ leadN c = some (3, 144, 191)) ∨ (c = 244 ∧ leadN c = some (3, 128, 143)) ∨ (241 ≤ c ∧ c ≤ 243 ∧ leadN c = some (3, 128, 191)) ∨ (245 ≤ c ∧ leadN c = none) := by
  unfold leadN
  by_cases h1 : c < 128
  · left; exact ⟨h1, by rw [if_pos h1]⟩
  by_cases h2 : c < 194
  · right; left; exact ⟨by omega, h2, by rw [if_neg h1, if_neg (by omega), if_neg (by omega), if_neg (by omega)]⟩
  by_cases h3 : c ≤ 223
  · right; right; left; exact ⟨by omega, h3, by rw [if_neg h1, if_pos (by omega)]⟩
  by_cases h4 : c = 224
  · right; right; right; left; subst h4; exact ⟨rfl, by decide⟩
  by_cases h5 : c = 237
  · right; right; right; right; left; subst h5; exact ⟨rfl, by decide⟩
  by_cases h6 : c ≤ 239
  · right; right; right; right; right; left; exact ⟨by omega, h6, h5, by rw [if_neg h1, if_neg (by omega), if_pos (by omega), if_neg h4, if_neg h5]⟩
  by_cases h7 : c = 240
  · right; right; right; right; right; right; left; subst h7; exact ⟨rfl, by decide⟩
  by_cases h8 : c = 244
  · right; right; right; right; right; right; right; left; subst h8; exact ⟨rfl, by decide⟩
  by_cases h9 : c ≤ 243
  · right; right; right; right; right; right; right; right; left; exact ⟨by omega, h9, by rw [if_neg h1, if_neg (by omega), if_neg (by omega), if_pos (by omega), if_neg h7, if_neg h8]⟩
  · right; right; right; right; right; right; right; right; right; exact ⟨by omega, by rw [if_neg h1, if_neg (by omega), if_neg (by omega), if_neg (by omega)]⟩
set_option maxRecDepth 20000 in
set_option maxHeartbeats 16000000 in
theorem utf8_any (l : List UInt8) (w : World) (hm : (l.length : Int) ≤ 140737488351232) : Calls Tryd.prog 47 #[.string (tx l)] w fun e w' => e = .returned (.bool (Lib.validD l)) ∧ w' = w := by
  have hsz : (tx l).size = l.length := tx_size l
  have HX : Hid (∀ (k : Nat) (c : UInt8), l[k]? = some c → ∀ W, (Instr.index 9 (.string (tx l)) (.int .i64 (k : Int))).run Tryd.prog W = .ok (.int .u8 (c.toNat : Int)) W) := fun k c h W => tx_at l k c h _ W
  obtain ⟨A, hA⟩ : ∃ A, Lib.validD l = A := ⟨_, rfl⟩
  have HA : Hid (Lib.validD l = A) := hA
  rw [hA]
  clear hA
  go_enter Tryd.func47, Tryd.ntmps47
  go_wp2
  go_loop [3] (fun i => ∃ (k : Nat), k ≤ l.length ∧ i = .int .i64 k ∧ Lib.validD (l.drop k) = A) (fun i => l.length - (intOf i).toNat)
  case atStart => exact ⟨0, Nat.zero_le _, rfl, HA.out⟩
  case round =>
    obtain ⟨i, hk, rfl, hD⟩ := hrel
    have HD : Hid (Lib.validD (l.drop i) = A) := hD
    clear hD
    by_cases hlt : i < l.length
    · obtain ⟨c, hc⟩ : ∃ c, l[i]? = some c := ⟨_, List.getElem?_eq_getElem hlt⟩
      have hix := HX.out i c hc
      have HC : Hid (l[i]? = some c) := hc
      have hlt' : (i : Int) < (l.length : Int) := by omega
      have HLA := lead_at c.toNat
      have HN : Hid (∀ n lo hi, leadN c.toNat = some (n, lo, hi) → (l.length ≤ i + n → A = false) ∧ (∀ k b, 1 ≤ k → k ≤ n → l[i + k]? = some b → (b.toNat < loK lo k ∨ hiK hi k < b.toNat) → A = false) ∧ (i + n < l.length → (∀ k b, 1 ≤ k → k ≤ n → l[i + k]? = some b → loK lo k ≤ b.toNat ∧ b.toNat ≤ hiK hi k) → Lib.validD (l.drop (i + n + 1)) = A)) := fun n lo hi h =>
        ⟨fun hs => by rw [← HD.out]; exact lead_short l i c n lo hi HC.out h hs, fun k b k1 k2 hb hbad => by rw [← HD.out]; exact lead_no l i c n lo hi HC.out h k k1 k2 b hb hbad, fun hs hok => by rw [← HD.out]; exact (lead_yes l i c n lo hi HC.out h hs hok).symm⟩
      have HNN : Hid (leadN c.toNat = none → A = false) := fun h => by rw [← HD.out]; exact lead_none l i c HC.out h
      obtain ⟨C, hC⟩ : ∃ C : Nat, c.toNat = C := ⟨_, rfl⟩
      rw [hC] at hix HLA HN HNN
      clear hc hC HC
      rcases HLA with ⟨h, e⟩ | ⟨h, h', e⟩ | ⟨h, h', e⟩ | ⟨h, e⟩ | ⟨h, e⟩ | ⟨h, h', h'', e⟩ | ⟨h, e⟩ | ⟨h, e⟩ | ⟨h, h', e⟩ | ⟨h, e⟩
      · skip
        have HK := HN.out 0 128 191 e
        have HKK : Hid ((l.length ≤ i + 0 → A = false) ∧ (∀ k b, 1 ≤ k → k ≤ 0 → l[i + k]? = some b → (b.toNat < loK 128 k ∨ hiK 191 k < b.toNat) → A = false) ∧ (i + 0 < l.length → (∀ k b, 1 ≤ k → k ≤ 0 → l[i + k]? = some b → loK 128 k ≤ b.toNat ∧ b.toNat ≤ hiK 191 k) → Lib.validD (l.drop (i + 0 + 1)) = A)) := HK
        have b0 : (C : Int) < 128 := by omega
        clear HN HNN HK e h
        by_cases hs : l.length ≤ i + 0
        · have HG : Hid (A = false) := HKK.out.1 hs
          have hs' : (l.length : Int) - (i : Int) ≤ 0 := by omega
          clear hs
          go_wp2
          go_ret
          exact ⟨by rw [HG.out]; rfl, rfl⟩
        · have hs' : ¬ (l.length : Int) - (i : Int) ≤ 0 := by omega
          go_wp2
          go_loop [6, 7, 8] (fun vlo vhi vk => ∃ (k : Nat), 1 ≤ k ∧ k ≤ 0 + 1 ∧ vk = .int .i64 k ∧ vlo = .int .u8 (loK 128 k : Nat) ∧ vhi = .int .u8 (hiK 191 k : Nat) ∧ ∀ j b, 1 ≤ j → j < k → l[i + j]? = some b → loK 128 j ≤ b.toNat ∧ b.toNat ≤ hiK 191 j) (fun vlo vhi vk => 0 + 1 - (intOf vk).toNat)
          case atStart => exact ⟨1, Nat.le_refl _, by omega, rfl, rfl, rfl, fun j b h1 h2 _ => by omega⟩
          case round =>
            obtain ⟨k, hk1, hk2, rfl, rfl, rfl, hok⟩ := hrel
            have HOK : Hid (∀ j b, 1 ≤ j → j < k → l[i + j]? = some b → loK 128 j ≤ b.toNat ∧ b.toNat ≤ hiK 191 j) := hok
            clear hok
            by_cases hkn : k ≤ 0
            · exact absurd hkn (by omega)
            · have hkn' : ¬ (k : Int) ≤ 0 := by omega
              have HG : Hid (Lib.validD (l.drop (i + 0 + 1)) = A) := HKK.out.2.2 (by omega) (fun j b h1 h2 hb => HOK.out j b h1 (by omega) hb)
              go_wp2
              go_round
              case rel => exact ⟨i + 0 + 1, by omega, by go_num, HG.out⟩
              case measure => simp [intOf]; omega
      · have HG : Hid (A = false) := HNN.out e
        have b0 : ¬ (C : Int) < 128 := by omega
        have b1 : ¬ 194 ≤ (C : Int) := by omega
        have b3 : ¬ 224 ≤ (C : Int) := by omega
        have b7 : ¬ 240 ≤ (C : Int) := by omega
        clear HN HNN e h h'
        go_wp2
        go_ret
        exact ⟨by rw [HG.out]; rfl, rfl⟩
      · skip
        have HK := HN.out 1 128 191 e
        have HKK : Hid ((l.length ≤ i + 1 → A = false) ∧ (∀ k b, 1 ≤ k → k ≤ 1 → l[i + k]? = some b → (b.toNat < loK 128 k ∨ hiK 191 k < b.toNat) → A = false) ∧ (i + 1 < l.length → (∀ k b, 1 ≤ k → k ≤ 1 → l[i + k]? = some b → loK 128 k ≤ b.toNat ∧ b.toNat ≤ hiK 191 k) → Lib.validD (l.drop (i + 1 + 1)) = A)) := HK
        have b0 : ¬ (C : Int) < 128 := by omega
        have b1 : 194 ≤ (C : Int) := by omega
        have b2 : (C : Int) ≤ 223 := by omega
        clear HN HNN HK e h h'
        by_cases hs : l.length ≤ i + 1
        · have HG : Hid (A = false) := HKK.out.1 hs
          have hs' : (l.length : Int) - (i : Int) ≤ 1 := by omega
          clear hs
          go_wp2
          go_ret
          exact ⟨by rw [HG.out]; rfl, rfl⟩
        · have hs' : ¬ (l.length : Int) - (i : Int) ≤ 1 := by omega
          go_wp2
          go_loop [6, 7, 8] (fun vlo vhi vk => ∃ (k : Nat), 1 ≤ k ∧ k ≤ 1 + 1 ∧ vk = .int .i64 k ∧ vlo = .int .u8 (loK 128 k : Nat) ∧ vhi = .int .u8 (hiK 191 k : Nat) ∧ ∀ j b, 1 ≤ j → j < k → l[i + j]? = some b → loK 128 j ≤ b.toNat ∧ b.toNat ≤ hiK 191 j) (fun vlo vhi vk => 1 + 1 - (intOf vk).toNat)
          case atStart => exact ⟨1, Nat.le_refl _, by omega, rfl, rfl, rfl, fun j b h1 h2 _ => by omega⟩
          case round =>
            obtain ⟨k, hk1, hk2, rfl, rfl, rfl, hok⟩ := hrel
            have HOK : Hid (∀ j b, 1 ≤ j → j < k → l[i + j]? = some b → loK 128 j ≤ b.toNat ∧ b.toNat ≤ hiK 191 j) := hok
            clear hok
            by_cases hkn : k ≤ 1
            · obtain ⟨b, hb⟩ : ∃ b, l[i + k]? = some b := ⟨_, List.getElem?_eq_getElem (by omega)⟩
              have hib := HX.out (i + k) b hb
              rw [show ((i + k : Nat) : Int) = (i : Int) + (k : Int) by omega] at hib
              have HB : Hid (l[i + k]? = some b) := hb
              have hkn' : (k : Int) ≤ 1 := by omega
              have HNX : Hid ((loK 128 k ≤ b.toNat ∧ b.toNat ≤ hiK 191 k) → ∀ j c, 1 ≤ j → j < k + 1 → l[i + j]? = some c → loK 128 j ≤ c.toNat ∧ c.toNat ≤ hiK 191 j) := by
                intro hg j x h1 hj hx
                rcases (show j = k ∨ j < k from by omega) with rfl | hlt2
                · rw [HB.out] at hx; rw [← Option.some.inj hx]; exact hg
                · exact HOK.out j x h1 hlt2 hx
              have HL1 : Hid (loK 128 (k + 1) = 128 ∧ hiK 191 (k + 1) = 191) := by refine ⟨?_, ?_⟩ <;> (first | unfold loK | unfold hiK) <;> rw [if_neg (by omega)]
              have HBAD : Hid ((b.toNat < loK 128 k ∨ hiK 191 k < b.toNat) → A = false) := fun h => HKK.out.2.1 k b hk1 hkn hb h
              obtain ⟨B, hB⟩ : ∃ B : Nat, b.toNat = B := ⟨_, rfl⟩
              rw [hB] at hib HBAD HNX
              obtain ⟨lo, hlo⟩ : ∃ x : Nat, loK 128 k = x := ⟨_, rfl⟩
              obtain ⟨hi, hhi⟩ : ∃ x : Nat, hiK 191 k = x := ⟨_, rfl⟩
              rw [hlo, hhi] at HBAD HNX
              rw [hlo, hhi]
              clear hb hB hlo hhi HB
              by_cases q1 : B < lo
              · have HG : Hid (A = false) := HBAD.out (.inl q1)
                have q1z : (B : Int) < (lo : Int) := by omega
                go_wp2
                go_ret
                exact ⟨by rw [HG.out]; rfl, rfl⟩
              · have q1z : ¬ (B : Int) < (lo : Int) := by omega
                by_cases q2 : hi < B
                · have HG : Hid (A = false) := HBAD.out (.inr q2)
                  have q2z : (hi : Int) < (B : Int) := by omega
                  go_wp2
                  go_ret
                  exact ⟨by rw [HG.out]; rfl, rfl⟩
                · have q2z : ¬ (hi : Int) < (B : Int) := by omega
                  have HG := HNX.out ⟨by omega, by omega⟩
                  have HGG : Hid (∀ j c, 1 ≤ j → j < k + 1 → l[i + j]? = some c → loK 128 j ≤ c.toNat ∧ c.toNat ≤ hiK 191 j) := HG
                  clear HG
                  go_wp2
                  go_round
                  case rel => exact ⟨k + 1, by omega, by omega, by go_num, by rw [HL1.out.1]; rfl, by rw [HL1.out.2]; rfl, HGG.out⟩
                  case measure => simp [intOf]; omega
            · have hkn' : ¬ (k : Int) ≤ 1 := by omega
              have HG : Hid (Lib.validD (l.drop (i + 1 + 1)) = A) := HKK.out.2.2 (by omega) (fun j b h1 h2 hb => HOK.out j b h1 (by omega) hb)
              go_wp2
              go_round
              case rel => exact ⟨i + 1 + 1, by omega, by go_num, HG.out⟩
              case measure => simp [intOf]; omega
      · subst h
        have HK := HN.out 2 160 191 e
        have HKK : Hid ((l.length ≤ i + 2 → A = false) ∧ (∀ k b, 1 ≤ k → k ≤ 2 → l[i + k]? = some b → (b.toNat < loK 160 k ∨ hiK 191 k < b.toNat) → A = false) ∧ (i + 2 < l.length → (∀ k b, 1 ≤ k → k ≤ 2 → l[i + k]? = some b → loK 160 k ≤ b.toNat ∧ b.toNat ≤ hiK 191 k) → Lib.validD (l.drop (i + 2 + 1)) = A)) := HK
        clear HN HNN HK e 
        by_cases hs : l.length ≤ i + 2
        · have HG : Hid (A = false) := HKK.out.1 hs
          have hs' : (l.length : Int) - (i : Int) ≤ 2 := by omega
          clear hs
          go_wp2
          go_ret
          exact ⟨by rw [HG.out]; rfl, rfl⟩
        · have hs' : ¬ (l.length : Int) - (i : Int) ≤ 2 := by omega
          go_wp2
          go_loop [6, 7, 8] (fun vlo vhi vk => ∃ (k : Nat), 1 ≤ k ∧ k ≤ 2 + 1 ∧ vk = .int .i64 k ∧ vlo = .int .u8 (loK 160 k : Nat) ∧ vhi = .int .u8 (hiK 191 k : Nat) ∧ ∀ j b, 1 ≤ j → j < k → l[i + j]? = some b → loK 160 j ≤ b.toNat ∧ b.toNat ≤ hiK 191 j) (fun vlo vhi vk => 2 + 1 - (intOf vk).toNat)
          case atStart => exact ⟨1, Nat.le_refl _, by omega, rfl, rfl, rfl, fun j b h1 h2 _ => by omega⟩
          case round =>
            obtain ⟨k, hk1, hk2, rfl, rfl, rfl, hok⟩ := hrel
            have HOK : Hid (∀ j b, 1 ≤ j → j < k → l[i + j]? = some b → loK 160 j ≤ b.toNat ∧ b.toNat ≤ hiK 191 j) := hok
            clear hok
            by_cases hkn : k ≤ 2
            · obtain ⟨b, hb⟩ : ∃ b, l[i + k]? = some b := ⟨_, List.getElem?_eq_getElem (by omega)⟩
              have hib := HX.out (i + k) b hb
              rw [show ((i + k : Nat) : Int) = (i : Int) + (k : Int) by omega] at hib
              have HB : Hid (l[i + k]? = some b) := hb
              have hkn' : (k : Int) ≤ 2 := by omega
              have HNX : Hid ((loK 160 k ≤ b.toNat ∧ b.toNat ≤ hiK 191 k) → ∀ j c, 1 ≤ j → j < k + 1 → l[i + j]? = some c → loK 160 j ≤ c.toNat ∧ c.toNat ≤ hiK 191 j) := by
                intro hg j x h1 hj hx
                rcases (show j = k ∨ j < k from by omega) with rfl | hlt2
                · rw [HB.out] at hx; rw [← Option.some.inj hx]; exact hg
                · exact HOK.out j x h1 hlt2 hx
              have HL1 : Hid (loK 160 (k + 1) = 128 ∧ hiK 191 (k + 1) = 191) := by refine ⟨?_, ?_⟩ <;> (first | unfold loK | unfold hiK) <;> rw [if_neg (by omega)]
              have HBAD : Hid ((b.toNat < loK 160 k ∨ hiK 191 k < b.toNat) → A = false) := fun h => HKK.out.2.1 k b hk1 hkn hb h
              obtain ⟨B, hB⟩ : ∃ B : Nat, b.toNat = B := ⟨_, rfl⟩
              rw [hB] at hib HBAD HNX
              obtain ⟨lo, hlo⟩ : ∃ x : Nat, loK 160 k = x := ⟨_, rfl⟩
              obtain ⟨hi, hhi⟩ : ∃ x : Nat, hiK 191 k = x := ⟨_, rfl⟩
              rw [hlo, hhi] at HBAD HNX
              rw [hlo, hhi]
              clear hb hB hlo hhi HB
              by_cases q1 : B < lo
              · have HG : Hid (A = false) := HBAD.out (.inl q1)
                have q1z : (B : Int) < (lo : Int) := by omega
                go_wp2
                go_ret
                exact ⟨by rw [HG.out]; rfl, rfl⟩
              · have q1z : ¬ (B : Int) < (lo : Int) := by omega
                by_cases q2 : hi < B
                · have HG : Hid (A = false) := HBAD.out (.inr q2)
                  have q2z : (hi : Int) < (B : Int) := by omega
                  go_wp2
                  go_ret
                  exact ⟨by rw [HG.out]; rfl, rfl⟩
                · have q2z : ¬ (hi : Int) < (B : Int) := by omega
                  have HG := HNX.out ⟨by omega, by omega⟩
                  have HGG : Hid (∀ j c, 1 ≤ j → j < k + 1 → l[i + j]? = some c → loK 160 j ≤ c.toNat ∧ c.toNat ≤ hiK 191 j) := HG
                  clear HG
                  go_wp2
                  go_round
                  case rel => exact ⟨k + 1, by omega, by omega, by go_num, by rw [HL1.out.1]; rfl, by rw [HL1.out.2]; rfl, HGG.out⟩
                  case measure => simp [intOf]; omega
            · have hkn' : ¬ (k : Int) ≤ 2 := by omega
              have HG : Hid (Lib.validD (l.drop (i + 2 + 1)) = A) := HKK.out.2.2 (by omega) (fun j b h1 h2 hb => HOK.out j b h1 (by omega) hb)
              go_wp2
              go_round
              case rel => exact ⟨i + 2 + 1, by omega, by go_num, HG.out⟩
              case measure => simp [intOf]; omega
      · subst h
        have HK := HN.out 2 128 159 e
        have HKK : Hid ((l.length ≤ i + 2 → A = false) ∧ (∀ k b, 1 ≤ k → k ≤ 2 → l[i + k]? = some b → (b.toNat < loK 128 k ∨ hiK 159 k < b.toNat) → A = false) ∧ (i + 2 < l.length → (∀ k b, 1 ≤ k → k ≤ 2 → l[i + k]? = some b → loK 128 k ≤ b.toNat ∧ b.toNat ≤ hiK 159 k) → Lib.validD (l.drop (i + 2 + 1)) = A)) := HK
        clear HN HNN HK e 
        by_cases hs : l.length ≤ i + 2
        · have HG : Hid (A = false) := HKK.out.1 hs
          have hs' : (l.length : Int) - (i : Int) ≤ 2 := by omega
          clear hs
          go_wp2
          go_ret
          exact ⟨by rw [HG.out]; rfl, rfl⟩
        · have hs' : ¬ (l.length : Int) - (i : Int) ≤ 2 := by omega
          go_wp2
          go_loop [6, 7, 8] (fun vlo vhi vk => ∃ (k : Nat), 1 ≤ k ∧ k ≤ 2 + 1 ∧ vk = .int .i64 k ∧ vlo = .int .u8 (loK 128 k : Nat) ∧ vhi = .int .u8 (hiK 159 k : Nat) ∧ ∀ j b, 1 ≤ j → j < k → l[i + j]? = some b → loK 128 j ≤ b.toNat ∧ b.toNat ≤ hiK 159 j) (fun vlo vhi vk => 2 + 1 - (intOf vk).toNat)
          case atStart => exact ⟨1, Nat.le_refl _, by omega, rfl, rfl, rfl, fun j b h1 h2 _ => by omega⟩
          case round =>
            obtain ⟨k, hk1, hk2, rfl, rfl, rfl, hok⟩ := hrel
            have HOK : Hid (∀ j b, 1 ≤ j → j < k → l[i + j]? = some b → loK 128 j ≤ b.toNat ∧ b.toNat ≤ hiK 159 j) := hok
            clear hok
            by_cases hkn : k ≤ 2
            · obtain ⟨b, hb⟩ : ∃ b, l[i + k]? = some b := ⟨_, List.getElem?_eq_getElem (by omega)⟩
              have hib := HX.out (i + k) b hb
              rw [show ((i + k : Nat) : Int) = (i : Int) + (k : Int) by omega] at hib
              have HB : Hid (l[i + k]? = some b) := hb
              have hkn' : (k : Int) ≤ 2 := by omega
              have HNX : Hid ((loK 128 k ≤ b.toNat ∧ b.toNat ≤ hiK 159 k) → ∀ j c, 1 ≤ j → j < k + 1 → l[i + j]? = some c → loK 128 j ≤ c.toNat ∧ c.toNat ≤ hiK 159 j) := by
                intro hg j x h1 hj hx
                rcases (show j = k ∨ j < k from by omega) with rfl | hlt2
                · rw [HB.out] at hx; rw [← Option.some.inj hx]; exact hg
                · exact HOK.out j x h1 hlt2 hx
              have HL1 : Hid (loK 128 (k + 1) = 128 ∧ hiK 159 (k + 1) = 191) := by refine ⟨?_, ?_⟩ <;> (first | unfold loK | unfold hiK) <;> rw [if_neg (by omega)]
              have HBAD : Hid ((b.toNat < loK 128 k ∨ hiK 159 k < b.toNat) → A = false) := fun h => HKK.out.2.1 k b hk1 hkn hb h
              obtain ⟨B, hB⟩ : ∃ B : Nat, b.toNat = B := ⟨_, rfl⟩
              rw [hB] at hib HBAD HNX
              obtain ⟨lo, hlo⟩ : ∃ x : Nat, loK 128 k = x := ⟨_, rfl⟩
              obtain ⟨hi, hhi⟩ : ∃ x : Nat, hiK 159 k = x := ⟨_, rfl⟩
              rw [hlo, hhi] at HBAD HNX
              rw [hlo, hhi]
              clear hb hB hlo hhi HB
              by_cases q1 : B < lo
              · have HG : Hid (A = false) := HBAD.out (.inl q1)
                have q1z : (B : Int) < (lo : Int) := by omega
                go_wp2
                go_ret
                exact ⟨by rw [HG.out]; rfl, rfl⟩
              · have q1z : ¬ (B : Int) < (lo : Int) := by omega
                by_cases q2 : hi < B
                · have HG : Hid (A = false) := HBAD.out (.inr q2)
                  have q2z : (hi : Int) < (B : Int) := by omega
                  go_wp2
                  go_ret
                  exact ⟨by rw [HG.out]; rfl, rfl⟩
                · have q2z : ¬ (hi : Int) < (B : Int) := by omega
                  have HG := HNX.out ⟨by omega, by omega⟩
                  have HGG : Hid (∀ j c, 1 ≤ j → j < k + 1 → l[i + j]? = some c → loK 128 j ≤ c.toNat ∧ c.toNat ≤ hiK 159 j) := HG
                  clear HG
                  go_wp2
                  go_round
                  case rel => exact ⟨k + 1, by omega, by omega, by go_num, by rw [HL1.out.1]; rfl, by rw [HL1.out.2]; rfl, HGG.out⟩
                  case measure => simp [intOf]; omega
            · have hkn' : ¬ (k : Int) ≤ 2 := by omega
              have HG : Hid (Lib.validD (l.drop (i + 2 + 1)) = A) := HKK.out.2.2 (by omega) (fun j b h1 h2 hb => HOK.out j b h1 (by omega) hb)
              go_wp2
              go_round
              case rel => exact ⟨i + 2 + 1, by omega, by go_num, HG.out⟩
              case measure => simp [intOf]; omega
      · skip
        have HK := HN.out 2 128 191 e
        have HKK : Hid ((l.length ≤ i + 2 → A = false) ∧ (∀ k b, 1 ≤ k → k ≤ 2 → l[i + k]? = some b → (b.toNat < loK 128 k ∨ hiK 191 k < b.toNat) → A = false) ∧ (i + 2 < l.length → (∀ k b, 1 ≤ k → k ≤ 2 → l[i + k]? = some b → loK 128 k ≤ b.toNat ∧ b.toNat ≤ hiK 191 k) → Lib.validD (l.drop (i + 2 + 1)) = A)) := HK
        have b0 : ¬ (C : Int) < 128 := by omega
        have b1 : 194 ≤ (C : Int) := by omega
        have b2 : ¬ (C : Int) ≤ 223 := by omega
        have b3 : 224 ≤ (C : Int) := by omega
        have b4 : (C : Int) ≤ 239 := by omega
        have b5 : ((C : Int) == 224) = false := by simp; omega
        have b6 : ((C : Int) == 237) = false := by simp; omega
        clear HN HNN HK e h h' h''
        by_cases hs : l.length ≤ i + 2
        · have HG : Hid (A = false) := HKK.out.1 hs
          have hs' : (l.length : Int) - (i : Int) ≤ 2 := by omega
          clear hs
          go_wp2
          go_ret
          exact ⟨by rw [HG.out]; rfl, rfl⟩
        · have hs' : ¬ (l.length : Int) - (i : Int) ≤ 2 := by omega
          go_wp2
          go_loop [6, 7, 8] (fun vlo vhi vk => ∃ (k : Nat), 1 ≤ k ∧ k ≤ 2 + 1 ∧ vk = .int .i64 k ∧ vlo = .int .u8 (loK 128 k : Nat) ∧ vhi = .int .u8 (hiK 191 k : Nat) ∧ ∀ j b, 1 ≤ j → j < k → l[i + j]? = some b → loK 128 j ≤ b.toNat ∧ b.toNat ≤ hiK 191 j) (fun vlo vhi vk => 2 + 1 - (intOf vk).toNat)
          case atStart => exact ⟨1, Nat.le_refl _, by omega, rfl, rfl, rfl, fun j b h1 h2 _ => by omega⟩
          case round =>
            obtain ⟨k, hk1, hk2, rfl, rfl, rfl, hok⟩ := hrel
            have HOK : Hid (∀ j b, 1 ≤ j → j < k → l[i + j]? = some b → loK 128 j ≤ b.toNat ∧ b.toNat ≤ hiK 191 j) := hok
            clear hok
            by_cases hkn : k ≤ 2
            · obtain ⟨b, hb⟩ : ∃ b, l[i + k]? = some b := ⟨_, List.getElem?_eq_getElem (by omega)⟩
              have hib := HX.out (i + k) b hb
              rw [show ((i + k : Nat) : Int) = (i : Int) + (k : Int) by omega] at hib
              have HB : Hid (l[i + k]? = some b) := hb
              have hkn' : (k : Int) ≤ 2 := by omega
              have HNX : Hid ((loK 128 k ≤ b.toNat ∧ b.toNat ≤ hiK 191 k) → ∀ j c, 1 ≤ j → j < k + 1 → l[i + j]? = some c → loK 128 j ≤ c.toNat ∧ c.toNat ≤ hiK 191 j) := by
                intro hg j x h1 hj hx
                rcases (show j = k ∨ j < k from by omega) with rfl | hlt2
                · rw [HB.out] at hx; rw [← Option.some.inj hx]; exact hg
                · exact HOK.out j x h1 hlt2 hx
              have HL1 : Hid (loK 128 (k + 1) = 128 ∧ hiK 191 (k + 1) = 191) := by refine ⟨?_, ?_⟩ <;> (first | unfold loK | unfold hiK) <;> rw [if_neg (by omega)]
              have HBAD : Hid ((b.toNat < loK 128 k ∨ hiK 191 k < b.toNat) → A = false) := fun h => HKK.out.2.1 k b hk1 hkn hb h
              obtain ⟨B, hB⟩ : ∃ B : Nat, b.toNat = B := ⟨_, rfl⟩
              rw [hB] at hib HBAD HNX
              obtain ⟨lo, hlo⟩ : ∃ x : Nat, loK 128 k = x := ⟨_, rfl⟩
              obtain ⟨hi, hhi⟩ : ∃ x : Nat, hiK 191 k = x := ⟨_, rfl⟩
              rw [hlo, hhi] at HBAD HNX
              rw [hlo, hhi]
              clear hb hB hlo hhi HB
              by_cases q1 : B < lo
              · have HG : Hid (A = false) := HBAD.out (.inl q1)
                have q1z : (B : Int) < (lo : Int) := by omega
                go_wp2
                go_ret
                exact ⟨by rw [HG.out]; rfl, rfl⟩
              · have q1z : ¬ (B : Int) < (lo : Int) := by omega
                by_cases q2 : hi < B
                · have HG : Hid (A = false) := HBAD.out (.inr q2)
                  have q2z : (hi : Int) < (B : Int) := by omega
                  go_wp2
                  go_ret
                  exact ⟨by rw [HG.out]; rfl, rfl⟩
                · have q2z : ¬ (hi : Int) < (B : Int) := by omega
                  have HG := HNX.out ⟨by omega, by omega⟩
                  have HGG : Hid (∀ j c, 1 ≤ j → j < k + 1 → l[i + j]? = some c → loK 128 j ≤ c.toNat ∧ c.toNat ≤ hiK 191 j) := HG
                  clear HG
                  go_wp2
                  go_round
                  case rel => exact ⟨k + 1, by omega, by omega, by go_num, by rw [HL1.out.1]; rfl, by rw [HL1.out.2]; rfl, HGG.out⟩
                  case measure => simp [intOf]; omega
            · have hkn' : ¬ (k : Int) ≤ 2 := by omega
              have HG : Hid (Lib.validD (l.drop (i + 2 + 1)) = A) := HKK.out.2.2 (by omega) (fun j b h1 h2 hb => HOK.out j b h1 (by omega) hb)
              go_wp2
              go_round
              case rel => exact ⟨i + 2 + 1, by omega, by go_num, HG.out⟩
              case measure => simp [intOf]; omega
      · subst h
        have HK := HN.out 3 144 191 e
        have HKK : Hid ((l.length ≤ i + 3 → A = false) ∧ (∀ k b, 1 ≤ k → k ≤ 3 → l[i + k]? = some b → (b.toNat < loK 144 k ∨ hiK 191 k < b.toNat) → A = false) ∧ (i + 3 < l.length → (∀ k b, 1 ≤ k → k ≤ 3 → l[i + k]? = some b → loK 144 k ≤ b.toNat ∧ b.toNat ≤ hiK 191 k) → Lib.validD (l.drop (i + 3 + 1)) = A)) := HK
        clear HN HNN HK e 
        by_cases hs : l.length ≤ i + 3
        · have HG : Hid (A = false) := HKK.out.1 hs
          have hs' : (l.length : Int) - (i : Int) ≤ 3 := by omega
          clear hs
          go_wp2
          go_ret
          exact ⟨by rw [HG.out]; rfl, rfl⟩
        · have hs' : ¬ (l.length : Int) - (i : Int) ≤ 3 := by omega
          go_wp2
          go_loop [6, 7, 8] (fun vlo vhi vk => ∃ (k : Nat), 1 ≤ k ∧ k ≤ 3 + 1 ∧ vk = .int .i64 k ∧ vlo = .int .u8 (loK 144 k : Nat) ∧ vhi = .int .u8 (hiK 191 k : Nat) ∧ ∀ j b, 1 ≤ j → j < k → l[i + j]? = some b → loK 144 j ≤ b.toNat ∧ b.toNat ≤ hiK 191 j) (fun vlo vhi vk => 3 + 1 - (intOf vk).toNat)
          case atStart => exact ⟨1, Nat.le_refl _, by omega, rfl, rfl, rfl, fun j b h1 h2 _ => by omega⟩
          case round =>
            obtain ⟨k, hk1, hk2, rfl, rfl, rfl, hok⟩ := hrel
            have HOK : Hid (∀ j b, 1 ≤ j → j < k → l[i + j]? = some b → loK 144 j ≤ b.toNat ∧ b.toNat ≤ hiK 191 j) := hok
            clear hok
            by_cases hkn : k ≤ 3
            · obtain ⟨b, hb⟩ : ∃ b, l[i + k]? = some b := ⟨_, List.getElem?_eq_getElem (by omega)⟩
              have hib := HX.out (i + k) b hb
              rw [show ((i + k : Nat) : Int) = (i : Int) + (k : Int) by omega] at hib
              have HB : Hid (l[i + k]? = some b) := hb
              have hkn' : (k : Int) ≤ 3 := by omega
              have HNX : Hid ((loK 144 k ≤ b.toNat ∧ b.toNat ≤ hiK 191 k) → ∀ j c, 1 ≤ j → j < k + 1 → l[i + j]? = some c → loK 144 j ≤ c.toNat ∧ c.toNat ≤ hiK 191 j) := by
                intro hg j x h1 hj hx
                rcases (show j = k ∨ j < k from by omega) with rfl | hlt2
                · rw [HB.out] at hx; rw [← Option.some.inj hx]; exact hg
                · exact HOK.out j x h1 hlt2 hx
              have HL1 : Hid (loK 144 (k + 1) = 128 ∧ hiK 191 (k + 1) = 191) := by refine ⟨?_, ?_⟩ <;> (first | unfold loK | unfold hiK) <;> rw [if_neg (by omega)]
              have HBAD : Hid ((b.toNat < loK 144 k ∨ hiK 191 k < b.toNat) → A = false) := fun h => HKK.out.2.1 k b hk1 hkn hb h
              obtain ⟨B, hB⟩ : ∃ B : Nat, b.toNat = B := ⟨_, rfl⟩
              rw [hB] at hib HBAD HNX
              obtain ⟨lo, hlo⟩ : ∃ x : Nat, loK 144 k = x := ⟨_, rfl⟩
              obtain ⟨hi, hhi⟩ : ∃ x : Nat, hiK 191 k = x := ⟨_, rfl⟩
              rw [hlo, hhi] at HBAD HNX
              rw [hlo, hhi]
              clear hb hB hlo hhi HB
              by_cases q1 : B < lo
              · have HG : Hid (A = false) := HBAD.out (.inl q1)
                have q1z : (B : Int) < (lo : Int) := by omega
                go_wp2
                go_ret
                exact ⟨by rw [HG.out]; rfl, rfl⟩
              · have q1z : ¬ (B : Int) < (lo : Int) := by omega
                by_cases q2 : hi < B
                · have HG : Hid (A = false) := HBAD.out (.inr q2)
                  have q2z : (hi : Int) < (B : Int) := by omega
                  go_wp2
                  go_ret
                  exact ⟨by rw [HG.out]; rfl, rfl⟩
                · have q2z : ¬ (hi : Int) < (B : Int) := by omega
                  have HG := HNX.out ⟨by omega, by omega⟩
                  have HGG : Hid (∀ j c, 1 ≤ j → j < k + 1 → l[i + j]? = some c → loK 144 j ≤ c.toNat ∧ c.toNat ≤ hiK 191 j) := HG
                  clear HG
                  go_wp2
                  go_round
                  case rel => exact ⟨k + 1, by omega, by omega, by go_num, by rw [HL1.out.1]; rfl, by rw [HL1.out.2]; rfl, HGG.out⟩
                  case measure => simp [intOf]; omega
            · have hkn' : ¬ (k : Int) ≤ 3 := by omega
              have HG : Hid (Lib.validD (l.drop (i + 3 + 1)) = A) := HKK.out.2.2 (by omega) (fun j b h1 h2 hb => HOK.out j b h1 (by omega) hb)
              go_wp2
              go_round
              case rel => exact ⟨i + 3 + 1, by omega, by go_num, HG.out⟩
              case measure => simp [intOf]; omega
      · subst h
        have HK := HN.out 3 128 143 e
        have HKK : Hid ((l.length ≤ i + 3 → A = false) ∧ (∀ k b, 1 ≤ k → k ≤ 3 → l[i + k]? = some b → (b.toNat < loK 128 k ∨ hiK 143 k < b.toNat) → A = false) ∧ (i + 3 < l.length → (∀ k b, 1 ≤ k → k ≤ 3 → l[i + k]? = some b → loK 128 k ≤ b.toNat ∧ b.toNat ≤ hiK 143 k) → Lib.validD (l.drop (i + 3 + 1)) = A)) := HK
        clear HN HNN HK e 
        by_cases hs : l.length ≤ i + 3
        · have HG : Hid (A = false) := HKK.out.1 hs
          have hs' : (l.length : Int) - (i : Int) ≤ 3 := by omega
          clear hs
          go_wp2
          go_ret
          exact ⟨by rw [HG.out]; rfl, rfl⟩
        · have hs' : ¬ (l.length : Int) - (i : Int) ≤ 3 := by omega
          go_wp2
          go_loop [6, 7, 8] (fun vlo vhi vk => ∃ (k : Nat), 1 ≤ k ∧ k ≤ 3 + 1 ∧ vk = .int .i64 k ∧ vlo = .int .u8 (loK 128 k : Nat) ∧ vhi = .int .u8 (hiK 143 k : Nat) ∧ ∀ j b, 1 ≤ j → j < k → l[i + j]? = some b → loK 128 j ≤ b.toNat ∧ b.toNat ≤ hiK 143 j) (fun vlo vhi vk => 3 + 1 - (intOf vk).toNat)
          case atStart => exact ⟨1, Nat.le_refl _, by omega, rfl, rfl, rfl, fun j b h1 h2 _ => by omega⟩
          case round =>
            obtain ⟨k, hk1, hk2, rfl, rfl, rfl, hok⟩ := hrel
            have HOK : Hid (∀ j b, 1 ≤ j → j < k → l[i + j]? = some b → loK 128 j ≤ b.toNat ∧ b.toNat ≤ hiK 143 j) := hok
            clear hok
            by_cases hkn : k ≤ 3
            · obtain ⟨b, hb⟩ : ∃ b, l[i + k]? = some b := ⟨_, List.getElem?_eq_getElem (by omega)⟩
              have hib := HX.out (i + k) b hb
              rw [show ((i + k : Nat) : Int) = (i : Int) + (k : Int) by omega] at hib
              have HB : Hid (l[i + k]? = some b) := hb
              have hkn' : (k : Int) ≤ 3 := by omega
              have HNX : Hid ((loK 128 k ≤ b.toNat ∧ b.toNat ≤ hiK 143 k) → ∀ j c, 1 ≤ j → j < k + 1 → l[i + j]? = some c → loK 128 j ≤ c.toNat ∧ c.toNat ≤ hiK 143 j) := by
                intro hg j x h1 hj hx
                rcases (show j = k ∨ j < k from by omega) with rfl | hlt2
                · rw [HB.out] at hx; rw [← Option.some.inj hx]; exact hg
                · exact HOK.out j x h1 hlt2 hx
              have HL1 : Hid (loK 128 (k + 1) = 128 ∧ hiK 143 (k + 1) = 191) := by refine ⟨?_, ?_⟩ <;> (first | unfold loK | unfold hiK) <;> rw [if_neg (by omega)]
              have HBAD : Hid ((b.toNat < loK 128 k ∨ hiK 143 k < b.toNat) → A = false) := fun h => HKK.out.2.1 k b hk1 hkn hb h
              obtain ⟨B, hB⟩ : ∃ B : Nat, b.toNat = B := ⟨_, rfl⟩
              rw [hB] at hib HBAD HNX
              obtain ⟨lo, hlo⟩ : ∃ x : Nat, loK 128 k = x := ⟨_, rfl⟩
              obtain ⟨hi, hhi⟩ : ∃ x : Nat, hiK 143 k = x := ⟨_, rfl⟩
              rw [hlo, hhi] at HBAD HNX
              rw [hlo, hhi]
              clear hb hB hlo hhi HB
              by_cases q1 : B < lo
              · have HG : Hid (A = false) := HBAD.out (.inl q1)
                have q1z : (B : Int) < (lo : Int) := by omega
                go_wp2
                go_ret
                exact ⟨by rw [HG.out]; rfl, rfl⟩
              · have q1z : ¬ (B : Int) < (lo : Int) := by omega
                by_cases q2 : hi < B
                · have HG : Hid (A = false) := HBAD.out (.inr q2)
                  have q2z : (hi : Int) < (B : Int) := by omega
                  go_wp2
                  go_ret
                  exact ⟨by rw [HG.out]; rfl, rfl⟩
                · have q2z : ¬ (hi : Int) < (B : Int) := by omega
                  have HG := HNX.out ⟨by omega, by omega⟩
                  have HGG : Hid (∀ j c, 1 ≤ j → j < k + 1 → l[i + j]? = some c → loK 128 j ≤ c.toNat ∧ c.toNat ≤ hiK 143 j) := HG
                  clear HG
                  go_wp2
                  go_round
                  case rel => exact ⟨k + 1, by omega, by omega, by go_num, by rw [HL1.out.1]; rfl, by rw [HL1.out.2]; rfl, HGG.out⟩
                  case measure => simp [intOf]; omega
            · have hkn' : ¬ (k : Int) ≤ 3 := by omega
              have HG : Hid (Lib.validD (l.drop (i + 3 + 1)) = A) := HKK.out.2.2 (by omega) (fun j b h1 h2 hb => HOK.out j b h1 (by omega) hb)
              go_wp2
              go_round
              case rel => exact ⟨i + 3 + 1, by omega, by go_num, HG.out⟩
              case measure => simp [intOf]; omega
      · skip
        have HK := HN.out 3 128 191 e
        have HKK : Hid ((l.length ≤ i + 3 → A = false) ∧ (∀ k b, 1 ≤ k → k ≤ 3 → l[i + k]? = some b → (b.toNat < loK 128 k ∨ hiK 191 k < b.toNat) → A = false) ∧ (i + 3 < l.length → (∀ k b, 1 ≤ k → k ≤ 3 → l[i + k]? = some b → loK 128 k ≤ b.toNat ∧ b.toNat ≤ hiK 191 k) → Lib.validD (l.drop (i + 3 + 1)) = A)) := HK
        have b0 : ¬ (C : Int) < 128 := by omega
        have b1 : 194 ≤ (C : Int) := by omega
        have b2 : ¬ (C : Int) ≤ 223 := by omega
        have b3 : 224 ≤ (C : Int) := by omega
        have b4 : ¬ (C : Int) ≤ 239 := by omega
        have b7 : 240 ≤ (C : Int) := by omega
        have b8 : (C : Int) ≤ 244 := by omega
        have b9 : ((C : Int) == 240) = false := by simp; omega
        have b10 : ((C : Int) == 244) = false := by simp; omega
        clear HN HNN HK e h h'
        by_cases hs : l.length ≤ i + 3
        · have HG : Hid (A = false) := HKK.out.1 hs
          have hs' : (l.length : Int) - (i : Int) ≤ 3 := by omega
          clear hs
          go_wp2
          go_ret
          exact ⟨by rw [HG.out]; rfl, rfl⟩
        · have hs' : ¬ (l.length : Int) - (i : Int) ≤ 3 := by omega
          go_wp2
          go_loop [6, 7, 8] (fun vlo vhi vk => ∃ (k : Nat), 1 ≤ k ∧ k ≤ 3 + 1 ∧ vk = .int .i64 k ∧ vlo = .int .u8 (loK 128 k : Nat) ∧ vhi = .int .u8 (hiK 191 k : Nat) ∧ ∀ j b, 1 ≤ j → j < k → l[i + j]? = some b → loK 128 j ≤ b.toNat ∧ b.toNat ≤ hiK 191 j) (fun vlo vhi vk => 3 + 1 - (intOf vk).toNat)
          case atStart => exact ⟨1, Nat.le_refl _, by omega, rfl, rfl, rfl, fun j b h1 h2 _ => by omega⟩
          case round =>
            obtain ⟨k, hk1, hk2, rfl, rfl, rfl, hok⟩ := hrel
            have HOK : Hid (∀ j b, 1 ≤ j → j < k → l[i + j]? = some b → loK 128 j ≤ b.toNat ∧ b.toNat ≤ hiK 191 j) := hok
            clear hok
            by_cases hkn : k ≤ 3
            · obtain ⟨b, hb⟩ : ∃ b, l[i + k]? = some b := ⟨_, List.getElem?_eq_getElem (by omega)⟩
              have hib := HX.out (i + k) b hb
              rw [show ((i + k : Nat) : Int) = (i : Int) + (k : Int) by omega] at hib
              have HB : Hid (l[i + k]? = some b) := hb
              have hkn' : (k : Int) ≤ 3 := by omega
              have HNX : Hid ((loK 128 k ≤ b.toNat ∧ b.toNat ≤ hiK 191 k) → ∀ j c, 1 ≤ j → j < k + 1 → l[i + j]? = some c → loK 128 j ≤ c.toNat ∧ c.toNat ≤ hiK 191 j) := by
                intro hg j x h1 hj hx
                rcases (show j = k ∨ j < k from by omega) with rfl | hlt2
                · rw [HB.out] at hx; rw [← Option.some.inj hx]; exact hg
                · exact HOK.out j x h1 hlt2 hx
              have HL1 : Hid (loK 128 (k + 1) = 128 ∧ hiK 191 (k + 1) = 191) := by refine ⟨?_, ?_⟩ <;> (first | unfold loK | unfold hiK) <;> rw [if_neg (by omega)]
              have HBAD : Hid ((b.toNat < loK 128 k ∨ hiK 191 k < b.toNat) → A = false) := fun h => HKK.out.2.1 k b hk1 hkn hb h
              obtain ⟨B, hB⟩ : ∃ B : Nat, b.toNat = B := ⟨_, rfl⟩
              rw [hB] at hib HBAD HNX
              obtain ⟨lo, hlo⟩ : ∃ x : Nat, loK 128 k = x := ⟨_, rfl⟩
              obtain ⟨hi, hhi⟩ : ∃ x : Nat, hiK 191 k = x := ⟨_, rfl⟩
              rw [hlo, hhi] at HBAD HNX
              rw [hlo, hhi]
              clear hb hB hlo hhi HB
              by_cases q1 : B < lo
              · have HG : Hid (A = false) := HBAD.out (.inl q1)
                have q1z : (B : Int) < (lo : Int) := by omega
                go_wp2
                go_ret
                exact ⟨by rw [HG.out]; rfl, rfl⟩
              · have q1z : ¬ (B : Int) < (lo : Int) := by omega
                by_cases q2 : hi < B
                · have HG : Hid (A = false) := HBAD.out (.inr q2)
                  have q2z : (hi : Int) < (B : Int) := by omega
                  go_wp2
                  go_ret
                  exact ⟨by rw [HG.out]; rfl, rfl⟩
                · have q2z : ¬ (hi : Int) < (B : Int) := by omega
                  have HG := HNX.out ⟨by omega, by omega⟩
                  have HGG : Hid (∀ j c, 1 ≤ j → j < k + 1 → l[i + j]? = some c → loK 128 j ≤ c.toNat ∧ c.toNat ≤ hiK 191 j) := HG
                  clear HG
                  go_wp2
                  go_round
                  case rel => exact ⟨k + 1, by omega, by omega, by go_num, by rw [HL1.out.1]; rfl, by rw [HL1.out.2]; rfl, HGG.out⟩
                  case measure => simp [intOf]; omega
            · have hkn' : ¬ (k : Int) ≤ 3 := by omega
              have HG : Hid (Lib.validD (l.drop (i + 3 + 1)) = A) := HKK.out.2.2 (by omega) (fun j b h1 h2 hb => HOK.out j b h1 (by omega) hb)
              go_wp2
              go_round
              case rel => exact ⟨i + 3 + 1, by omega, by go_num, HG.out⟩
              case measure => simp [intOf]; omega
      · have HG : Hid (A = false) := HNN.out e
        have b0 : ¬ (C : Int) < 128 := by omega
        have b1 : 194 ≤ (C : Int) := by omega
        have b2 : ¬ (C : Int) ≤ 223 := by omega
        have b3 : 224 ≤ (C : Int) := by omega
        have b4 : ¬ (C : Int) ≤ 239 := by omega
        have b7 : 240 ≤ (C : Int) := by omega
        have b8 : ¬ (C : Int) ≤ 244 := by omega
        clear HN HNN e h
        go_wp2
        go_ret
        exact ⟨by rw [HG.out]; rfl, rfl⟩
    · have hge : ¬ (i : Int) < (l.length : Int) := by omega
      have HG : Hid (A = true) := by
        show A = true
        rw [← HD.out, List.drop_eq_nil_of_le (by omega)]
        rfl
      clear hlt
      go_wp2
      go_ret
      exact ⟨by rw [HG.out]; rfl, rfl⟩
end Go.Proofs.YtnfocmoieofbpaaDoor
