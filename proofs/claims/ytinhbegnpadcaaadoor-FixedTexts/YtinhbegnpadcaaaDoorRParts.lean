/- The model's Parse, walked over any text: numbers with a part behind the point. -/
import Derived.Test.YtinhbegnpadcaaaDoorRBad
namespace Go.Proofs.YtinhbegnpadcaaaDoor
open Go.RowKit

set_option maxHeartbeats 4000000 in
theorem rp_parts (l b m : List UInt8) (a n K N : Nat) (mi : Bool) (V U : Int) (y : UInt8) (H : Sg l b a mi) (R : Wr l b a n V) (S : Rs l b m a n y K) (w : World) (hm : (l.length : Int) ≤ 140737488351232) (hy : y = 46) (hk1 : 1 ≤ K) (hk2 : K ≤ 6) (hk3 : K = m.length) (hU : U = (val m : Int)) (hN : (N : Int) = V * 1000000 + U * 10 ^ (6 - K)) :
    Calls Tryd.prog 6 #[.string (tx l)] w fun e w' => e = .returned (.tuple #[.int .i64 (pn mi (some N)).1, .int .i64 (pn mi (some N)).2]) ∧ Below w.heap.size w w' := by
  have hsz : (tx l).size = l.length := tx_size l
  obtain ⟨C, c0, c1, hC, hix⟩ := H.ix
  obtain ⟨hn, n1, n2, hV, v0, v1, ⟨x, hx, hx2⟩, hle, hex, hisd, hlen⟩ := R
  obtain ⟨hixE, hdE, hlE, hK⟩ := S
  have HN : Hid _ := hn
  have HV : Hid _ := hV
  have HD : Hid _ := hisd
  have HL : Hid _ := hlen
  have HK : Hid _ := hK
  have HDE : Hid _ := hdE
  have hK0 : 0 ≤ (K : Int) := by omega
  have hK1 : (a : Int) + (n : Int) + 1 + (K : Int) ≤ (l.length : Int) := by have h1 := dn_le m; rw [hdE] at hK; omega
  have HKm : Hid (K = dn m) := by rw [hdE] at hK; exact hK
  have hlm : (a : Int) + (n : Int) + 1 + (m.length : Int) = (l.length : Int) := by omega
  have HLM : Hid _ := hlm
  have hxb : x.toNat < 256 := UInt8.toNat_lt x
  have hyb : y.toNat < 256 := UInt8.toNat_lt y
  have hat : (1 : Int) ≤ (l.length : Int) := by omega
  have hfst : (n : Int) ≤ 1 ∨ ((1 : Int) < (n : Int) ∧ ((x.toNat : Int) == 48) = false) := by
    by_cases c : n ≤ 1
    · exact Or.inl (by omega)
    · refine Or.inr ⟨by omega, ?_⟩
      rw [beq_eq_false_iff_ne]
      intro e
      rcases hx2 with h | h
      · omega
      · exact h (UInt8.toNat_inj.1 (by simp; omega))
  have ha := H.ha
  have hme : (tx l).extract (a + n + 1) l.length = tx m := by
    rw [tx_extract, hdE, List.take_of_length_le (by omega)]
  have HMD : Hid (∀ c ∈ m, isD c = true) := fun c hc => dn_isD m c (by rw [List.take_of_length_le (by have := HKm.out; omega)]; exact hc)
  have HML : Hid (m.length = K) := hk3.symm
  have HU : Hid _ := hU
  have hp := part_lt m (by have := HKm.out; omega) (by have := HKm.out; omega) (by have := HKm.out; omega)
  have hvl := val_lt m HMD.out
  have hvl2 : val m < 1000000 := by
    have : 10 ^ m.length ≤ 10 ^ 6 := Nat.pow_le_pow_right (by omega) (by omega)
    omega
  have u0 : 0 ≤ U := by omega
  have u1 : U < 1000000 := by omega
  obtain ⟨T, HT⟩ : ∃ T : Int, Hid (U * 10 ^ (6 - K) = T) := ⟨_, rfl⟩
  have t0 : 0 ≤ T := by
    rw [← HT.out]
    exact Int.mul_nonneg u0 (Int.pow_nonneg (by omega))
  have t1 : T < 1000000 := by
    rw [← HT.out, hU, hk3]
    have : ((val m * 10 ^ (6 - m.length) : Nat) : Int) < 1000000 := by omega
    rw [Int.natCast_mul, Int.natCast_pow] at this
    exact this
  have HNN : Hid ((N : Int) = V * 1000000 + T) := by show _ = _; rw [← HT.out]; exact hN
  have k1' : (1 : Int) ≤ (K : Int) := by omega
  have k2' : (K : Int) ≤ 6 := by omega
  have HK2 : Hid (K ≤ 6) := hk2
  have k3' : (a : Int) + (n : Int) + 1 + (K : Int) = (l.length : Int) := by omega
  subst hy
  have hixE2 : ∀ W, (Instr.index 9 (.string (tx l)) (.int .i64 ((a : Int) + (n : Int)))).run Tryd.prog W = .ok (.int .u8 46) W := hixE
  clear H hn hV hisd hlen hx2 hxb hyb hK hdE hlE hlm hU hN hk3 hk1 hk2 hvl hvl2 hp hixE hK1
  generalize (x.toNat : Int) = X at hx hfst
  cases mi
  · rw [if_neg (by simp)] at ha
    subst ha
    have hx' : ∀ W, (Instr.index 9 (.string (tx l)) (.int .i64 0)).run Tryd.prog W = .ok (.int .u8 X) W := hx
    have hex' : (tx l).extract 0 n = tx (b.take n) := by rw [← hex, Nat.zero_add]
    have hme' : (tx l).extract (n + 1) l.length = tx m := by rw [← hme, Nat.zero_add]
    have hCX : C = X := by
      have h := (hix w).symm.trans (hx' w)
      injection h with h
      injection h
    have hixE' : ∀ W, (Instr.index 9 (.string (tx l)) (.int .i64 (n : Int))).run Tryd.prog W = .ok (.int .u8 46) W := by
      intro W
      have := hixE2 W
      rw [show (((0 : Nat) : Int) + (n : Int)) = (n : Int) by omega] at this
      exact this
    have hK1' : (n : Int) + 1 ≤ (l.length : Int) := by omega
    have hlast : (n : Int) < (l.length : Int) := by omega
    have hne : ((n : Int) + 1 + (K : Int) != (l.length : Int)) = false := by rw [bne_eq_false_iff_eq]; omega
    subst hCX
    clear hx hx' hex hixE2 hme k3'
    rcases hfst with h | ⟨h, h'⟩
    all_goals
      go_enter Tryd.func6, Tryd.ntmps6
      go_wp2_with fail
      refine (dg_gen l 0 n _ _ rfl hm (by omega) HN.out).mono ?_
      rintro e w' ⟨rfl, rfl⟩
      go_wp2_with fail
      refine (pint_gen (b.take n) n V HD.out HL.out n1 n2 HV.out _).mono ?_
      rintro e w' ⟨rfl, hb⟩
      go_wp2_with fail
      refine (dg_gen l (0 + n + 1) K _ _ (by omega) hm (by omega) HK.out).mono ?_
      rintro e w' ⟨rfl, rfl⟩
      go_wp2_with fail
      refine (pint_gen m K U HMD.out HML.out k1' (by omega) HU.out _).mono ?_
      rintro e w' ⟨rfl, hb2⟩
      have hb3 := below_two hb hb2
      clear hb hb2
      go_wp2
      go_loop [9, 10] (fun p k => ∃ (j : Nat) (P : Int), j ≤ 6 ∧ k = .int .i64 j ∧ p = .int .i64 P ∧ 0 ≤ P ∧ P < 1000000 ∧ P * 10 ^ (6 - j) = T) (fun _ k => 6 - (intOf k).toNat)
      case atStart => exact ⟨K, U, HK2.out, rfl, rfl, u0, u1, HT.out⟩
      case round =>
        obtain ⟨j, P, hj, rfl, rfl, p0, p1, hP⟩ := hrel
        have HP : Hid _ := hP
        have HJ : Hid _ := hj
        have j0 : 0 ≤ (j : Int) := by omega
        have j1 : (j : Int) ≤ 6 := by omega
        clear hP hj
        by_cases c : (j : Int) < 6
        · have HP2 : Hid (10 * P * 10 ^ (6 - (j + 1)) = T) := by
            show _ = _
            have h := HP.out
            rw [show 6 - j = (6 - (j + 1)) + 1 by omega, Int.pow_succ] at h
            rw [← h, Int.mul_comm 10 P, Int.mul_assoc, Int.mul_comm 10]
          have hP3 : 10 * P ≤ T := by
            have h := HP2.out
            have h1 : (1 : Int) ≤ 10 ^ (6 - (j + 1)) := by
              have : (0 : Int) < 10 ^ (6 - (j + 1)) := Int.pow_pos (by omega)
              omega
            have h2 := Int.mul_le_mul_of_nonneg_left h1 (show (0 : Int) ≤ 10 * P by omega)
            omega
          go_wp2
          go_round
          case rel => exact ⟨j + 1, 10 * P, by omega, by go_num, rfl, by omega, by omega, HP2.out⟩
          case measure => simp [intOf]; omega
        · have hj6 : j = 6 := by have := HJ.out; omega
          have hPT : P = T := by
            have h := HP.out
            rw [hj6] at h
            simpa using h
          subst hPT
          have c2 : (6 : Int) ≤ (j : Int) := by omega
          clear c hj6
          rcases (show 9223372036854 < V ∨ (V = 9223372036854 ∧ 775807 < P) ∨ (V = 9223372036854 ∧ P ≤ 775807) ∨ V < 9223372036854 by omega) with k | ⟨k, k'⟩ | ⟨k, k'⟩ | k
          · have HE : Hid (pn false (some N) = (0, 1)) := pn_big false V P N HNN.out (Or.inl k) (by omega)
            go_wp2
            go_ret2
            exact ⟨by rw [HE.out]; rfl, hb3⟩
          · have HE : Hid (pn false (some N) = (0, 1)) := pn_big false V P N HNN.out (Or.inr ⟨k, k'⟩) (by omega)
            go_wp2
            go_ret2
            exact ⟨by rw [HE.out]; rfl, hb3⟩
          · have HE : Hid (pn false (some N) = (9223372036854000000 + P, 0)) := by
              have := pn_pos V P N HNN.out (Or.inr ⟨k, k'⟩) (by omega)
              rw [k] at this
              exact this
            go_wp2
            go_ret2
            exact ⟨by rw [HE.out]; rfl, hb3⟩
          · have HE : Hid (pn false (some N) = (V * 1000000 + P, 0)) := pn_pos V P N HNN.out (Or.inl k) (by omega)
            have k2 : (V == 9223372036854) = false := by rw [beq_eq_false_iff_ne]; omega
            go_wp2
            go_ret2
            exact ⟨by rw [HE.out]; rfl, hb3⟩
  · rw [if_pos rfl] at ha
    subst ha
    have hx' : ∀ W, (Instr.index 9 (.string (tx l)) (.int .i64 1)).run Tryd.prog W = .ok (.int .u8 X) W := hx
    have hex' : (tx l).extract 1 (1 + n) = tx (b.take n) := hex
    have hme' : (tx l).extract (1 + n + 1) l.length = tx m := hme
    have hixE' : ∀ W, (Instr.index 9 (.string (tx l)) (.int .i64 (1 + (n : Int)))).run Tryd.prog W = .ok (.int .u8 46) W := hixE2
    have hK1' : 1 + (n : Int) + 1 ≤ (l.length : Int) := by omega
    have hlast : 1 + (n : Int) < (l.length : Int) := by omega
    have hne : (1 + (n : Int) + 1 + (K : Int) != (l.length : Int)) = false := by rw [bne_eq_false_iff_eq]; omega
    clear hx hex hixE2 hme k3'
    rcases hfst with h | ⟨h, h'⟩
    all_goals
      go_enter Tryd.func6, Tryd.ntmps6
      go_wp2_with fail
      refine (dg_gen l 1 n _ _ rfl hm (by omega) HN.out).mono ?_
      rintro e w' ⟨rfl, rfl⟩
      go_wp2_with fail
      refine (pint_gen (b.take n) n V HD.out HL.out n1 n2 HV.out _).mono ?_
      rintro e w' ⟨rfl, hb⟩
      go_wp2_with fail
      refine (dg_gen l (1 + n + 1) K _ _ (by omega) hm (by omega) HK.out).mono ?_
      rintro e w' ⟨rfl, rfl⟩
      go_wp2_with fail
      refine (pint_gen m K U HMD.out HML.out k1' (by omega) HU.out _).mono ?_
      rintro e w' ⟨rfl, hb2⟩
      have hb3 := below_two hb hb2
      clear hb hb2
      go_wp2
      go_loop [9, 10] (fun p k => ∃ (j : Nat) (P : Int), j ≤ 6 ∧ k = .int .i64 j ∧ p = .int .i64 P ∧ 0 ≤ P ∧ P < 1000000 ∧ P * 10 ^ (6 - j) = T) (fun _ k => 6 - (intOf k).toNat)
      case atStart => exact ⟨K, U, HK2.out, rfl, rfl, u0, u1, HT.out⟩
      case round =>
        obtain ⟨j, P, hj, rfl, rfl, p0, p1, hP⟩ := hrel
        have HP : Hid _ := hP
        have HJ : Hid _ := hj
        have j0 : 0 ≤ (j : Int) := by omega
        have j1 : (j : Int) ≤ 6 := by omega
        clear hP hj
        by_cases c : (j : Int) < 6
        · have HP2 : Hid (10 * P * 10 ^ (6 - (j + 1)) = T) := by
            show _ = _
            have h := HP.out
            rw [show 6 - j = (6 - (j + 1)) + 1 by omega, Int.pow_succ] at h
            rw [← h, Int.mul_comm 10 P, Int.mul_assoc, Int.mul_comm 10]
          have hP3 : 10 * P ≤ T := by
            have h := HP2.out
            have h1 : (1 : Int) ≤ 10 ^ (6 - (j + 1)) := by
              have : (0 : Int) < 10 ^ (6 - (j + 1)) := Int.pow_pos (by omega)
              omega
            have h2 := Int.mul_le_mul_of_nonneg_left h1 (show (0 : Int) ≤ 10 * P by omega)
            omega
          go_wp2
          go_round
          case rel => exact ⟨j + 1, 10 * P, by omega, by go_num, rfl, by omega, by omega, HP2.out⟩
          case measure => simp [intOf]; omega
        · have hj6 : j = 6 := by have := HJ.out; omega
          have hPT : P = T := by
            have h := HP.out
            rw [hj6] at h
            simpa using h
          subst hPT
          have c2 : (6 : Int) ≤ (j : Int) := by omega
          clear c hj6
          rcases (show 9223372036854 < V ∨ (V = 9223372036854 ∧ 775807 < P) ∨ (V = 9223372036854 ∧ P ≤ 775807) ∨ V < 9223372036854 by omega) with k | ⟨k, k'⟩ | ⟨k, k'⟩ | k
          · have HE : Hid (pn true (some N) = (0, 1)) := pn_big true V P N HNN.out (Or.inl k) (by omega)
            go_wp2
            go_ret2
            exact ⟨by rw [HE.out]; rfl, hb3⟩
          · have HE : Hid (pn true (some N) = (0, 1)) := pn_big true V P N HNN.out (Or.inr ⟨k, k'⟩) (by omega)
            go_wp2
            go_ret2
            exact ⟨by rw [HE.out]; rfl, hb3⟩
          · have HE : Hid (pn true (some N) = (-(9223372036854000000 + P), 0)) := by
              have := pn_neg V P N HNN.out (Or.inr ⟨k, k'⟩) (by omega)
              rw [k] at this
              exact this
            go_wp2
            go_ret2
            exact ⟨by rw [HE.out]; rfl, hb3⟩
          · have HE : Hid (pn true (some N) = (-(V * 1000000 + P), 0)) := pn_neg V P N HNN.out (Or.inl k) (by omega)
            have k2 : (V == 9223372036854) = false := by rw [beq_eq_false_iff_ne]; omega
            go_wp2
            go_ret2
            exact ⟨by rw [HE.out]; rfl, hb3⟩

end Go.Proofs.YtinhbegnpadcaaaDoor
