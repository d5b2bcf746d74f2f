/- The layer's Float, from its bits: walked, case by case. -/
import Derived.Test.YtinhbegnpadcaaaMul
import Derived.Test.YtinhbegnpadcaaaBitwise
namespace Go.Proofs.Ytinhbegnpadcaaa
open Go.RowKit

theorem or_swap (a b : Int) (h0 : 0 ≤ a) (h1 : a < 18446744073709551616) (g0 : 0 ≤ b) (g1 : b < 18446744073709551616) : bits .or .u64 a b = bits .or .u64 b a := by
  obtain ⟨m, rfl⟩ := Int.eq_ofNat_of_zero_le h0
  obtain ⟨n, rfl⟩ := Int.eq_ofNat_of_zero_le g0
  rw [bits_or_u64_nat m n (by omega) (by omega), bits_or_u64_nat n m (by omega) (by omega), Nat.or_comm]

theorem far (H L D : Int) (h0 : 0 ≤ H) (h1 : H < 1000000) (l0 : 0 ≤ L) (l1 : L < 18446744073709551616) (d0 : 64 ≤ D) : H / 2 ^ min (D - 64).toNat 64 = (H * 18446744073709551616 + L) / 2 ^ D.toNat := by
  have e : D.toNat = 64 + (D - 64).toNat := by omega
  generalize (D - 64).toNat = t at e
  have hp := pow_pos t
  rw [e, Int.pow_add, show (2 : Int) ^ 64 = 18446744073709551616 from rfl, ← Int.ediv_ediv_of_nonneg (by omega), show (H * 18446744073709551616 + L) / 18446744073709551616 = H from by omega]
  by_cases c : t ≤ 64
  · rw [Nat.min_eq_left c]
  · rw [Nat.min_eq_right (by omega)]
    have h2 : (2 : Int) ^ t = 2 ^ 64 * 2 ^ (t - 64) := by rw [← Int.pow_add, show 64 + (t - 64) = t from by omega]
    have hp2 := pow_pos (t - 64)
    have h3 : (18446744073709551616 : Int) ≤ 2 ^ t := by
      rw [h2, show (2 : Int) ^ 64 = 18446744073709551616 from rfl]
      omega
    have z1 : H / 2 ^ 64 = 0 := Int.ediv_eq_zero_of_lt h0 (show H < 18446744073709551616 by omega)
    have z2 : H / 2 ^ t = 0 := Int.ediv_eq_zero_of_lt h0 (by omega)
    rw [z1, z2]

theorem near (H L D : Int) (h0 : 0 ≤ H) (l0 : 0 ≤ L) (l1 : L < 18446744073709551616) (d0 : 1 ≤ D) (d1 : D < 64) :
    (H / 2 ^ D.toNat ≠ 0 → 18446744073709551616 ≤ (H * 18446744073709551616 + L) / 2 ^ D.toNat) ∧
    (H / 2 ^ D.toNat = 0 → bits .or .u64 (L / 2 ^ D.toNat) (IntKind.u64.wrap (H * 2 ^ (64 - D).toNat)) = (H * 18446744073709551616 + L) / 2 ^ D.toNat ∧ (H * 18446744073709551616 + L) / 2 ^ D.toNat < 18446744073709551616) := by
  obtain ⟨n, rfl⟩ := Int.eq_ofNat_of_zero_le (show 0 ≤ D by omega)
  have e : ((64 : Int) - (n : Int)).toNat = 64 - n := by omega
  rw [e, Int.toNat_natCast]
  have hs : (2 : Int) ^ n * 2 ^ (64 - n) = 18446744073709551616 := by rw [← Int.pow_add, show n + (64 - n) = 64 from by omega]; rfl
  have hp := pow_pos n
  have hp2 := pow_pos (64 - n)
  have hN : (H * 18446744073709551616 + L) / 2 ^ n = H * 2 ^ (64 - n) + L / 2 ^ n := by
    have : H * 18446744073709551616 + L = L + 2 ^ n * (H * 2 ^ (64 - n)) := by
      have : (2 : Int) ^ n * (H * 2 ^ (64 - n)) = H * (2 ^ n * 2 ^ (64 - n)) := by grind
      rw [this, hs]; omega
    rw [this, Int.add_mul_ediv_left _ _ (by omega)]
    omega
  have hL0 : 0 ≤ L / 2 ^ n := Int.ediv_nonneg l0 (by omega)
  have hL1 : L / 2 ^ n < 2 ^ (64 - n) := (Int.ediv_lt_iff_lt_mul (by omega)).2 (by rw [Int.mul_comm, hs]; exact l1)
  rw [hN]
  constructor
  · intro c
    have h1 : 2 ^ n ≤ H := by
      rcases Int.lt_or_le H (2 ^ n) with h | h
      · exact absurd (Int.ediv_eq_zero_of_lt h0 h) c
      · exact h
    have h2 := Int.mul_le_mul_of_nonneg_right h1 (show (0 : Int) ≤ 2 ^ (64 - n) by omega)
    omega
  · intro c
    have h1 : H < 2 ^ n := by
      have := Int.lt_ediv_add_one_mul_self H (show (0 : Int) < 2 ^ n by omega)
      rw [c] at this
      omega
    have h2 := Int.mul_le_mul_of_nonneg_right (show H + 1 ≤ 2 ^ n by omega) (show (0 : Int) ≤ 2 ^ (64 - n) by omega)
    have h3 : (H + 1) * 2 ^ (64 - n) = H * 2 ^ (64 - n) + 2 ^ (64 - n) := by grind
    have h4 : 0 ≤ H * 2 ^ (64 - n) := Int.mul_nonneg h0 (by omega)
    have h5 : IntKind.u64.wrap (H * 2 ^ (64 - n)) = H * 2 ^ (64 - n) := by rw [IntKind.wrap_u64]; omega
    rw [h5, or_swap _ _ hL0 (by omega) h4 (by omega), or_disj H (L / 2 ^ n) (64 - n) h0 hL0 hL1 (by omega)]
    exact ⟨rfl, by omega⟩

theorem big_same (m : Bool) (R N : Nat) (h : R = N ∨ (9223372036854775807 ≤ R ∧ 9223372036854775807 ≤ N)) : sgI m R = sgI m N := by
  rcases h with rfl | ⟨h1, h2⟩
  · rfl
  · unfold sgI
    rw [Nat.min_eq_right h1, Nat.min_eq_right h2]

set_option maxHeartbeats 400000 in
/-- A million times F, divided by 2^D: as far as the bounds reach. -/
theorem mill_any (F D : Int) (w : World) (f0 : 0 ≤ F) (f1 : F < 9007199254740992) (d0 : 1 ≤ D) (d1 : D ≤ 1074) :
    Calls Try.prog 39 #[.int .u64 F, .int .u64 D] w fun e w' => ∃ R : Int, e = .returned (.int .u64 R) ∧ 0 ≤ R ∧ R ≤ 18446744073709551615 ∧ (∀ m, sgI m R.toNat = sgI m (F * 1000000 / 2 ^ D.toNat).toNat) ∧ w' = w := by
  have hN : F * 1000000 / 18446744073709551616 * 18446744073709551616 + F * 1000000 % 18446744073709551616 = F * 1000000 := by omega
  have h0 : 0 ≤ F * 1000000 / 18446744073709551616 := by omega
  have h1 : F * 1000000 / 18446744073709551616 < 1000000 := by omega
  have l0 : 0 ≤ F * 1000000 % 18446744073709551616 := by omega
  have l1 : F * 1000000 % 18446744073709551616 < 18446744073709551616 := by omega
  generalize hH : F * 1000000 / 18446744073709551616 = H at *
  generalize hL : F * 1000000 % 18446744073709551616 = L at *
  have HN : Hid _ := hN
  have HH : Hid (F * 1000000 / 18446744073709551616 = H) := hH
  have HL : Hid (F * 1000000 % 18446744073709551616 = L) := hL
  clear hN hH hL
  by_cases c : 64 ≤ D
  · have HF : Hid _ := far H L D h0 h1 l0 l1 c
    have hb : 0 ≤ H / 2 ^ min (D - 64).toNat 64 ∧ H / 2 ^ min (D - 64).toNat 64 ≤ H := by
      have := pow_pos (min (D - 64).toNat 64)
      exact ⟨Int.ediv_nonneg h0 (by omega), Int.ediv_le_self _ h0⟩
    have HB : Hid _ := hb
    clear hb
    go_enter Try.func39, Try.ntmps39
    go_wp2_with (go_at_call 40; refine (mul64_any F 1000000 f0 (by omega) (by omega) (by omega) _).mono ?_; rintro e w' ⟨rfl, rfl⟩; rw [HH.out, HL.out])
    go_ret
    refine ⟨_, rfl, HB.out.1, by have := HB.out.2; omega, ?_, rfl⟩
    intro m
    rw [HF.out, HN.out]
  · obtain ⟨n1, n2⟩ := near H L D h0 l0 l1 d0 (by omega)
    rw [HN.out] at n1 n2
    by_cases c2 : H / 2 ^ D.toNat = 0
    · have n3 := n2 c2
      have HQ : Hid _ := n3
      have hpos : 0 ≤ F * 1000000 / 2 ^ D.toNat := Int.ediv_nonneg (by omega) (by have := pow_pos D.toNat; omega)
      have HP : Hid _ := hpos
      have c3 : (H / 2 ^ D.toNat != 0) = false := by simpa using c2
      clear n1 n2 n3 c2 hpos
      go_enter Try.func39, Try.ntmps39
      go_wp2_with (go_at_call 40; refine (mul64_any F 1000000 f0 (by omega) (by omega) (by omega) _).mono ?_; rintro e w' ⟨rfl, rfl⟩; rw [HH.out, HL.out])
      go_ret
      refine ⟨F * 1000000 / 2 ^ D.toNat, ret_int HQ.out.1, HP.out, by have := HQ.out.2; omega, fun _ => rfl, rfl⟩
    · have n3 := n1 c2
      have HQ : Hid _ := n3
      have c3 : (H / 2 ^ D.toNat != 0) = true := by simpa using c2
      clear n1 n2 n3 c2
      go_enter Try.func39, Try.ntmps39
      go_wp2_with (go_at_call 40; refine (mul64_any F 1000000 f0 (by omega) (by omega) (by omega) _).mono ?_; rintro e w' ⟨rfl, rfl⟩; rw [HH.out, HL.out])
      go_ret
      refine ⟨_, rfl, by omega, by omega, fun m => ?_, rfl⟩
      have := HQ.out
      exact big_same m _ _ (Or.inr ⟨by omega, by omega⟩)

theorem and_52 (a : Int) (h0 : 0 ≤ a) (h1 : a < 18446744073709551616) : bits .and .u64 a 4503599627370495 = a % 4503599627370496 := by
  obtain ⟨n, rfl⟩ := Int.eq_ofNat_of_zero_le h0
  have h := bits_and_u64_nat n 4503599627370495 (by omega) (by omega)
  have e : n &&& 4503599627370495 = n % 4503599627370496 := Nat.and_two_pow_sub_one_eq_mod n 52
  rw [e] at h
  simpa using h
theorem and_11 (a : Int) (h0 : 0 ≤ a) (h1 : a < 18446744073709551616) : bits .and .u64 a 2047 = a % 2048 := by
  obtain ⟨n, rfl⟩ := Int.eq_ofNat_of_zero_le h0
  have h := bits_and_u64_nat n 2047 (by omega) (by omega)
  have e : n &&& 2047 = n % 2048 := Nat.and_two_pow_sub_one_eq_mod n 11
  rw [e] at h
  simpa using h
theorem or_52 (m : Int) (h0 : 0 ≤ m) (h1 : m < 4503599627370496) : bits .or .u64 m 4503599627370496 = m + 4503599627370496 := by
  have h := or_disj 1 m 52 (by omega) h0 h1 (by show 1 * 4503599627370496 + m < _; omega)
  rw [or_swap m _ h0 (by omega) (by omega) (by omega)]
  have e : bits BinOp.or IntKind.u64 4503599627370496 m = 1 * 4503599627370496 + m := h
  rw [e]
  omega

/-- A float's parts. -/
structure Parts (u x m : Int) (mi : Bool) : Prop where
  m0 : 0 ≤ m
  m1 : m < 4503599627370496
  x0 : 0 ≤ x
  x1 : x < 2048
  em : bits .and .u64 u 4503599627370495 = m
  ex : bits .and .u64 (u / 4503599627370496) 2047 = x
  es : (u / 9223372036854775808 == 1) = mi

theorem parts_of (u : Int) (h0 : 0 ≤ u) (h1 : u < 18446744073709551616) : Parts u (u / 4503599627370496 % 2048) (u % 4503599627370496) (u / 9223372036854775808 == 1) :=
  ⟨by omega, by omega, by omega, by omega, and_52 u h0 h1, and_11 _ (by omega) (by omega), rfl⟩

/-- The greatest, with a sign. -/
theorem sg_top (m : Bool) (n : Nat) (h : 9223372036854775807 ≤ n) : sgI m n = sgI m 9223372036854775807 := big_same m _ _ (Or.inr ⟨h, Nat.le_refl _⟩)

set_option maxHeartbeats 1000000 in
/-- No number: ErrArg. -/
theorem float_nan (u x m : Int) (mi : Bool) (w : World) (_h0 : 0 ≤ u) (_h1 : u < 18446744073709551616) (P : Parts u x m mi) (c : x = 2047) (cm : m ≠ 0) :
    Calls Try.prog 23 #[.int .u64 u] w fun e w' => e = .returned (.tuple #[.int .i64 0, .int .i64 1]) ∧ w' = w := by
  obtain ⟨m0, m1, x0, x1, em, ex, es⟩ := P
  subst c
  have cm' : (m != 0) = true := by simpa using cm
  clear cm
  go_enter Try.func23, Try.ntmps23
  go_wp2
  go_ret2
  exact ⟨rfl, rfl⟩

set_option maxHeartbeats 1000000 in
/-- So great that it is beyond the bounds. -/
theorem float_big (u x m : Int) (mi : Bool) (w : World) (_h0 : 0 ≤ u) (_h1 : u < 18446744073709551616) (P : Parts u x m mi) (c : 1075 ≤ x) (cm : x = 2047 → m = 0) :
    Calls Try.prog 23 #[.int .u64 u] w fun e w' => e = .returned (.tuple #[.int .i64 (sgI mi 9223372036854775807), .int .i64 0]) ∧ w' = w := by
  obtain ⟨m0, m1, x0, x1, em, ex, es⟩ := P
  have HG : Hid (sgI mi (9223372036854775807 : Int).toNat = sgI mi 9223372036854775807) := rfl
  by_cases c2 : x = 2047
  · have := cm c2
    subst this
    subst c2
    clear cm
    go_enter Try.func23, Try.ntmps23
    go_wp2_with (go_at_call 31; refine (signed_any 9223372036854775807 mi _ (by omega) (by omega)).mono ?_; rintro e w' ⟨rfl, rfl⟩; rw [HG.out])
    go_ret2
    exact ⟨rfl, rfl⟩
  · have c3 : (x == 2047) = false := by simpa using c2
    clear cm c2
    go_enter Try.func23, Try.ntmps23
    go_wp2_with (go_at_call 31; refine (signed_any 9223372036854775807 mi _ (by omega) (by omega)).mono ?_; rintro e w' ⟨rfl, rfl⟩; rw [HG.out])
    go_ret2
    exact ⟨rfl, rfl⟩

set_option maxHeartbeats 1000000 in
/-- So near to 0 that nothing is left. -/
theorem float_zero (u m : Int) (mi : Bool) (w : World) (_h0 : 0 ≤ u) (_h1 : u < 18446744073709551616) (P : Parts u 0 m mi) :
    Calls Try.prog 23 #[.int .u64 u] w fun e w' => e = .returned (.tuple #[.int .i64 0, .int .i64 0]) ∧ w' = w := by
  obtain ⟨m0, m1, x0, x1, em, ex, es⟩ := P
  go_enter Try.func23, Try.ntmps23
  go_wp2
  go_ret2
  exact ⟨rfl, rfl⟩

set_option maxHeartbeats 1000000 in
/-- All others. -/
theorem float_mid (u x m : Int) (mi : Bool) (w : World) (_h0 : 0 ≤ u) (_h1 : u < 18446744073709551616) (P : Parts u x m mi) (c : 1 ≤ x) (c' : x < 1075) :
    Calls Try.prog 23 #[.int .u64 u] w fun e w' => e = .returned (.tuple #[.int .i64 (sgI mi ((m + 4503599627370496) * 1000000 / 2 ^ (1075 - x).toNat).toNat), .int .i64 0]) ∧ w' = w := by
  obtain ⟨m0, m1, x0, x1, em, ex, es⟩ := P
  have eo := or_52 m m0 m1
  go_enter Try.func23, Try.ntmps23
  go_wp2_with (first | (go_at_call 39; refine (mill_any _ _ _ (by omega) (by omega) (by omega) (by omega)).mono ?_; rintro e w' ⟨R, rfl, R0, R1, hR, rfl⟩; have HR : Hid _ := hR; clear hR) | (go_at_call 31; refine (signed_any R mi _ R0 R1).mono ?_; rintro e w' ⟨rfl, rfl⟩; rw [HR.out]))
  go_ret2
  exact ⟨rfl, rfl⟩

end Go.Proofs.Ytinhbegnpadcaaa
