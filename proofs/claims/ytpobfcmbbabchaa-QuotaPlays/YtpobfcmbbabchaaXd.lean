/- The full-width product and quotient of math/bits (Mul64, Div64), walked: every product; every quotient that fits. -/
import Derived.Test.YtpobfcmbbabchaaXb
import Derived.Test.YtpobfcmbbabchaaXl
import Derived.Deep.DeepCutAuto
import Derived.Deep.CutBlock
import Derived.Laws.Bits64b
import Derived.Laws.MathBits
namespace Go.Proofs.Ytpobfcmbbabchaa
open Go.RowKit

theorem ret2_int {k : IntKind} {a b : Int} {v : Value} (h : a = b) : Ending.returned (.tuple #[.int k a, v]) = .returned (.tuple #[.int k b, v]) := by rw [h]
theorem and_low (a : Int) (h0 : 0 ≤ a) (h1 : a < 18446744073709551616) : bits .and .u64 a 4294967295 = a % 4294967296 := by
  obtain ⟨n, rfl⟩ := Int.eq_ofNat_of_zero_le h0
  have h := bits_and_u64_nat n 4294967295 (by omega) (by omega)
  have e : n &&& 4294967295 = n % 4294967296 := Nat.and_two_pow_sub_one_eq_mod n 32
  rw [e] at h
  simpa using h
theorem or_disj (a b : Int) (s : Nat) (ha : 0 ≤ a) (hb : 0 ≤ b) (hb' : b < 2 ^ s) (h : a * 2 ^ s + b < 18446744073709551616) : bits .or .u64 (a * 2 ^ s) b = a * 2 ^ s + b := by
  obtain ⟨m, rfl⟩ := Int.eq_ofNat_of_zero_le ha
  obtain ⟨n, rfl⟩ := Int.eq_ofNat_of_zero_le hb
  have hn : n < 2 ^ s := by exact_mod_cast hb'
  have hs : m * 2 ^ s + n < 18446744073709551616 := by
    have e0 : ((m * 2 ^ s + n : Nat) : Int) = (m : Int) * 2 ^ s + n := by simp
    omega
  have e := bits_or_u64_nat (m * 2 ^ s) n (by omega) (by omega)
  have e2 := Nat.two_pow_add_eq_or_of_lt hn m
  rw [Nat.mul_comm m] at e
  rw [← e2] at e
  have e3 : ((2 ^ s * m : Nat) : Int) = (m : Int) * 2 ^ s := by rw [Nat.mul_comm]; simp
  rw [e3] at e
  rw [e]
  simp [Int.mul_comm]

/-- The numbers that the division goes on with, moved up by s bits. -/
theorem setup (hi lo y : Int) (s : Nat) (hs : s ≤ 63) (h0 : 0 ≤ hi) (h1 : 0 ≤ lo) (h2 : lo < 18446744073709551616) (h3 : hi < y) (b1 : 9223372036854775808 ≤ y.toNat * 2 ^ s) (b2 : y.toNat * 2 ^ s < 18446744073709551616) :
    ∃ U L N1 N0 : Int, IntKind.u64.wrap (y * 2 ^ s) = N1 * 4294967296 + N0 ∧ (N1 * 4294967296 + N0) / 4294967296 = N1 ∧ bits .and .u64 (N1 * 4294967296 + N0) 4294967295 = N0 ∧
      bits .or .u64 (IntKind.u64.wrap (hi * 2 ^ s)) (lo / 2 ^ (64 - s)) = U ∧ IntKind.u64.wrap (lo * 2 ^ s) = L ∧ bits .and .u64 L 4294967295 = L % 4294967296 ∧
      2147483648 ≤ N1 ∧ N1 < 4294967296 ∧ 0 ≤ N0 ∧ N0 < 4294967296 ∧ 0 ≤ U ∧ U < N1 * 4294967296 + N0 ∧ 0 ≤ L ∧ L < 18446744073709551616 ∧
      (U * 18446744073709551616 + L) / (N1 * 4294967296 + N0) = (hi * 18446744073709551616 + lo) / y := by
  have hp : (1 : Int) ≤ 2 ^ s := by exact_mod_cast Nat.one_le_two_pow
  have hpq : (2 : Int) ^ s * 2 ^ (64 - s) = 18446744073709551616 := by
    rw [← Int.pow_add, show s + (64 - s) = 64 from by omega]; rfl
  have c1 : 9223372036854775808 ≤ y * 2 ^ s := by
    have : ((9223372036854775808 : Nat) : Int) ≤ ((y.toNat * 2 ^ s : Nat) : Int) := by exact_mod_cast b1
    rw [Int.natCast_mul, Int.toNat_of_nonneg (by omega)] at this
    simpa using this
  have c2 : y * 2 ^ s < 18446744073709551616 := by
    have : ((y.toNat * 2 ^ s : Nat) : Int) < ((18446744073709551616 : Nat) : Int) := by exact_mod_cast b2
    rw [Int.natCast_mul, Int.toNat_of_nonneg (by omega)] at this
    simpa using this
  obtain ⟨a1, a2, a3, a4, a5⟩ := moved hi lo y (2 ^ s) (2 ^ (64 - s)) hp hpq h0 h1 h2 h3
  have w1 : IntKind.u64.wrap (y * 2 ^ s) = y * 2 ^ s := by rw [IntKind.wrap_u64]; omega
  have w2 : IntKind.u64.wrap (hi * 2 ^ s) = hi * 2 ^ s := by rw [IntKind.wrap_u64]; omega
  have w3 : IntKind.u64.wrap (lo * 2 ^ s) = lo * 2 ^ s % 18446744073709551616 := by rw [IntKind.wrap_u64]
  have w4 := or_disj hi (lo / 2 ^ (64 - s)) s h0 a3 a4 (by omega)
  have w5 := moved_quo (hi * 18446744073709551616 + lo) y (2 ^ s) hp
  rw [← a5] at w5
  rw [w1, w2, w3, w4, ← w5]
  generalize y * 2 ^ s = Y at *
  generalize lo * 2 ^ s % 18446744073709551616 = L at *
  have hL : 0 ≤ L ∧ L < 18446744073709551616 := by rw [IntKind.wrap_u64] at w3; omega
  refine ⟨_, L, Y / 4294967296, Y % 4294967296, by omega, by omega, ?_, rfl, rfl, and_low L hL.1 hL.2, by omega, by omega, by omega, by omega, by omega, by omega, hL.1, hL.2, ?_⟩
  · rw [show Y / 4294967296 * 4294967296 + Y % 4294967296 = Y from by omega]
    exact and_low Y (by omega) c2
  · rw [show Y / 4294967296 * 4294967296 + Y % 4294967296 = Y from by omega]

theorem rest_wrap (U d Y Q : Int) (hQ : (U * 4294967296 + d) / Y = Q) (hY : 0 < Y) (hY' : Y < 18446744073709551616) :
    IntKind.u64.wrap (IntKind.u64.wrap (IntKind.u64.wrap (U * 4294967296) + d) - IntKind.u64.wrap (Q * Y)) = (U * 4294967296 + d) % Y := by
  have h := rest_of U d Y hY hY'
  rw [hQ] at h
  rw [← h]
  simp only [IntKind.wrap_u64]
  generalize Q * Y = X
  omega

set_option maxHeartbeats 1000000 in
theorem div_high (hi lo y : Int) (h0 : 1 ≤ hi) (h1 : 0 ≤ lo) (h2 : lo < 18446744073709551616) (h3 : hi < y) (h4 : y < 18446744073709551616) (w : World) :
    Calls Try.prog 65 #[.int .u64 hi, .int .u64 lo, .int .u64 y] w fun e w' => ∃ r, e = .returned (.tuple #[.int .u64 ((hi * 18446744073709551616 + lo) / y), .int .u64 r]) ∧ w' = w := by
  go_enter Try.func65, Try.ntmps65
  go_upto_region 15 with (go_at_call 69; refine (lead_any y (by omega) h4 _).mono ?_; rintro e w' ⟨s, rfl, hs1, hs2, hs3, rfl⟩; have HS : Hid (9223372036854775808 ≤ y.toNat * 2 ^ s ∧ y.toNat * 2 ^ s < 18446744073709551616) := ⟨hs2, hs3⟩; clear hs2 hs3)
  obtain ⟨U, L, N1, N0, e1, e2, e3, e4, e5, e6, n1, n1', n0, n0', u0, u1, l0, l1, efin⟩ := setup hi lo y s hs1 (by omega) h1 h2 h3 HS.out.1 HS.out.2
  have EF : Hid ((U * 18446744073709551616 + L) / (N1 * 4294967296 + N0) = (hi * 18446744073709551616 + lo) / y) := efin
  clear efin
  simp only [e1, e2, e3, e4, e5, e6]
  clear e1 e2 e3 e4 e5 e6 HS
  have sb := start_bd n1 n1' u0 (show U < 18446744073709551616 by omega)
  obtain ⟨sb1, sb2, sb3, sb4, sb5⟩ := sb
  go_upto_block 0 with fail
  go_cut [15, 16] (fun a b wx => w' = wx ∧ a = .int .u64 ((U * 4294967296 + L / 4294967296) / (N1 * 4294967296 + N0)) ∧ ∃ r, b = .int .u64 r)
  case first =>
    have S : Set2 U (L / 4294967296) N1 N0 := ⟨n1, n1', n0, n0', u0, u1, by omega, by omega⟩
    have HD := Dig.start S
    go_wp2_with fail
    go_loop [15, 16] (fun a b => ∃ q r : Int, a = .int .u64 q ∧ b = .int .u64 r ∧ 0 ≤ q ∧ q ≤ 8589934592 ∧ 0 ≤ r ∧ r < 4294967296 ∧ Dig U (L / 4294967296) N1 N0 q r) (fun a _ => (intOf a).toNat)
    case atStart => exact ⟨_, _, rfl, rfl, sb1, sb2, by omega, by omega, HD⟩
    case round =>
      clear HD
      obtain ⟨q, r, rfl, rfl, q0, q1, r0, r1, hd⟩ := hrel
      by_cases c : 4294967296 ≤ q
      · have hdn := hd.down S (Or.inl c)
        by_cases c2 : 4294967296 ≤ r + N1
        · go_wp2
          go_meet
          case rel => exact ⟨rfl, by rw [← hdn.past S c2 (by omega)], _, rfl⟩
        · go_wp2
          go_round
          case rel => exact ⟨q - 1, r + N1, rfl, rfl, by omega, by omega, by omega, by omega, hdn⟩
          case measure => simp [intOf]; omega
      · obtain ⟨p0, p1⟩ := prod_bd q0 (show q < 4294967296 by omega) n0 n0'
        by_cases c3 : q * N0 ≤ 4294967296 * r + L / 4294967296
        · have hst := hd.stop S (by omega)
          clear hd
          have HST : Hid (q = (U * 4294967296 + L / 4294967296) / (N1 * 4294967296 + N0)) := hst
          clear hst
          go_wp2
          go_meet
          case rel => exact ⟨rfl, by rw [← HST.out], _, rfl⟩
        · have hdn := hd.down S (Or.inr (by omega))
          have q2 : 1 ≤ q := by
            rcases Int.lt_or_le q 1 with h | h
            · exfalso
              have : q = 0 := by omega
              subst this
              simp at c3
              omega
            · exact h
          by_cases c2 : 4294967296 ≤ r + N1
          · go_wp2
            go_meet
            case rel => exact ⟨rfl, by rw [← hdn.past S c2 (by omega)], _, rfl⟩
          · go_wp2
            go_round
            case rel => exact ⟨q - 1, r + N1, rfl, rfl, by omega, by omega, by omega, by omega, hdn⟩
            case measure => simp [intOf]; omega
  case rest =>
    obtain ⟨rfl, rfl, r, rfl⟩ := hcut
    have S : Set2 U (L / 4294967296) N1 N0 := ⟨n1, n1', n0, n0', u0, u1, by omega, by omega⟩
    have g1 := quo_lt S
    have g2 := quo_nn S
    generalize hQ : (U * 4294967296 + L / 4294967296) / (N1 * 4294967296 + N0) = Q at g1 g2 ⊢
    have HQ : Hid ((U * 4294967296 + L / 4294967296) / (N1 * 4294967296 + N0) = Q) := hQ
    clear hQ S
    go_upto_region 22 with fail
    have HW := rest_wrap U (L / 4294967296) (N1 * 4294967296 + N0) Q HQ.out (by omega) (by omega)
    have v0 := Int.emod_nonneg (U * 4294967296 + L / 4294967296) (show N1 * 4294967296 + N0 ≠ 0 by omega)
    have v1 := Int.emod_lt_of_pos (U * 4294967296 + L / 4294967296) (show 0 < N1 * 4294967296 + N0 by omega)
    have ET := two_digits U L (N1 * 4294967296 + N0) (by omega)
    rw [HQ.out, EF.out] at ET
    generalize hV : (U * 4294967296 + L / 4294967296) % (N1 * 4294967296 + N0) = V at HW v0 v1 ET
    clear hV HQ EF
    have HT : Hid (Q * 4294967296 + (V * 4294967296 + L % 4294967296) / (N1 * 4294967296 + N0) = (hi * 18446744073709551616 + lo) / y) := ET
    simp only [HW]
    clear HW ET sb1 sb2 sb3 sb4 sb5
    have tb := start_bd n1 n1' v0 (show V < 18446744073709551616 by omega)
    obtain ⟨tb1, tb2, tb3, tb4, tb5⟩ := tb
    go_upto_block 2 with fail
    go_cut [18, 16] (fun a b wx => w' = wx ∧ a = .int .u64 ((V * 4294967296 + L % 4294967296) / (N1 * 4294967296 + N0)) ∧ ∃ r, b = .int .u64 r)
    case first =>
      have S : Set2 V (L % 4294967296) N1 N0 := ⟨n1, n1', n0, n0', v0, v1, by omega, by omega⟩
      have HD := Dig.start S
      go_wp2_with fail
      go_loop [18, 16] (fun a b => ∃ q r : Int, a = .int .u64 q ∧ b = .int .u64 r ∧ 0 ≤ q ∧ q ≤ 8589934592 ∧ 0 ≤ r ∧ r < 4294967296 ∧ Dig V (L % 4294967296) N1 N0 q r) (fun a _ => (intOf a).toNat)
      case atStart => exact ⟨_, _, rfl, rfl, tb1, tb2, by omega, by omega, HD⟩
      case round =>
        clear HD
        obtain ⟨q, r, rfl, rfl, q0, q1, r0, r1, hd⟩ := hrel
        by_cases c : 4294967296 ≤ q
        · have hdn := hd.down S (Or.inl c)
          by_cases c2 : 4294967296 ≤ r + N1
          · go_wp2
            go_meet
            case rel => exact ⟨rfl, by rw [← hdn.past S c2 (by omega)], _, rfl⟩
          · go_wp2
            go_round
            case rel => exact ⟨q - 1, r + N1, rfl, rfl, by omega, by omega, by omega, by omega, hdn⟩
            case measure => simp [intOf]; omega
        · obtain ⟨p0, p1⟩ := prod_bd q0 (show q < 4294967296 by omega) n0 n0'
          by_cases c3 : q * N0 ≤ 4294967296 * r + L % 4294967296
          · have hst := hd.stop S (by omega)
            clear hd
            have HST : Hid (q = (V * 4294967296 + L % 4294967296) / (N1 * 4294967296 + N0)) := hst
            clear hst
            go_wp2
            go_meet
            case rel => exact ⟨rfl, by rw [← HST.out], _, rfl⟩
          · have hdn := hd.down S (Or.inr (by omega))
            have q2 : 1 ≤ q := by
              rcases Int.lt_or_le q 1 with h | h
              · exfalso
                have : q = 0 := by omega
                subst this
                simp at c3
                omega
              · exact h
            by_cases c2 : 4294967296 ≤ r + N1
            · go_wp2
              go_meet
              case rel => exact ⟨rfl, by rw [← hdn.past S c2 (by omega)], _, rfl⟩
            · go_wp2
              go_round
              case rel => exact ⟨q - 1, r + N1, rfl, rfl, by omega, by omega, by omega, by omega, hdn⟩
              case measure => simp [intOf]; omega
    case rest =>
      obtain ⟨rfl, rfl, r2, rfl⟩ := hcut
      have S : Set2 V (L % 4294967296) N1 N0 := ⟨n1, n1', n0, n0', v0, v1, by omega, by omega⟩
      have g3 := quo_lt S
      have g4 := quo_nn S
      generalize hQ : (V * 4294967296 + L % 4294967296) / (N1 * 4294967296 + N0) = Q2 at g3 g4 HT ⊢
      clear hQ S
      go_wp2
      go_ret2
      exact ⟨_, ret2_int HT.out, rfl⟩

set_option maxHeartbeats 400000 in
theorem div_low (lo y : Int) (h1 : 0 ≤ lo) (h2 : lo < 18446744073709551616) (h3 : 1 ≤ y) (h4 : y < 18446744073709551616) (w : World) :
    Calls Try.prog 65 #[.int .u64 0, .int .u64 lo, .int .u64 y] w fun e w' => ∃ r, e = .returned (.tuple #[.int .u64 (lo / y), .int .u64 r]) ∧ ∃ n, w' = w.drewN n := by
  go_enter Try.func65, Try.ntmps65
  go_wp2
  go_region
  all_goals go_wp2
  all_goals go_ret2
  all_goals exact ⟨_, rfl, 1, rfl⟩

/-- Div64, where the quotient fits. -/
theorem div64_any (hi lo y : Int) (h0 : 0 ≤ hi) (h1 : 0 ≤ lo) (h2 : lo < 18446744073709551616) (h3 : hi < y) (h4 : y < 18446744073709551616) (w : World) :
    Calls Try.prog 65 #[.int .u64 hi, .int .u64 lo, .int .u64 y] w fun e w' => ∃ r, e = .returned (.tuple #[.int .u64 ((hi * 18446744073709551616 + lo) / y), .int .u64 r]) ∧ ∃ n, w' = w.drewN n := by
  rcases (show hi = 0 ∨ 1 ≤ hi from by omega) with rfl | h
  · refine (div_low lo y h1 h2 (by omega) h4 w).mono ?_
    rintro e w' ⟨r, rfl, n, rfl⟩
    exact ⟨r, ret2_int (by rw [Int.zero_mul, Int.zero_add]), n, rfl⟩
  · refine (div_high hi lo y h h1 h2 h3 h4 w).mono ?_
    rintro e w' ⟨r, rfl, rfl⟩
    exact ⟨r, rfl, 0, rfl⟩

theorem and_low' (a : Int) : bits .and .u64 (a % 18446744073709551616) 4294967295 = a % 18446744073709551616 % 4294967296 := and_low _ (by omega) (by omega)

set_option maxHeartbeats 400000 in
/-- Mul64: the product's upper and lower half. -/
theorem mul64_any (x y : Int) (h0 : 0 ≤ x) (h1 : x < 18446744073709551616) (h2 : 0 ≤ y) (h3 : y < 18446744073709551616) (w : World) :
    Calls Try.prog 64 #[.int .u64 x, .int .u64 y] w fun e w' => e = .returned (.tuple #[.int .u64 (x * y / 18446744073709551616), .int .u64 (x * y % 18446744073709551616)]) ∧ w' = w := by
  have HA := mul64_arith x y h0 h1 h2 h3
  have HH : Hid _ := HA
  clear HA
  go_enter Try.func64, Try.ntmps64
  go_wp2
  simp only [IntKind.wrap_u64, and_low x h0 h1, and_low y h2 h3, and_low']
  rw [HH.out]
  go_ret2
  exact ⟨rfl, rfl⟩

end Go.Proofs.Ytpobfcmbbabchaa
