/- The model's quotient of four digits, bit by bit, and a number of digits with its sign. -/
import Derived.Test.YtinhbegnpadcaaaDiv
import Derived.Test.YtinhbegnpadcaaaBitwise
import Derived.Deep.Draws
namespace Go.Proofs.Ytinhbegnpadcaaa
open Go.RowKit

theorem and_one (a : Int) (h0 : 0 ≤ a) (h1 : a < 18446744073709551616) : bits .and .u64 a 1 = a % 2 := by
  obtain ⟨n, rfl⟩ := Int.eq_ofNat_of_zero_le h0
  have h := bits_and_u64_nat n 1 (by omega) (by omega)
  rw [Nat.and_one_is_mod] at h
  simpa using h
theorem or_one (r z : Int) (h0 : 0 ≤ r) (h1 : r < 9223372036854775808) (z0 : 0 ≤ z) (z1 : z < 2) : bits .or .u64 (r * 2) z = r * 2 + z := by
  have := or_disj r z 1 h0 z0 (by simpa using z1) (by simp; omega)
  simpa using this

theorem or_set (q t : Int) (p : Nat) (hp : p < 32) (ht : 0 ≤ t) (e : q = t * 2 ^ (p + 1)) (lt : q + 2 ^ p < 4294967296) : bits .or .u64 q (IntKind.u64.wrap (2 ^ p)) = q + 2 ^ p := by
  have hp1 := pow_pos p
  have hw : IntKind.u64.wrap ((2 : Int) ^ p) = 2 ^ p := by
    rw [IntKind.wrap_u64]
    have hs := pow_split' p hp
    have h2 := pow_pos (31 - p)
    have h3 := Int.mul_le_mul_of_nonneg_left (show 1 ≤ 2 * (2 : Int) ^ (31 - p) by omega) (show (0 : Int) ≤ 2 ^ p by omega)
    omega
  rw [hw, e]
  rw [e] at lt
  exact or_disj t (2 ^ p) (p + 1) ht (by omega) (by rw [Int.pow_succ]; omega) (by omega)

set_option maxHeartbeats 4000000 in
theorem over_any (d0 d1 d2 d3 D b : Int) (w : World) (g : Dg d0 d1 d2 d3 D) (hb : 1 ≤ b) (hb' : b < 9223372036854775808) :
    Calls Try.prog 35 #[.agg #[.int .u64 d0, .int .u64 d1, .int .u64 d2, .int .u64 d3], .int .u64 b] w fun e w' =>
      ∃ q0 q1 q2 q3 : Int, e = .returned (.agg #[.int .u64 q0, .int .u64 q1, .int .u64 q2, .int .u64 q3]) ∧ Dg q0 q1 q2 q3 (D / b) ∧ Below w.heap.size w w' := by
  have HG : Hid _ := g
  have hd0 := g.a0
  have hd0' := g.b0
  have hd1 := g.a1
  have hd1' := g.b1
  have hd2 := g.a2
  have hd2' := g.b2
  have hd3 := g.a3
  have hd3' := g.b3
  have hD := g.val
  have HO : Hid (OInv D b 128 0 0 0 0 0) := OInv.start D b (by omega) (by omega) hb
  clear g hD
  go_enter Try.func35, Try.ntmps35
  go_wp2
  go_loopw [6, 7] (fun s i wr => ∃ (k : Nat) (r q0 q1 q2 q3 : Int), k ≤ 128 ∧ i = .int .i64 ((k : Int) - 1) ∧ s = .int .u64 r ∧ OInv D b k r q0 q1 q2 q3 ∧ ((w.alloc (.cells #[.int .u64 d0, .int .u64 d1, .int .u64 d2, .int .u64 d3] 42)).alloc (.cells #[.int .u64 0, .int .u64 0, .int .u64 0, .int .u64 0] 42)).alloc (.cells #[.int .u64 q0, .int .u64 q1, .int .u64 q2, .int .u64 q3] 42) = wr) (fun _ i _ => (intOf i + 1).toNat)
  case atStart => exact ⟨128, 0, 0, 0, 0, 0, by omega, rfl, rfl, HO.out, rfl⟩
  case round =>
    obtain ⟨k, r, q0, q1, q2, q3, hk, rfl, rfl, hinv, rfl⟩ := hrel
    have hr0 := hinv.r0
    have hr1 := hinv.r1
    have HI : Hid _ := hinv
    clear hinv HO
    rcases (show k = 0 ∨ ∃ p, p < 32 ∧ (k = p + 1 ∨ k = 32 + p + 1 ∨ k = 64 + p + 1 ∨ k = 96 + p + 1) from by
      by_cases h0 : k = 0
      · exact Or.inl h0
      · exact Or.inr ⟨(k - 1) % 32, by omega, by omega⟩) with rfl | ⟨p, hp, rfl | rfl | rfl | rfl⟩
    · clear HG
      go_wp2
      exact bodyPost_ret (v := .agg #[.int .u64 q0, .int .u64 q1, .int .u64 q2, .int .u64 q3]) (by simp [results, Try.results35, go_sem]) rfl ⟨q0, q1, q2, q3, rfl, HI.out.done, Below.alloc (Below.alloc (Below.alloc (Below.refl _ _) (Nat.le_refl _) _) (by simp) _) (by simp; omega) _⟩
    · have e1 : (((p + 1 : Nat) : Int) - 1) = (p : Int) := by omega
      have e2 : ((p : Int) / 32) = 0 := by omega
      have e3 : ((p : Int) % 32) = p := by omega
      rw [e1]
      have g := HG.out
      have hz := dig_bit0 g p hp
      have hp1 := pow_pos p
      have hdp : 0 ≤ d0 / 2 ^ p ∧ d0 / 2 ^ p < 18446744073709551616 := ⟨Int.ediv_nonneg hd0 (by omega), by have := Int.ediv_le_self (2 ^ p) hd0; omega⟩
      have ha := and_one (d0 / 2 ^ p) hdp.1 hdp.2
      have hz0 : 0 ≤ d0 / 2 ^ p % 2 := by omega
      have hz1 : d0 / 2 ^ p % 2 < 2 := by omega
      generalize d0 / 2 ^ p % 2 = z at hz ha hz0 hz1
      have HZ : Hid _ := hz
      have ho := or_one r z hr0 (by omega) hz0 hz1
      have ht : (r / 9223372036854775808 == 1) = false := by simp; omega
      clear hz g hdp hp1
      by_cases c : b ≤ r * 2 + z
      · obtain ⟨⟨t, t0, et⟩, lt, hnew⟩ := HI.out.set0 hp HZ.out c
        have HQ : Hid _ := or_set q0 t p hp t0 et lt
        have HN : Hid _ := hnew
        clear t0 et lt hnew HG
        go_wp2
        go_roundw
        case rel => exact ⟨p, r * 2 + z - b, q0 + 2 ^ p, q1, q2, q3, by omega, by go_num, rfl, HN.out, by rw [HQ.out]⟩
        case measure => simp [intOf] <;> omega
      · clear HG
        go_wp2
        go_roundw
        case rel => exact ⟨p, r * 2 + z, q0, q1, q2, q3, by omega, by go_num, rfl, HI.out.stay HZ.out (by omega), rfl⟩
        case measure => simp [intOf] <;> omega
    · have e1 : (((32 + p + 1 : Nat) : Int) - 1) = 32 + p := by omega
      have e2 : ((32 + p : Int) / 32) = 1 := by omega
      have e3 : ((32 + p : Int) % 32) = p := by omega
      rw [e1]
      have g := HG.out
      have hz := dig_bit1 g p hp
      have hp1 := pow_pos p
      have hdp : 0 ≤ d1 / 2 ^ p ∧ d1 / 2 ^ p < 18446744073709551616 := ⟨Int.ediv_nonneg hd1 (by omega), by have := Int.ediv_le_self (2 ^ p) hd1; omega⟩
      have ha := and_one (d1 / 2 ^ p) hdp.1 hdp.2
      have hz0 : 0 ≤ d1 / 2 ^ p % 2 := by omega
      have hz1 : d1 / 2 ^ p % 2 < 2 := by omega
      generalize d1 / 2 ^ p % 2 = z at hz ha hz0 hz1
      have HZ : Hid _ := hz
      have ho := or_one r z hr0 (by omega) hz0 hz1
      have ht : (r / 9223372036854775808 == 1) = false := by simp; omega
      clear hz g hdp hp1
      by_cases c : b ≤ r * 2 + z
      · obtain ⟨⟨t, t0, et⟩, lt, hnew⟩ := HI.out.set1 hp HZ.out c
        have HQ : Hid _ := or_set q1 t p hp t0 et lt
        have HN : Hid _ := hnew
        clear t0 et lt hnew HG
        go_wp2
        go_roundw
        case rel => exact ⟨32 + p, r * 2 + z - b, q0, q1 + 2 ^ p, q2, q3, by omega, by go_num, rfl, HN.out, by rw [HQ.out]⟩
        case measure => simp [intOf] <;> omega
      · clear HG
        go_wp2
        go_roundw
        case rel => exact ⟨32 + p, r * 2 + z, q0, q1, q2, q3, by omega, by go_num, rfl, HI.out.stay HZ.out (by omega), rfl⟩
        case measure => simp [intOf] <;> omega
    · have e1 : (((64 + p + 1 : Nat) : Int) - 1) = 64 + p := by omega
      have e2 : ((64 + p : Int) / 32) = 2 := by omega
      have e3 : ((64 + p : Int) % 32) = p := by omega
      rw [e1]
      have g := HG.out
      have hz := dig_bit2 g p hp
      have hp1 := pow_pos p
      have hdp : 0 ≤ d2 / 2 ^ p ∧ d2 / 2 ^ p < 18446744073709551616 := ⟨Int.ediv_nonneg hd2 (by omega), by have := Int.ediv_le_self (2 ^ p) hd2; omega⟩
      have ha := and_one (d2 / 2 ^ p) hdp.1 hdp.2
      have hz0 : 0 ≤ d2 / 2 ^ p % 2 := by omega
      have hz1 : d2 / 2 ^ p % 2 < 2 := by omega
      generalize d2 / 2 ^ p % 2 = z at hz ha hz0 hz1
      have HZ : Hid _ := hz
      have ho := or_one r z hr0 (by omega) hz0 hz1
      have ht : (r / 9223372036854775808 == 1) = false := by simp; omega
      clear hz g hdp hp1
      by_cases c : b ≤ r * 2 + z
      · obtain ⟨⟨t, t0, et⟩, lt, hnew⟩ := HI.out.set2 hp HZ.out c
        have HQ : Hid _ := or_set q2 t p hp t0 et lt
        have HN : Hid _ := hnew
        clear t0 et lt hnew HG
        go_wp2
        go_roundw
        case rel => exact ⟨64 + p, r * 2 + z - b, q0, q1, q2 + 2 ^ p, q3, by omega, by go_num, rfl, HN.out, by rw [HQ.out]⟩
        case measure => simp [intOf] <;> omega
      · clear HG
        go_wp2
        go_roundw
        case rel => exact ⟨64 + p, r * 2 + z, q0, q1, q2, q3, by omega, by go_num, rfl, HI.out.stay HZ.out (by omega), rfl⟩
        case measure => simp [intOf] <;> omega
    · have e1 : (((96 + p + 1 : Nat) : Int) - 1) = 96 + p := by omega
      have e2 : ((96 + p : Int) / 32) = 3 := by omega
      have e3 : ((96 + p : Int) % 32) = p := by omega
      rw [e1]
      have g := HG.out
      have hz := dig_bit3 g p hp
      have hp1 := pow_pos p
      have hdp : 0 ≤ d3 / 2 ^ p ∧ d3 / 2 ^ p < 18446744073709551616 := ⟨Int.ediv_nonneg hd3 (by omega), by have := Int.ediv_le_self (2 ^ p) hd3; omega⟩
      have ha := and_one (d3 / 2 ^ p) hdp.1 hdp.2
      have hz0 : 0 ≤ d3 / 2 ^ p % 2 := by omega
      have hz1 : d3 / 2 ^ p % 2 < 2 := by omega
      generalize d3 / 2 ^ p % 2 = z at hz ha hz0 hz1
      have HZ : Hid _ := hz
      have ho := or_one r z hr0 (by omega) hz0 hz1
      have ht : (r / 9223372036854775808 == 1) = false := by simp; omega
      clear hz g hdp hp1
      by_cases c : b ≤ r * 2 + z
      · obtain ⟨⟨t, t0, et⟩, lt, hnew⟩ := HI.out.set3 hp HZ.out c
        have HQ : Hid _ := or_set q3 t p hp t0 et lt
        have HN : Hid _ := hnew
        clear t0 et lt hnew HG
        go_wp2
        go_roundw
        case rel => exact ⟨96 + p, r * 2 + z - b, q0, q1, q2, q3 + 2 ^ p, by omega, by go_num, rfl, HN.out, by rw [HQ.out]⟩
        case measure => simp [intOf] <;> omega
      · clear HG
        go_wp2
        go_roundw
        case rel => exact ⟨96 + p, r * 2 + z, q0, q1, q2, q3, by omega, by go_num, rfl, HI.out.stay HZ.out (by omega), rfl⟩
        case measure => simp [intOf] <;> omega

theorem shl_or (a b : Int) (h0 : 0 ≤ a) (h1 : a < 2147483648) (g0 : 0 ≤ b) (g1 : b < 4294967296) : bits .or .u64 (a * 4294967296) b = a * 4294967296 + b := by
  have := or_disj a b 32 h0 g0 g1 (by show a * 4294967296 + b < _; omega)
  exact this

set_option maxHeartbeats 1000000 in
/-- A number of digits with its sign, held within the bounds. -/
theorem sized_any (d0 d1 d2 d3 D : Int) (m : Bool) (w : World) (g : Dg d0 d1 d2 d3 D) :
    Calls Try.prog 34 #[.agg #[.int .u64 d0, .int .u64 d1, .int .u64 d2, .int .u64 d3], .bool m] w fun e w' => e = .returned (.int .i64 (sgI m D.toNat)) ∧ Below w.heap.size w w' := by
  obtain ⟨a0, b0, a1, b1, a2, b2, a3, b3, val⟩ := g
  have HV : Hid _ := val
  clear val
  have big : ∀ m : Bool, 9223372036854775807 ≤ D.toNat → sgI m D.toNat = if m then -9223372036854775807 else 9223372036854775807 := by
    intro m h
    unfold sgI
    rw [Nat.min_eq_right h]
    cases m <;> rfl
  have HBig : Hid _ := big
  clear big
  have fin : Below w.heap.size w (w.alloc (.cells #[.int .u64 d0, .int .u64 d1, .int .u64 d2, .int .u64 d3] 42)) := Below.alloc (Below.refl _ _) (Nat.le_refl _) _
  rcases (show d2 ≠ 0 ∨ (d2 = 0 ∧ d3 ≠ 0) ∨ (d2 = 0 ∧ d3 = 0 ∧ 2147483648 ≤ d1) ∨ (d2 = 0 ∧ d3 = 0 ∧ d1 < 2147483648) from by omega) with c | ⟨rfl, c⟩ | ⟨rfl, rfl, c⟩ | ⟨rfl, rfl, c⟩
  · have x1 : (d2 != 0) = true := by simpa using c
    have x2 := HBig.out m (by have := HV.out; omega)
    rw [x2]
    clear x2
    cases m
    all_goals
      go_enter Try.func34, Try.ntmps34
      go_wp2
      go_ret
      exact ⟨rfl, fin⟩
  · have x1 : (d3 != 0) = true := by simpa using c
    have x2 := HBig.out m (by have := HV.out; omega)
    rw [x2]
    clear x2
    cases m
    all_goals
      go_enter Try.func34, Try.ntmps34
      go_wp2
      go_ret
      exact ⟨rfl, fin⟩
  · have x2 := HBig.out m (by have := HV.out; omega)
    rw [x2]
    clear x2
    cases m
    all_goals
      go_enter Try.func34, Try.ntmps34
      go_wp2
      go_ret
      exact ⟨rfl, fin⟩
  · have x1 := shl_or d1 d0 a1 c a0 b0
    have x2 : sgI m D.toNat = if m then -(d1 * 4294967296 + d0) else d1 * 4294967296 + d0 := by
      have := HV.out
      unfold sgI
      rw [Nat.min_eq_left (by omega)]
      cases m <;> simp <;> omega
    rw [x2]
    clear x2 HBig
    cases m
    all_goals
      go_enter Try.func34, Try.ntmps34
      go_wp2
      go_ret
      exact ⟨rfl, fin⟩

end Go.Proofs.Ytinhbegnpadcaaa
