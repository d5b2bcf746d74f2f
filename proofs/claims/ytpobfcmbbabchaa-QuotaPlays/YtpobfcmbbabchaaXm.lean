/- Products and whole numbers of layer fixed (size, signed, ratio, Mul, Of). -/
import Derived.Test.YtpobfcmbbabchaaXd
import Derived.WalkMore
import Derived.Deep.Draws
namespace Go.Proofs.Ytpobfcmbbabchaa
open Go.RowKit
theorem signed_any (n : Int) (m : Bool) (w : World) (h1 : 0 ≤ n) (h2 : n ≤ 18446744073709551615) : Calls Try.prog 59 #[.int .u64 n, .bool m] w fun e w' => e = .returned (.int .i64 (sgI m n.toNat)) ∧ w' = w := by
  by_cases h : n ≤ 9223372036854775807
  all_goals cases m
  all_goals
    go_enter Try.func59, Try.ntmps59
    go_wp2
    go_ret
    exact ⟨ret_int (by unfold sgI; simp; omega), rfl⟩

theorem size_any (a : Int) (w : World) (h2 : a ≤ 9223372036854775807) : Calls Try.prog 61 #[.int .i64 a] w fun e w' => e = .returned (.int .u64 (szI a)) ∧ w' = w := by
  have n2 := sz_hi a h2
  have n3 : (szI a : Int) ≤ 9223372036854775807 := by omega
  clear n2
  go_enter Try.func61, Try.ntmps61
  go_wp2_with (go_at_call 66; refine (abs_any _ _ h2).mono ?_; rintro e w' ⟨rfl, rfl⟩)
  go_ret
  exact ⟨rfl, rfl⟩

/-- a times b divided by c, held below 2^64. -/
def raI (a b c : Int) : Int := if c ≤ a * b / 18446744073709551616 then 18446744073709551615 else a * b / c

theorem ra_bd (a b c : Int) (h0 : 0 ≤ a) (h2 : 0 ≤ b) (h4 : 1 ≤ c) : 0 ≤ raI a b c ∧ raI a b c ≤ 18446744073709551615 := by
  have hp : 0 ≤ a * b := Int.mul_nonneg h0 h2
  unfold raI
  split
  · omega
  · rename_i h
    have h1 : a * b < (c * 18446744073709551616) := by omega
    have h3 : a * b / c < 18446744073709551616 := (Int.ediv_lt_iff_lt_mul (by omega)).2 (by omega)
    exact ⟨Int.ediv_nonneg hp (by omega), by omega⟩

set_option maxHeartbeats 400000 in
theorem ratio_any (a b c : Int) (w : World) (h0 : 0 ≤ a) (h1 : a < 18446744073709551616) (h2 : 0 ≤ b) (h3 : b < 18446744073709551616) (_h4 : 1 ≤ c) (h5 : c < 18446744073709551616) :
    Calls Try.prog 60 #[.int .u64 a, .int .u64 b, .int .u64 c] w fun e w' => e = .returned (.int .u64 (raI a b c)) ∧ ∃ n, w' = w.drewN n := by
  have hp : 0 ≤ a * b := Int.mul_nonneg h0 h2
  have HU : Hid (raI a b c = if c ≤ a * b / 18446744073709551616 then 18446744073709551615 else a * b / c) := rfl
  have HE : Hid (a * b / 18446744073709551616 * 18446744073709551616 + a * b % 18446744073709551616 = a * b) := by show _ = _; omega
  by_cases hc : c ≤ a * b / 18446744073709551616
  · go_enter Try.func60, Try.ntmps60
    go_wp2_with (go_at_call 64; refine (mul64_any a b h0 h1 h2 h3 _).mono ?_; rintro e w' ⟨rfl, rfl⟩)
    go_ret
    exact ⟨ret_int (by rw [HU.out, if_pos hc]), 0, rfl⟩
  · go_enter Try.func60, Try.ntmps60
    go_wp2_with (first | (go_at_call 64; refine (mul64_any a b h0 h1 h2 h3 _).mono ?_; rintro e w' ⟨rfl, rfl⟩) | (go_at_call 65; refine (div64_any _ _ c (by omega) (by omega) (by omega) (by omega) h5 _).mono ?_; rintro e w' ⟨r, rfl, n, rfl⟩))
    go_ret
    exact ⟨ret_int (by rw [HU.out, if_neg (by omega), HE.out]), _, rfl⟩

theorem sg_ra (m : Bool) (x y c : Nat) (hc : 0 < c) : sgI m (raI x y c).toNat = sgI m (x * y / c) := by
  have e : ((x : Int) * y) = ((x * y : Nat) : Int) := by simp
  have e2 : ((x : Int) * y / c) = ((x * y / c : Nat) : Int) := by rw [e]; simp
  by_cases h : (c : Int) ≤ (x : Int) * y / 18446744073709551616
  · have h1 : raI x y c = 18446744073709551615 := by unfold raI; rw [if_pos h]
    have h2 : 18446744073709551616 ≤ x * y / c := by
      rw [Nat.le_div_iff_mul_le hc]
      rw [e] at h
      omega
    rw [h1]
    unfold sgI
    rw [show min (18446744073709551615 : Int).toNat 9223372036854775807 = 9223372036854775807 from rfl, Nat.min_eq_right (show 9223372036854775807 ≤ x * y / c by omega)]
  · have h1 : raI x y c = ((x * y / c : Nat) : Int) := by unfold raI; rw [if_neg h, e2]
    rw [h1]
    rfl

set_option maxHeartbeats 400000 in
theorem mul_any (a b : Int) (w : World) (ha : a ≤ 9223372036854775807) (hb : b ≤ 9223372036854775807) :
    Calls Try.prog 50 #[.int .i64 a, .int .i64 b] w fun e w' => e = .returned (.int .i64 (muI a b)) ∧ ∃ n, w' = w.drewN n := by
  have n2 := sz_hi a ha
  have m2 := sz_hi b hb
  have n3 : (szI a : Int) ≤ 9223372036854775807 := by omega
  have m3 : (szI b : Int) ≤ 9223372036854775807 := by omega
  clear n2 m2
  have rb := ra_bd (szI a) (szI b) 1000000 (by omega) (by omega) (by omega)
  obtain ⟨r1, r2⟩ := rb
  have HF : Hid (sgI (decide (a < 0) != decide (b < 0)) (raI (szI a) (szI b) 1000000).toNat = muI a b) := by
    show _ = _
    exact sg_ra _ (szI a) (szI b) 1000000 (by omega)
  generalize hX : raI (szI a) (szI b) 1000000 = X at r1 r2 HF
  have HX : Hid (raI (szI a) (szI b) 1000000 = X) := hX
  clear hX
  go_enter Try.func50, Try.ntmps50
  go_wp2_with (first | (go_at_call 61; refine (size_any _ _ (by assumption)).mono ?_; rintro e w' ⟨rfl, rfl⟩) | (go_at_call 60; refine (ratio_any _ _ _ _ (by omega) (by omega) (by omega) (by omega) (by omega) (by omega)).mono ?_; rintro e w' ⟨rfl, n, rfl⟩; rw [HX.out]) | (go_at_call 59; refine (signed_any X _ _ r1 r2).mono ?_; rintro e w' ⟨rfl, rfl⟩))
  go_ret
  exact ⟨ret_int HF.out, _, rfl⟩

/-- A whole number as a fixed one. -/
def ofI (n : Int) : Int := sgI (decide (n < 0)) (szI n * 1000000)

set_option maxHeartbeats 400000 in
theorem of_any (n : Int) (w : World) (hn : n ≤ 9223372036854775807) : Calls Try.prog 51 #[.int .i64 n] w fun e w' => e = .returned (.int .i64 (ofI n)) ∧ ∃ k, w' = w.drewN k := by
  have n2 := sz_hi n hn
  have n3 : (szI n : Int) ≤ 9223372036854775807 := by omega
  clear n2
  obtain ⟨r1, r2⟩ := ra_bd (szI n) 1000000 1 (by omega) (by omega) (by omega)
  have HF : Hid (sgI (decide (n < 0)) (raI (szI n) 1000000 1).toNat = ofI n) := by
    show _ = _
    have := sg_ra (decide (n < 0)) (szI n) 1000000 1 (by omega)
    rw [Nat.div_one] at this
    exact this
  generalize hX : raI (szI n) 1000000 1 = X at r1 r2 HF
  have HX : Hid (raI (szI n) 1000000 1 = X) := hX
  clear hX
  go_enter Try.func51, Try.ntmps51
  go_wp2_with (first | (go_at_call 61; refine (size_any _ _ (by assumption)).mono ?_; rintro e w' ⟨rfl, rfl⟩) | (go_at_call 60; refine (ratio_any _ _ _ _ (by omega) (by omega) (by omega) (by omega) (by omega) (by omega)).mono ?_; rintro e w' ⟨rfl, k, rfl⟩; rw [HX.out]) | (go_at_call 59; refine (signed_any X _ _ r1 r2).mono ?_; rintro e w' ⟨rfl, rfl⟩))
  go_ret
  exact ⟨ret_int HF.out, _, rfl⟩

end Go.Proofs.Ytpobfcmbbabchaa
