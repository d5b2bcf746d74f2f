/- Products and quotients of layer fixed (size, signed, ratio, Mul, Div), and the fixed calls that every statement of the layer makes (known). -/
import Derived.Test.YtinhbegnpadcaaaDoorDiv
import Derived.WalkMore
import Derived.Deep.Draws
namespace Go.Proofs.YtinhbegnpadcaaaDoor
open Go.RowKit

theorem signed_any (n : Int) (m : Bool) (w : World) (h1 : 0 ≤ n) (h2 : n ≤ 18446744073709551615) : Calls Tryd.prog 15 #[.int .u64 n, .bool m] w fun e w' => e = .returned (.int .i64 (sgI m n.toNat)) ∧ w' = w := by
  by_cases h : n ≤ 9223372036854775807
  all_goals cases m
  all_goals
    go_enter Tryd.func15, Tryd.ntmps15
    go_wp2
    go_ret
    exact ⟨ret_int (by unfold sgI; simp; omega), rfl⟩

theorem size_any (a : Int) (w : World) (h2 : a ≤ 9223372036854775807) : Calls Tryd.prog 10 #[.int .i64 a] w fun e w' => e = .returned (.int .u64 (szI a)) ∧ w' = w := by
  have n2 := sz_hi a h2
  have n3 : (szI a : Int) ≤ 9223372036854775807 := by omega
  clear n2
  go_enter Tryd.func10, Tryd.ntmps10
  go_wp2_with (go_at_call 22; refine (abs_any _ _ h2).mono ?_; rintro e w' ⟨rfl, rfl⟩)
  go_ret
  exact ⟨rfl, rfl⟩

/-- a times b divided by c, held below 2^64. -/
def raI (a b c : Int) : Int := if c ≤ a * b / 18446744073709551616 then 18446744073709551615 else a * b / c

theorem ra_bd (a b c : Int) (h0 : 0 ≤ a) (h2 : 0 ≤ b) (h4 : 1 ≤ c) : 0 ≤ raI a b c ∧ raI a b c ≤ 18446744073709551615 := by
  have hp : 0 ≤ a * b := Int.mul_nonneg h0 h2
  unfold raI
  split
  · omega
  · rename_i h
    have h1 : a * b < (c * 18446744073709551616) := by omega
    have h3 : a * b / c < 18446744073709551616 := (Int.ediv_lt_iff_lt_mul (by omega)).2 (by omega)
    exact ⟨Int.ediv_nonneg hp (by omega), by omega⟩

set_option maxHeartbeats 400000 in
theorem ratio_any (a b c : Int) (w : World) (h0 : 0 ≤ a) (h1 : a < 18446744073709551616) (h2 : 0 ≤ b) (h3 : b < 18446744073709551616) (_h4 : 1 ≤ c) (h5 : c < 18446744073709551616) :
    Calls Tryd.prog 34 #[.int .u64 a, .int .u64 b, .int .u64 c] w fun e w' => e = .returned (.int .u64 (raI a b c)) ∧ ∃ n, w' = w.drewN n := by
  have hp : 0 ≤ a * b := Int.mul_nonneg h0 h2
  have HU : Hid (raI a b c = if c ≤ a * b / 18446744073709551616 then 18446744073709551615 else a * b / c) := rfl
  have HE : Hid (a * b / 18446744073709551616 * 18446744073709551616 + a * b % 18446744073709551616 = a * b) := by show _ = _; omega
  by_cases hc : c ≤ a * b / 18446744073709551616
  · go_enter Tryd.func34, Tryd.ntmps34
    go_wp2_with (go_at_call 48; refine (mul64_any a b h0 h1 h2 h3 _).mono ?_; rintro e w' ⟨rfl, rfl⟩)
    go_ret
    exact ⟨ret_int (by rw [HU.out, if_pos hc]), 0, rfl⟩
  · go_enter Tryd.func34, Tryd.ntmps34
    go_wp2_with (first | (go_at_call 48; refine (mul64_any a b h0 h1 h2 h3 _).mono ?_; rintro e w' ⟨rfl, rfl⟩) | (go_at_call 49; refine (div64_any _ _ c (by omega) (by omega) (by omega) (by omega) h5 _).mono ?_; rintro e w' ⟨r, rfl, n, rfl⟩))
    go_ret
    exact ⟨ret_int (by rw [HU.out, if_neg (by omega), HE.out]), _, rfl⟩

theorem sg_ra (m : Bool) (x y c : Nat) (hc : 0 < c) : sgI m (raI x y c).toNat = sgI m (x * y / c) := by
  have e : ((x : Int) * y) = ((x * y : Nat) : Int) := by simp
  have e2 : ((x : Int) * y / c) = ((x * y / c : Nat) : Int) := by rw [e]; simp
  by_cases h : (c : Int) ≤ (x : Int) * y / 18446744073709551616
  · have h1 : raI x y c = 18446744073709551615 := by unfold raI; rw [if_pos h]
    have h2 : 18446744073709551616 ≤ x * y / c := by
      rw [Nat.le_div_iff_mul_le hc]
      rw [e] at h
      omega
    rw [h1]
    unfold sgI
    rw [show min (18446744073709551615 : Int).toNat 9223372036854775807 = 9223372036854775807 from rfl, Nat.min_eq_right (show 9223372036854775807 ≤ x * y / c by omega)]
  · have h1 : raI x y c = ((x * y / c : Nat) : Int) := by unfold raI; rw [if_neg h, e2]
    rw [h1]
    rfl

set_option maxHeartbeats 400000 in
theorem mul_any (a b : Int) (w : World) (ha : a ≤ 9223372036854775807) (hb : b ≤ 9223372036854775807) :
    Calls Tryd.prog 20 #[.int .i64 a, .int .i64 b] w fun e w' => e = .returned (.int .i64 (muI a b)) ∧ ∃ n, w' = w.drewN n := by
  have n2 := sz_hi a ha
  have m2 := sz_hi b hb
  have n3 : (szI a : Int) ≤ 9223372036854775807 := by omega
  have m3 : (szI b : Int) ≤ 9223372036854775807 := by omega
  clear n2 m2
  have rb := ra_bd (szI a) (szI b) 1000000 (by omega) (by omega) (by omega)
  obtain ⟨r1, r2⟩ := rb
  have HF : Hid (sgI (decide (a < 0) != decide (b < 0)) (raI (szI a) (szI b) 1000000).toNat = muI a b) := by
    show _ = _
    exact sg_ra _ (szI a) (szI b) 1000000 (by omega)
  generalize hX : raI (szI a) (szI b) 1000000 = X at r1 r2 HF
  have HX : Hid (raI (szI a) (szI b) 1000000 = X) := hX
  clear hX
  go_enter Tryd.func20, Tryd.ntmps20
  go_wp2_with (first | (go_at_call 10; refine (size_any _ _ (by assumption)).mono ?_; rintro e w' ⟨rfl, rfl⟩) | (go_at_call 34; refine (ratio_any _ _ _ _ (by omega) (by omega) (by omega) (by omega) (by omega) (by omega)).mono ?_; rintro e w' ⟨rfl, n, rfl⟩; rw [HX.out]) | (go_at_call 15; refine (signed_any X _ _ r1 r2).mono ?_; rintro e w' ⟨rfl, rfl⟩))
  go_ret
  exact ⟨ret_int HF.out, _, rfl⟩

set_option maxHeartbeats 400000 in
theorem div_any (a b : Int) (w : World) (ha : a ≤ 9223372036854775807) (hb : b ≤ 9223372036854775807) (h0 : (b == 0) = false) :
    Calls Tryd.prog 19 #[.int .i64 a, .int .i64 b] w fun e w' => e = .returned (.tuple #[.int .i64 (diI a b), .int .i64 0]) ∧ ∃ n, w' = w.drewN n := by
  have hbz : b ≠ 0 := by simpa using h0
  have n2 := sz_hi a ha
  have m2 := sz_hi b hb
  have m4 := sz_pos b hbz
  have n3 : (szI a : Int) ≤ 9223372036854775807 := by omega
  have m3 : (szI b : Int) ≤ 9223372036854775807 := by omega
  have m5 : 1 ≤ (szI b : Int) := by omega
  have rb := ra_bd (szI a) 1000000 (szI b) (by omega) (by omega) (by omega)
  obtain ⟨r1, r2⟩ := rb
  have HF : Hid (sgI (decide (a < 0) != decide (b < 0)) (raI (szI a) 1000000 (szI b)).toNat = diI a b) := by
    show _ = _
    exact sg_ra _ (szI a) 1000000 (szI b) m4
  clear n2 m2 m4 hbz
  generalize hX : raI (szI a) 1000000 (szI b) = X at r1 r2 HF
  have HX : Hid (raI (szI a) 1000000 (szI b) = X) := hX
  clear hX
  go_enter Tryd.func19, Tryd.ntmps19
  go_wp2_with (first | (go_at_call 10; refine (size_any _ _ (by assumption)).mono ?_; rintro e w' ⟨rfl, rfl⟩) | (go_at_call 34; refine (ratio_any _ _ _ _ (by omega) (by omega) (by omega) (by omega) (by omega) (by omega)).mono ?_; rintro e w' ⟨rfl, n, rfl⟩; rw [HX.out]) | (go_at_call 15; refine (signed_any X _ _ r1 r2).mono ?_; rintro e w' ⟨rfl, rfl⟩))
  go_ret2
  exact ⟨ret2_int HF.out, _, rfl⟩

theorem div_zero (a : Int) (w : World) : Calls Tryd.prog 19 #[.int .i64 a, .int .i64 0] w fun e w' => e = .returned (.tuple #[.int .i64 0, .int .i64 20]) ∧ w' = w := by
  go_enter Tryd.func19, Tryd.ntmps19
  go_wp2
  go_ret2
  exact ⟨rfl, rfl⟩

set_option maxHeartbeats 400000 in
theorem scan1 (w : World) : Calls Tryd.prog 29 #[.string ⟨#[49, 46, 53]⟩] w fun e w' => e = .returned (.tuple #[.int .u64 1, .int .i64 1]) ∧ w' = w := by
  go_enter Tryd.func29, Tryd.ntmps29
  go_wp2
  go_step3
  go_wp2
  go_step3
  go_wp2
  go_rounds 3
  rw [Exit.noGoto_ret]
  go_ret2
  exact ⟨rfl, rfl⟩

set_option maxHeartbeats 400000 in
theorem scan2 (w : World) : Calls Tryd.prog 29 #[.string ⟨#[53]⟩] w fun e w' => e = .returned (.tuple #[.int .u64 5, .int .i64 1]) ∧ w' = w := by
  go_enter Tryd.func29, Tryd.ntmps29
  go_wp2
  go_step3
  go_wp2
  go_step3
  go_wp2
  go_rounds 3
  rw [Exit.noGoto_ret]
  go_ret2
  exact ⟨rfl, rfl⟩

set_option maxHeartbeats 400000 in
theorem psize (w : World) : Calls Tryd.prog 14 #[.string ⟨#[49, 46, 53]⟩] w fun e w' => e = .returned (.tuple #[.int .u64 1500000, .bool true]) ∧ w' = w := by
  have x1 : (⟨#[49, 46, 53]⟩ : ByteArray).extract 1 3 = ⟨#[46, 53]⟩ := by kernel_rfl
  have x2 : (⟨#[46, 53]⟩ : ByteArray).extract 1 2 = ⟨#[53]⟩ := by kernel_rfl
  go_enter Tryd.func14, Tryd.ntmps14
  go_wp2_with fail
  refine (scan1 _).mono ?_
  rintro e w' ⟨rfl, rfl⟩
  go_wp2_with fail
  refine (scan2 _).mono ?_
  rintro e w' ⟨rfl, rfl⟩
  go_wp2
  go_ret2
  exact ⟨rfl, rfl⟩

set_option maxHeartbeats 400000 in
theorem pknown (w : World) : Calls Tryd.prog 5 #[.string ⟨#[45, 49, 46, 53]⟩] w fun e w' => e = .returned (.tuple #[.int .i64 (-1500000), .int .i64 0]) ∧ w' = w := by
  have x1 : (⟨#[45, 49, 46, 53]⟩ : ByteArray).extract 1 4 = ⟨#[49, 46, 53]⟩ := by kernel_rfl
  have x2 : (⟨#[45, 49, 46, 53]⟩ : ByteArray).extract 0 1 = ⟨#[45]⟩ := by kernel_rfl
  have x3 : sgI true (1500000 : Int).toNat = -1500000 := by decide
  go_enter Tryd.func5, Tryd.ntmps5
  go_wp2_with (first | (go_at_call 14; refine (psize _).mono ?_; rintro e w' ⟨rfl, rfl⟩) | (go_at_call 15; refine (signed_any 1500000 true _ (by omega) (by omega)).mono ?_; rintro e w' ⟨rfl, rfl⟩; rw [x3]) | go_in)
  go_ret2
  exact ⟨rfl, rfl⟩

set_option maxHeartbeats 400000 in
/-- The fixed calls come to what they must. -/
theorem known_any (w : World) : Calls Tryd.prog 9 #[] w fun e w' => e = .returned (.bool true) ∧ ∃ n, w' = w.drewN n := by
  have x1 : diI 1000000 3000000 = 333333 := by decide
  have x2 : muI 1500000 2000000 = 3000000 := by decide
  have x3 : adI 9223372036854775807 1 = 9223372036854775807 := by decide
  go_enter Tryd.func9, Tryd.ntmps9
  go_wp2_with fail
  refine (div_any 1000000 3000000 _ (by omega) (by omega) rfl).mono ?_
  rintro e w' ⟨rfl, n1, rfl⟩
  rw [x1]
  go_wp2_with fail
  refine (div_zero 5 _).mono ?_
  rintro e w' ⟨rfl, rfl⟩
  go_wp2_with fail
  refine (pknown _).mono ?_
  rintro e w' ⟨rfl, rfl⟩
  go_wp2_with fail
  refine (mul_any 1500000 2000000 _ (by omega) (by omega)).mono ?_
  rintro e w' ⟨rfl, n2, rfl⟩
  rw [x2]
  go_wp2_with fail
  refine (add_any 9223372036854775807 1 _ (by omega) (by omega)).mono ?_
  rintro e w' ⟨rfl, rfl⟩
  rw [x3]
  go_wp2
  go_ret
  exact ⟨rfl, _, rfl⟩

end Go.Proofs.YtinhbegnpadcaaaDoor
