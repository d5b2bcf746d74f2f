/- Floats, whole numbers and back: the layer and the model answer alike. -/
import Derived.Test.YtinhbegnpadcaaaRefLow
namespace Go.Proofs.Ytinhbegnpadcaaa
open Go.RowKit

theorem none_left (N : Int) (n : Nat) (h0 : 0 ≤ N) (h1 : N < 4722366482869645213696) (hn : 72 ≤ n) : N / 2 ^ n = 0 := by
  have e : (2 : Int) ^ n = 4722366482869645213696 * 2 ^ (n - 72) := by
    rw [show (4722366482869645213696 : Int) = 2 ^ 72 from rfl, ← Int.pow_add, show 72 + (n - 72) = n from by omega]
  have hp := pow_pos (n - 72)
  exact Int.ediv_eq_zero_of_lt h0 (by rw [e]; omega)
theorem sg_zero (m : Bool) : sgI m 0 = 0 := by cases m <;> rfl

theorem float_both (u : Int) (h0 : 0 ≤ u) (h1 : u < 18446744073709551616) : ∃ V E : Int,
    (∀ w, Calls Try.prog 23 #[.int .u64 u] w fun e w' => e = .returned (.tuple #[.int .i64 V, .int .i64 E]) ∧ w' = w) ∧
    (∀ w, Calls Try.prog 24 #[.int .u64 u] w fun e w' => e = .returned (.tuple #[.int .i64 V, .int .i64 E]) ∧ Below w.heap.size w w') := by
  have P := parts_of u h0 h1
  generalize u / 4503599627370496 % 2048 = x at P
  generalize u % 4503599627370496 = m at P
  generalize (u / 9223372036854775808 == 1) = mi at P
  have q := P
  obtain ⟨m0, m1, x0, x1, _, _, _⟩ := q
  rcases (show (x = 2047 ∧ m ≠ 0) ∨ (x = 2047 ∧ m = 0) ∨ (1075 ≤ x ∧ x < 2047) ∨ x = 0 ∨ (1 ≤ x ∧ x < 1075) from by omega) with ⟨c, c'⟩ | ⟨rfl, rfl⟩ | ⟨c, c'⟩ | rfl | ⟨c, c'⟩
  · refine ⟨0, 1, fun w => float_nan u x m mi w h0 h1 P c c', fun w => (rfloat_nan u x m mi w h0 h1 P c c').mono ?_⟩
    rintro e w' ⟨rfl, rfl⟩
    exact ⟨rfl, Below.refl _ _⟩
  · exact ⟨_, _, fun w => float_big u 2047 0 mi w h0 h1 P (by omega) (fun _ => rfl), fun w => rfloat_inf u mi w h0 h1 P⟩
  · exact ⟨_, _, fun w => float_big u x m mi w h0 h1 P c (fun h => by omega), fun w => rfloat_big u x m mi w h0 h1 P c c'⟩
  · refine ⟨0, 0, fun w => float_zero u m mi w h0 h1 P, fun w => (rfloat_low u 0 m m 1 mi w h0 h1 P m0 (by omega) (by omega) (by omega) (Or.inl ⟨rfl, rfl, rfl⟩)).mono ?_⟩
    rintro e w' ⟨rfl, hb⟩
    refine ⟨ret2_int ?_, hb⟩
    rw [none_left (m * 1000000) _ (by omega) (by omega) (by omega)]
    exact sg_zero mi
  · exact ⟨_, _, fun w => float_mid u x m mi w h0 h1 P c c', fun w => rfloat_low u x m (m + 4503599627370496) x mi w h0 h1 P (by omega) (by omega) (by omega) (by omega) (Or.inr ⟨c, c', rfl, rfl⟩)⟩

/-- A whole number as a fixed one. -/
def ofI (n : Int) : Int := sgI (decide (n < 0)) (szI n * 1000000)

set_option maxHeartbeats 400000 in
theorem of_any (n : Int) (w : World) (hn : n ≤ 9223372036854775807) : Calls Try.prog 25 #[.int .i64 n] w fun e w' => e = .returned (.int .i64 (ofI n)) ∧ ∃ k, w' = w.drewN k := by
  have n2 := sz_hi n hn
  have n3 : (szI n : Int) ≤ 9223372036854775807 := by omega
  clear n2
  obtain ⟨r1, r2⟩ := ra_bd (szI n) 1000000 1 (by omega) (by omega) (by omega)
  have HF : Hid (sgI (decide (n < 0)) (raI (szI n) 1000000 1).toNat = ofI n) := by
    show _ = _
    have := sg_ra (decide (n < 0)) (szI n) 1000000 1 (by omega)
    rw [Nat.div_one] at this
    exact this
  generalize hX : raI (szI n) 1000000 1 = X at r1 r2 HF
  have HX : Hid (raI (szI n) 1000000 1 = X) := hX
  clear hX
  go_enter Try.func25, Try.ntmps25
  go_wp2_with (first | (go_at_call 33; refine (size_any _ _ (by assumption)).mono ?_; rintro e w' ⟨rfl, rfl⟩) | (go_at_call 32; refine (ratio_any _ _ _ _ (by omega) (by omega) (by omega) (by omega) (by omega) (by omega)).mono ?_; rintro e w' ⟨rfl, k, rfl⟩; rw [HX.out]) | (go_at_call 31; refine (signed_any X _ _ r1 r2).mono ?_; rintro e w' ⟨rfl, rfl⟩))
  go_ret
  exact ⟨ret_int HF.out, _, rfl⟩

set_option maxHeartbeats 400000 in
theorem rof_any (n : Int) (w : World) (hn : n ≤ 9223372036854775807) : Calls Try.prog 26 #[.int .i64 n] w fun e w' => e = .returned (.int .i64 (ofI n)) ∧ Below w.heap.size w w' := by
  have n1 := nrm_lo n
  have n2 := nrm_hi n hn
  have n4 := sz_hi n hn
  have n3 : (szI n : Int) ≤ 9223372036854775807 := by omega
  have HS : Hid (szI (nrm n) = szI n) := by
    show _ = _
    unfold szI
    rw [nrm_of (nrm n) n1]
  have HF : Hid (sgI (decide (nrm n < 0)) ((szI n : Int) * 1000000).toNat = ofI n) := by
    show _ = _
    unfold ofI
    rw [show decide (nrm n < 0) = decide (n < 0) from decide_eq_decide.2 (nrm_neg n)]
    congr 1
  clear n4
  go_enter Try.func26, Try.ntmps26
  go_wp2_with (first | (go_at_call 17; refine (norm_any _ _).mono ?_; rintro e w' ⟨rfl, rfl⟩) | (go_at_call 16; refine (rabs_any _ _ (by omega)).mono ?_; rintro e w' ⟨rfl, rfl⟩; rw [HS.out]))
  refine (times_any _ _ _ (by omega) (by omega) (by omega) (by omega)).mono ?_
  rintro e w1 ⟨d0, d1, d2, d3, rfl, hd, hb1⟩
  have HD : Hid _ := hd
  clear hd
  go_wp2_with fail
  refine (sized_any d0 d1 d2 d3 _ _ _ HD.out).mono ?_
  rintro e w3 ⟨rfl, hb3⟩
  go_wp2
  go_ret
  exact ⟨ret_int HF.out, below_two hb1 hb3⟩

theorem rwhole_any (a : Int) (w : World) (h2 : a ≤ 9223372036854775807) : Calls Try.prog 28 #[.int .i64 a] w fun e w' => e = .returned (.int .i64 ((nrm a).tdiv 1000000)) ∧ w' = w := by
  have n1 := nrm_lo a
  have n2 := nrm_hi a h2
  go_enter Try.func28, Try.ntmps28
  go_wp2_with (go_at_call 17; refine (norm_any _ _).mono ?_; rintro e w' ⟨rfl, rfl⟩)
  go_ret
  exact ⟨rfl, rfl⟩

end Go.Proofs.Ytinhbegnpadcaaa
