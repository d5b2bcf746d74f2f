/- The model's Mul and Div: products and quotients, digit by digit and bit by bit, are the saturating ones. -/
import Derived.Test.YtinhbegnpadcaaaMul
import Derived.Test.YtinhbegnpadcaaaTimes
import Derived.Test.YtinhbegnpadcaaaOver
namespace Go.Proofs.Ytinhbegnpadcaaa
open Go.RowKit

theorem below_two {w w1 w2 : World} (h : Below w.heap.size w w1) (k : Below w1.heap.size w1 w2) : Below w.heap.size w w2 := h.trans (k.mono h.size)

set_option maxHeartbeats 400000 in
theorem rmul_any (a b : Int) (w : World) (ha : a ≤ 9223372036854775807) (hb : b ≤ 9223372036854775807) :
    Calls Try.prog 19 #[.int .i64 a, .int .i64 b] w fun e w' => e = .returned (.int .i64 (muI a b)) ∧ Below w.heap.size w w' := by
  have n2 := sz_hi a ha
  have m2 := sz_hi b hb
  have n3 : (szI a : Int) ≤ 9223372036854775807 := by omega
  have m3 : (szI b : Int) ≤ 9223372036854775807 := by omega
  clear n2 m2
  have HF : Hid (sgI (decide (a < 0) != decide (b < 0)) ((szI a : Int) * (szI b : Int) / 1000000).toNat = muI a b) := by
    show _ = _
    unfold muI
    congr 1
  go_enter Try.func19, Try.ntmps19
  go_wp2_with (go_at_call 16; refine (rabs_any _ _ (by assumption)).mono ?_; rintro e w' ⟨rfl, rfl⟩)
  refine (times_any _ _ _ (by omega) (by omega) (by omega) (by omega)).mono ?_
  rintro e w1 ⟨d0, d1, d2, d3, rfl, hd, hb1⟩
  have HD : Hid _ := hd
  clear hd
  go_wp2_with fail
  refine (over_any d0 d1 d2 d3 _ 1000000 _ HD.out (by omega) (by omega)).mono ?_
  rintro e w2 ⟨q0, q1, q2, q3, rfl, hq, hb2⟩
  have HQ : Hid _ := hq
  clear hq
  go_wp2_with fail
  refine (sized_any q0 q1 q2 q3 _ _ _ HQ.out).mono ?_
  rintro e w3 ⟨rfl, hb3⟩
  go_wp2
  go_ret
  exact ⟨ret_int HF.out, below_two (below_two hb1 hb2) hb3⟩

set_option maxHeartbeats 400000 in
theorem rdiv_any (a b : Int) (w : World) (ha : a ≤ 9223372036854775807) (hb : b ≤ 9223372036854775807) (h0 : (b == 0) = false) :
    Calls Try.prog 9 #[.int .i64 a, .int .i64 b] w fun e w' => e = .returned (.tuple #[.int .i64 (diI a b), .int .i64 0]) ∧ Below w.heap.size w w' := by
  have hbz : b ≠ 0 := by simpa using h0
  have n2 := sz_hi a ha
  have m2 := sz_hi b hb
  have m4 := sz_pos b hbz
  have n3 : (szI a : Int) ≤ 9223372036854775807 := by omega
  have m3 : (szI b : Int) ≤ 9223372036854775807 := by omega
  have m5 : 1 ≤ (szI b : Int) := by omega
  clear n2 m2 m4 hbz
  have HF : Hid (sgI (decide (a < 0) != decide (b < 0)) ((szI a : Int) * 1000000 / (szI b : Int)).toNat = diI a b) := by
    show _ = _
    unfold diI
    congr 1
  go_enter Try.func9, Try.ntmps9
  go_wp2_with (go_at_call 16; refine (rabs_any _ _ (by assumption)).mono ?_; rintro e w' ⟨rfl, rfl⟩)
  refine (times_any _ _ _ (by omega) (by omega) (by omega) (by omega)).mono ?_
  rintro e w1 ⟨d0, d1, d2, d3, rfl, hd, hb1⟩
  have HD : Hid _ := hd
  clear hd
  go_wp2_with (go_at_call 16; refine (rabs_any _ _ (by assumption)).mono ?_; rintro e w' ⟨rfl, rfl⟩)
  refine (over_any d0 d1 d2 d3 _ _ _ HD.out (by omega) (by omega)).mono ?_
  rintro e w2 ⟨q0, q1, q2, q3, rfl, hq, hb2⟩
  have HQ : Hid _ := hq
  clear hq
  go_wp2_with fail
  refine (sized_any q0 q1 q2 q3 _ _ _ HQ.out).mono ?_
  rintro e w3 ⟨rfl, hb3⟩
  go_wp2
  go_ret2
  exact ⟨ret2_int HF.out, below_two (below_two hb1 hb2) hb3⟩

theorem rdiv_zero (a : Int) (w : World) : Calls Try.prog 9 #[.int .i64 a, .int .i64 0] w fun e w' => e = .returned (.tuple #[.int .i64 0, .int .i64 20]) ∧ w' = w := by
  go_enter Try.func9, Try.ntmps9
  go_wp2
  go_ret2
  exact ⟨rfl, rfl⟩

end Go.Proofs.Ytinhbegnpadcaaa
