/- The model's Float: the number of millionths of a float of any bits. -/
import Derived.Test.YtinhbegnpadcaaaFloat
import Derived.Test.YtinhbegnpadcaaaModel
namespace Go.Proofs.Ytinhbegnpadcaaa
open Go.RowKit

set_option maxHeartbeats 1000000 in
theorem rfloat_nan (u x m : Int) (mi : Bool) (w : World) (_h0 : 0 ≤ u) (_h1 : u < 18446744073709551616) (P : Parts u x m mi) (c : x = 2047) (cm : m ≠ 0) :
    Calls Try.prog 24 #[.int .u64 u] w fun e w' => e = .returned (.tuple #[.int .i64 0, .int .i64 1]) ∧ w' = w := by
  obtain ⟨m0, m1, x0, x1, em, ex, es⟩ := P
  subst c
  have cm' : (m != 0) = true := by simpa using cm
  clear cm
  go_enter Try.func24, Try.ntmps24
  go_wp2
  go_ret2
  exact ⟨rfl, rfl⟩

theorem top_digits : Dg 0 0 1 0 18446744073709551616 := ⟨by omega, by omega, by omega, by omega, by omega, by omega, by omega, by omega, by omega⟩

set_option maxHeartbeats 1000000 in
theorem rfloat_inf (u : Int) (mi : Bool) (w : World) (_h0 : 0 ≤ u) (_h1 : u < 18446744073709551616) (P : Parts u 2047 0 mi) :
    Calls Try.prog 24 #[.int .u64 u] w fun e w' => e = .returned (.tuple #[.int .i64 (sgI mi 9223372036854775807), .int .i64 0]) ∧ Below w.heap.size w w' := by
  obtain ⟨m0, m1, x0, x1, em, ex, es⟩ := P
  have HG : Hid (sgI mi (18446744073709551616 : Int).toNat = sgI mi 9223372036854775807) := sg_top mi _ (by omega)
  go_enter Try.func24, Try.ntmps24
  go_wp2_with (go_at_call 34; refine (sized_any 0 0 1 0 _ mi _ top_digits).mono ?_; rintro e w' ⟨rfl, hb⟩; rw [HG.out])
  go_ret2
  exact ⟨rfl, hb⟩

set_option maxHeartbeats 1000000 in
theorem rfloat_big (u x m : Int) (mi : Bool) (w : World) (_h0 : 0 ≤ u) (_h1 : u < 18446744073709551616) (P : Parts u x m mi) (c : 1075 ≤ x) (c' : x < 2047) :
    Calls Try.prog 24 #[.int .u64 u] w fun e w' => e = .returned (.tuple #[.int .i64 (sgI mi 9223372036854775807), .int .i64 0]) ∧ Below w.heap.size w w' := by
  obtain ⟨m0, m1, x0, x1, em, ex, es⟩ := P
  have eo := or_52 m m0 m1
  have HT : Hid (∀ n : Nat, 9223372036854775807 ≤ n → sgI mi n = sgI mi 9223372036854775807) := sg_top mi
  go_enter Try.func24, Try.ntmps24
  go_wp2_with (go_at_call 36; refine (times_any (m + 4503599627370496) 1000000 _ (by omega) (by omega) (by omega) (by omega)).mono ?_; rintro e w1 ⟨d0, d1, d2, d3, rfl, hd, hb1⟩; have HD : Hid _ := hd; clear hd)
  have hV : 9223372036854775807 ≤ (m + 4503599627370496) * 1000000 := by omega
  obtain ⟨V, HV⟩ : ∃ V, Hid ((m + 4503599627370496) * 1000000 = V) := ⟨_, rfl⟩
  rw [HV.out] at hV HD
  clear HV
  go_loopw [5] (fun s5 wr => ∃ (k : Nat) (d0 d1 d2 d3 V : Int), k ≤ 972 ∧ s5 = .int .i64 (1075 + k) ∧ 9223372036854775807 ≤ V ∧ Dg d0 d1 d2 d3 V ∧ w1.alloc (.cells #[.int .u64 d0, .int .u64 d1, .int .u64 d2, .int .u64 d3] 42) = wr) (fun s5 _ => (intOf s5 - 1075).toNat)
  case atStart => exact ⟨(x - 1075).toNat, d0, d1, d2, d3, V, by omega, by rw [show (1075 : Int) + ((x - 1075).toNat : Int) = x from by omega], hV, HD.out, rfl⟩
  case round =>
    clear HD hV
    obtain ⟨k, d0, d1, d2, d3, V, hk, rfl, hV, hd, rfl⟩ := hrel
    obtain ⟨a0, b0, a1, b1, a2, b2, a3, b3, val⟩ := hd
    have HV : Hid _ := val
    clear val
    rcases (show k = 0 ∨ ∃ j, k = j + 1 from by cases k with | zero => exact Or.inl rfl | succ j => exact Or.inr ⟨j, rfl⟩) with rfl | ⟨j, rfl⟩
    · have HG : Hid _ := HT.out V.toNat (by omega)
      have HD : Hid (Dg d0 d1 d2 d3 V) := ⟨a0, b0, a1, b1, a2, b2, a3, b3, HV.out⟩
      go_wp2
      refine wp_loop_rounds 1 ?_
      rw [rounds_succ]
      go_wp2_with (go_at_call 34; refine (sized_any d0 d1 d2 d3 V mi _ HD.out).mono ?_; rintro e w' ⟨rfl, hb⟩; rw [HG.out])
      go_ret2
      exact ⟨rfl, below_two (below_two hb1 (Below.alloc (Below.refl _ _) (Nat.le_refl _) _)) hb⟩
    · have e1 : ((1075 : Int) + ((j + 1 : Nat) : Int)) = 1076 + j := by omega
      rw [e1]
      go_wp2
      refine wp_loop_rounds 5 ?_
      rw [rounds_succ]
      go_wp2
      simp only [or_one d0 0 a0 (by omega) (by omega) (by omega), and_low (d0 * 2 + 0) (by omega) (by omega)]
      obtain ⟨f0, c0, e1, e2, f00, f01, c00, c01⟩ : ∃ f c : Int, (d0 * 2 + 0) % 4294967296 = f ∧ (d0 * 2 + 0) / 4294967296 = c ∧ 0 ≤ f ∧ f < 4294967296 ∧ 0 ≤ c ∧ c < 2 := ⟨_, _, rfl, rfl, by omega, by omega, by omega, by omega⟩
      have E0 : Hid (d0 * 2 + 0 = c0 * 4294967296 + f0) := by show _ = _; omega
      simp only [e1, e2]
      clear e1 e2
      rw [rounds_succ]
      go_wp2
      simp only [or_one d1 c0 a1 (by omega) (by omega) (by omega), and_low (d1 * 2 + c0) (by omega) (by omega)]
      obtain ⟨f1, c1, e1, e2, f10, f11, c10, c11⟩ : ∃ f c : Int, (d1 * 2 + c0) % 4294967296 = f ∧ (d1 * 2 + c0) / 4294967296 = c ∧ 0 ≤ f ∧ f < 4294967296 ∧ 0 ≤ c ∧ c < 2 := ⟨_, _, rfl, rfl, by omega, by omega, by omega, by omega⟩
      have E1 : Hid (d1 * 2 + c0 = c1 * 4294967296 + f1) := by show _ = _; omega
      simp only [e1, e2]
      clear e1 e2
      rw [rounds_succ]
      go_wp2
      simp only [or_one d2 c1 a2 (by omega) (by omega) (by omega), and_low (d2 * 2 + c1) (by omega) (by omega)]
      obtain ⟨f2, c2, e1, e2, f20, f21, c20, c21⟩ : ∃ f c : Int, (d2 * 2 + c1) % 4294967296 = f ∧ (d2 * 2 + c1) / 4294967296 = c ∧ 0 ≤ f ∧ f < 4294967296 ∧ 0 ≤ c ∧ c < 2 := ⟨_, _, rfl, rfl, by omega, by omega, by omega, by omega⟩
      have E2 : Hid (d2 * 2 + c1 = c2 * 4294967296 + f2) := by show _ = _; omega
      simp only [e1, e2]
      clear e1 e2
      rw [rounds_succ]
      go_wp2
      simp only [or_one d3 c2 a3 (by omega) (by omega) (by omega), and_low (d3 * 2 + c2) (by omega) (by omega)]
      obtain ⟨f3, c3, e1, e2, f30, f31, c30, c31⟩ : ∃ f c : Int, (d3 * 2 + c2) % 4294967296 = f ∧ (d3 * 2 + c2) / 4294967296 = c ∧ 0 ≤ f ∧ f < 4294967296 ∧ 0 ≤ c ∧ c < 2 := ⟨_, _, rfl, rfl, by omega, by omega, by omega, by omega⟩
      have E3 : Hid (d3 * 2 + c2 = c3 * 4294967296 + f3) := by show _ = _; omega
      simp only [e1, e2]
      clear e1 e2
      rcases (show c3 ≠ 0 ∨ (c3 = 0 ∧ f3 ≠ 0) ∨ (c3 = 0 ∧ f3 = 0) from by omega) with y | ⟨rfl, y⟩ | ⟨rfl, rfl⟩
      · have y' : (c3 != 0) = true := by simpa using y
        rw [rounds_succ]
        go_wp2_with (go_at_call 34; refine (sized_any 0 0 1 0 _ mi _ top_digits).mono ?_; rintro e w' ⟨rfl, hb⟩; rw [HT.out _ (by omega)])
        go_ret2
        exact ⟨rfl, below_two (below_two hb1 (Below.alloc (Below.refl _ _) (Nat.le_refl _) _)) hb⟩
      · have y' : (f3 != 0) = true := by simpa using y
        rw [rounds_succ]
        go_wp2_with (go_at_call 34; refine (sized_any 0 0 1 0 _ mi _ top_digits).mono ?_; rintro e w' ⟨rfl, hb⟩; rw [HT.out _ (by omega)])
        go_ret2
        exact ⟨rfl, below_two (below_two hb1 (Below.alloc (Below.refl _ _) (Nat.le_refl _) _)) hb⟩
      · rw [rounds_succ]
        go_wp2
        go_roundw
        case rel => exact ⟨j, f0, f1, f2, 0, 2 * V, by omega, by go_num, by omega, ⟨f00, f01, f10, f11, f20, f21, by omega, by omega, by have := HV.out; have := E0.out; have := E1.out; have := E2.out; have := E3.out; omega⟩, rfl⟩
        case measure => simp [intOf] <;> omega

end Go.Proofs.Ytinhbegnpadcaaa
