/- The model's Float where the float has a part behind the point. -/
import Derived.Test.YtinhbegnpadcaaaRefFloat
namespace Go.Proofs.Ytinhbegnpadcaaa
open Go.RowKit

theorem half_or (d c : Int) (h0 : 0 ≤ d) (h1 : d < 4294967296) (c0 : 0 ≤ c) (c1 : c < 2) : bits .or .u64 (d / 2) (c * 2147483648) = d / 2 + c * 2147483648 := by
  have h := or_disj c (d / 2) 31 c0 (by omega) (show d / 2 < 2147483648 by omega) (by show c * 2147483648 + d / 2 < _; omega)
  have h' : bits BinOp.or IntKind.u64 (c * 2147483648) (d / 2) = c * 2147483648 + d / 2 := h
  rw [or_swap _ _ (by omega) (by omega) (by omega) (by omega), h']
  omega
theorem half_zero (d : Int) (h0 : 0 ≤ d) (h1 : d < 4294967296) : bits .or .u64 (d / 2) 0 = d / 2 + 0 * 2147483648 := half_or d 0 h0 h1 (by omega) (by omega)
theorem bit_one (a : Int) (h0 : 0 ≤ a) (h1 : a < 4294967296) : bits .and .u64 a 1 = a % 2 := and_one a h0 (by omega)
theorem pow_next (N : Int) (n j : Nat) (h : j < n) : N / 2 ^ (n - j) = N / 2 ^ (n - (j + 1)) / 2 := by
  rw [show n - j = n - (j + 1) + 1 from by omega, Int.pow_succ, Int.ediv_ediv_of_nonneg (by have := pow_pos (n - (j + 1)); omega)]

set_option maxHeartbeats 2000000 in
theorem rfloat_low (u x m F E : Int) (mi : Bool) (w : World) (_h0 : 0 ≤ u) (_h1 : u < 18446744073709551616) (P : Parts u x m mi) (hF0 : 0 ≤ F) (hF1 : F < 9007199254740992) (hE : 1 ≤ E) (hE' : E < 1075)
    (hc : (x = 0 ∧ F = m ∧ E = 1) ∨ (1 ≤ x ∧ x < 1075 ∧ F = m + 4503599627370496 ∧ E = x)) :
    Calls Try.prog 24 #[.int .u64 u] w fun e w' => e = .returned (.tuple #[.int .i64 (sgI mi (F * 1000000 / 2 ^ (1075 - E).toNat).toNat), .int .i64 0]) ∧ Below w.heap.size w w' := by
  obtain ⟨m0, m1, x0, x1, em, ex, es⟩ := P
  have eo := or_52 m m0 m1
  rcases hc with ⟨rfl, rfl, rfl⟩ | ⟨c1, c2, rfl, rfl⟩
  · go_enter Try.func24, Try.ntmps24
    go_wp2_with (go_at_call 36; refine (times_any F 1000000 _ (by omega) (by omega) (by omega) (by omega)).mono ?_; rintro e w1 ⟨d0, d1, d2, d3, rfl, hd, hb1⟩; have HD : Hid _ := hd; clear hd)
    refine wp_loop_rounds 1 ?_
    rw [rounds_succ]
    go_wp2
    obtain ⟨n, HP⟩ : ∃ n : Nat, Hid (n = ((1075 : Int) - 1).toNat) := ⟨_, rfl⟩
    have hn : (n : Int) = 1075 - 1 := by have := HP.out; omega
    obtain ⟨N, HN⟩ : ∃ N : Int, Hid (F * 1000000 = N) := ⟨_, rfl⟩
    rw [HN.out] at HD
    have hn' : (n : Int) ≤ 1074 := by omega
    have HN2 : Hid ((n : Int) = 1075 - 1) := hn
    clear hn
    go_loopw [5] (fun s5 wr => ∃ (k : Nat) (d0 d1 d2 d3 : Int), k ≤ n ∧ s5 = .int .i64 (1075 - k) ∧ Dg d0 d1 d2 d3 (N / 2 ^ (n - k)) ∧ w1.alloc (.cells #[.int .u64 d0, .int .u64 d1, .int .u64 d2, .int .u64 d3] 42) = wr) (fun s5 _ => (1075 - intOf s5).toNat)
    case atStart => exact ⟨n, d0, d1, d2, d3, Nat.le_refl _, by rw [HN2.out, show (1075 : Int) - (1075 - 1) = 1 from by omega], by rw [Nat.sub_self, Int.pow_zero, Int.ediv_one]; exact HD.out, rfl⟩
    case round =>
      clear HD
      obtain ⟨k, d0, d1, d2, d3, hk, rfl, hd, rfl⟩ := hrel
      rcases (show k = 0 ∨ ∃ j, k = j + 1 from by cases k with | zero => exact Or.inl rfl | succ j => exact Or.inr ⟨j, rfl⟩) with rfl | ⟨j, rfl⟩
      · have HD : Hid _ := hd
        clear hd
        go_wp2_with (go_at_call 34; refine (sized_any d0 d1 d2 d3 _ mi _ HD.out).mono ?_; rintro e w' ⟨rfl, hb⟩)
        go_ret2
        exact ⟨ret2_int (by rw [HN.out, ← HP.out]), below_two (below_two hb1 (Below.alloc (Below.refl _ _) (Nat.le_refl _) _)) hb⟩
      · obtain ⟨a0, b0, a1, b1, a2, b2, a3, b3, val⟩ := hd
        have HV : Hid _ := val
        have HX : Hid _ := pow_next N n j (by omega)
        clear val
        have e1 : ((1075 : Int) - ((j + 1 : Nat) : Int)) = 1074 - j := by omega
        rw [e1]
        clear e1
        have hj : (j : Int) ≤ 1073 := by omega
        go_wp2
        refine wp_loop_rounds 5 ?_
        rw [rounds_succ]
        go_wp2
        simp only [half_zero d3 a3 b3, bit_one d3 a3 b3]
        obtain ⟨f3, c3, e1, e2, f30, f31, c30, c31⟩ : ∃ f c : Int, d3 / 2 + 0 * 2147483648 = f ∧ d3 % 2 = c ∧ 0 ≤ f ∧ f < 4294967296 ∧ 0 ≤ c ∧ c < 2 := ⟨_, _, rfl, rfl, by omega, by omega, by omega, by omega⟩
        have E3 : Hid (d3 / 2 + 0 * 2147483648 = f3 ∧ d3 % 2 = c3) := ⟨e1, e2⟩
        simp only [e1, e2]
        clear e1 e2
        rw [rounds_succ]
        go_wp2
        simp only [half_or d2 c3 a2 b2 (by omega) (by omega), bit_one d2 a2 b2]
        obtain ⟨f2, c2, e1, e2, f20, f21, c20, c21⟩ : ∃ f c : Int, d2 / 2 + c3 * 2147483648 = f ∧ d2 % 2 = c ∧ 0 ≤ f ∧ f < 4294967296 ∧ 0 ≤ c ∧ c < 2 := ⟨_, _, rfl, rfl, by omega, by omega, by omega, by omega⟩
        have E2 : Hid (d2 / 2 + c3 * 2147483648 = f2 ∧ d2 % 2 = c2) := ⟨e1, e2⟩
        simp only [e1, e2]
        clear e1 e2
        rw [rounds_succ]
        go_wp2
        simp only [half_or d1 c2 a1 b1 (by omega) (by omega), bit_one d1 a1 b1]
        obtain ⟨f1, c1, e1, e2, f10, f11, c10, c11⟩ : ∃ f c : Int, d1 / 2 + c2 * 2147483648 = f ∧ d1 % 2 = c ∧ 0 ≤ f ∧ f < 4294967296 ∧ 0 ≤ c ∧ c < 2 := ⟨_, _, rfl, rfl, by omega, by omega, by omega, by omega⟩
        have E1 : Hid (d1 / 2 + c2 * 2147483648 = f1 ∧ d1 % 2 = c1) := ⟨e1, e2⟩
        simp only [e1, e2]
        clear e1 e2
        rw [rounds_succ]
        go_wp2
        simp only [half_or d0 c1 a0 b0 (by omega) (by omega), bit_one d0 a0 b0]
        obtain ⟨f0, c0, e1, e2, f00, f01, c00, c01⟩ : ∃ f c : Int, d0 / 2 + c1 * 2147483648 = f ∧ d0 % 2 = c ∧ 0 ≤ f ∧ f < 4294967296 ∧ 0 ≤ c ∧ c < 2 := ⟨_, _, rfl, rfl, by omega, by omega, by omega, by omega⟩
        have E0 : Hid (d0 / 2 + c1 * 2147483648 = f0 ∧ d0 % 2 = c0) := ⟨e1, e2⟩
        simp only [e1, e2]
        clear e1 e2
        rw [rounds_succ]
        go_wp2
        go_roundw
        case rel => exact ⟨j, f0, f1, f2, f3, by omega, by go_num, ⟨f00, f01, f10, f11, f20, f21, f30, f31, by rw [HX.out, ← HV.out]; have := E0.out; have := E1.out; have := E2.out; have := E3.out; omega⟩, rfl⟩
        case measure => simp [intOf] <;> omega
  · go_enter Try.func24, Try.ntmps24
    go_wp2_with (go_at_call 36; refine (times_any (m + 4503599627370496) 1000000 _ (by omega) (by omega) (by omega) (by omega)).mono ?_; rintro e w1 ⟨d0, d1, d2, d3, rfl, hd, hb1⟩; have HD : Hid _ := hd; clear hd)
    refine wp_loop_rounds 1 ?_
    rw [rounds_succ]
    go_wp2
    obtain ⟨n, HP⟩ : ∃ n : Nat, Hid (n = ((1075 : Int) - E).toNat) := ⟨_, rfl⟩
    have hn : (n : Int) = 1075 - E := by have := HP.out; omega
    obtain ⟨N, HN⟩ : ∃ N : Int, Hid ((m + 4503599627370496) * 1000000 = N) := ⟨_, rfl⟩
    rw [HN.out] at HD
    have hn' : (n : Int) ≤ 1074 := by omega
    have HN2 : Hid ((n : Int) = 1075 - E) := hn
    clear hn
    go_loopw [5] (fun s5 wr => ∃ (k : Nat) (d0 d1 d2 d3 : Int), k ≤ n ∧ s5 = .int .i64 (1075 - k) ∧ Dg d0 d1 d2 d3 (N / 2 ^ (n - k)) ∧ w1.alloc (.cells #[.int .u64 d0, .int .u64 d1, .int .u64 d2, .int .u64 d3] 42) = wr) (fun s5 _ => (1075 - intOf s5).toNat)
    case atStart => exact ⟨n, d0, d1, d2, d3, Nat.le_refl _, by rw [HN2.out, show (1075 : Int) - (1075 - E) = E from by omega], by rw [Nat.sub_self, Int.pow_zero, Int.ediv_one]; exact HD.out, rfl⟩
    case round =>
      clear HD
      obtain ⟨k, d0, d1, d2, d3, hk, rfl, hd, rfl⟩ := hrel
      rcases (show k = 0 ∨ ∃ j, k = j + 1 from by cases k with | zero => exact Or.inl rfl | succ j => exact Or.inr ⟨j, rfl⟩) with rfl | ⟨j, rfl⟩
      · have HD : Hid _ := hd
        clear hd
        go_wp2_with (go_at_call 34; refine (sized_any d0 d1 d2 d3 _ mi _ HD.out).mono ?_; rintro e w' ⟨rfl, hb⟩)
        go_ret2
        exact ⟨ret2_int (by rw [HN.out, ← HP.out]), below_two (below_two hb1 (Below.alloc (Below.refl _ _) (Nat.le_refl _) _)) hb⟩
      · obtain ⟨a0, b0, a1, b1, a2, b2, a3, b3, val⟩ := hd
        have HV : Hid _ := val
        have HX : Hid _ := pow_next N n j (by omega)
        clear val
        have e1 : ((1075 : Int) - ((j + 1 : Nat) : Int)) = 1074 - j := by omega
        rw [e1]
        clear e1
        have hj : (j : Int) ≤ 1073 := by omega
        go_wp2
        refine wp_loop_rounds 5 ?_
        rw [rounds_succ]
        go_wp2
        simp only [half_zero d3 a3 b3, bit_one d3 a3 b3]
        obtain ⟨f3, c3, e1, e2, f30, f31, c30, c31⟩ : ∃ f c : Int, d3 / 2 + 0 * 2147483648 = f ∧ d3 % 2 = c ∧ 0 ≤ f ∧ f < 4294967296 ∧ 0 ≤ c ∧ c < 2 := ⟨_, _, rfl, rfl, by omega, by omega, by omega, by omega⟩
        have E3 : Hid (d3 / 2 + 0 * 2147483648 = f3 ∧ d3 % 2 = c3) := ⟨e1, e2⟩
        simp only [e1, e2]
        clear e1 e2
        rw [rounds_succ]
        go_wp2
        simp only [half_or d2 c3 a2 b2 (by omega) (by omega), bit_one d2 a2 b2]
        obtain ⟨f2, c2, e1, e2, f20, f21, c20, c21⟩ : ∃ f c : Int, d2 / 2 + c3 * 2147483648 = f ∧ d2 % 2 = c ∧ 0 ≤ f ∧ f < 4294967296 ∧ 0 ≤ c ∧ c < 2 := ⟨_, _, rfl, rfl, by omega, by omega, by omega, by omega⟩
        have E2 : Hid (d2 / 2 + c3 * 2147483648 = f2 ∧ d2 % 2 = c2) := ⟨e1, e2⟩
        simp only [e1, e2]
        clear e1 e2
        rw [rounds_succ]
        go_wp2
        simp only [half_or d1 c2 a1 b1 (by omega) (by omega), bit_one d1 a1 b1]
        obtain ⟨f1, c1, e1, e2, f10, f11, c10, c11⟩ : ∃ f c : Int, d1 / 2 + c2 * 2147483648 = f ∧ d1 % 2 = c ∧ 0 ≤ f ∧ f < 4294967296 ∧ 0 ≤ c ∧ c < 2 := ⟨_, _, rfl, rfl, by omega, by omega, by omega, by omega⟩
        have E1 : Hid (d1 / 2 + c2 * 2147483648 = f1 ∧ d1 % 2 = c1) := ⟨e1, e2⟩
        simp only [e1, e2]
        clear e1 e2
        rw [rounds_succ]
        go_wp2
        simp only [half_or d0 c1 a0 b0 (by omega) (by omega), bit_one d0 a0 b0]
        obtain ⟨f0, c0, e1, e2, f00, f01, c00, c01⟩ : ∃ f c : Int, d0 / 2 + c1 * 2147483648 = f ∧ d0 % 2 = c ∧ 0 ≤ f ∧ f < 4294967296 ∧ 0 ≤ c ∧ c < 2 := ⟨_, _, rfl, rfl, by omega, by omega, by omega, by omega⟩
        have E0 : Hid (d0 / 2 + c1 * 2147483648 = f0 ∧ d0 % 2 = c0) := ⟨e1, e2⟩
        simp only [e1, e2]
        clear e1 e2
        rw [rounds_succ]
        go_wp2
        go_roundw
        case rel => exact ⟨j, f0, f1, f2, f3, by omega, by go_num, ⟨f00, f01, f10, f11, f20, f21, f30, f31, by rw [HX.out, ← HV.out]; have := E0.out; have := E1.out; have := E2.out; have := E3.out; omega⟩, rfl⟩
        case measure => simp [intOf] <;> omega

end Go.Proofs.Ytinhbegnpadcaaa
