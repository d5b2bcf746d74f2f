/- The model's product of two sizes, digit by digit. -/
import Derived.Test.YtinhbegnpadcaaaDiv
import Derived.Test.YtinhbegnpadcaaaBitwise
import Derived.BigQuiet
import Derived.Deep.Draws
namespace Go.Proofs.Ytinhbegnpadcaaa
open Go.RowKit

theorem half_bd {x y : Int} (h0 : 0 ≤ x) (h1 : x < 4294967296) (h2 : 0 ≤ y) (h3 : y < 4294967296) : 0 ≤ x * y ∧ x * y ≤ 18446744065119617025 := by
  have h3 : x * y ≤ 4294967295 * 4294967295 := Int.mul_le_mul (by omega) (by omega) h2 (by omega)
  exact ⟨Int.mul_nonneg h0 h2, by omega⟩

set_option maxHeartbeats 1000000 in
theorem times_parts (a b x0 x1 y0 y1 : Int) (w : World) (ha : a / 4294967296 = x1) (ha' : bits .and .u64 a 4294967295 = x0) (hb : b / 4294967296 = y1) (hb' : bits .and .u64 b 4294967295 = y0)
   (h0 : 0 ≤ x0) (h1 : x0 < 4294967296) (h2 : 0 ≤ x1) (h3 : x1 < 4294967296) (g0 : 0 ≤ y0) (g1 : y0 < 4294967296) (g2 : 0 ≤ y1) (g3 : y1 < 4294967296) :
    Calls Try.prog 36 #[.int .u64 a, .int .u64 b] w fun e w' => ∃ d0 d1 d2 d3 : Int, e = .returned (.agg #[.int .u64 d0, .int .u64 d1, .int .u64 d2, .int .u64 d3]) ∧ Dg d0 d1 d2 d3 ((x1 * 4294967296 + x0) * (y1 * 4294967296 + y0)) ∧ Below w.heap.size w w' := by
  obtain ⟨p1, p2⟩ := half_bd h0 h1 g0 g1
  obtain ⟨p3, p4⟩ := half_bd h0 h1 g2 g3
  obtain ⟨p5, p6⟩ := half_bd h2 h3 g0 g1
  obtain ⟨p7, p8⟩ := half_bd h2 h3 g2 g3
  have hsd : ∀ (w : World) (n : Nat) (a : Addr) (v : Value), (w.drewN n).setCell a v = (w.setCell a v).drewN n := fun _ _ _ _ => rfl
  go_enter Try.func36, Try.ntmps36
  go_wp2
  clear ha ha' hb hb'
  refine wp_loop_rounds 3 ?_
  rw [rounds_succ]
  go_wp2
  refine wp_loop_rounds 3 ?_
  rw [rounds_succ]
  go_wp2
  go_quiet (fail)
  go_wp2
  simp only [and_low (x0 * y0) p1 (by omega)]
  obtain ⟨d0, k0, e1, e2, b1, b2, b3, b4⟩ : ∃ d0 k0 : Int, x0 * y0 % 4294967296 = d0 ∧ x0 * y0 / 4294967296 = k0 ∧ 0 ≤ d0 ∧ d0 < 4294967296 ∧ 0 ≤ k0 ∧ k0 ≤ 4294967294 := ⟨_, _, rfl, rfl, by omega, by omega, by omega, by omega⟩
  have E1 : Hid (x0 * y0 = k0 * 4294967296 + d0) := by show _ = _; omega
  simp only [e1, e2]
  clear e1 e2
  rw [rounds_succ]
  go_wp2
  go_quiet (fail)
  go_wp2
  simp only [and_low (x0 * y1 + k0) (by omega) (by omega)]
  obtain ⟨d1, k1, e1, e2, b21, b22, b23, b24⟩ : ∃ d k : Int, (x0 * y1 + k0) % 4294967296 = d ∧ (x0 * y1 + k0) / 4294967296 = k ∧ 0 ≤ d ∧ d < 4294967296 ∧ 0 ≤ k ∧ k ≤ 4294967295 := ⟨_, _, rfl, rfl, by omega, by omega, by omega, by omega⟩
  have E2 : Hid (x0 * y1 + k0 = k1 * 4294967296 + d1) := by show _ = _; omega
  simp only [e1, e2]
  clear e1 e2
  rw [rounds_succ]
  go_wp2
  rw [rounds_succ]
  go_wp2
  refine wp_loop_rounds 3 ?_
  rw [rounds_succ]
  go_wp2
  go_quiet (fail)
  go_wp2
  simp only [and_low (d1 + x1 * y0) (by omega) (by omega)]
  obtain ⟨d2, k2, e1, e2, b31, b32, b33, b34⟩ : ∃ d k : Int, (d1 + x1 * y0) % 4294967296 = d ∧ (d1 + x1 * y0) / 4294967296 = k ∧ 0 ≤ d ∧ d < 4294967296 ∧ 0 ≤ k ∧ k ≤ 4294967295 := ⟨_, _, rfl, rfl, by omega, by omega, by omega, by omega⟩
  have E3 : Hid (d1 + x1 * y0 = k2 * 4294967296 + d2) := by show _ = _; omega
  simp only [e1, e2]
  clear e1 e2
  rw [rounds_succ]
  go_wp2
  go_quiet (fail)
  go_wp2
  simp only [and_low (k1 + x1 * y1 + k2) (by omega) (by omega)]
  obtain ⟨d3, k3, e1, e2, b41, b42, b43, b44⟩ : ∃ d k : Int, (k1 + x1 * y1 + k2) % 4294967296 = d ∧ (k1 + x1 * y1 + k2) / 4294967296 = k ∧ 0 ≤ d ∧ d < 4294967296 ∧ 0 ≤ k ∧ k ≤ 4294967295 := ⟨_, _, rfl, rfl, by omega, by omega, by omega, by omega⟩
  have E4 : Hid (k1 + x1 * y1 + k2 = k3 * 4294967296 + d3) := by show _ = _; omega
  simp only [e1, e2]
  clear e1 e2
  rw [rounds_succ]
  go_wp2
  rw [rounds_succ]
  go_wp2
  refine bodyPost_ret (v := .agg #[.int .u64 d0, .int .u64 d2, .int .u64 d3, .int .u64 k3]) (by simp [results, Try.results36, go_sem]) rfl ⟨d0, d2, d3, k3, rfl, ⟨b1, b2, b31, b32, b41, b42, by omega, by omega, ?_⟩, ?_⟩
  · have hN : (x1 * 4294967296 + x0) * (y1 * 4294967296 + y0) = x1 * y1 * 18446744073709551616 + (x1 * y0 + x0 * y1) * 4294967296 + x0 * y0 := by grind
    have q1 := E1.out
    have q2 := E2.out
    have q3 := E3.out
    have q4 := E4.out
    omega
  · exact below_drewN (Below.alloc (Below.alloc (Below.alloc (Below.alloc (Below.refl _ _) (Nat.le_refl _) _) (by simp) _) (by simp; omega) _) (by simp; omega) _) _

/-- The model's product: four digits of it. -/
theorem times_any (a b : Int) (w : World) (h0 : 0 ≤ a) (h1 : a < 18446744073709551616) (h2 : 0 ≤ b) (h3 : b < 18446744073709551616) :
    Calls Try.prog 36 #[.int .u64 a, .int .u64 b] w fun e w' => ∃ d0 d1 d2 d3 : Int, e = .returned (.agg #[.int .u64 d0, .int .u64 d1, .int .u64 d2, .int .u64 d3]) ∧ Dg d0 d1 d2 d3 (a * b) ∧ Below w.heap.size w w' := by
  have h := times_parts a b (a % 4294967296) (a / 4294967296) (b % 4294967296) (b / 4294967296) w rfl (and_low a h0 h1) rfl (and_low b h2 h3) (by omega) (by omega) (by omega) (by omega) (by omega) (by omega) (by omega) (by omega)
  rw [show a / 4294967296 * 4294967296 + a % 4294967296 = a from by omega, show b / 4294967296 * 4294967296 + b % 4294967296 = b from by omega] at h
  exact h

end Go.Proofs.Ytinhbegnpadcaaa
