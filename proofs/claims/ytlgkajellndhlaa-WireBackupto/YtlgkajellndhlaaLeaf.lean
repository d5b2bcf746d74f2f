/- The small functions of writing. -/
import Derived.Test.YtlgkajellndhlaaOwn
import Derived.Test.YtlgkajellndhlaaBits
namespace Go.Proofs.Ytlgkajellndhlaa
open Go.RowKit
set_option linter.unusedVariables false
set_option linter.unusedSimpArgs false

def rhB (num typ : Int) : Bool := decide (1 ≤ num ∧ num ≤ 536870911) && (typ == 0 || typ == 1 || typ == 2 || typ == 5)
theorem rightHead_any (num typ : Int) (w : World) : Calls Try.prog 32 #[.int .i64 num, .int .i64 typ] w fun e w' => e = .returned (.bool (rhB num typ)) ∧ w' = w := by
  by_cases h1 : num < 1
  · go_enter Try.func32, Try.ntmps32
    go_wp2
    go_ret
    exact ⟨by simp [rhB]; omega, rfl⟩
  · by_cases h2 : 536870911 < num
    · go_enter Try.func32, Try.ntmps32
      go_wp2
      go_ret
      exact ⟨by simp [rhB]; omega, rfl⟩
    · have e : rhB num typ = (typ == 0 || typ == 1 || typ == 2 || typ == 5) := by
        have : 1 ≤ num ∧ num ≤ 536870911 := by omega
        simp [rhB, this]
      rw [e]
      clear e
      by_cases t0 : typ = 0
      · subst t0
        go_enter Try.func32, Try.ntmps32
        go_wp2
        go_ret
        exact ⟨rfl, rfl⟩
      · by_cases t1 : typ = 1
        · subst t1
          go_enter Try.func32, Try.ntmps32
          go_wp2
          go_ret
          exact ⟨rfl, rfl⟩
        · by_cases t2 : typ = 2
          · subst t2
            go_enter Try.func32, Try.ntmps32
            go_wp2
            go_ret
            exact ⟨rfl, rfl⟩
          · have e0 : (typ == 0) = false := by simpa using t0
            have e1 : (typ == 1) = false := by simpa using t1
            have e2 : (typ == 2) = false := by simpa using t2
            go_enter Try.func32, Try.ntmps32
            go_wp2
            go_ret
            exact ⟨by simp [e0, e1, e2], rfl⟩

theorem or_one (n : Int) (h0 : 0 ≤ n) (h1 : n < 18446744073709551616) : bits .or .u64 n 1 = if n % 2 = 1 then n else n + 1 := by
  obtain ⟨m, rfl⟩ := Int.eq_ofNat_of_zero_le h0
  have h := bits_or_u64_nat m 1 (by omega) (by omega)
  have e : m ||| 1 = if m % 2 = 1 then m else m + 1 := by
    have h2 := Nat.two_pow_add_eq_or_of_lt (i := 1) (b := 1) (by omega) (m / 2)
    by_cases hm : m % 2 = 1
    · rw [if_pos hm]
      have h3 := Nat.two_pow_add_eq_or_of_lt (i := 1) (b := m % 2) (by omega) (m / 2)
      rw [hm] at h3
      have h4 : 2 ^ 1 * (m / 2) + 1 = m := by omega
      have e2 : m = 2 ^ 1 * (m / 2) ||| 1 := by rw [← h2]; omega
      conv => lhs; rw [e2]
      rw [Nat.or_assoc, Nat.or_self, ← h2]
      omega
    · rw [if_neg hm]
      have h4 : 2 ^ 1 * (m / 2) = m := by omega
      rw [h4] at h2
      omega
  rw [show ((1 : Nat) : Int) = 1 from rfl] at h
  rw [h, e]
  split <;> split <;> omega
theorem bitLen_two (m : Nat) (h0 : 0 < m) (h1 : m < 18446744073709551616) : m < 2 ^ Lib.bitLen m ∧ 2 ^ Lib.bitLen m ≤ 2 * m ∧ Lib.bitLen m ≤ 64 := by
  obtain ⟨a, b, c⟩ := Lib.bitLenAux_bounds 64 m (by omega) (by omega)
  refine ⟨c, ?_, Lib.bitLen_le m 64 (by omega) (by omega)⟩
  show 2 ^ Lib.bitLenAux 64 m ≤ 2 * m
  have : (2 : Nat) ^ Lib.bitLenAux 64 m = 2 * 2 ^ (Lib.bitLenAux 64 m - 1) := by
    conv => lhs; rw [show Lib.bitLenAux 64 m = (Lib.bitLenAux 64 m - 1) + 1 by omega, Nat.pow_succ, Nat.mul_comm]
  omega
theorem vN_le10 (n : Nat) (h : n < 18446744073709551616) : (vN n).length ≤ 10 ∧ 1 ≤ (vN n).length := by
  obtain ⟨k, e, h3, h4⟩ := vN_len n
  refine ⟨?_, by omega⟩
  rw [e]
  by_cases hk : k ≤ 9
  · omega
  · have h5 := h4 (by omega)
    have h6 : (2 : Nat) ^ 70 ≤ 2 ^ (7 * k) := Nat.pow_le_pow_right (by omega) (by omega)
    have : (2 : Nat) ^ 70 = 1180591620717411303424 := by decide
    omega

theorem varintSize_any (n : Int) (w : World) (h0 : 0 ≤ n) (h1 : n < 18446744073709551616) : Calls Try.prog 33 #[.int .u64 n] w fun e w' => e = .returned (.int .i64 ((vN n.toNat).length : Int)) ∧ w' = w := by
  have ho := or_one n h0 h1
  obtain ⟨m, hm⟩ : ∃ m : Int, (if n % 2 = 1 then n else n + 1) = m := ⟨_, rfl⟩
  have hm0 : 0 < m := by rw [← hm]; split <;> omega
  have hm1 : m < 18446744073709551616 := by rw [← hm]; split <;> omega
  obtain ⟨b1, b2, b3⟩ := bitLen_two m.toNat (by omega) (by omega)
  have hs := vN_size n.toNat m.toNat (Lib.bitLen m.toNat) (by rw [← hm]; split <;> split <;> omega) b1 b2
  rw [hm] at ho
  obtain ⟨L, hL⟩ : ∃ L, Lib.bitLen m.toNat = L := ⟨_, rfl⟩
  have HC : Hid (Calls Try.prog 44 #[.int .u64 m] w fun e w' => e = .returned (.int .i64 (L : Int)) ∧ w' = w) := by
    have h := len64_any m (by omega) hm1 w
    rw [hL] at h
    exact h
  rw [hL] at hs b3
  have hL2 : (L : Int) ≤ 64 := by omega
  have HS : Hid ((L + 6) / 7 = (vN n.toNat).length) := hs
  clear hs b1 b2 b3 hL hm
  go_enter Try.func33, Try.ntmps33
  go_wp2_with (go_at_call 44; refine HC.out.mono ?_; rintro e w' ⟨rfl, rfl⟩)
  go_ret
  exact ⟨ret_int (by rw [← HS.out]; omega), rfl⟩
end Go.Proofs.Ytlgkajellndhlaa
