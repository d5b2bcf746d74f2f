/- Long division, digit by digit: plain arithmetic, no program in sight. -/
namespace Go.Proofs.Ytpobfcmbbabchaa

/-- What holds of a digit that is guessed (q) and of what is left of it (r), while the guess is lowered. -/
structure Dig (U d N1 N0 q r : Int) : Prop where
  eq : q * N1 + r = U
  le : (U * 4294967296 + d) / (N1 * 4294967296 + N0) ≤ q

/-- The divisor's two halves, the number's upper part and its next digit. -/
structure Set2 (U d N1 N0 : Int) : Prop where
  n1 : 2147483648 ≤ N1
  n1' : N1 < 4294967296
  n0 : 0 ≤ N0
  n0' : N0 < 4294967296
  u0 : 0 ≤ U
  u1 : U < N1 * 4294967296 + N0
  d0 : 0 ≤ d
  d1 : d < 4294967296

theorem Dig.start {U d N1 N0 : Int} (S : Set2 U d N1 N0) : Dig U d N1 N0 (U / N1) (U - U / N1 * N1) := by
  obtain ⟨n1, n1', n0, n0', u, u', d0, d1⟩ := S
  refine ⟨by omega, ?_⟩
  have hp : 0 < N1 * 4294967296 + N0 := by omega
  have h1 : U < (U / N1 + 1) * N1 := Int.lt_ediv_add_one_mul_self U (by omega)
  have h2 : U + 1 ≤ (U / N1 + 1) * N1 := by omega
  have h3 : U * 4294967296 + d < (U / N1 + 1) * (N1 * 4294967296 + N0) := by
    have hq : 0 ≤ U / N1 := Int.ediv_nonneg u (by omega)
    have h4 : 0 ≤ (U / N1 + 1) * N0 := Int.mul_nonneg (by omega) n0
    have h5 : (U / N1 + 1) * (N1 * 4294967296 + N0) = (U / N1 + 1) * N1 * 4294967296 + (U / N1 + 1) * N0 := by grind
    omega
  have := (Int.ediv_lt_iff_lt_mul hp).2 h3
  omega

theorem quo_lt {U d N1 N0 : Int} (S : Set2 U d N1 N0) : (U * 4294967296 + d) / (N1 * 4294967296 + N0) < 4294967296 := by
  obtain ⟨n1, n1', n0, n0', u, u', d0, d1⟩ := S
  refine (Int.ediv_lt_iff_lt_mul (by omega)).2 ?_
  omega

theorem quo_nn {U d N1 N0 : Int} (S : Set2 U d N1 N0) : 0 ≤ (U * 4294967296 + d) / (N1 * 4294967296 + N0) := by
  obtain ⟨n1, n1', n0, n0', u, u', d0, d1⟩ := S
  exact Int.ediv_nonneg (by omega) (by omega)

/-- The guess is too great: one less is still not too small. -/
theorem Dig.down {U d N1 N0 q r : Int} (S : Set2 U d N1 N0) (h : Dig U d N1 N0 q r) (c : 4294967296 ≤ q ∨ r * 4294967296 + d < q * N0) : Dig U d N1 N0 (q - 1) (r + N1) := by
  have hl := quo_lt S
  obtain ⟨n1, n1', n0, n0', u, u', d0, d1⟩ := S
  obtain ⟨e, l⟩ := h
  have e2 : (q - 1) * N1 = q * N1 - N1 := by grind
  refine ⟨by omega, ?_⟩
  rcases c with c | c
  · omega
  · have h3 : U * 4294967296 + d < q * (N1 * 4294967296 + N0) := by
      have h5 : q * (N1 * 4294967296 + N0) = q * N1 * 4294967296 + q * N0 := by grind
      omega
    have := (Int.ediv_lt_iff_lt_mul (by omega)).2 h3
    omega

/-- The guess stands: it is the digit. -/
theorem Dig.stop {U d N1 N0 q r : Int} (S : Set2 U d N1 N0) (h : Dig U d N1 N0 q r) (c : q * N0 ≤ r * 4294967296 + d) : q = (U * 4294967296 + d) / (N1 * 4294967296 + N0) := by
  obtain ⟨n1, n1', n0, n0', u, u', d0, d1⟩ := S
  obtain ⟨e, l⟩ := h
  have h3 : q * (N1 * 4294967296 + N0) ≤ U * 4294967296 + d := by
    have h5 : q * (N1 * 4294967296 + N0) = q * N1 * 4294967296 + q * N0 := by grind
    omega
  have := (Int.le_ediv_iff_mul_le (by omega)).2 h3
  omega

/-- What is left is too great for a digit: the guess is the digit. -/
theorem Dig.past {U d N1 N0 q r : Int} (S : Set2 U d N1 N0) (h : Dig U d N1 N0 q r) (c : 4294967296 ≤ r) (hq : 0 ≤ q) : q = (U * 4294967296 + d) / (N1 * 4294967296 + N0) := by
  refine h.stop S ?_
  obtain ⟨n1, n1', n0, n0', u, u', d0, d1⟩ := S
  obtain ⟨e, l⟩ := h
  have h1 : q * N1 < 4294967296 * N1 := by omega
  have h2 : q < 4294967296 := Int.lt_of_mul_lt_mul_right h1 (by omega)
  have h3 : q * N0 ≤ 4294967295 * 4294967295 := Int.mul_le_mul (by omega) (by omega) n0 (by omega)
  omega

/-- Bounds on a digit's product with the divisor's lower half. -/
theorem prod_bd {q N0 : Int} (h0 : 0 ≤ q) (h1 : q < 4294967296) (n0 : 0 ≤ N0) (n0' : N0 < 4294967296) : 0 ≤ q * N0 ∧ q * N0 < 18446744073709551616 := by
  have h3 : q * N0 ≤ 4294967295 * 4294967295 := Int.mul_le_mul (by omega) (by omega) n0 (by omega)
  exact ⟨Int.mul_nonneg h0 n0, by omega⟩

/-- The guess and what is left, at the start. -/
theorem start_bd {U N1 : Int} (n1 : 2147483648 ≤ N1) (n1' : N1 < 4294967296) (u : 0 ≤ U) (u' : U < 18446744073709551616) : 0 ≤ U / N1 ∧ U / N1 ≤ 8589934592 ∧ 0 ≤ U / N1 * N1 ∧ U / N1 * N1 ≤ U ∧ U - U / N1 * N1 < N1 := by
  have h1 := Int.lt_ediv_add_one_mul_self U (show 0 < N1 by omega)
  have h2 := Int.ediv_mul_le U (show N1 ≠ 0 by omega)
  have h0 : 0 ≤ U / N1 := Int.ediv_nonneg u (by omega)
  have h3 : (U / N1 + 1) * N1 = U / N1 * N1 + N1 := by grind
  have h4 : U / N1 < 8589934593 := (Int.ediv_lt_iff_lt_mul (by omega)).2 (by omega)
  exact ⟨h0, by omega, Int.mul_nonneg h0 (by omega), by omega, by omega⟩

/-- The two digits together. -/
theorem two_digits (U L Y : Int) (hY : 0 < Y) :
    (U * 4294967296 + L / 4294967296) / Y * 4294967296 + ((U * 4294967296 + L / 4294967296) % Y * 4294967296 + L % 4294967296) / Y = (U * 18446744073709551616 + L) / Y := by
  generalize hA : U * 4294967296 + L / 4294967296 = A
  have e1 : U * 18446744073709551616 + L = A * 4294967296 + L % 4294967296 := by omega
  have e2 : A = Y * (A / Y) + A % Y := (Int.mul_ediv_add_emod A Y).symm
  have e3 : A * 4294967296 + L % 4294967296 = (A % Y * 4294967296 + L % 4294967296) + Y * (A / Y * 4294967296) := by
    have : Y * (A / Y * 4294967296) = Y * (A / Y) * 4294967296 := by grind
    omega
  rw [e1, e3, Int.add_mul_ediv_left _ _ (by omega)]
  omega

/-- What is left behind the first digit, as 64 bits hold it. -/
theorem rest_of (U d Y : Int) (hY : 0 < Y) (hY' : Y < 18446744073709551616) : (U * 4294967296 + d - (U * 4294967296 + d) / Y * Y) % 18446744073709551616 = (U * 4294967296 + d) % Y := by
  have e2 := Int.mul_ediv_add_emod (U * 4294967296 + d) Y
  have e3 : Y * ((U * 4294967296 + d) / Y) = (U * 4294967296 + d) / Y * Y := Int.mul_comm _ _
  have h1 := Int.emod_nonneg (U * 4294967296 + d) (show Y ≠ 0 by omega)
  have h2 := Int.emod_lt_of_pos (U * 4294967296 + d) hY
  rw [show U * 4294967296 + d - (U * 4294967296 + d) / Y * Y = (U * 4294967296 + d) % Y from by omega]
  omega

/-- Numbers moved up by s bits. -/
theorem moved (hi lo y p q : Int) (hp : 1 ≤ p) (hpq : p * q = 18446744073709551616) (h0 : 0 ≤ hi) (h1 : 0 ≤ lo) (h2 : lo < 18446744073709551616) (h3 : hi < y) :
    0 ≤ hi * p ∧ hi * p + p ≤ y * p ∧ 0 ≤ lo / q ∧ lo / q < p ∧ (hi * p + lo / q) * 18446744073709551616 + lo * p % 18446744073709551616 = (hi * 18446744073709551616 + lo) * p := by
  have hq : 0 < q := by
    rcases Int.lt_or_le 0 q with h | h
    · exact h
    · have := Int.mul_nonneg (show 0 ≤ p by omega) (show 0 ≤ -q by omega)
      have e : p * -q = -(p * q) := Int.mul_neg p q
      omega
  have a1 : hi * p + p ≤ y * p := by
    have := Int.mul_le_mul_of_nonneg_right (show hi + 1 ≤ y by omega) (show 0 ≤ p by omega)
    have e : (hi + 1) * p = hi * p + p := by grind
    omega
  have a2 : lo / q < p := (Int.ediv_lt_iff_lt_mul hq).2 (by omega)
  refine ⟨Int.mul_nonneg h0 (by omega), a1, Int.ediv_nonneg h1 (by omega), a2, ?_⟩
  have e2 := Int.mul_ediv_add_emod lo q
  have r1 := Int.emod_nonneg lo (show q ≠ 0 by omega)
  have r2 := Int.emod_lt_of_pos lo hq
  have e3 : lo * p = lo / q * 18446744073709551616 + lo % q * p := by
    have : lo * p = (q * (lo / q) + lo % q) * p := by rw [e2]
    rw [this, ← hpq]; grind
  have r3 : 0 ≤ lo % q * p := Int.mul_nonneg r1 (by omega)
  have r4 : lo % q * p < 18446744073709551616 := by
    have := Int.mul_lt_mul_of_pos_right r2 (show 0 < p by omega)
    have e : q * p = p * q := Int.mul_comm _ _
    omega
  have e4 : lo * p % 18446744073709551616 = lo % q * p := by omega
  rw [e4]
  have e5 : (hi * 18446744073709551616 + lo) * p = hi * p * 18446744073709551616 + lo * p := by grind
  omega

theorem moved_quo (A y p : Int) (hp : 1 ≤ p) : A * p / (y * p) = A / y := Int.mul_ediv_mul_of_pos_left A y (by omega)

end Go.Proofs.Ytpobfcmbbabchaa
