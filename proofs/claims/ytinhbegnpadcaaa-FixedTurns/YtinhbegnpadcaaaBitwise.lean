/- Long division bit by bit over four digits to the base 2^32: plain arithmetic, no program in sight. -/
namespace Go.Proofs.Ytinhbegnpadcaaa

/-- Four digits to the base 2^32, the lowest first, of a number. -/
structure Dg (d0 d1 d2 d3 N : Int) : Prop where
  a0 : 0 ≤ d0
  b0 : d0 < 4294967296
  a1 : 0 ≤ d1
  b1 : d1 < 4294967296
  a2 : 0 ≤ d2
  b2 : d2 < 4294967296
  a3 : 0 ≤ d3
  b3 : d3 < 4294967296
  val : d0 + d1 * 4294967296 + d2 * 18446744073709551616 + d3 * 79228162514264337593543950336 = N

theorem pow_pos (p : Nat) : (1 : Int) ≤ 2 ^ p := by exact_mod_cast Nat.one_le_two_pow
theorem pow_split (p : Nat) (hp : p < 32) : (2 : Int) ^ (p + 1) * 2 ^ (31 - p) = 4294967296 := by
  rw [← Int.pow_add, show p + 1 + (31 - p) = 32 from by omega]; rfl
theorem pow_split' (p : Nat) (hp : p < 32) : (2 : Int) ^ p * (2 * 2 ^ (31 - p)) = 4294967296 := by
  have := pow_split p hp
  rw [Int.pow_succ] at this
  grind

/-- A digit below which all is 0, of a number that is a multiple: there is room for the bit. -/
theorem room (q R X : Int) (p : Nat) (hp : p < 32) (h0 : 0 ≤ q) (h1 : q < 4294967296) (e : q + R * 4294967296 = X * 2 ^ (p + 1)) :
    ∃ t, 0 ≤ t ∧ q = t * 2 ^ (p + 1) ∧ q + 2 ^ p < 4294967296 := by
  have hs := pow_split p hp
  have hp1 := pow_pos p
  have hp2 : (2 : Int) ^ (p + 1) = 2 ^ p * 2 := Int.pow_succ 2 p
  have et : q = (X - R * 2 ^ (31 - p)) * 2 ^ (p + 1) := by
    have : (X - R * 2 ^ (31 - p)) * 2 ^ (p + 1) = X * 2 ^ (p + 1) - R * (2 ^ (p + 1) * 2 ^ (31 - p)) := by grind
    rw [this, hs, ← e]
    omega
  generalize X - R * 2 ^ (31 - p) = t at et
  have hpos : (0 : Int) < 2 ^ (p + 1) := by omega
  have ht0 : 0 ≤ t := by
    rcases Int.lt_or_le t 0 with h | h
    · have := Int.mul_le_mul_of_nonneg_right (show t ≤ -1 by omega) (show (0 : Int) ≤ 2 ^ (p + 1) by omega)
      omega
    · exact h
  refine ⟨t, ht0, et, ?_⟩
  have h2 : t * 2 ^ (p + 1) < 2 ^ (31 - p) * 2 ^ (p + 1) := by
    have : (2 : Int) ^ (31 - p) * 2 ^ (p + 1) = 4294967296 := by rw [Int.mul_comm]; exact hs
    omega
  have h3 : t < 2 ^ (31 - p) := Int.lt_of_mul_lt_mul_right h2 (by omega)
  have h4 := Int.mul_le_mul_of_nonneg_right (show t + 1 ≤ 2 ^ (31 - p) by omega) (show (0 : Int) ≤ 2 ^ (p + 1) by omega)
  have h5 : (t + 1) * 2 ^ (p + 1) = t * 2 ^ (p + 1) + 2 ^ (p + 1) := by grind
  have h6 : (2 : Int) ^ (31 - p) * 2 ^ (p + 1) = 4294967296 := by rw [Int.mul_comm]; exact hs
  omega

/-- A bit of a digit is that bit of the number. -/
theorem bit_of (d R : Int) (p : Nat) (hp : p < 32) : (d + R * 4294967296) / 2 ^ p % 2 = d / 2 ^ p % 2 := by
  have hs := pow_split' p hp
  have hp1 := pow_pos p
  have e : d + R * 4294967296 = d + 2 ^ p * (R * (2 * 2 ^ (31 - p))) := by
    have : (2 : Int) ^ p * (R * (2 * 2 ^ (31 - p))) = R * (2 ^ p * (2 * 2 ^ (31 - p))) := by grind
    rw [this, hs]
  rw [e, Int.add_mul_ediv_left _ _ (by omega)]
  have : R * (2 * 2 ^ (31 - p)) = 2 * (R * 2 ^ (31 - p)) := by grind
  rw [this]
  omega

/-- The state of the division when k bits are left. -/
structure OInv (D b : Int) (k : Nat) (r q0 q1 q2 q3 : Int) : Prop where
  r0 : 0 ≤ r
  r1 : r < b
  ex : ∃ X : Int, X * b + r = D / 2 ^ k ∧ Dg q0 q1 q2 q3 (X * 2 ^ k)

theorem OInv.start (D b : Int) (h0 : 0 ≤ D) (h1 : D < 340282366920938463463374607431768211456) (hb : 1 ≤ b) : OInv D b 128 0 0 0 0 0 := by
  refine ⟨by omega, by omega, 0, ?_, ⟨by omega, by omega, by omega, by omega, by omega, by omega, by omega, by omega, by omega⟩⟩
  rw [show (2 : Int) ^ 128 = 340282366920938463463374607431768211456 from rfl, Int.ediv_eq_zero_of_lt h0 h1]
  omega

theorem OInv.done {D b r q0 q1 q2 q3 : Int} (h : OInv D b 0 r q0 q1 q2 q3) : Dg q0 q1 q2 q3 (D / b) := by
  obtain ⟨r0, r1, X, e, g⟩ := h
  rw [Int.pow_zero, Int.ediv_one] at e
  rw [Int.pow_zero, Int.mul_one] at g
  have : D / b = X := by
    have e2 : D = r + b * X := by rw [← e]; grind
    rw [e2, Int.add_mul_ediv_left _ _ (by omega), Int.ediv_eq_zero_of_lt r0 r1]
    omega
  rw [this]
  exact g

/-- One bit more of the number. -/
theorem next_bit (D : Int) (i : Nat) : D / 2 ^ i = 2 * (D / 2 ^ (i + 1)) + D / 2 ^ i % 2 := by
  have : D / 2 ^ (i + 1) = D / 2 ^ i / 2 := by rw [Int.pow_succ, Int.ediv_ediv_of_nonneg (by have := pow_pos i; omega)]
  rw [this]
  omega

theorem OInv.stay {D b : Int} {i : Nat} {r q0 q1 q2 q3 z : Int} (h : OInv D b (i + 1) r q0 q1 q2 q3) (hz : D / 2 ^ i % 2 = z) (c : r * 2 + z < b) : OInv D b i (r * 2 + z) q0 q1 q2 q3 := by
  obtain ⟨r0, r1, X, e, g⟩ := h
  have hn := next_bit D i
  rw [hz] at hn
  refine ⟨by omega, c, 2 * X, ?_, ?_⟩
  · rw [hn, ← e]; grind
  · rw [show 2 * X * 2 ^ i = X * 2 ^ (i + 1) from by rw [Int.pow_succ]; grind]
    exact g

/-- The bit goes in: what the number then is. -/
theorem bit_in {D b : Int} {i : Nat} {r z X : Int} (e : X * b + r = D / 2 ^ (i + 1)) (hz : D / 2 ^ i % 2 = z) : (2 * X + 1) * b + (r * 2 + z - b) = D / 2 ^ i := by
  have hn := next_bit D i
  rw [hz] at hn
  rw [hn, ← e]; grind
theorem val_in (X : Int) (i : Nat) : (2 * X + 1) * 2 ^ i = X * 2 ^ (i + 1) + 2 ^ i := by rw [Int.pow_succ]; grind


theorem OInv.set0 {D b : Int} {p : Nat} {r q0 q1 q2 q3 z : Int} (hp : p < 32) (h : OInv D b (p + 1) r q0 q1 q2 q3) (hz : D / 2 ^ p % 2 = z) (c : b ≤ r * 2 + z) :
    (∃ t, 0 ≤ t ∧ q0 = t * 2 ^ (p + 1)) ∧ q0 + 2 ^ p < 4294967296 ∧ OInv D b p (r * 2 + z - b) (q0 + 2 ^ p) q1 q2 q3 := by
  obtain ⟨r0, r1, X, e, g⟩ := h
  have hv := val_in X p
  have hb := bit_in e hz
  have hp1 := pow_pos p
  obtain ⟨a0, b0, a1, b1, a2, b2, a3, b3, val⟩ := g
  skip
  skip
  have hr : q0 + (q1 + q2 * 4294967296 + q3 * 18446744073709551616) * 4294967296 = X * 2 ^ (p + 1) := by
    generalize X * 2 ^ (p + 1) = Z at val
    omega
  obtain ⟨t, t0, et, lt⟩ := room q0 (q1 + q2 * 4294967296 + q3 * 18446744073709551616) X p hp a0 b0 hr
  refine ⟨⟨t, t0, et⟩, lt, by omega, by omega, 2 * X + 1, hb, ?_⟩
  rw [hv]
  refine ⟨by omega, by omega, by omega, by omega, by omega, by omega, by omega, by omega, ?_⟩
  generalize X * 2 ^ (p + 1) = Z at val
  generalize (2 : Int) ^ p = Y
  omega

theorem dig_bit0 {d0 d1 d2 d3 D : Int} (g : Dg d0 d1 d2 d3 D) (p : Nat) (hp : p < 32) : D / 2 ^ p % 2 = d0 / 2 ^ p % 2 := by
  obtain ⟨a0, b0, a1, b1, a2, b2, a3, b3, val⟩ := g
  have e : D = d0 + (d1 + d2 * 4294967296 + d3 * 18446744073709551616) * 4294967296 := by omega
  rw [e, bit_of d0 _ p hp]

theorem OInv.set1 {D b : Int} {p : Nat} {r q0 q1 q2 q3 z : Int} (hp : p < 32) (h : OInv D b (32 + p + 1) r q0 q1 q2 q3) (hz : D / 2 ^ (32 + p) % 2 = z) (c : b ≤ r * 2 + z) :
    (∃ t, 0 ≤ t ∧ q1 = t * 2 ^ (p + 1)) ∧ q1 + 2 ^ p < 4294967296 ∧ OInv D b (32 + p) (r * 2 + z - b) q0 (q1 + 2 ^ p) q2 q3 := by
  obtain ⟨r0, r1, X, e, g⟩ := h
  have hv := val_in X (32 + p)
  have hb := bit_in e hz
  have hp1 := pow_pos p
  obtain ⟨a0, b0, a1, b1, a2, b2, a3, b3, val⟩ := g
  have ei : (2 : Int) ^ (32 + p) = 2 ^ p * 4294967296 := by rw [Int.pow_add, Int.mul_comm]; rfl
  have ei1 : X * (2 : Int) ^ (32 + p + 1) = X * 2 ^ (p + 1) * 4294967296 := by rw [show 32 + p + 1 = 32 + (p + 1) from by omega, Int.pow_add, show (2 : Int) ^ 32 = 4294967296 from rfl]; grind
  rw [ei1] at val hv
  rw [ei] at hv
  have hr : q1 + (q2 + q3 * 4294967296) * 4294967296 = X * 2 ^ (p + 1) := by
    generalize X * 2 ^ (p + 1) = Z at val
    omega
  obtain ⟨t, t0, et, lt⟩ := room q1 (q2 + q3 * 4294967296) X p hp a1 b1 hr
  refine ⟨⟨t, t0, et⟩, lt, by omega, by omega, 2 * X + 1, hb, ?_⟩
  rw [ei, hv]
  refine ⟨by omega, by omega, by omega, by omega, by omega, by omega, by omega, by omega, ?_⟩
  generalize X * 2 ^ (p + 1) = Z at val
  generalize (2 : Int) ^ p = Y
  omega

theorem dig_bit1 {d0 d1 d2 d3 D : Int} (g : Dg d0 d1 d2 d3 D) (p : Nat) (hp : p < 32) : D / 2 ^ (32 + p) % 2 = d1 / 2 ^ p % 2 := by
  obtain ⟨a0, b0, a1, b1, a2, b2, a3, b3, val⟩ := g
  have e : D / 4294967296 = d1 + (d2 + d3 * 4294967296) * 4294967296 := by omega
  rw [Int.pow_add, show (2 : Int) ^ 32 = 4294967296 from rfl, ← Int.ediv_ediv_of_nonneg (by omega), e, bit_of d1 _ p hp]

theorem OInv.set2 {D b : Int} {p : Nat} {r q0 q1 q2 q3 z : Int} (hp : p < 32) (h : OInv D b (64 + p + 1) r q0 q1 q2 q3) (hz : D / 2 ^ (64 + p) % 2 = z) (c : b ≤ r * 2 + z) :
    (∃ t, 0 ≤ t ∧ q2 = t * 2 ^ (p + 1)) ∧ q2 + 2 ^ p < 4294967296 ∧ OInv D b (64 + p) (r * 2 + z - b) q0 q1 (q2 + 2 ^ p) q3 := by
  obtain ⟨r0, r1, X, e, g⟩ := h
  have hv := val_in X (64 + p)
  have hb := bit_in e hz
  have hp1 := pow_pos p
  obtain ⟨a0, b0, a1, b1, a2, b2, a3, b3, val⟩ := g
  have ei : (2 : Int) ^ (64 + p) = 2 ^ p * 18446744073709551616 := by rw [Int.pow_add, Int.mul_comm]; rfl
  have ei1 : X * (2 : Int) ^ (64 + p + 1) = X * 2 ^ (p + 1) * 18446744073709551616 := by rw [show 64 + p + 1 = 64 + (p + 1) from by omega, Int.pow_add, show (2 : Int) ^ 64 = 18446744073709551616 from rfl]; grind
  rw [ei1] at val hv
  rw [ei] at hv
  have hr : q2 + q3 * 4294967296 = X * 2 ^ (p + 1) := by
    generalize X * 2 ^ (p + 1) = Z at val
    omega
  obtain ⟨t, t0, et, lt⟩ := room q2 q3 X p hp a2 b2 hr
  refine ⟨⟨t, t0, et⟩, lt, by omega, by omega, 2 * X + 1, hb, ?_⟩
  rw [ei, hv]
  refine ⟨by omega, by omega, by omega, by omega, by omega, by omega, by omega, by omega, ?_⟩
  generalize X * 2 ^ (p + 1) = Z at val
  generalize (2 : Int) ^ p = Y
  omega

theorem dig_bit2 {d0 d1 d2 d3 D : Int} (g : Dg d0 d1 d2 d3 D) (p : Nat) (hp : p < 32) : D / 2 ^ (64 + p) % 2 = d2 / 2 ^ p % 2 := by
  obtain ⟨a0, b0, a1, b1, a2, b2, a3, b3, val⟩ := g
  have e : D / 18446744073709551616 = d2 + d3 * 4294967296 := by omega
  rw [Int.pow_add, show (2 : Int) ^ 64 = 18446744073709551616 from rfl, ← Int.ediv_ediv_of_nonneg (by omega), e, bit_of d2 _ p hp]

theorem OInv.set3 {D b : Int} {p : Nat} {r q0 q1 q2 q3 z : Int} (hp : p < 32) (h : OInv D b (96 + p + 1) r q0 q1 q2 q3) (hz : D / 2 ^ (96 + p) % 2 = z) (c : b ≤ r * 2 + z) :
    (∃ t, 0 ≤ t ∧ q3 = t * 2 ^ (p + 1)) ∧ q3 + 2 ^ p < 4294967296 ∧ OInv D b (96 + p) (r * 2 + z - b) q0 q1 q2 (q3 + 2 ^ p) := by
  obtain ⟨r0, r1, X, e, g⟩ := h
  have hv := val_in X (96 + p)
  have hb := bit_in e hz
  have hp1 := pow_pos p
  obtain ⟨a0, b0, a1, b1, a2, b2, a3, b3, val⟩ := g
  have ei : (2 : Int) ^ (96 + p) = 2 ^ p * 79228162514264337593543950336 := by rw [Int.pow_add, Int.mul_comm]; rfl
  have ei1 : X * (2 : Int) ^ (96 + p + 1) = X * 2 ^ (p + 1) * 79228162514264337593543950336 := by rw [show 96 + p + 1 = 96 + (p + 1) from by omega, Int.pow_add, show (2 : Int) ^ 96 = 79228162514264337593543950336 from rfl]; grind
  rw [ei1] at val hv
  rw [ei] at hv
  have hr : q3 + 0 * 4294967296 = X * 2 ^ (p + 1) := by
    generalize X * 2 ^ (p + 1) = Z at val
    omega
  obtain ⟨t, t0, et, lt⟩ := room q3 0 X p hp a3 b3 hr
  refine ⟨⟨t, t0, et⟩, lt, by omega, by omega, 2 * X + 1, hb, ?_⟩
  rw [ei, hv]
  refine ⟨by omega, by omega, by omega, by omega, by omega, by omega, by omega, by omega, ?_⟩
  generalize X * 2 ^ (p + 1) = Z at val
  generalize (2 : Int) ^ p = Y
  omega

theorem dig_bit3 {d0 d1 d2 d3 D : Int} (g : Dg d0 d1 d2 d3 D) (p : Nat) (hp : p < 32) : D / 2 ^ (96 + p) % 2 = d3 / 2 ^ p % 2 := by
  obtain ⟨a0, b0, a1, b1, a2, b2, a3, b3, val⟩ := g
  have e : D / 79228162514264337593543950336 = d3 + 0 * 4294967296 := by omega
  rw [Int.pow_add, show (2 : Int) ^ 96 = 79228162514264337593543950336 from rfl, ← Int.ediv_ediv_of_nonneg (by omega), e, bit_of d3 _ p hp]

end Go.Proofs.Ytinhbegnpadcaaa
