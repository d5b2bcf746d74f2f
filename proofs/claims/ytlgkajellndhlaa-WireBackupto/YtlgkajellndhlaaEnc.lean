/- Fields, and the bytes that they are written as; no program in sight. -/
import Derived.Test.YtlgkajellndhlaaVar
namespace Go.Proofs.Ytlgkajellndhlaa
open Go.RowKit

/-- The bytes of a varint. -/
def vN (n : Nat) : List Int := if n < 128 then [(n : Int)] else ((n % 128 + 128 : Nat) : Int) :: vN (n / 128)
termination_by n
decreasing_by omega
theorem vN_lo {n : Nat} (h : n < 128) : vN n = [(n : Int)] := by rw [vN, if_pos h]
theorem vN_hi {n : Nat} (h : ¬ n < 128) : vN n = ((n % 128 + 128 : Nat) : Int) :: vN (n / 128) := by rw [vN, if_neg h]
theorem vN_byt : ∀ n, Byt (vN n) := by
  intro n
  induction n using Nat.strongRecOn with
  | ind n ih =>
    by_cases h : n < 128
    · rw [vN_lo h]
      intro c hc
      simp at hc
      omega
    · rw [vN_hi h]
      intro c hc
      rcases List.mem_cons.1 hc with rfl | hc
      · omega
      · exact ih (n / 128) (by omega) c hc
/-- A varint's length, by the number's bits. -/
theorem vN_len : ∀ n : Nat, ∃ k, (vN n).length = k + 1 ∧ n < 2 ^ (7 * (k + 1)) ∧ (0 < k → 2 ^ (7 * k) ≤ n) := by
  intro n
  induction n using Nat.strongRecOn with
  | ind n ih =>
    by_cases h : n < 128
    · exact ⟨0, by rw [vN_lo h]; rfl, by simpa using h, fun h => absurd h (by omega)⟩
    · obtain ⟨k, h1, h2, h3⟩ := ih (n / 128) (by omega)
      refine ⟨k + 1, by rw [vN_hi h, List.length_cons, h1], ?_, fun _ => ?_⟩
      · rw [show 7 * (k + 1 + 1) = 7 * (k + 1) + 7 by omega, Nat.pow_add]
        have : (2 : Nat) ^ 7 = 128 := rfl
        rw [this]
        omega
      · rw [show 7 * (k + 1) = 7 * k + 7 by omega, Nat.pow_add]
        have : (2 : Nat) ^ 7 = 128 := rfl
        rw [this]
        by_cases hk : 0 < k
        · have := h3 hk; omega
        · have : k = 0 := by omega
          subst this
          simp
          omega
/-- A varint's length out of the length of the number with its lowest bit set. -/
theorem vN_size (n m L : Nat) (hm : m = if n % 2 = 1 then n else n + 1) (h1 : m < 2 ^ L) (h2 : 2 ^ L ≤ 2 * m) : (L + 6) / 7 = (vN n).length := by
  obtain ⟨k, e, h3, h4⟩ := vN_len n
  rw [e]
  have hL0 : 0 < L := by
    rcases Nat.eq_zero_or_pos L with h | h
    · subst h; split at hm <;> omega
    · exact h
  have a1 : 7 * k < L := by
    by_cases hk : 0 < k
    · have h5 := h4 hk
      have h6 : 2 ^ (7 * k) < 2 ^ L := by split at hm <;> omega
      exact (Nat.pow_lt_pow_iff_right (by omega)).1 h6
    · omega
  have a2 : L < 7 * (k + 1) + 1 := by
    have h5 : m < 2 ^ (7 * (k + 1)) := by
      have : (2 : Nat) ^ (7 * (k + 1)) = 2 * 2 ^ (7 * k + 6) := by rw [show 7 * (k + 1) = (7 * k + 6) + 1 by omega, Nat.pow_succ, Nat.mul_comm]
      split at hm <;> omega
    have h6 : 2 ^ L < 2 ^ (7 * (k + 1) + 1) := by rw [Nat.pow_succ]; omega
    exact (Nat.pow_lt_pow_iff_right (by omega)).1 h6
  omega

/-- The lowest bytes of a number, the lowest first. -/
def leN (n : Nat) : Nat → List Int
  | 0 => []
  | k + 1 => ((n % 256 : Nat) : Int) :: leN (n / 256) k
theorem leN_len (n : Nat) : ∀ k, (leN n k).length = k := by
  intro k
  induction k generalizing n with
  | zero => rfl
  | succ k ih => simp [leN, ih]
theorem leN_byt (n : Nat) : ∀ k, Byt (leN n k) := by
  intro k
  induction k generalizing n with
  | zero => intro c hc; cases hc
  | succ k ih =>
    intro c hc
    rcases List.mem_cons.1 hc with rfl | hc
    · omega
    · exact ih _ c hc

/-- A field. -/
structure Fd where
  num : Int
  typ : Int
  n : Nat
  b : List Int
/-- It can be. -/
def okN (num typ : Int) (n l : Nat) : Bool := decide (1 ≤ num ∧ num ≤ 536870911) && (if typ = 2 then n == 0 else if typ = 5 then decide ((n : Int) < 4294967296) && l == 0 else (typ == 0 || typ == 1) && l == 0)
def okF (f : Fd) : Bool := okN f.num f.typ f.n f.b.length
/-- What stands ahead of its content. -/
def hdF (f : Fd) : Nat := (f.num * 8 + f.typ).toNat
def bodyF (f : Fd) : List Int := if f.typ = 2 then vN f.b.length ++ f.b else if f.typ = 5 then leN f.n 4 else if f.typ = 1 then leN f.n 8 else vN f.n
def encF (f : Fd) : List Int := vN (hdF f) ++ bodyF f
def encL : List Fd → List Int
  | [] => []
  | f :: r => encF f ++ encL r
theorem encL_app (a b : List Fd) : encL (a ++ b) = encL a ++ encL b := by
  induction a with
  | nil => rfl
  | cons f r ih => simp [encL, ih]
/-- What a list of fields is written as: the bytes, the error. -/
def wrI (fs : List Fd) : List Int × Int :=
  if 4096 < fs.length then ([], 7) else if fs.all okF = false then ([], 30) else if 1048576 < (encL fs).length then ([], 4) else (encL fs, 0)
end Go.Proofs.Ytlgkajellndhlaa
