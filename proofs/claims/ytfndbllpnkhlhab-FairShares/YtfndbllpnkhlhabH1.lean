/- Two tenants that always wait: what each slot does, plain. -/
import Derived.Test.YtfndbllpnkhlhabL1
namespace Go.Proofs.Ytfndbllpnkhlhab
open Go.RowKit
set_option linter.unusedVariables false
set_option linter.unusedSimpArgs false

/-- Four jobs of cost 1, one behind the other. -/
def four (id j A : Int) : List Wk := [⟨id, 1, j * A, 1⟩, ⟨id, 1, (j + 1) * A, 1⟩, ⟨id, 1, (j + 2) * A, 1⟩, ⟨id, 1, (j + 3) * A, 1⟩]
def shS (v w A B m n clk : Int) (srv : List UInt8) : Sc := ⟨[⟨[97], v, (m + 4) * A, four 1 m A⟩, ⟨[98], w, (n + 4) * B, four 2 n B⟩], clk, srv, false⟩
theorem stepA {v w A B m n clk : Int} {srv : List UInt8} (h : m * A ≤ n * B) (hA : 720720 / v = A) (h0 : 0 ≤ A) : (stepS (shS v w A B m n clk srv)).1 = ⟨[97], 1, 1, true, true⟩ ∧ pushS (stepS (shS v w A B m n clk srv)).2 [97] 1 1 = (0, shS v w A B (m + 1) n (m * A) [97]) := by
  have hn : ¬ n * B < m * A := by omega
  have e : stepS (shS v w A B m n clk srv) = (⟨[97], 1, 1, true, true⟩, ⟨[⟨[97], v, (m + 4) * A, [⟨1, 1, (m + 1) * A, 1⟩, ⟨1, 1, (m + 2) * A, 1⟩, ⟨1, 1, (m + 3) * A, 1⟩]⟩, ⟨[98], w, (n + 4) * B, four 2 n B⟩], m * A, [97], false⟩) := by
    simp [stepS, shS, four, nxt, serveS, leftS, hn]
  rw [e]
  refine ⟨rfl, ?_⟩
  have hb : ¬ (m + 4) * A < m * A := by
    have : (m + 4) * A = m * A + 4 * A := by rw [Int.add_mul]
    omega
  have hs : (m + 4) * A + A = (m + 5) * A := by rw [show m + 5 = (m + 4) + 1 by omega, Int.add_mul (m + 4) 1, Int.one_mul]
  simp [pushS, lookT, ixT, begins, hb, hA, hs, shS, four]
  refine ⟨by congr 1; omega, by congr 1; omega, by congr 1; omega, by congr 1; omega⟩
theorem stepB {v w A B m n clk : Int} {srv : List UInt8} (h : n * B < m * A) (hB : 720720 / w = B) (h0 : 0 ≤ B) : (stepS (shS v w A B m n clk srv)).1 = ⟨[98], 2, 1, true, true⟩ ∧ pushS (stepS (shS v w A B m n clk srv)).2 [98] 2 1 = (0, shS v w A B m (n + 1) (n * B) [98]) := by
  have e : stepS (shS v w A B m n clk srv) = (⟨[98], 2, 1, true, true⟩, ⟨[⟨[97], v, (m + 4) * A, four 1 m A⟩, ⟨[98], w, (n + 4) * B, [⟨2, 1, (n + 1) * B, 1⟩, ⟨2, 1, (n + 2) * B, 1⟩, ⟨2, 1, (n + 3) * B, 1⟩]⟩], n * B, [98], false⟩) := by
    simp [stepS, shS, four, nxt, serveS, leftS, h]
  rw [e]
  refine ⟨rfl, ?_⟩
  have hb : ¬ (n + 4) * B < n * B := by
    have : (n + 4) * B = n * B + 4 * B := by rw [Int.add_mul]
    omega
  have hs : (n + 4) * B + B = (n + 5) * B := by rw [show n + 5 = (n + 4) + 1 by omega, Int.add_mul (n + 4) 1, Int.one_mul]
  simp [pushS, lookT, ixT, begins, hb, hB, hs, shS, four]
  refine ⟨by congr 1; omega, by congr 1; omega, by congr 1; omega, by congr 1; omega⟩
/-- The tenants, and so many jobs of each. -/
def jobs (id A : Int) : Nat → List Wk
  | 0 => []
  | k + 1 => jobs id A k ++ [⟨id, 1, (k : Int) * A, 1⟩]
theorem jobs_len (id A : Int) : ∀ k, (jobs id A k).length = k
  | 0 => rfl
  | k + 1 => by simp [jobs, jobs_len id A k]
def iniS (v w A B : Int) (k j : Nat) : Sc := ⟨[⟨[97], v, (k : Int) * A, jobs 1 A k⟩, ⟨[98], w, (j : Int) * B, jobs 2 B j⟩], 0, [], false⟩
theorem set2 {v w : Int} (h1 : 1 ≤ v ∧ v ≤ 16) (h2 : 1 ≤ w ∧ w ≤ 16) (A B : Int) : (setS newS [97] v).1 = 0 ∧ setS (setS newS [97] v).2 [98] w = (0, iniS v w A B 0 0) := by
  constructor
  · simp [setS, newS, lookT, ixT, h1]
  · simp [setS, newS, lookT, ixT, h1, h2, insT, ltB, iniS, jobs]
theorem set_bad {s : Sc} {nm : List UInt8} {v : Int} (h : ¬ (1 ≤ v ∧ v ≤ 16)) : setS s nm v = (1, s) := by unfold setS; rw [if_pos h]
theorem pushA {v w A B : Int} {k j : Nat} (hA : 720720 / v = A) (h0 : 0 ≤ A) (hk : k < 4) : pushS (iniS v w A B k j) [97] 1 1 = (0, iniS v w A B (k + 1) j) := by
  have hb : ¬ (k : Int) * A < 0 := by have := Int.mul_nonneg (show (0 : Int) ≤ k by omega) h0; omega
  have hl : ¬ 16 ≤ (jobs 1 A k).length := by rw [jobs_len]; omega
  have hs : (k : Int) * A + A = ((k : Int) + 1) * A := by rw [Int.add_mul, Int.one_mul]
  simp only [pushS, iniS, lookT, ixT]
  simp [begins, hb, hl, hA, hs, jobs]
theorem pushB {v w A B : Int} {k j : Nat} (hB : 720720 / w = B) (h0 : 0 ≤ B) (hk : j < 4) : pushS (iniS v w A B k j) [98] 2 1 = (0, iniS v w A B k (j + 1)) := by
  have hb : ¬ (j : Int) * B < 0 := by have := Int.mul_nonneg (show (0 : Int) ≤ j by omega) h0; omega
  have hl : ¬ 16 ≤ (jobs 2 B j).length := by rw [jobs_len]; omega
  have hs : (j : Int) * B + B = ((j : Int) + 1) * B := by rw [Int.add_mul, Int.one_mul]
  simp only [pushS, iniS, lookT, ixT]
  simp [begins, hb, hl, hB, hs, jobs]
theorem ini4 (v w A B : Int) : iniS v w A B 4 4 = shS v w A B 0 0 0 [] := by simp [iniS, shS, jobs, four]
/-- Whose turn it is, by the weights. -/
theorem scale_of {v : Int} (h : 1 ≤ v ∧ v ≤ 16) : 720720 / v * v = 720720 := by
  obtain ⟨n, rfl⟩ := Int.eq_ofNat_of_zero_le (show 0 ≤ v by omega)
  rcases (show n = 1 ∨ n = 2 ∨ n = 3 ∨ n = 4 ∨ n = 5 ∨ n = 6 ∨ n = 7 ∨ n = 8 ∨ n = 9 ∨ n = 10 ∨ n = 11 ∨ n = 12 ∨ n = 13 ∨ n = 14 ∨ n = 15 ∨ n = 16 by omega) with rfl | rfl | rfl | rfl | rfl | rfl | rfl | rfl | rfl | rfl | rfl | rfl | rfl | rfl | rfl | rfl <;> rfl
theorem turn_le {v w A B m n : Int} (hv : 0 < v) (hw : 0 < w) (hA : A * v = 720720) (hB : B * w = 720720) (h : m * A ≤ n * B) : m * w ≤ n * v := by
  have h1 : m * A * (v * w) ≤ n * B * (v * w) := Int.mul_le_mul_of_nonneg_right h (Int.le_of_lt (Int.mul_pos hv hw))
  have e1 : m * A * (v * w) = m * w * 720720 := by rw [← hA]; simp only [Int.mul_assoc, Int.mul_comm, Int.mul_left_comm]
  have e2 : n * B * (v * w) = n * v * 720720 := by rw [← hB]; simp only [Int.mul_assoc, Int.mul_comm, Int.mul_left_comm]
  rw [e1, e2] at h1
  omega
theorem turn_lt {v w A B m n : Int} (hv : 0 < v) (hw : 0 < w) (hA : A * v = 720720) (hB : B * w = 720720) (h : n * B < m * A) : n * v < m * w := by
  have h1 : n * B * (v * w) < m * A * (v * w) := Int.mul_lt_mul_of_pos_right h (Int.mul_pos hv hw)
  have e1 : m * A * (v * w) = m * w * 720720 := by rw [← hA]; simp only [Int.mul_assoc, Int.mul_comm, Int.mul_left_comm]
  have e2 : n * B * (v * w) = n * v * 720720 := by rw [← hB]; simp only [Int.mul_assoc, Int.mul_comm, Int.mul_left_comm]
  rw [e1, e2] at h1
  omega
end Go.Proofs.Ytfndbllpnkhlhab
