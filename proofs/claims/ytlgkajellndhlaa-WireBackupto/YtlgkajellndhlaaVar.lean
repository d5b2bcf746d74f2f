/- Varints as plain functions on lists of bytes; no program in sight. -/
import Derived.Test.YtlgkajellndhlaaCrc
namespace Go.Proofs.Ytlgkajellndhlaa
open Go.RowKit

/-- How many bytes the varint at the front has, if its end is there. -/
def scan : List Int → Option Nat
  | [] => none
  | c :: l => if c < 128 then some 1 else (scan l).map (· + 1)
/-- The number of a varint's bytes, as 64 bits hold it. -/
def jv : List Int → Int
  | [] => 0
  | c :: l => jv l * 128 % 18446744073709551616 + c % 128
theorem jv_bd : ∀ l, 0 ≤ jv l ∧ jv l < 18446744073709551616
  | [] => ⟨by simp [jv], by simp [jv]⟩
  | c :: l => by simp only [jv]; omega
/-- What Get answers: the number, the place behind it, the error. -/
def getI (zs : List Int) (at' : Nat) : Int × Int × Int :=
  match scan (zs.drop at') with
  | none => (0, 0, 8)
  | some n => if 10 < n ∨ (n = 10 ∧ 1 < zs.getD (at' + 9) 0) then (0, 0, 30) else (jv ((zs.drop at').take n), (at' + n : Nat), 0)

theorem drop_cons (zs : List Int) (k : Nat) (h : k < zs.length) : zs.drop k = zs.getD k 0 :: zs.drop (k + 1) := by
  rw [List.drop_eq_getElem_cons h, List.getD_eq_getElem?_getD, List.getElem?_eq_getElem h]; rfl
theorem scan_hit (zs : List Int) (k : Nat) (h : k < zs.length) (c : zs.getD k 0 < 128) : scan (zs.drop k) = some 1 := by
  rw [drop_cons zs k h]; simp only [scan]; rw [if_pos c]
theorem scan_miss (zs : List Int) (k : Nat) (h : k < zs.length) (c : ¬ zs.getD k 0 < 128) : scan (zs.drop k) = (scan (zs.drop (k + 1))).map (· + 1) := by
  rw [drop_cons zs k h]; simp only [scan]; rw [if_neg c]
theorem scan_end (zs : List Int) : scan (zs.drop zs.length) = none := by simp [scan]
theorem scan_le : ∀ (l : List Int) (n : Nat), scan l = some n → 1 ≤ n ∧ n ≤ l.length
  | [], n, h => by simp [scan] at h
  | c :: l, n, h => by
    simp only [scan] at h
    split at h
    · simp at h; simp; omega
    · cases hs : scan l with
      | none => rw [hs] at h; simp at h
      | some m =>
        rw [hs] at h
        simp at h
        have := scan_le l m hs
        simp
        omega

theorem and_127 (c : Int) (h0 : 0 ≤ c) (h1 : c ≤ 255) : bits .and .u8 c 127 = c % 128 := by
  obtain ⟨n, rfl⟩ := Int.eq_ofNat_of_zero_le h0
  have hn : n < 256 := by omega
  have all : ∀ m : Fin 256, bits .and .u8 (m.val : Int) 127 = (m.val : Int) % 128 := by decide +kernel
  exact all ⟨n, hn⟩
theorem or_jv (a c : Int) (c0 : 0 ≤ c) (c1 : c < 128) : bits .or .u64 (a * 128 % 18446744073709551616) c = a * 128 % 18446744073709551616 + c := by
  have e : a * 128 % 18446744073709551616 = a % 144115188075855872 * 128 := by omega
  rw [e]
  have hm0 : 0 ≤ a % 144115188075855872 := by omega
  have hm1 : a % 144115188075855872 < 144115188075855872 := by omega
  generalize a % 144115188075855872 = x at hm0 hm1
  obtain ⟨m, rfl⟩ := Int.eq_ofNat_of_zero_le hm0
  obtain ⟨n, rfl⟩ := Int.eq_ofNat_of_zero_le c0
  have h := bits_or_u64_nat (m * 128) n (by omega) (by omega)
  have h2 := Nat.two_pow_add_eq_or_of_lt (i := 7) (b := n) (by omega) m
  rw [show m * 128 = 2 ^ 7 * m from by omega, ← h2] at h
  have e3 : ((2 ^ 7 * m : Nat) : Int) = (m : Int) * 128 := by omega
  rw [e3] at h
  rw [h]
  omega

end Go.Proofs.Ytlgkajellndhlaa
