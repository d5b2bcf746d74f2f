import Derived.WalkKit
import Derived.Laws.Bits64b
import Derived.Test.YtflhgphjkhplmaaProg
import Derived.WalkSpells
import Derived.WalkLawsBesides
import Derived.Handy
import Derived.Lib.BitFns
import Derived.Lib.Tables
import Derived.Lib.ItoaNum
import Derived.Test.YtflhgphjkhplmaaChecked
import Derived.BigQuiet
import Derived.Maps.Own
import Derived.LoopN
import Derived.Deep.CutRange
import Derived.Laws.AppendOwnNone
import Derived.Laws.IdiomStrings
import Derived.Deep.MidRow
import Derived.Deep.AppendLies
/- The check sum as plain functions on numbers, and that no two registers go to one. -/
namespace Go.Proofs.Ytflhgphjkhplmaa.W
open Go.RowKit

theorem wrap_u32'' (n : Int) : IntKind.u32.wrap n = n % 4294967296 := by simp [IntKind.wrap, IntKind.bits, IntKind.signed]
theorem xor_nat (a b : Nat) (ha : a < 4294967296) (hb : b < 4294967296) : bits .xor .u32 (a : Int) (b : Int) = ((a ^^^ b : Nat) : Int) := by
  have hx : a ^^^ b < 2 ^ 32 := Nat.xor_lt_two_pow (by omega) (by omega)
  have h1 : (BitVec.ofInt 32 (a : Int)).toNat = a := by
    rw [BitVec.ofInt_natCast, BitVec.toNat_ofNat]; exact Nat.mod_eq_of_lt (by omega)
  have h2 : (BitVec.ofInt 32 (b : Int)).toNat = b := by
    rw [BitVec.ofInt_natCast, BitVec.toNat_ofNat]; exact Nat.mod_eq_of_lt (by omega)
  show IntKind.u32.wrap ((BitVec.ofInt 32 (a : Int) ^^^ BitVec.ofInt 32 (b : Int)).toNat : Int) = _
  rw [BitVec.toNat_xor, h1, h2, wrap_u32'']
  omega
theorem and_nat (a b : Nat) (ha : a < 4294967296) (hb : b < 4294967296) : bits .and .u32 (a : Int) (b : Int) = ((a &&& b : Nat) : Int) := by
  have hx : a &&& b < 2 ^ 32 := Nat.and_lt_two_pow _ (by omega)
  have h1 : (BitVec.ofInt 32 (a : Int)).toNat = a := by
    rw [BitVec.ofInt_natCast, BitVec.toNat_ofNat]; exact Nat.mod_eq_of_lt (by omega)
  have h2 : (BitVec.ofInt 32 (b : Int)).toNat = b := by
    rw [BitVec.ofInt_natCast, BitVec.toNat_ofNat]; exact Nat.mod_eq_of_lt (by omega)
  show IntKind.u32.wrap ((BitVec.ofInt 32 (a : Int) &&& BitVec.ofInt 32 (b : Int)).toNat : Int) = _
  rw [BitVec.toNat_and, h1, h2, wrap_u32'']
  omega
theorem low_bit (a : Int) (h0 : 0 ≤ a) (h1 : a < 4294967296) : bits .and .u32 a 1 = a % 2 := by
  obtain ⟨n, rfl⟩ := Int.eq_ofNat_of_zero_le h0
  have h := and_nat n 1 (by omega) (by omega)
  rw [Nat.and_one_is_mod] at h
  simpa using h
theorem xor_bd (a b : Int) (h0 : 0 ≤ a) (h1 : a < 4294967296) (g0 : 0 ≤ b) (g1 : b < 4294967296) : 0 ≤ bits .xor .u32 a b ∧ bits .xor .u32 a b < 4294967296 := by
  obtain ⟨m, rfl⟩ := Int.eq_ofNat_of_zero_le h0
  obtain ⟨n, rfl⟩ := Int.eq_ofNat_of_zero_le g0
  rw [xor_nat m n (by omega) (by omega)]
  have : m ^^^ n < 2 ^ 32 := Nat.xor_lt_two_pow (by omega) (by omega)
  omega
theorem xor_left (a b c : Int) (h0 : 0 ≤ a) (h1 : a < 4294967296) (g0 : 0 ≤ b) (g1 : b < 4294967296) (k0 : 0 ≤ c) (k1 : c < 4294967296) (e : bits .xor .u32 a c = bits .xor .u32 b c) : a = b := by
  obtain ⟨m, rfl⟩ := Int.eq_ofNat_of_zero_le h0
  obtain ⟨n, rfl⟩ := Int.eq_ofNat_of_zero_le g0
  obtain ⟨k, rfl⟩ := Int.eq_ofNat_of_zero_le k0
  rw [xor_nat m k (by omega) (by omega), xor_nat n k (by omega) (by omega)] at e
  have e' : m ^^^ k = n ^^^ k := by omega
  have := congrArg (· ^^^ k) e'
  simp only [Nat.xor_assoc, Nat.xor_self, Nat.xor_zero] at this
  omega
theorem xor_right (a b c : Int) (h0 : 0 ≤ a) (h1 : a < 4294967296) (g0 : 0 ≤ b) (g1 : b < 4294967296) (k0 : 0 ≤ c) (k1 : c < 4294967296) (e : bits .xor .u32 c a = bits .xor .u32 c b) : a = b := by
  obtain ⟨m, rfl⟩ := Int.eq_ofNat_of_zero_le h0
  obtain ⟨n, rfl⟩ := Int.eq_ofNat_of_zero_le g0
  obtain ⟨k, rfl⟩ := Int.eq_ofNat_of_zero_le k0
  rw [xor_nat k m (by omega) (by omega), xor_nat k n (by omega) (by omega)] at e
  have e' : k ^^^ m = k ^^^ n := by omega
  have := congrArg (k ^^^ ·) e'
  simp only [← Nat.xor_assoc, Nat.xor_self, Nat.zero_xor] at this
  omega

/-- The register, shifted by one bit. -/
def stI (r : Int) : Int := if r % 2 = 1 then bits .xor .u32 (r / 2) 2197175160 else r / 2
theorem st_bd (r : Int) (h0 : 0 ≤ r) (h1 : r < 4294967296) : 0 ≤ stI r ∧ stI r < 4294967296 := by
  unfold stI
  split
  · exact xor_bd _ _ (by omega) (by omega) (by omega) (by omega)
  · omega
/-- The highest bit comes of the lowest one that went out. -/
theorem top_bit (a : Int) (h0 : 0 ≤ a) (h1 : a < 2147483648) : 2147483648 ≤ bits .xor .u32 a 2197175160 := by
  obtain ⟨m, rfl⟩ := Int.eq_ofNat_of_zero_le h0
  have e := xor_nat m 2197175160 (by omega) (by omega)
  have e' : bits .xor .u32 (m : Int) 2197175160 = ((m ^^^ 2197175160 : Nat) : Int) := e
  rw [e']
  have hb : (m ^^^ 2197175160).testBit 31 = true := by
    rw [Nat.testBit_xor, Nat.testBit_lt_two_pow (show m < 2 ^ 31 by omega)]
    decide
  have := Nat.ge_two_pow_of_testBit hb
  omega
theorem st_inj (a b : Int) (h0 : 0 ≤ a) (h1 : a < 4294967296) (g0 : 0 ≤ b) (g1 : b < 4294967296) (e : stI a = stI b) : a = b := by
  unfold stI at e
  split at e <;> split at e
  · have := xor_left _ _ _ (by omega) (by omega) (by omega) (by omega) (by omega) (by omega) e
    omega
  · have := top_bit (a / 2) (by omega) (by omega)
    omega
  · have := top_bit (b / 2) (by omega) (by omega)
    omega
  · omega

/-- Eight bits. -/
def byI (r : Int) : Int := stI (stI (stI (stI (stI (stI (stI (stI r)))))))
theorem by_bd (r : Int) (h0 : 0 ≤ r) (h1 : r < 4294967296) : 0 ≤ byI r ∧ byI r < 4294967296 := by
  have a := st_bd r h0 h1
  have b := st_bd _ a.1 a.2
  have c := st_bd _ b.1 b.2
  have d := st_bd _ c.1 c.2
  have e := st_bd _ d.1 d.2
  have f := st_bd _ e.1 e.2
  have g := st_bd _ f.1 f.2
  exact st_bd _ g.1 g.2
theorem by_inj (r s : Int) (h0 : 0 ≤ r) (h1 : r < 4294967296) (k0 : 0 ≤ s) (k1 : s < 4294967296) (e : byI r = byI s) : r = s := by
  have a := st_bd r h0 h1
  have b := st_bd _ a.1 a.2
  have c := st_bd _ b.1 b.2
  have d := st_bd _ c.1 c.2
  have e' := st_bd _ d.1 d.2
  have f := st_bd _ e'.1 e'.2
  have g := st_bd _ f.1 f.2
  have a2 := st_bd s k0 k1
  have b2 := st_bd _ a2.1 a2.2
  have c2 := st_bd _ b2.1 b2.2
  have d2 := st_bd _ c2.1 c2.2
  have e2 := st_bd _ d2.1 d2.2
  have f2 := st_bd _ e2.1 e2.2
  have g2 := st_bd _ f2.1 f2.2
  exact st_inj _ _ h0 h1 k0 k1 (st_inj _ _ a.1 a.2 a2.1 a2.2 (st_inj _ _ b.1 b.2 b2.1 b2.2 (st_inj _ _ c.1 c.2 c2.1 c2.2 (st_inj _ _ d.1 d.2 d2.1 d2.2 (st_inj _ _ e'.1 e'.2 e2.1 e2.2 (st_inj _ _ f.1 f.2 f2.1 f2.2 (st_inj _ _ g.1 g.2 g2.1 g2.2 e)))))))

/-- The register behind bytes. -/
def crI (l : List Int) (r : Int) : Int := l.foldl (fun r c => byI (bits .xor .u32 r c)) r
def Byt (l : List Int) : Prop := ∀ c ∈ l, 0 ≤ c ∧ c ≤ 255
theorem cr_bd (l : List Int) (hl : Byt l) : ∀ r, 0 ≤ r → r < 4294967296 → 0 ≤ crI l r ∧ crI l r < 4294967296 := by
  induction l with
  | nil => intro r h h'; exact ⟨h, h'⟩
  | cons c l ih =>
    intro r h h'
    have hc := hl c (List.mem_cons_self ..)
    have hx := xor_bd r c h h' hc.1 (by omega)
    have hb := by_bd _ hx.1 hx.2
    exact ih (fun x hx => hl x (List.mem_cons_of_mem _ hx)) _ hb.1 hb.2
theorem cr_inj (l : List Int) (hl : Byt l) : ∀ r s, 0 ≤ r → r < 4294967296 → 0 ≤ s → s < 4294967296 → crI l r = crI l s → r = s := by
  induction l with
  | nil => intro r s _ _ _ _ e; exact e
  | cons c l ih =>
    intro r s h h' k k' e
    have hc := hl c (List.mem_cons_self ..)
    have hx := xor_bd r c h h' hc.1 (by omega)
    have hy := xor_bd s c k k' hc.1 (by omega)
    have hb := by_bd _ hx.1 hx.2
    have hb' := by_bd _ hy.1 hy.2
    have e1 := ih (fun x hx => hl x (List.mem_cons_of_mem _ hx)) _ _ hb.1 hb.2 hb'.1 hb'.2 e
    have e2 := by_inj _ _ hx.1 hx.2 hy.1 hy.2 e1
    exact xor_left r s c h h' k k' hc.1 (by omega) e2
theorem cr_snoc (l : List Int) (c r : Int) : crI (l ++ [c]) r = byI (bits .xor .u32 (crI l r) c) := by unfold crI; rw [List.foldl_append]; rfl
theorem cr_app (l k : List Int) (r : Int) : crI (l ++ k) r = crI k (crI l r) := by unfold crI; rw [List.foldl_append]
/-- One byte that is another one makes another register. -/
theorem cr_turned (l k : List Int) (c d r : Int) (hl : Byt l) (hk : Byt k) (c0 : 0 ≤ c) (c1 : c ≤ 255) (d0 : 0 ≤ d) (d1 : d ≤ 255) (hcd : c ≠ d) (r0 : 0 ≤ r) (r1 : r < 4294967296) :
    crI (l ++ c :: k) r ≠ crI (l ++ d :: k) r := by
  intro e
  have hb := cr_bd l hl r r0 r1
  rw [cr_app, cr_app] at e
  generalize crI l r = s at hb e
  have hx := xor_bd s c hb.1 hb.2 c0 (by omega)
  have hy := xor_bd s d hb.1 hb.2 d0 (by omega)
  have hbx := by_bd _ hx.1 hx.2
  have hby := by_bd _ hy.1 hy.2
  have e' : crI k (byI (bits .xor .u32 s c)) = crI k (byI (bits .xor .u32 s d)) := e
  have e1 := cr_inj k hk _ _ hbx.1 hbx.2 hby.1 hby.2 e'
  have e2 := by_inj _ _ hx.1 hx.2 hy.1 hy.2 e1
  exact hcd (xor_right c d s c0 (by omega) d0 (by omega) hb.1 hb.2 e2)

end Go.Proofs.Ytflhgphjkhplmaa.W

/- Varints as plain functions on lists of bytes; no program in sight. -/
namespace Go.Proofs.Ytflhgphjkhplmaa.W
open Go.RowKit

/-- How many bytes the varint at the front has, if its end is there. -/
def scan : List Int → Option Nat
  | [] => none
  | c :: l => if c < 128 then some 1 else (scan l).map (· + 1)
/-- The number of a varint's bytes, as 64 bits hold it. -/
def jv : List Int → Int
  | [] => 0
  | c :: l => jv l * 128 % 18446744073709551616 + c % 128
theorem jv_bd : ∀ l, 0 ≤ jv l ∧ jv l < 18446744073709551616
  | [] => ⟨by simp [jv], by simp [jv]⟩
  | c :: l => by simp only [jv]; omega
/-- What Get answers: the number, the place behind it, the error. -/
def getI (zs : List Int) (at' : Nat) : Int × Int × Int :=
  match scan (zs.drop at') with
  | none => (0, 0, 8)
  | some n => if 10 < n ∨ (n = 10 ∧ 1 < zs.getD (at' + 9) 0) then (0, 0, 30) else (jv ((zs.drop at').take n), (at' + n : Nat), 0)

theorem drop_cons (zs : List Int) (k : Nat) (h : k < zs.length) : zs.drop k = zs.getD k 0 :: zs.drop (k + 1) := by
  rw [List.drop_eq_getElem_cons h, List.getD_eq_getElem?_getD, List.getElem?_eq_getElem h]; rfl
theorem scan_hit (zs : List Int) (k : Nat) (h : k < zs.length) (c : zs.getD k 0 < 128) : scan (zs.drop k) = some 1 := by
  rw [drop_cons zs k h]; simp only [scan]; rw [if_pos c]
theorem scan_miss (zs : List Int) (k : Nat) (h : k < zs.length) (c : ¬ zs.getD k 0 < 128) : scan (zs.drop k) = (scan (zs.drop (k + 1))).map (· + 1) := by
  rw [drop_cons zs k h]; simp only [scan]; rw [if_neg c]
theorem scan_end (zs : List Int) : scan (zs.drop zs.length) = none := by simp [scan]
theorem scan_le : ∀ (l : List Int) (n : Nat), scan l = some n → 1 ≤ n ∧ n ≤ l.length
  | [], n, h => by simp [scan] at h
  | c :: l, n, h => by
    simp only [scan] at h
    split at h
    · simp at h; simp; omega
    · cases hs : scan l with
      | none => rw [hs] at h; simp at h
      | some m =>
        rw [hs] at h
        simp at h
        have := scan_le l m hs
        simp
        omega

theorem and_127 (c : Int) (h0 : 0 ≤ c) (h1 : c ≤ 255) : bits .and .u8 c 127 = c % 128 := by
  obtain ⟨n, rfl⟩ := Int.eq_ofNat_of_zero_le h0
  have hn : n < 256 := by omega
  have all : ∀ m : Fin 256, bits .and .u8 (m.val : Int) 127 = (m.val : Int) % 128 := by decide +kernel
  exact all ⟨n, hn⟩
theorem or_jv (a c : Int) (c0 : 0 ≤ c) (c1 : c < 128) : bits .or .u64 (a * 128 % 18446744073709551616) c = a * 128 % 18446744073709551616 + c := by
  have e : a * 128 % 18446744073709551616 = a % 144115188075855872 * 128 := by omega
  rw [e]
  have hm0 : 0 ≤ a % 144115188075855872 := by omega
  have hm1 : a % 144115188075855872 < 144115188075855872 := by omega
  generalize a % 144115188075855872 = x at hm0 hm1
  obtain ⟨m, rfl⟩ := Int.eq_ofNat_of_zero_le hm0
  obtain ⟨n, rfl⟩ := Int.eq_ofNat_of_zero_le c0
  have h := bits_or_u64_nat (m * 128) n (by omega) (by omega)
  have h2 := Nat.two_pow_add_eq_or_of_lt (i := 7) (b := n) (by omega) m
  rw [show m * 128 = 2 ^ 7 * m from by omega, ← h2] at h
  have e3 : ((2 ^ 7 * m : Nat) : Int) = (m : Int) * 128 := by omega
  rw [e3] at h
  rw [h]
  omega

end Go.Proofs.Ytflhgphjkhplmaa.W

/- Fields, and the bytes that they are written as; no program in sight. -/
namespace Go.Proofs.Ytflhgphjkhplmaa.W
open Go.RowKit

/-- The bytes of a varint. -/
def vN (n : Nat) : List Int := if n < 128 then [(n : Int)] else ((n % 128 + 128 : Nat) : Int) :: vN (n / 128)
termination_by n
decreasing_by omega
theorem vN_lo {n : Nat} (h : n < 128) : vN n = [(n : Int)] := by rw [vN, if_pos h]
theorem vN_hi {n : Nat} (h : ¬ n < 128) : vN n = ((n % 128 + 128 : Nat) : Int) :: vN (n / 128) := by rw [vN, if_neg h]
theorem vN_byt : ∀ n, Byt (vN n) := by
  intro n
  induction n using Nat.strongRecOn with
  | ind n ih =>
    by_cases h : n < 128
    · rw [vN_lo h]
      intro c hc
      simp at hc
      omega
    · rw [vN_hi h]
      intro c hc
      rcases List.mem_cons.1 hc with rfl | hc
      · omega
      · exact ih (n / 128) (by omega) c hc
/-- A varint's length, by the number's bits. -/
theorem vN_len : ∀ n : Nat, ∃ k, (vN n).length = k + 1 ∧ n < 2 ^ (7 * (k + 1)) ∧ (0 < k → 2 ^ (7 * k) ≤ n) := by
  intro n
  induction n using Nat.strongRecOn with
  | ind n ih =>
    by_cases h : n < 128
    · exact ⟨0, by rw [vN_lo h]; rfl, by simpa using h, fun h => absurd h (by omega)⟩
    · obtain ⟨k, h1, h2, h3⟩ := ih (n / 128) (by omega)
      refine ⟨k + 1, by rw [vN_hi h, List.length_cons, h1], ?_, fun _ => ?_⟩
      · rw [show 7 * (k + 1 + 1) = 7 * (k + 1) + 7 by omega, Nat.pow_add]
        have : (2 : Nat) ^ 7 = 128 := rfl
        rw [this]
        omega
      · rw [show 7 * (k + 1) = 7 * k + 7 by omega, Nat.pow_add]
        have : (2 : Nat) ^ 7 = 128 := rfl
        rw [this]
        by_cases hk : 0 < k
        · have := h3 hk; omega
        · have : k = 0 := by omega
          subst this
          simp
          omega
/-- A varint's length out of the length of the number with its lowest bit set. -/
theorem vN_size (n m L : Nat) (hm : m = if n % 2 = 1 then n else n + 1) (h1 : m < 2 ^ L) (h2 : 2 ^ L ≤ 2 * m) : (L + 6) / 7 = (vN n).length := by
  obtain ⟨k, e, h3, h4⟩ := vN_len n
  rw [e]
  have hL0 : 0 < L := by
    rcases Nat.eq_zero_or_pos L with h | h
    · subst h; split at hm <;> omega
    · exact h
  have a1 : 7 * k < L := by
    by_cases hk : 0 < k
    · have h5 := h4 hk
      have h6 : 2 ^ (7 * k) < 2 ^ L := by split at hm <;> omega
      exact (Nat.pow_lt_pow_iff_right (by omega)).1 h6
    · omega
  have a2 : L < 7 * (k + 1) + 1 := by
    have h5 : m < 2 ^ (7 * (k + 1)) := by
      have : (2 : Nat) ^ (7 * (k + 1)) = 2 * 2 ^ (7 * k + 6) := by rw [show 7 * (k + 1) = (7 * k + 6) + 1 by omega, Nat.pow_succ, Nat.mul_comm]
      split at hm <;> omega
    have h6 : 2 ^ L < 2 ^ (7 * (k + 1) + 1) := by rw [Nat.pow_succ]; omega
    exact (Nat.pow_lt_pow_iff_right (by omega)).1 h6
  omega

/-- The lowest bytes of a number, the lowest first. -/
def leN (n : Nat) : Nat → List Int
  | 0 => []
  | k + 1 => ((n % 256 : Nat) : Int) :: leN (n / 256) k
theorem leN_len (n : Nat) : ∀ k, (leN n k).length = k := by
  intro k
  induction k generalizing n with
  | zero => rfl
  | succ k ih => simp [leN, ih]
theorem leN_byt (n : Nat) : ∀ k, Byt (leN n k) := by
  intro k
  induction k generalizing n with
  | zero => intro c hc; cases hc
  | succ k ih =>
    intro c hc
    rcases List.mem_cons.1 hc with rfl | hc
    · omega
    · exact ih _ c hc

/-- A field. -/
structure Fd where
  num : Int
  typ : Int
  n : Nat
  b : List Int
/-- It can be. -/
def okN (num typ : Int) (n l : Nat) : Bool := decide (1 ≤ num ∧ num ≤ 536870911) && (if typ = 2 then n == 0 else if typ = 5 then decide ((n : Int) < 4294967296) && l == 0 else (typ == 0 || typ == 1) && l == 0)
def okF (f : Fd) : Bool := okN f.num f.typ f.n f.b.length
/-- What stands ahead of its content. -/
def hdF (f : Fd) : Nat := (f.num * 8 + f.typ).toNat
def bodyF (f : Fd) : List Int := if f.typ = 2 then vN f.b.length ++ f.b else if f.typ = 5 then leN f.n 4 else if f.typ = 1 then leN f.n 8 else vN f.n
def encF (f : Fd) : List Int := vN (hdF f) ++ bodyF f
def encL : List Fd → List Int
  | [] => []
  | f :: r => encF f ++ encL r
theorem encL_app (a b : List Fd) : encL (a ++ b) = encL a ++ encL b := by
  induction a with
  | nil => rfl
  | cons f r ih => simp [encL, ih]
/-- What a list of fields is written as: the bytes, the error. -/
def wrI (fs : List Fd) : List Int × Int :=
  if 4096 < fs.length then ([], 7) else if fs.all okF = false then ([], 30) else if 1048576 < (encL fs).length then ([], 4) else (encL fs, 0)
end Go.Proofs.Ytflhgphjkhplmaa.W

/- The layer's check sum and the model's, walked over any bytes. -/
namespace Go.Proofs.Ytflhgphjkhplmaa.W
open Go.RowKit

theorem ret_int {k : IntKind} {a b : Int} (h : a = b) : Ending.returned (.int k a) = .returned (.int k b) := by rw [h]

/-- n bits. -/
def stN : Nat → Int → Int
  | 0, r => r
  | n + 1, r => stI (stN n r)
theorem stN_bd (r : Int) (h0 : 0 ≤ r) (h1 : r < 4294967296) : ∀ n, 0 ≤ stN n r ∧ stN n r < 4294967296
  | 0 => ⟨h0, h1⟩
  | n + 1 => st_bd _ (stN_bd r h0 h1 n).1 (stN_bd r h0 h1 n).2
theorem stN_8 (r : Int) : stN 8 r = byI r := rfl

set_option maxHeartbeats 400000 in
theorem sumByte_any (r : Int) (w : World) (h0 : 0 ≤ r) (h1 : r < 4294967296) : Calls Try.prog 86 #[.int .u32 r] w fun e w' => e = .returned (.int .u32 (byI r)) ∧ w' = w := by
  go_enter Try.func86, Try.ntmps86
  go_wp2
  go_loop [0, 4] (fun s i => ∃ k : Nat, k ≤ 8 ∧ i = .int .i64 k ∧ s = .int .u32 (stN k r)) (fun _ i => 8 - (intOf i).toNat)
  case atStart => exact ⟨0, by omega, rfl, rfl⟩
  case round =>
    obtain ⟨k, hk, rfl, rfl⟩ := hrel
    obtain ⟨b0, b1⟩ := stN_bd r h0 h1 k
    have HS : Hid (stN (k + 1) r = stI (stN k r)) := rfl
    by_cases hlt : k < 8
    · have hlt' : (k : Int) < 8 := by omega
      generalize stN k r = x at b0 b1 HS
      have hl := low_bit x b0 b1
      by_cases c : x % 2 = 1
      · have c' : (x % 2 == 1) = true := by simpa using c
        have HX : Hid (stI x = bits .xor .u32 (x / 2) 2197175160) := by show _ = _; unfold stI; rw [if_pos c]
        clear c
        go_wp2
        go_round
        case rel => exact ⟨k + 1, by omega, by go_num, by rw [HS.out, HX.out]⟩
        case measure => simp [intOf]; omega
      · have c' : (x % 2 == 1) = false := by simpa using c
        have HX : Hid (stI x = x / 2) := by show _ = _; unfold stI; rw [if_neg c]
        clear c
        go_wp2
        go_round
        case rel => exact ⟨k + 1, by omega, by go_num, by rw [HS.out, HX.out]⟩
        case measure => simp [intOf]; omega
    · have : k = 8 := by omega
      subst this
      go_wp2
      go_ret
      exact ⟨ret_int (stN_8 r), rfl⟩

theorem take_snoc (zs : List Int) (k : Nat) (h : k < zs.length) : zs.take (k + 1) = zs.take k ++ [zs.getD k 0] := by
  rw [List.take_succ_eq_append_getElem h, List.getD_eq_getElem?_getD, List.getElem?_eq_getElem h]; rfl
theorem byt_take {zs : List Int} (h : Byt zs) (k : Nat) : Byt (zs.take k) := fun c hc => h c (List.mem_of_mem_take hc)
theorem byt_at {zs : List Int} (h : Byt zs) (k : Nat) (hk : k < zs.length) : 0 ≤ zs.getD k 0 ∧ zs.getD k 0 ≤ 255 := by
  rw [List.getD_eq_getElem?_getD, List.getElem?_eq_getElem hk]
  exact h _ (List.getElem_mem hk)

/-- What a sum comes to, of a register. -/
def cpI (r : Int) : Int := bits .xor .u32 IntKind.u32.max r

set_option maxHeartbeats 400000 in
theorem sum_row (b off len cap : Nat) (zs : List Int) (w : World) (hl : len ≤ zs.length) (hm : (len : Int) ≤ 9223372036854775806) (hz : Byt zs)
    (hc : ∀ i, i < len → w.cell? ⟨b, off + i, none⟩ = some (.int .u8 (zs.getD i 0))) :
    Calls Try.prog 64 #[.slice (some ⟨b, off, none⟩) len cap] w fun e w' => e = .returned (.int .u32 (cpI (crI (zs.take len) 4294967295))) ∧ w' = w := by
  go_enter Try.func64, Try.ntmps64
  go_wp2
  go_loop [3, 8] (fun s i => ∃ k : Nat, k ≤ len ∧ i = .int .i64 k ∧ s = .int .u32 (crI (zs.take k) 4294967295)) (fun _ i => len - (intOf i).toNat)
  case atStart => exact ⟨0, Nat.zero_le _, rfl, rfl⟩
  case round =>
    obtain ⟨k, hk, rfl, rfl⟩ := hrel
    obtain ⟨b0, b1⟩ := cr_bd (zs.take k) (byt_take hz k) 4294967295 (by omega) (by omega)
    by_cases hlt : k < len
    · have hck := hc k hlt
      obtain ⟨z0, z1⟩ := byt_at hz k (by omega)
      have HT : Hid (crI (zs.take (k + 1)) 4294967295 = byI (bits .xor .u32 (crI (zs.take k) 4294967295) (zs.getD k 0))) := by
        show _ = _
        rw [take_snoc zs k (by omega), cr_snoc]
      clear hc
      generalize crI (zs.take k) 4294967295 = S at b0 b1 HT ⊢
      generalize zs.getD k 0 = z at hck z0 z1 HT
      obtain ⟨y0, y1⟩ := xor_bd S z b0 b1 z0 (by omega)
      go_wp2_with (go_at_call 86; refine (sumByte_any _ _ y0 y1).mono ?_; rintro e w' ⟨rfl, rfl⟩)
      go_round
      case rel => exact ⟨k + 1, by omega, by go_num, by rw [HT.out]⟩
      case measure => simp [intOf]; omega
    · have : k = len := by omega
      subst this
      go_wp2
      go_ret
      exact ⟨rfl, rfl⟩

theorem cp_inj (r s : Int) (h0 : 0 ≤ r) (h1 : r < 4294967296) (g0 : 0 ≤ s) (g1 : s < 4294967296) (e : cpI r = cpI s) : r = s :=
  xor_right r s IntKind.u32.max h0 h1 g0 g1 (by decide) (by decide) e

theorem sum_none (a : Option Addr) (cap : Nat) (w : World) : Calls Try.prog 64 #[.slice a 0 cap] w fun e w' => e = .returned (.int .u32 (cpI 4294967295)) ∧ w' = w := by
  go_enter Try.func64, Try.ntmps64
  go_wp2
  go_rounds 1
  go_ret
  exact ⟨rfl, rfl⟩

end Go.Proofs.Ytflhgphjkhplmaa.W

/- How many bits a number takes: math/bits Len64 and LeadingZeros64, walked. -/
namespace Go.Proofs.Ytflhgphjkhplmaa.W
open Go.RowKit

theorem tab_eq : (⟨(([0, 1, 2, 2, 3, 3, 3, 3, 4, 4, 4, 4, 4, 4, 4, 4, 5, 5, 5, 5, 5, 5, 5, 5, 5, 5, 5, 5, 5, 5, 5, 5, 6, 6, 6, 6, 6, 6, 6, 6, 6, 6, 6, 6, 6, 6, 6, 6, 6, 6, 6, 6, 6, 6, 6, 6, 6, 6, 6, 6, 6, 6, 6, 6].append [7, 7, 7, 7, 7, 7, 7, 7, 7, 7, 7, 7, 7, 7, 7, 7, 7, 7, 7, 7, 7, 7, 7, 7, 7, 7, 7, 7, 7, 7, 7, 7, 7, 7, 7, 7, 7, 7, 7, 7, 7, 7, 7, 7, 7, 7, 7, 7, 7, 7, 7, 7, 7, 7, 7, 7, 7, 7, 7, 7, 7, 7, 7, 7]).append ([8, 8, 8, 8, 8, 8, 8, 8, 8, 8, 8, 8, 8, 8, 8, 8, 8, 8, 8, 8, 8, 8, 8, 8, 8, 8, 8, 8, 8, 8, 8, 8, 8, 8, 8, 8, 8, 8, 8, 8, 8, 8, 8, 8, 8, 8, 8, 8, 8, 8, 8, 8, 8, 8, 8, 8, 8, 8, 8, 8, 8, 8, 8, 8].append [8, 8, 8, 8, 8, 8, 8, 8, 8, 8, 8, 8, 8, 8, 8, 8, 8, 8, 8, 8, 8, 8, 8, 8, 8, 8, 8, 8, 8, 8, 8, 8, 8, 8, 8, 8, 8, 8, 8, 8, 8, 8, 8, 8, 8, 8, 8, 8, 8, 8, 8, 8, 8, 8, 8, 8, 8, 8, 8, 8, 8, 8, 8, 8])).toArray⟩ : ByteArray) = Lib.len8tab := by kernel_rfl

/-- What the table holds at a place. -/
theorem tab_at (i : Int) (h : i.toNat < Lib.len8tab.size) : ((Lib.len8tab[i.toNat]'h).toNat : Int) = (Lib.bitLen i.toNat : Int) ∧ Lib.bitLen i.toNat ≤ 8 := by
  have h' : i.toNat < 256 := by rw [Lib.len8tab_size] at h; exact h
  have a := Lib.len8_eq ⟨i.toNat, h'⟩
  have b := Lib.bitLen_le8 ⟨i.toNat, h'⟩
  simp only [Lib.len8, Int.toNat_natCast] at a
  rw [getElem?_pos Lib.len8tab i.toNat h] at a
  exact ⟨a, b⟩
theorem tab_sz : (Lib.len8tab.size : Int) = 256 := by rw [Lib.len8tab_size]; rfl
theorem wrap_sum (k : Int) (b : Nat) (hk : 0 ≤ k) (hk' : k ≤ 56) (hb : b ≤ 8) : wrap64 (k + wrap64 (b : Int)) = k + b := by
  unfold wrap64; omega
theorem wrap_bare (b : Nat) (hb : b ≤ 8) : wrap64 (b : Int) = b := by
  unfold wrap64; omega
theorem end_of (y z k : Int) (hz : z.toNat < Lib.len8tab.size) (hk : 0 ≤ k) (hk' : k ≤ 56) (e : (Lib.bitLen y.toNat : Int) = k + (Lib.bitLen z.toNat : Int)) : wrap64 (k + wrap64 ((Lib.len8tab[z.toNat]'hz).toNat : Int)) = (Lib.bitLen y.toNat : Int) := by
  obtain ⟨a, b⟩ := tab_at z hz
  rw [a, wrap_sum k _ hk hk' b, e]

set_option maxHeartbeats 400000 in
theorem len64_0 (y : Int) (h0 : 0 ≤ y) (hy : y ≤ 255) (w : World) : Calls Try.prog 85 #[.int .u64 y] w fun e w' => e = .returned (.int .i64 (Lib.bitLen y.toNat)) ∧ w' = w := by
  go_enter Try.func85, Try.ntmps85
  rw [tab_eq]
  go_wp2
  go_ret
  have b := Lib.bitLen_le8' y h0 hy
  exact ⟨ret_int (by rw [Lib.len8_of y h0 hy, wrap_bare _ b, wrap_bare _ b]), rfl⟩

set_option maxHeartbeats 400000 in
theorem len64_8 (y : Int) (h0 : 256 ≤ y) (hy : y < 65536) (w : World) : Calls Try.prog 85 #[.int .u64 y] w fun e w' => e = .returned (.int .i64 (Lib.bitLen y.toNat)) ∧ w' = w := by
  go_enter Try.func85, Try.ntmps85
  rw [tab_eq]
  go_wp2
  · go_ret
    exact ⟨ret_int (end_of y (y / 256) 8 (by rw [Lib.len8tab_size]; omega) (by omega) (by omega) (by rw [Lib.bitLen_shift8 y.toNat (by omega) (by omega), show (y / 256).toNat = y.toNat / 256 from by omega]; omega)), rfl⟩
  · exfalso; have := tab_sz; omega

set_option maxHeartbeats 400000 in
theorem len64_16 (y : Int) (h0 : 65536 ≤ y) (hy : y < 16777216) (w : World) : Calls Try.prog 85 #[.int .u64 y] w fun e w' => e = .returned (.int .i64 (Lib.bitLen y.toNat)) ∧ w' = w := by
  go_enter Try.func85, Try.ntmps85
  rw [tab_eq]
  go_wp2
  · go_ret
    exact ⟨ret_int (end_of y (y / 65536) 16 (by rw [Lib.len8tab_size]; omega) (by omega) (by omega) (by rw [Lib.bitLen_shift16 y.toNat (by omega) (by omega), show (y / 65536).toNat = y.toNat / 65536 from by omega]; omega)), rfl⟩
  · exfalso; have := tab_sz; omega

set_option maxHeartbeats 400000 in
theorem len64_24 (y : Int) (h0 : 16777216 ≤ y) (hy : y < 4294967296) (w : World) : Calls Try.prog 85 #[.int .u64 y] w fun e w' => e = .returned (.int .i64 (Lib.bitLen y.toNat)) ∧ w' = w := by
  go_enter Try.func85, Try.ntmps85
  rw [tab_eq]
  go_wp2
  · go_ret
    exact ⟨ret_int (end_of y (y / 65536 / 256) 24 (by rw [Lib.len8tab_size]; omega) (by omega) (by omega) (by rw [Lib.bitLen_shift24 y.toNat (by omega) (by omega), show (y / 65536 / 256).toNat = y.toNat / 16777216 from by omega]; omega)), rfl⟩
  · exfalso; have := tab_sz; omega

set_option maxHeartbeats 400000 in
theorem len64_32 (y : Int) (h0 : 4294967296 ≤ y) (hy : y < 1099511627776) (w : World) : Calls Try.prog 85 #[.int .u64 y] w fun e w' => e = .returned (.int .i64 (Lib.bitLen y.toNat)) ∧ w' = w := by
  go_enter Try.func85, Try.ntmps85
  rw [tab_eq]
  go_wp2
  · go_ret
    exact ⟨ret_int (end_of y (y / 4294967296) 32 (by rw [Lib.len8tab_size]; omega) (by omega) (by omega) (by rw [Lib.bitLen_shift32 y.toNat (by omega) (by omega), show (y / 4294967296).toNat = y.toNat / 4294967296 from by omega]; omega)), rfl⟩
  · exfalso; have := tab_sz; omega

set_option maxHeartbeats 400000 in
theorem len64_40 (y : Int) (h0 : 1099511627776 ≤ y) (hy : y < 281474976710656) (w : World) : Calls Try.prog 85 #[.int .u64 y] w fun e w' => e = .returned (.int .i64 (Lib.bitLen y.toNat)) ∧ w' = w := by
  go_enter Try.func85, Try.ntmps85
  rw [tab_eq]
  go_wp2
  · go_ret
    exact ⟨ret_int (end_of y (y / 4294967296 / 256) 40 (by rw [Lib.len8tab_size]; omega) (by omega) (by omega) (by rw [Lib.bitLen_shift40 y.toNat (by omega) (by omega), show (y / 4294967296 / 256).toNat = y.toNat / 1099511627776 from by omega]; omega)), rfl⟩
  · exfalso; have := tab_sz; omega

set_option maxHeartbeats 400000 in
theorem len64_48 (y : Int) (h0 : 281474976710656 ≤ y) (hy : y < 72057594037927936) (w : World) : Calls Try.prog 85 #[.int .u64 y] w fun e w' => e = .returned (.int .i64 (Lib.bitLen y.toNat)) ∧ w' = w := by
  go_enter Try.func85, Try.ntmps85
  rw [tab_eq]
  go_wp2
  · go_ret
    exact ⟨ret_int (end_of y (y / 4294967296 / 65536) 48 (by rw [Lib.len8tab_size]; omega) (by omega) (by omega) (by rw [Lib.bitLen_shift48 y.toNat (by omega) (by omega), show (y / 4294967296 / 65536).toNat = y.toNat / 281474976710656 from by omega]; omega)), rfl⟩
  · exfalso; have := tab_sz; omega

set_option maxHeartbeats 400000 in
theorem len64_56 (y : Int) (h0 : 72057594037927936 ≤ y) (hy : y < 18446744073709551616) (w : World) : Calls Try.prog 85 #[.int .u64 y] w fun e w' => e = .returned (.int .i64 (Lib.bitLen y.toNat)) ∧ w' = w := by
  go_enter Try.func85, Try.ntmps85
  rw [tab_eq]
  go_wp2
  · go_ret
    exact ⟨ret_int (end_of y (y / 4294967296 / 65536 / 256) 56 (by rw [Lib.len8tab_size]; omega) (by omega) (by omega) (by rw [Lib.bitLen_shift56 y.toNat (by omega) (by omega), show (y / 4294967296 / 65536 / 256).toNat = y.toNat / 72057594037927936 from by omega]; omega)), rfl⟩
  · exfalso; have := tab_sz; omega

theorem len64_any (y : Int) (h0 : 0 ≤ y) (hy : y < 18446744073709551616) (w : World) : Calls Try.prog 85 #[.int .u64 y] w fun e w' => e = .returned (.int .i64 (Lib.bitLen y.toNat)) ∧ w' = w := by
  rcases (show y < 256 ∨ (256 ≤ y ∧ y < 65536) ∨ (65536 ≤ y ∧ y < 16777216) ∨ (16777216 ≤ y ∧ y < 4294967296) ∨ (4294967296 ≤ y ∧ y < 1099511627776) ∨ (1099511627776 ≤ y ∧ y < 281474976710656) ∨ (281474976710656 ≤ y ∧ y < 72057594037927936) ∨ 72057594037927936 ≤ y from by omega) with h | ⟨h, h'⟩ | ⟨h, h'⟩ | ⟨h, h'⟩ | ⟨h, h'⟩ | ⟨h, h'⟩ | ⟨h, h'⟩ | h
  · exact len64_0 y h0 (by omega) w
  · exact len64_8 y h h' w
  · exact len64_16 y h h' w
  · exact len64_24 y h h' w
  · exact len64_32 y h h' w
  · exact len64_40 y h h' w
  · exact len64_48 y h h' w
  · exact len64_56 y h hy w
end Go.Proofs.Ytflhgphjkhplmaa.W

/- Maps by strings, as they lie: what a key leads to, and a new key. -/
namespace Go.Proofs.Ytflhgphjkhplmaa
open Go.RowKit
set_option linter.unusedVariables false
set_option linter.unusedSimpArgs false

abbrev Ent := ByteArray × Value × Nat
def ents (l : List Ent) : List MapEntry := l.map fun p => ⟨.string p.1, p.2.1, p.2.2⟩
def fnd (s : ByteArray) : List Ent → Nat → Option (Nat × Value)
  | [], _ => none
  | p :: r, i => if s == p.1 then some (i, p.2.1) else fnd s r (i + 1)
theorem findNow_ents (s : ByteArray) : ∀ (l : List Ent) (i : Nat), Instr.findNow .string (.string s) (ents l) i = some (fnd s l i)
  | [], _ => rfl
  | p :: r, i => by
    have ih := findNow_ents s r (i + 1)
    unfold ents at ih ⊢
    simp only [List.map_cons, Instr.findNow, Instr.sameNow, fnd]
    by_cases h : (s == p.1) = true
    · simp [h]
    · have h' : (s == p.1) = false := by simpa using h
      simp [h', ih]
/-- A map by strings, as it lies. -/
def MapAt (w : World) (B : Nat) (l : List Ent) (c : Nat) : Prop := w.heap[B]? = some (.map (ents l).toArray c)
theorem under9 : Try.prog.underlying 9 = some .string := by kernel_rfl
theorem run_findKey_ents (s : ByteArray) (l : List Ent) (w : World) : (Instr.findKey 9 (.string s) (ents l)).run Try.prog w = .ok (fnd s l 0) w := by
  simp [Instr.findKey, run_underlying under9, findNow_ents, Result.andThen]
theorem run_check (s : ByteArray) (b : Bool) (w : World) : (Instr.checkKey b 10000 9 (.string s)).run Try.prog w = .ok () w := MapKept.run_checkKey under9 (by trivial) b 9999
/-- A key that is there. -/
theorem run_look_some {T e : TypeId} (ht : Try.prog.underlying T = some (.map 9 e)) {w : World} {B c : Nat} {l : List Ent} (h : MapAt w B l c) {s : ByteArray} {i : Nat} {v : Value} (hf : fnd s l 0 = some (i, v)) :
    (Instr.lookup T (.map (some B)) (.string s) true).run Try.prog w = .ok (.tuple #[v, .bool true]) w := by
  unfold MapAt at h
  simp [Instr.lookup, run_underlying ht, MapKept.run_getObj_map h, run_check, run_findKey_ents, hf, Result.andThen]
/-- A key that is not there. -/
theorem run_look_none {T e : TypeId} (ht : Try.prog.underlying T = some (.map 9 e)) {w : World} {z : Value} (hz : (zeroValue e).run Try.prog w = .ok z w) {B c : Nat} {l : List Ent} (h : MapAt w B l c) {s : ByteArray} (hf : fnd s l 0 = none) :
    (Instr.lookup T (.map (some B)) (.string s) true).run Try.prog w = .ok (.tuple #[z, .bool false]) w := by
  unfold MapAt at h
  simp [Instr.lookup, run_underlying ht, MapKept.run_getObj_map h, run_check, run_findKey_ents, hf, hz, Result.andThen]
/-- No map. -/
theorem run_look_nil {T e : TypeId} (ht : Try.prog.underlying T = some (.map 9 e)) {w : World} {z : Value} (hz : (zeroValue e).run Try.prog w = .ok z w) (s : ByteArray) :
    (Instr.lookup T (.map none) (.string s) true).run Try.prog w = .ok (.tuple #[z, .bool false]) w := by
  have h0 := run_findKey_ents s [] w
  unfold ents fnd at h0
  simp only [List.map_nil] at h0
  simp [Instr.lookup, run_underlying ht, run_check, h0, hz, Result.andThen]
/-- A new key. -/
theorem run_put_new {T e : TypeId} (ht : Try.prog.underlying T = some (.map 9 e)) {w : World} {B c : Nat} {l : List Ent} (h : MapAt w B l c) {s : ByteArray} (hf : fnd s l 0 = none) (v : Value) :
    (Instr.mapUpdate T (.map (some B)) (.string s) v).run Try.prog w = .ok () { w with heap := w.heap.setIfInBounds B (.map (ents (l ++ [(s, v, c)])).toArray (c + 1)) } := by
  unfold MapAt at h
  have e1 : ents l ++ [{ key := .string s, val := v, born := c }] = ents (l ++ [(s, v, c)]) := by simp [ents]
  simp [Instr.mapUpdate, run_underlying ht, MapKept.run_getObj_map h, run_check, run_findKey_ents, hf, MapKept.run_setObj_map _ h, Result.andThen]
  rw [e1]
end Go.Proofs.Ytflhgphjkhplmaa

/- A disk's file is found, or not. -/
namespace Go.Proofs.Ytflhgphjkhplmaa
open Go.RowKit
set_option linter.unusedVariables false
set_option linter.unusedSimpArgs false

theorem under68 : Try.prog.underlying 88 = some (.map 9 112) := by kernel_rfl
theorem zero77 (w : World) : (zeroValue 112).run Try.prog w = .ok (.pointer none) w := by kernel_rfl
theorem find_some (D : Nat) (s : ByteArray) (B c i : Nat) (l : List Ent) (a : Option Addr) (w : World) (hD : w.cell? ⟨D, 0, none⟩ = some (.map (some B))) (h : MapAt w B l c) (hf : fnd s l 0 = some (i, .pointer a)) :
    Calls Try.prog 74 #[.pointer (some ⟨D, 0, none⟩), .string s] w fun e w' => e = .returned (.tuple #[.pointer a, .int .i64 0]) ∧ w' = w := by
  have hrun := run_look_some under68 h hf
  clear h hf
  go_enter Try.func74, Try.ntmps74
  go_wp2
  go_ret2
  exact ⟨rfl, rfl⟩
theorem find_none (D : Nat) (s : ByteArray) (B c : Nat) (l : List Ent) (w : World) (hD : w.cell? ⟨D, 0, none⟩ = some (.map (some B))) (h : MapAt w B l c) (hf : fnd s l 0 = none) :
    Calls Try.prog 74 #[.pointer (some ⟨D, 0, none⟩), .string s] w fun e w' => e = .returned (.tuple #[.pointer none, .int .i64 5]) ∧ w' = w := by
  have hrun := run_look_none under68 (zero77 w) h hf
  clear h hf
  go_enter Try.func74, Try.ntmps74
  go_wp2
  go_ret2
  exact ⟨rfl, rfl⟩
theorem find_new (D : Nat) (s : ByteArray) (w : World) (hD : w.cell? ⟨D, 0, none⟩ = some (.map none)) :
    Calls Try.prog 74 #[.pointer (some ⟨D, 0, none⟩), .string s] w fun e w' => e = .returned (.tuple #[.pointer none, .int .i64 5]) ∧ w' = w := by
  have hrun := run_look_nil under68 (zero77 w) s
  go_enter Try.func74, Try.ntmps74
  go_wp2
  go_ret2
  exact ⟨rfl, rfl⟩
end Go.Proofs.Ytflhgphjkhplmaa

/- A name of one letter; a first file is put. -/
namespace Go.Proofs.Ytflhgphjkhplmaa
open Go.RowKit
set_option linter.unusedVariables false
set_option linter.unusedSimpArgs false

set_option maxRecDepth 20000 in
set_option maxHeartbeats 2000000 in
theorem name_a (w : World) : Calls Try.prog 56 #[.string ⟨#[97]⟩] w fun e w' => e = .returned (.bool true) ∧ w' = w := by
  go_enter Try.func56, Try.ntmps56
  go_wp2
  go_step3
  go_wp2
  go_step3
  go_wp2
  refine wp_loop_rounds 2 ?_
  rw [rounds_succ]
  go_wp2
  rw [rounds_succ]
  go_wp2
  try rw [Exit.noGoto_ret]
  go_ret
  exact ⟨rfl, rfl⟩
/-- All but some blocks lies as it lay. -/
structure Kep (w w' : World) (X : Nat → Prop) : Prop where
  os : w'.os = w.os
  tape : w'.tape = w.tape
  output : w'.output = w.output
  size : w.heap.size ≤ w'.heap.size
  block : ∀ q, q < w.heap.size → ¬ X q → w'.heap[q]? = w.heap[q]?
theorem Kep.below {w w' : World} {X : Nat → Prop} {base : Nat} (h : Kep w w' X) (hb : base ≤ w.heap.size) (hx : ∀ q, X q → base ≤ q) : Below base w w' :=
  ⟨h.os, h.tape, h.output, h.size, fun k hk => h.block k (by omega) fun e => by have := hx k e; omega⟩
/-- A block whose one cell is written. -/
theorem row_set {w : World} {b i : Nat} {c : Array Value} {t : TypeId} {f : Nat × Nat} (v : Value) (h : w.heap[b]? = some (.cells c t f)) : (w.setCell ⟨b, i, none⟩ v).heap[b]? = some (.cells (c.setIfInBounds i v) t f) := by
  simp [World.setCell, Array.getElem?_modify, h]
theorem put_size {w : World} {b : Nat} {o : Obj} : ({ w with heap := w.heap.setIfInBounds b o } : World).heap.size = w.heap.size := by simp
theorem put_same {w : World} {b : Nat} {o : Obj} (h : b < w.heap.size) : ({ w with heap := w.heap.setIfInBounds b o } : World).heap[b]? = some o := by simp [h]
theorem put_other {w : World} {b q : Nat} {o : Obj} (h : q ≠ b) : ({ w with heap := w.heap.setIfInBounds b o } : World).heap[q]? = w.heap[q]? := by simp [Array.getElem?_setIfInBounds_ne (Ne.symm h)]
set_option maxRecDepth 20000 in
set_option maxHeartbeats 2000000 in
/-- The first file of a disk. -/
theorem put_first (D : Nat) (s : ByteArray) (a : Option Addr) (w : World) (z : Value) (t : TypeId) (hD : w.heap[D]? = some (.cells #[.map none, z] t (0, 0))) :
    Calls Try.prog 81 #[.pointer (some ⟨D, 0, none⟩), .string s, .pointer a] w fun e w' => (∃ v, e = .returned v) ∧ w'.heap[D]? = some (.cells #[.map (some w.heap.size), z] t (0, 0)) ∧ MapAt w' w.heap.size [(s, .pointer a, 0)] 1 ∧ Kep w w' (fun q => q = D) := by
  have hc : w.cell? ⟨D, 0, none⟩ = some (.map none) := by rw [cell_of_row _ _ _ _ _ _ hD]; rfl
  have hz : w.frozen? ⟨D, 0, none⟩ = false := frozen_of_row _ _ 0 _ _ hD
  have q : ∀ (w : World) (r : Option Nat), (binOp .eql 88 (.map r) (.map none)).run Try.prog w = .ok (.bool r.isNone) w := fun w r => by
    cases r <;> kernel_rfl
  have hpu : ∀ W : World, MapAt W w.heap.size [] 0 → (Instr.mapUpdate 88 (.map (some w.heap.size)) (.string s) (.pointer a)).run Try.prog W = .ok () { W with heap := W.heap.setIfInBounds w.heap.size (.map (ents [(s, .pointer a, 0)]).toArray 1) } := fun W hW => run_put_new under68 hW rfl _
  have hmk : (Instr.makeMap 88 none).run Try.prog w = .ok (.map (some w.heap.size)) (w.alloc (.map #[] 0)) := run_makeMap 88 w
  have hfz : (w.alloc (.map #[] 0)).frozen? ⟨D, 0, none⟩ = false := by
    have hlt := (Array.getElem?_eq_some_iff.1 hD).1
    exact frozen_of_row _ _ 0 _ _ ((Below.heap_alloc _ _ _ hlt).trans hD)
  have hc2 : (w.alloc (.map #[] 0)).cell? ⟨D, 0, none⟩ = some (.map none) := by
    have hlt := (Array.getElem?_eq_some_iff.1 hD).1
    rw [cell_of_row _ _ _ _ _ _ ((Below.heap_alloc _ _ _ hlt).trans hD)]; rfl
  go_enter Try.func81, Try.ntmps81
  go_upto_region 2 with fail
  have hlt := (Array.getElem?_eq_some_iff.1 hD).1
  obtain ⟨W, hW⟩ : ∃ W, (w.alloc (.map #[] 0)).setCell ⟨D, 0, none⟩ (.map (some w.heap.size)) = W := ⟨_, rfl⟩
  have e1 : W.heap[D]? = some (.cells #[.map (some w.heap.size), z] t (0, 0)) := by
    rw [← hW]
    exact row_set _ ((Below.heap_alloc _ _ _ hlt).trans hD)
  have e2 : MapAt W w.heap.size [] 0 := by
    show W.heap[w.heap.size]? = _
    rw [← hW, Below.heap_setCell _ _ _ _ (by show w.heap.size ≠ D; omega)]
    exact Go.heap_alloc_new _ _
  have e3 : W.heap.size = w.heap.size + 1 := by rw [← hW]; simp
  have e4 : ∀ q, q < w.heap.size → q ≠ D → W.heap[q]? = w.heap[q]? := fun q h1 h2 => by
    rw [← hW, Below.heap_setCell _ _ _ _ h2]
    exact Below.heap_alloc _ _ _ h1
  rw [hW]
  have hput := hpu W e2
  have hcell : W.cell? ⟨D, 0, none⟩ = some (.map (some w.heap.size)) := by rw [cell_of_row _ _ _ _ _ _ e1]; rfl
  obtain ⟨B, hB⟩ : ∃ B, w.heap.size = B := ⟨_, rfl⟩
  rw [hB] at e1 e3 e4 hcell hput hlt ⊢
  have HE : Hid (W.heap[D]? = some (.cells #[.map (some B), z] t (0, 0)) ∧ W.heap.size = B + 1 ∧ (∀ q, q < B → q ≠ D → W.heap[q]? = w.heap[q]?) ∧ D < B ∧ w.heap.size = B ∧ W.os = w.os ∧ W.tape = w.tape ∧ W.output = w.output) := ⟨e1, e3, e4, hlt, hB, by rw [← hW]; rfl, by rw [← hW]; rfl, by rw [← hW]; rfl⟩
  clear hW e1 e2 e3 e4 hlt hB hD hc hz hpu hmk hfz hc2
  go_wp2
  go_end0
  obtain ⟨e1, e3, e4, hlt, hB, o1, o2, o3⟩ := HE.out
  rw [hB]
  refine ⟨⟨_, rfl⟩, ?_, ?_, ⟨o1, o2, o3, ?_, ?_⟩⟩
  · rw [put_other (by omega)]; exact e1
  · exact put_same (by omega)
  · rw [put_size]; omega
  · intro q h1 h2
    rw [put_other (by omega)]
    exact e4 q (by omega) h2
end Go.Proofs.Ytflhgphjkhplmaa

/- Rows of bytes of the call's own; bytes that came in; an append of them. -/
namespace Go.Proofs.Ytflhgphjkhplmaa
open Go.RowKit
set_option linter.unusedVariables false
set_option linter.unusedSimpArgs false

def Byt (zs : List Int) : Prop := ∀ c ∈ zs, 0 ≤ c ∧ c ≤ 255
theorem info5 : (Try.prog.info? 5).map (fun i => (i.zero, i.size, i.bytes)) = some (some (.int .u8 0), 1, 1) := by kernel_rfl
theorem own_form {w : World} {base size n : Nat} {e : TypeId} {v : Value} {xs : List Value} (h : w.ownsRow base e size v n xs) (hn : 0 < n) : ∃ g cap, v = .slice (some ⟨g, 0, none⟩) n cap := by
  rcases h.2 with ⟨_, h'⟩ | ⟨g, cp, cur, hv, _⟩
  · omega
  · exact ⟨g, cp, hv⟩
theorem own_slice {w : World} {base size n : Nat} {e : TypeId} {v : Value} {xs : List Value} (h : w.ownsRow base e size v n xs) : ∃ a cap, v = .slice a n cap := by
  rcases h.2 with ⟨h, h'⟩ | ⟨g, cp, cur, hv, _⟩
  · exact ⟨_, _, by rw [h, h']⟩
  · exact ⟨_, cp, hv⟩
theorem ownBlock_ge {w : World} {base size n : Nat} {e : TypeId} {v : Value} {xs : List Value} (h : w.ownsRow base e size v n xs) : ∀ k, v.ownBlock = some k → base ≤ k := fun k hk => (h.lt k hk).1
theorem own_cap {w : World} {base size n n' g cap : Nat} {e : TypeId} {xs : List Value} (h : w.ownsRow base e size (.slice (some ⟨g, 0, none⟩) n' cap) n xs) : n ≤ cap := by
  rcases h.2 with ⟨h', _⟩ | ⟨g', cp', cur, hv, _, _, h3, _⟩
  · cases h'
  · cases hv; exact h3
theorem own_kept {w w' : World} {base : Nat} {e : TypeId} {size : Nat} {v : Value} {n : Nat} {xs : List Value} (h : w.ownsRow base e size v n xs) (hb : ∀ g, base ≤ g → g < w.heap.size → w'.heap[g]? = w.heap[g]?) : w'.ownsRow base e size v n xs :=
  ⟨h.1, h.2.imp id fun ⟨g, cap, cur, hv, hg, hc, r⟩ => ⟨g, cap, cur, hv, hg, (hb g hg (Array.getElem?_eq_some_iff.1 hc).1).trans hc, r⟩⟩
theorem own_at {w w' : World} {base size n : Nat} {e : TypeId} {v : Value} {xs : List Value} (h : w.ownsRow base e size v n xs) (hk : ∀ q, v.ownBlock = some q → w'.heap[q]? = w.heap[q]?) : w'.ownsRow base e size v n xs :=
  ⟨h.1, h.2.imp id fun ⟨g, cap, cur, hv, hg, hc, r⟩ => ⟨g, cap, cur, hv, hg, (hk g (by rw [hv]; rfl)).trans hc, r⟩⟩
theorem own_low {w : World} {base base' size n : Nat} {e : TypeId} {v : Value} {xs : List Value} (h : w.ownsRow base e size v n xs) (hb : base' ≤ base) : w.ownsRow base' e size v n xs :=
  ⟨h.1, h.2.imp id fun ⟨g, cap, cur, hv, hg, hc, r⟩ => ⟨g, cap, cur, hv, by omega, hc, r⟩⟩

def u8l (zs : List Int) : List Value := zs.map (Value.int .u8)
theorem u8l_len (zs : List Int) : (u8l zs).length = zs.length := by simp [u8l]
theorem u8l_one (zs : List Int) : ∀ u ∈ u8l zs, u.oneCell' = true := by
  intro u h
  unfold u8l at h
  obtain ⟨x, _, rfl⟩ := List.mem_map.1 h
  rfl
theorem u8l_app (a b : List Int) : u8l a ++ u8l b = u8l (a ++ b) := by simp [u8l]
theorem cell_new1 (w : World) (v : Value) (t : TypeId) : ∀ j u, [v][j]? = some u → (w.alloc (.cells #[v] t)).cell? ((⟨w.heap.size, 0, none⟩ : Addr).add j) = some u := by
  intro j u h
  rw [Addr.add_mid, Nat.zero_add, cell_of_row _ _ _ _ _ _ (Go.heap_alloc_new _ _)]
  simpa using h
theorem byt_app {a b : List Int} (ha : Byt a) (hb : Byt b) : Byt (a ++ b) := fun x hx => by
  rcases List.mem_append.1 hx with h | h
  · exact ha x h
  · exact hb x h

/-- Bytes that came in. -/
def Src (w : World) (sv : Value) (bs : List Int) : Prop := (sv = .slice none 0 0 ∧ bs = []) ∨ ∃ ad cap, sv = .slice (some ad) bs.length cap ∧ bs.length ≤ cap ∧ ∀ j u, (u8l bs)[j]? = some u → w.cell? (ad.add j) = some u
theorem Src.later {w w' : World} {sv : Value} {bs : List Int} (h : Src w sv bs) (hb : Below w.heap.size w w') : Src w' sv bs := by
  rcases h with h | ⟨ad, cap, rfl, hl, hC⟩
  · exact .inl h
  · refine .inr ⟨ad, cap, rfl, hl, fun j u hu => ?_⟩
    have h := hC j u hu
    rw [hb.cell (World.block_lt_of_cell? w _ h)]
    exact h
theorem Src.slice {w : World} {sv : Value} {bs : List Int} (h : Src w sv bs) : ∃ a c, sv = .slice a bs.length c := by
  rcases h with ⟨rfl, rfl⟩ | ⟨ad, cap, rfl, _⟩
  · exact ⟨_, _, rfl⟩
  · exact ⟨_, _, rfl⟩
theorem own_src {w : World} {base : Nat} {v : Value} {zs : List Int} (h : w.ownsRow base 5 1 v zs.length (u8l zs)) : Src w v zs := by
  rcases h.2 with ⟨h1, h2⟩ | ⟨g, cap, cur, h1, _, _, h3, _⟩
  · exact .inl ⟨h1, List.eq_nil_of_length_eq_zero h2⟩
  · exact .inr ⟨⟨g, 0, none⟩, cap, h1, h3, fun j u hu => h.cells (g := g) (by rw [h1]; rfl) j u hu⟩
theorem wpList_append_src {w : World} {ops : Array Oper} {rest : List Oper} {o : Oper} {a : Act} {Q : Exit → Act → World → Prop} (hgd : o.guard = none) (s x : Operand)
    (ho : o.op = .call { callee := .builtin .append, args := #[s, x], argTypes := #[23, 23] }) (base : Nat) (v : Value) (n : Nat) (xs : List Value) (hs : a.eval s = v) (hown : w.ownsRow base 5 1 v n xs)
    (sv : Value) (bs : List Int) (hx : a.eval x = sv) (hsrc : Src w sv bs) (hb : n + bs.length ≤ 100000000) (hbase : base ≤ w.heap.size)
    (h : ∀ v' w', w'.ownsRow base 5 1 v' (n + bs.length) (xs ++ u8l bs) → w.grownBy w' v.ownBlock → wpList Try.prog ops Q rest (a.put o.dst v') w') : wpList Try.prog ops Q (o :: rest) a w := by
  obtain ⟨i0, hi, hz0, hz1, hz2⟩ := info_parts info5
  rcases hsrc with ⟨rfl, rfl⟩ | ⟨ad, cap, rfl, _, hC⟩
  · refine wpList_append_own_none hgd s x 23 ho base 5 i0 1 Try.underlying23 hi v n xs hs hown hx ?_
    refine h v w ?_ ⟨rfl, rfl, rfl, Nat.le_refl _, fun _ _ _ => rfl⟩
    simpa [u8l] using hown
  · exact wpList_append_own w hgd s x 23 ho base 5 i0 (.int .u8 0) 1 1 Try.underlying23 hi hz0 hz1 hz2 rfl (by decide) v n xs hs hown ad bs.length cap (u8l bs) hx (by simp [u8l_len]) hC (u8l_one _) (by unfold maxLen; omega) (by omega) hbase fun v' w' h1 h2 _ => h v' w' h1 h2
/-- From one row to the one that it grew to: all else lies as it lay. -/
structure Gr (v : Value) (w : World) (v' : Value) (w' : World) : Prop where
  os : w'.os = w.os
  tape : w'.tape = w.tape
  output : w'.output = w.output
  size : w.heap.size ≤ w'.heap.size
  block : ∀ k, k < w.heap.size → v.ownBlock ≠ some k → w'.heap[k]? = w.heap[k]?
  near : ∀ g, v'.ownBlock = some g → v.ownBlock = some g ∨ w.heap.size ≤ g
theorem Gr.refl (v : Value) (w : World) : Gr v w v w := ⟨rfl, rfl, rfl, Nat.le_refl _, fun _ _ _ => rfl, fun _ h => .inl h⟩
theorem Gr.trans {v v' v'' : Value} {w w' w'' : World} (h : Gr v w v' w') (k : Gr v' w' v'' w'') : Gr v w v'' w'' := by
  refine ⟨k.os.trans h.os, k.tape.trans h.tape, k.output.trans h.output, Nat.le_trans h.size k.size, fun i hi hv => ?_, fun g hg => ?_⟩
  · have hs := h.size
    refine (k.block i (by omega) ?_).trans (h.block i hi hv)
    intro e
    rcases h.near i e with h1 | h1
    · exact hv h1
    · omega
  · rcases k.near g hg with h1 | h1
    · exact h.near g h1
    · have := h.size; exact .inr (by omega)
theorem Gr.below {v v' : Value} {w w' : World} {base : Nat} (h : Gr v w v' w') (hb : base ≤ w.heap.size) (hv : ∀ k, v.ownBlock = some k → base ≤ k) : Below base w w' :=
  ⟨h.os, h.tape, h.output, h.size, fun k hk => h.block k (by omega) (fun e => by have := hv k e; omega)⟩
/-- One byte more. -/
theorem wpList_append_one {w : World} {ops : Array Oper} {rest : List Oper} {o : Oper} {a : Act} {Q : Exit → Act → World → Prop} (hgd : o.guard = none) (s x : Operand)
    (ho : o.op = .call { callee := .builtin .append, args := #[s, x], argTypes := #[23, 23] }) (base : Nat) (v : Value) (n : Nat) (xs : List Value) (hs : a.eval s = v) (V : World) (hown : V.ownsRow base 5 1 v n xs)
    (c : Int) (hw : w = V.alloc (.cells #[.int .u8 c] 5)) (hx : a.eval x = .slice (some ⟨V.heap.size, 0, none⟩) 1 1) (hb : n ≤ 100000000) (hbase : base ≤ V.heap.size)
    (h : ∀ g cap w', w'.ownsRow base 5 1 (.slice (some ⟨g, 0, none⟩) (n + 1) cap) (n + 1) (xs ++ u8l [c]) → Gr v V (.slice (some ⟨g, 0, none⟩) (n + 1) cap) w' → wpList Try.prog ops Q rest (a.put o.dst (.slice (some ⟨g, 0, none⟩) (n + 1) cap)) w') : wpList Try.prog ops Q (o :: rest) a w := by
  subst hw
  obtain ⟨i0, hi, hz0, hz1, hz2⟩ := info_parts info5
  refine wpList_append_lies _ hgd s x 23 ho base 5 i0 (.int .u8 0) 1 1 Try.underlying23 hi hz0 hz1 hz2 rfl (by decide) v n xs hs (hown.alloc _) ⟨V.heap.size, 0, none⟩ 1 1 (u8l [c]) hx rfl (cell_new1 V _ _) (u8l_one _) (by decide) (by unfold maxLen; omega) (by omega) (by simp; omega) (V.heap.size + 1) (by simp) fun g cap w' h1 h2 h3 _ => h g cap w' h1 ?_
  refine ⟨h2.os, h2.tape, h2.output, Nat.le_trans (by simp) h2.size, fun k hk hv => ?_, fun g' hg' => ?_⟩
  · rw [h2.block k (by simp; omega) (fun e => hv e.symm)]
    exact Below.heap_alloc _ _ _ hk
  · have e : g = g' := by simpa [Value.ownBlock] using hg'
    rw [← e]
    rcases h3 with h | h
    · exact .inl h
    · exact .inr (by omega)
theorem ne_tag {w : World} {k k' : Nat} {c c' : Array Value} {t t' : TypeId} {f f' : Nat × Nat} (h : w.heap[k]? = some (.cells c t f)) (h' : w.heap[k']? = some (.cells c' t' f')) (ht : t ≠ t') : k ≠ k' := by
  rintro rfl
  rw [h] at h'
  simp at h'
  exact ht h'.2.1
theorem own_tag {w : World} {base size n : Nat} {e : TypeId} {v : Value} {xs : List Value} (h : w.ownsRow base e size v n xs) {q : Nat} (hq : v.ownBlock = some q) : ∃ cur, w.heap[q]? = some (.cells cur e (0, 0)) := by
  rcases h.2 with ⟨rfl, _⟩ | ⟨g, cap, cur, rfl, _, hc, _⟩
  · cases hq
  · have : g = q := by simpa [Value.ownBlock] using hq
    exact ⟨cur, this ▸ hc⟩
end Go.Proofs.Ytflhgphjkhplmaa
