/- The check sum as plain functions on numbers, and that no two registers go to one. -/
import Derived.WalkKit
import Derived.Laws.Bits64b
namespace Go.Proofs.Ytlgkajellndhlaa
open Go.RowKit

theorem wrap_u32'' (n : Int) : IntKind.u32.wrap n = n % 4294967296 := by simp [IntKind.wrap, IntKind.bits, IntKind.signed]
theorem xor_nat (a b : Nat) (ha : a < 4294967296) (hb : b < 4294967296) : bits .xor .u32 (a : Int) (b : Int) = ((a ^^^ b : Nat) : Int) := by
  have hx : a ^^^ b < 2 ^ 32 := Nat.xor_lt_two_pow (by omega) (by omega)
  have h1 : (BitVec.ofInt 32 (a : Int)).toNat = a := by
    rw [BitVec.ofInt_natCast, BitVec.toNat_ofNat]; exact Nat.mod_eq_of_lt (by omega)
  have h2 : (BitVec.ofInt 32 (b : Int)).toNat = b := by
    rw [BitVec.ofInt_natCast, BitVec.toNat_ofNat]; exact Nat.mod_eq_of_lt (by omega)
  show IntKind.u32.wrap ((BitVec.ofInt 32 (a : Int) ^^^ BitVec.ofInt 32 (b : Int)).toNat : Int) = _
  rw [BitVec.toNat_xor, h1, h2, wrap_u32'']
  omega
theorem and_nat (a b : Nat) (ha : a < 4294967296) (hb : b < 4294967296) : bits .and .u32 (a : Int) (b : Int) = ((a &&& b : Nat) : Int) := by
  have hx : a &&& b < 2 ^ 32 := Nat.and_lt_two_pow _ (by omega)
  have h1 : (BitVec.ofInt 32 (a : Int)).toNat = a := by
    rw [BitVec.ofInt_natCast, BitVec.toNat_ofNat]; exact Nat.mod_eq_of_lt (by omega)
  have h2 : (BitVec.ofInt 32 (b : Int)).toNat = b := by
    rw [BitVec.ofInt_natCast, BitVec.toNat_ofNat]; exact Nat.mod_eq_of_lt (by omega)
  show IntKind.u32.wrap ((BitVec.ofInt 32 (a : Int) &&& BitVec.ofInt 32 (b : Int)).toNat : Int) = _
  rw [BitVec.toNat_and, h1, h2, wrap_u32'']
  omega
theorem low_bit (a : Int) (h0 : 0 ≤ a) (h1 : a < 4294967296) : bits .and .u32 a 1 = a % 2 := by
  obtain ⟨n, rfl⟩ := Int.eq_ofNat_of_zero_le h0
  have h := and_nat n 1 (by omega) (by omega)
  rw [Nat.and_one_is_mod] at h
  simpa using h
theorem xor_bd (a b : Int) (h0 : 0 ≤ a) (h1 : a < 4294967296) (g0 : 0 ≤ b) (g1 : b < 4294967296) : 0 ≤ bits .xor .u32 a b ∧ bits .xor .u32 a b < 4294967296 := by
  obtain ⟨m, rfl⟩ := Int.eq_ofNat_of_zero_le h0
  obtain ⟨n, rfl⟩ := Int.eq_ofNat_of_zero_le g0
  rw [xor_nat m n (by omega) (by omega)]
  have : m ^^^ n < 2 ^ 32 := Nat.xor_lt_two_pow (by omega) (by omega)
  omega
theorem xor_left (a b c : Int) (h0 : 0 ≤ a) (h1 : a < 4294967296) (g0 : 0 ≤ b) (g1 : b < 4294967296) (k0 : 0 ≤ c) (k1 : c < 4294967296) (e : bits .xor .u32 a c = bits .xor .u32 b c) : a = b := by
  obtain ⟨m, rfl⟩ := Int.eq_ofNat_of_zero_le h0
  obtain ⟨n, rfl⟩ := Int.eq_ofNat_of_zero_le g0
  obtain ⟨k, rfl⟩ := Int.eq_ofNat_of_zero_le k0
  rw [xor_nat m k (by omega) (by omega), xor_nat n k (by omega) (by omega)] at e
  have e' : m ^^^ k = n ^^^ k := by omega
  have := congrArg (· ^^^ k) e'
  simp only [Nat.xor_assoc, Nat.xor_self, Nat.xor_zero] at this
  omega
theorem xor_right (a b c : Int) (h0 : 0 ≤ a) (h1 : a < 4294967296) (g0 : 0 ≤ b) (g1 : b < 4294967296) (k0 : 0 ≤ c) (k1 : c < 4294967296) (e : bits .xor .u32 c a = bits .xor .u32 c b) : a = b := by
  obtain ⟨m, rfl⟩ := Int.eq_ofNat_of_zero_le h0
  obtain ⟨n, rfl⟩ := Int.eq_ofNat_of_zero_le g0
  obtain ⟨k, rfl⟩ := Int.eq_ofNat_of_zero_le k0
  rw [xor_nat k m (by omega) (by omega), xor_nat k n (by omega) (by omega)] at e
  have e' : k ^^^ m = k ^^^ n := by omega
  have := congrArg (k ^^^ ·) e'
  simp only [← Nat.xor_assoc, Nat.xor_self, Nat.zero_xor] at this
  omega

/-- The register, shifted by one bit. -/
def stI (r : Int) : Int := if r % 2 = 1 then bits .xor .u32 (r / 2) 2197175160 else r / 2
theorem st_bd (r : Int) (h0 : 0 ≤ r) (h1 : r < 4294967296) : 0 ≤ stI r ∧ stI r < 4294967296 := by
  unfold stI
  split
  · exact xor_bd _ _ (by omega) (by omega) (by omega) (by omega)
  · omega
/-- The highest bit comes of the lowest one that went out. -/
theorem top_bit (a : Int) (h0 : 0 ≤ a) (h1 : a < 2147483648) : 2147483648 ≤ bits .xor .u32 a 2197175160 := by
  obtain ⟨m, rfl⟩ := Int.eq_ofNat_of_zero_le h0
  have e := xor_nat m 2197175160 (by omega) (by omega)
  have e' : bits .xor .u32 (m : Int) 2197175160 = ((m ^^^ 2197175160 : Nat) : Int) := e
  rw [e']
  have hb : (m ^^^ 2197175160).testBit 31 = true := by
    rw [Nat.testBit_xor, Nat.testBit_lt_two_pow (show m < 2 ^ 31 by omega)]
    decide
  have := Nat.ge_two_pow_of_testBit hb
  omega
theorem st_inj (a b : Int) (h0 : 0 ≤ a) (h1 : a < 4294967296) (g0 : 0 ≤ b) (g1 : b < 4294967296) (e : stI a = stI b) : a = b := by
  unfold stI at e
  split at e <;> split at e
  · have := xor_left _ _ _ (by omega) (by omega) (by omega) (by omega) (by omega) (by omega) e
    omega
  · have := top_bit (a / 2) (by omega) (by omega)
    omega
  · have := top_bit (b / 2) (by omega) (by omega)
    omega
  · omega

/-- Eight bits. -/
def byI (r : Int) : Int := stI (stI (stI (stI (stI (stI (stI (stI r)))))))
theorem by_bd (r : Int) (h0 : 0 ≤ r) (h1 : r < 4294967296) : 0 ≤ byI r ∧ byI r < 4294967296 := by
  have a := st_bd r h0 h1
  have b := st_bd _ a.1 a.2
  have c := st_bd _ b.1 b.2
  have d := st_bd _ c.1 c.2
  have e := st_bd _ d.1 d.2
  have f := st_bd _ e.1 e.2
  have g := st_bd _ f.1 f.2
  exact st_bd _ g.1 g.2
theorem by_inj (r s : Int) (h0 : 0 ≤ r) (h1 : r < 4294967296) (k0 : 0 ≤ s) (k1 : s < 4294967296) (e : byI r = byI s) : r = s := by
  have a := st_bd r h0 h1
  have b := st_bd _ a.1 a.2
  have c := st_bd _ b.1 b.2
  have d := st_bd _ c.1 c.2
  have e' := st_bd _ d.1 d.2
  have f := st_bd _ e'.1 e'.2
  have g := st_bd _ f.1 f.2
  have a2 := st_bd s k0 k1
  have b2 := st_bd _ a2.1 a2.2
  have c2 := st_bd _ b2.1 b2.2
  have d2 := st_bd _ c2.1 c2.2
  have e2 := st_bd _ d2.1 d2.2
  have f2 := st_bd _ e2.1 e2.2
  have g2 := st_bd _ f2.1 f2.2
  exact st_inj _ _ h0 h1 k0 k1 (st_inj _ _ a.1 a.2 a2.1 a2.2 (st_inj _ _ b.1 b.2 b2.1 b2.2 (st_inj _ _ c.1 c.2 c2.1 c2.2 (st_inj _ _ d.1 d.2 d2.1 d2.2 (st_inj _ _ e'.1 e'.2 e2.1 e2.2 (st_inj _ _ f.1 f.2 f2.1 f2.2 (st_inj _ _ g.1 g.2 g2.1 g2.2 e)))))))

/-- The register behind bytes. -/
def crI (l : List Int) (r : Int) : Int := l.foldl (fun r c => byI (bits .xor .u32 r c)) r
def Byt (l : List Int) : Prop := ∀ c ∈ l, 0 ≤ c ∧ c ≤ 255
theorem cr_bd (l : List Int) (hl : Byt l) : ∀ r, 0 ≤ r → r < 4294967296 → 0 ≤ crI l r ∧ crI l r < 4294967296 := by
  induction l with
  | nil => intro r h h'; exact ⟨h, h'⟩
  | cons c l ih =>
    intro r h h'
    have hc := hl c (List.mem_cons_self ..)
    have hx := xor_bd r c h h' hc.1 (by omega)
    have hb := by_bd _ hx.1 hx.2
    exact ih (fun x hx => hl x (List.mem_cons_of_mem _ hx)) _ hb.1 hb.2
theorem cr_inj (l : List Int) (hl : Byt l) : ∀ r s, 0 ≤ r → r < 4294967296 → 0 ≤ s → s < 4294967296 → crI l r = crI l s → r = s := by
  induction l with
  | nil => intro r s _ _ _ _ e; exact e
  | cons c l ih =>
    intro r s h h' k k' e
    have hc := hl c (List.mem_cons_self ..)
    have hx := xor_bd r c h h' hc.1 (by omega)
    have hy := xor_bd s c k k' hc.1 (by omega)
    have hb := by_bd _ hx.1 hx.2
    have hb' := by_bd _ hy.1 hy.2
    have e1 := ih (fun x hx => hl x (List.mem_cons_of_mem _ hx)) _ _ hb.1 hb.2 hb'.1 hb'.2 e
    have e2 := by_inj _ _ hx.1 hx.2 hy.1 hy.2 e1
    exact xor_left r s c h h' k k' hc.1 (by omega) e2
theorem cr_snoc (l : List Int) (c r : Int) : crI (l ++ [c]) r = byI (bits .xor .u32 (crI l r) c) := by unfold crI; rw [List.foldl_append]; rfl
theorem cr_app (l k : List Int) (r : Int) : crI (l ++ k) r = crI k (crI l r) := by unfold crI; rw [List.foldl_append]
/-- One byte that is another one makes another register. -/
theorem cr_turned (l k : List Int) (c d r : Int) (hl : Byt l) (hk : Byt k) (c0 : 0 ≤ c) (c1 : c ≤ 255) (d0 : 0 ≤ d) (d1 : d ≤ 255) (hcd : c ≠ d) (r0 : 0 ≤ r) (r1 : r < 4294967296) :
    crI (l ++ c :: k) r ≠ crI (l ++ d :: k) r := by
  intro e
  have hb := cr_bd l hl r r0 r1
  rw [cr_app, cr_app] at e
  generalize crI l r = s at hb e
  have hx := xor_bd s c hb.1 hb.2 c0 (by omega)
  have hy := xor_bd s d hb.1 hb.2 d0 (by omega)
  have hbx := by_bd _ hx.1 hx.2
  have hby := by_bd _ hy.1 hy.2
  have e' : crI k (byI (bits .xor .u32 s c)) = crI k (byI (bits .xor .u32 s d)) := e
  have e1 := cr_inj k hk _ _ hbx.1 hbx.2 hby.1 hby.2 e'
  have e2 := by_inj _ _ hx.1 hx.2 hy.1 hy.2 e1
  exact hcd (xor_right c d s c0 (by omega) d0 (by omega) hb.1 hb.2 e2)

end Go.Proofs.Ytlgkajellndhlaa
