/- Reading: signs, numbers of so many bytes. -/
import Derived.Test.YtlgkajellndhlaaAll
namespace Go.Proofs.Ytlgkajellndhlaa
open Go.RowKit
set_option linter.unusedVariables false
set_option linter.unusedSimpArgs false

/-- A number out of its bytes, the lowest first. -/
def leV : List Int → Int
  | [] => 0
  | c :: r => c + 256 * leV r
theorem or256 (a c : Int) (a0 : 0 ≤ a) (a1 : a < 72057594037927936) (c0 : 0 ≤ c) (c1 : c ≤ 255) : bits .or .u64 (a * 256) c = a * 256 + c := by
  obtain ⟨m, rfl⟩ := Int.eq_ofNat_of_zero_le a0
  obtain ⟨n, rfl⟩ := Int.eq_ofNat_of_zero_le c0
  have h := bits_or_u64_nat (m * 256) n (by omega) (by omega)
  have h2 := Nat.two_pow_add_eq_or_of_lt (i := 8) (b := n) (by omega) m
  rw [show m * 256 = 2 ^ 8 * m from by omega, ← h2] at h
  rw [show ((m : Int) * 256) = ((2 ^ 8 * m : Nat) : Int) by omega, h]
  omega
theorem or256z (c : Int) (c0 : 0 ≤ c) (c1 : c ≤ 255) : bits .or .u64 0 c = c := by
  have h := or256 0 c (by omega) (by omega) c0 c1
  simpa using h

set_option maxRecDepth 20000 in
set_option maxHeartbeats 2000000 in
theorem join4_any (b off cap : Nat) (z0 z1 z2 z3 : Int) (w : World) (R : BRow w b off [z0, z1, z2, z3]) (hcap : 4 ≤ (cap : Int)) :
    Calls Try.prog 45 #[.slice (some ⟨b, off, none⟩) 4 cap] w fun e w' => e = .returned (.int .u64 (z0 + 256 * (z1 + 256 * (z2 + 256 * z3)))) ∧ w' = w := by
  have h0 := R.byt z0 (by simp)
  have h1 := R.byt z1 (by simp)
  have h2 := R.byt z2 (by simp)
  have h3 := R.byt z3 (by simp)
  have c0 : w.cell? ⟨b, off, none⟩ = some (.int .u8 z0) := R.cell 0 (by simp)
  have c1 : w.cell? ⟨b, off + 1, none⟩ = some (.int .u8 z1) := R.cell 1 (by simp)
  have c2 : w.cell? ⟨b, off + 2, none⟩ = some (.int .u8 z2) := R.cell 2 (by simp)
  have c3 : w.cell? ⟨b, off + 3, none⟩ = some (.int .u8 z3) := R.cell 3 (by simp)
  have e3 := or256z z3 h3.1 h3.2
  have e2 := or256 z3 z2 h3.1 (by omega) h2.1 h2.2
  have e1 := or256 (z3 * 256 + z2) z1 (by omega) (by omega) h1.1 h1.2
  have e0 := or256 ((z3 * 256 + z2) * 256 + z1) z0 (by omega) (by omega) h0.1 h0.2
  clear R
  go_enter Try.func45, Try.ntmps45
  go_wp2
  go_ret
  exact ⟨ret_int (by omega), rfl⟩
end Go.Proofs.Ytlgkajellndhlaa
