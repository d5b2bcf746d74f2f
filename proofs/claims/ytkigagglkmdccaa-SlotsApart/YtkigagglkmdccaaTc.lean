/- A table of fixed turns: Turn, untilTurn. -/
import Derived.Test.YtkigagglkmdccaaTb
namespace Go.Proofs.Ytkigagglkmdccaa
open Go.RowKit
set_option linter.unusedVariables false
set_option linter.unusedSimpArgs false

/-- Whose turn a slot is. -/
def turnF (x : Fx) (k : Nat) : List UInt8 := x.ns.getD (k % x.ns.length) []
theorem tmod_nat (k n : Nat) : Int.tmod (k : Int) (n : Int) = ((k % n : Nat) : Int) := by
  rw [Int.tmod_eq_emod_of_nonneg (by omega)]
  exact (Int.natCast_emod k n).symm
set_option maxRecDepth 20000 in
set_option maxHeartbeats 4000000 in
theorem turn_any {w : World} {T : Nat} {a : Pa} {x : Fx} (h : TR w T a x) (k : Nat) (hk : x.slot = k) (hl : x.ns.length ≤ 16) : Calls Try.prog 18 #[.pointer (some ⟨T, 0, none⟩)] w fun e w' => e = .returned (.string (tx (turnF x k))) ∧ Below w.heap.size w w' := by
  obtain ⟨c0, c1, c2, -, -⟩ := h.cells
  rw [hk] at c1
  by_cases hz : x.ns.length = 0
  · obtain ⟨sa, cap, hsl⟩ := own_slice h.names
    rw [hsl, hz] at c2
    have HT : Hid (turnF x k = []) := by
      show _ = _
      have : x.ns = [] := List.eq_nil_of_length_eq_zero hz
      simp [turnF, this]
    clear h hsl
    rw [HT.out]
    go_enter Try.func18, Try.ntmps18
    go_wp2
    go_ret
    exact ⟨rfl, Below.refl _ _⟩
  · obtain ⟨g, cap, hsl⟩ := own_form h.names (by omega)
    rw [hsl] at c2
    have hlt : k % x.ns.length < x.ns.length := Nat.mod_lt _ (by omega)
    have hget : x.ns[k % x.ns.length]? = some (turnF x k) := by
      unfold turnF
      rw [List.getD_eq_getElem?_getD, List.getElem?_eq_getElem hlt]
      rfl
    have hcell : w.cell? ⟨g, k % x.ns.length, none⟩ = some (.string (tx (turnF x k))) := by
      have hr := h.names
      rw [hsl] at hr
      exact Strs.cell hr hget
    clear h hsl hget
    have hmod := tmod_nat k x.ns.length
    generalize turnF x k = tn at hcell ⊢
    generalize x.ns.length = n at *
    generalize k % n = i at *
    have hn0 : ¬ (n : Int) = 0 := by omega
    go_enter Try.func18, Try.ntmps18
    go_wp2_with fail
    go_quiet (fail)
    go_wp2_with fail
    go_ret
    exact ⟨rfl, belN (Below.refl _ w) _⟩
/-- How many slots pass until the tenant at a place has had so many turns. -/
def untilI (n k at' : Nat) (turns : Int) : Int := ((at' + n - k % n) % n : Nat) + (turns - 1) * n + 1
set_option maxRecDepth 20000 in
set_option maxHeartbeats 4000000 in
theorem until_any {w : World} {T : Nat} {a : Pa} {x : Fx} (h : TR w T a x) (k i : Nat) (turns : Int) (hk : x.slot = k) (hl : x.ns.length ≤ 16) (hi : i < x.ns.length) (ht : 1 ≤ turns ∧ turns ≤ 100000) : Calls Try.prog 45 #[.pointer (some ⟨T, 0, none⟩), .int .i64 i, .int .i64 turns] w fun e w' => e = .returned (.int .i64 (untilI x.ns.length k i turns)) ∧ Below w.heap.size w w' := by
  obtain ⟨c0, c1, c2, -, -⟩ := h.cells
  rw [hk] at c1
  obtain ⟨sa, cap, hsl⟩ := own_slice h.names
  rw [hsl] at c2
  clear h hsl
  generalize x.ns.length = n at *
  have hmod := tmod_nat k n
  have hlt : k % n < n := Nat.mod_lt _ (by omega)
  obtain ⟨m, hm⟩ : ∃ m, k % n = m := ⟨_, rfl⟩
  rw [hm] at hmod hlt
  have e1 : ((i : Int) - m + n).tmod n = ((i + n - m) % n : Nat) := by
    rw [show (i : Int) - m + n = ((i + n - m : Nat) : Int) by omega]
    exact tmod_nat _ _
  have hlt2 : (i + n - m) % n < n := Nat.mod_lt _ (by omega)
  unfold untilI
  rw [hm]
  generalize (i + n - m) % n = f at *
  obtain ⟨t1, t2⟩ := ht
  have hp0 : 0 ≤ (turns - 1) * n := Int.mul_nonneg (by omega) (by omega)
  have hp1 : (turns - 1) * n ≤ 1600000 := by
    have : (turns - 1) * n ≤ 100000 * 16 := Int.mul_le_mul (by omega) (by omega) (by omega) (by omega)
    omega
  have hn0 : ¬ (n : Int) = 0 := by omega
  go_enter Try.func45, Try.ntmps45
  go_wp2_with fail
  go_ret
  exact ⟨rfl, Below.refl _ _⟩
end Go.Proofs.Ytkigagglkmdccaa
