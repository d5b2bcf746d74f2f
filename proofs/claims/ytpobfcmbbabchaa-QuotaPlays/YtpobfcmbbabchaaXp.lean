/- Plain arithmetic under the statements of layer fixed: saturating numbers, products and quotients of sizes; no program in sight. -/
namespace Go.Proofs.Ytpobfcmbbabchaa

/-- A number as the layer takes it. -/
def nrm (a : Int) : Int := if a < -9223372036854775807 then -9223372036854775807 else a
/-- A number held within the bounds. -/
def sat (x : Int) : Int := if 9223372036854775807 < x then 9223372036854775807 else if x < -9223372036854775807 then -9223372036854775807 else x
def adI (a b : Int) : Int := sat (nrm a + nrm b)
/-- A size with its sign, held within the bounds. -/
def sgI (m : Bool) (n : Nat) : Int := if m then -((min n 9223372036854775807 : Nat) : Int) else ((min n 9223372036854775807 : Nat) : Int)
/-- The size of a number. -/
def szI (a : Int) : Nat := (nrm a).natAbs
def muI (a b : Int) : Int := sgI (decide (a < 0) != decide (b < 0)) (szI a * szI b / 1000000)
def diI (a b : Int) : Int := sgI (decide (a < 0) != decide (b < 0)) (szI a * 1000000 / szI b)
/-- A list, summed from the left. -/
def sumI (l : List Int) : Int := l.foldl adI 0

/-- In the range of 64 bits. -/
def I64 (a : Int) : Prop := -9223372036854775808 ≤ a ∧ a ≤ 9223372036854775807

theorem nrm_lo (a : Int) : -9223372036854775807 ≤ nrm a := by unfold nrm; split <;> omega
theorem nrm_hi (a : Int) (h : a ≤ 9223372036854775807) : nrm a ≤ 9223372036854775807 := by unfold nrm; split <;> omega
theorem nrm_of (a : Int) (h : -9223372036854775807 ≤ a) : nrm a = a := by unfold nrm; split <;> omega
theorem nrm_neg (a : Int) : nrm a < 0 ↔ a < 0 := by unfold nrm; split <;> omega
theorem nrm_zero (a : Int) : nrm a = 0 ↔ a = 0 := by unfold nrm; split <;> omega
theorem sat_lo (a : Int) : -9223372036854775807 ≤ sat a := by unfold sat; split <;> (try split) <;> omega
theorem sat_hi (a : Int) : sat a ≤ 9223372036854775807 := by unfold sat; split <;> (try split) <;> omega
theorem sat_of (a : Int) (h : -9223372036854775807 ≤ a) (h' : a ≤ 9223372036854775807) : sat a = a := by unfold sat; split <;> (try split) <;> omega
theorem ad_lo (a b : Int) : -9223372036854775807 ≤ adI a b := sat_lo _
theorem ad_hi (a b : Int) : adI a b ≤ 9223372036854775807 := sat_hi _
theorem ad_comm (a b : Int) : adI a b = adI b a := by unfold adI; rw [Int.add_comm]
theorem sz_eq (a : Int) : (szI a : Int) = if nrm a < 0 then -nrm a else nrm a := by unfold szI; split <;> omega
theorem sz_hi (a : Int) (h : a ≤ 9223372036854775807) : szI a ≤ 9223372036854775807 := by
  have h1 := nrm_lo a; have h2 := nrm_hi a h; unfold szI; omega
theorem sz_pos (a : Int) (h : a ≠ 0) : 0 < szI a := by
  have := nrm_zero a; unfold szI; omega
theorem sg_lo (m : Bool) (n : Nat) : -9223372036854775807 ≤ sgI m n := by unfold sgI; split <;> omega
theorem sg_hi (m : Bool) (n : Nat) : sgI m n ≤ 9223372036854775807 := by unfold sgI; split <;> omega
theorem sum_snoc (l : List Int) (a : Int) : sumI (l ++ [a]) = adI (sumI l) a := by unfold sumI; rw [List.foldl_append]; rfl
theorem sum_nil : sumI [] = 0 := rfl
theorem fold_bd (l : List Int) : ∀ s : Int, -9223372036854775807 ≤ s → s ≤ 9223372036854775807 → -9223372036854775807 ≤ l.foldl adI s ∧ l.foldl adI s ≤ 9223372036854775807 := by
  induction l with
  | nil => intro s h h'; exact ⟨h, h'⟩
  | cons a l ih => intro s _ _; exact ih _ (ad_lo _ _) (ad_hi _ _)
theorem sum_bd (l : List Int) : -9223372036854775807 ≤ sumI l ∧ sumI l ≤ 9223372036854775807 := fold_bd l 0 (by omega) (by omega)

end Go.Proofs.Ytpobfcmbbabchaa
