/- Attributes in new memory: lent, where there is one (where there is none: left). -/
import Derived.Test.YtgmpmpgfpchbcaaGreatDoorD2
namespace Go.Proofs.YtgmpmpgfpchbcaaGreatDoor
open Go.RowKit
set_option linter.unusedVariables false
set_option linter.unusedSimpArgs false

theorem atL_len : ∀ l : List At, (atL l).length = l.length * 2
  | [] => rfl
  | x :: l => by
    have := atL_len l
    simp only [atL, List.flatMap_cons, List.length_append, List.length_cons] at this ⊢
    rw [this]
    simp [at2]
    omega
theorem atL_at : ∀ (l : List At) (j : Nat) (u : Value), (atL l)[j]? = some u → ∃ i x, l[i]? = some x ∧ ((j = i * 2 ∧ u = .string (tx x.1)) ∨ (j = i * 2 + 1 ∧ u = .string (tx x.2)))
  | [], j, u, h => by simp [atL] at h
  | x :: l, 0, u, h => ⟨0, x, rfl, .inl ⟨rfl, by simpa [atL, at2] using h.symm⟩⟩
  | x :: l, 1, u, h => ⟨0, x, rfl, .inr ⟨rfl, by simpa [atL, at2] using h.symm⟩⟩
  | x :: l, j + 2, u, h => by
    have h' : (atL l)[j]? = some u := by simpa [atL, at2] using h
    obtain ⟨i, y, h1, h2⟩ := atL_at l j u h'
    exact ⟨i + 1, y, by simpa using h1, h2.imp (fun ⟨a, b⟩ => ⟨by omega, b⟩) (fun ⟨a, b⟩ => ⟨by omega, b⟩)⟩
end Go.Proofs.YtgmpmpgfpchbcaaGreatDoor
