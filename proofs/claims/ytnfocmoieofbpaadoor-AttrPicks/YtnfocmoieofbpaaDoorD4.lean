/- Attributes in new memory: lent, where there is one (where there is none: left). -/
import Derived.Test.YtnfocmoieofbpaaDoorD3
namespace Go.Proofs.YtnfocmoieofbpaaDoor
open Go.RowKit
set_option linter.unusedVariables false
set_option linter.unusedSimpArgs false

theorem atL_len : ∀ l : List At, (atL l).length = l.length * 2
  | [] => rfl
  | x :: l => by
    have := atL_len l
    simp only [atL, List.flatMap_cons, List.length_append, List.length_cons] at this ⊢
    rw [this]
    simp [at2]
    omega
theorem atL_at : ∀ (l : List At) (j : Nat) (u : Value), (atL l)[j]? = some u → ∃ i x, l[i]? = some x ∧ ((j = i * 2 ∧ u = .string (tx x.1)) ∨ (j = i * 2 + 1 ∧ u = .string (tx x.2)))
  | [], j, u, h => by simp [atL] at h
  | x :: l, 0, u, h => ⟨0, x, rfl, .inl ⟨rfl, by simpa [atL, at2] using h.symm⟩⟩
  | x :: l, 1, u, h => ⟨0, x, rfl, .inr ⟨rfl, by simpa [atL, at2] using h.symm⟩⟩
  | x :: l, j + 2, u, h => by
    have h' : (atL l)[j]? = some u := by simpa [atL, at2] using h
    obtain ⟨i, y, h1, h2⟩ := atL_at l j u h'
    exact ⟨i + 1, y, by simpa using h1, h2.imp (fun ⟨a, b⟩ => ⟨by omega, b⟩) (fun ⟨a, b⟩ => ⟨by omega, b⟩)⟩
set_option maxHeartbeats 4000000 in
theorem lent_some (sa : Option Addr) (ca : Nat) (l : List At) (w : World) (hl : Ats w sa ca l) (h1 : (l.length + 1 : Int) * 32 ≤ 140737488355328) (hne : l ≠ []) :
    Calls Tryd.prog 6 #[.slice sa l.length ca] w fun e w' => (∃ v, e = .returned v ∧ w'.ownsRow w.heap.size 45 2 v l.length (atL l)) ∧ Below w.heap.size w w' := by
  obtain ⟨i0, hi, hz0, hz1, hz2⟩ := info_parts info45
  cases hcl : l with
  | nil => exact (hne hcl).elim
  | cons x r =>
    rw [← hcl]
    obtain ⟨b, o, hsa, _, _⟩ := hl.cells 0 x (by rw [hcl]; rfl)
    have h0 : 0 < l.length := by rw [hcl]; simp
    have HN : Hid (∀ j u, (atL l)[j]? = some u → w.cell? ((⟨b, o, none⟩ : Addr).add j) = some u) := by
      intro j u hu
      obtain ⟨i, y, g1, g2⟩ := atL_at l j u hu
      obtain ⟨b', o', e1, e2, e3⟩ := hl.cells i y g1
      rw [hsa] at e1
      cases e1
      rw [Addr.add_mid]
      rcases g2 with ⟨rfl, rfl⟩ | ⟨rfl, rfl⟩
      · exact e2
      · rw [← Nat.add_assoc]; exact e3
    subst hsa
    have HAL : Hid ((atL l).length = l.length * 2) := atL_len l
    have HON : Hid (∀ u ∈ atL l, u.oneCell' = true) := by
      intro u hu
      obtain ⟨j, hj⟩ := List.getElem?_of_mem hu
      obtain ⟨i, y, _, g2⟩ := atL_at l j u hj
      rcases g2 with ⟨_, rfl⟩ | ⟨_, rfl⟩ <;> rfl
    clear hcl hl
    go_enter Tryd.func6, Tryd.ntmps6
    go_wp2_with (at_builtin; (refine wpList_append_lies _ rfl (.tmp 4) (.tmp 5) 22 rfl w.heap.size 45 i0 (.agg #[.string ⟨#[]⟩, .string ⟨#[]⟩]) 2 32 Tryd.underlying22 hi hz0 hz1 hz2 rfl (by decide) (.slice none 0 0) 0 [] rfl (World.ownsRow_nil _ _ _ _) ⟨b, o, none⟩ l.length ca (atL l) rfl HAL.out HN.out HON.out h0 (by unfold maxLen; omega) (by omega) (Nat.le_refl _) w.heap.size rfl ?_; intro g9 c9 w9 ho9 hg9 _ _; (have HO9 : Hid (w9.ownsRow w.heap.size 45 2 (.slice (some ⟨g9, 0, none⟩) (0 + l.length) c9) (0 + l.length) ([] ++ atL l) ∧ w.grownBy w9 none) := ⟨ho9, hg9⟩); clear ho9 hg9))
    go_ret
    have hg := HO9.out.2
    have ho := HO9.out.1
    rw [Nat.zero_add, List.nil_append] at ho
    exact ⟨⟨_, by first | rfl | (simp only [Nat.zero_add]; rfl), ho⟩, ⟨hg.os, hg.tape, hg.output, hg.size, fun q hq => hg.block q hq (by simp)⟩⟩
end Go.Proofs.YtnfocmoieofbpaaDoor
