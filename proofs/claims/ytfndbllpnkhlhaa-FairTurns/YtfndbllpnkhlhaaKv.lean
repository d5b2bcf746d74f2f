/- Whose job is served: the fold over the rows is what the plain scheduler says. -/
import Derived.Test.YtfndbllpnkhlhaaKu
namespace Go.Proofs.Ytfndbllpnkhlhaa
open Go.RowKit
set_option linter.unusedVariables false
set_option linter.unusedSimpArgs false

/-- The fold so far, and the plain one. -/
def Crel (M : List Rw) (clk : Int) (c : Int × Option Rw) (a : Option (Nat × Int)) : Prop :=
  (c = (clk, none) ∧ a = none) ∨ ∃ (r : Rw) (k : Nat) (x : Wk) (l : List Wk), c = (x.start, some r) ∧ a = some (k, x.start) ∧ M[k]? = some r ∧ r.t.ws = x :: l
theorem cho_nxt (M : List Rw) (clk : Int) : ∀ (m : List Rw) (i : Nat) (c : Int × Option Rw) (a : Option (Nat × Int)), (∀ j, m[j]? = M[i + j]?) → Crel M clk c a → Crel M clk (m.foldl cho c) (nxt (tns m) i a)
  | [], i, c, a, _, h => h
  | r :: m, i, c, a, hm, h => by
    have h0 : M[i]? = some r := by have := hm 0; simpa using this.symm
    have hm' : ∀ j, m[j]? = M[i + 1 + j]? := fun j => by
      have := hm (j + 1)
      rw [List.getElem?_cons_succ] at this
      rw [this]
      congr 1
      omega
    show Crel M clk (m.foldl cho (cho c r)) (nxt (r.t :: tns m) i a)
    unfold nxt
    refine cho_nxt M clk m (i + 1) (cho c r) _ hm' ?_
    cases hws : r.t.ws with
    | nil =>
      have e : cho c r = c := by simp [cho, hws]
      rw [e]
      exact h
    | cons y ys =>
      rcases h with ⟨rfl, rfl⟩ | ⟨r0, k, x, l, rfl, rfl, hk, hx⟩
      · have e : cho (clk, none) r = (y.start, some r) := by simp [cho, hws]
        rw [e]
        exact .inr ⟨r, i, y, ys, rfl, rfl, h0, hws⟩
      · by_cases hlt : y.start < x.start
        · have e : cho (x.start, some r0) r = (y.start, some r) := by simp [cho, hws, hlt]
          rw [e]
          simp only [hlt, if_true]
          exact .inr ⟨r, i, y, ys, rfl, rfl, h0, hws⟩
        · have e : cho (x.start, some r0) r = (x.start, some r0) := by
            unfold cho
            rw [hws]
            simp only [hlt, if_false]
          rw [e]
          simp only [hlt, if_false]
          exact .inr ⟨r0, k, x, l, rfl, rfl, hk, hx⟩
theorem cho_all (m : List Rw) (clk : Int) : Crel m clk (m.foldl cho (clk, none)) (nxt (tns m) 0 none) :=
  cho_nxt m clk m 0 _ _ (fun j => by rw [Nat.zero_add]) (.inl ⟨rfl, rfl⟩)
theorem left_sum : ∀ m : List Rw, (m.map fun r => (r.t.ws.length : Int)).sum = (leftS (tns m) : Int)
  | [] => rfl
  | r :: m => by
    have h := left_sum m
    show ((r.t.ws.length : Int) + (m.map fun r => (r.t.ws.length : Int)).sum) = ((r.t.ws.length + leftS (tns m) : Nat) : Int)
    rw [h]
    omega
end Go.Proofs.Ytfndbllpnkhlhaa
