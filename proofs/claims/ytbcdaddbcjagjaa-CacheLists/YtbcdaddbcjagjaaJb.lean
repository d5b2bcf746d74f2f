/- Plain: where a key stands; all but one. -/
import Derived.Test.YtbcdaddbcjagjaaJa
namespace Go.Proofs.Ytbcdaddbcjagjaa.I
open Go.RowKit
set_option linter.unusedVariables false
set_option linter.unusedSimpArgs false

/-- All but the one at a place. -/
def cp (z : Int) : List Int → Nat → List Int
  | [], _ => []
  | x :: r, i => if (i : Int) = z then cp z r (i + 1) else x :: cp z r (i + 1)
theorem cp_neg {z : Int} (hz : z < 0) : ∀ (l : List Int) (i : Nat), cp z l i = l
  | [], i => rfl
  | x :: r, i => by rw [cp, if_neg (by omega), cp_neg hz r (i + 1)]
theorem cp_past {z : Int} : ∀ (l : List Int) (i : Nat), z < (i : Int) → cp z l i = l
  | [], i, h => rfl
  | x :: r, i, h => by rw [cp, if_neg (by omega), cp_past r (i + 1) (by omega)]
theorem cp_app (z : Int) : ∀ (a b : List Int) (i : Nat), cp z (a ++ b) i = cp z a i ++ cp z b (i + a.length)
  | [], b, i => by simp [cp]
  | x :: r, b, i => by
    rw [List.cons_append, cp, cp, cp_app z r b (i + 1), List.length_cons, show i + 1 + r.length = i + (r.length + 1) by omega]
    split <;> rfl
theorem cp_step (z : Int) {l : List Int} {j : Nat} {x : Int} (h : l[j]? = some x) : cp z (l.take (j + 1)) 0 = cp z (l.take j) 0 ++ (if (j : Int) = z then [] else [x]) := by
  have hlt := (List.getElem?_eq_some_iff.1 h).1
  rw [List.take_add_one, h, cp_app]
  simp only [Option.toList_some, cp, List.length_take, Nat.min_eq_left (Nat.le_of_lt hlt), Nat.zero_add]
/-- Where a key was met. -/
def AtZ (k : Int) (ks : List Int) (j : Nat) (z : Int) : Prop := (z = -1 ∧ ∀ (i : Nat) (x : Int), i < j → ks[i]? = some x → x ≠ k) ∨ ∃ a : Nat, z = (a : Int) ∧ a < j ∧ ks[a]? = some k
theorem AtZ.zero (k : Int) (ks : List Int) : AtZ k ks 0 (-1) := .inl ⟨rfl, fun i x h => by omega⟩
theorem AtZ.hit {k : Int} {ks : List Int} {j : Nat} (h : ks[j]? = some k) : AtZ k ks (j + 1) (j : Int) := .inr ⟨j, rfl, by omega, h⟩
theorem AtZ.pass {k x : Int} {ks : List Int} {j : Nat} {z : Int} (h : AtZ k ks j z) (hx : ks[j]? = some x) (hne : x ≠ k) : AtZ k ks (j + 1) z := by
  rcases h with ⟨h1, h2⟩ | ⟨a, h1, h2, h3⟩
  · refine .inl ⟨h1, fun i y hi hy => ?_⟩
    rcases Nat.lt_or_ge i j with c | c
    · exact h2 i y c hy
    · obtain rfl : i = j := by omega
      rw [hx] at hy
      rw [← Option.some.inj hy]
      exact hne
  · exact .inr ⟨a, h1, by omega, h3⟩
theorem cp_out {f : It → Int} {k : Int} : ∀ (es : List It) (a i : Nat) (x : It), es[a]? = some x → x.key = k → (∀ (b : Nat) (y : It), b < a → es[b]? = some y → y.key ≠ k) → cp ((i + a : Nat) : Int) (es.map f) i = (outE k es).map f
  | [], a, i, x, h, _, _ => by simp at h
  | y :: r, 0, i, x, h, hk, _ => by
    have e : y = x := by simpa using h
    subst e
    rw [List.map_cons, cp, if_pos (by simp), cp_past _ _ (by omega), outE, if_pos hk.symm]
  | y :: r, a + 1, i, x, h, hk, hb => by
    have hy : k ≠ y.key := fun e => hb 0 y (by omega) rfl e.symm
    rw [List.map_cons, cp, if_neg (by omega), show i + (a + 1) = (i + 1) + a by omega, cp_out r a (i + 1) x (by simpa using h) hk (fun b z hb' hz => hb (b + 1) z (by omega) (by simpa using hz)), outE, if_neg hy, List.map_cons]
/-- What was met, against the list. -/
theorem AtZ.fin {k : Int} {es : List It} (hn : (es.map It.key).Nodup) {z : Int} {n : Nat} (hlen : n = es.length) (h : AtZ k (es.map It.key) n z) : (z = -1 ∧ lkE k es = none) ∨ ∃ (a : Nat) (x : It), z = (a : Int) ∧ es[a]? = some x ∧ x.key = k ∧ lkE k es = some x ∧ ∀ f : It → Int, cp z (es.map f) 0 = (outE k es).map f := by
  rcases h with ⟨h1, h2⟩ | ⟨a, h1, h2, h3⟩
  · refine .inl ⟨h1, lkE_none.2 fun hm => ?_⟩
    obtain ⟨i, hi⟩ := List.getElem?_of_mem hm
    exact h2 i k (by have := (List.getElem?_eq_some_iff.1 hi).1; simp at this; omega) hi rfl
  · rw [List.getElem?_map] at h3
    obtain ⟨x, hx, hxk⟩ := Option.map_eq_some_iff.1 h3
    have hbefore : ∀ (b : Nat) (y : It), b < a → es[b]? = some y → y.key ≠ k := fun b y hb hy e => by
      have e1 : (es.map It.key)[b]? = some k := by rw [List.getElem?_map, hy]; simp [e]
      have e2 : (es.map It.key)[a]? = some k := by rw [List.getElem?_map, hx]; simp [hxk]
      have := List.getElem_inj (i := b) (j := a) (h₀ := (List.getElem?_eq_some_iff.1 e1).1) (h₁ := (List.getElem?_eq_some_iff.1 e2).1) hn |>.1 (by rw [(List.getElem?_eq_some_iff.1 e1).2, (List.getElem?_eq_some_iff.1 e2).2])
      omega
    have hsp : es = es.take a ++ x :: es.drop (a + 1) := by
      rw [← (List.getElem?_eq_some_iff.1 hx).2, List.getElem_cons_drop, List.take_append_drop]
    refine .inr ⟨a, x, h1, hx, hxk, ?_, fun f => ?_⟩
    · rw [hsp, ← hxk]
      refine (lkE_mid fun y hy e => ?_).1
      obtain ⟨i, hi⟩ := List.getElem?_of_mem hy
      rw [List.getElem?_take] at hi
      split at hi
      · rename_i hia
        exact hbefore i y hia hi (e.symm.trans hxk)
      · cases hi
    · rw [h1]
      have := cp_out (f := f) (k := k) es a 0 x hx hxk hbefore
      rwa [Nat.zero_add] at this
end Go.Proofs.Ytbcdaddbcjagjaa.I
