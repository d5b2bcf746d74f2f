/- Attributes made a set: the model's. -/
import Derived.Test.YtgmpmpgfpchbcaaGreatDoorM0
namespace Go.Proofs.YtgmpmpgfpchbcaaGreatDoor
open Go.RowKit
set_option linter.unusedVariables false
set_option linter.unusedSimpArgs false

theorem make_bad (l : List At) (k : Nat) (x : At) (h16 : ¬ 16 < l.length) (hx : l[k]? = some x) (h : ∀ j x, j < k → l[j]? = some x → raI x = 0) (hb : raI x ≠ 0) : makeI l = ([], raI x) := by
  have e := bad_at l k x hx h hb
  unfold makeI
  rw [if_neg h16, e, if_neg hb]
theorem make_good (l : List At) (h16 : ¬ 16 < l.length) (h : ∀ j x, j < l.length → l[j]? = some x → raI x = 0) : makeI l = if twI (srtI l) = true then ([], 6) else (srtI l, 0) := by
  unfold makeI
  rw [if_neg h16, bad_end l h, if_pos rfl]
theorem Lie.later {w w' : World} {sa : Option Addr} {m : List At} (h : Lie w sa m) (hk : ∀ b off, sa = some ⟨b, off, none⟩ → m ≠ [] → w'.heap[b]? = w.heap[b]?) : Lie w' sa m := by
  intro i x hx
  obtain ⟨b, off, h1, h2, h3⟩ := h i x hx
  have := hk b off h1 (fun e => by rw [e] at hx; simp at hx)
  exact ⟨b, off, h1, (World.cell?_of_block (a := ⟨b, off + i * 2, none⟩) this).trans h2, (World.cell?_of_block (a := ⟨b, off + i * 2 + 1, none⟩) this).trans h3⟩
theorem Lie.take {w : World} {sa : Option Addr} {m : List At} (h : Lie w sa m) (q : Nat) : Lie w sa (m.take q) := by
  intro i x hx
  rw [List.getElem?_take] at hx
  by_cases c : i < q
  · rw [if_pos c] at hx; exact h i x hx
  · rw [if_neg c] at hx; cases hx
theorem Lie.drop {w : World} {sa sb : Option Addr} {m : List At} (h : Lie w sa m) (q : Nat) (hs : ∀ b off, sa = some ⟨b, off, none⟩ → q < m.length → sb = some ⟨b, off + q * 2, none⟩) : Lie w sb (m.drop q) := by
  intro i x hx
  rw [List.getElem?_drop] at hx
  obtain ⟨b, off, h1, h2, h3⟩ := h (q + i) x hx
  have hl : q + i < m.length := (List.getElem?_eq_some_iff.1 hx).1
  refine ⟨b, off + q * 2, hs b off h1 (by omega), ?_, ?_⟩
  · rw [show off + q * 2 + i * 2 = off + (q + i) * 2 by omega]; exact h2
  · rw [show off + q * 2 + i * 2 = off + (q + i) * 2 by omega]; exact h3
theorem atL_cons (x : At) (l : List At) : atL (x :: l) = at2 x ++ atL l := by simp [atL]
theorem make_round {w w9 : World} {l out : List At} {x : At} {k q B : Nat} {v9 : Value} (h : w9.ownsRow B 44 2 v9 (q + 1 + (k - q)) ([] ++ atL (out.take q) ++ at2 x ++ atL (out.drop q))) (hq : q ≤ k) (hins : srtI (l.take (k + 1)) = insI out x) (hlen : out.length = k) (hbk : bkI out x k = q) (hb : w.heap.size ≤ B) : w9.ownsRow w.heap.size 44 2 v9 (k + 1) (atL (srtI (l.take (k + 1)))) := by
  have e : atL (srtI (l.take (k + 1))) = [] ++ atL (out.take q) ++ at2 x ++ atL (out.drop q) := by
    rw [hins]
    unfold insI
    rw [hlen, hbk, atL_app, atL_cons, List.nil_append, List.append_assoc]
  rw [e, show k + 1 = q + 1 + (k - q) by omega]
  exact own_low h hb
theorem grown3 {w V w7 w8 w9 : World} {v7 v8 : Value} (h0 : Below w.heap.size w V) (g1 : V.grownBy w7 (Value.slice none 0 0).ownBlock) (g2 : w7.grownBy w8 v7.ownBlock) (g3 : w8.grownBy w9 v8.ownBlock) (o7 : ∀ g, v7.ownBlock = some g → V.heap.size ≤ g) (o8 : ∀ g, v8.ownBlock = some g → V.heap.size ≤ g) : Below w.heap.size w w9 := by
  have hs := h0.size
  have e1 := g1.size
  have e2 := g2.size
  refine h0.trans ⟨g3.os.trans (g2.os.trans g1.os), g3.tape.trans (g2.tape.trans g1.tape), g3.output.trans (g2.output.trans g1.output), Nat.le_trans e1 (Nat.le_trans e2 g3.size), fun q hq => ?_⟩
  rw [g3.block q (by omega) (fun e => by have := o8 q e.symm; omega), g2.block q (by omega) (fun e => by have := o7 q e.symm; omega), g1.block q (by omega) (by simp [Value.ownBlock])]
theorem lie_grown {V w7 w8 : World} {v7 : Value} {so : Option Addr} {out : List At} {n : Nat} {xs : List Value} (h : Lie V so out) (g1 : V.grownBy w7 (Value.slice none 0 0).ownBlock) (g2 : w7.grownBy w8 v7.ownBlock) (o7 : w7.ownsRow V.heap.size 44 2 v7 n xs) : Lie w8 so out := by
  intro i x hx
  obtain ⟨b, off, h1, h2, h3⟩ := h i x hx
  have hb : b < V.heap.size := World.block_lt_of_cell? V _ h2
  have e : w8.heap[b]? = V.heap[b]? := by
    rw [g2.block b (by have := g1.size; omega) (fun e => by have := (o7.lt b e.symm).1; omega), g1.block b hb (by simp [Value.ownBlock])]
  exact ⟨b, off, h1, (World.cell?_of_block (a := ⟨b, off + i * 2, none⟩) e).trans h2, (World.cell?_of_block (a := ⟨b, off + i * 2 + 1, none⟩) e).trans h3⟩
theorem nil_or (l : List At) : l = [] ∨ ∃ z, l[0]? = some z := by
  cases l with
  | nil => exact .inl rfl
  | cons a r => exact .inr ⟨a, rfl⟩
theorem klt_asym {x y : At} (h : klt x y = true) : Op.bytesLess y.1 x.1 = false := by
  rw [klt_eq] at h
  rw [bytesLess_eq]
  exact decide_eq_false (fun g => List.lt_irrefl _ (List.lt_trans (of_decide_eq_true h) g))
theorem klt_neb {x y : At} (h : klt x y = true) : (y.1 == x.1) = false := by
  rw [klt_eq] at h
  rw [beq_eq_false_iff_ne]
  intro e
  have := of_decide_eq_true h
  rw [e] at this
  exact List.lt_irrefl _ this
theorem klt_else {x y : At} (h : klt x y = false) : Op.bytesLess y.1 x.1 = true ∨ (Op.bytesLess y.1 x.1 = false ∧ (y.1 == x.1) = true) := by
  rw [klt_eq] at h
  have h := of_decide_eq_false h
  rw [bytesLess_eq]
  rcases lt_or y.1 x.1 with g | g | g
  · exact .inl (decide_eq_true g)
  · exact .inr ⟨decide_eq_false (by rw [g]; exact List.lt_irrefl _), by rw [g]; simp⟩
  · exact (h g).elim
end Go.Proofs.YtgmpmpgfpchbcaaGreatDoor
