/- Attributes appended, none among them. -/
import Derived.Test.YtgmpmpgfpchbcaaGreatDoorV1
import Derived.Laws.OwnMore
namespace Go.Proofs.YtgmpmpgfpchbcaaGreatDoor
open Go.RowKit
set_option linter.unusedVariables false
set_option linter.unusedSimpArgs false

/-- Attributes at an address, as they lie. -/
def Lie (w : World) (sa : Option Addr) (m : List At) : Prop := ∀ i x, m[i]? = some x → ∃ b off, sa = some ⟨b, off, none⟩ ∧ w.cell? ⟨b, off + i * 2, none⟩ = some (.string (tx x.1)) ∧ w.cell? ⟨b, off + i * 2 + 1, none⟩ = some (.string (tx x.2))
theorem Ats.lie {W : World} {sa : Option Addr} {cap : Nat} {l : List At} (h : Ats W sa cap l) : Lie W sa l := h.cells
theorem run_append_none22 (w : World) (ty : TypeId) (v : Value) (base n : Nat) (xs : List Value) (hown : w.ownsRow base 44 2 v n xs) (sa : Option Addr) (c : Nat) : (Builtin.append_ #[22, 22] ty #[v, .slice sa 0 c]).run Tryz.prog w = .ok v w := by
  obtain ⟨i0, hi, hz0, hz1, hz2⟩ := info_parts info44
  rcases hown.2 with ⟨rfl, rfl⟩ | ⟨g, cap, cur, rfl, _, _, hnc, _⟩
  · cases sa <;> simp [Builtin.append_, run_underlying Tryz.underlying22, sizeOf, typeInfo, hi, Builtin.lenOf, Builtin.firstCells, loadCells, loadCellsFrom, storeCells]
  · cases sa <;> simp [Builtin.append_, run_underlying Tryz.underlying22, sizeOf, typeInfo, hi, Builtin.lenOf, Builtin.firstCells, hnc, loadCells, loadCellsFrom, storeCells]
theorem atL_one (l : List At) : ∀ u ∈ atL l, u.oneCell' = true := by
  intro u hu
  obtain ⟨j, hj⟩ := List.getElem?_of_mem hu
  obtain ⟨i, y, _, g2⟩ := atL_at l j u hj
  rcases g2 with ⟨_, rfl⟩ | ⟨_, rfl⟩ <;> rfl
/-- Attributes more, or none. -/
theorem wpList_append_ats {w : World} {ops : Array Oper} {rest : List Oper} {o : Oper} {a : Act} {Q : Exit → Act → World → Prop} (hgd : o.guard = none) (s x : Operand)
    (ho : o.op = .call { callee := .builtin .append, args := #[s, x], argTypes := #[22, 22] }) (base : Nat) (v : Value) (n : Nat) (xs : List Value) (hs : a.eval s = v) (hown : w.ownsRow base 44 2 v n xs)
    (sa : Option Addr) (c k : Nat) (m : List At) (hk : m.length = k) (hx : a.eval x = .slice sa k c) (hm : Lie w sa m) (hb : (n + k) * 32 ≤ 140737488355328) (hbase : base ≤ w.heap.size)
    (h : ∀ v' w', w'.ownsRow base 44 2 v' (n + k) (xs ++ atL m) → w.grownBy w' v.ownBlock → wpList Tryz.prog ops Q rest (a.put o.dst v') w') : wpList Tryz.prog ops Q (o :: rest) a w := by
  obtain ⟨i0, hi, hz0, hz1, hz2⟩ := info_parts info44
  subst hk
  cases hmm : m with
  | nil =>
    subst hmm
    refine wpList_plain hgd fun K hK => ?_
    have hrun := run_append_none22 w o.type v base n xs hown sa c
    unfold Oper.wp
    have hx' : a.eval x = .slice sa 0 c := hx
    simp [execOp, ho, resolve, invoke, builtin, hs, hx', hrun, Result.andThen]
    refine hK _ _ (h v w ?_ ⟨rfl, rfl, rfl, Nat.le_refl _, fun k _ _ => rfl⟩)
    simpa [atL] using hown
  | cons y r =>
    obtain ⟨b, off, hsa, _, _⟩ := hm 0 y (by rw [hmm]; rfl)
    subst hsa
    have h0 : 0 < m.length := by rw [hmm]; simp
    refine wpList_append_lies _ hgd s x 22 ho base 44 i0 (.agg #[.string ⟨#[]⟩, .string ⟨#[]⟩]) 2 32 Tryz.underlying22 hi hz0 hz1 hz2 rfl (by decide) v n xs hs hown ⟨b, off, none⟩ m.length c (atL m) hx (atL_len m) (fun j u hu => ?_) (atL_one m) h0 (by unfold maxLen; omega) hb hbase w.heap.size rfl fun g cap w' h1 h2 h3 _ => h _ w' h1 h2
    obtain ⟨i, z, g1, g2⟩ := atL_at m j u hu
    obtain ⟨b', o', e1, e2, e3⟩ := hm i z g1
    cases e1
    rw [Addr.add_mid]
    rcases g2 with ⟨rfl, rfl⟩ | ⟨rfl, rfl⟩
    · exact e2
    · rw [← Nat.add_assoc]; exact e3
theorem own_low {w : World} {base base' n : Nat} {v : Value} {xs : List Value} (h : w.ownsRow base 44 2 v n xs) (hb : base' ≤ base) : w.ownsRow base' 44 2 v n xs :=
  ⟨h.1, h.2.imp id fun ⟨g, cap, cur, h1, h2, h3⟩ => ⟨g, cap, cur, h1, Nat.le_trans hb h2, h3⟩⟩
theorem atL_get : ∀ (l : List At) (i : Nat) (x : At), l[i]? = some x → ∀ c, c < 2 → (atL l)[i * 2 + c]? = (at2 x)[c]?
  | [], i, x, h, _, _ => by simp at h
  | y :: l, 0, x, h, c, hc => by
    simp at h
    subst h
    rw [show atL (y :: l) = at2 y ++ atL l by simp [atL], List.getElem?_append_left (by simp [at2]; omega)]
    simp
  | y :: l, i + 1, x, h, c, hc => by
    have := atL_get l i x (by simpa using h) c hc
    rw [show atL (y :: l) = at2 y ++ atL l by simp [atL], List.getElem?_append_right (by simp [at2]; omega)]
    rw [← this]
    congr 1
    simp [at2]
    omega
/-- Attributes of our own lie. -/
theorem own_ats {w : World} {base : Nat} {v : Value} {l : List At} (h : w.ownsRow base 44 2 v l.length (atL l)) (hc : ∀ x ∈ l, Can x) : ∃ sa cap, v = .slice sa l.length cap ∧ Ats w sa cap l := by
  rcases h.2 with ⟨h1, h2⟩ | ⟨g, cap, cur, h1, h2, h3, h4, h5, h6, h7⟩
  · have hl : l = [] := List.eq_nil_of_length_eq_zero h2
    subst hl
    exact ⟨none, 0, h1, ⟨Nat.le_refl _, fun i x hx => by simp at hx, hc⟩⟩
  · refine ⟨some ⟨g, 0, none⟩, cap, h1, ⟨h4, fun i x hx => ⟨g, 0, rfl, ?_, ?_⟩, hc⟩⟩
    · have e : (atL l)[i * 2]? = some (.string (tx x.1)) := atL_get l i x hx 0 (by omega)
      have := h.cells (g := g) (by rw [h1]; rfl) (i * 2) _ e
      rw [Addr.add_mid] at this
      exact this
    · have e : (atL l)[i * 2 + 1]? = some (.string (tx x.2)) := atL_get l i x hx 1 (by omega)
      have := h.cells (g := g) (by rw [h1]; rfl) (i * 2 + 1) _ e
      rw [Addr.add_mid, ← Nat.add_assoc] at this
      exact this
end Go.Proofs.YtgmpmpgfpchbcaaGreatDoor
