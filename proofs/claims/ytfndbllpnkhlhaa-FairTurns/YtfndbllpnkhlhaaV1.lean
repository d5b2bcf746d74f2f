/- A scheduler and what is pushed, between calls. -/
import Derived.Test.YtfndbllpnkhlhaaI2
import Derived.Test.YtfndbllpnkhlhaaQ2
namespace Go.Proofs.Ytfndbllpnkhlhaa
open Go.RowKit
set_option linter.unusedVariables false
set_option linter.unusedSimpArgs false

def op5 (o : OpF) : List Value := [.int .i64 o.kind, .string (tx o.nm), .int .i64 o.wt, .int .i64 o.id, .int .i64 o.cost]
theorem op5_len (o : OpF) : (op5 o).length = 5 := rfl
theorem op5_one (o : OpF) : ∀ u ∈ op5 o, u.oneCell' = true := by
  intro u hu
  simp only [op5, List.mem_cons, List.not_mem_nil, or_false] at hu
  rcases hu with rfl | rfl | rfl | rfl | rfl <;> rfl
variable {PF : World → Nat → (Nat → Prop) → Sc → Prop}
structure SW (PF : World → Nat → (Nat → Prop) → Sc → Prop) (A : Nat → Prop) (base : Nat) (w0 w : World) (T : Nat) (s : Sc) (v : Value) (l : List OpF) : Prop where
  ex : ∃ F, PF w T F s ∧ (∀ q, F q → base ≤ q) ∧ (∀ q, v.ownBlock = some q → ¬ F q) ∧ ∀ q, A q → (base ≤ q ∧ q < w.heap.size) ∧ ¬ F q
  row : Tl op5 5 w base 44 v l
  ap : ∀ q, A q → v.ownBlock ≠ some q
  bs : base ≤ w.heap.size
  bel : Below base w0 w
variable {A : Nat → Prop} {base : Nat} {w0 w w' : World} {T : Nat} {s s' : Sc} {v : Value} {l : List OpF}
theorem SW.later (G : PrgS PF) {B : Nat} (h : SW PF A base w0 w T s v l) (hb : Below B w w') (hB : w.heap.size ≤ B) : SW PF A base w0 w' T s v l := by
  obtain ⟨F, h1, h2, h3, h4⟩ := h.ex
  exact ⟨⟨F, G.later h1 hb hB, h2, h3, fun q hq => ⟨⟨(h4 q hq).1.1, by have := (h4 q hq).1.2; have := hb.size; omega⟩, (h4 q hq).2⟩⟩, h.row.later hb hB, h.ap, by have := h.bs; have := hb.size; omega, h.bel.trans (hb.mono (by have := h.bs; omega))⟩
/-- Beside a new block. -/
theorem SW.alloc (G : PrgS PF) (h : SW PF A base w0 w T s v l) (o : Obj) : SW PF (fun q => q = w.heap.size) base w0 (w.alloc o) T s v l := by
  have h' := h.later G (bel1 w o) (Nat.le_refl _)
  obtain ⟨F, h1, h2, h3, h4⟩ := h.ex
  refine ⟨⟨F, G.later h1 (bel1 w o) (Nat.le_refl _), h2, h3, fun q hq => ?_⟩, h'.row, fun q hq e => ?_, h'.bs, h'.bel⟩
  · subst hq
    exact ⟨⟨h.bs, by simp⟩, fun hf => by have := G.lt h1 _ hf; omega⟩
  · subst hq
    have := (h.row.lt e).2
    omega
theorem SW.bare (h : SW PF A base w0 w T s v l) : SW PF (fun _ => False) base w0 w T s v l := by
  obtain ⟨F, h1, h2, h3, h4⟩ := h.ex
  exact ⟨⟨F, h1, h2, h3, fun q hq => hq.elim⟩, h.row, fun q hq => hq.elim, h.bs, h.bel⟩
theorem SW.put (G : PrgS PF) (h : SW PF A base w0 w T s v l) {p : Nat} (hp : A p) (i : Nat) (x : Value) : SW PF A base w0 (w.setCell ⟨p, i, none⟩ x) T s v l := by
  obtain ⟨F, h1, h2, h3, h4⟩ := h.ex
  refine ⟨⟨F, G.at' h1 fun q hq => Below.heap_setCell _ _ _ _ fun e => (h4 p hp).2 (by have e' : q = p := e; rw [← e']; exact hq), h2, h3, fun q hq => by simpa using h4 q hq⟩, h.row.at' fun q hq => Below.heap_setCell _ _ _ _ fun e => h.ap p hp (by have e' : q = p := e; rw [← e']; exact hq), h.ap, by simpa using h.bs, h.bel.setCell (h4 p hp).1.1 _⟩
theorem SW.call (h : SW PF A base w0 w T s v l) {F : Nat → Prop} (hF : PF w T F s ∧ (∀ q, F q → base ≤ q) ∧ (∀ q, v.ownBlock = some q → ¬ F q) ∧ ∀ q, A q → (base ≤ q ∧ q < w.heap.size) ∧ ¬ F q) {F' : Nat → Prop} (k1 : PF w' T F' s') (k2 : Fr F F' w w') : SW PF A base w0 w' T s' v l ∧ ∀ q, A q → w'.heap[q]? = w.heap[q]? := by
  obtain ⟨h1, h2, h3, h4⟩ := hF
  refine ⟨⟨⟨F', k1, k2.low h2 h.bs, fun q hq hf => ?_, fun q hq => ⟨⟨(h4 q hq).1.1, by have := (h4 q hq).1.2; have := k2.size; omega⟩, fun hf => ?_⟩⟩, h.row.at' fun q hq => k2.block q (h.row.lt hq).2 (h3 q hq), h.ap, by have := h.bs; have := k2.size; omega, h.bel.trans (k2.below h2 h.bs)⟩, fun q hq => k2.block q (h4 q hq).1.2 (h4 q hq).2⟩
  · rcases k2.grow q hf with h' | h'
    · exact h3 q hq h'
    · have := (h.row.lt hq).2; omega
  · rcases k2.grow q hf with h' | h'
    · exact (h4 q hq).2 h'
    · have := (h4 q hq).1.2; omega
theorem SW.set (G : PrgS PF) {N : Int} {nm : List UInt8} {wt : Int} (h : SW PF A base w0 w T s v l) (hs : Sok N s) (hN : N ≤ 100000) :
    Calls Try.prog 20 #[.pointer (some ⟨T, 0, none⟩), .string (tx nm), .int .i64 wt] w fun e w' => e = .returned (.int .i64 (setS s nm wt).1) ∧ SW PF A base w0 w' T (setS s nm wt).2 v l := by
  obtain ⟨F, hF⟩ := h.ex
  exact (G.set N T F s nm wt w hF.1 hs hN).mono fun e w' ⟨h0, F', k1, k2⟩ => ⟨h0, (h.call hF k1 k2).1⟩
theorem SW.push (G : PrgS PF) {N : Int} {nm : List UInt8} {id cost : Int} (h : SW PF A base w0 w T s v l) (hs : Sok N s) (hN : N ≤ 100000) :
    Calls Try.prog 21 #[.pointer (some ⟨T, 0, none⟩), .string (tx nm), .agg #[.int .i64 id, .int .i64 cost]] w fun e w' => e = .returned (.int .i64 (pushS s nm id cost).1) ∧ SW PF A base w0 w' T (pushS s nm id cost).2 v l ∧ ∀ q, A q → w'.heap[q]? = w.heap[q]? := by
  obtain ⟨F, hF⟩ := h.ex
  exact (G.push N T F s nm id cost w hF.1 hs hN).mono fun e w' ⟨h0, F', k1, k2⟩ => ⟨h0, h.call hF k1 k2⟩
theorem SW.step (G : PrgS PF) {N : Int} (h : SW PF A base w0 w T s v l) (hs : Sok N s) (hN : N ≤ 100000) :
    Calls Try.prog 22 #[.pointer (some ⟨T, 0, none⟩)] w fun e w' => e = .returned (.tuple #[.string (tx (stepS s).1.nm), .agg #[.int .i64 (stepS s).1.id, .int .i64 (stepS s).1.cost], .bool (stepS s).1.don, .bool (stepS s).1.some]) ∧ SW PF A base w0 w' T (stepS s).2 v l := by
  obtain ⟨F, hF⟩ := h.ex
  exact (G.step N T F s w hF.1 hs hN).mono fun e w' ⟨h0, F', k1, k2⟩ => ⟨h0, (h.call hF k1 k2).1⟩
/-- What is pushed is another list now: made by growing it, or a new one. -/
theorem SW.grow (G : PrgS PF) {v' : Value} {l' : List OpF} {ob : Option Nat} (h : SW PF A base w0 w T s v l) (hr : Tl op5 5 w' base 44 v' l') (hg : w.grownBy w' ob) (hob : ob = v.ownBlock ∨ ob = none) (hv : v'.ownBlock = ob ∨ v'.ownBlock = some w.heap.size) : SW PF (fun _ => False) base w0 w' T s v' l' := by
  obtain ⟨F, h1, h2, h3, h4⟩ := h.ex
  have hnF : ∀ q, ob = some q → ¬ F q := fun q hq => by
    rcases hob with e | e
    · exact h3 q (e ▸ hq)
    · rw [e] at hq; cases hq
  have hlow : ∀ q, ob = some q → base ≤ q := fun q hq => by
    rcases hob with e | e
    · exact (h.row.lt (e ▸ hq)).1
    · rw [e] at hq; cases hq
  refine ⟨⟨F, G.at' h1 fun q hq => hg.block q (G.lt h1 q hq) fun e => hnF q e.symm hq, h2, fun q hq hf => ?_, fun q hq => hq.elim⟩, hr, fun q hq => hq.elim, by have := h.bs; have := hg.size; omega, h.bel.trans ⟨hg.os, hg.tape, hg.output, hg.size, fun q hq => hg.block q (by have := h.bs; omega) fun e => by have := hlow q e.symm; omega⟩⟩
  rcases hv with e | e
  · exact hnF q (e ▸ hq) hf
  · rw [e] at hq
    cases hq
    have := G.lt h1 _ hf
    omega
theorem info44 : (Try.prog.info? 44).map (fun i => (i.zero, i.size, i.bytes)) = some (some (.agg #[.int .i64 0, .string ⟨#[]⟩, .int .i64 0, .int .i64 0, .int .i64 0]), 5, 48) := by kernel_rfl
/-- A script as it lies. -/
structure OpsAt (W : World) (sa : Option Addr) (len cap : Nat) (os : List OpF) : Prop where
  n : os.length = len
  c : len ≤ cap
  l : ∀ (i : Nat) (o : OpF), os[i]? = some o → ∃ b off, sa = some ⟨b, off, none⟩ ∧ b < W.heap.size ∧ W.cell? ⟨b, off + i * 5, none⟩ = some (.int .i64 o.kind) ∧ W.cell? ⟨b, off + i * 5 + 1, none⟩ = some (.string (tx o.nm)) ∧ W.cell? ⟨b, off + i * 5 + 2, none⟩ = some (.int .i64 o.wt) ∧ W.cell? ⟨b, off + i * 5 + 3, none⟩ = some (.int .i64 o.id) ∧ W.cell? ⟨b, off + i * 5 + 4, none⟩ = some (.int .i64 o.cost)
theorem OpsAt.later {W W' : World} {sa : Option Addr} {len cap B : Nat} {os : List OpF} (h : OpsAt W sa len cap os) (hb : Below B W W') (hB : W.heap.size ≤ B) : OpsAt W' sa len cap os := by
  refine ⟨h.n, h.c, fun i o ho => ?_⟩
  obtain ⟨b, off, e, hlt, h0, h1, h2, h3, h4⟩ := h.l i o ho
  have hc : ∀ j, W'.cell? ⟨b, j, none⟩ = W.cell? ⟨b, j, none⟩ := fun j => hb.cell (p := ⟨b, j, none⟩) (by show b < B; omega)
  exact ⟨b, off, e, by have := hb.size; omega, (hc _).trans h0, (hc _).trans h1, (hc _).trans h2, (hc _).trans h3, (hc _).trans h4⟩
end Go.Proofs.Ytfndbllpnkhlhaa
