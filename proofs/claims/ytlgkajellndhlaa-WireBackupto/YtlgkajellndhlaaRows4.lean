/- Lists of fields of the call's own. -/
import Derived.Test.YtlgkajellndhlaaSame
import Derived.Test.YtlgkajellndhlaaRWrite
import Derived.StillTailTactics
namespace Go.Proofs.Ytlgkajellndhlaa
open Go.RowKit
set_option linter.unusedVariables false
set_option linter.unusedSimpArgs false

/-- A field's four cells. -/
def fl4 (p : Fd × Value) : List Value := [.int .i64 p.1.num, .int .i64 p.1.typ, .int .u64 (p.1.n : Int), p.2]
def flL : List (Fd × Value) → List Value
  | [] => []
  | p :: r => fl4 p ++ flL r
theorem flL_len : ∀ ps, (flL ps).length = ps.length * 4
  | [] => rfl
  | p :: r => by simp [flL, fl4, flL_len r]; omega
theorem flL_app : ∀ a b, flL (a ++ b) = flL a ++ flL b
  | [], b => rfl
  | p :: r, b => by simp [flL, flL_app r b]
theorem flL_at : ∀ (ps : List (Fd × Value)) (i : Nat) (p : Fd × Value) (r : Nat), ps[i]? = some p → r < 4 → (flL ps)[i * 4 + r]? = (fl4 p)[r]?
  | [], i, p, r, h, _ => by simp at h
  | q :: l, 0, p, r, h, hr => by
    simp at h
    rw [← h]
    show (fl4 q ++ flL l)[0 * 4 + r]? = _
    rw [List.getElem?_append_left (by simp [fl4]; omega)]
    simp
  | q :: l, i + 1, p, r, h, hr => by
    simp at h
    show (fl4 q ++ flL l)[(i + 1) * 4 + r]? = _
    rw [List.getElem?_append_right (by simp [fl4]; omega), show (i + 1) * 4 + r - (fl4 q).length = i * 4 + r by simp [fl4]; omega]
    exact flL_at l i p r h hr
def Slc (v : Value) : Prop := ∃ a l c, v = .slice a l c
theorem fl4_one (p : Fd × Value) (h : Slc p.2) : ∀ u ∈ fl4 p, u.oneCell' = true := by
  intro u hu
  obtain ⟨a, l, c, e⟩ := h
  simp only [fl4, List.mem_cons, List.mem_nil_iff, or_false, e] at hu
  rcases hu with rfl | rfl | rfl | rfl <;> rfl
/-- A list of the call's own, of fields whose bytes lie there. -/
theorem fds_of {W : World} {e base : Nat} {v : Value} {ps : List (Fd × Value)} (h : W.ownsRow base e 4 v ps.length (flL ps)) (hs : ∀ p ∈ ps, Src W p.2 p.1.b) : Fds W v (ps.map (·.1)) := by
  rcases h.2 with ⟨rfl, h0⟩ | ⟨g, cap, cur, hv, hg, hc, hcap, _⟩
  · have : ps = [] := List.eq_nil_of_length_eq_zero h0
    subst this
    exact ⟨none, 0, rfl, Nat.le_refl _, fun i f hi => by simp at hi⟩
  · subst hv
    refine ⟨some ⟨g, 0, none⟩, cap, by rw [List.length_map], by rw [List.length_map]; exact hcap, fun i f hi => ?_⟩
    rw [List.getElem?_map] at hi
    cases hp : ps[i]? with
    | none => rw [hp] at hi; cases hi
    | some p =>
      rw [hp] at hi
      have hf : p.1 = f := by simpa using hi
      have hlt : i < ps.length := (List.getElem?_eq_some_iff.1 hp).1
      have hsrc := hs p (List.mem_of_getElem? hp)
      obtain ⟨a, c, hsl⟩ := hsrc.slice
      have hcell : ∀ r, r < 4 → W.cell? ⟨g, i * 4 + r, none⟩ = (fl4 p)[r]? := fun r hr => by
        rw [h.cellAt (i * 4 + r) (by omega), flL_at ps i p r hp hr]
      have c0 := hcell 0 (by omega)
      have c1 := hcell 1 (by omega)
      have c2 := hcell 2 (by omega)
      have c3 := hcell 3 (by omega)
      refine ⟨g, 0, a, p.1.b.length, c, rfl, ?_⟩
      rw [Nat.zero_add, ← hf]
      refine ⟨by simpa [fl4] using c0, by simpa [fl4] using c1, by simpa [fl4] using c2, ?_, by rw [← hsl]; exact hsrc⟩
      rw [← hsl]
      simpa [fl4] using c3
theorem info35' : (Try.prog.info? 35).map (fun i => (i.zero, i.size, i.bytes)) = some (some (.agg #[.int .i64 0, .int .i64 0, .int .u64 0, .slice none 0 0]), 4, 48) := by kernel_rfl
theorem info38' : (Try.prog.info? 38).map (fun i => (i.zero, i.size, i.bytes)) = some (some (.agg #[.int .i64 0, .int .i64 0, .int .u64 0, .slice none 0 0]), 4, 48) := by kernel_rfl
/-- One field more. -/
theorem wpList_append_fd {w : World} {ops : Array Oper} {rest : List Oper} {o : Oper} {a : Act} {Q : Exit → Act → World → Prop} (hgd : o.guard = none) (s x : Operand) (t e : TypeId) (ht : Try.prog.underlying t = some (.slice e)) (hinf : (Try.prog.info? e).map (fun i => (i.zero, i.size, i.bytes)) = some (some (.agg #[.int .i64 0, .int .i64 0, .int .u64 0, .slice none 0 0]), 4, 48))
    (ho : o.op = .call { callee := .builtin .append, args := #[s, x], argTypes := #[t, t] }) (base : Nat) (v : Value) (n : Nat) (xs : List Value) (hs : a.eval s = v) (V : World) (hown : V.ownsRow base e 4 v n xs)
    (p : Fd × Value) (hp : Slc p.2) (hw : w = V.alloc (.cells #[.int .i64 p.1.num, .int .i64 p.1.typ, .int .u64 (p.1.n : Int), p.2] e)) (hx : a.eval x = .slice (some ⟨V.heap.size, 0, none⟩) 1 1) (hb : n ≤ 100000000) (hbase : base ≤ V.heap.size)
    (h : ∀ g cap w', w'.ownsRow base e 4 (.slice (some ⟨g, 0, none⟩) (n + 1) cap) (n + 1) (xs ++ fl4 p) → Gr v V (.slice (some ⟨g, 0, none⟩) (n + 1) cap) w' → wpList Try.prog ops Q rest (a.put o.dst (.slice (some ⟨g, 0, none⟩) (n + 1) cap)) w') : wpList Try.prog ops Q (o :: rest) a w := by
  subst hw
  obtain ⟨i0, hi, hz0, hz1, hz2⟩ := info_parts hinf
  refine wpList_append_lies _ hgd s x t ho base e i0 _ 4 48 ht hi hz0 hz1 hz2 rfl (by decide) v n xs hs (hown.alloc _) ⟨V.heap.size, 0, none⟩ 1 1 (fl4 p) hx rfl (World.news_of_block (Go.heap_alloc_new _ _)) (fl4_one p hp) (by decide) (by unfold maxLen; omega) (by omega) (by simp; omega) (V.heap.size + 1) (by simp) fun g cap w' h1 h2 h3 _ => h g cap w' h1 ?_
  refine ⟨h2.os, h2.tape, h2.output, Nat.le_trans (by simp) h2.size, fun k hk hv => ?_, fun g' hg' => ?_⟩
  · rw [h2.block k (by simp; omega) (fun e => hv e.symm)]
    exact Below.heap_alloc _ _ _ hk
  · have e : g = g' := by simpa [Value.ownBlock] using hg'
    rw [← e]
    rcases h3 with h | h
    · exact .inl h
    · exact .inr (by omega)
end Go.Proofs.Ytlgkajellndhlaa
