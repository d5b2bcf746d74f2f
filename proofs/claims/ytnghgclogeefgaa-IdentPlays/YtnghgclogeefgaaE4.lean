/- Tables: sessions whose time is over go, in both. -/
import Derived.Test.YtnghgclogeefgaaE3
namespace Go.Proofs.Ytnghgclogeefgaa
open Go.RowKit
set_option linter.unusedVariables false
set_option linter.unusedSimpArgs false

theorem exI_len (ss : List Se) (now : Int) : (exI ss now).length ≤ ss.length := List.length_filter_le _ _
set_option maxRecDepth 20000 in
set_option maxHeartbeats 4000000 in
theorem expire_kg (T base : Nat) (last : Int) (sv : Value) (ss : List Se) (now : Int) (w : World) (h : Tb w T base last sv ss) (hl : ss.length ≤ 64) (hbs : base ≤ w.heap.size) :
    Calls Try.prog 26 #[.pointer (some ⟨T, 0, none⟩), .int .i64 now] w fun e w' => e = .returned (.int .i64 ((ss.length : Int) - ((exI ss now).length : Int))) ∧ (∃ sv', Tb w' T base last sv' (exI ss now)) ∧ Below base w w' ∧ Kg 64 68 w w' := by
  have HT : Hid (Tb w T base last sv ss) := h
  have HBS : Hid (base ≤ w.heap.size) := hbs
  obtain ⟨sa, c, e⟩ := own_slice h.row
  subst e
  have hlen := exI_len ss now
  have h64 : (ss.length : Int) ≤ 64 := by omega
  have h65 : ((exI ss now).length : Int) ≤ (ss.length : Int) := by omega
  have HL : Hid (ss.length ≤ 64) := hl
  clear h hbs hl hlen
  obtain ⟨W1, hW1⟩ : ∃ W1, w.alloc (.cells #[.int .i64 now] 2) = W1 := ⟨_, rfl⟩
  have HB1 : Hid (Below w.heap.size w W1) := by show Below _ _ _; rw [← hW1]; exact bel1 _ _
  have HQ : Hid (W1.heap[w.heap.size]? = some (.cells #[.int .i64 now] 2 (0, 0))) := by show _ = _; rw [← hW1]; exact Go.heap_alloc_new _ _
  have HT1 : Hid (Tb W1 T base last (.slice sa ss.length c) ss) := HT.out.later HB1.out (Nat.le_refl _)
  have d1 : W1.cell? ⟨T, 1, none⟩ = some (.slice sa ss.length c) := by rw [cell_of_row _ _ _ _ _ _ HT1.out.tab]; rfl
  have HDF : Hid (Calls Try.prog 44 #[.slice sa ss.length c, .func (.func 45) #[] #[.pointer (some ⟨w.heap.size, 0, none⟩)]] W1 fun e w' => (∃ sv', e = .returned sv' ∧ w'.ownsRow base 68 5 sv' (exI ss now).length (seL (exI ss now))) ∧ W1.grownBy w' (Value.slice sa ss.length c).ownBlock) := deletef_any base _ ss w.heap.size now W1 HT1.out.row HL.out HQ.out
  go_enter Try.func26, Try.ntmps26
  go_wp2_with fail
  refine HDF.out.mono ?_
  rintro e w2 ⟨⟨sv2, rfl, ho2⟩, hg2⟩
  obtain ⟨xa, xc, hv2⟩ := own_slice ho2
  subst hv2
  have HO2 : Hid (w2.ownsRow base 68 5 (.slice xa (exI ss now).length xc) (exI ss now).length (seL (exI ss now)) ∧ W1.grownBy w2 (Value.slice sa ss.length c).ownBlock) := ⟨ho2, hg2⟩
  have hT2 : w2.heap[T]? = some (.cells #[.int .i64 last, .slice sa ss.length c] 64 (0, 0)) := (hg2.block T (Array.getElem?_eq_some_iff.1 HT1.out.tab).1 (own_other HT1.out.row HT1.out.tab (by decide))).trans HT1.out.tab
  have HT2 : Hid (w2.heap[T]? = some (.cells #[.int .i64 last, .slice sa ss.length c] 64 (0, 0))) := hT2
  have e1 : w2.cell? ⟨T, 1, none⟩ = some (.slice sa ss.length c) := by rw [cell_of_row _ _ _ _ _ _ hT2]; rfl
  have f1 : w2.frozen? ⟨T, 1, none⟩ = false := frozen_of_row _ _ 1 _ _ hT2
  clear hT2 ho2 hg2 d1 hW1
  go_wp2_with fail
  go_ret
  have hlo := HT.out.low
  refine ⟨rfl, ⟨.slice xa (exI ss now).length xc, row_set _ HT2.out, ?_, hlo⟩, ?_, ?_⟩
  · exact own_at HO2.out.1 fun q hq => by
      obtain ⟨cur, hc⟩ := own_tag HO2.out.1 hq
      exact Below.heap_setCell _ _ _ _ (ne_tag hc HT2.out (by decide))
  · have hg := HO2.out.2
    have h2 : Below base W1 w2 := ⟨hg.os, hg.tape, hg.output, hg.size, fun q hq => hg.block q (by have := HB1.out.size; have := HBS.out; omega) (fun e => by have := (HT1.out.row.lt q e.symm).1; omega)⟩
    exact ((HB1.out.mono HBS.out).trans h2).setCell hlo _
  · refine (Kg.of HB1.out (Nat.le_refl _)).trans ?_
    intro p cc t f hp n1 n2
    have hpl := (Array.getElem?_eq_some_iff.1 hp).1
    have h2 : w2.heap[p]? = W1.heap[p]? := HO2.out.2.block p hpl (own_other2 HT1.out.row hp n2)
    exact (Below.heap_setCell _ _ _ _ (ne_tag (h2.trans hp) HT2.out n1)).trans h2
/-- One session more. -/
theorem wpList_append_se {w : World} {ops : Array Oper} {rest : List Oper} {o : Oper} {a : Act} {Q : Exit → Act → World → Prop} (hgd : o.guard = none) (s x : Operand)
    (ho : o.op = .call { callee := .builtin .append, args := #[s, x], argTypes := #[37, 37] }) (base : Nat) (v : Value) (n : Nat) (xs : List Value) (hs : a.eval s = v) (V : World) (hown : V.ownsRow base 70 5 v n xs)
    (p : Se) (hw : w = V.alloc (.cells #[.int .i64 p.num, .string (tx p.t), .string (tx p.u), .bool p.a, .int .i64 p.til] 70)) (hx : a.eval x = .slice (some ⟨V.heap.size, 0, none⟩) 1 1) (hb : n ≤ 1000) (hbase : base ≤ V.heap.size)
    (h : ∀ g cap w', w'.ownsRow base 70 5 (.slice (some ⟨g, 0, none⟩) (n + 1) cap) (n + 1) (xs ++ se5 p) → V.grownBy w' v.ownBlock → (v.ownBlock = some g ∨ V.heap.size ≤ g) → wpList Try.prog ops Q rest (a.put o.dst (.slice (some ⟨g, 0, none⟩) (n + 1) cap)) w') : wpList Try.prog ops Q (o :: rest) a w := by
  subst hw
  obtain ⟨i0, hi, hz0, hz1, hz2⟩ := info_parts info70
  refine wpList_append_lies _ hgd s x 37 ho base 70 i0 (.agg #[.int .i64 0, .string ⟨#[]⟩, .string ⟨#[]⟩, .bool false, .int .i64 0]) 5 56 Try.underlying37 hi hz0 hz1 hz2 rfl (by decide) v n xs hs (hown.alloc _) ⟨V.heap.size, 0, none⟩ 1 1 (se5 p) hx rfl (World.news_of_block (Go.heap_alloc_new _ _)) (se5_one p) (by decide) (by unfold maxLen; omega) (by omega) (by simp; omega) (V.heap.size + 1) (by simp) fun g cap w' h1 h2 h3 _ => h g cap w' h1 ?_ ?_
  · exact ⟨h2.os, h2.tape, h2.output, Nat.le_trans (by simp) h2.size, fun k hk hv => by rw [h2.block k (by simp; omega) hv]; exact Below.heap_alloc _ _ _ hk⟩
  · rcases h3 with h | h
    · exact .inl h
    · exact .inr (by omega)
end Go.Proofs.Ytnghgclogeefgaa
