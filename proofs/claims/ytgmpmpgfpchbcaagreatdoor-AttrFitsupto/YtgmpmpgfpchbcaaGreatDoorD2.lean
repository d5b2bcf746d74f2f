/- Attributes of other keys: Without. -/
import Derived.Test.YtgmpmpgfpchbcaaGreatDoorD1
import Derived.Deep.AppendLies
import Derived.Laws.AppendOwnNone
namespace Go.Proofs.YtgmpmpgfpchbcaaGreatDoor
open Go.RowKit
set_option linter.unusedVariables false
set_option linter.unusedSimpArgs false

theorem Ats.later {W W' : World} {sa : Option Addr} {cap : Nat} {l : List At} (h : Ats W sa cap l) (hb : Below W.heap.size W W') : Ats W' sa cap l := by
  refine ⟨h.cap, fun i x hx => ?_, h.can⟩
  obtain ⟨b, o, h1, h2, h3⟩ := h.cells i x hx
  have hlt : b < W.heap.size := World.block_lt_of_cell? W _ h2
  exact ⟨b, o, h1, (hb.cell (p := ⟨b, o + i * 2, none⟩) hlt).trans h2, (hb.cell (p := ⟨b, o + i * 2 + 1, none⟩) hlt).trans h3⟩
theorem Txs.later {W W' : World} {sa : Option Addr} {cap : Nat} {l : List (List UInt8)} (h : Txs W sa cap l) (hb : Below W.heap.size W W') : Txs W' sa cap l := by
  refine ⟨h.cap, fun i x hx => ?_⟩
  obtain ⟨b, o, h1, h2⟩ := h.cells i x hx
  exact ⟨b, o, h1, (hb.cell (p := ⟨b, o + i, none⟩) (World.block_lt_of_cell? W _ h2)).trans h2⟩
/-- The attributes of other keys. -/
def woI (l : List At) (ks : List (List UInt8)) : List At := l.filter fun x => !decide (x.1 ∈ ks)
def at2 (x : At) : List Value := [.string (tx x.1), .string (tx x.2)]
def atL (l : List At) : List Value := l.flatMap at2
theorem atL_app (l m : List At) : atL (l ++ m) = atL l ++ atL m := by simp [atL]
theorem wo_len (l : List At) (ks : List (List UInt8)) : (woI l ks).length ≤ l.length := List.length_filter_le _ _
theorem wo_snoc (l : List At) (ks : List (List UInt8)) (k : Nat) (x : At) (h : l[k]? = some x) : woI (l.take (k + 1)) ks = woI (l.take k) ks ++ (if x.1 ∈ ks then [] else [x]) := by
  have e : l.take (k + 1) = l.take k ++ [x] := by
    obtain ⟨h1, h2⟩ := List.getElem?_eq_some_iff.1 h
    rw [List.take_succ_eq_append_getElem h1, h2]
  unfold woI
  rw [e, List.filter_append]
  congr 1
  by_cases c : x.1 ∈ ks <;> simp [c]
theorem own_at {w w' : World} {base size n : Nat} {e : TypeId} {v : Value} {xs : List Value} (h : w.ownsRow base e size v n xs) (hk : ∀ q, v.ownBlock = some q → w'.heap[q]? = w.heap[q]?) : w'.ownsRow base e size v n xs :=
  ⟨h.1, h.2.imp id fun ⟨g, cap, cur, hv, hg, hc, r⟩ => ⟨g, cap, cur, hv, hg, (hk g (by rw [hv]; rfl)).trans hc, r⟩⟩
theorem own_slice {w : World} {base size n : Nat} {e : TypeId} {v : Value} {xs : List Value} (h : w.ownsRow base e size v n xs) : ∃ a cap, v = .slice a n cap := by
  rcases h.2 with ⟨h, h'⟩ | ⟨g, cp, cur, hv, _⟩
  · exact ⟨_, _, by rw [h, h']⟩
  · exact ⟨_, cp, hv⟩
theorem info44 : (Tryz.prog.info? 44).map (fun i => (i.zero, i.size, i.bytes)) = some (some (.agg #[.string ⟨#[]⟩, .string ⟨#[]⟩]), 2, 32) := by kernel_rfl
/-- One attribute more. -/
theorem wpList_append_at {w : World} {ops : Array Oper} {rest : List Oper} {o : Oper} {a : Act} {Q : Exit → Act → World → Prop} (hgd : o.guard = none) (s x : Operand)
    (ho : o.op = .call { callee := .builtin .append, args := #[s, x], argTypes := #[22, 22] }) (base : Nat) (v : Value) (n : Nat) (xs : List Value) (hs : a.eval s = v) (V : World) (hown : V.ownsRow base 44 2 v n xs)
    (p : At) (hw : w = V.alloc (.cells #[.string (tx p.1), .string (tx p.2)] 44)) (hx : a.eval x = .slice (some ⟨V.heap.size, 0, none⟩) 1 1) (hb : (n + 1) * 32 ≤ 140737488355328) (hbase : base ≤ V.heap.size)
    (h : ∀ g cap w', w'.ownsRow base 44 2 (.slice (some ⟨g, 0, none⟩) (n + 1) cap) (n + 1) (xs ++ at2 p) → V.grownBy w' v.ownBlock → wpList Tryz.prog ops Q rest (a.put o.dst (.slice (some ⟨g, 0, none⟩) (n + 1) cap)) w') : wpList Tryz.prog ops Q (o :: rest) a w := by
  subst hw
  obtain ⟨i0, hi, hz0, hz1, hz2⟩ := info_parts info44
  refine wpList_append_lies _ hgd s x 22 ho base 44 i0 (.agg #[.string ⟨#[]⟩, .string ⟨#[]⟩]) 2 32 Tryz.underlying22 hi hz0 hz1 hz2 rfl (by decide) v n xs hs (hown.alloc _) ⟨V.heap.size, 0, none⟩ 1 1 (at2 p) hx rfl (World.news_of_block (Go.heap_alloc_new _ _)) (by intro u hu; simp [at2] at hu; rcases hu with rfl | rfl <;> rfl) (by decide) (by unfold maxLen; omega) hb (by simp; omega) (V.heap.size + 1) (by simp) fun g cap w' h1 h2 h3 _ => h g cap w' h1 ?_
  exact ⟨h2.os, h2.tape, h2.output, Nat.le_trans (by simp) h2.size, fun k hk hv => by rw [h2.block k (by simp; omega) hv]; exact Below.heap_alloc _ _ _ hk⟩
end Go.Proofs.YtgmpmpgfpchbcaaGreatDoor
