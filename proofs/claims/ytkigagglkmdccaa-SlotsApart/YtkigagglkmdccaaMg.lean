/- The jobs in fixed turns: turns.serve. -/
import Derived.Test.YtkigagglkmdccaaMf
namespace Go.Proofs.Ytkigagglkmdccaa
open Go.RowKit
set_option linter.unusedVariables false
set_option linter.unusedSimpArgs false

theorem row2_set {W : World} {g : Nat} {a b c d : Value} {t : TypeId} (h : W.heap[g]? = some (.cells #[a, b] t (0, 0))) : ((W.setCell ⟨g, 0, none⟩ c).setCell ⟨g, 1, none⟩ d).heap[g]? = some (.cells #[c, d] t (0, 0)) := by
  have h1 : (W.setCell ⟨g, 0, none⟩ c).heap[g]? = some (.cells #[c, b] t (0, 0)) := row_set _ h
  exact row_set _ h1
theorem map_erase {α β : Type} (f : α → β) : ∀ (l : List α) (i : Nat), (l.eraseIdx i).map f = (l.map f).eraseIdx i
  | [], _ => rfl
  | _ :: _, 0 => rfl
  | a :: r, i + 1 => congrArg (f a :: ·) (map_erase f r i)
theorem MR.not30 {w : World} {B c : Nat} {ls : List Lf} (h : MR w B c ls) {g : Nat} {cs : Array Value} (hg : w.heap[g]? = some (.cells cs 30 (0, 0))) : ¬ MF B ls g := by
  rintro (rfl | ⟨l, hl, hq⟩ | hq)
  · have := h.map
    unfold MapAt at this
    rw [hg] at this
    cases this
  · obtain ⟨cs', t, k, hty⟩ := (h.qs l hl).kind hq
    rw [hg] at k
    rcases hty with rfl | rfl <;> cases k
  · obtain ⟨l, hl, t, ht, rfl⟩ := mem_tps.1 hq
    have := h.tk l hl t ht
    unfold TkAt at this
    rw [hg] at this
    cases this
/-- What stands before the answer is stored. -/
structure Aft (w W : World) (B : Nat) (F : Nat → Prop) (J : List UInt8 → List Wn) : Prop where
  mp : ∃ c ls, MR W B c ls ∧ (∀ s, tsW s ls = J s) ∧ Fr F (MF B ls) w W
  box : W.heap[w.heap.size]? = some (.cells #[.int .i64 0, .int .i64 0] 30 (0, 0))
theorem Aft.fill {w W : World} {B : Nat} {F : Nat → Prop} {J : List UInt8 → List Wn} (h : Aft w W B F J) (id cost : Int) :
    ((W.setCell ⟨w.heap.size, 0, none⟩ (.int .i64 id)).setCell ⟨w.heap.size, 1, none⟩ (.int .i64 cost)).heap[w.heap.size]? = some (.cells #[.int .i64 id, .int .i64 cost] 30 (0, 0)) ∧ ∃ F', MP ((W.setCell ⟨w.heap.size, 0, none⟩ (.int .i64 id)).setCell ⟨w.heap.size, 1, none⟩ (.int .i64 cost)) B F' J ∧ Fr F F' w ((W.setCell ⟨w.heap.size, 0, none⟩ (.int .i64 id)).setCell ⟨w.heap.size, 1, none⟩ (.int .i64 cost)) := by
  obtain ⟨c, ls, h1, h2, h3⟩ := h.mp
  have hx : ∀ q, q ≠ w.heap.size → ((W.setCell ⟨w.heap.size, 0, none⟩ (.int .i64 id)).setCell ⟨w.heap.size, 1, none⟩ (.int .i64 cost)).heap[q]? = W.heap[q]? := fun q hq => (Below.heap_setCell _ _ _ _ hq).trans (Below.heap_setCell _ _ _ _ hq)
  refine ⟨row2_set h.box, MF B ls, ⟨c, ls, h1.at' fun q hq => hx q fun e => h1.not30 h.box (e ▸ hq), h2, fun q => Iff.rfl⟩, ⟨h3.os, h3.tape, h3.output, by simpa using h3.size, fun q hq hn => (hx q (by omega)).trans (h3.block q hq hn), h3.grow⟩⟩
theorem Aft.cells {w W : World} {B : Nat} {F : Nat → Prop} {J : List UInt8 → List Wn} (h : Aft w W B F J) : W.cell? ⟨w.heap.size, 0, none⟩ = some (.int .i64 0) ∧ W.cell? ⟨w.heap.size, 1, none⟩ = some (.int .i64 0) ∧ W.frozen? ⟨w.heap.size, 0, none⟩ = false ∧ W.frozen? ⟨w.heap.size, 1, none⟩ = false :=
  ⟨by rw [cell_of_row _ _ _ _ _ _ h.box]; rfl, by rw [cell_of_row _ _ _ _ _ _ h.box]; rfl, by simp [World.frozen?, h.box], by simp [World.frozen?, h.box]⟩
theorem results_cell3 {P : Program} {fn : Func} {p q r : Tmp} {ty : TypeId} (h : fn.results = #[.cell p ty, .tmp q, .tmp r]) (tmps : Array Value) (w : World) (g : Nat) (cs : Array Value) (v x : Value)
    (hp : tmps.getD p undef = .pointer (some ⟨g, 0, none⟩)) (hq : tmps.getD q undef = v) (hr : tmps.getD r undef = x) (hl : (loadVar ty ⟨g, 0, none⟩).run P w = .ok (.agg cs) w) :
    (results fn tmps).run P w = .ok (.tuple #[.agg cs, v, x]) w := by
  have hp' : tmps[p]?.getD undef = .pointer (some ⟨g, 0, none⟩) := by simpa using hp
  have hq' : tmps[q]?.getD undef = v := by simpa using hq
  have hr' : tmps[r]?.getD undef = x := by simpa using hr
  simp [results, h, hp', hq', hr', asAddr, hl]
theorem load30 {W : World} {g : Nat} {cs : Array Value} (h : W.heap[g]? = some (.cells cs 30 (0, 0))) (hs : cs.size = 2) : (loadVar 30 ⟨g, 0, none⟩).run Try.prog W = .ok (.agg cs) W :=
  run_loadVar_row W g 30 30 cs (0, 0) _ h Try.underlying30 rfl (by rw [hs]; kernel_rfl)
theorem tk_cells {w : World} {t : Tk} (h : TkAt w t) : w.cell? ⟨t.p, 0, none⟩ = some (.int .i64 t.id) ∧ w.cell? ⟨t.p, 1, none⟩ = some (.int .i64 t.cost) ∧ w.cell? ⟨t.p, 2, none⟩ = some (.int .i64 t.needs) ∧ w.frozen? ⟨t.p, 2, none⟩ = false := by
  unfold TkAt at h
  exact ⟨by rw [cell_of_row _ _ _ _ _ _ h]; rfl, by rw [cell_of_row _ _ _ _ _ _ h]; rfl, by rw [cell_of_row _ _ _ _ _ _ h]; rfl, by simp [World.frozen?, h]⟩
theorem tsW_some {s : List UInt8} {ls : List Lf} {l : Lf} (h : lnF s ls = some l) : tsW s ls = l.ts.map Tk.w := by unfold tsW tsF; rw [h]; rfl
theorem tsW_none {s : List UInt8} {ls : List Lf} (h : lnF s ls = none) : tsW s ls = [] := by unfold tsW tsF; rw [h]; rfl
theorem tsW_set {ls : List Lf} {j : Nat} {l l' : Lf} (hj : ls[j]? = some l) (he : l'.nm = l.nm) (hn : (ls.map Lf.nm).Nodup) (s : List UInt8) : tsW s (ls.set j l') = upd (tsW · ls) l.nm (l'.ts.map Tk.w) s := by
  unfold upd tsW tsF
  rw [lnF_set ls j l l' s hj he hn]
  by_cases e : s = l.nm <;> simp [e]
set_option maxRecDepth 20000 in
set_option maxHeartbeats 4000000 in
/-- Nobody waits. -/
theorem mserve_none {w : World} {B : Nat} {F : Nat → Prop} {J : List UInt8 → List Wn} (h : MP w B F J) (s : List UInt8) (hJ : J s = []) :
    Calls Try.prog 39 #[.map (some B), .string (tx s)] w fun e w' => e = .returned (.tuple #[.agg #[.int .i64 0, .int .i64 0], .bool false, .bool false]) ∧ Below w.heap.size w w' := by
  obtain ⟨c, ls, h1, h2, h3⟩ := h
  have hf : lnF s ls = none := by
    cases hf : lnF s ls with
    | none => rfl
    | some l =>
      obtain ⟨j, _, e2, _⟩ := fndE_some ls 0 hf
      have := h2 s
      rw [tsW_some hf, hJ, List.map_eq_nil_iff] at this
      exact absurd this (h1.more l (List.mem_of_getElem? e2))
  have hat : atE s (ls.map Lf.en) = .pointer none := by unfold atE; rw [fndE_none ls 0 hf]
  have hb0 : Below w.heap.size w (w.alloc (.cells #[.int .i64 0, .int .i64 0] 30)) := bel1' _ _
  have hk0 := run_look (h1.at' fun q hq => hb0.block q (h1.lt q hq)).map s
  rw [hat] at hk0
  clear h1 h2 h3 hf hat hb0 hJ
  go_enter Try.func39, Try.ntmps39
  go_wp2_with (go_at_call 69; refine (ipeek_nil _).mono ?_; rintro e w1 ⟨rfl, hw1⟩; rw [hw1]; clear hw1)
  exact bodyPost_ret (results_cell3 Try.results39 _ _ w.heap.size #[.int .i64 0, .int .i64 0] _ _ rfl rfl rfl (load30 (heap_alloc_new _ _) rfl)) rfl ⟨rfl, bel1' _ _⟩
end Go.Proofs.Ytkigagglkmdccaa
