/- A name of one letter; a first file is put. -/
import Derived.Test.YtfllepgcgbpfiaaA3
import Derived.LoopN
import Derived.Deep.CutRange
namespace Go.Proofs.Ytfllepgcgbpfiaa
open Go.RowKit
set_option linter.unusedVariables false
set_option linter.unusedSimpArgs false

set_option maxRecDepth 20000 in
set_option maxHeartbeats 2000000 in
theorem name_a (w : World) : Calls Try.prog 9 #[.string ⟨#[97]⟩] w fun e w' => e = .returned (.bool true) ∧ w' = w := by
  go_enter Try.func9, Try.ntmps9
  go_wp2
  go_step3
  go_wp2
  go_step3
  go_wp2
  refine wp_loop_rounds 2 ?_
  rw [rounds_succ]
  go_wp2
  rw [rounds_succ]
  go_wp2
  try rw [Exit.noGoto_ret]
  go_ret
  exact ⟨rfl, rfl⟩
/-- All but some blocks lies as it lay. -/
structure Kep (w w' : World) (X : Nat → Prop) : Prop where
  os : w'.os = w.os
  tape : w'.tape = w.tape
  output : w'.output = w.output
  size : w.heap.size ≤ w'.heap.size
  block : ∀ q, q < w.heap.size → ¬ X q → w'.heap[q]? = w.heap[q]?
theorem Kep.below {w w' : World} {X : Nat → Prop} {base : Nat} (h : Kep w w' X) (hb : base ≤ w.heap.size) (hx : ∀ q, X q → base ≤ q) : Below base w w' :=
  ⟨h.os, h.tape, h.output, h.size, fun k hk => h.block k (by omega) fun e => by have := hx k e; omega⟩
/-- A block whose one cell is written. -/
theorem row_set {w : World} {b i : Nat} {c : Array Value} {t : TypeId} {f : Nat × Nat} (v : Value) (h : w.heap[b]? = some (.cells c t f)) : (w.setCell ⟨b, i, none⟩ v).heap[b]? = some (.cells (c.setIfInBounds i v) t f) := by
  simp [World.setCell, Array.getElem?_modify, h]
theorem put_size {w : World} {b : Nat} {o : Obj} : ({ w with heap := w.heap.setIfInBounds b o } : World).heap.size = w.heap.size := by simp
theorem put_same {w : World} {b : Nat} {o : Obj} (h : b < w.heap.size) : ({ w with heap := w.heap.setIfInBounds b o } : World).heap[b]? = some o := by simp [h]
theorem put_other {w : World} {b q : Nat} {o : Obj} (h : q ≠ b) : ({ w with heap := w.heap.setIfInBounds b o } : World).heap[q]? = w.heap[q]? := by simp [Array.getElem?_setIfInBounds_ne (Ne.symm h)]
set_option maxRecDepth 20000 in
set_option maxHeartbeats 2000000 in
/-- The first file of a disk. -/
theorem put_first (D : Nat) (s : ByteArray) (a : Option Addr) (w : World) (z : Value) (t : TypeId) (hD : w.heap[D]? = some (.cells #[.map none, z] t (0, 0))) :
    Calls Try.prog 44 #[.pointer (some ⟨D, 0, none⟩), .string s, .pointer a] w fun e w' => (∃ v, e = .returned v) ∧ w'.heap[D]? = some (.cells #[.map (some w.heap.size), z] t (0, 0)) ∧ MapAt w' w.heap.size [(s, .pointer a, 0)] 1 ∧ Kep w w' (fun q => q = D) := by
  have hc : w.cell? ⟨D, 0, none⟩ = some (.map none) := by rw [cell_of_row _ _ _ _ _ _ hD]; rfl
  have hz : w.frozen? ⟨D, 0, none⟩ = false := frozen_of_row _ _ 0 _ _ hD
  have q : ∀ (w : World) (r : Option Nat), (binOp .eql 68 (.map r) (.map none)).run Try.prog w = .ok (.bool r.isNone) w := fun w r => by
    cases r <;> kernel_rfl
  have hpu : ∀ W : World, MapAt W w.heap.size [] 0 → (Instr.mapUpdate 68 (.map (some w.heap.size)) (.string s) (.pointer a)).run Try.prog W = .ok () { W with heap := W.heap.setIfInBounds w.heap.size (.map (ents [(s, .pointer a, 0)]).toArray 1) } := fun W hW => run_put_new under68 hW rfl _
  have hmk : (Instr.makeMap 68 none).run Try.prog w = .ok (.map (some w.heap.size)) (w.alloc (.map #[] 0)) := run_makeMap 68 w
  have hfz : (w.alloc (.map #[] 0)).frozen? ⟨D, 0, none⟩ = false := by
    have hlt := (Array.getElem?_eq_some_iff.1 hD).1
    exact frozen_of_row _ _ 0 _ _ ((Below.heap_alloc _ _ _ hlt).trans hD)
  have hc2 : (w.alloc (.map #[] 0)).cell? ⟨D, 0, none⟩ = some (.map none) := by
    have hlt := (Array.getElem?_eq_some_iff.1 hD).1
    rw [cell_of_row _ _ _ _ _ _ ((Below.heap_alloc _ _ _ hlt).trans hD)]; rfl
  go_enter Try.func44, Try.ntmps44
  go_upto_region 2 with fail
  have hlt := (Array.getElem?_eq_some_iff.1 hD).1
  obtain ⟨W, hW⟩ : ∃ W, (w.alloc (.map #[] 0)).setCell ⟨D, 0, none⟩ (.map (some w.heap.size)) = W := ⟨_, rfl⟩
  have e1 : W.heap[D]? = some (.cells #[.map (some w.heap.size), z] t (0, 0)) := by
    rw [← hW]
    exact row_set _ ((Below.heap_alloc _ _ _ hlt).trans hD)
  have e2 : MapAt W w.heap.size [] 0 := by
    show W.heap[w.heap.size]? = _
    rw [← hW, Below.heap_setCell _ _ _ _ (by show w.heap.size ≠ D; omega)]
    exact Go.heap_alloc_new _ _
  have e3 : W.heap.size = w.heap.size + 1 := by rw [← hW]; simp
  have e4 : ∀ q, q < w.heap.size → q ≠ D → W.heap[q]? = w.heap[q]? := fun q h1 h2 => by
    rw [← hW, Below.heap_setCell _ _ _ _ h2]
    exact Below.heap_alloc _ _ _ h1
  rw [hW]
  have hput := hpu W e2
  have hcell : W.cell? ⟨D, 0, none⟩ = some (.map (some w.heap.size)) := by rw [cell_of_row _ _ _ _ _ _ e1]; rfl
  obtain ⟨B, hB⟩ : ∃ B, w.heap.size = B := ⟨_, rfl⟩
  rw [hB] at e1 e3 e4 hcell hput hlt ⊢
  have HE : Hid (W.heap[D]? = some (.cells #[.map (some B), z] t (0, 0)) ∧ W.heap.size = B + 1 ∧ (∀ q, q < B → q ≠ D → W.heap[q]? = w.heap[q]?) ∧ D < B ∧ w.heap.size = B ∧ W.os = w.os ∧ W.tape = w.tape ∧ W.output = w.output) := ⟨e1, e3, e4, hlt, hB, by rw [← hW]; rfl, by rw [← hW]; rfl, by rw [← hW]; rfl⟩
  clear hW e1 e2 e3 e4 hlt hB hD hc hz hpu hmk hfz hc2
  go_wp2
  go_end0
  obtain ⟨e1, e3, e4, hlt, hB, o1, o2, o3⟩ := HE.out
  rw [hB]
  refine ⟨⟨_, rfl⟩, ?_, ?_, ⟨o1, o2, o3, ?_, ?_⟩⟩
  · rw [put_other (by omega)]; exact e1
  · exact put_same (by omega)
  · rw [put_size]; omega
  · intro q h1 h2
    rw [put_other (by omega)]
    exact e4 q (by omega) h2
end Go.Proofs.Ytfllepgcgbpfiaa
