/- rest: the clock begins again. -/
import Derived.Test.YtfndbllpnkhlhaaKp
namespace Go.Proofs.Ytfndbllpnkhlhaa
open Go.RowKit Go.Shelf
set_option linter.unusedVariables false
set_option linter.unusedSimpArgs false
attribute [local go_sem] Oper.semAt_some

def boxO (lv : Value) (clk : Int) (srv : Value) (had : Int) : Obj := .cells #[lv, .int .i64 clk, srv, .int .i64 had] 73 (0, 0)
theorem boxO_cells {w : World} {T : Nat} {lv srv : Value} {clk had : Int} (h : w.heap[T]? = some (boxO lv clk srv had)) :
    w.cell? ⟨T, 0, none⟩ = some lv ∧ w.cell? ⟨T, 1, none⟩ = some (.int .i64 clk) ∧ w.cell? ⟨T, 2, none⟩ = some srv ∧ w.cell? ⟨T, 3, none⟩ = some (.int .i64 had) ∧ ∀ i, w.frozen? ⟨T, i, none⟩ = false :=
  ⟨by rw [cell_of_row _ _ _ _ _ _ h]; rfl, by rw [cell_of_row _ _ _ _ _ _ h]; rfl, by rw [cell_of_row _ _ _ _ _ _ h]; rfl, by rw [cell_of_row _ _ _ _ _ _ h]; rfl, fun i => by unfold boxO at h; simp [World.frozen?, h]⟩
theorem boxO_clk {w : World} {T : Nat} {lv srv : Value} {clk had : Int} (h : w.heap[T]? = some (boxO lv clk srv had)) (x : Int) : (w.setCell ⟨T, 1, none⟩ (.int .i64 x)).heap[T]? = some (boxO lv x srv had) := by
  unfold boxO at h
  rw [row_set _ h]
  rfl
theorem boxO_srv {w : World} {T : Nat} {lv srv : Value} {clk had : Int} (h : w.heap[T]? = some (boxO lv clk srv had)) (x : Value) : (w.setCell ⟨T, 2, none⟩ x).heap[T]? = some (boxO lv clk x had) := by
  unfold boxO at h
  rw [row_set _ h]
  rfl
theorem boxO_had {w : World} {T : Nat} {lv srv : Value} {clk had : Int} (h : w.heap[T]? = some (boxO lv clk srv had)) (x : Int) : (w.setCell ⟨T, 3, none⟩ (.int .i64 x)).heap[T]? = some (boxO lv clk srv x) := by
  unfold boxO at h
  rw [row_set _ h]
  rfl
/-- The rows' plain parts and the scheduler's own cells are turned. -/
theorem SR.rows {w w' : World} {T : Nat} {lv srv srv' : Value} {m : List Rw} {clk had clk' had' : Int} (h : SR w T lv m clk srv had) (f : Rw → Rw) (hf : ∀ r, (f r).p = r.p ∧ (f r).Q = r.Q ∧ (f r).sv = r.sv ∧ (f r).t.ws = r.t.ws ∧ (f r).t.nm = r.t.nm)
    (hbox : w'.heap[T]? = some (boxO lv clk' srv' had')) (hr : ∀ r ∈ m, w'.heap[r.p]? = some (rowO (f r).t r.Q)) (hk : ∀ q, q < w.heap.size → q ≠ T → (∀ r ∈ m, q ≠ r.p) → w'.heap[q]? = w.heap[q]?) : SR w' T lv (m.map f) clk' srv' had' := by
  have e1 : pts (m.map f) = pts m := by unfold pts; rw [List.map_map]; exact List.map_congr_left fun r _ => (hf r).1
  have e2 : nms (m.map f) = nms m := by unfold nms; rw [List.map_map]; exact List.map_congr_left fun r _ => (hf r).2.2.2.2
  have e3 : (m.map f).map (fun r => r.Q) = m.map fun r => r.Q := by rw [List.map_map]; exact List.map_congr_left fun r _ => (hf r).2.1
  have hrow : Ptrs w' lv (pts m) := own_at h.row fun q hq => by
    obtain ⟨cur, hc⟩ := own_tag h.row hq
    refine hk q (h.lt q (.inr (.inl hq))) (ne_tag hc h.box (by decide)) fun r hr => ?_
    have h1 : w.heap[r.p]? = some (.cells _ 108 (0, 0)) := h.each r hr
    exact ne_tag hc h1 (by decide)
  refine ⟨hbox, by rw [e1]; exact hrow, fun x hx => ?_, fun x hx => ?_, by rw [e2]; exact h.up, by rw [e1]; exact h.nd, by rw [e3]; exact h.ndQ, fun i j q x y hx hy h1 h2 => ?_⟩
  · obtain ⟨r, hrm, rfl⟩ := List.mem_map.1 hx
    rw [(hf r).1, (hf r).2.1]
    exact hr r hrm
  · obtain ⟨r, hrm, rfl⟩ := List.mem_map.1 hx
    rw [(hf r).2.1, (hf r).2.2.1, (hf r).2.2.2.1]
    refine (h.que r hrm).at' fun q hq => ?_
    rcases hq with rfl | hq
    · exact hk _ (h.lt _ (.inr (.inr ⟨r, hrm, .inr (.inl rfl)⟩))) (h.tagT hrm).2.1 fun x hx => (h.tag2 hx hrm).2.2.2.1
    · exact hk _ (h.lt _ (.inr (.inr ⟨r, hrm, .inr (.inr hq)⟩))) (fun e => (h.tagT hrm).2.2.2.1 (by rw [hq, e])) fun x hx => ((h.tag2 hx hrm).2.2.2.2.1 q hq).1
  · rw [List.getElem?_map] at hx hy
    obtain ⟨x', hx', rfl⟩ := Option.map_eq_some_iff.1 hx
    obtain ⟨y', hy', rfl⟩ := Option.map_eq_some_iff.1 hy
    rw [(hf x').2.2.1] at h1
    rw [(hf y').2.2.1] at h2
    exact h.ndO i j q x' y' hx' hy' h1 h2
/-- Against a world before: the scheduler's cells and the rows' plain parts alone. -/
structure Tur (w W : World) (T : Nat) (m : List Rw) (bx : Obj) (g : Rw → Tn) : Prop where
  os : W.os = w.os
  tape : W.tape = w.tape
  output : W.output = w.output
  size : w.heap.size ≤ W.heap.size
  box : W.heap[T]? = some bx
  rows : ∀ r ∈ m, W.heap[r.p]? = some (rowO (g r) r.Q)
  oth : ∀ q, q < w.heap.size → q ≠ T → (∀ r ∈ m, q ≠ r.p) → W.heap[q]? = w.heap[q]?
theorem Tur.block {w W W' : World} {T : Nat} {m : List Rw} {bx : Obj} {g : Rw → Tn} (h : Tur w W T m bx g) (hT : T < w.heap.size) (hp : ∀ r ∈ m, r.p < w.heap.size) (hs : W.heap.size ≤ W'.heap.size) (ho : W'.os = W.os) (ht : W'.tape = W.tape) (hu : W'.output = W.output) (hk : ∀ q, q < w.heap.size → W'.heap[q]? = W.heap[q]?) : Tur w W' T m bx g :=
  ⟨ho.trans h.os, ht.trans h.tape, hu.trans h.output, Nat.le_trans h.size hs, (hk T hT).trans h.box, fun r hr => (hk r.p (hp r hr)).trans (h.rows r hr), fun q h1 h2 h3 => (hk q h1).trans (h.oth q h1 h2 h3)⟩
theorem Tur.bel {w W W' : World} {T : Nat} {m : List Rw} {bx : Obj} {g : Rw → Tn} (h : Tur w W T m bx g) (hT : T < w.heap.size) (hp : ∀ r ∈ m, r.p < w.heap.size) (hb : Below w.heap.size W W') : Tur w W' T m bx g :=
  h.block hT hp hb.size hb.os hb.tape hb.output fun q hq => hb.block q hq
theorem Tur.grown {w W W' : World} {T : Nat} {m : List Rw} {bx : Obj} {g : Rw → Tn} {row : Option Nat} (h : Tur w W T m bx g) (hT : T < w.heap.size) (hp : ∀ r ∈ m, r.p < w.heap.size) (hg : W.grownBy W' row) (hr : ∀ r, row = some r → w.heap.size ≤ r) : Tur w W' T m bx g :=
  h.block hT hp hg.size hg.os hg.tape hg.output fun q hq => hg.block q (by have := h.size; omega) fun e => by have := hr q e.symm; omega
theorem Tur.sr {w W : World} {T : Nat} {lv srv srv' : Value} {m : List Rw} {clk had clk' had' : Int} {g : Rw → Tn} (t : Tur w W T m (boxO lv clk' srv' had') g) (h : SR w T lv m clk srv had) (f : Rw → Rw) (hf : ∀ r, (f r).p = r.p ∧ (f r).Q = r.Q ∧ (f r).sv = r.sv ∧ (f r).t.ws = r.t.ws ∧ (f r).t.nm = r.t.nm) (hg : ∀ r ∈ m, g r = (f r).t) : SR W T lv (m.map f) clk' srv' had' :=
  h.rows f hf t.box (fun r hr => by rw [← hg r hr]; exact t.rows r hr) t.oth
theorem Tur.of {w : World} {T : Nat} {lv srv : Value} {m : List Rw} {clk had : Int} (h : SR w T lv m clk srv had) : Tur w w T m (boxO lv clk srv had) (fun r => r.t) :=
  ⟨rfl, rfl, rfl, Nat.le_refl _, h.box, h.each, fun _ _ _ _ => rfl⟩
theorem Tur.clk {w W : World} {T : Nat} {m : List Rw} {lv srv : Value} {clk had : Int} {g : Rw → Tn} (h : Tur w W T m (boxO lv clk srv had) g) (hp : ∀ r ∈ m, r.p ≠ T) (x : Int) : Tur w (W.setCell ⟨T, 1, none⟩ (.int .i64 x)) T m (boxO lv x srv had) g :=
  ⟨h.os, h.tape, h.output, by simpa using h.size, boxO_clk h.box x, fun r hr => (Below.heap_setCell _ _ _ _ (hp r hr)).trans (h.rows r hr), fun q h1 h2 h3 => (Below.heap_setCell _ _ _ _ h2).trans (h.oth q h1 h2 h3)⟩
theorem Tur.srv {w W : World} {T : Nat} {m : List Rw} {lv srv : Value} {clk had : Int} {g : Rw → Tn} (h : Tur w W T m (boxO lv clk srv had) g) (hp : ∀ r ∈ m, r.p ≠ T) (x : Value) : Tur w (W.setCell ⟨T, 2, none⟩ x) T m (boxO lv clk x had) g :=
  ⟨h.os, h.tape, h.output, by simpa using h.size, boxO_srv h.box x, fun r hr => (Below.heap_setCell _ _ _ _ (hp r hr)).trans (h.rows r hr), fun q h1 h2 h3 => (Below.heap_setCell _ _ _ _ h2).trans (h.oth q h1 h2 h3)⟩
theorem Tur.had {w W : World} {T : Nat} {m : List Rw} {lv srv : Value} {clk had : Int} {g : Rw → Tn} (h : Tur w W T m (boxO lv clk srv had) g) (hp : ∀ r ∈ m, r.p ≠ T) (x : Int) : Tur w (W.setCell ⟨T, 3, none⟩ (.int .i64 x)) T m (boxO lv clk srv x) g :=
  ⟨h.os, h.tape, h.output, by simpa using h.size, boxO_had h.box x, fun r hr => (Below.heap_setCell _ _ _ _ (hp r hr)).trans (h.rows r hr), fun q h1 h2 h3 => (Below.heap_setCell _ _ _ _ h2).trans (h.oth q h1 h2 h3)⟩
def z0 (t : Tn) : Tn := { t with fin := 0 }
def zf (ps : List Nat) (r : Rw) : Tn := if r.p ∈ ps then z0 r.t else r.t
theorem rw_eq {m : List Rw} (h : (pts m).Nodup) {r x : Rw} (hr : r ∈ m) (hx : x ∈ m) (e : r.p = x.p) : r = x := by
  obtain ⟨i, hi⟩ := List.getElem?_of_mem hr
  obtain ⟨j, hj⟩ := List.getElem?_of_mem hx
  have := nodup_at h (pts_at hi) (by rw [pts_at hj, e])
  subst this
  rw [hi] at hj
  exact Option.some.inj hj
theorem rowO_z {w : World} {p Q : Nat} {t : Tn} (h : w.heap[p]? = some (rowO t Q)) : (w.setCell ⟨p, 3, none⟩ (.int .i64 0)).heap[p]? = some (rowO (z0 t) Q) := rowO_fin h 0 t.ws
theorem Tur.zero {w W : World} {T : Nat} {m : List Rw} {bx : Obj} {ps : List Nat} (h : Tur w W T m bx (zf ps)) (hp : ∀ r ∈ m, r.p ≠ T) (hnd : (pts m).Nodup) {x : Rw} (hx : x ∈ m) : Tur w (W.setCell ⟨x.p, 3, none⟩ (.int .i64 0)) T m bx (zf (ps ++ [x.p])) := by
  refine ⟨h.os, h.tape, h.output, by simpa using h.size, (Below.heap_setCell _ _ _ _ (Ne.symm (hp x hx))).trans h.box, fun r hr => ?_, fun q h1 h2 h3 => (Below.heap_setCell _ _ _ _ (h3 x hx)).trans (h.oth q h1 h2 h3)⟩
  by_cases e : r.p = x.p
  · have := rw_eq hnd hr hx e
    subst this
    rw [rowO_z (h.rows r hr)]
    unfold zf
    by_cases e2 : r.p ∈ ps
    · simp [e2]; rfl
    · simp [e2]
  · rw [Below.heap_setCell _ _ _ _ e, h.rows r hr]
    unfold zf
    simp [e]
end Go.Proofs.Ytfndbllpnkhlhaa
