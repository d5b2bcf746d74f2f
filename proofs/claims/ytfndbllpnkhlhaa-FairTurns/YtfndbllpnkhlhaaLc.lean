/- The program's Drop. -/
import Derived.Test.YtfndbllpnkhlhaaLb
namespace Go.Proofs.Ytfndbllpnkhlhaa
open Go.RowKit Go.Shelf
set_option linter.unusedVariables false
set_option linter.unusedSimpArgs false
attribute [local go_sem] Oper.semAt_some

/-- A row whose queue was dropped. -/
def dr (r : Rw) : Rw := match r.t.ws with | [] => r | _ :: _ => { r with sv := .slice none 0 0, t := { r.t with ws := [] } }
theorem dr_p (r : Rw) : (dr r).p = r.p ∧ (dr r).Q = r.Q ∧ (dr r).t.ws = [] ∧ (dr r).t.nm = r.t.nm ∧ (dr r).t.wt = r.t.wt ∧ (dr r).t.fin = r.t.fin ∧ (∀ q, (dr r).sv.ownBlock = some q → r.sv.ownBlock = some q) := by
  unfold dr
  split
  · rename_i h
    exact ⟨rfl, rfl, h, rfl, rfl, rfl, fun q h => h⟩
  · exact ⟨rfl, rfl, rfl, rfl, rfl, rfl, fun q h => by cases h⟩
def zd (ps : List Nat) (r : Rw) : Rw := if r.p ∈ ps then dr r else r
theorem zd_own (ps : List Nat) (r : Rw) : ∀ q, (zd ps r).sv.ownBlock = some q → r.sv.ownBlock = some q := by
  unfold zd
  split
  · exact (dr_p r).2.2.2.2.2.2
  · exact fun q h => h
structure Tq (w W : World) (m : List Rw) (ps : List Nat) : Prop where
  os : W.os = w.os
  tape : W.tape = w.tape
  output : W.output = w.output
  size : w.heap.size ≤ W.heap.size
  que : ∀ r ∈ m, QB W r.Q (zd ps r).sv (zd ps r).t.ws
  oth : ∀ q, q < w.heap.size → (∀ r ∈ m, q ≠ r.Q) → W.heap[q]? = w.heap[q]?
theorem Tq.block {w W W' : World} {m : List Rw} {ps : List Nat} (h : Tq w W m ps) (hQ : ∀ r ∈ m, r.Q < w.heap.size) (hO : ∀ r ∈ m, ∀ q, r.sv.ownBlock = some q → q < w.heap.size) (hs : W.heap.size ≤ W'.heap.size) (ho : W'.os = W.os) (ht : W'.tape = W.tape) (hu : W'.output = W.output) (hk : ∀ q, q < w.heap.size → W'.heap[q]? = W.heap[q]?) : Tq w W' m ps :=
  ⟨ho.trans h.os, ht.trans h.tape, hu.trans h.output, Nat.le_trans h.size hs, fun r hr => (h.que r hr).at' fun q hq => hk q (by
    rcases hq with e | e
    · rw [e]; exact hQ r hr
    · exact hO r hr q (zd_own ps r q e)), fun q h1 h2 => (hk q h1).trans (h.oth q h1 h2)⟩
theorem Tq.grown {w W W' : World} {m : List Rw} {ps : List Nat} {row : Option Nat} (h : Tq w W m ps) (hQ : ∀ r ∈ m, r.Q < w.heap.size) (hO : ∀ r ∈ m, ∀ q, r.sv.ownBlock = some q → q < w.heap.size) (hg : W.grownBy W' row) (hr : ∀ r, row = some r → w.heap.size ≤ r) : Tq w W' m ps :=
  h.block hQ hO hg.size hg.os hg.tape hg.output fun q hq => hg.block q (by have := h.size; omega) fun e => by have := hr q e.symm; omega
def dropW (w : World) (Q : Nat) : List Wk → World
  | [] => w
  | _ :: _ => w.setCell ⟨Q, 1, none⟩ (.slice none 0 0)
theorem tdrop_any (Q : Nat) (sv : Value) (ws : List Wk) (w : World) (h : QB w Q sv ws) (hl : ws.length ≤ 16) : Calls Try.prog 58 #[.pointer (some ⟨Q, 0, none⟩)] w fun e w' => (∃ v, e = .returned v) ∧ w' = dropW w Q ws := by
  have HL : Hid (∀ W : World, W = w → Calls Try.prog 57 #[.pointer (some ⟨Q, 0, none⟩)] W fun e w' => e = .returned (.int .i64 (ws.length : Int)) ∧ w' = W) := fun W e => by subst e; exact qlen_any Q sv ws W h
  obtain ⟨c0, c1, c2⟩ := h.cells
  cases ws with
  | nil =>
    clear h hl
    go_enter Try.func58, Try.ntmps58
    go_wp2_with (go_at_call 57; refine (HL.out _ rfl).mono ?_; rintro e w1 ⟨rfl, hw1⟩; rw [hw1]; clear hw1)
    go_ret
    exact ⟨⟨_, rfl⟩, rfl⟩
  | cons x r =>
    obtain ⟨a, cap, rfl, _, _⟩ := tl_slice h.items
    simp only [List.length_cons] at HL c1 hl
    have hz2 : (0 : Int) < (r.length : Int) + 1 := by omega
    have hl' : (r.length : Int) + 1 ≤ 16 := by omega
    rw [show ((r.length + 1 : Nat) : Int) = (r.length : Int) + 1 by omega] at HL
    clear h hl
    go_enter Try.func58, Try.ntmps58
    go_wp2_with (go_at_call 57; refine (HL.out _ rfl).mono ?_; rintro e w1 ⟨rfl, hw1⟩; rw [hw1]; clear hw1)
    go_ret
    exact ⟨⟨_, rfl⟩, rfl⟩
theorem SR.ltQ {w : World} {T : Nat} {lv srv : Value} {m : List Rw} {clk had : Int} (h : SR w T lv m clk srv had) : ∀ r ∈ m, r.Q < w.heap.size := fun r hr => h.lt _ (.inr (.inr ⟨r, hr, .inr (.inl rfl)⟩))
theorem SR.ltO {w : World} {T : Nat} {lv srv : Value} {m : List Rw} {clk had : Int} (h : SR w T lv m clk srv had) : ∀ r ∈ m, ∀ q, r.sv.ownBlock = some q → q < w.heap.size := fun r hr q hq => h.lt _ (.inr (.inr ⟨r, hr, .inr (.inr hq)⟩))
theorem rwQ_eq {m : List Rw} (h : (m.map fun r => r.Q).Nodup) {r x : Rw} (hr : r ∈ m) (hx : x ∈ m) (e : r.Q = x.Q) : r = x := by
  obtain ⟨i, hi⟩ := List.getElem?_of_mem hr
  obtain ⟨j, hj⟩ := List.getElem?_of_mem hx
  have := nodup_at (l := m.map fun r => r.Q) (x := r.Q) h (by rw [List.getElem?_map, hi]; rfl) (by rw [List.getElem?_map, hj, e]; rfl)
  subst this
  rw [hi] at hj
  exact Option.some.inj hj
/-- One queue more is dropped. -/
theorem Tq.drop {w W : World} {T : Nat} {lv srv : Value} {m : List Rw} {clk had : Int} {ps : List Nat} (h : SR w T lv m clk srv had) (t : Tq w W m ps) {x : Rw} (hx : x ∈ m) : Tq w (dropW W x.Q (zd ps x).t.ws) m (ps ++ [x.p]) := by
  have hmem : ∀ r ∈ m, r ≠ x → zd (ps ++ [x.p]) r = zd ps r := fun r hr hne => by
    have hp : r.p ≠ x.p := fun e => hne (rw_eq h.nd hr hx e)
    unfold zd
    simp [hp]
  have hself : zd (ps ++ [x.p]) x = dr x := by unfold zd; simp
  have hxq := t.que x hx
  cases hz : (zd ps x).t.ws with
  | nil =>
    refine ⟨t.os, t.tape, t.output, t.size, fun r hr => ?_, t.oth⟩
    by_cases e : r = x
    · subst e
      rw [hself]
      have e2 : dr r = zd ps r := by
        unfold zd at hz ⊢
        split at hz
        · rename_i hm
          rw [if_pos hm]
        · rename_i hm
          rw [if_neg hm]
          unfold dr
          rw [hz]
      rw [e2]
      exact t.que r hr
    · rw [hmem r hr e]
      exact t.que r hr
  | cons y ys =>
    have hnp : ¬ x.p ∈ ps := fun hm => by
      unfold zd at hz
      rw [if_pos hm, (dr_p x).2.2.1] at hz
      cases hz
    have hzx : zd ps x = x := by unfold zd; rw [if_neg hnp]
    rw [hzx] at hz hxq
    refine ⟨t.os, t.tape, t.output, by have := t.size; show w.heap.size ≤ (W.setCell ⟨x.Q, 1, none⟩ (.slice none 0 0)).heap.size; simpa using this, fun r hr => ?_, fun q h1 h2 => (Below.heap_setCell _ _ _ _ (h2 x hx)).trans (t.oth q h1 h2)⟩
    by_cases e : r = x
    · subst e
      rw [hself]
      have e2 : dr r = { r with sv := .slice none 0 0, t := { r.t with ws := [] } } := by unfold dr; rw [hz]
      rw [e2]
      refine ⟨?_, Tl.nil _ _ _⟩
      show (W.setCell ⟨r.Q, 1, none⟩ (.slice none 0 0)).heap[r.Q]? = _
      rw [row_set _ hxq.box]
      rfl
    · rw [hmem r hr e]
      refine (t.que r hr).at' fun q hq => Below.heap_setCell _ _ _ _ fun e2 => ?_
      have e3 : q = x.Q := e2
      rcases hq with e4 | e4
      · exact e (rwQ_eq h.ndQ hr hx (e4.symm.trans e3))
      · have := zd_own ps r q e4
        exact (h.tag2 hr hx).2.2.1 (by rw [← e3]; exact this.symm)
theorem Tq.of {w : World} {T : Nat} {lv srv : Value} {m : List Rw} {clk had : Int} (h : SR w T lv m clk srv had) : Tq w w m [] :=
  ⟨rfl, rfl, rfl, Nat.le_refl _, fun r hr => by have e : zd [] r = r := (by simp [zd]); rw [e]; exact h.que r hr, fun _ _ _ => rfl⟩
/-- All are dropped. -/
theorem Tq.sr {w W : World} {T : Nat} {lv srv : Value} {m : List Rw} {clk had : Int} {ps : List Nat} (h : SR w T lv m clk srv had) (t : Tq w W m ps) (hps : ∀ r ∈ m, r.p ∈ ps) : SR W T lv (m.map dr) clk srv had := by
  have e1 : pts (m.map dr) = pts m := by unfold pts; rw [List.map_map]; exact List.map_congr_left fun r _ => (dr_p r).1
  have e2 : nms (m.map dr) = nms m := by unfold nms; rw [List.map_map]; exact List.map_congr_left fun r _ => (dr_p r).2.2.2.1
  have e3 : (m.map dr).map (fun r => r.Q) = m.map fun r => r.Q := by rw [List.map_map]; exact List.map_congr_left fun r _ => (dr_p r).2.1
  have hT : W.heap[T]? = w.heap[T]? := t.oth T h.ltT fun r hr e => (h.tagT hr).2.1 e.symm
  refine ⟨hT.trans h.box, ?_, fun x hx => ?_, fun x hx => ?_, by rw [e2]; exact h.up, by rw [e1]; exact h.nd, by rw [e3]; exact h.ndQ, fun i j q x y hx hy h1 h2 => ?_⟩
  · rw [e1]
    refine own_at h.row fun q hq => t.oth q (h.lt q (.inr (.inl hq))) fun r hr e => ?_
    exact ((h.tag2 hr hr).2.2.2.2.2 q hq).2.2.1 e
  · obtain ⟨r, hr, rfl⟩ := List.mem_map.1 hx
    have d := dr_p r
    rw [d.1, d.2.1]
    have e4 : rowO (dr r).t r.Q = rowO r.t r.Q := by unfold rowO; rw [d.2.2.2.1, d.2.2.2.2.1, d.2.2.2.2.2.1]
    rw [e4, t.oth r.p (h.ltp r hr) fun x hx => (h.tag2 hx hr).1]
    exact h.each r hr
  · obtain ⟨r, hr, rfl⟩ := List.mem_map.1 hx
    have d := dr_p r
    have := t.que r hr
    unfold zd at this
    rw [if_pos (hps r hr)] at this
    rw [d.2.1]
    exact this
  · rw [List.getElem?_map] at hx hy
    obtain ⟨x', hx', rfl⟩ := Option.map_eq_some_iff.1 hx
    obtain ⟨y', hy', rfl⟩ := Option.map_eq_some_iff.1 hy
    exact h.ndO i j q x' y' hx' hy' ((dr_p x').2.2.2.2.2.2 q h1) ((dr_p y').2.2.2.2.2.2 q h2)
end Go.Proofs.Ytfndbllpnkhlhaa
