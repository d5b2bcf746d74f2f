/- A table of fixed turns: Step's parts. -/
import Derived.Test.YtkigagglkmdccaaTe
namespace Go.Proofs.Ytkigagglkmdccaa
open Go.RowKit
set_option linter.unusedVariables false
set_option linter.unusedSimpArgs false

/-- What a slot does for a name. -/
def srvJ (J : List UInt8 → List Wn) (s : List UInt8) : (Int × Int × Bool × Bool) × (List UInt8 → List Wn) :=
  match J s with
  | [] => ((0, 0, false, false), J)
  | (id, cost, n) :: r => ((id, cost, decide (n ≤ 1), true), upd J s (if n ≤ 1 then r else (id, cost, n - 1) :: r))
/-- Jobs as they may be. -/
def Jok (J : List UInt8 → List Wn) : Prop := ∀ s, (J s).length ≤ 16 ∧ ∀ j ∈ J s, 1 ≤ j.2.2 ∧ j.2.2 ≤ 1000
theorem MP.newer {w w' : World} {B : Nat} {F : Nat → Prop} {J : List UInt8 → List Wn} (h : MP w B F J) (hb : Below w.heap.size w w') : MP w' B F J ∧ Fr F F w w' :=
  ⟨h.at' fun q hq => hb.block q (h.lt q hq), ⟨hb.os, hb.tape, hb.output, hb.size, fun q hq _ => hb.block q hq, fun q hq => .inl hq⟩⟩
theorem mserve_both {w : World} {B : Nat} {F : Nat → Prop} {J : List UInt8 → List Wn} (h : MP w B F J) (s : List UInt8) (ho : Jok J) :
    Calls Try.prog 39 #[.map (some B), .string (tx s)] w fun e w' => e = .returned (.tuple #[.agg #[.int .i64 (srvJ J s).1.1, .int .i64 (srvJ J s).1.2.1], .bool (srvJ J s).1.2.2.1, .bool (srvJ J s).1.2.2.2]) ∧ ∃ F', MP w' B F' (srvJ J s).2 ∧ Fr F F' w w' := by
  cases hJ : J s with
  | nil =>
    have e : srvJ J s = ((0, 0, false, false), J) := by unfold srvJ; rw [hJ]
    rw [e]
    refine (mserve_none h s hJ).mono ?_
    rintro e w' ⟨rfl, hb⟩
    exact ⟨rfl, F, h.newer hb⟩
  | cons j r =>
    obtain ⟨id, cost, n⟩ := j
    have e : srvJ J s = ((id, cost, decide (n ≤ 1), true), upd J s (if n ≤ 1 then r else (id, cost, n - 1) :: r)) := by unfold srvJ; rw [hJ]
    rw [e]
    exact mserve_any h s hJ (ho s).1 ((ho s).2 (id, cost, n) (by rw [hJ]; exact List.mem_cons_self ..))
theorem TR.not40 {w : World} {T : Nat} {a : Pa} {x : Fx} (h : TR w T a x) {g : Nat} {cs : Array Value} (hg : w.heap[g]? = some (.cells cs 40 (0, 0))) : ¬ TF a g := by
  rintro (k | k | k | k)
  · obtain ⟨cs', t, e, ht⟩ := h.sched.kind k
    rw [hg] at e
    rcases ht with rfl | rfl | rfl | rfl | rfl <;> cases e
  · obtain ⟨cs', e⟩ := own_tag h.names k
    rw [hg] at e
    cases e
  · obtain ⟨cs', e⟩ := own_tag h.weights k
    rw [hg] at e
    cases e
  · rcases h.jobs.kind k with ⟨es, c, e⟩ | ⟨cs', t, e, ht⟩
    · rw [hg] at e; cases e
    · rw [hg] at e
      rcases ht with rfl | rfl | rfl <;> cases e
theorem TR.frozen {w : World} {T : Nat} {a : Pa} {x : Fx} (h : TR w T a x) : w.frozen? ⟨T, 1, none⟩ = false := by
  obtain ⟨lv, m, srv, had, h1, h2, h3, h4⟩ := h.sched
  have e := h1.box
  simp [World.frozen?, e]
theorem served_cells {w : World} {g : Nat} {c0 c1 c2 c3 c4 c5 : Value} (e : w.heap[g]? = some (.cells #[c0, c1, c2, c3, c4, c5] 40 (0, 0))) : (w.cell? ⟨g, 0, none⟩ = some c0 ∧ w.cell? ⟨g, 1, none⟩ = some c1 ∧ w.cell? ⟨g, 2, none⟩ = some c2 ∧ w.cell? ⟨g, 3, none⟩ = some c3 ∧ w.cell? ⟨g, 4, none⟩ = some c4 ∧ w.cell? ⟨g, 5, none⟩ = some c5) ∧ (w.frozen? ⟨g, 0, none⟩ = false ∧ w.frozen? ⟨g, 1, none⟩ = false ∧ w.frozen? ⟨g, 2, none⟩ = false ∧ w.frozen? ⟨g, 3, none⟩ = false ∧ w.frozen? ⟨g, 4, none⟩ = false ∧ w.frozen? ⟨g, 5, none⟩ = false) :=
  ⟨⟨by rw [cell_of_row _ _ _ _ _ _ e]; rfl, by rw [cell_of_row _ _ _ _ _ _ e]; rfl, by rw [cell_of_row _ _ _ _ _ _ e]; rfl, by rw [cell_of_row _ _ _ _ _ _ e]; rfl, by rw [cell_of_row _ _ _ _ _ _ e]; rfl, by rw [cell_of_row _ _ _ _ _ _ e]; rfl⟩, by simp [World.frozen?, e], by simp [World.frozen?, e], by simp [World.frozen?, e], by simp [World.frozen?, e], by simp [World.frozen?, e], by simp [World.frozen?, e]⟩
theorem row6_set {W : World} {g : Nat} {c0 c1 c2 c3 c4 c5 : Value} {t : TypeId} (d0 d1 d2 d3 d4 d5 : Value) (h : W.heap[g]? = some (.cells #[c0, c1, c2, c3, c4, c5] t (0, 0))) : ((((((W.setCell ⟨g, 0, none⟩ d0).setCell ⟨g, 1, none⟩ d1).setCell ⟨g, 2, none⟩ d2).setCell ⟨g, 3, none⟩ d3).setCell ⟨g, 4, none⟩ d4).setCell ⟨g, 5, none⟩ d5).heap[g]? = some (.cells #[d0, d1, d2, d3, d4, d5] t (0, 0)) := by
  have h0 : (W.setCell ⟨g, 0, none⟩ d0).heap[g]? = some (.cells #[d0, c1, c2, c3, c4, c5] t (0, 0)) := row_set _ h
  generalize W.setCell ⟨g, 0, none⟩ d0 = W at h0 ⊢
  have h1 : (W.setCell ⟨g, 1, none⟩ d1).heap[g]? = some (.cells #[d0, d1, c2, c3, c4, c5] t (0, 0)) := row_set _ h0
  generalize W.setCell ⟨g, 1, none⟩ d1 = W at h1 ⊢
  have h2 : (W.setCell ⟨g, 2, none⟩ d2).heap[g]? = some (.cells #[d0, d1, d2, c3, c4, c5] t (0, 0)) := row_set _ h1
  generalize W.setCell ⟨g, 2, none⟩ d2 = W at h2 ⊢
  have h3 : (W.setCell ⟨g, 3, none⟩ d3).heap[g]? = some (.cells #[d0, d1, d2, d3, c4, c5] t (0, 0)) := row_set _ h2
  generalize W.setCell ⟨g, 3, none⟩ d3 = W at h3 ⊢
  have h4 : (W.setCell ⟨g, 4, none⟩ d4).heap[g]? = some (.cells #[d0, d1, d2, d3, d4, c5] t (0, 0)) := row_set _ h3
  generalize W.setCell ⟨g, 4, none⟩ d4 = W at h4 ⊢
  exact row_set _ h4
theorem set6_rest (W : World) (g : Nat) (d0 d1 d2 d3 d4 d5 : Value) : ((((((W.setCell ⟨g, 0, none⟩ d0).setCell ⟨g, 1, none⟩ d1).setCell ⟨g, 2, none⟩ d2).setCell ⟨g, 3, none⟩ d3).setCell ⟨g, 4, none⟩ d4).setCell ⟨g, 5, none⟩ d5).os = W.os ∧ ((((((W.setCell ⟨g, 0, none⟩ d0).setCell ⟨g, 1, none⟩ d1).setCell ⟨g, 2, none⟩ d2).setCell ⟨g, 3, none⟩ d3).setCell ⟨g, 4, none⟩ d4).setCell ⟨g, 5, none⟩ d5).tape = W.tape ∧ ((((((W.setCell ⟨g, 0, none⟩ d0).setCell ⟨g, 1, none⟩ d1).setCell ⟨g, 2, none⟩ d2).setCell ⟨g, 3, none⟩ d3).setCell ⟨g, 4, none⟩ d4).setCell ⟨g, 5, none⟩ d5).output = W.output ∧ ((((((W.setCell ⟨g, 0, none⟩ d0).setCell ⟨g, 1, none⟩ d1).setCell ⟨g, 2, none⟩ d2).setCell ⟨g, 3, none⟩ d3).setCell ⟨g, 4, none⟩ d4).setCell ⟨g, 5, none⟩ d5).heap.size = W.heap.size := by
  have one : ∀ (V : World) (i : Nat) (v : Value), (V.setCell ⟨g, i, none⟩ v).os = V.os ∧ (V.setCell ⟨g, i, none⟩ v).tape = V.tape ∧ (V.setCell ⟨g, i, none⟩ v).output = V.output ∧ (V.setCell ⟨g, i, none⟩ v).heap.size = V.heap.size := fun V i v => ⟨rfl, rfl, rfl, by simp⟩
  refine ⟨?_, ?_, ?_, ?_⟩
  · rw [(one _ 5 d5).1, (one _ 4 d4).1, (one _ 3 d3).1, (one _ 2 d2).1, (one _ 1 d1).1, (one _ 0 d0).1]
  · rw [(one _ 5 d5).2.1, (one _ 4 d4).2.1, (one _ 3 d3).2.1, (one _ 2 d2).2.1, (one _ 1 d1).2.1, (one _ 0 d0).2.1]
  · rw [(one _ 5 d5).2.2.1, (one _ 4 d4).2.2.1, (one _ 3 d3).2.2.1, (one _ 2 d2).2.2.1, (one _ 1 d1).2.2.1, (one _ 0 d0).2.2.1]
  · rw [(one _ 5 d5).2.2.2, (one _ 4 d4).2.2.2, (one _ 3 d3).2.2.2, (one _ 2 d2).2.2.2, (one _ 1 d1).2.2.2, (one _ 0 d0).2.2.2]
end Go.Proofs.Ytkigagglkmdccaa
