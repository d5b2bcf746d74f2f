/- The program's queues of numbers. -/
import Derived.Test.YtfndbllpnkhlhaaKg
import Derived.Test.YtfndbllpnkhlhaaQ1
namespace Go.Proofs.Ytfndbllpnkhlhaa
open Go.RowKit
set_option linter.unusedVariables false
set_option linter.unusedSimpArgs false

/-- A queue of numbers as it lies. -/
structure QI (w : World) (Q : Nat) (most : Int) (sv : Value) (l : List Int) : Prop where
  box : w.heap[Q]? = some (.cells #[.int .i64 most, sv] 66 (0, 0))
  items : Tl iv 1 w 0 3 sv l
theorem QI.at' {w w' : World} {Q : Nat} {most : Int} {sv : Value} {l : List Int} (h : QI w Q most sv l) (hk : ∀ q, q = Q ∨ sv.ownBlock = some q → w'.heap[q]? = w.heap[q]?) : QI w' Q most sv l :=
  ⟨(hk Q (.inl rfl)).trans h.box, tl_at h.items fun q hq => hk q (.inr hq)⟩
theorem QI.lt {w : World} {Q : Nat} {most : Int} {sv : Value} {l : List Int} (h : QI w Q most sv l) : ∀ q, q = Q ∨ sv.ownBlock = some q → q < w.heap.size := by
  rintro q (rfl | hq)
  · exact (Array.getElem?_eq_some_iff.1 h.box).1
  · obtain ⟨cur, hc⟩ := tl_tag h.items hq
    exact (Array.getElem?_eq_some_iff.1 hc).1
theorem QI.cells {w : World} {Q : Nat} {most : Int} {sv : Value} {l : List Int} (h : QI w Q most sv l) : w.cell? ⟨Q, 0, none⟩ = some (.int .i64 most) ∧ w.cell? ⟨Q, 1, none⟩ = some sv ∧ w.frozen? ⟨Q, 1, none⟩ = false :=
  ⟨by rw [cell_of_row _ _ _ _ _ _ h.box]; rfl, by rw [cell_of_row _ _ _ _ _ _ h.box]; rfl, by simp [World.frozen?, h.box]⟩
def PQ (w : World) (Q : Nat) (F : Nat → Prop) (most : Int) (l : List Int) : Prop := ∃ sv, QI w Q most sv l ∧ ∀ q, F q ↔ (q = Q ∨ sv.ownBlock = some q)
theorem PQ.at' {w w' : World} {Q : Nat} {F : Nat → Prop} {most : Int} {l : List Int} (h : PQ w Q F most l) (hk : ∀ q, F q → w'.heap[q]? = w.heap[q]?) : PQ w' Q F most l := by
  obtain ⟨sv, h1, h2⟩ := h
  exact ⟨sv, h1.at' fun q hq => hk q ((h2 q).2 hq), h2⟩
theorem PQ.lt {w : World} {Q : Nat} {F : Nat → Prop} {most : Int} {l : List Int} (h : PQ w Q F most l) : ∀ q, F q → q < w.heap.size := by
  obtain ⟨sv, h1, h2⟩ := h
  exact fun q hq => h1.lt q ((h2 q).1 hq)
theorem PQ.same {w : World} {Q : Nat} {F : Nat → Prop} {most : Int} {l : List Int} (h : PQ w Q F most l) : ∃ F', PQ w Q F' most l ∧ Fr F F' w w := ⟨F, h, ⟨rfl, rfl, rfl, Nat.le_refl _, fun _ _ _ => rfl, fun _ h => .inl h⟩⟩
theorem PQ.newer {w w' : World} {Q : Nat} {F : Nat → Prop} {most : Int} {l : List Int} (h : PQ w Q F most l) (hb : Below w.heap.size w w') : ∃ F', PQ w' Q F' most l ∧ Fr F F' w w' :=
  ⟨F, h.at' fun q hq => hb.block q (h.lt q hq), ⟨hb.os, hb.tape, hb.output, hb.size, fun q hq _ => hb.block q hq, fun q hq => .inl hq⟩⟩
theorem inothing (most : Int) (w : World) (h : most < 1) : Calls Try.prog 9 #[.int .i64 most] w fun e w' => e = .returned (.pointer none) ∧ Below w.heap.size w w' := by
  go_enter Try.func9, Try.ntmps9
  go_wp2
  go_ret
  exact ⟨rfl, Below.refl _ _⟩
theorem inew (most : Int) (w : World) (h : 1 ≤ most) : Calls Try.prog 9 #[.int .i64 most] w fun e w' => ∃ Q F, e = .returned (.pointer (some ⟨Q, 0, none⟩)) ∧ PQ w' Q F most [] ∧ (∀ q, F q → w.heap.size ≤ q) ∧ Below w.heap.size w w' := by
  have h' : ¬ most < 1 := by omega
  go_enter Try.func9, Try.ntmps9
  go_wp2
  go_ret
  refine ⟨w.heap.size, rfl, fun q => q = w.heap.size ∨ (Value.slice none 0 0).ownBlock = some q, ⟨.slice none 0 0, ⟨heap_alloc_new _ _, Tl.nil _ _ _⟩, fun q => Iff.rfl⟩, ?_, bel1' _ _⟩
  rintro q (rfl | hq)
  · exact Nat.le_refl _
  · cases hq
theorem ilen_any (Q : Nat) (most : Int) (sv : Value) (l : List Int) (w : World) (h : QI w Q most sv l) : Calls Try.prog 16 #[.pointer (some ⟨Q, 0, none⟩)] w fun e w' => e = .returned (.int .i64 (l.length : Int)) ∧ w' = w := by
  obtain ⟨a, cap, rfl, _, _⟩ := tl_slice h.items
  obtain ⟨c0, c1, _⟩ := h.cells
  clear h
  go_enter Try.func16, Try.ntmps16
  go_wp2
  go_ret
  exact ⟨rfl, rfl⟩
set_option maxRecDepth 20000 in
set_option maxHeartbeats 4000000 in
theorem ipeek_any (Q : Nat) (most : Int) (sv : Value) (l : List Int) (w : World) (h : QI w Q most sv l) (hl : l.length ≤ 1000) : Calls Try.prog 13 #[.pointer (some ⟨Q, 0, none⟩)] w fun e w' => e = .returned (.tuple #[.int .i64 (l.headD 0), .bool (!l.isEmpty)]) ∧ w' = w := by
  have HL : Hid (∀ W : World, W = w → Calls Try.prog 16 #[.pointer (some ⟨Q, 0, none⟩)] W fun e w' => e = .returned (.int .i64 (l.length : Int)) ∧ w' = W) := fun W e => by subst e; exact ilen_any Q most sv l W h
  cases l with
  | nil =>
    clear h hl
    go_enter Try.func13, Try.ntmps13
    go_wp2_with (go_at_call 16; refine (HL.out _ rfl).mono ?_; rintro e w1 ⟨rfl, hw1⟩; rw [hw1]; clear hw1)
    go_ret2
    exact ⟨rfl, rfl⟩
  | cons x r =>
    rcases h.items with ⟨_, hn⟩ | ⟨g, o, cap, cur, hv, _, hg, h1, h2, h3, h4⟩
    · cases hn
    · subst hv
      obtain ⟨c0, c1, _⟩ := h.cells
      have e0 : w.cell? ⟨g, o, none⟩ = some (.int .i64 x) := by
        rw [cell_of_row _ _ _ _ _ _ hg]
        exact h4 0 _ rfl
      have hcap : (1 : Int) ≤ (cap : Int) := by simp at h1; omega
      have hz : ¬ ((r.length : Int) + 1 = 0) := by omega
      have hz2 : (0 : Int) < (r.length : Int) + 1 := by omega
      simp only [List.length_cons] at HL c1 hl
      have hl' : (r.length : Int) + 1 ≤ 1000 := by omega
      rw [show ((r.length + 1 : Nat) : Int) = (r.length : Int) + 1 by omega] at HL
      clear h h1 h2 h3 h4 hl
      go_enter Try.func13, Try.ntmps13
      go_wp2_with (go_at_call 16; refine (HL.out _ rfl).mono ?_; rintro e w1 ⟨rfl, hw1⟩; rw [hw1]; clear hw1)
      go_ret2
      exact ⟨rfl, rfl⟩
set_option maxRecDepth 20000 in
theorem idrop_any (Q : Nat) (F : Nat → Prop) (most : Int) (l : List Int) (w : World) (h : PQ w Q F most l) (hl : l.length ≤ 1000) : Calls Try.prog 12 #[.pointer (some ⟨Q, 0, none⟩)] w fun e w' => e = .returned (.int .i64 (l.length : Int)) ∧ ∃ F', PQ w' Q F' most [] ∧ Fr F F' w w' := by
  have HS : Hid (PQ w Q F most l) := h
  obtain ⟨sv, h1, h2⟩ := h
  have HL : Hid (∀ W : World, W = w → Calls Try.prog 16 #[.pointer (some ⟨Q, 0, none⟩)] W fun e w' => e = .returned (.int .i64 (l.length : Int)) ∧ w' = W) := fun W e => by subst e; exact ilen_any Q most sv l W h1
  obtain ⟨c0, c1, c2⟩ := h1.cells
  cases l with
  | nil =>
    clear h1 h2 hl
    go_enter Try.func12, Try.ntmps12
    go_wp2_with (go_at_call 16; refine (HL.out _ rfl).mono ?_; rintro e w1 ⟨rfl, hw1⟩; rw [hw1]; clear hw1)
    go_ret
    exact ⟨rfl, HS.out.same⟩
  | cons x r =>
    have HE : Hid (∃ F', PQ (w.setCell ⟨Q, 1, none⟩ (.slice none 0 0)) Q F' most [] ∧ Fr F F' w (w.setCell ⟨Q, 1, none⟩ (.slice none 0 0))) := by
      refine ⟨fun q => q = Q ∨ (Value.slice none 0 0).ownBlock = some q, ⟨.slice none 0 0, ⟨?_, Tl.nil _ _ _⟩, fun q => Iff.rfl⟩, ⟨rfl, rfl, rfl, by simp, fun q hq hn => Below.heap_setCell _ _ _ _ fun e => hn ((h2 q).2 (.inl e)), fun q hq => ?_⟩⟩
      · rw [row_set _ h1.box]; rfl
      · rcases hq with e | e
        · exact .inl ((h2 q).2 (.inl e))
        · cases e
    obtain ⟨a, cap, rfl, _, _⟩ := tl_slice h1.items
    simp only [List.length_cons] at HL c1 hl
    have hz2 : (0 : Int) < (r.length : Int) + 1 := by omega
    have hl' : (r.length : Int) + 1 ≤ 1000 := by omega
    rw [show ((r.length + 1 : Nat) : Int) = (r.length : Int) + 1 by omega] at HL
    clear h1 h2 hl HS
    go_enter Try.func12, Try.ntmps12
    go_wp2_with (go_at_call 16; refine (HL.out _ rfl).mono ?_; rintro e w1 ⟨rfl, hw1⟩; rw [hw1]; clear hw1)
    go_ret
    exact ⟨by simp, HE.out⟩
end Go.Proofs.Ytfndbllpnkhlhaa
