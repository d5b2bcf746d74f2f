/- The law of blocks. -/
import Derived.Test.YtfdmepblhlifcaaDoorI4
import Derived.Test.YtfdmepblhlifcaaDoorB3
namespace Go.Proofs.YtfdmepblhlifcaaDoor
open Go.RowKit Go.Shelf
set_option linter.unusedVariables false
set_option linter.unusedSimpArgs false
attribute [local go_sem] Oper.semAt_some

/-- Bytes that can be written to any stream. -/
def Writes (w : World) (sv : Value) (bs : List Int) : Prop := ∀ (p base : Nat) (V : World) (zs : List Int), Below w.heap.size w V → w.heap.size ≤ p → p < base → base ≤ V.heap.size → w.heap.size ≤ base → Byt zs → (zs.length : Int) + (bs.length : Int) ≤ 140737488351232 → Holds V p base zs →
  Calls Tryd.prog 20 #[.pointer (some ⟨p, 0, none⟩), sv] V fun e w' => e = .returned (.int .i64 0) ∧ Holds w' p base (zs ++ bs) ∧ Bx p base V w'

/-- A stream as it is told: its list, and where that lies. -/
def Told (w : World) (p : Nat) (zs : List Int) (B : Nat) (pv : Value) : Prop :=
  (∃ s n rest left, Str w p s n pv rest left ∧ s.length = 8) ∧ (∃ base, w.ownsRow base 23 32 pv (zs.length / 64) (flatD zs (zs.length / 64))) ∧ ∀ g, pv.ownBlock = some g → g < B
theorem Told.later {w w' : World} {p : Nat} {zs : List Int} {B : Nat} {pv : Value} (h : Told w p zs B pv) (hp : w'.heap[p]? = w.heap[p]?) (hb : ∀ g, g < B → pv.ownBlock = some g → w'.heap[g]? = w.heap[g]?) : Told w' p zs B pv := by
  obtain ⟨⟨s, n, rest, left, h1, h2⟩, ⟨base, h3⟩, h4⟩ := h
  refine ⟨⟨s, n, rest, left, h1.later hp, h2⟩, ⟨base, h3.1, ?_⟩, h4⟩
  rcases h3.2 with h | ⟨g, cap, cur, hv, hg, hc, r⟩
  · exact .inl h
  · refine .inr ⟨g, cap, cur, hv, hg, ?_, r⟩
    have ho : pv.ownBlock = some g := by rw [hv]; rfl
    rw [hb g (h4 g ho) ho]
    exact hc
theorem Holds.told {w : World} {p base : Nat} {zs : List Int} (h : Holds w p base zs) : ∃ pv, Told w p zs w.heap.size pv := by
  obtain ⟨pv, rest, h1, h2, h3, h4, h5⟩ := h
  refine ⟨pv, ⟨_, _, _, _, h1, (stB_ok _ _).1⟩, ⟨base, h5⟩, fun g hg => ?_⟩
  rcases h5.2 with ⟨h, _⟩ | ⟨g', cap, cur, hv, hg', hc, _⟩
  · rw [h] at hg; cases hg
  · rw [hv] at hg
    have : g' = g := by simpa [Value.ownBlock] using hg
    rw [← this]
    exact (Array.getElem?_eq_some_iff.1 hc).1
theorem Told.slice {w : World} {p : Nat} {zs : List Int} {B : Nat} {pv : Value} (h : Told w p zs B pv) : ∃ a l c, pv = .slice a l c := by
  obtain ⟨_, ⟨base, h3⟩, _⟩ := h
  rcases h3.2 with ⟨h, _⟩ | ⟨g', cap, cur, hv, _⟩
  · exact ⟨_, _, _, h⟩
  · exact ⟨_, _, _, hv⟩

theorem results_bool {tmps : Array Value} {w : World} {g : Nat} {b : Bool} (hp : tmps.getD 4 undef = .pointer (some ⟨g, 0, none⟩)) (hc : w.cell? ⟨g, 0, none⟩ = some (.bool b)) : (results Tryd.f6 tmps).run Tryd.prog w = .ok (.bool b) w := by
  have hp' : tmps[4]?.getD undef = .pointer (some ⟨g, 0, none⟩) := by simpa using hp
  have u4 := run_underlying (P := Tryd.prog) Tryd.underlying4
  simp [results, Tryd.results6, hp', asAddr, loadVar, isAgg, u4, go_sem, hc]

set_option maxRecDepth 100000 in
set_option maxHeartbeats 4000000 in
theorem blocks_long (s1 s2 : Option Addr) (l1 c1 l2 c2 : Nat) (w : World) (h : 3000 < (l1 : Int) ∨ 3000 < (l2 : Int))
    (hK : ∀ W : World, Below w.heap.size w W → Calls Tryd.prog 14 #[] W fun e w' => e = .returned (.bool true) ∧ Below W.heap.size W w') :
    Calls Tryd.prog 6 #[.slice s1 l1 c1, .slice s2 l2 c2] w fun e w' => e = .returned (.bool true) ∧ Below w.heap.size w w' := by
  have HK : Hid (∀ W : World, Below w.heap.size w W → Calls Tryd.prog 14 #[] W fun e w' => e = .returned (.bool true) ∧ Below W.heap.size W w') := hK
  clear hK
  refine (callsIn_wide (n := 5)).1 ?_
  refine callsIn_of_wp_marks Tryd.func6 rfl trivial ?_ rfl
  simp only [Tryd.ntmps6, List.size_toArray, List.length_cons, List.length_nil, Nat.reduceAdd, Nat.reduceSub, Array.replicate_succ, Array.replicate_zero, List.push_toArray, List.append_toArray, List.nil_append, List.cons_append]
  have hb0 : Below w.heap.size w (w.alloc (.cells #[.bool false] 4)) := (Below.refl _ w).alloc (Nat.le_refl _) _
  by_cases h1 : 3000 < (l1 : Int)
  · clear h
    gi_wp2_with (refine ⟨trivial, ?_⟩; gi_at_call 14; refine (callsIn_wide.2 (HK.out _ hb0)).mono ?_; rintro e w1 ⟨rfl, hb1⟩; (have hr : w1.heap[w.heap.size]? = some (.cells #[.bool false] 4 (0, 0)) := (hb1.block _ (by simp)).trans (Go.heap_alloc_new _ _)); (have hc : w1.cell? ⟨w.heap.size, 0, none⟩ = some (.bool false) := cell_of_row _ _ _ _ _ _ hr); (have hf : w1.frozen? ⟨w.heap.size, 0, none⟩ = false := frozen_of_row _ _ _ _ _ hr))
    have hc2 := World.cell?_setCell_same w1 ⟨w.heap.size, 0, none⟩ (.bool true) hc
    exact ⟨_, results_bool rfl hc2, rfl, (hb0.trans (hb1.mono hb0.size)).setCell (Nat.le_refl _) _⟩
  · have h2 : 3000 < (l2 : Int) := by omega
    clear h
    gi_wp2_with (refine ⟨trivial, ?_⟩; gi_at_call 14; refine (callsIn_wide.2 (HK.out _ hb0)).mono ?_; rintro e w1 ⟨rfl, hb1⟩; (have hr : w1.heap[w.heap.size]? = some (.cells #[.bool false] 4 (0, 0)) := (hb1.block _ (by simp)).trans (Go.heap_alloc_new _ _)); (have hc : w1.cell? ⟨w.heap.size, 0, none⟩ = some (.bool false) := cell_of_row _ _ _ _ _ _ hr); (have hf : w1.frozen? ⟨w.heap.size, 0, none⟩ = false := frozen_of_row _ _ _ _ _ hr))
    have hc2 := World.cell?_setCell_same w1 ⟨w.heap.size, 0, none⟩ (.bool true) hc
    exact ⟨_, results_bool rfl hc2, rfl, (hb0.trans (hb1.mono hb0.size)).setCell (Nat.le_refl _) _⟩
end Go.Proofs.YtfdmepblhlifcaaDoor
