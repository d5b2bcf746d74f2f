/- The model's cache, empty: Put, Get, Forget. -/
import Derived.Test.YtbcdaddbcjagjaaPc
import Derived.BigQuiet
namespace Go.Proofs.Ytbcdaddbcjagjaa
open Go.RowKit
set_option linter.unusedVariables false
set_option linter.unusedSimpArgs false

/-- A model's cache of one place: its lists. -/
def RB (w : World) (R : Nat) (lv cv : Value) : Prop := w.heap[R]? = some (.cells #[.int .i64 1, lv, cv] 58 (0, 0))
theorem RB.cells {w : World} {R : Nat} {lv cv : Value} (h : RB w R lv cv) : w.cell? ⟨R, 0, none⟩ = some (.int .i64 1) ∧ w.cell? ⟨R, 1, none⟩ = some lv ∧ w.cell? ⟨R, 2, none⟩ = some cv ∧ ∀ i, w.frozen? ⟨R, i, none⟩ = false := by
  unfold RB at h
  exact ⟨by rw [cell_of_row _ _ _ _ _ _ h]; rfl, by rw [cell_of_row _ _ _ _ _ _ h]; rfl, by rw [cell_of_row _ _ _ _ _ _ h]; rfl, fun i => by simp [World.frozen?, h]⟩
theorem rlen0 {w : World} {R : Nat} {cv : Value} (h : RB w R (.slice none 0 0) cv) (s : List UInt8) : Calls Try.prog 19 #[.pointer (some ⟨R, 0, none⟩), .string (tx s)] w fun e w' => e = .returned (.int .i64 0) ∧ w' = w := by
  obtain ⟨-, c1, -, -⟩ := h.cells
  clear h
  go_enter Try.func19, Try.ntmps19
  go_wp2
  go_loopw [5, 6] (fun a b wx => a = .int .i64 0 ∧ b = .int .i64 0 ∧ wx = w) (fun a b wx => 0)
  case atStart => exact ⟨rfl, rfl, rfl⟩
  case round =>
    obtain ⟨rfl, rfl, hw⟩ := hrel
    rw [hw]
    go_wp2
    go_ret
    exact ⟨rfl, rfl⟩
theorem rtens0 {w : World} {R : Nat} {cv : Value} (h : RB w R (.slice none 0 0) cv) : Calls Try.prog 43 #[.pointer (some ⟨R, 0, none⟩)] w fun e w' => e = .returned (.int .i64 0) ∧ w' = w := by
  obtain ⟨-, c1, -, -⟩ := h.cells
  clear h
  go_enter Try.func43, Try.ntmps43
  go_wp2
  go_loopw [3, 4, 5, 6] (fun a b c d wx => a = .int .i64 0 ∧ b = .int .i64 0 ∧ wx = w) (fun a b c d wx => 0)
  case atStart => exact ⟨rfl, rfl, rfl⟩
  case round =>
    obtain ⟨rfl, rfl, hw⟩ := hrel
    rw [hw]
    go_wp2
    go_ret
    exact ⟨rfl, rfl⟩
theorem rfind0 {w : World} {R : Nat} {cv : Value} (h : RB w R (.slice none 0 0) cv) (s k : List UInt8) : Calls Try.prog 44 #[.pointer (some ⟨R, 0, none⟩), .string (tx s), .string (tx k)] w fun e w' => e = .returned (.int .i64 (-1)) ∧ w' = w := by
  obtain ⟨-, c1, -, -⟩ := h.cells
  clear h
  go_enter Try.func44, Try.ntmps44
  go_wp2
  go_loopw [7] (fun a wx => a = .int .i64 0 ∧ wx = w) (fun a wx => 0)
  case atStart => exact ⟨rfl, rfl⟩
  case round =>
    obtain ⟨rfl, hw⟩ := hrel
    rw [hw]
    go_wp2
    go_ret
    exact ⟨rfl, rfl⟩
set_option maxRecDepth 20000 in
set_option maxHeartbeats 2000000 in
theorem rlen1 {w : World} {R g cap : Nat} {cv : Value} {s : List UInt8} (h : RB w R (.slice (some ⟨g, 0, none⟩) 1 cap) cv) (hc : (1 : Int) ≤ (cap : Int)) (ht : w.cell? ⟨g, 0, none⟩ = some (.string (tx s))) : Calls Try.prog 19 #[.pointer (some ⟨R, 0, none⟩), .string (tx s)] w fun e w' => e = .returned (.int .i64 1) ∧ w' = w := by
  obtain ⟨-, c1, -, -⟩ := h.cells
  clear h
  go_enter Try.func19, Try.ntmps19
  go_wp2
  go_loopw [5, 6] (fun a b wx => ((a = .int .i64 0 ∧ b = .int .i64 0) ∨ (a = .int .i64 1 ∧ b = .int .i64 1)) ∧ wx = w) (fun a b wx => 1 - (intOf b).toNat)
  case atStart => exact ⟨.inl ⟨rfl, rfl⟩, rfl⟩
  case round =>
    obtain ⟨⟨rfl, rfl⟩ | ⟨rfl, rfl⟩, hw⟩ := hrel
    · rw [hw]
      go_wp2
      go_roundw
      case rel => exact ⟨.inr ⟨by go_num, by go_num⟩, trivial⟩
      case measure => first | decide | simp [intOf]
    · rw [hw]
      go_wp2
      go_ret
      exact ⟨rfl, rfl⟩
theorem under55 : Try.prog.underlying 55 = some (.slice 78) := by kernel_rfl
theorem under56 : Try.prog.underlying 56 = some (.slice 46) := by kernel_rfl
theorem app_nothing (W : World) (g : Nat) (ty : TypeId) : (Builtin.append_ #[55, 55] ty #[.slice (some ⟨g, 0, none⟩) 1 1, .slice none 0 0]).run Try.prog W = .ok (.slice (some ⟨g, 0, none⟩) 1 1) W := by
  first
    | kernel_rfl
    | (obtain ⟨i, hi⟩ : ∃ i, Try.prog.info? 78 = some i := ⟨_, by kernel_rfl⟩
       simp [Builtin.append_, run_underlying under55, sizeOf, typeInfo, hi, Builtin.lenOf, Builtin.firstCells, loadCells, loadCellsFrom])
/-- The model's box alone is turned. -/
def FrR (R : Nat) (w w' : World) : Prop := Fr (fun q => q = R) (fun q => q = R) w w'
set_option maxRecDepth 20000 in
set_option maxHeartbeats 2000000 in
theorem rfirst0 {w : World} {R : Nat} {cv : Value} (h : RB w R (.slice none 0 0) cv) (s k st te : List UInt8) : Calls Try.prog 46 #[.pointer (some ⟨R, 0, none⟩), .agg #[.string (tx s), .string (tx k), .string (tx st), .string (tx te)]] w fun e w' => e = .returned (.tuple #[]) ∧ ∃ g, RB w' R (.slice (some ⟨g, 0, none⟩) 1 1) cv ∧ w'.cell? ⟨g, 0, none⟩ = some (.string (tx s)) ∧ FrR R w w' := by
  obtain ⟨W0, hW0⟩ : ∃ W, w.alloc (.cells #[.string (tx s), .string (tx k), .string (tx st), .string (tx te)] 78) = W := ⟨_, rfl⟩
  have hb0 : Below w.heap.size w W0 := by rw [← hW0]; exact bel1' _ _
  have hs0 : W0.heap.size = w.heap.size + 1 := by rw [← hW0]; simp
  have hg0 : W0.heap[w.heap.size]? = some (.cells #[.string (tx s), .string (tx k), .string (tx st), .string (tx te)] 78 (0, 0)) := by rw [← hW0]; exact heap_alloc_new _ _
  obtain ⟨W1, hW1⟩ : ∃ W, W0.alloc (.cells #[.string (tx s), .string (tx k), .string (tx st), .string (tx te)] 78) = W := ⟨_, rfl⟩
  have hb1 : Below w.heap.size w W1 := by rw [← hW1]; exact hb0.alloc (by omega) _
  have hg1 : W1.heap[W0.heap.size]? = some (.cells #[.string (tx s), .string (tx k), .string (tx st), .string (tx te)] 78 (0, 0)) := by rw [← hW1]; exact heap_alloc_new _ _
  have hlt : R < w.heap.size := (Array.getElem?_eq_some_iff.1 h).1
  have hR1 : RB W1 R (.slice none 0 0) cv := (hb1.block R hlt).trans h
  obtain ⟨-, c1, -, cf⟩ := hR1.cells
  have cf1 := cf 1
  have a0 : W0.cell? ⟨w.heap.size, 0, none⟩ = some (.string (tx s)) := by rw [cell_of_row _ _ _ _ _ _ hg0]; rfl
  have a1 : W0.cell? ⟨w.heap.size, 1, none⟩ = some (.string (tx k)) := by rw [cell_of_row _ _ _ _ _ _ hg0]; rfl
  have a2 : W0.cell? ⟨w.heap.size, 2, none⟩ = some (.string (tx st)) := by rw [cell_of_row _ _ _ _ _ _ hg0]; rfl
  have a3 : W0.cell? ⟨w.heap.size, 3, none⟩ = some (.string (tx te)) := by rw [cell_of_row _ _ _ _ _ _ hg0]; rfl
  have hap : ∀ ty, (Builtin.append_ #[55, 55] ty #[.slice (some ⟨W0.heap.size, 0, none⟩) 1 1, .slice none 0 0]).run Try.prog W1 = .ok (.slice (some ⟨W0.heap.size, 0, none⟩) 1 1) W1 := fun ty => app_nothing W1 _ ty
  have HI : Hid (RB W1 R (.slice none 0 0) cv ∧ Below w.heap.size w W1 ∧ W1.heap[W0.heap.size]? = some (.cells #[.string (tx s), .string (tx k), .string (tx st), .string (tx te)] 78 (0, 0)) ∧ R < w.heap.size ∧ W0.heap.size = w.heap.size + 1) := ⟨hR1, hb1, hg1, hlt, hs0⟩
  clear hb0 hg0 hb1 hg1 hlt hR1 cf h hs0
  go_enter Try.func46, Try.ntmps46
  go_upto_region 2 with (fail)
  clear hW0 hW1 a0 a1 a2 a3
  generalize W0.heap.size = g at *
  go_wp2_with fail
  go_end0
  obtain ⟨q1, q2, q3, q4, q5⟩ := HI.out
  obtain ⟨V, hV⟩ : ∃ V, W1.setCell ⟨R, 1, none⟩ (.slice (some ⟨g, 0, none⟩) 1 1) = V := ⟨_, rfl⟩
  have hoff : ∀ q, q ≠ R → V.heap[q]? = W1.heap[q]? := fun q hq => by rw [← hV, Below.heap_setCell _ _ _ _ hq]
  rw [hV]
  refine ⟨rfl, g, by rw [← hV]; exact row_set _ q1, ?_, ⟨?_, ?_, ?_, ?_, fun q hq hn => (hoff q hn).trans (q2.block q hq), fun q hq => .inl hq⟩⟩
  · rw [cell_eq (hoff g (by omega)), cell_of_row _ _ _ _ _ _ q3]; rfl
  · rw [← hV]; exact q2.os
  · rw [← hV]; exact q2.tape
  · rw [← hV]; exact q2.output
  · rw [← hV]; have := q2.size; simpa using this
set_option maxRecDepth 20000 in
set_option maxHeartbeats 2000000 in
theorem rput0 {w : World} {R : Nat} {cv : Value} (h : RB w R (.slice none 0 0) cv) (s k st te : List UInt8) : Calls Try.prog 32 #[.pointer (some ⟨R, 0, none⟩), .string (tx s), .string (tx k), .string (tx st), .string (tx te)] w fun e w' => ∃ r, e = .returned (.int .i64 r) ∧ FrR R w w' := by
  have HL : Hid (Calls Try.prog 19 #[.pointer (some ⟨R, 0, none⟩), .string (tx s)] w fun e w' => e = .returned (.int .i64 0) ∧ w' = w) := rlen0 h s
  have HT : Hid (Calls Try.prog 43 #[.pointer (some ⟨R, 0, none⟩)] w fun e w' => e = .returned (.int .i64 0) ∧ w' = w) := rtens0 h
  have HF : Hid (Calls Try.prog 44 #[.pointer (some ⟨R, 0, none⟩), .string (tx s), .string (tx k)] w fun e w' => e = .returned (.int .i64 (-1)) ∧ w' = w) := rfind0 h s k
  have HP : Hid (Calls Try.prog 46 #[.pointer (some ⟨R, 0, none⟩), .agg #[.string (tx s), .string (tx k), .string (tx st), .string (tx te)]] w fun e w' => e = .returned (.tuple #[]) ∧ Hid (∃ g, RB w' R (.slice (some ⟨g, 0, none⟩) 1 1) cv ∧ w'.cell? ⟨g, 0, none⟩ = some (.string (tx s)) ∧ FrR R w w')) := rfirst0 h s k st te
  have lt : ((tx te).size : Int) = (te.length : Int) := by rw [tx_size]
  have lk : ((tx k).size : Int) = (k.length : Int) := by rw [tx_size]
  clear h
  by_cases b1 : 65536 < (te.length : Int)
  · go_enter Try.func32, Try.ntmps32
    go_wp2_with (first | (go_at_call 19; refine HL.out.mono ?_; rintro e w1 ⟨rfl, hw1⟩; rw [hw1]; clear hw1) | (go_at_call 43; refine HT.out.mono ?_; rintro e w1 ⟨rfl, hw1⟩; rw [hw1]; clear hw1))
    go_ret
    exact ⟨_, rfl, Fr.refl _ _⟩
  · by_cases b2 : 524288 < (k.length : Int)
    · go_enter Try.func32, Try.ntmps32
      go_wp2_with (first | (go_at_call 19; refine HL.out.mono ?_; rintro e w1 ⟨rfl, hw1⟩; rw [hw1]; clear hw1) | (go_at_call 43; refine HT.out.mono ?_; rintro e w1 ⟨rfl, hw1⟩; rw [hw1]; clear hw1))
      go_ret
      exact ⟨_, rfl, Fr.refl _ _⟩
    · go_enter Try.func32, Try.ntmps32
      go_upto_region 9 with (first | (go_at_call 19; refine HL.out.mono ?_; rintro e w1 ⟨rfl, hw1⟩; rw [hw1]; clear hw1) | (go_at_call 43; refine HT.out.mono ?_; rintro e w1 ⟨rfl, hw1⟩; rw [hw1]; clear hw1) | (go_at_call 44; refine HF.out.mono ?_; rintro e w1 ⟨rfl, hw1⟩; rw [hw1]; clear hw1) | (go_at_call 46; refine HP.out.mono ?_; rintro e w2 ⟨rfl, H2⟩))
      obtain ⟨g, r1, r2, r3⟩ := H2.out
      have HL1 : Hid (Calls Try.prog 19 #[.pointer (some ⟨R, 0, none⟩), .string (tx s)] w2.drew fun e w' => e = .returned (.int .i64 1) ∧ w' = w2.drew) := rlen1 (w := w2.drew) r1 (by simp) r2
      obtain ⟨c0, -⟩ := r1.cells
      have HR3 : Hid (FrR R w w2) := r3
      clear r1 r2 r3 H2 HL HT HF HP
      go_region_with (go_at_call 19; refine HL1.out.mono ?_; rintro e w4 ⟨rfl, hw4⟩; rw [hw4]; clear hw4)
      all_goals
        go_wp2_with fail
        go_ret
        exact ⟨_, rfl, Fr.trans' HR3.out (Fr.newer (drew_below w2))⟩
end Go.Proofs.Ytbcdaddbcjagjaa
