/- The program's roll of lines: one is put there. -/
import Derived.Test.YtkigagglkmdccaaKh
namespace Go.Proofs.Ytkigagglkmdccaa
open Go.RowKit Go.Lib
set_option linter.unusedVariables false
set_option linter.unusedSimpArgs false
variable {X : Ext}

def ln4 (nm : List UInt8) (wt fin : Int) (Q : Nat) : Value := .agg #[.string (tx nm), .int .i64 wt, .int .i64 fin, .pointer (some ⟨Q, 0, none⟩)]
set_option maxRecDepth 20000 in
set_option maxHeartbeats 4000000 in
theorem put_full (T : Nat) (lv srv : Value) (m : List Rw) (clk had : Int) (nm : List UInt8) (wt fin : Int) (Q : Nat) (w : World) (h : SR X w T lv m clk srv had) (hl : m.length = 16) (hf : fnd m nm = none) :
    Calls Try.prog 57 #[.pointer (some ⟨T, 4, none⟩), .string (tx nm), ln4 nm wt fin Q] w fun e w' => e = .returned (.int .i64 7) ∧ Below w.heap.size w w' := by
  have HP : Hid (∀ W : World, Below w.heap.size w W → W.cell? ⟨T, 4, none⟩ = some lv ∧ Calls Try.prog 85 #[.pointer (some ⟨T, 4, none⟩), .string (tx nm)] W fun e w' => e = .returned (.tuple #[.int .i64 (plI (nms m) nm : Nat), .bool false]) ∧ w' = W) := fun W hb => by
    have hW := h.at' fun q hq => hb.block q (h.lt q hq)
    have := place_any T lv (pts m) (nms m) nm W hW.cells.1 hW.row hW.nam hW.up (by simp [pts, hl])
    rw [fnd_none hf] at this
    exact ⟨hW.cells.1, this⟩
  obtain ⟨sa, cap, hv⟩ := own_slice h.row
  have hlen : (pts m).length = 16 := by simp [pts, hl]
  rw [hlen] at hv
  subst hv
  clear h hl hf hlen
  unfold ln4
  go_enter Try.func57, Try.ntmps57
  have d0 := (HP.out _ (bel1' w (.cells #[.string (tx nm), .int .i64 wt, .int .i64 fin, .pointer (some ⟨Q, 0, none⟩)] 96))).1
  go_wp2_with (go_at_call 85; refine (HP.out _ (bel1' w _)).2.mono ?_; rintro e w1 ⟨rfl, hw1⟩; rw [hw1]; clear hw1)
  go_ret
  exact ⟨rfl, bel1' w _⟩
theorem rowO_four {W : World} {p Q0 : Nat} {t : Tn} (h : W.heap[p]? = some (rowO t Q0)) (wt fin : Int) (Q : Nat) :
    ((((W.setCell ⟨p, 1, none⟩ (.string (tx t.nm))).setCell ⟨p, 2, none⟩ (.int .i64 wt)).setCell ⟨p, 3, none⟩ (.int .i64 fin)).setCell ⟨p, 4, none⟩ (.pointer (some ⟨Q, 0, none⟩))).heap[p]? = some (rowO { t with wt := wt, fin := fin } Q) ∧ Kp p W ((((W.setCell ⟨p, 1, none⟩ (.string (tx t.nm))).setCell ⟨p, 2, none⟩ (.int .i64 wt)).setCell ⟨p, 3, none⟩ (.int .i64 fin)).setCell ⟨p, 4, none⟩ (.pointer (some ⟨Q, 0, none⟩))) := by
  refine ⟨?_, ((((Kp.refl p W).setCell 1 _).setCell 2 _).setCell 3 _).setCell 4 _⟩
  unfold rowO at h
  rw [row_set _ (row_set _ (row_set _ (row_set _ h)))]
  rfl
set_option maxRecDepth 20000 in
set_option maxHeartbeats 4000000 in
theorem put_there (T : Nat) (lv srv : Value) (m : List Rw) (clk had : Int) (nm : List UInt8) (wt fin : Int) (Q : Nat) (w : World) (i : Nat) (r : Rw) (h : SR X w T lv m clk srv had) (hl : m.length ≤ 16) (hf : fnd m nm = some (i, r)) :
    Calls Try.prog 57 #[.pointer (some ⟨T, 4, none⟩), .string (tx nm), ln4 nm wt fin Q] w fun e w' => e = .returned (.int .i64 0) ∧ w'.heap[r.p]? = some (rowO { r.t with wt := wt, fin := fin } Q) ∧ w.grownBy w' (some r.p) := by
  obtain ⟨p, rQ, rsv, t⟩ := r
  have hg := fnd_some hf
  simp only at hg ⊢
  have HP : Hid (∀ W : World, Below w.heap.size w W → Calls Try.prog 85 #[.pointer (some ⟨T, 4, none⟩), .string (tx nm)] W fun e w' => e = .returned (.tuple #[.int .i64 (i : Nat), .bool true]) ∧ w' = W) := fun W hb => by
    have hW := h.at' fun q hq => hb.block q (h.lt q hq)
    have := place_any T lv (pts m) (nms m) nm W hW.cells.1 hW.row hW.nam hW.up (by simpa [pts] using hl)
    rw [hg.1, hg.2.1] at this
    exact this
  have hi := hg.2.2.1
  have hlt := (List.getElem?_eq_some_iff.1 hi).1
  obtain ⟨g, cap, hv⟩ := own_form h.row (by simpa [pts] using Nat.lt_of_le_of_lt (Nat.zero_le _) hlt)
  have hlen : (pts m).length = m.length := by simp [pts]
  rw [hlen] at hv
  subst hv
  have hrow : Ptrs w (.slice (some ⟨g, 0, none⟩) (pts m).length cap) (pts m) := by rw [hlen]; exact h.row
  have hp0 : w.heap[p]? = some (rowO t rQ) := h.each _ (List.mem_of_getElem? hi)
  have hnm : t.nm = nm := hg.2.2.2
  obtain ⟨W, hW⟩ : ∃ W, w.alloc (.cells #[.string (tx nm), .int .i64 wt, .int .i64 fin, .pointer (some ⟨Q, 0, none⟩)] 96) = W := ⟨_, rfl⟩
  have hbel : Below w.heap.size w W := by rw [← hW]; exact bel1' w _
  have HB : Hid (Below w.heap.size w W) := hbel
  have hpl : p < w.heap.size := (Array.getElem?_eq_some_iff.1 hp0).1
  have hp1 : W.heap[p]? = some (rowO t rQ) := (hbel.block p hpl).trans hp0
  obtain ⟨c0, c1, c2, c3, c4⟩ := rowO_cells hp1
  have f1 := rowO_frozen (i := 1) hp1
  have f2 := rowO_frozen (i := 2) hp1
  have f3 := rowO_frozen (i := 3) hp1
  have f4 := rowO_frozen (i := 4) hp1
  have HPB : Hid (W.heap[p]? = some (rowO t rQ) ∧ t.nm = nm) := ⟨hp1, hnm⟩
  have hTl := h.lt T (.inl rfl)
  have hgl := h.lt g (.inr (.inl rfl))
  have dT : W.cell? ⟨T, 4, none⟩ = some (.slice (some ⟨g, 0, none⟩) m.length cap) := by rw [World.cell?_of_block (hbel.block T hTl)]; exact h.cells.1
  have dg : W.cell? ⟨g, i, none⟩ = some (.pointer (some ⟨p, 0, none⟩)) := by rw [World.cell?_of_block (hbel.block g hgl)]; exact hrow.cell (pts_at hi)
  have hcap : (m.length : Int) ≤ (cap : Int) := by have := own_cap hrow; omega
  have hi' : (i : Int) < (m.length : Int) := by omega
  have hl' : (m.length : Int) ≤ 16 := by omega
  have hn : W.heap[w.heap.size]? = some (.cells #[.string (tx nm), .int .i64 wt, .int .i64 fin, .pointer (some ⟨Q, 0, none⟩)] 96 (0, 0)) := by rw [← hW]; exact heap_alloc_new _ _
  have n0 : W.cell? ⟨w.heap.size, 0, none⟩ = some (.string (tx nm)) := by rw [cell_of_row _ _ _ _ _ _ hn]; rfl
  have n1 : W.cell? ⟨w.heap.size, 1, none⟩ = some (.int .i64 wt) := by rw [cell_of_row _ _ _ _ _ _ hn]; rfl
  have n2 : W.cell? ⟨w.heap.size, 2, none⟩ = some (.int .i64 fin) := by rw [cell_of_row _ _ _ _ _ _ hn]; rfl
  have n3 : W.cell? ⟨w.heap.size, 3, none⟩ = some (.pointer (some ⟨Q, 0, none⟩)) := by rw [cell_of_row _ _ _ _ _ _ hn]; rfl
  have hne : w.heap.size ≠ p := by omega
  have HWS : Hid (w.heap.size ≤ W.heap.size) := hbel.size
  generalize m.length = n at *
  clear h hl hf hg hi hlt hlen hrow hp0 hnm hp1 hTl hgl hbel hn
  unfold ln4
  go_enter Try.func57, Try.ntmps57
  go_wp2_with (go_at_call 85; refine (HP.out _ HB.out).mono ?_; rintro e w1 ⟨rfl, hw1⟩; rw [hw1]; clear hw1)
  have HZ : Hid (∀ k, k < w.heap.size → k ≠ p → W.heap[k]? = w.heap[k]?) := fun k hk _ => HB.out.block k hk
  have HO : Hid (W.os = w.os ∧ W.tape = w.tape ∧ W.output = w.output) := ⟨HB.out.os, HB.out.tape, HB.out.output⟩
  clear hW HP
  go_region
  go_wp2_with fail
  go_ret
  obtain ⟨hr, hk⟩ := rowO_four HPB.out.1 wt fin Q
  rw [HPB.out.2] at hr hk
  revert hr hk
  generalize (((W.setCell ⟨p, 1, none⟩ (.string (tx nm))).setCell ⟨p, 2, none⟩ (.int .i64 wt)).setCell ⟨p, 3, none⟩ (.int .i64 fin)).setCell ⟨p, 4, none⟩ (.pointer (some ⟨Q, 0, none⟩)) = V
  intro hr hk
  refine ⟨rfl, by rw [HPB.out.2]; exact hr, ⟨hk.os.trans HO.out.1, hk.tape.trans HO.out.2.1, hk.output.trans HO.out.2.2, ?_, fun k hk1 hk2 => ?_⟩⟩
  · have h1 := hk.size
    have h2 := HWS.out
    exact Nat.le_trans h2 (Nat.le_of_eq h1.symm)
  · have hkp : k ≠ p := fun e => hk2 (by rw [e])
    exact (hk.block k hkp).trans (HZ.out k hk1 hkp)
end Go.Proofs.Ytkigagglkmdccaa
