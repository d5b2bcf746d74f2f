/- The program's table: a tenant that is there is set anew. -/
import Derived.Test.YtpobfcmbbabchaaQa
namespace Go.Proofs.Ytpobfcmbbabchaa
open Go.RowKit Go.Lib
set_option linter.unusedVariables false
set_option linter.unusedSimpArgs false

theorem row8_r {w : World} {p : Nat} {nm : List UInt8} {r bu ho ti tk rf cs : Int} (h : w.heap[p]? = some (row8 nm r bu ho ti tk rf cs)) (x : Int) : (w.setCell ⟨p, 1, none⟩ (.int .i64 x)).heap[p]? = some (row8 nm x bu ho ti tk rf cs) := by
  rw [row_set _ h]; rfl
theorem row8_bu {w : World} {p : Nat} {nm : List UInt8} {r bu ho ti tk rf cs : Int} (h : w.heap[p]? = some (row8 nm r bu ho ti tk rf cs)) (x : Int) : (w.setCell ⟨p, 2, none⟩ (.int .i64 x)).heap[p]? = some (row8 nm r x ho ti tk rf cs) := by
  rw [row_set _ h]; rfl
theorem row8_seven {W : World} {p : Nat} {nm : List UInt8} {r0 bu0 ho0 ti0 tk0 rf0 cs0 : Int} (h : W.heap[p]? = some (row8 nm r0 bu0 ho0 ti0 tk0 rf0 cs0)) (r bu ho ti tk rf cs : Int) :
    (((((((W.setCell ⟨p, 1, none⟩ (.int .i64 r)).setCell ⟨p, 2, none⟩ (.int .i64 bu)).setCell ⟨p, 3, none⟩ (.int .i64 ho)).setCell ⟨p, 4, none⟩ (.int .i64 ti)).setCell ⟨p, 5, none⟩ (.int .i64 tk)).setCell ⟨p, 6, none⟩ (.int .i64 rf)).setCell ⟨p, 7, none⟩ (.int .i64 cs)).heap[p]? = some (row8 nm r bu ho ti tk rf cs) ∧ Kp p W (((((((W.setCell ⟨p, 1, none⟩ (.int .i64 r)).setCell ⟨p, 2, none⟩ (.int .i64 bu)).setCell ⟨p, 3, none⟩ (.int .i64 ho)).setCell ⟨p, 4, none⟩ (.int .i64 ti)).setCell ⟨p, 5, none⟩ (.int .i64 tk)).setCell ⟨p, 6, none⟩ (.int .i64 rf)).setCell ⟨p, 7, none⟩ (.int .i64 cs)) := by
  refine ⟨?_, (((((((Kp.refl p W).setCell 1 _).setCell 2 _).setCell 3 _).setCell 4 _).setCell 5 _).setCell 6 _).setCell 7 _⟩
  have h1 := row8_r h r
  have h2 := row8_bu h1 bu
  have h3 := row8_ho h2 ho
  have h4 := row8_ti h3 ti
  have h5 := row8_tk h4 tk
  have h6 := row8_rf h5 rf
  exact row8_cs h6 cs
set_option maxRecDepth 20000 in
set_option maxHeartbeats 4000000 in
theorem put_there (T : Nat) (sv : Value) (m : List (Nat × Bk)) (nm : List UInt8) (r bu ho ti tk rf cs : Int) (w : World) (i p : Nat) (b : Bk) (h : PR w T sv m) (hl : m.length ≤ 16) (hf : fnd m nm = some (i, p, b)) :
    Calls Try.prog 33 #[.pointer (some ⟨T, 0, none⟩), .string (tx nm), bk7 r bu ho ti tk rf cs] w fun e w' => e = .returned (.int .i64 0) ∧ w'.heap[p]? = some (row8 nm r bu ho ti tk rf cs) ∧ w.grownBy w' (some p) := by
  have hg := fnd_some hf
  have HP : Hid (∀ W : World, Below w.heap.size w W → Calls Try.prog 46 #[.pointer (some ⟨T, 0, none⟩), .string (tx nm)] W fun e w' => e = .returned (.tuple #[.int .i64 (i : Nat), .bool true]) ∧ w' = W) := fun W hb => by
    have hW := h.at' fun q hq => hb.block q (h.lt q hq)
    have := place_any T sv (pts m) (nms m) nm W hW.cell hW.row hW.nam hW.up (by simpa [pts] using hl)
    rw [hg.1, hg.2.1] at this
    exact this
  have hi := hg.2.2.1
  have hlt := (List.getElem?_eq_some_iff.1 hi).1
  obtain ⟨g, cap, hv⟩ := own_form h.row (by simpa [pts] using Nat.lt_of_le_of_lt (Nat.zero_le _) hlt)
  have hlen : (pts m).length = m.length := by simp [pts]
  rw [hlen] at hv
  subst hv
  have hrow : Ptrs w (.slice (some ⟨g, 0, none⟩) (pts m).length cap) (pts m) := by rw [hlen]; exact h.row
  have hp0 : w.heap[p]? = some (pkO b) := h.each p b (List.mem_of_getElem? hi)
  have hnm : b.nm = nm := hg.2.2.2
  obtain ⟨W, hW⟩ : ∃ W, w.alloc (.cells #[.int .i64 r, .int .i64 bu, .int .i64 ho, .int .i64 ti, .int .i64 tk, .int .i64 rf, .int .i64 cs] 68) = W := ⟨_, rfl⟩
  have hbel : Below w.heap.size w W := by rw [← hW]; exact bel1 w _
  have HB : Hid (Below w.heap.size w W) := hbel
  have hpl : p < w.heap.size := (Array.getElem?_eq_some_iff.1 hp0).1
  have hp1 : W.heap[p]? = some (pkO b) := (hbel.block p hpl).trans hp0
  obtain ⟨c0, c1, c2, c3, c4, c5, c6, c7⟩ := row8_cells hp1
  have f1 := row8_frozen (i := 1) hp1
  have f2 := row8_frozen (i := 2) hp1
  have f3 := row8_frozen (i := 3) hp1
  have f4 := row8_frozen (i := 4) hp1
  have f5 := row8_frozen (i := 5) hp1
  have f6 := row8_frozen (i := 6) hp1
  have f7 := row8_frozen (i := 7) hp1
  have HPB : Hid (W.heap[p]? = some (row8 nm b.rate (b.burst * 1000000000) (tot b) b.tim b.tk b.rf b.cs)) := by rw [← hnm]; exact hp1
  have hTl := h.lt T (.inl rfl)
  have hgl := h.lt g (.inr (.inl rfl))
  have dT : W.cell? ⟨T, 0, none⟩ = some (.slice (some ⟨g, 0, none⟩) m.length cap) := by rw [World.cell?_of_block (hbel.block T hTl)]; exact h.cell
  have dg : W.cell? ⟨g, i, none⟩ = some (.pointer (some ⟨p, 0, none⟩)) := by rw [World.cell?_of_block (hbel.block g hgl)]; exact hrow.cell (pts_at hi)
  have hcap : (m.length : Int) ≤ (cap : Int) := by have := own_cap hrow; omega
  have hi' : (i : Int) < (m.length : Int) := by omega
  have hl' : (m.length : Int) ≤ 16 := by omega
  have hn : W.heap[w.heap.size]? = some (.cells #[.int .i64 r, .int .i64 bu, .int .i64 ho, .int .i64 ti, .int .i64 tk, .int .i64 rf, .int .i64 cs] 68 (0, 0)) := by rw [← hW]; exact heap_alloc_new _ _
  have HNB : Hid (∀ k v, (#[.int .i64 r, .int .i64 bu, .int .i64 ho, .int .i64 ti, .int .i64 tk, .int .i64 rf, .int .i64 cs] : Array Value)[k]? = some v → W.cell? ⟨w.heap.size, k, none⟩ = some v) := fun k v hk => by rw [cell_of_row _ _ _ _ _ _ hn]; exact hk
  have n0 := HNB.out 0 _ rfl
  have n1 := HNB.out 1 _ rfl
  have n2 := HNB.out 2 _ rfl
  have n3 := HNB.out 3 _ rfl
  have n4 := HNB.out 4 _ rfl
  have n5 := HNB.out 5 _ rfl
  have n6 := HNB.out 6 _ rfl
  have hne : w.heap.size ≠ p := by omega
  have HWS : Hid (w.heap.size ≤ W.heap.size) := hbel.size
  generalize m.length = n at *
  clear h hl hf hg hi hlt hlen hrow hp0 hnm hp1 hTl hgl hbel hn
  unfold bk7
  go_enter Try.func33, Try.ntmps33
  go_wp2_with (go_at_call 46; refine (HP.out _ HB.out).mono ?_; rintro e w1 ⟨rfl, hw1⟩; rw [hw1]; clear hw1)
  have HZ : Hid (∀ k, k < w.heap.size → k ≠ p → W.heap[k]? = w.heap[k]?) := fun k hk _ => HB.out.block k hk
  have HO : Hid (W.os = w.os ∧ W.tape = w.tape ∧ W.output = w.output) := ⟨HB.out.os, HB.out.tape, HB.out.output⟩
  clear hW HP
  go_region
  go_wp2_with fail
  go_ret
  obtain ⟨hr, hk⟩ := row8_seven HPB.out r bu ho ti tk rf cs
  revert hr hk
  generalize ((((((W.setCell ⟨p, 1, none⟩ (.int .i64 r)).setCell ⟨p, 2, none⟩ (.int .i64 bu)).setCell ⟨p, 3, none⟩ (.int .i64 ho)).setCell ⟨p, 4, none⟩ (.int .i64 ti)).setCell ⟨p, 5, none⟩ (.int .i64 tk)).setCell ⟨p, 6, none⟩ (.int .i64 rf)).setCell ⟨p, 7, none⟩ (.int .i64 cs) = V
  intro hr hk
  refine ⟨rfl, hr, ⟨hk.os.trans HO.out.1, hk.tape.trans HO.out.2.1, hk.output.trans HO.out.2.2, ?_, fun k hk1 hk2 => ?_⟩⟩
  · have h1 := hk.size
    have h2 := HWS.out
    exact Nat.le_trans h2 (Nat.le_of_eq h1.symm)
  · have hkp : k ≠ p := fun e => hk2 (by rw [e])
    exact (hk.block k hkp).trans (HZ.out k hk1 hkp)
end Go.Proofs.Ytpobfcmbbabchaa
