/- The program's table: a tenant that is not there is put in. -/
import Derived.Test.YtkigagglkmdccaaKi
namespace Go.Proofs.Ytkigagglkmdccaa
open Go.RowKit Go.Lib
set_option linter.unusedVariables false
set_option linter.unusedSimpArgs false
variable {X : Ext}

/-- What comes of a new row. -/
structure Newly (X : Ext) (w w' : World) (T : Nat) (clk : Int) (srv : Value) (had : Int) (sv sv' : Value) (ps : List Nat) (i p : Nat) (o : Obj) : Prop where
  ptrs : Ptrs w' sv' (putN ps i p)
  row : w'.heap[p]? = some o
  new : w.heap.size ≤ p
  tab : w'.heap[T]? = some (.cells (bx X sv' clk srv had) 65 (0, 0))
  os : w'.os = w.os
  tape : w'.tape = w.tape
  output : w'.output = w.output
  size : w.heap.size ≤ w'.heap.size
  block : ∀ q, q < w.heap.size → q ≠ T → some q ≠ sv.ownBlock → w'.heap[q]? = w.heap[q]?
  own : sv'.ownBlock = sv.ownBlock ∨ ∃ q, sv'.ownBlock = some q ∧ w.heap.size ≤ q
theorem bel22 (W : World) (o1 o2 : Obj) : Below W.heap.size W ((W.alloc o1).alloc o2).drew := ((bel1' W o1).alloc (by simp) o2).drew
theorem alloc2_at (W : World) (o1 : Obj) (c : Array Value) : ((W.alloc o1).alloc (.cells c 131)).drew.heap[W.heap.size + 1]? = some (.cells c 131 (0, 0)) := by
  have h := heap_alloc_new (W.alloc o1) (.cells c 131)
  rwa [show (W.alloc o1).heap.size = W.heap.size + 1 by simp] at h
theorem newly_of {w W w2 : World} {T n cap i : Nat} {clk had : Int} {srv : Value} {sv sv' : Value} {sa : Option Addr} {ps : List Nat} {c : Array Value} {o2 : Obj} (hT : W.heap[T]? = some (.cells (bx X sv clk srv had) 65 (0, 0))) (hTN : some T ≠ sv.ownBlock ∧ T < w.heap.size) (hS : w.heap.size ≤ W.heap.size) (hB : Below w.heap.size w W) (hsv : sv = .slice sa n cap) (hso : ∀ q, sv.ownBlock = some q → q < w.heap.size)
    (hp : Ptrs w2 sv' (putN ps i W.heap.size)) (hg : ((W.alloc (.cells c 130)).alloc o2).drew.grownBy w2 (Value.slice sa n cap).ownBlock) (ho : sv'.ownBlock = (Value.slice sa n cap).ownBlock ∨ sv'.ownBlock = some ((W.alloc (.cells c 130)).alloc o2).drew.heap.size) :
    w2.cell? ⟨T, 4, none⟩ = some sv ∧ w2.frozen? ⟨T, 4, none⟩ = false ∧ Hid (Newly X w (w2.setCell ⟨T, 4, none⟩ sv') T clk srv had sv sv' ps i W.heap.size (.cells c 130 (0, 0))) := by
  subst hsv
  generalize hsv : Value.slice sa n cap = sv at *
  have hb2 := bel22 W (.cells c 130) o2
  have hsz : ((W.alloc (.cells c 130)).alloc o2).drew.heap.size = W.heap.size + 2 := by
    show ((W.alloc (.cells c 130)).alloc o2).heap.size = _
    simp
  have hTW : T < W.heap.size := by omega
  have h1 : w2.heap[T]? = some (.cells (bx X sv clk srv had) 65 (0, 0)) := ((hg.block T (by omega) hTN.1).trans (hb2.block T hTW)).trans hT
  have hR : ((W.alloc (.cells c 130)).alloc o2).drew.heap[W.heap.size]? = some (.cells c 130 (0, 0)) := by
    show ((W.alloc (.cells c 130)).alloc o2).heap[W.heap.size]? = _
    rw [Below.heap_alloc (W.alloc (.cells c 130)) o2 W.heap.size (by simp)]
    exact heap_alloc_new W _
  have hRne : some W.heap.size ≠ sv.ownBlock := fun e => by have := hso _ e.symm; omega
  have h2 : w2.heap[W.heap.size]? = some (.cells c 130 (0, 0)) := (hg.block W.heap.size (by omega) hRne).trans hR
  have hs2 : W.heap.size + 2 ≤ w2.heap.size := by have := hg.size; omega
  have hTs : some T ≠ sv'.ownBlock := fun e => by
    rcases ho with h | h
    · exact hTN.1 (e.trans h)
    · rw [h] at e
      have := Option.some.inj e
      omega
  refine ⟨by rw [cell_of_row _ _ _ _ _ _ h1]; rfl, by simp [World.frozen?, h1], ?_⟩
  exact (⟨own_at hp fun q hq => Below.heap_setCell _ _ _ _ (fun e => hTs (by rw [e] at hq; exact hq.symm)), (Below.heap_setCell _ _ _ _ (show W.heap.size ≠ T by omega)).trans h2, hS, row_set _ h1, hg.os.trans (hb2.os.trans hB.os), hg.tape.trans (hb2.tape.trans hB.tape), hg.output.trans (hb2.output.trans hB.output), by simp; omega, fun q hq hqT hqs => by
    rw [Below.heap_setCell _ _ _ _ hqT, hg.block q (by omega) hqs, hb2.block q (by omega), hB.block q hq], ho.imp id fun h => ⟨_, h, by omega⟩⟩ : Newly X w (w2.setCell ⟨T, 4, none⟩ sv') T clk srv had sv sv' ps i W.heap.size (.cells c 130 (0, 0)))
set_option maxRecDepth 20000 in
set_option maxHeartbeats 4000000 in
theorem put_new (T : Nat) (sv srv : Value) (m : List Rw) (clk had : Int) (nm : List UInt8) (wt fin : Int) (Q : Nat) (w : World) (h : SR X w T sv m clk srv had) (hl : m.length ≤ 15) (hf : fnd m nm = none) :
    Calls Try.prog 57 #[.pointer (some ⟨T, 4, none⟩), .string (tx nm), ln4 nm wt fin Q] w fun e w' => e = .returned (.int .i64 0) ∧ ∃ sv' p, Newly X w w' T clk srv had sv sv' (pts m) (plI (nms m) nm) p (rowO ⟨nm, wt, fin, []⟩ Q) := by
  have hlen : (pts m).length = m.length := by simp [pts]
  have HP : Hid (∀ W : World, Below w.heap.size w W → Calls Try.prog 85 #[.pointer (some ⟨T, 4, none⟩), .string (tx nm)] W fun e w' => e = .returned (.tuple #[.int .i64 (plI (nms m) nm : Nat), .bool false]) ∧ w' = W) := fun W hb => by
    have hW := h.at' fun q hq => hb.block q (h.lt q hq)
    have := place_any T sv (pts m) (nms m) nm W hW.cells.1 hW.row hW.nam hW.up (by omega)
    rw [fnd_none hf] at this
    exact this
  have HI : Hid (∀ (V : World) (vb p : Nat), Below w.heap.size w V → V.heap[vb]? = some (.cells #[ptrV p] 131 (0, 0)) → w.heap.size ≤ vb → Calls Try.prog 86 #[sv, .int .i64 (plI (nms m) nm : Nat), .slice (some ⟨vb, 0, none⟩) 1 1] V fun e w' => ∃ sv', e = .returned sv' ∧ Ptrs w' sv' (putN (pts m) (plI (nms m) nm) p) ∧ V.grownBy w' sv.ownBlock ∧ (sv'.ownBlock = sv.ownBlock ∨ sv'.ownBlock = some V.heap.size)) := fun V vb p hb hv hn => by
    have hV := h.at' fun q hq => hb.block q (h.lt q hq)
    refine insert_any (pts m) sv (plI (nms m) nm) p vb V hV.row ?_ (by omega) hv ?_
    · have := plI_le (nms m) nm
      rw [hlen]
      simpa [nms] using this
    · intro e
      have := h.lt vb (.inr (.inl e.symm))
      omega
  obtain ⟨W, hW⟩ : ∃ W, w.alloc (.cells #[.string (tx nm), .int .i64 wt, .int .i64 fin, .pointer (some ⟨Q, 0, none⟩)] 96) = W := ⟨_, rfl⟩
  have hbel : Below w.heap.size w W := by rw [← hW]; exact bel1' w _
  have HB : Hid (Below w.heap.size w W) := hbel
  have hTl := h.lt T (.inl rfl)
  have hTne : some T ≠ sv.ownBlock := own_other h.row h.box (by decide)
  obtain ⟨sa, cap, hsv⟩ := own_slice h.row
  rw [hlen] at hsv
  have dT : W.cell? ⟨T, 4, none⟩ = some (.slice sa m.length cap) := by rw [World.cell?_of_block (hbel.block T hTl), ← hsv]; exact h.cells.1
  have gT : W.frozen? ⟨T, 4, none⟩ = false := by rw [World.frozen?_of_block (hbel.block T hTl)]; simp [World.frozen?, h.box]
  have HT : Hid (W.heap[T]? = some (.cells (bx X sv clk srv had) 65 (0, 0))) := (hbel.block T hTl).trans h.box
  have hl' : (m.length : Int) ≤ 15 := by omega
  have hl2 : ¬ ((m.length : Int) = 16) := by omega
  have hn : W.heap[w.heap.size]? = some (.cells #[.string (tx nm), .int .i64 wt, .int .i64 fin, .pointer (some ⟨Q, 0, none⟩)] 96 (0, 0)) := by rw [← hW]; exact heap_alloc_new _ _
  have HNB : Hid (∀ k v, (#[.string (tx nm), .int .i64 wt, .int .i64 fin, .pointer (some ⟨Q, 0, none⟩)] : Array Value)[k]? = some v → W.cell? ⟨w.heap.size, k, none⟩ = some v) := fun k v hk => by rw [cell_of_row _ _ _ _ _ _ hn]; exact hk
  have n0 := HNB.out 0 _ rfl
  have n1 := HNB.out 1 _ rfl
  have n2 := HNB.out 2 _ rfl
  have n3 := HNB.out 3 _ rfl
  have HTN : Hid (some T ≠ sv.ownBlock ∧ T < w.heap.size) := ⟨hTne, hTl⟩
  have HSV : Hid (sv = .slice sa m.length cap) := hsv
  have HSO : Hid (∀ q, sv.ownBlock = some q → q < w.heap.size) := fun q hq => h.lt q (.inr (.inl hq))
  rw [hsv] at HI
  obtain ⟨n, hnn⟩ : ∃ n, m.length = n := ⟨_, rfl⟩
  rw [hnn] at dT hl' hl2 HI HSV
  obtain ⟨i, hi⟩ : ∃ i, plI (nms m) nm = i := ⟨_, rfl⟩
  rw [hi] at HP HI ⊢
  clear h hl hf hlen hn hbel hTne hsv hnn hi
  unfold ln4
  go_enter Try.func57, Try.ntmps57
  go_wp2_with (go_at_call 85; refine (HP.out _ HB.out).mono ?_; rintro e w1 ⟨rfl, hw1⟩; rw [hw1]; clear hw1)
  clear hW HP
  have HV : Hid (∀ o1 o2 : Obj, Below w.heap.size w ((W.alloc o1).alloc o2).drew) := fun o1 o2 => HB.out.trans ((bel22 W o1 o2).mono HB.out.size)
  have HS : Hid (w.heap.size ≤ W.heap.size) := HB.out.size
  have hTW : T < W.heap.size := by have := HS.out; omega
  go_region_with (go_at_call 86; refine (HI.out _ (W.heap.size + 1) W.heap.size (HV.out _ _) (alloc2_at W _ _) (Nat.le_succ_of_le HS.out)).mono ?_; rintro e w2 ⟨sv', rfl, hp, hgr, hown⟩; (obtain ⟨a', cap', rfl⟩ := own_slice hp); (have HR := newly_of HT.out HTN.out HS.out HB.out HSV.out HSO.out hp hgr hown); (have tT := HR.1); (have gT2 := HR.2.1); (have HN := HR.2.2); clear hp hgr hown HR)
  all_goals
    go_wp2_with fail
    go_ret
    exact ⟨rfl, _, _, HN.out⟩
end Go.Proofs.Ytkigagglkmdccaa
