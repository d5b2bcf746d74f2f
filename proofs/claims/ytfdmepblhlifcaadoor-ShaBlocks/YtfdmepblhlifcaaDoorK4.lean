/- The law of blocks, of bytes that are not too many. -/
import Derived.Test.YtfdmepblhlifcaaDoorK3
namespace Go.Proofs.YtfdmepblhlifcaaDoor
open Go.RowKit Go.Shelf
set_option linter.unusedVariables false
set_option linter.unusedSimpArgs false
attribute [local go_sem] Oper.semAt_some

theorem holds_bx {p p' B base : Nat} {w w' : World} {zs : List Int} {B' : Nat} {pv : Value} (h : Told w p zs B' pv) (hb : Bx p' B w w') (h1 : p < B) (h2 : p ≠ p') (h3 : B' ≤ B) (h4 : ∀ g, pv.ownBlock = some g → g ≠ p') : Told w' p zs B' pv :=
  h.later (hb.block p h1 h2) fun g hg ho => hb.block g (by omega) (h4 g ho)

/-- Where all stands ahead of the first range. -/
structure Ready (w W : World) (p1 p2 B1 B2 : Nat) (pv1 pv2 : Value) (bs ms : List Int) : Prop where
  bel : Below w.heap.size w W
  t1 : Told W p1 bs B1 pv1
  t2 : Told W p2 (bs ++ ms) B2 pv2
  b1 : B1 ≤ W.heap.size
  b2 : B2 ≤ W.heap.size
  res : W.heap[w.heap.size]? = some (.cells #[.bool false] 4 (0, 0))
theorem Ready.later {w W W' : World} {p1 p2 B1 B2 : Nat} {pv1 pv2 : Value} {bs ms : List Int} (h : Ready w W p1 p2 B1 B2 pv1 pv2 bs ms) (hb : Below W.heap.size W W') : Ready w W' p1 p2 B1 B2 pv1 pv2 bs ms := by
  obtain ⟨⟨s1, n1, r1, l1, a1, a2⟩, a3, a4⟩ := h.t1
  obtain ⟨⟨s2, n2, r2, l2, c1, c2⟩, c3, c4⟩ := h.t2
  exact ⟨h.bel.trans (hb.mono h.bel.size), h.t1.later (hb.block _ a1.lt) fun g hg _ => hb.block g (by have := h.b1; omega), h.t2.later (hb.block _ c1.lt) fun g hg _ => hb.block g (by have := h.b2; omega), Nat.le_trans h.b1 hb.size, Nat.le_trans h.b2 hb.size, (hb.block _ (Array.getElem?_eq_some_iff.1 h.res).1).trans h.res⟩

set_option maxRecDepth 100000 in
set_option maxHeartbeats 4000000 in
theorem blocks_short (s1 s2 : Option Addr) (l1 c1 l2 c2 : Nat) (bs ms : List Int) (w : World) (h0 : 0 < w.heap.size) (hl1 : l1 = bs.length) (hl2 : l2 = ms.length) (h1 : (l1 : Int) ≤ 3000) (h2 : (l2 : Int) ≤ 3000) (hb : Byt bs) (hW1 : Writes w (.slice s1 l1 c1) bs) (hW2 : Writes w (.slice s2 l2 c2) ms)
    (hK : ∀ W : World, Below w.heap.size w W → Calls Tryd.prog 14 #[] W fun e w' => e = .returned (.bool true) ∧ Below W.heap.size W w') :
    Calls Tryd.prog 6 #[.slice s1 l1 c1, .slice s2 l2 c2] w fun e w' => e = .returned (.bool true) ∧ Below w.heap.size w w' := by
  have HK : Hid (∀ W : World, Below w.heap.size w W → Calls Tryd.prog 14 #[] W fun e w' => e = .returned (.bool true) ∧ Below W.heap.size W w') := hK
  have HW1 : Hid (Writes w (.slice s1 l1 c1) bs) := hW1
  have HW2 : Hid (Writes w (.slice s2 l2 c2) ms) := hW2
  have HLL : Hid (l1 = bs.length ∧ l2 = ms.length ∧ Byt bs) := ⟨hl1, hl2, hb⟩
  clear hK hW1 hW2 hl1 hl2 hb
  refine (callsIn_wide (n := 5)).1 ?_
  refine callsIn_of_wp_marks Tryd.func6 rfl trivial ?_ rfl
  simp only [Tryd.ntmps6, List.size_toArray, List.length_cons, List.length_nil, Nat.reduceAdd, Nat.reduceSub, Array.replicate_succ, Array.replicate_zero, List.push_toArray, List.append_toArray, List.nil_append, List.cons_append]
  have g1 : ¬ (3000 < (l1 : Int)) := by omega
  have g2 : ¬ (3000 < (l2 : Int)) := by omega
  gi_wp2_with (refine ⟨trivial, ?_⟩; gi_at_call 19; first | (refine (callsIn_wide.2 (new_any (w.alloc (.cells #[.bool false] 4)))).mono ?_; rintro e w1 ⟨⟨p1, rfl, hp1, hs1⟩, hb1⟩) | (refine (callsIn_wide.2 (new_any w1)).mono ?_; rintro e w2 ⟨⟨p2, rfl, hp2, hs2⟩, hb2⟩))
  have hsz0 : (w.alloc (.cells #[.bool false] 4)).heap.size = w.heap.size + 1 := by simp
  rw [hsz0] at hp1 hb1
  have hbw1 : Below w.heap.size w w1 := ((Below.refl _ w).alloc (Nat.le_refl _) _).trans (hb1.mono (by omega))
  have hbw2 : Below w.heap.size w w2 := hbw1.trans (hb2.mono hbw1.size)
  have hres1 : w1.heap[w.heap.size]? = some (.cells #[.bool false] 4 (0, 0)) := (hb1.block _ (by omega)).trans (Go.heap_alloc_new _ _)
  have hlt1 := hs1.lt
  have hlt2 := hs2.lt
  have hsz12 := hb2.size
  have hsz01 := hb1.size
  rw [hsz0] at hsz01
  have hres2 : w2.heap[w.heap.size]? = some (.cells #[.bool false] 4 (0, 0)) := (hb2.block _ (by omega)).trans hres1
  have hs1' : Str w2 p1 beginI 0 (.slice none 0 0) (List.replicate 64 0) 0 := hs1.later (hb2.block _ hlt1)
  have hbl : (bs.length : Int) ≤ 3000 := by have := HLL.out.1; omega
  have hml : (ms.length : Int) ≤ 3000 := by have := HLL.out.2.1; omega
  refine ⟨trivial, ?_⟩
  refine (callsIn_wide.2 (HW1.out p1 w2.heap.size w2 [] hbw2 (by omega) (by omega) (Nat.le_refl _) hbw2.size (fun x hx => nomatch hx) (by simp; omega) (holds_new hs1'))).mono ?_
  rintro e w3 ⟨rfl, hH1, hx1⟩
  have hs2' : Str w3 p2 beginI 0 (.slice none 0 0) (List.replicate 64 0) 0 := hs2.later (hx1.block _ hlt2 (by omega))
  have hbw3 : Below w.heap.size w w3 := hbw2.trans (hx1.below (by omega) hbw2.size)
  obtain ⟨pv1, ht1⟩ := hH1.told
  rw [List.nil_append] at ht1
  have hres3 : w3.heap[w.heap.size]? = some (.cells #[.bool false] 4 (0, 0)) := (hx1.block _ (by omega) (by omega)).trans hres2
  have hpv1 : ∀ g, pv1.ownBlock = some g → g ≠ p2 := by
    intro g hg he
    obtain ⟨_, ⟨base, h3⟩, _⟩ := ht1
    rcases h3.2 with ⟨h, _⟩ | ⟨g', cap, cur, hv, hg', hc, _⟩
    · rw [h] at hg; cases hg
    · rw [hv] at hg
      have hgg : g' = g := by simpa [Value.ownBlock] using hg
      rw [hgg, he] at hc
      have hs := hs2'
      unfold Str at hs
      rw [hs] at hc
      simp at hc
  have hsz3 := hx1.size
  clear hs1 hs2 hs1' hres1 hres2 hH1
  gi_wp2_with fail
  refine ⟨trivial, ?_⟩
  refine (callsIn_wide.2 (HW1.out p2 w3.heap.size w3 [] hbw3 (by omega) (by omega) (Nat.le_refl _) hbw3.size (fun x hx => nomatch hx) (by simp; omega) (holds_new hs2'))).mono ?_
  rintro e w4 ⟨rfl, hH2, hx2⟩
  rw [List.nil_append] at hH2
  have hbw4 : Below w.heap.size w w4 := hbw3.trans (hx2.below (by omega) hbw3.size)
  have hsz4 := hx2.size
  gi_wp2_with fail
  refine ⟨trivial, ?_⟩
  refine (callsIn_wide.2 (HW2.out p2 w3.heap.size w4 bs hbw4 (by omega) (by omega) hsz4 hbw3.size HLL.out.2.2 (by omega) hH2)).mono ?_
  rintro e w5 ⟨rfl, hH3, hx3⟩
  have hx23 : Bx p2 w3.heap.size w3 w5 := hx2.trans hx3
  have hbw5 : Below w.heap.size w w5 := hbw3.trans (hx23.below (by omega) hbw3.size)
  have ht15 : Told w5 p1 bs w3.heap.size pv1 := holds_bx (base := 0) ht1 hx23 (by omega) (by omega) (Nat.le_refl _) hpv1
  obtain ⟨pv2, ht25⟩ := hH3.told
  have HRD : Hid (Ready w w5 p1 p2 w3.heap.size w5.heap.size pv1 pv2 bs ms) := ⟨hbw5, ht15, ht25, hx23.size, Nat.le_refl _, (hx23.block _ (by omega) (by omega)).trans hres3⟩
  obtain ⟨a1, k1, d1, hpe1⟩ := ht15.slice
  obtain ⟨a2, k2, d2, hpe2⟩ := ht25.slice
  generalize w3.heap.size = B1 at *
  clear hH2 hH3 hx1 hx2 hx3 hx23 hbw1 hbw2 hbw3 hbw4 hbw5 ht1 ht15 ht25 hres3 hpv1 hs2' hsz0 hsz01 hsz12 hsz3 hsz4 hb1 hb2 hp1 hp2 hlt1 hlt2
  have HRD6 : Hid (Ready w (w5.alloc (.cells #[.slice none 0 0] 44)) p1 p2 B1 w5.heap.size pv1 pv2 bs ms) := HRD.out.later ((Below.refl _ w5).alloc (Nat.le_refl _) _)
  obtain ⟨⟨sA, nA, rA, lA, hSA, hSA8⟩, hOA, hGA⟩ := HRD6.out.t1
  rw [hpe1] at hSA
  gi_wp2_with (refine ⟨trivial, ?_⟩; gi_at_call 25; refine (callsIn_wide.2 (blocks_any p1 sA nA a1 k1 d1 rA lA _ hSA hSA8)).mono ?_; rintro e w6 ⟨rfl, rfl⟩)
  have hsz6 : (w5.alloc (.cells #[.slice none 0 0] 44)).heap.size = w5.heap.size + 1 := by simp
  have hK1 : ((bs.length / 64 : Nat) : Int) ≤ 100000 := by omega
  obtain ⟨base1, hbase1⟩ := hOA
  have hbx0 : Boxed ((w5.alloc (.cells #[.slice none 0 0] 44)).alloc (.cells #[.slice a1 k1 d1] 44)) w5.heap.size 44 (.slice none 0 0) := (Boxed.new w5 44 _).alloc _
  have hbx1 : Boxed ((w5.alloc (.cells #[.slice none 0 0] 44)).alloc (.cells #[.slice a1 k1 d1] 44)) (w5.heap.size + 1) 44 (.slice a1 k1 d1) := by
    have h := Boxed.new (w5.alloc (.cells #[.slice none 0 0] 44)) 44 (.slice a1 k1 d1)
    rw [hsz6] at h
    exact h
  rw [hpe1] at hbase1 hGA
  refine first_range s1 s2 l1 c1 l2 c2 p1 p2 w.heap.size w5.heap.size base1 (.slice a1 k1 d1) bs (bs.length / 64) _ _ hK1 hbx0 (by simp) hbx1.cell (hbase1.alloc _) (fun g hg => Nat.lt_of_lt_of_le (hGA g hg) HRD.out.b1) ?_
  rintro D W v hD bv ov hB1 hKD
  have hw5 := HRD.out.bel.size
  have hRW : Below w5.heap.size w5 W := (((Below.refl _ w5).alloc (Nat.le_refl _) _).alloc (by simp) _).trans hB1
  have HRW : Hid (Ready w W p1 p2 B1 w5.heap.size pv1 pv2 bs ms) := HRD.out.later hRW
  have hszW := hRW.size
  have hDW := (Array.getElem?_eq_some_iff.1 hKD).1
  simp only [World.size_alloc] at hD
  obtain ⟨V, hV⟩ : ∃ V, W.alloc (.cells #[.int .i64 0] 3) = V := ⟨_, rfl⟩
  have hBV : Below W.heap.size W V := by rw [← hV]; exact (Below.refl _ W).alloc (Nat.le_refl _) _
  have hVI : Boxed V W.heap.size 3 (.int .i64 0) := by rw [← hV]; exact Boxed.new W 3 _
  have hVs : V.heap.size = W.heap.size + 1 := by rw [← hV]; simp
  have HRV : Hid (Ready w V p1 p2 B1 w5.heap.size pv1 pv2 bs ms) := HRW.out.later hBV
  obtain ⟨⟨sB, nB, rB, lB, hSB, hSB8⟩, ⟨base2, hOB⟩, hGB⟩ := HRV.out.t2
  rw [hpe2] at hSB hOB hGB
  have HSB : Hid (Str V p2 sB nB (.slice a2 k2 d2) rB lB ∧ sB.length = 8) := ⟨hSB, hSB8⟩
  have HOB : Hid (V.ownsRow base2 23 32 (.slice a2 k2 d2) ((bs ++ ms).length / 64) (flatD (bs ++ ms) ((bs ++ ms).length / 64)) ∧ ∀ g, (Value.slice a2 k2 d2).ownBlock = some g → g < w5.heap.size) := ⟨hOB, hGB⟩
  have HV : Hid (Boxed V w5.heap.size 44 v ∧ V.ownsRow w5.heap.size 23 32 v (bs.length / 64) (flatD bs (bs.length / 64))) := ⟨(hBV.block _ bv.lt).trans bv, own_kept ov fun g _ hg => hBV.block g hg⟩
  have HD5 : Hid (w5.heap.size + 2 ≤ D ∧ D < W.heap.size ∧ V.heap[D]? = some (.deferred (some []))) := ⟨by show _ ≤ _; omega, hDW, (hBV.block _ hDW).trans hKD⟩
  have HVI : Hid ((∀ g, v.ownBlock = some g → g < W.heap.size) ∧ w5.heap.size < W.heap.size) := ⟨fun g hg => (ov.lt g hg).2, bv.lt⟩
  clear hSB hSB8 hOB hGB hSA hSA8 hGA hbase1 hbx0 hbx1 hsz6 HRD HRD6 hD hDW bv ov hKD hB1
  have HVV : Hid (W.alloc (.cells #[.int .i64 0] 3) = V) := hV
  have HVB : Hid (Below W.heap.size W V ∧ Boxed V W.heap.size 3 (.int .i64 0) ∧ V.heap.size = W.heap.size + 1) := ⟨hBV, hVI, hVs⟩
  clear hV hBV hVI hVs
  gi_wp2_with (refine ⟨trivial, ?_⟩; gi_at_call 25; rw [HVV.out]; refine (callsIn_wide.2 (blocks_any p2 sB nB a2 k2 d2 rB lB V HSB.out.1 HSB.out.2)).mono ?_; rintro e w6 ⟨rfl, rfl⟩)
  have hVsz := HVB.out.2.2
  have HR0 : Hid (Boxed V w.heap.size 4 (.bool false)) := HRV.out.res
  have hRI : w.heap.size < W.heap.size := (Array.getElem?_eq_some_iff.1 HRW.out.res).1
  have hK2 : (((bs ++ ms).length / 64 : Nat) : Int) ≤ 100000 := by rw [List.length_append]; omega
  rw [hVsz]
  have hbx2 := Boxed.new V 44 (.slice a2 k2 d2)
  rw [hVsz] at hbx2
  refine second_range s1 s2 l1 c1 l2 c2 p1 p2 w.heap.size w5.heap.size W.heap.size D base2 (.slice a2 k2 d2) v bs ms (bs.length / 64) ((bs ++ ms).length / 64) _ _ hK1 hK2 (by omega) (HR0.out.alloc _) hRI HVI.out.2 (HVB.out.2.1.alloc _) (by simp; omega) hbx2.cell (HOB.out.1.alloc _) (fun g hg => Nat.lt_of_lt_of_le (HOB.out.2 g hg) hszW) (HV.out.1.alloc _) (HV.out.2.alloc _) HVI.out.1 ?_
  rintro D2 Z hD2 bI hBZ hKD2
  obtain ⟨e1, e2, _⟩ := HLL.out
  obtain ⟨va, vc, rfl⟩ := own_slice HV.out.2
  have hB2 : Below W.heap.size W Z := HVB.out.1.trans (((Below.refl _ V).alloc (by omega) _).trans hBZ)
  have hZR : Boxed Z w.heap.size 4 (.bool false) := (hB2.block _ hRI).trans HRW.out.res
  have hZX : Boxed Z w5.heap.size 44 (.slice va (bs.length / 64) vc) := (hBZ.block _ HVI.out.2).trans (HV.out.1.alloc _)
  have hZD : Z.heap[D]? = some (.deferred (some [])) := (hBZ.block _ HD5.out.2.1).trans ((Below.heap_alloc _ _ _ (by have := HD5.out.2.1; omega)).trans HD5.out.2.2)
  have cZX := hZX.cell
  have cZI := bI.cell
  have hbwZ : Below w.heap.size w Z := HRW.out.bel.trans (hB2.mono (by omega))
  have q1 : Int.tdiv (l1 : Int) 64 = ((bs.length / 64 : Nat) : Int) := by rw [e1, Int.tdiv_eq_ediv_of_nonneg (by omega)]; omega
  have q2 : Int.tdiv ((l1 : Int) + (l2 : Int)) 64 = (((bs ++ ms).length / 64 : Nat) : Int) := by rw [e1, e2, List.length_append, Int.tdiv_eq_ediv_of_nonneg (by omega)]; omega
  have HZ : Hid (Below w.heap.size w Z ∧ Boxed Z w.heap.size 4 (.bool false) ∧ Z.heap[D]? = some (.deferred (some [])) ∧ Z.heap[D2]? = some (.deferred (some []))) := ⟨hbwZ, hZR, hZD, hKD2⟩
  have HDD : Hid (w.heap.size < D ∧ w.heap.size < D2 ∧ D < D2) := ⟨by have h1 := HD5.out.1; omega, by simp at hD2; omega, by have := HD5.out.2.1; simp at hD2; omega⟩
  generalize ((bs ++ ms).length / 64 : Nat) = N2 at *
  generalize (bs.length / 64 : Nat) = N1 at *
  clear hbwZ hZR hZD hKD2 hBZ hB2 HV HVB HVV HOB HSB HRV HRW hbx2 HR0 hZX bI e1 e2
  gi_wp2_with (refine ⟨trivial, ?_⟩; gi_at_call 14; refine (callsIn_wide.2 (HK.out Z HZ.out.1)).mono ?_; rintro e w7 ⟨rfl, hb7⟩; (have bR7 : Boxed w7 w.heap.size 4 (.bool false) := (hb7.block _ HZ.out.2.1.lt).trans HZ.out.2.1); (have cR7 := bR7.cell); (have fR7 := bR7.frozen))
  obtain ⟨zb, zr, zd, zd2⟩ := HZ.out
  obtain ⟨d1, d2, d3⟩ := HDD.out
  have ltD := (Array.getElem?_eq_some_iff.1 zd).1
  have ltD2 := (Array.getElem?_eq_some_iff.1 zd2).1
  have y2 : (w7.setCell ⟨w.heap.size, 0, none⟩ (.bool true)).heap[D2]? = some (.deferred (some [])) := (Below.heap_setCell _ _ _ _ (by show D2 ≠ w.heap.size; omega)).trans ((hb7.block _ ltD2).trans zd2)
  have y1 : (w7.setCell ⟨w.heap.size, 0, none⟩ (.bool true)).heap[D]? = some (.deferred (some [])) := (Below.heap_setCell _ _ _ _ (by show D ≠ w.heap.size; omega)).trans ((hb7.block _ ltD).trans zd)
  have bY := bR7.set (.bool true)
  have hbY : Below w.heap.size w (w7.setCell ⟨w.heap.size, 0, none⟩ (.bool true)) := (zb.trans (hb7.mono zb.size)).setCell (Nat.le_refl _) _
  generalize w7.setCell ⟨w.heap.size, 0, none⟩ (.bool true) = Y at *
  refine ⟨by simp, .inl ⟨_, _, rfl, run_takeDeferred y2, ?_⟩⟩
  have y1' : (Y.putObj D2 (.deferred none)).heap[D]? = some (.deferred (some [])) := ((grownBy_putObj' Y D2 (.deferred none)).block _ (Array.getElem?_eq_some_iff.1 y1).1 (by intro e; cases e; omega)).trans y1
  have b1 : Boxed (Y.putObj D2 (.deferred none)) w.heap.size 4 (.bool true) := bY.kept (grownBy_putObj' Y D2 (.deferred none)) (by intro e; cases e; omega)
  have hb1 : Below w.heap.size w (Y.putObj D2 (.deferred none)) := hbY.trans (belowK_b (w := w) (Nat.le_refl _) _ D2 _ _ (by omega) y2 rfl rfl)
  refine ⟨by simp, .inl ⟨_, _, rfl, run_takeDeferred y1', ?_⟩⟩
  have b2 := b1.kept (grownBy_putObj' (Y.putObj D2 (.deferred none)) D (.deferred none)) (by intro e; cases e; omega)
  exact ⟨_, results_bool rfl b2.cell, rfl, hb1.trans (belowK_b (w := w) (Nat.le_refl _) _ D _ _ (by omega) y1' rfl rfl)⟩
end Go.Proofs.YtfdmepblhlifcaaDoor
