/- All that can be seen of a stream. -/
import Derived.Test.YtfdmepblhlifcaaDoorM1
namespace Go.Proofs.YtfdmepblhlifcaaDoor
open Go.RowKit Go.Shelf
set_option linter.unusedVariables false
set_option linter.unusedSimpArgs false
attribute [local go_sem] Oper.semAt_some

theorem results_bool24 {tmps : Array Value} {w : World} {g : Nat} {b : Bool} (hp : tmps.getD 4 undef = .pointer (some ⟨g, 0, none⟩)) (hc : w.cell? ⟨g, 0, none⟩ = some (.bool b)) : (results Tryd.f24 tmps).run Tryd.prog w = .ok (.bool b) w := by
  have hp' : tmps[4]?.getD undef = .pointer (some ⟨g, 0, none⟩) := by simpa using hp
  have u4 := run_underlying (P := Tryd.prog) Tryd.underlying4
  simp [results, Tryd.results24, hp', asAddr, loadVar, isAgg, u4, go_sem, hc]

set_option maxRecDepth 100000 in
set_option maxHeartbeats 4000000 in
theorem alike_any (p base : Nat) (zs : List Int) (hz : Byt zs) (sb : Option Addr) (lb cb : Nat) (w : World) (hH : Holds w p base zs) (R : Roots w) (h0 : 0 < w.heap.size) (hl : (zs.length : Int) ≤ 140737488351232) (hlb : lb = zs.length)
    (hRS : ∀ V, Below w.heap.size w V → Calls Tryd.prog 10 #[.slice sb lb cb] V fun e w' => e = .returned (.agg (u8s (rsumI zs))) ∧ Below V.heap.size V w')
    (hST : ∀ V, Below w.heap.size w V → Calls Tryd.prog 32 #[.slice sb lb cb] V fun e w' => (∃ v, e = .returned v ∧ w'.ownsRow V.heap.size 62 8 v (zs.length / 64) (flatS zs (zs.length / 64))) ∧ Below V.heap.size V w') :
    Calls Tryd.prog 24 #[.pointer (some ⟨p, 0, none⟩), .slice sb lb cb] w fun e w' => e = .returned (.bool true) ∧ Below w.heap.size w w' := by
  have HHW : Hid (∀ V, Below w.heap.size w V → ∃ pv rest, Str V p (stB zs (zs.length / 64)) ((zs.length / 64 : Nat) : Int) pv rest ((zs.length % 64 : Nat) : Int) ∧ rest.length = 64 ∧ V.ownsRow base 23 32 pv (zs.length / 64) (flatD zs (zs.length / 64)) ∧ (∀ g, pv.ownBlock = some g → g < w.heap.size)) := by
    intro V hV
    obtain ⟨pv, rest, h1, h2, h3, h4, h5⟩ := hH
    exact ⟨pv, rest, h1.later (hV.block _ h1.lt), h2, own_kept h5 fun g _ hg => hV.block g hg, fun g hg => (h5.lt g hg).2⟩
  have HLEN : Hid (∀ V, Below w.heap.size w V → Calls Tryd.prog 27 #[.pointer (some ⟨p, 0, none⟩)] V fun e w' => e = .returned (.int .i64 (lb : Int)) ∧ Below V.heap.size V w') := by
    intro V hV
    obtain ⟨pv, rest, h1, h2, _⟩ := HHW.out V hV
    have h := len_any p _ _ pv rest _ V h1 (stB_ok _ _).1 h2 (by omega) (by omega) (by omega) (by omega)
    rw [show ((zs.length / 64 : Nat) : Int) * 64 + ((zs.length % 64 : Nat) : Int) = (lb : Int) by omega] at h
    exact h
  have HSUM : Hid (∀ V, Below w.heap.size w V → Calls Tryd.prog 26 #[.pointer (some ⟨p, 0, none⟩)] V fun e w' => e = .returned (.agg (u8s (rsumI zs))) ∧ Below V.heap.size V w') := by
    intro V hV
    obtain ⟨pv, rest, h1, h2, h3, h4, h5⟩ := hH
    have hV8 := hV.size
    have h := ssum_any p base zs hz V ⟨pv, rest, h1.later (hV.block _ h1.lt), h2, h3, h4, own_kept h5 fun g _ hg => hV.block g hg⟩ (roots_later R h0 hV) (by omega) (by omega)
    rw [sums_one] at h
    exact h
  have hdl : (rsumI zs).length = 32 := by rw [← sums_one zs hz]; unfold sumI; rw [bytes_len, (sumS_ok zs hz).1]
  have hdb : Byt (rsumI zs) := by unfold rsumI; exact bytes_byt _
  have heq : ∀ w, (Op.equalIn 10000 23 (.agg (u8s (rsumI zs))) (.agg (u8s (rsumI zs)))).run Tryd.prog w = .ok true w := eq32 _ hdl hdb
  obtain ⟨D, hD⟩ : ∃ D, rsumI zs = D := ⟨_, rfl⟩
  have HRS : Hid (∀ V, Below w.heap.size w V → Calls Tryd.prog 10 #[.slice sb lb cb] V fun e w' => e = .returned (.agg (u8s (rsumI zs))) ∧ Below V.heap.size V w') := hRS
  have HST : Hid (∀ V, Below w.heap.size w V → Calls Tryd.prog 32 #[.slice sb lb cb] V fun e w' => (∃ v, e = .returned v ∧ w'.ownsRow V.heap.size 62 8 v (zs.length / 64) (flatS zs (zs.length / 64))) ∧ Below V.heap.size V w') := hST
  rw [hD] at HRS HSUM heq
  obtain ⟨W0, hW0⟩ : ∃ W0, w.alloc (.cells #[.bool false] 4) = W0 := ⟨_, rfl⟩
  have HB0 : Hid (Below w.heap.size w W0 ∧ Boxed W0 w.heap.size 4 (.bool false)) := by
    show _ ∧ _
    rw [← hW0]
    exact ⟨(Below.refl _ w).alloc (Nat.le_refl _) _, Boxed.new _ _ _⟩
  have HW0 : Hid (w.alloc (.cells #[.bool false] 4) = W0) := hW0
  have HLB : Hid (lb = zs.length ∧ (zs.length : Int) ≤ 140737488351232) := ⟨hlb, hl⟩
  clear hRS hST hW0 hD hdl hdb hH R hlb hl
  refine (callsIn_wide (n := 5)).1 ?_
  refine callsIn_of_wp_marks Tryd.func24 rfl trivial ?_ rfl
  simp only [Tryd.ntmps24, List.size_toArray, List.length_cons, List.length_nil, Nat.reduceAdd, Nat.reduceSub, Array.replicate_succ, Array.replicate_zero, List.push_toArray, List.append_toArray, List.nil_append, List.cons_append]
  gi_wp2_with (refine ⟨trivial, ?_⟩; first | (gi_at_call 27; rw [HW0.out]; refine (callsIn_wide.2 (HLEN.out W0 HB0.out.1)).mono ?_; rintro e w1 ⟨rfl, hb1⟩; (have HB1 : Hid (Below W0.heap.size W0 w1) := hb1); clear hb1) | (gi_at_call 26; refine (callsIn_wide.2 (HSUM.out w1 (HB0.out.1.trans (HB1.out.mono HB0.out.1.size)))).mono ?_; rintro e w2 ⟨rfl, hb2⟩; (have HB2 : Hid (Below W0.heap.size W0 w2) := HB1.out.trans (hb2.mono HB1.out.size)); clear hb2) | (gi_at_call 10; refine (callsIn_wide.2 (HRS.out w2 (HB0.out.1.trans (HB2.out.mono HB0.out.1.size)))).mono ?_; rintro e w3 ⟨rfl, hb3⟩; (have HB3 : Hid (Below W0.heap.size W0 w3) := HB2.out.trans (hb3.mono HB2.out.size)); clear hb3) | (gi_at_call 32; refine (callsIn_wide.2 (HST.out w3 (HB0.out.1.trans (HB3.out.mono HB0.out.1.size)))).mono ?_; rintro e w4 ⟨⟨v4, rfl, ho4⟩, hb4⟩; obtain ⟨a4, c4, hv4⟩ := own_slice ho4; subst hv4; (have HO4 : Hid (w4.ownsRow w3.heap.size 62 8 (.slice a4 (zs.length / 64) c4) (zs.length / 64) (flatS zs (zs.length / 64))) := ho4); (have HB4 : Hid (Below W0.heap.size W0 w4) := HB3.out.trans (hb4.mono HB3.out.size)); clear hb4 ho4))
  obtain ⟨V, hV⟩ : ∃ V, (w4.alloc (.cells #[.slice a4 (zs.length / 64) c4] 59)).alloc (.cells #[.int .i64 0] 3) = V := ⟨_, rfl⟩
  have HV : Hid (Boxed V w4.heap.size 59 (.slice a4 (zs.length / 64) c4) ∧ Boxed V (w4.heap.size + 1) 3 (.int .i64 0) ∧ V.heap.size = w4.heap.size + 2 ∧ Below w4.heap.size w4 V) := by
    show _ ∧ _
    rw [← hV]
    refine ⟨(Boxed.new _ _ _).alloc _, ?_, by simp, ((Below.refl _ w4).alloc (Nat.le_refl _) _).alloc (by simp) _⟩
    have h := Boxed.new (w4.alloc (.cells #[.slice a4 (zs.length / 64) c4] 59)) 3 (.int .i64 0)
    rw [World.size_alloc] at h
    exact h
  have HVV : Hid ((w4.alloc (.cells #[.slice a4 (zs.length / 64) c4] 59)).alloc (.cells #[.int .i64 0] 3) = V) := hV
  have HBV : Hid (Below w.heap.size w V) := HB0.out.1.trans ((HB4.out.trans (HV.out.2.2.2.mono HB4.out.size)).mono HB0.out.1.size)
  obtain ⟨pv, rest, hS, hrl, hown, hpv⟩ := HHW.out V HBV.out
  obtain ⟨pa, pc, rfl⟩ := own_slice hown
  have HS : Hid (Str V p (stB zs (zs.length / 64)) ((zs.length / 64 : Nat) : Int) (.slice pa (zs.length / 64) pc) rest ((zs.length % 64 : Nat) : Int)) := hS
  have HOW : Hid (V.ownsRow base 23 32 (.slice pa (zs.length / 64) pc) (zs.length / 64) (flatD zs (zs.length / 64)) ∧ ∀ g, (Value.slice pa (zs.length / 64) pc).ownBlock = some g → g < w.heap.size) := ⟨hown, hpv⟩
  have hfq : ∀ b w, (binOp .eql 46 (.func (.func 46) #[] #[.pointer (some ⟨b, 0, none⟩)]) .nilFunc).run Tryd.prog w = .ok (.bool false) w := fun b w => by kernel_rfl
  clear hV hS hrl hown hpv
  refine ⟨trivial, ?_⟩
  rw [HVV.out]
  refine (callsIn_wide.2 (blocks_any p _ _ pa (zs.length / 64) pc rest _ V HS.out (stB_ok _ _).1)).mono ?_
  rintro e w6 ⟨rfl, rfl⟩
  gi_wp2_with fail
  have hVs := HV.out.2.2.1
  rw [hVs]
  have hbx2 := Boxed.new V 44 (.slice pa (zs.length / 64) pc)
  rw [hVs] at hbx2
  have hszW := HB0.out.1.size
  have hszW4 := HB4.out.size
  have hRlt := HB0.out.2.lt
  have hRV : Boxed V w.heap.size 4 (.bool false) := (HV.out.2.2.2.block _ (by omega)).trans ((HB4.out.block _ hRlt).trans HB0.out.2)
  have hO4V : V.ownsRow w3.heap.size 62 8 (.slice a4 (zs.length / 64) c4) (zs.length / 64) (flatS zs (zs.length / 64)) := own_kept HO4.out fun g _ hg => HV.out.2.2.2.block g hg
  refine third_range sb a4 lb cb p w.heap.size w4.heap.size (zs.length / 64) c4 base w3.heap.size D (.slice pa (zs.length / 64) pc) zs _ _ (by have := HLB.out.2; omega) (by omega) (hRV.alloc _) (by omega) (HV.out.1.alloc _) (HV.out.2.1.alloc _) (by simp; omega) hbx2 (HOW.out.1.alloc _) (fun g hg => by have := HOW.out.2 g hg; omega) (hO4V.alloc _) (fun g hg => (HO4.out.lt g hg).2) ?_
  rintro D1 Z hD1 bI bP hBZ hKD1
  have HZ : Hid (Boxed Z (w4.heap.size + 1) 3 (.int .i64 ((zs.length / 64 : Nat) : Int)) ∧ Boxed Z (w4.heap.size + 2) 44 (.slice pa (zs.length / 64) pc)) := ⟨bI, bP⟩
  have HZX : Hid (Boxed Z w4.heap.size 59 (.slice a4 (zs.length / 64) c4)) := (hBZ.block _ (by omega)).trans (HV.out.1.alloc _)
  have HZR : Hid (Boxed Z w.heap.size 4 (.bool false)) := (hBZ.block _ (by omega)).trans (hRV.alloc _)
  have HZB : Hid (Below w.heap.size w Z) := HBV.out.trans (((Below.refl w.heap.size V).alloc (by omega) _).trans (hBZ.mono (by omega)))
  have HZD : Hid (Z.heap[D1]? = some (.deferred (some [])) ∧ w.heap.size < D1) := ⟨hKD1, by simp at hD1; omega⟩
  have HZO : Hid (Z.ownsRow base 23 32 (.slice pa (zs.length / 64) pc) (zs.length / 64) (flatD zs (zs.length / 64))) := by
    obtain ⟨pv', rest', _, _, h3, _⟩ := HHW.out Z HZB.out
    rcases HOW.out.1.2 with ⟨e1, e2⟩ | ⟨g', cap, cur, e1, e2, e3, e4⟩
    · exact ⟨HOW.out.1.1, .inl ⟨e1, e2⟩⟩
    · refine ⟨HOW.out.1.1, .inr ⟨g', cap, cur, e1, e2, ?_, e4⟩⟩
      have hgw := HOW.out.2 g' (by rw [e1]; rfl)
      exact (hBZ.block _ (by omega)).trans ((Below.heap_alloc _ _ _ (Array.getElem?_eq_some_iff.1 e3).1).trans e3)
  have hZs := hBZ.size
  simp only [World.size_alloc] at hZs
  have hkk : ((zs.length / 64 : Nat) : Int) ≤ 4000000000000 := by have := HLB.out.2; omega
  clear bI bP hBZ hKD1 hD1 hbx2 hRV hO4V
  gi_wp2_with fail
  refine wpIn_rangeFunc_ownH rfl (by omega) (gf := 46) (lb := #[.pointer (some ⟨w4.heap.size + 2, 0, none⟩)]) rfl trivial (enters_of Tryd.func46 (by kernel_rfl) rfl)
    (vals_seq _ (w4.heap.size + 2) Z.heap.size base (.slice pa (zs.length / 64) pc) zs (zs.length / 64) Z hkk HZ.out.2.lt (Nat.le_refl _) HZ.out.2.cell HZO.out (fun g hg => by have := HOW.out.2 g hg; omega)) belowK_t (belowK_b (Nat.le_refl _)) (Below.refl _ _) (fun _ => rfl)
    (fun pre W => Below Z.heap.size Z W)
    (fun c pre W => c = .exit 2 ∧ Below Z.heap.size Z W)
    (ownFrom_below (Nat.le_refl _) (Nat.le_refl _))
    (fun c => OwnFrom.and (ownFrom_pure _ (fun _ => c = .exit 2)) (ownFrom_below (Nat.le_refl _) (Nat.le_refl _)))
    (Below.refl _ _)
    (fun x a' W => a' = { tmps := #[Value.pointer (some { block := p, off := 0 }), Value.slice sb lb cb, undef, undef, Value.pointer (some { block := w.heap.size, off := 0 }), Value.pointer (some { block := w4.heap.size, off := 0 }), Value.pointer (some { block := w4.heap.size + 1, off := 0 }), Value.func (Fn.func 46) #[] #[Value.pointer (some { block := w4.heap.size + 2, off := 0 })], undef, Value.pointer (some { block := p, off := 0 }), Value.int IntKind.i64 ↑lb, Value.slice sb lb cb, Value.int IntKind.i64 ↑lb, Value.bool false, Value.bool false, Value.pointer (some { block := p, off := 0 }), Value.agg (u8s D), Value.slice sb lb cb, Value.agg (u8s D), Value.bool false, Value.bool false, Value.slice sb lb cb, Value.slice a4 (zs.length / 64) c4, Value.pointer (some { block := p, off := 0 }), Value.func (Fn.func 46) #[] #[Value.pointer (some { block := w4.heap.size + 2, off := 0 })], Value.func (Fn.func 46) #[] #[Value.pointer (some { block := w4.heap.size + 2, off := 0 })], Value.bool false, Value.func (Fn.func 46) #[] #[Value.pointer (some { block := w4.heap.size + 2, off := 0 })], undef, undef, undef, undef, undef, undef, undef, undef, undef, undef, undef, undef, undef, undef, undef, undef, Value.func (Fn.func 46) #[] #[Value.pointer (some { block := w4.heap.size + 2, off := 0 })], .agg (u8s x.1), undef, undef, undef, undef], defers := [] })
    (fun x a' _ X' Y row hs hg hr => hs)
    ?assign ?body ?done ?stop
  case assign =>
    rintro l pre x W K hB1 hK
    gi_wp2_with fail
    exact hK _ _ (KeepsFrom.refl _ _) (Below.refl _ _) hB1 rfl
  case body =>
    rintro l pre x a' W hl _ hB1 rfl hj
    gi_wp2_with fail
    exact ⟨KeepsFrom.refl _ _, rfl, hB1⟩
  case done =>
    rintro D2 xs Y hD2 _ hBY hKD2
    have cI : Y.cell? ⟨w4.heap.size + 1, 0, none⟩ = some (.int .i64 ((zs.length / 64 : Nat) : Int)) := (hBY.cell (p := ⟨w4.heap.size + 1, 0, none⟩) HZ.out.1.lt).trans HZ.out.1.cell
    have cX : Y.cell? ⟨w4.heap.size, 0, none⟩ = some (.slice a4 (zs.length / 64) c4) := (hBY.cell (p := ⟨w4.heap.size, 0, none⟩) HZX.out.lt).trans HZX.out.cell
    have bR7 : Boxed Y w.heap.size 4 (.bool false) := (hBY.block _ HZR.out.lt).trans HZR.out
    have cR7 := bR7.cell
    have fR7 := bR7.frozen
    gi_wp2_with fail
    have ltD1 := (Array.getElem?_eq_some_iff.1 HZD.out.1).1
    have d1 := HZD.out.2
    have y2 : (Y.setCell ⟨w.heap.size, 0, none⟩ (.bool true)).heap[D2]? = some (.deferred (some [])) := (Below.heap_setCell _ _ _ _ (by show D2 ≠ w.heap.size; omega)).trans hKD2
    have y1 : (Y.setCell ⟨w.heap.size, 0, none⟩ (.bool true)).heap[D1]? = some (.deferred (some [])) := (Below.heap_setCell _ _ _ _ (by show D1 ≠ w.heap.size; omega)).trans ((hBY.block _ ltD1).trans HZD.out.1)
    have bY := bR7.set (.bool true)
    have hbY : Below w.heap.size w (Y.setCell ⟨w.heap.size, 0, none⟩ (.bool true)) := (HZB.out.trans (hBY.mono HZB.out.size)).setCell (Nat.le_refl _) _
    generalize Y.setCell ⟨w.heap.size, 0, none⟩ (.bool true) = Y' at *
    refine ⟨by simp, .inl ⟨_, _, rfl, run_takeDeferred y2, ?_⟩⟩
    have y1' : (Y'.putObj D2 (.deferred none)).heap[D1]? = some (.deferred (some [])) := ((grownBy_putObj' Y' D2 (.deferred none)).block _ (Array.getElem?_eq_some_iff.1 y1).1 (by intro e; cases e; omega)).trans y1
    have b1 : Boxed (Y'.putObj D2 (.deferred none)) w.heap.size 4 (.bool true) := bY.kept (grownBy_putObj' Y' D2 (.deferred none)) (by intro e; cases e; omega)
    have hb1 : Below w.heap.size w (Y'.putObj D2 (.deferred none)) := hbY.trans (belowK_b (w := w) (Nat.le_refl _) _ D2 _ _ (by omega) y2 rfl rfl)
    refine ⟨by simp, .inl ⟨_, _, rfl, run_takeDeferred y1', ?_⟩⟩
    have b2 := b1.kept (grownBy_putObj' (Y'.putObj D2 (.deferred none)) D1 (.deferred none)) (by intro e; cases e; omega)
    exact ⟨_, results_bool24 rfl b2.cell, rfl, hb1.trans (belowK_b (w := w) (Nat.le_refl _) _ D1 _ _ (by omega) y1' rfl rfl)⟩
  case stop =>
    rintro D2 c pre Y hD2 _ ⟨rfl, hBY⟩ hKD2
    have cI : Y.cell? ⟨w4.heap.size + 1, 0, none⟩ = some (.int .i64 ((zs.length / 64 : Nat) : Int)) := (hBY.cell (p := ⟨w4.heap.size + 1, 0, none⟩) HZ.out.1.lt).trans HZ.out.1.cell
    have cX : Y.cell? ⟨w4.heap.size, 0, none⟩ = some (.slice a4 (zs.length / 64) c4) := (hBY.cell (p := ⟨w4.heap.size, 0, none⟩) HZX.out.lt).trans HZX.out.cell
    have bR7 : Boxed Y w.heap.size 4 (.bool false) := (hBY.block _ HZR.out.lt).trans HZR.out
    have cR7 := bR7.cell
    have fR7 := bR7.frozen
    gi_wp2_with fail
    have ltD1 := (Array.getElem?_eq_some_iff.1 HZD.out.1).1
    have d1 := HZD.out.2
    have y2 : (Y.setCell ⟨w.heap.size, 0, none⟩ (.bool true)).heap[D2]? = some (.deferred (some [])) := (Below.heap_setCell _ _ _ _ (by show D2 ≠ w.heap.size; omega)).trans hKD2
    have y1 : (Y.setCell ⟨w.heap.size, 0, none⟩ (.bool true)).heap[D1]? = some (.deferred (some [])) := (Below.heap_setCell _ _ _ _ (by show D1 ≠ w.heap.size; omega)).trans ((hBY.block _ ltD1).trans HZD.out.1)
    have bY := bR7.set (.bool true)
    have hbY : Below w.heap.size w (Y.setCell ⟨w.heap.size, 0, none⟩ (.bool true)) := (HZB.out.trans (hBY.mono HZB.out.size)).setCell (Nat.le_refl _) _
    generalize Y.setCell ⟨w.heap.size, 0, none⟩ (.bool true) = Y' at *
    refine ⟨by simp, .inl ⟨_, _, rfl, run_takeDeferred y2, ?_⟩⟩
    have y1' : (Y'.putObj D2 (.deferred none)).heap[D1]? = some (.deferred (some [])) := ((grownBy_putObj' Y' D2 (.deferred none)).block _ (Array.getElem?_eq_some_iff.1 y1).1 (by intro e; cases e; omega)).trans y1
    have b1 : Boxed (Y'.putObj D2 (.deferred none)) w.heap.size 4 (.bool true) := bY.kept (grownBy_putObj' Y' D2 (.deferred none)) (by intro e; cases e; omega)
    have hb1 : Below w.heap.size w (Y'.putObj D2 (.deferred none)) := hbY.trans (belowK_b (w := w) (Nat.le_refl _) _ D2 _ _ (by omega) y2 rfl rfl)
    refine ⟨by simp, .inl ⟨_, _, rfl, run_takeDeferred y1', ?_⟩⟩
    have b2 := b1.kept (grownBy_putObj' (Y'.putObj D2 (.deferred none)) D1 (.deferred none)) (by intro e; cases e; omega)
    exact ⟨_, results_bool24 rfl b2.cell, rfl, hb1.trans (belowK_b (w := w) (Nat.le_refl _) _ D1 _ _ (by omega) y1' rfl rfl)⟩
end Go.Proofs.YtfdmepblhlifcaaDoor
