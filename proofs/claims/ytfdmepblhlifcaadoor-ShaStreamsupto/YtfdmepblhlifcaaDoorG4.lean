/- The digest of two digests. -/
import Derived.Test.YtfdmepblhlifcaaDoorG3
import Derived.Test.YtfdmepblhlifcaaDoorG1
namespace Go.Proofs.YtfdmepblhlifcaaDoor
open Go.RowKit
set_option linter.unusedVariables false
set_option linter.unusedSimpArgs false

theorem sumI_len (zs : List Int) (hz : Byt zs) : (sumI zs hz).length = 32 := by unfold sumI; rw [bytes_len, (sumS_ok zs hz).1]
theorem row_u8 {w : World} {g : Nat} {ty : TypeId} {l : List Int} (h : w.heap[g]? = some (.cells (u8s l) ty (0, 0))) (hb : Byt l) (hl : l.length = 32) : BRow w g 0 l :=
  ⟨fun i hi => by rw [Nat.zero_add, cell_of_row _ _ _ _ _ _ h, get_u8s _ _ hi], hb, by rw [hl]; decide⟩

set_option maxRecDepth 20000 in
set_option maxHeartbeats 2000000 in
theorem pair_any (a b : List Int) (w : World) (R : Roots w) (h0 : 0 < w.heap.size) (ha : a.length = 32) (hb : b.length = 32) (ba : Byt a) (bb : Byt b) :
    Calls Tryd.prog 12 #[.agg (u8s a), .agg (u8s b)] w fun e w' => e = .returned (.agg (u8s (sumI (a ++ b) (byt_app ba bb)))) ∧ Below w.heap.size w w' := by
  have HR : Hid (Roots w) := R
  have HLA : Hid (a.length = 32) := ha
  have HLB : Hid (b.length = 32) := hb
  have HAB : Hid (Byt a ∧ Byt b) := ⟨ba, bb⟩
  have HSL := sumI_len (a ++ b) (byt_app ba bb)
  have HSU : Hid ((sumI (a ++ b) (byt_app ba bb)).length = 32) := HSL
  clear R ha hb HSL
  go_enter Tryd.func12, Tryd.ntmps12
  go_wp2_with fail
  obtain ⟨W, hW⟩ : ∃ W, ((w.alloc (.cells (u8s a) 23)).alloc (.cells (u8s b) 23)).alloc (.cells (u8s (List.replicate 32 0)) 23) = W := ⟨_, rfl⟩
  have HQ0 : Hid (W.heap[w.heap.size]? = some (.cells (u8s a) 23 (0, 0))) := by
    show _ = _
    rw [← hW, Below.heap_alloc _ _ _ (by simp <;> omega), Below.heap_alloc _ _ _ (by simp), Go.heap_alloc_new]
  have HQ1 : Hid (W.heap[w.heap.size + 1]? = some (.cells (u8s b) 23 (0, 0))) := by
    show _ = _
    rw [← hW, Below.heap_alloc _ _ _ (by simp <;> omega)]
    have h := Go.heap_alloc_new (w.alloc (.cells (u8s a) 23)) (.cells (u8s b) 23)
    simp only [World.size_alloc] at h
    exact h
  have HQ2 : Hid (W.heap[w.heap.size + 2]? = some (.cells (u8s (List.replicate 32 0)) 23 (0, 0))) := by
    show _ = _
    rw [← hW]
    have h := Go.heap_alloc_new ((w.alloc (.cells (u8s a) 23)).alloc (.cells (u8s b) 23)) (.cells (u8s (List.replicate 32 0)) 23)
    simp only [World.size_alloc] at h
    exact h
  have HBW : Hid (Below w.heap.size w W) := by
    show Below _ _ _
    rw [← hW]
    exact (((Below.refl _ w).alloc (Nat.le_refl _) _).alloc (by simp) _).alloc (by simp <;> omega) _
  have HSZ : Hid (W.heap.size = w.heap.size + 3) := by show _ = _; rw [← hW]; simp
  refine wp_region_still_tail 2 (by kernel_rfl) (by kernel_rfl) (still_of_quiet _ _ ?_)
  simp only [List.take_succ_cons, List.take_zero, List.drop_succ_cons, List.drop_zero]
  show wpQuiet _ _ (fun w' => w' = (((w.alloc (.cells (u8s a) 23)).alloc (.cells (u8s b) 23)).alloc (.cells (u8s (List.replicate 32 0)) 23)).drew) (fun a' => wpList _ _ _ _ a' (((w.alloc (.cells (u8s a) 23)).alloc (.cells (u8s b) 23)).alloc (.cells (u8s (List.replicate 32 0)) 23)).drew) _ _
  rw [hW]
  clear hW
  repeat (first | go_big_quiet_skip | (go_big_quiet_want; go_big_quiet_op; go_big_quiet_on))
  refine wpQuiet_nil ?_
  go_wp2_with fail
  obtain ⟨V, hV⟩ : ∃ V, (W.alloc (.cells #[.slice (some ⟨w.heap.size, 0, none⟩) 32 32, .slice (some ⟨w.heap.size + 1, 0, none⟩) 32 32] 22)).drew = V := ⟨_, rfl⟩
  have hWV : Below W.heap.size W V := by rw [← hV]; exact ((Below.refl _ W).alloc (Nat.le_refl _) _).drew
  have hVr : V.heap[W.heap.size]? = some (.cells #[.slice (some ⟨w.heap.size, 0, none⟩) 32 32, .slice (some ⟨w.heap.size + 1, 0, none⟩) 32 32] 22 (0, 0)) := by rw [← hV]; exact Go.heap_alloc_new _ _
  have hVs : W.heap.size < V.heap.size := (Array.getElem?_eq_some_iff.1 hVr).1
  have hsz := HSZ.out
  have r0 : BRow V w.heap.size 0 a := row_u8 ((hWV.block _ (by omega)).trans HQ0.out) HAB.out.1 HLA.out
  have r1 : BRow V (w.heap.size + 1) 0 b := row_u8 ((hWV.block _ (by omega)).trans HQ1.out) HAB.out.2 HLB.out
  rw [hV]
  refine (concat_any W.heap.size w.heap.size (w.heap.size + 1) a b V HLA.out HLB.out hVs (by omega) (by omega) (cell_of_row _ _ _ _ _ _ hVr) (cell_of_row _ _ _ _ _ _ hVr) r0 r1).mono ?_
  rintro e w3 ⟨⟨g, cp, rfl, hrow, hcp, hge, hglt⟩, hb3⟩
  have hab : (a ++ b).length = 64 := by rw [List.length_append, HLA.out, HLB.out]
  have hV3 : Below w.heap.size w w3 := (HBW.out.trans (hWV.mono (by omega))).trans (hb3.mono (by have := hWV.size; omega))
  have hS := sum_any (a ++ b) g 0 cp w3 (roots_later HR.out h0 hV3) (by have := hV3.size; omega) (byt_app ba bb) hglt hrow (by rw [hab]; decide) (by rw [hab]; exact hcp)
  rw [hab] at hS
  have HS : Hid (Calls Tryd.prog 9 #[.slice (some ⟨g, 0, none⟩) 64 cp] w3 fun e w' => e = .returned (.agg (u8s (sumI (a ++ b) (byt_app ba bb)))) ∧ Below w3.heap.size w3 w') := hS
  have HQ3 : Hid (w3.heap[w.heap.size + 2]? = some (.cells (u8s (List.replicate 32 0)) 23 (0, 0))) := (hb3.block _ (by omega)).trans ((hWV.block _ (by omega)).trans HQ2.out)
  have HZ3 : Hid (w.heap.size + 2 < w3.heap.size) := by have := hb3.size; show _ < _; omega
  have HV3 : Hid (Below w.heap.size w w3) := hV3
  clear hV hWV hVr hVs hsz r0 r1 hrow hcp hge hglt hb3 hab hV3 hS HQ0 HQ1 HQ2 HBW HSZ
  obtain ⟨D, hD⟩ : ∃ D, sumI (a ++ b) (byt_app ba bb) = D := ⟨_, rfl⟩
  have HDD : Hid (sumI (a ++ b) (byt_app ba bb) = D) := hD
  rw [hD] at HS HSU
  clear hD
  go_wp2_with (first | (go_at_call 9; refine HS.out.mono ?_; rintro e w4 ⟨rfl, hb4⟩; (have HB4 : Hid (Below w3.heap.size w3 w4) := hb4); clear hb4) | (refine wpList_store_row rfl 23 _ _ rfl (w.heap.size + 2) (u8s D) rfl rfl 23 (u8s (List.replicate 32 0)) ((HB4.out.block _ HZ3.out).trans HQ3.out) ?h2 ?h3 (one_u8s _) ?_))
  case h2 => rw [size_u8s, HSU.out]; kernel_rfl
  case h3 => simp [size_u8s, HSU.out]
  refine bodyPost_ret (v := .agg (u8s D)) (results_cell_row Tryd.results12 _ _ (w.heap.size + 2) 23 (u8s D) (0, 0) _ rfl (setRow_heap _ _ _ _ _ _ ((HB4.out.block _ HZ3.out).trans HQ3.out)) Tryd.underlying23 rfl (by rw [size_u8s, HSU.out]; kernel_rfl)) rfl ⟨by rw [HDD.out], below_setRow (HV3.out.trans (HB4.out.mono HV3.out.size)) (by omega) _⟩

theorem rsumI_len (zs : List Int) : (rsumI zs).length = 32 := by unfold rsumI; rw [bytes_len, (stB_ok _ _).1]
set_option maxRecDepth 20000 in
set_option maxHeartbeats 2000000 in
theorem rpair_any (a b : List Int) (w : World) (ha : a.length = 32) (hb : b.length = 32) (ba : Byt a) (bb : Byt b) :
    Calls Tryd.prog 13 #[.agg (u8s a), .agg (u8s b)] w fun e w' => e = .returned (.agg (u8s (rsumI (a ++ b)))) ∧ Below w.heap.size w w' := by
  obtain ⟨i0, hi, hz0, hz1, hz2⟩ := info_parts info5
  have HLA : Hid (a.length = 32) := ha
  have HLB : Hid (b.length = 32) := hb
  have HAB : Hid (Byt a ∧ Byt b) := ⟨ba, bb⟩
  have HSU : Hid ((rsumI (a ++ b)).length = 32) := rsumI_len _
  clear ha hb ba bb
  go_enter Tryd.func13, Tryd.ntmps13
  obtain ⟨W, hW⟩ : ∃ W, ((w.alloc (.cells (u8s a) 23)).alloc (.cells (u8s b) 23)).alloc (.cells (u8s (List.replicate 32 0)) 23) = W := ⟨_, rfl⟩
  have HQ0 : Hid (W.heap[w.heap.size]? = some (.cells (u8s a) 23 (0, 0))) := by
    show _ = _
    rw [← hW, Below.heap_alloc _ _ _ (by simp <;> omega), Below.heap_alloc _ _ _ (by simp), Go.heap_alloc_new]
  have HQ1 : Hid (W.heap[w.heap.size + 1]? = some (.cells (u8s b) 23 (0, 0))) := by
    show _ = _
    rw [← hW, Below.heap_alloc _ _ _ (by simp <;> omega)]
    have h := Go.heap_alloc_new (w.alloc (.cells (u8s a) 23)) (.cells (u8s b) 23)
    simp only [World.size_alloc] at h
    exact h
  have HQ2 : Hid (W.heap[w.heap.size + 2]? = some (.cells (u8s (List.replicate 32 0)) 23 (0, 0))) := by
    show _ = _
    rw [← hW]
    have h := Go.heap_alloc_new ((w.alloc (.cells (u8s a) 23)).alloc (.cells (u8s b) 23)) (.cells (u8s (List.replicate 32 0)) 23)
    simp only [World.size_alloc] at h
    exact h
  have HBW : Hid (Below w.heap.size w W) := by
    show Below _ _ _
    rw [← hW]
    exact (((Below.refl _ w).alloc (Nat.le_refl _) _).alloc (by simp) _).alloc (by simp <;> omega) _
  have HSZ : Hid (W.heap.size = w.heap.size + 3) := by show _ = _; rw [← hW]; simp
  have HRA : Hid (BRow W w.heap.size 0 a) := row_u8 HQ0.out HAB.out.1 HLA.out
  have HRB : Hid (BRow W (w.heap.size + 1) 0 b) := row_u8 HQ1.out HAB.out.2 HLB.out
  go_upto_region 2 with fail
  show Code.wp _ _ _ _ (((w.alloc (.cells (u8s a) 23)).alloc (.cells (u8s b) 23)).alloc (.cells (u8s (List.replicate 32 0)) 23))
  rw [hW]
  clear hW
  go_wp2_with (first | (at_builtin; (refine wpList_append_own _ rfl (.tmp 6) (.tmp 7) 22 rfl (w.heap.size + 3) 5 i0 (.int .u8 0) 1 1 Tryd.underlying22 hi hz0 hz1 hz2 rfl (by decide) _ 0 [] rfl (World.ownsRow_nil _ _ _ _) ⟨w.heap.size, 0, none⟩ 32 32 (u8l a) rfl (by rw [u8l_len, HLA.out]) (cells_u8l HRA.out) (u8l_one _) (by unfold maxLen; omega) (by omega) (by have := HSZ.out; omega) ?_; intro v2 w2 hown2 hgrow2 hx2; clear hx2; (rw [Nat.zero_add, List.nil_append] at hown2); (have HB2 : Hid (Below (w.heap.size + 3) W w2) := (Below.refl _ _).grown hgrow2 (by have := HSZ.out; omega) (by intro k hk; cases hk)); (have HOWN2 : Hid (w2.ownsRow (w.heap.size + 3) 5 1 v2 32 (u8l a)) := hown2); clear hown2 hgrow2)) | (at_builtin; (refine wpList_append_own _ rfl (.tmp 9) (.tmp 10) 22 rfl (w.heap.size + 3) 5 i0 (.int .u8 0) 1 1 Tryd.underlying22 hi hz0 hz1 hz2 rfl (by decide) _ 32 (u8l a) rfl HOWN2.out ⟨w.heap.size + 1, 0, none⟩ 32 32 (u8l b) rfl (by rw [u8l_len, HLB.out]) (cells_u8l (HRB.out.later HB2.out (by omega))) (u8l_one _) (by unfold maxLen; omega) (by omega) (by have := HSZ.out; have := HB2.out.size; omega) ?_; intro v3 w3 hown3 hgrow3 hx3; clear hx3; (rw [u8l_app] at hown3); (obtain ⟨g3, cp3, hv3⟩ := own_form hown3 (by omega)); (have HB3 : Hid (Below (w.heap.size + 3) w2 w3) := (Below.refl _ _).grown hgrow3 (by have := HSZ.out; have := HB2.out.size; omega) (ownBlock_ge HOWN2.out)); (rw [hv3] at hown3); (rw [hv3]); (have HOWN3 : Hid (w3.ownsRow (w.heap.size + 3) 5 1 (.slice (some ⟨g3, 0, none⟩) 64 cp3) 64 (u8l (a ++ b))) := hown3); clear hown3 hgrow3 hv3)))
  have hab : (a ++ b).length = 64 := by rw [List.length_append, HLA.out, HLB.out]
  have hrow : BRow w3 g3 0 (a ++ b) := own_row (base := w.heap.size + 3) (cp := cp3) (by rw [hab]; exact HOWN3.out) (byt_app HAB.out.1 HAB.out.2) (by rw [hab]; decide)
  have hglt : g3 < w3.heap.size := World.block_lt_of_cell? w3 _ (hrow.cell 0 (by rw [hab]; decide))
  refine (rsum_some (a ++ b) ⟨g3, 0, none⟩ 64 cp3 w3 hab.symm (byt_app HAB.out.1 HAB.out.2) (fun V hV => cells_u8l (hrow.later hV hglt)) (by rw [hab]; decide)).mono ?_
  rintro e w4 ⟨rfl, hb4⟩
  have hB23 : Below (w.heap.size + 3) W w3 := HB2.out.trans HB3.out
  have HQ3 : Hid (w4.heap[w.heap.size + 2]? = some (.cells (u8s (List.replicate 32 0)) 23 (0, 0))) := (hb4.block _ (by have := hB23.size; have := HSZ.out; omega)).trans ((hB23.block _ (by omega)).trans HQ2.out)
  have HV4 : Hid (Below w.heap.size w w4) := (HBW.out.trans (hB23.mono (by omega))).trans (hb4.mono (by have := hB23.size; have := HSZ.out; omega))
  obtain ⟨D, hD⟩ : ∃ D, rsumI (a ++ b) = D := ⟨_, rfl⟩
  have HDD : Hid (rsumI (a ++ b) = D) := hD
  rw [hD] at HSU ⊢
  clear hD hab hrow hglt hb4 hB23
  go_wp2_with (refine wpList_store_row rfl 23 _ _ rfl (w.heap.size + 2) (u8s D) rfl rfl 23 (u8s (List.replicate 32 0)) HQ3.out ?h2 ?h3 (one_u8s _) ?_)
  case h2 => rw [size_u8s, HSU.out]; kernel_rfl
  case h3 => simp [size_u8s, HSU.out]
  refine bodyPost_ret (v := .agg (u8s D)) (results_cell_row Tryd.results13 _ _ (w.heap.size + 2) 23 (u8s D) (0, 0) _ rfl (setRow_heap _ _ _ _ _ _ HQ3.out) Tryd.underlying23 rfl (by rw [size_u8s, HSU.out]; kernel_rfl)) rfl ⟨by rw [HDD.out], below_setRow HV4.out (by omega) _⟩
end Go.Proofs.YtfdmepblhlifcaaDoor
