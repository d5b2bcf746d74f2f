/- The law of writing. -/
import Derived.Test.YtlgkajellndhlaaSpoil
import Derived.Deep.CutRange
import Derived.Deep.RegionHeld3
namespace Go.Proofs.Ytlgkajellndhlaa
open Go.RowKit
set_option linter.unusedVariables false
set_option linter.unusedSimpArgs false

theorem wrI_byt (fs : List Fd) (hf : ∀ f ∈ fs, f.Fit) : Byt (wrI fs).1 ∧ (wrI fs).1.length ≤ 1048576 := by
  have hb : ∀ fs : List Fd, (∀ f ∈ fs, f.Fit) → Byt (encL fs) := by
    intro fs
    induction fs with
    | nil => intro _ c hc; cases hc
    | cons f r ih =>
      intro h
      refine byt_app (byt_app (vN_byt _) ?_) (ih fun g hg => h g (List.mem_cons_of_mem _ hg))
      unfold bodyF
      split
      · exact byt_app (vN_byt _) (h f (List.mem_cons_self ..)).byt
      · split
        · exact leN_byt _ _
        · split
          · exact leN_byt _ _
          · exact vN_byt _
  unfold wrI
  split
  · exact ⟨fun c hc => (nomatch hc), by simp⟩
  · split
    · exact ⟨fun c hc => (nomatch hc), by simp⟩
    · split
      · exact ⟨fun c hc => (nomatch hc), by simp⟩
      · exact ⟨hb fs hf, by simp only; omega⟩
theorem rsame_true (v1 v2 : Value) (fs : List Fd) (w : World) (h1 : Fds w v1 fs) (h2 : Fds w v2 fs) (hf : ∀ f ∈ fs, f.Fit) (hl : (fs.length : Int) ≤ 100000000) : Calls Try.prog 8 #[v1, v2] w fun e w' => e = .returned (.bool true) ∧ Below w.heap.size w w' := by
  refine (rsame_any v1 v2 fs fs w h1 h2 hf hf hl).mono ?_
  rintro e w' ⟨⟨r, he, hr⟩, hb⟩
  rw [hr.2 rfl] at he
  exact ⟨he, hb⟩

set_option maxRecDepth 100000 in
set_option maxHeartbeats 8000000 in
theorem writes_law (v1 v2 : Value) (fs gs : List Fd) (num : Int) (w : World) (h1 : Fds w v1 fs) (h2 : Fds w v2 gs) (hf : ∀ f ∈ fs, f.Fit) (hg : ∀ f ∈ gs, f.Fit) (l1 : (fs.length : Int) ≤ 1048576) (l2 : (gs.length : Int) ≤ 1048576) :
    Calls Try.prog 3 #[v1, v2, .int .i64 num] w fun e w' => e = .returned (.bool true) ∧ Below w.heap.size w w' := by
  have H1 : Hid (Fds w v1 fs) := h1
  have H2 : Hid (Fds w v2 gs) := h2
  have HF : Hid (∀ f ∈ fs, f.Fit) := hf
  have HG : Hid (∀ f ∈ gs, f.Fit) := hg
  have HL : Hid ((fs.length : Int) ≤ 1048576 ∧ (gs.length : Int) ≤ 1048576) := ⟨l1, l2⟩
  obtain ⟨hby, hbl⟩ := wrI_byt fs hf
  obtain ⟨R, hR⟩ : ∃ R, (wrI fs).1 = R := ⟨_, rfl⟩
  obtain ⟨E, hE⟩ : ∃ E, (wrI fs).2 = E := ⟨_, rfl⟩
  rw [hR] at hby hbl
  have HRB : Hid (Byt R ∧ R.length ≤ 1048576) := ⟨hby, hbl⟩
  have HRE : Hid ((wrI fs).1 = R ∧ (wrI fs).2 = E) := ⟨hR, hE⟩
  clear h1 h2 hf hg l1 l2 hby hbl hR hE
  go_enter Try.func3, Try.ntmps3
  go_wp2_with fail
  refine (given_any v1 fs w H1.out HF.out (by have := HL.out; omega)).mono ?_
  rintro e w1 ⟨⟨v7, rfl, hF7⟩, hb1⟩
  have H7 : Hid (Fds w1 v7 fs) := hF7
  have HB1 : Hid (Below w.heap.size w w1) := hb1
  clear hF7 hb1
  go_wp2_with fail
  refine (write_any v7 fs w1 H7.out HF.out).mono ?_
  rintro e w2 ⟨⟨rb, rfl, hob⟩, hb2⟩
  rw [HRE.out.1] at hob
  rw [HRE.out.2]
  have HB2 : Hid (Below w1.heap.size w1 w2) := hb2
  have HOB : Hid (w2.ownsRow w1.heap.size 5 1 rb R.length (u8l R)) := hob
  clear hob hb2
  go_wp2_with fail
  refine (rwrite_any v1 fs w2 (H1.out.later (HB1.out.trans (HB2.out.mono HB1.out.size))) HF.out).mono ?_
  rintro e w3 ⟨⟨rc, rfl, hoc⟩, hb3⟩
  rw [HRE.out.1] at hoc
  rw [HRE.out.2]
  have HB3 : Hid (Below w2.heap.size w2 w3) := hb3
  have HOC : Hid (w3.ownsRow w2.heap.size 5 1 rc R.length (u8l R)) := hoc
  have HOB3 : Hid (w3.ownsRow w1.heap.size 5 1 rb R.length (u8l R)) := own_kept HOB.out fun q _ hq => hb3.block q hq
  have cb := (own_src HOB3.out).conv HRB.out.1
  have cc := (own_src HOC.out).conv HRB.out.1
  generalize (⟨(strB R).toArray⟩ : ByteArray) = S at cb cc
  have HW3 : Hid (Below w.heap.size w w3 ∧ Below w1.heap.size w1 w3) := ⟨HB1.out.trans ((HB2.out.trans (hb3.mono HB2.out.size)).mono HB1.out.size), HB2.out.trans (hb3.mono HB2.out.size)⟩
  clear hoc hb3
  go_wp2_with fail
  refine (taken_any v7 fs w3 (H7.out.later HW3.out.2) (by have := HL.out; omega)).mono ?_
  rintro e w4 ⟨⟨v4, rfl, hF4⟩, hb4⟩
  have H4 : Hid (Fds w4 v4 fs) := hF4
  have HB4 : Hid (Below w3.heap.size w3 w4) := hb4
  have HW4 : Hid (Below w.heap.size w w4) := HW3.out.1.trans (hb4.mono HW3.out.1.size)
  clear hF4 hb4
  go_wp2_with fail
  refine (rsame_true v4 v1 fs w4 H4.out (H1.out.later HW4.out) HF.out (by have := HL.out; omega)).mono ?_
  rintro e w5 ⟨rfl, hb5⟩
  have HB5 : Hid (Below w3.heap.size w3 w5) := HB4.out.trans (hb5.mono HB4.out.size)
  clear hb5
  go_wp2_with fail
  have HOB5 : Hid (w5.ownsRow w1.heap.size 5 1 rb R.length (u8l R)) := own_kept HOB3.out fun q _ hq => HB5.out.block q hq
  refine (spoil_own HOB5.out HRB.out.1 (by have := HRB.out.2; omega)).mono ?_
  rintro e w6 ⟨⟨u6, rfl⟩, hg6⟩
  have HW6 : Hid (Below w1.heap.size w1 w6) := (HW3.out.2.trans (HB5.out.mono HW3.out.2.size)).trans (hg6.below (Nat.le_trans (HW3.out.2.trans (HB5.out.mono HW3.out.2.size)).size (Nat.le_refl _)) (ownBlock_ge HOB5.out))
  have HX6 : Hid (Below w.heap.size w w6) := HB1.out.trans (HW6.out.mono HB1.out.size)
  clear hg6 HOB5 HOB3 HOC HOB HB5 HB4 H4 HW4 cb cc
  go_wp2_with fail
  obtain ⟨lf, hlf⟩ : ∃ lf, (lastI fs num).1 = lf := ⟨_, rfl⟩
  obtain ⟨lr, hlr⟩ : ∃ lr, (lastI fs num).2 = lr := ⟨_, rfl⟩
  have HLF : Hid ((lastI fs num).1 = lf ∧ (lastI fs num).2 = lr) := ⟨hlf, hlr⟩
  have hfit : lf.Fit := by
    rw [← hlf]
    unfold lastI
    cases hq : (allI fs num).getLast? with
    | none => exact ⟨by decide, (fun c hc => nomatch hc), by decide⟩
    | some f => exact HF.out f (List.mem_filter.1 (List.mem_of_getLast? hq)).1
  have HFI : Hid (∀ f ∈ [lf], f.Fit) := fun f hf => by have : f = lf := by simpa using hf
                                                       rw [this]; exact hfit
  obtain ⟨A, hA⟩ : ∃ A, lf.num = A := ⟨_, rfl⟩
  obtain ⟨T, hT⟩ : ∃ T, lf.typ = T := ⟨_, rfl⟩
  obtain ⟨X, hX⟩ : ∃ X : Int, (lf.n : Int) = X := ⟨_, rfl⟩
  have HATX : Hid (lf.num = A ∧ lf.typ = T ∧ (lf.n : Int) = X) := ⟨hA, hT, hX⟩
  have hw := wlast_any v7 fs num w6 (H7.out.later HW6.out) HF.out (by have := HL.out; omega)
  refine hw.mono ?_
  rintro e w7 ⟨⟨xv, rfl, hxs, xa, xl, xc, rfl⟩, hb7⟩
  rw [hlf, hlr, hA, hT, hX]
  rw [hlf] at hxs
  have HXS : Hid (Src w7 (.slice xa xl xc) lf.b) := hxs
  have HB7 : Hid (Below w6.heap.size w6 w7) := hb7
  clear hw hxs hb7 hlf hlr hfit hA hT hX
  go_wp2_with fail
  obtain ⟨W7, hW7⟩ : ∃ W7, w7.alloc (.cells #[.int .i64 A, .int .i64 T, .int .u64 X, .slice xa xl xc] 35) = W7 := ⟨_, rfl⟩
  have HX7 : Hid (W7.heap[w7.heap.size]? = some (.cells #[.int .i64 A, .int .i64 T, .int .u64 X, .slice xa xl xc] 35 (0, 0))) := by show _ = _; rw [← hW7]; exact Go.heap_alloc_new _ _
  have HBW7 : Hid (Below w7.heap.size w7 W7) := by show Below _ _ _; rw [← hW7]; exact bel1 _ _
  have HW7 : Hid (Below w1.heap.size w1 W7) := HW6.out.trans ((HB7.out.trans (HBW7.out.mono HB7.out.size)).mono HW6.out.size)
  have HV7 : Hid (Below w.heap.size w W7) := HB1.out.trans (HW7.out.mono HB1.out.size)
  rw [hW7]
  clear hW7
  have hw := rlast_any v1 fs num W7 (H1.out.later HV7.out) (by have := HL.out; omega)
  refine hw.mono ?_
  rintro e w8 ⟨⟨yv, rfl, hys, ya, yl, yc, rfl⟩, hb8⟩
  rw [HLF.out.1, HLF.out.2, HATX.out.1, HATX.out.2.1, HATX.out.2.2]
  rw [HLF.out.1] at hys
  have HYS : Hid (Src w8 (.slice ya yl yc) lf.b) := hys
  have HB8 : Hid (Below W7.heap.size W7 w8) := hb8
  clear hw hys hb8
  go_wp2_with fail
  obtain ⟨W8, hW8⟩ : ∃ W8, w8.alloc (.cells #[.int .i64 A, .int .i64 T, .int .u64 X, .slice ya yl yc] 38) = W8 := ⟨_, rfl⟩
  have HX8 : Hid (W8.heap[w8.heap.size]? = some (.cells #[.int .i64 A, .int .i64 T, .int .u64 X, .slice ya yl yc] 38 (0, 0))) := by show _ = _; rw [← hW8]; exact Go.heap_alloc_new _ _
  have HBW8 : Hid (Below w8.heap.size w8 W8) := by show Below _ _ _; rw [← hW8]; exact bel1 _ _
  have HC8 : Hid (Below W7.heap.size W7 W8) := HB8.out.trans (HBW8.out.mono HB8.out.size)
  have HW8 : Hid (Below w1.heap.size w1 W8) := HW7.out.trans (HC8.out.mono HW7.out.size)
  have HV8 : Hid (Below w.heap.size w W8) := HB1.out.trans (HW8.out.mono HB1.out.size)
  rw [hW8]
  clear hW8
  have hw := wall_any v7 fs num W8 (H7.out.later HW8.out) HF.out (by have := HL.out; omega)
  refine hw.mono ?_
  rintro e w9 ⟨⟨va, ps, rfl, hps, hoa, hob, hdi⟩, hb9⟩
  have HPS : Hid (ps.map (·.1) = allI fs num ∧ Dis ps) := ⟨hps, hdi⟩
  have HOA : Hid (w9.ownsRow W8.heap.size 35 4 va ps.length (flL ps) ∧ OwnB W8.heap.size w9 ps) := ⟨hoa, hob⟩
  have HB9 : Hid (Below W8.heap.size W8 w9) := hb9
  have HW9 : Hid (Below w1.heap.size w1 w9) := HW8.out.trans (hb9.mono HW8.out.size)
  have HV9 : Hid (Below w.heap.size w w9) := HB1.out.trans (HW9.out.mono HB1.out.size)
  have HX9 : Hid (w9.heap[w7.heap.size]? = some (.cells #[.int .i64 A, .int .i64 T, .int .u64 X, .slice xa xl xc] 35 (0, 0))) := (hb9.block _ (by have h1 := (Array.getElem?_eq_some_iff.1 HX7.out).1; have h2 := HC8.out.size; omega)).trans ((HC8.out.block _ (Array.getElem?_eq_some_iff.1 HX7.out).1).trans HX7.out)
  have HY9 : Hid (w9.heap[w8.heap.size]? = some (.cells #[.int .i64 A, .int .i64 T, .int .u64 X, .slice ya yl yc] 38 (0, 0))) := (hb9.block _ (Array.getElem?_eq_some_iff.1 HX8.out).1).trans HX8.out
  have HXS9 : Hid (Src w9 (.slice xa xl xc) lf.b) := ((HXS.out.later HBW7.out).later HC8.out).later hb9
  have HYS9 : Hid (Src w9 (.slice ya yl yc) lf.b) := (HYS.out.later HBW8.out).later hb9
  clear hw hps hoa hob hdi hb9
  go_upto_region 10 with fail
  have HBQ : Hid (∀ W, Below w9.heap.size w9 W → Src W (.slice xa xl xc) lf.b ∧ Src W (.slice ya yl yc) lf.b) := fun W hW => ⟨HXS9.out.later hW, HYS9.out.later hW⟩
  obtain ⟨x0, x1, x2, x3⟩ := box4b (base := 0) HX9.out rfl
  obtain ⟨y0, y1, y2, y3⟩ := box4b (base := 0) HY9.out rfl
  obtain ⟨P7, hP7⟩ : ∃ P7, w7.heap.size = P7 := ⟨_, rfl⟩
  obtain ⟨P8, hP8⟩ : ∃ P8, w8.heap.size = P8 := ⟨_, rfl⟩
  rw [hP7] at x0 x1 x2 x3 HX9 ⊢
  rw [hP8] at y0 y1 y2 y3 HY9 ⊢
  have q7 : P7 < w9.heap.size := (Array.getElem?_eq_some_iff.1 HX9.out).1
  have q8 : P8 < w9.heap.size := (Array.getElem?_eq_some_iff.1 HY9.out).1
  have HKS : Hid (∀ w', Below w9.heap.size w9 w' → (w'.cell? ⟨P7, 0, none⟩ = some (.int .i64 A) ∧ w'.cell? ⟨P7, 1, none⟩ = some (.int .i64 T) ∧ w'.cell? ⟨P7, 2, none⟩ = some (.int .u64 X) ∧ w'.cell? ⟨P7, 3, none⟩ = some (.slice xa xl xc) ∧ w'.cell? ⟨P8, 0, none⟩ = some (.int .i64 A) ∧ w'.cell? ⟨P8, 1, none⟩ = some (.int .i64 T) ∧ w'.cell? ⟨P8, 2, none⟩ = some (.int .u64 X) ∧ w'.cell? ⟨P8, 3, none⟩ = some (.slice ya yl yc))) := fun w' hW => ⟨(hW.cell (p := ⟨P7, 0, none⟩) q7).trans x0, (hW.cell (p := ⟨P7, 1, none⟩) q7).trans x1, (hW.cell (p := ⟨P7, 2, none⟩) q7).trans x2, (hW.cell (p := ⟨P7, 3, none⟩) q7).trans x3, (hW.cell (p := ⟨P8, 0, none⟩) q8).trans y0, (hW.cell (p := ⟨P8, 1, none⟩) q8).trans y1, (hW.cell (p := ⟨P8, 2, none⟩) q8).trans y2, (hW.cell (p := ⟨P8, 3, none⟩) q8).trans y3⟩
  have HFA : Hid (∀ W, Below w9.heap.size w9 W → Fds W va (allI fs num)) := fun W hW => by
    have h := fds_of HOA.out.1 (fun p hp => own_src (HOA.out.2 p hp))
    rw [HPS.out.1] at h
    exact h.later hW
  have HT1 : Hid True := trivial
  have HT2 : Hid True := trivial
  clear hP7 hP8
  go_cut [84] from 64 to 84 (fun x wx => x = .bool false ∧ Below w9.heap.size w9 wx)
  case first =>
    go_region_held3 (fun w' => w'.cell? ⟨P7, 0, none⟩ = some (.int .i64 A) ∧ w'.cell? ⟨P7, 1, none⟩ = some (.int .i64 T) ∧ w'.cell? ⟨P7, 2, none⟩ = some (.int .u64 X) ∧ w'.cell? ⟨P7, 3, none⟩ = some (.slice xa xl xc) ∧ w'.cell? ⟨P8, 0, none⟩ = some (.int .i64 A) ∧ w'.cell? ⟨P8, 1, none⟩ = some (.int .i64 T) ∧ w'.cell? ⟨P8, 2, none⟩ = some (.int .u64 X) ∧ w'.cell? ⟨P8, 3, none⟩ = some (.slice ya yl yc)) (first | go_keep | exact K10 | exact K11 | exact K12 | exact K13 | exact K14) (first | (go_at_call 9; clear HT1; refine (taken_any _ [lf] _ (fds_one (t := 35) (f := lf) (sv := .slice xa xl xc) (by rw [HATX.out.1, HATX.out.2.1, HATX.out.2.2]; (first | exact Go.heap_alloc_new _ _ | (refine (Below.heap_alloc _ _ _ ?_).trans (Go.heap_alloc_new _ _); simp) | (have h := Go.heap_alloc_new (w9.drew.alloc (.cells #[.int .i64 A, .int .i64 T, .int .u64 X, .slice ya yl yc] 38)) (.cells #[.int .i64 A, .int .i64 T, .int .u64 X, .slice xa xl xc] 35); rw [World.size_alloc] at h; exact h) | (have h := Go.heap_alloc_new (w9.drew.alloc (.cells #[.int .i64 A, .int .i64 T, .int .u64 X, .slice xa xl xc] 35)) (.cells #[.int .i64 A, .int .i64 T, .int .u64 X, .slice ya yl yc] 38); rw [World.size_alloc] at h; exact h))) ((HBQ.out _ (by repeat (first | exact Below.refl _ _ | refine Below.drew ?_ | refine Below.alloc ?_ (by simp) _))).1)) (by simp)).mono ?_; rintro e w10 ⟨⟨v10, rfl, hF10⟩, hb10⟩; (have H10 : Hid (Fds w10 v10 [lf]) := hF10); (have HB10 : Hid (Below w9.heap.size w9 w10) := Below.trans (by repeat (first | exact Below.refl _ _ | refine Below.drew ?_ | refine Below.alloc ?_ (by simp) _)) (hb10.mono (by simp; try omega))); (have K10 := HKS.out w10 HB10.out); (first | (have HYB : Hid (w10.heap[w9.heap.size]? = some (.cells #[.int .i64 A, .int .i64 T, .int .u64 X, .slice ya yl yc] 38 (0, 0))) := (hb10.block _ (by first | (simp; done) | (simp; omega))).trans (by (first | exact Go.heap_alloc_new _ _ | (refine (Below.heap_alloc _ _ _ ?_).trans (Go.heap_alloc_new _ _); simp) | (have h := Go.heap_alloc_new (w9.drew.alloc (.cells #[.int .i64 A, .int .i64 T, .int .u64 X, .slice ya yl yc] 38)) (.cells #[.int .i64 A, .int .i64 T, .int .u64 X, .slice xa xl xc] 35); rw [World.size_alloc] at h; exact h) | (have h := Go.heap_alloc_new (w9.drew.alloc (.cells #[.int .i64 A, .int .i64 T, .int .u64 X, .slice xa xl xc] 35)) (.cells #[.int .i64 A, .int .i64 T, .int .u64 X, .slice ya yl yc] 38); rw [World.size_alloc] at h; exact h)))) | (have HYB : Hid (w10.heap[w9.heap.size + 1]? = some (.cells #[.int .i64 A, .int .i64 T, .int .u64 X, .slice ya yl yc] 38 (0, 0))) := (hb10.block _ (by first | (simp; done) | (simp; omega))).trans (by (first | exact Go.heap_alloc_new _ _ | (refine (Below.heap_alloc _ _ _ ?_).trans (Go.heap_alloc_new _ _); simp) | (have h := Go.heap_alloc_new (w9.drew.alloc (.cells #[.int .i64 A, .int .i64 T, .int .u64 X, .slice ya yl yc] 38)) (.cells #[.int .i64 A, .int .i64 T, .int .u64 X, .slice xa xl xc] 35); rw [World.size_alloc] at h; exact h) | (have h := Go.heap_alloc_new (w9.drew.alloc (.cells #[.int .i64 A, .int .i64 T, .int .u64 X, .slice xa xl xc] 35)) (.cells #[.int .i64 A, .int .i64 T, .int .u64 X, .slice ya yl yc] 38); rw [World.size_alloc] at h; exact h)))) | skip); clear hF10 hb10) | (go_at_call 8; clear HT2; refine (rsame_true _ _ [lf] _ (H10.out.later (by repeat (first | exact Below.refl _ _ | refine Below.alloc ?_ (by simp) _))) (fds_one (t := 38) (f := lf) (sv := .slice ya yl yc) (by rw [HATX.out.1, HATX.out.2.1, HATX.out.2.2]; first | exact Go.heap_alloc_new _ _ | exact HYB.out) ((HBQ.out _ (by first | exact HB10.out | exact HB10.out.alloc HB10.out.size _)).2)) HFI.out (by simp)).mono ?_; rintro e w11 ⟨rfl, hb11⟩; (have HB11 : Hid (Below w9.heap.size w9 w11) := Below.trans (by first | exact HB10.out | exact HB10.out.alloc HB10.out.size _) (hb11.mono (by first | exact HB10.out.size | (have := HB10.out.size; simp; omega)))); (have K11 := HKS.out w11 HB11.out); clear hb11) | (go_at_call 9; refine (taken_any va (allI fs num) _ (HFA.out _ HB11.out) (by have h1 := HL.out; have h2 : (allI fs num).length ≤ fs.length := List.length_filter_le _ _; omega)).mono ?_; rintro e w12 ⟨⟨v12, rfl, hF12⟩, hb12⟩; (have H12 : Hid (Fds w12 v12 (allI fs num)) := hF12); (have HB12 : Hid (Below w9.heap.size w9 w12) := HB11.out.trans (hb12.mono HB11.out.size)); (have K12 := HKS.out w12 HB12.out); clear hF12 hb12) | (go_at_call 14; refine (rall_any v1 fs num _ (H1.out.later (HV9.out.trans (HB12.out.mono HV9.out.size))) (by have := HL.out; omega)).mono ?_; rintro e w13 ⟨⟨v13, rfl, hF13⟩, hb13⟩; (have H13 : Hid (Fds w13 v13 (allI fs num)) := hF13); (have H12b : Hid (Fds w13 v12 (allI fs num)) := H12.out.later hb13); (have HB13 : Hid (Below w9.heap.size w9 w13) := HB12.out.trans (hb13.mono HB12.out.size)); (have K13 := HKS.out w13 HB13.out); clear hF13 hb13) | (go_at_call 8; refine (rsame_true v12 v13 (allI fs num) _ H12b.out H13.out (fun f hf => HF.out f (List.mem_filter.1 hf).1) (by have h1 := HL.out; have h2 : (allI fs num).length ≤ fs.length := List.length_filter_le _ _; omega)).mono ?_; rintro e w14 ⟨rfl, hb14⟩; (have HB14 : Hid (Below w9.heap.size w9 w14) := HB13.out.trans (hb14.mono HB13.out.size)); (have K14 := HKS.out w14 HB14.out); clear hb14))
    all_goals
      go_wp2_with fail
      go_meet
      case rel => exact ⟨rfl, HB14.out⟩
  case rest =>
    obtain ⟨rfl, hbc⟩ := hcut
    have HBC : Hid (Below w9.heap.size w9 wc) := hbc
    have HVA : Hid (wc.ownsRow W8.heap.size 35 4 va ps.length (flL ps) ∧ OwnB W8.heap.size wc ps ∧ Below W8.heap.size W8 wc) := ⟨own_kept HOA.out.1 fun q _ hq => hbc.block q hq, fun p hp => own_kept (HOA.out.2 p hp) fun q _ hq => hbc.block q hq, HB9.out.trans (hbc.mono HB9.out.size)⟩
    obtain ⟨ag, ac, hav⟩ := own_slice HVA.out.1
    subst hav
    obtain ⟨N, hN⟩ : ∃ N, ps.length = N := ⟨_, rfl⟩
    have HNN : Hid (ps.length = N) := hN
    have hN1 : (N : Int) ≤ 1048576 := by
      have h1 := HL.out.1
      have h2 : (allI fs num).length ≤ fs.length := List.length_filter_le _ _
      have h3 := congrArg List.length HPS.out.1
      rw [List.length_map] at h3
      omega
    rw [hN] at HVA ⊢
    clear hN hbc x0 x1 x2 x3 y0 y1 y2 y3 q7 q8 HKS HFA HT1 HT2
    go_wp2_with fail
    go_loopw [17] (fun i wr => ∃ k : Nat, k ≤ N ∧ i = .int .i64 (k : Int) ∧ wr.ownsRow W8.heap.size 35 4 (.slice ag N ac) N (flL ps) ∧ OwnB W8.heap.size wr (ps.drop k) ∧ Below W8.heap.size W8 wr) (fun i wr => N - (intOf i).toNat)
    case atStart => exact ⟨0, by omega, rfl, HVA.out.1, by rw [List.drop_zero]; exact HVA.out.2.1, HVA.out.2.2⟩
    case round =>
      obtain ⟨k, hk, rfl, hrow, hrest, hbel⟩ := hrel
      have HRO : Hid (wr.ownsRow W8.heap.size 35 4 (.slice ag N ac) N (flL ps)) := hrow
      have HRE : Hid (OwnB W8.heap.size wr (ps.drop k)) := hrest
      have HBE : Hid (Below W8.heap.size W8 wr) := hbel
      clear hrow hrest hbel
      by_cases hlt : k < N
      · obtain ⟨p, hpk⟩ : ∃ p, ps[k]? = some p := ⟨_, List.getElem?_eq_getElem (by have := HNN.out; omega)⟩
        have hdk : ps.drop k = p :: ps.drop (k + 1) := by
          obtain ⟨h1, h2⟩ := List.getElem?_eq_some_iff.1 hpk
          rw [← h2]
          exact List.drop_eq_getElem_cons h1
        have hop := HRE.out p (by rw [hdk]; exact List.mem_cons_self ..)
        obtain ⟨g, cp, hg⟩ := own_form HRO.out (by omega)
        obtain ⟨rfl, -, rfl⟩ := Value.slice.inj hg
        have c3 : wr.cell? ⟨g, k * 4 + 3, none⟩ = some p.2 := by
          rw [HRO.out.cellAt (k * 4 + 3) (by omega), flL_at ps k p 3 hpk (by omega)]
          rfl
        obtain ⟨qa, qc, hqv⟩ := own_slice hop
        have hfit : p.1.Fit := HF.out p.1 (by
          have h : p.1 ∈ allI fs num := by rw [← HPS.out.1]; exact List.mem_map.2 ⟨p, List.mem_of_getElem? hpk, rfl⟩
          exact (List.mem_filter.1 h).1)
        have HOP : Hid (wr.ownsRow W8.heap.size 5 1 p.2 p.1.b.length (u8l p.1.b) ∧ p.1.Fit ∧ ps.drop k = p :: ps.drop (k + 1)) := ⟨hop, hfit, hdk⟩
        have hcapN : (N : Int) ≤ (ac : Int) := by have := own_cap HRO.out; omega
        have HSP : Hid (Calls Try.prog 10 #[p.2] wr fun e w' => (∃ u, e = .returned u) ∧ Gr p.2 wr (.slice none 0 0) w') := spoil_own hop hfit.byt (by have := hfit.short; omega)
        obtain ⟨pv, hpv⟩ : ∃ pv, p.2 = pv := ⟨_, rfl⟩
        rw [hpv] at c3 HSP hqv
        have HPV : Hid (p.2 = pv) := hpv
        subst hqv
        clear hop hfit hdk hpk hpv hg
        go_wp2_with (go_at_call 10; refine HSP.out.mono ?_; rintro e w' ⟨⟨u, rfl⟩, hgr⟩)
        go_roundw
        case rel =>
          rw [← HPV.out] at hgr
          refine ⟨k + 1, by omega, by go_num, ?_, ?_, HBE.out.trans (hgr.below HBE.out.size (ownBlock_ge HOP.out.1))⟩
          · refine own_at HRO.out fun q hq => hgr.block q (HRO.out.lt q hq).2 ?_
            intro e
            obtain ⟨cur, hc⟩ := own_tag HOP.out.1 e
            obtain ⟨cur', hc'⟩ := own_tag HRO.out hq
            exact ne_tag hc hc' (by decide) rfl
          · intro q hq
            have hq' : q ∈ ps.drop k := by rw [HOP.out.2.2]; exact List.mem_cons_of_mem _ hq
            refine own_at (HRE.out q hq') fun b hb => hgr.block b ((HRE.out q hq').lt b hb).2 ?_
            intro e
            have hd : Dis (p :: ps.drop (k + 1)) := by rw [← HOP.out.2.2]; exact List.Pairwise.drop HPS.out.2
            exact (List.pairwise_cons.1 hd).1 q hq b e hb
        case measure => simp [intOf]; omega
      · have HZ : Hid (Below w1.heap.size w1 wr ∧ Below w.heap.size w wr) := ⟨HW8.out.trans (HBE.out.mono HW8.out.size), HV8.out.trans (HBE.out.mono HV8.out.size)⟩
        go_wp2_with fail
        refine (taken_any v7 fs wr (H7.out.later HZ.out.1) (by have := HL.out; omega)).mono ?_
        rintro e wa ⟨⟨va', rfl, hFa⟩, hba⟩
        have HBa : Hid (Below wr.heap.size wr wa) := hba
        have HFa : Hid (Fds wa va' fs) := hFa
        clear hba hFa
        go_wp2_with fail
        refine (rsame_true va' v1 fs wa HFa.out (H1.out.later (HZ.out.2.trans (HBa.out.mono HZ.out.2.size))) HF.out (by have := HL.out; omega)).mono ?_
        rintro e wb ⟨rfl, hbb⟩
        have HBb : Hid (Below wr.heap.size wr wb) := HBa.out.trans (hbb.mono HBa.out.size)
        clear hbb
        go_wp2_with fail
        refine (given_any v2 gs wb (H2.out.later (HZ.out.2.trans (HBb.out.mono HZ.out.2.size))) HG.out (by have := HL.out; omega)).mono ?_
        rintro e wd ⟨⟨vd, rfl, hFd⟩, hbd⟩
        have HBd : Hid (Below wr.heap.size wr wd) := HBb.out.trans (hbd.mono HBb.out.size)
        have HFd : Hid (Fds wd vd gs) := hFd
        clear hbd hFd
        go_wp2_with fail
        refine (wsame_any v7 vd fs gs wd (H7.out.later (HZ.out.1.trans (HBd.out.mono HZ.out.1.size))) HFd.out HF.out HG.out (by have := HL.out; omega)).mono ?_
        rintro e we ⟨⟨r1, rfl, hr1⟩, hbe⟩
        have HBe : Hid (Below wr.heap.size wr we) := HBd.out.trans (hbe.mono HBd.out.size)
        have HR1 : Hid (r1 = true ↔ fs = gs) := hr1
        clear hbe hr1
        go_wp2_with fail
        refine (rsame_any v1 v2 fs gs we (H1.out.later (HZ.out.2.trans (HBe.out.mono HZ.out.2.size))) (H2.out.later (HZ.out.2.trans (HBe.out.mono HZ.out.2.size))) HF.out HG.out (by have := HL.out; omega)).mono ?_
        rintro e wf ⟨⟨r2, rfl, hr2⟩, hbf⟩
        have HBf : Hid (Below wr.heap.size wr wf) := HBe.out.trans (hbf.mono HBe.out.size)
        have hrr : r2 = r1 := by
          have h1 := HR1.out
          rw [Bool.eq_iff_iff, hr2, h1]
        subst hrr
        clear hbf hr2
        go_wp2_with (go_at_call 16; refine (known_any wf).mono ?_; rintro e wg ⟨rfl, hbg⟩)
        go_ret
        exact ⟨rfl, (HZ.out.2.trans (HBf.out.mono HZ.out.2.size)).trans (hbg.mono (HZ.out.2.trans (HBf.out.mono HZ.out.2.size)).size)⟩
end Go.Proofs.Ytlgkajellndhlaa
