/- A block, by the definition. -/
import Derived.Test.YtfdmepblhlifcaaDoorA5
import Derived.Deep.RegionHeld3
import Derived.BigRegion
import Derived.BigQuiet
import Derived.StillTailTactics
namespace Go.Proofs.YtfdmepblhlifcaaDoor
open Go.RowKit
set_option linter.unusedVariables false
set_option linter.unusedSimpArgs false

theorem or_comm32 (x y : Int) : bits .or .u32 x y = bits .or .u32 y x := by
  unfold bits
  simp only [BitVec.or_comm]
theorem rturned_any (x n : Int) (w : World) (h0 : 0 ≤ x) (h1 : x < 4294967296) (n0 : 1 ≤ n) (n1 : n ≤ 31) : Calls Tryd.prog 50 #[.int .u32 x, .int .u64 n] w fun e w' => e = .returned (.int .u32 (rotI x n)) ∧ w' = w := by
  go_enter Tryd.func50, Tryd.ntmps50
  go_wp2
  go_ret
  refine ⟨ret_int ?_, rfl⟩
  unfold rotI
  rw [or_comm32]
theorem addK_comm (s t : List Int) : addK t s 8 = addK s t 8 := by
  unfold addK
  apply List.map_congr_left
  intro j hj
  rw [if_pos (List.mem_range.1 hj), if_pos (List.mem_range.1 hj), Int.add_comm]
theorem still_of_quiet {P : Program} {ops : Array Oper} {W : World} {Q : Act → Prop} : ∀ (l : List Oper) (a : Act), wpQuiet P ops (fun w' => w' = W) Q l a → wpStill P ops W Q l a
  | [], a, h => h
  | o :: l, a, h => by
    unfold wpQuiet at h
    unfold wpStill
    split
    · rename_i hw
      rw [if_pos hw] at h
      obtain ⟨v, h1, h2⟩ := h
      have h3 := h1 W rfl
      have h4 := still_of_quiet l _ h2
      unfold Oper.quietAt at h3
      unfold Oper.still
      generalize (execOp a.eval o).run P W = r at h3
      cases r with
      | ok n w' =>
        cases n with
        | value u => obtain ⟨e1, e2⟩ := h3; subst e1; subst e2; exact ⟨rfl, h4⟩
        | skip => obtain ⟨e1, e2⟩ := h3; subst e1; subst e2; exact ⟨rfl, h4⟩
        | enter f args => obtain ⟨e1, e2⟩ := h3; subst e1; exact ⟨rfl, v, e2, h4⟩
        | _ => exact h3.elim
      | halt x w' => exact h3.elim
    · rename_i hw
      rw [if_neg hw] at h
      exact still_of_quiet l _ h
theorem mod_a (q T c Y X u : Int) : (q + T + c + ((Y + X) % 4294967296) + u) % 4294967296 = (q + T + c + Y + X + u) % 4294967296 := by omega
theorem mod_e (d q T c Y X : Int) : (d + (q + T + c + ((Y + X) % 4294967296))) % 4294967296 = (d + (q + T + c + Y + X)) % 4294967296 := by omega
theorem drew_heap (w : World) : w.drew.heap = w.heap := rfl
theorem roots_len : rootsI.length = 64 := rfl

/-- What is laid ahead of the loops. -/
structure Laid4 (w wr : World) (s : List Int) : Prop where
  bel : Below w.heap.size w wr
  st : wr.heap[w.heap.size]? = some (.cells (u32s s) 62 (0, 0))
  ks : wr.heap[w.heap.size + 1]? = some (.cells (u32s rootsI) 76 (0, 0))
  out : wr.heap[w.heap.size + 2]? = some (.cells (u32s (List.replicate 8 0)) 62 (0, 0))
theorem Laid4.set {w wr : World} {s : List Int} (h : Laid4 w wr s) (g j : Nat) (v : Value) (hg : w.heap.size + 3 ≤ g) : Laid4 w (wr.setCell ⟨g, j, none⟩ v) s :=
  ⟨h.bel.setCell (by dsimp only; omega) _, (Below.heap_setCell _ _ _ _ (by dsimp only; omega)).trans h.st, (Below.heap_setCell _ _ _ _ (by dsimp only; omega)).trans h.ks, (Below.heap_setCell _ _ _ _ (by dsimp only; omega)).trans h.out⟩
theorem Laid4.setRow {w wr : World} {s : List Int} (h : Laid4 w wr s) (g : Nat) (cs : Array Value) (hg : w.heap.size + 3 ≤ g) : Laid4 w (wr.setRow g cs) s :=
  ⟨below_setRow h.bel (by omega) _, (setRow_other _ _ _ _ (by omega)).trans h.st, (setRow_other _ _ _ _ (by omega)).trans h.ks, (setRow_other _ _ _ _ (by omega)).trans h.out⟩
theorem Laid4.alloc {w wr : World} {s : List Int} (h : Laid4 w wr s) (o : Obj) : Laid4 w (wr.alloc o) s :=
  ⟨h.bel.alloc h.bel.size _, (Below.heap_alloc _ _ _ (Array.getElem?_eq_some_iff.1 h.st).1).trans h.st, (Below.heap_alloc _ _ _ (Array.getElem?_eq_some_iff.1 h.ks).1).trans h.ks, (Below.heap_alloc _ _ _ (Array.getElem?_eq_some_iff.1 h.out).1).trans h.out⟩
theorem Laid4.set8 {w wr : World} {s : List Int} (h : Laid4 w wr s) (g : Nat) (A B C D E F G Q : Int) (hg : w.heap.size + 3 ≤ g) :
    Laid4 w ((((((((wr.setCell ⟨g, 0, none⟩ (.int .u32 A)).setCell ⟨g, 1, none⟩ (.int .u32 B)).setCell ⟨g, 2, none⟩ (.int .u32 C)).setCell ⟨g, 3, none⟩ (.int .u32 D)).setCell ⟨g, 4, none⟩ (.int .u32 E)).setCell ⟨g, 5, none⟩ (.int .u32 F)).setCell ⟨g, 6, none⟩ (.int .u32 G)).setCell ⟨g, 7, none⟩ (.int .u32 Q)) s := by
  iterate 8 refine Laid4.set ?_ _ _ _ hg
  exact h
theorem Laid4.drew {w wr : World} {s : List Int} (h : Laid4 w wr s) : Laid4 w wr.drew s := ⟨h.bel.drew, h.st, h.ks, h.out⟩

set_option maxRecDepth 20000 in
set_option maxHeartbeats 8000000 in
theorem rblock_any (s bl : List Int) (bb off cap : Nat) (w : World) (hs : s.length = 8) (hw : W32 s) (hl : bl.length = 64) (hb : bb < w.heap.size) (hB : BRow w bb off bl) :
    Calls Tryd.prog 44 #[.agg (u32s s), .slice (some ⟨bb, off, none⟩) 64 cap, .agg (u32s rootsI)] w fun e w' => e = .returned (.agg (u32s (afterI s bl))) ∧ Below w.heap.size w w' := by
  have HL : Hid (bl.length = 64) := hl
  have HB : Hid (BRow w bb off bl) := hB
  have HW : Hid (W32 s) := hw
  have HS : Hid (s.length = 8) := hs
  have HBB : Hid (bb < w.heap.size) := hb
  clear hl hB hw hs
  go_enter Tryd.func44, Tryd.ntmps44
  go_wp2_with fail
  go_loopw [8] (fun i wr => ∃ k : Nat, k ≤ 16 ∧ i = .int .i64 k ∧ wr.heap.size = w.heap.size + 4 ∧ wr.heap[w.heap.size + 3]? = some (.cells (u32s (firstW bl k ++ List.replicate (64 - k) 0)) 76 (0, 0)) ∧ Laid4 w wr s) (fun i wr => 16 - (intOf i).toNat)
  case atStart =>
    refine ⟨0, by omega, rfl, by simp, ?_, ⟨?_, ?_, ?_, ?_⟩⟩
    · have h := Go.heap_alloc_new (((w.alloc (.cells (u32s s) 62)).alloc (.cells (u32s rootsI) 76)).alloc (.cells (u32s (List.replicate 8 0)) 62)) (.cells (u32s (List.replicate 64 0)) 76)
      simp only [World.size_alloc] at h
      exact h
    · exact ((((Below.refl _ w).alloc (Nat.le_refl _) _).alloc (by simp) _).alloc (by simp <;> omega) _).alloc (by simp <;> omega) _
    · rw [Below.heap_alloc _ _ _ (by simp <;> omega), Below.heap_alloc _ _ _ (by simp <;> omega), Below.heap_alloc _ _ _ (by simp), Go.heap_alloc_new]
    · rw [Below.heap_alloc _ _ _ (by simp <;> omega), Below.heap_alloc _ _ _ (by simp <;> omega)]
      have h := Go.heap_alloc_new (w.alloc (.cells (u32s s) 62)) (.cells (u32s rootsI) 76)
      simp only [World.size_alloc] at h
      exact h
    · rw [Below.heap_alloc _ _ _ (by simp <;> omega)]
      have h := Go.heap_alloc_new ((w.alloc (.cells (u32s s) 62)).alloc (.cells (u32s rootsI) 76)) (.cells (u32s (List.replicate 8 0)) 62)
      simp only [World.size_alloc] at h
      exact h
  case round =>
    obtain ⟨k, hk, rfl, hsz, hg3, hL4⟩ := hrel
    have HG3 : Hid (wr.heap[w.heap.size + 3]? = some (.cells (u32s (firstW bl k ++ List.replicate (64 - k) 0)) 76 (0, 0))) := hg3
    have HL4 : Hid (Laid4 w wr s) := hL4
    have HSZ : Hid (wr.heap.size = w.heap.size + 4) := hsz
    clear hg3 hL4 hsz
    by_cases hlt : k < 16
    · have hlt' : (k : Int) < 16 := by omega
      have hl := HL.out
      have hBr := HB.out.later HL4.out.bel HBB.out
      have c0 := hBr.cell (4 * k) (by omega)
      have c1 := hBr.cell (4 * k + 1) (by omega)
      have c2 := hBr.cell (4 * k + 2) (by omega)
      have c3 := hBr.cell (4 * k + 3) (by omega)
      obtain ⟨z, c4⟩ : ∃ z, wr.cell? ⟨w.heap.size + 3, k, none⟩ = some (.int .u32 z) := ⟨_, by rw [cell_of_row _ _ _ _ _ _ HG3.out, get_u32s _ _ (by simp [firstW]; omega)]⟩
      have f4 : wr.frozen? ⟨w.heap.size + 3, k, none⟩ = false := frozen_of_row _ _ _ _ _ HG3.out
      have hby := HB.out.byt
      obtain ⟨p0, q0⟩ := hby (bl.getD (4 * k) 0) (by rw [List.getD_eq_getElem?_getD, List.getElem?_eq_getElem (by omega)]; exact List.getElem_mem _)
      obtain ⟨p1, q1⟩ := hby (bl.getD (4 * k + 1) 0) (by rw [List.getD_eq_getElem?_getD, List.getElem?_eq_getElem (by omega)]; exact List.getElem_mem _)
      obtain ⟨p2, q2⟩ := hby (bl.getD (4 * k + 2) 0) (by rw [List.getD_eq_getElem?_getD, List.getElem?_eq_getElem (by omega)]; exact List.getElem_mem _)
      obtain ⟨p3, q3⟩ := hby (bl.getD (4 * k + 3) 0) (by rw [List.getD_eq_getElem?_getD, List.getElem?_eq_getElem (by omega)]; exact List.getElem_mem _)
      have HWI : Hid (wordI bl k = wordV (bl.getD (4 * k) 0) (bl.getD (4 * k + 1) 0) (bl.getD (4 * k + 2) 0) (bl.getD (4 * k + 3) 0)) := rfl
      generalize bl.getD (4 * k) 0 = b0 at c0 p0 q0 HWI
      generalize bl.getD (4 * k + 1) 0 = b1 at c1 p1 q1 HWI
      generalize bl.getD (4 * k + 2) 0 = b2 at c2 p2 q2 HWI
      generalize bl.getD (4 * k + 3) 0 = b3 at c3 p3 q3 HWI
      have n0 : 4 * (k : Int) < 64 := by omega
      have n1 : 4 * (k : Int) + 1 < 64 := by omega
      have n2 : 4 * (k : Int) + 2 < 64 := by omega
      have n3 : 4 * (k : Int) + 3 < 64 := by omega
      clear hl hBr hby
      go_wp2_with fail
      go_region
      go_wp2_with fail
      go_roundw
      case rel =>
        refine ⟨k + 1, by omega, by go_num, by simpa using HSZ.out, ?_, (HL4.out.set _ _ _ (by omega)).drew⟩
        refine (heap_setCell_same _ _ _ _ _ _ HG3.out).trans ?_
        rw [set_u32s]
        have e : wordI bl k = bits .or .u32 (bits .or .u32 (bits .or .u32 (b0 * 16777216) (b1 * 65536)) (b2 * 256)) b3 := HWI.out
        rw [← e]
        unfold firstW
        rw [List.range_succ, List.map_append, List.append_assoc]
        congr 3
        rw [show 64 - k = (64 - (k + 1)) + 1 by omega, List.replicate_succ]
        rw [List.set_append_right _ _ (by simp)]
        simp
      case measure => simp [intOf]; omega
    · have hk16 : k = 16 := by omega
      subst hk16
      rw [show ((16 : Nat) : Int) = 16 from rfl]
      clear hlt hk
      go_wp2_with fail
      go_loopw [9, 10, 11] (fun v x y wr => ∃ i k : Nat, k ≤ 48 ∧ i = k + 16 ∧ v = .int .i64 i ∧ wr.heap.size = w.heap.size + 4 ∧ wr.heap[w.heap.size + 3]? = some (.cells (u32s (growN k (firstW bl 16) ++ List.replicate (48 - k) 0)) 76 (0, 0)) ∧ Laid4 w wr s) (fun i x y wr => 64 - (intOf i).toNat)
      case atStart => exact ⟨16, 0, by omega, rfl, rfl, HSZ.out, HG3.out, HL4.out⟩
      case round =>
        clear HG3 HL4 HSZ
        obtain ⟨i, k, hk, hik, rfl, hsz, hg3, hL4⟩ := hrel
        have HG3 : Hid (wr.heap[w.heap.size + 3]? = some (.cells (u32s (growN k (firstW bl 16) ++ List.replicate (48 - k) 0)) 76 (0, 0))) := hg3
        have HL4 : Hid (Laid4 w wr s) := hL4
        have HSZ : Hid (wr.heap.size = w.heap.size + 4) := hsz
        have HIK : Hid (i = k + 16) := hik
        clear hg3 hL4 hsz
        by_cases hlt : k < 48
        · have hlt' : (i : Int) < 64 := by omega
          obtain ⟨j1, hj1⟩ : ∃ j1 : Nat, j1 = k + 1 := ⟨_, rfl⟩
          obtain ⟨j2, hj2⟩ : ∃ j2 : Nat, j2 = k + 9 := ⟨_, rfl⟩
          obtain ⟨j3, hj3⟩ : ∃ j3 : Nat, j3 = k + 14 := ⟨_, rfl⟩
          have w0 : IntKind.i64.wrap (k : Int) = k := wrap64_small _ (by omega) (by omega)
          have w1 : IntKind.i64.wrap (j1 : Int) = j1 := wrap64_small _ (by omega) (by omega)
          have w2 : IntKind.i64.wrap (j2 : Int) = j2 := wrap64_small _ (by omega) (by omega)
          have w3 : IntKind.i64.wrap (j3 : Int) = j3 := wrap64_small _ (by omega) (by omega)
          have d0 : ¬ (i = k) := by omega
          have d1 : ¬ (i = j1) := by omega
          have d2 : ¬ (i = j2) := by omega
          have d3 : ¬ (i = j3) := by omega
          have e0 : (i : Int) - 16 = k := by omega
          have e1 : (i : Int) - 15 = j1 := by omega
          have e2 : (i : Int) - 7 = j2 := by omega
          have e3 : (i : Int) - 2 = j3 := by omega
          have l0 : (k : Int) < 64 := by omega
          have l1 : (j1 : Int) < 64 := by omega
          have l2 : (j2 : Int) < 64 := by omega
          have l3 : (j3 : Int) < 64 := by omega
          have hn : (growN k (firstW bl 16)).length = k + 16 := grow_len _ _ (by simp [firstW])
          have hn2 : (growN k (firstW bl 16) ++ List.replicate (48 - k) 0).length = 64 := by simp [hn]; omega
          have hw : W32 (growN k (firstW bl 16)) := grow_w32 _ _ (first_w32 _ _)
          have hc : ∀ j : Nat, j < k + 16 → wr.cell? ⟨w.heap.size + 3, j, none⟩ = some (.int .u32 ((growN k (firstW bl 16)).getD j 0)) := by
            intro j hj
            rw [cell_of_row _ _ _ _ _ _ HG3.out, get_u32s _ _ (by omega)]
            simp only [List.getD_eq_getElem?_getD, List.getElem?_append_left (show j < (growN k (firstW bl 16)).length by omega)]
          have c0 := hc k (by omega)
          have c1 := hc j1 (by omega)
          have c2 := hc j2 (by omega)
          have c3 := hc j3 (by omega)
          obtain ⟨z, c4⟩ : ∃ z, wr.cell? ⟨w.heap.size + 3, i, none⟩ = some (.int .u32 z) := ⟨_, by rw [cell_of_row _ _ _ _ _ _ HG3.out, get_u32s _ _ (by omega)]⟩
          have f4 : wr.frozen? ⟨w.heap.size + 3, i, none⟩ = false := frozen_of_row _ _ _ _ _ HG3.out
          have HX : Hid (nextW (growN k (firstW bl 16)) = ((growN k (firstW bl 16)).getD k 0 + mixedI ((growN k (firstW bl 16)).getD j1 0) 7 18 3 + (growN k (firstW bl 16)).getD j2 0 + mixedI ((growN k (firstW bl 16)).getD j3 0) 17 19 10) % 4294967296) := by
            show _ = _
            unfold nextW
            rw [hn, hj1, hj2, hj3]
            simp
          obtain ⟨p0, q0⟩ := w32_at hw k (by omega)
          obtain ⟨p1, q1⟩ := w32_at hw j1 (by omega)
          obtain ⟨p2, q2⟩ := w32_at hw j2 (by omega)
          obtain ⟨p3, q3⟩ := w32_at hw j3 (by omega)
          have HN : Hid ((growN k (firstW bl 16)).length = k + 16) := hn
          clear hc hn hn2 hw hj1 hj2 hj3 hik
          generalize (growN k (firstW bl 16)).getD k 0 = b0 at c0 p0 q0 HX
          generalize (growN k (firstW bl 16)).getD j1 0 = b1 at c1 p1 q1 HX
          generalize (growN k (firstW bl 16)).getD j2 0 = b2 at c2 p2 q2 HX
          generalize (growN k (firstW bl 16)).getD j3 0 = b3 at c3 p3 q3 HX
          have R1 : Hid (∀ w, Calls Tryd.prog 50 #[.int .u32 b1, .int .u64 7] w fun e w' => e = .returned (.int .u32 (rotI b1 7)) ∧ w' = w) := fun w => rturned_any b1 7 w p1 q1 (by decide) (by decide)
          have R2 : Hid (∀ w, Calls Tryd.prog 50 #[.int .u32 b1, .int .u64 18] w fun e w' => e = .returned (.int .u32 (rotI b1 18)) ∧ w' = w) := fun w => rturned_any b1 18 w p1 q1 (by decide) (by decide)
          have R3 : Hid (∀ w, Calls Tryd.prog 50 #[.int .u32 b3, .int .u64 17] w fun e w' => e = .returned (.int .u32 (rotI b3 17)) ∧ w' = w) := fun w => rturned_any b3 17 w p3 q3 (by decide) (by decide)
          have R4 : Hid (∀ w, Calls Tryd.prog 50 #[.int .u32 b3, .int .u64 19] w fun e w' => e = .returned (.int .u32 (rotI b3 19)) ∧ w' = w) := fun w => rturned_any b3 19 w p3 q3 (by decide) (by decide)
          have M1 : bits .xor .u32 (bits .xor .u32 (rotI b1 7) (rotI b1 18)) (b1 / 8) = mixedI b1 7 18 3 := rfl
          have M2 : bits .xor .u32 (bits .xor .u32 (rotI b3 17) (rotI b3 19)) (b3 / 1024) = mixedI b3 17 19 10 := rfl
          obtain ⟨s1, s2⟩ := rot_bd b1 7
          obtain ⟨s3, s4⟩ := rot_bd b1 18
          obtain ⟨s5, s6⟩ := rot_bd b3 17
          obtain ⟨s7, s8⟩ := rot_bd b3 19
          obtain ⟨m0, m1⟩ := mixed_bd b1 7 18 3
          obtain ⟨m2, m3⟩ := mixed_bd b3 17 19 10
          generalize rotI b1 7 = r1 at *
          generalize rotI b1 18 = r2 at *
          generalize rotI b3 17 = r3 at *
          generalize rotI b3 19 = r4 at *
          generalize mixedI b1 7 18 3 = X1 at *
          generalize mixedI b3 17 19 10 = X2 at *
          go_wp2_with fail
          refine wp_region_still_tail 29 (by kernel_rfl) (by kernel_rfl) (still_of_quiet _ _ ?_)
          simp only [List.take_succ_cons, List.take_zero, List.drop_succ_cons, List.drop_zero]
          rw [show ({ wr with drawn := wr.drawn + 1 } : World) = wr.drew from rfl]
          repeat (first | go_big_quiet_skip | (go_big_quiet_want; go_big_quiet_op; go_big_quiet_on))
          (go_big_quiet_want; go_big_quiet_op; refine ⟨_, R1.out _, ?_⟩; go_big_quiet_on)
          repeat (first | go_big_quiet_skip | (go_big_quiet_want; go_big_quiet_op; go_big_quiet_on))
          (go_big_quiet_want; go_big_quiet_op; refine ⟨_, R2.out _, ?_⟩; go_big_quiet_on)
          repeat (first | go_big_quiet_skip | (go_big_quiet_want; go_big_quiet_op; go_big_quiet_on))
          (go_big_quiet_want; go_big_quiet_op; refine ⟨_, R3.out _, ?_⟩; go_big_quiet_on)
          repeat (first | go_big_quiet_skip | (go_big_quiet_want; go_big_quiet_op; go_big_quiet_on))
          (go_big_quiet_want; go_big_quiet_op; refine ⟨_, R4.out _, ?_⟩; go_big_quiet_on)
          repeat (first | go_big_quiet_skip | (go_big_quiet_want; go_big_quiet_op; go_big_quiet_on))
          refine wpQuiet_nil ?_
          go_wp2_with fail
          go_roundw
          case rel =>
            have hik := HIK.out
            refine ⟨i + 1, k + 1, by omega, by omega, by go_num, by simpa using HSZ.out, ?_, ?_⟩
            · refine (heap_setCell_same _ _ _ _ _ _ HG3.out).trans ?_
              rw [set_u32s]
              have hn := HN.out
              rw [← HX.out]
              show some (Obj.cells (u32s _) 76 (0, 0)) = some (Obj.cells (u32s ((growN k (firstW bl 16) ++ [nextW (growN k (firstW bl 16))]) ++ _)) 76 (0, 0))
              rw [List.append_assoc]
              rw [show 48 - k = (48 - (k + 1)) + 1 by omega, List.replicate_succ, List.set_append_right _ _ (by omega)]
              rw [show i - (growN k (firstW bl 16)).length = 0 by omega]
              simp
            · exact HL4.out.drew.set _ _ _ (by omega)
          case measure => simp [intOf]; omega
        · have hk48 : k = 48 := by omega
          subst hk48
          have hi64 : (i : Int) = 64 := by have := HIK.out; omega
          have HG3' : Hid (wr.heap[w.heap.size + 3]? = some (.cells (u32s (schedI bl)) 76 (0, 0))) := by
            have h := HG3.out
            show _ = _
            simpa [schedI] using h
          clear hlt hk hik HG3
          go_wp2_with (first | (refine wpList_load_row rfl 62 _ rfl w.heap.size rfl 62 (u32s s) (0, 0) _ HL4.out.st Tryd.underlying62 rfl ?h1 ?_) | (refine wpList_store_row rfl 62 _ _ rfl wr.heap.size (u32s s) rfl rfl 62 (u32s (List.replicate 8 0)) (Go.heap_alloc_new _ _) ?h2 ?h3 (one_u32s _) ?_))
          case h1 => rw [size_u32s, HS.out]; kernel_rfl
          case h2 => rw [size_u32s, HS.out]; kernel_rfl
          case h3 => simp [size_u32s, HS.out]
          obtain ⟨g, hg⟩ : ∃ g, wr.heap.size = g := ⟨_, rfl⟩
          have hg4 : g = w.heap.size + 4 := by rw [← hg]; exact HSZ.out
          obtain ⟨W3, hW3⟩ : ∃ W3, (wr.alloc (.cells (u32s (List.replicate 8 0)) 62)).setRow g (u32s s) = W3 := ⟨_, rfl⟩
          have HV : Hid (W3.heap[g]? = some (.cells (u32s s) 62 (0, 0))) := by
            show _ = _
            rw [← hW3, ← hg]
            exact setRow_heap _ _ _ _ _ _ (Go.heap_alloc_new _ _)
          have HG33 : Hid (W3.heap[w.heap.size + 3]? = some (.cells (u32s (schedI bl)) 76 (0, 0))) := by
            show _ = _
            rw [← hW3]
            exact (setRow_other _ _ _ _ (by omega)).trans ((Below.heap_alloc _ _ _ (Array.getElem?_eq_some_iff.1 HG3'.out).1).trans HG3'.out)
          have HL43 : Hid (Laid4 w W3 s) := by
            show Laid4 w W3 s
            rw [← hW3]
            exact (HL4.out.alloc _).setRow _ _ (by omega)
          show Code.wp _ _ _ _ ((wr.alloc (.cells (u32s (List.replicate 8 0)) 62)).setRow wr.heap.size (u32s s))
          rw [hg, hW3]
          have HG4 : Hid (w.heap.size + 4 ≤ g) := by show _ ≤ _; omega
          clear hW3 hg HG3' HL4 HSZ hg4
          go_loopw [13, 14, 15, 16, 17] (fun v x14 x15 x16 x17 wr => ∃ k : Nat, k ≤ 64 ∧ v = .int .i64 k ∧ wr.heap[w.heap.size + 3]? = some (.cells (u32s (schedI bl)) 76 (0, 0)) ∧ wr.heap[g]? = some (.cells (u32s (stN s (schedI bl) k)) 62 (0, 0)) ∧ Laid4 w wr s) (fun v x14 x15 x16 x17 wr => 64 - (intOf v).toNat)
          case atStart => exact ⟨0, by omega, rfl, HG33.out, HV.out, HL43.out⟩
          case round =>
            clear HG33 HV HL43
            obtain ⟨k, hk, rfl, hg3, hv, hL4⟩ := hrel
            have HG3 : Hid (wr.heap[w.heap.size + 3]? = some (.cells (u32s (schedI bl)) 76 (0, 0))) := hg3
            have HV : Hid (wr.heap[g]? = some (.cells (u32s (stN s (schedI bl) k)) 62 (0, 0))) := hv
            have HL4 : Hid (Laid4 w wr s) := hL4
            clear hg3 hv hL4
            by_cases hlt : k < 64
            · have hlt' : (k : Int) < 64 := by omega
              obtain ⟨x0, x1⟩ := w32_at (sched_w32 bl) k (by rw [sched_len]; omega)
              obtain ⟨y0, y1⟩ := w32_at roots_w32 k (by rw [roots_len]; exact hlt)
              have cx : wr.cell? ⟨w.heap.size + 3, k, none⟩ = some (.int .u32 ((schedI bl).getD k 0)) := by rw [cell_of_row _ _ _ _ _ _ HG3.out, get_u32s _ _ (by rw [sched_len]; omega)]
              have cy : wr.cell? ⟨w.heap.size + 1, k, none⟩ = some (.int .u32 (rootsI.getD k 0)) := by rw [cell_of_row _ _ _ _ _ _ HL4.out.ks, get_u32s _ _ (by rw [roots_len]; exact hlt)]
              have HT : Hid (stN s (schedI bl) (k + 1) = turnI (stN s (schedI bl) k) ((rootsI.getD k 0 + (schedI bl).getD k 0) % 4294967296)) := rfl
              generalize (schedI bl).getD k 0 = X at cx x0 x1 HT
              generalize rootsI.getD k 0 = Y at cy y0 y1 HT
              obtain ⟨t8, tw⟩ := stN_ok s (schedI bl) HS.out HW.out k
              obtain ⟨a', b', c', d', e', f', g', q', et⟩ := len8 t8
              rw [et] at HT tw
              have HV' : Hid (wr.heap[g]? = some (.cells (u32s [a', b', c', d', e', f', g', q']) 62 (0, 0))) := by rw [← et]; exact HV.out
              have z0 : wr.cell? ⟨g, 0, none⟩ = some (.int .u32 a') := cell_of_row _ _ _ _ _ _ HV'.out
              have z1 : wr.cell? ⟨g, 1, none⟩ = some (.int .u32 b') := cell_of_row _ _ _ _ _ _ HV'.out
              have z2 : wr.cell? ⟨g, 2, none⟩ = some (.int .u32 c') := cell_of_row _ _ _ _ _ _ HV'.out
              have z3 : wr.cell? ⟨g, 3, none⟩ = some (.int .u32 d') := cell_of_row _ _ _ _ _ _ HV'.out
              have z4 : wr.cell? ⟨g, 4, none⟩ = some (.int .u32 e') := cell_of_row _ _ _ _ _ _ HV'.out
              have z5 : wr.cell? ⟨g, 5, none⟩ = some (.int .u32 f') := cell_of_row _ _ _ _ _ _ HV'.out
              have z6 : wr.cell? ⟨g, 6, none⟩ = some (.int .u32 g') := cell_of_row _ _ _ _ _ _ HV'.out
              have z7 : wr.cell? ⟨g, 7, none⟩ = some (.int .u32 q') := cell_of_row _ _ _ _ _ _ HV'.out
              obtain ⟨a0, a1⟩ := tw a' (by simp)
              obtain ⟨b0, b1⟩ := tw b' (by simp)
              obtain ⟨c0, c1⟩ := tw c' (by simp)
              obtain ⟨d0, d1⟩ := tw d' (by simp)
              obtain ⟨e0, e1⟩ := tw e' (by simp)
              obtain ⟨f0, f1⟩ := tw f' (by simp)
              obtain ⟨g0, g1⟩ := tw g' (by simp)
              obtain ⟨q0, q1⟩ := tw q' (by simp)
              have R1 : Hid (∀ w, Calls Tryd.prog 50 #[.int .u32 e', .int .u64 6] w fun e w' => e = .returned (.int .u32 (rotI e' 6)) ∧ w' = w) := fun w => rturned_any e' 6 w e0 e1 (by decide) (by decide)
              have R2 : Hid (∀ w, Calls Tryd.prog 50 #[.int .u32 e', .int .u64 11] w fun e w' => e = .returned (.int .u32 (rotI e' 11)) ∧ w' = w) := fun w => rturned_any e' 11 w e0 e1 (by decide) (by decide)
              have R3 : Hid (∀ w, Calls Tryd.prog 50 #[.int .u32 e', .int .u64 25] w fun e w' => e = .returned (.int .u32 (rotI e' 25)) ∧ w' = w) := fun w => rturned_any e' 25 w e0 e1 (by decide) (by decide)
              have R4 : Hid (∀ w, Calls Tryd.prog 50 #[.int .u32 a', .int .u64 2] w fun e w' => e = .returned (.int .u32 (rotI a' 2)) ∧ w' = w) := fun w => rturned_any a' 2 w a0 a1 (by decide) (by decide)
              have R5 : Hid (∀ w, Calls Tryd.prog 50 #[.int .u32 a', .int .u64 13] w fun e w' => e = .returned (.int .u32 (rotI a' 13)) ∧ w' = w) := fun w => rturned_any a' 13 w a0 a1 (by decide) (by decide)
              have R6 : Hid (∀ w, Calls Tryd.prog 50 #[.int .u32 a', .int .u64 22] w fun e w' => e = .returned (.int .u32 (rotI a' 22)) ∧ w' = w) := fun w => rturned_any a' 22 w a0 a1 (by decide) (by decide)
              have M1 : bits .xor .u32 (bits .xor .u32 (rotI e' 6) (rotI e' 11)) (rotI e' 25) = turnedI e' 6 11 25 := rfl
              have M2 : bits .xor .u32 (bits .xor .u32 (rotI a' 2) (rotI a' 13)) (rotI a' 22) = turnedI a' 2 13 22 := rfl
              have M3 : bits .xor .u32 (bits .and .u32 e' f') (bits .and .u32 (bits .xor .u32 IntKind.u32.max e') g') = chI e' f' g' := rfl
              have M4 : bits .xor .u32 (bits .xor .u32 (bits .and .u32 a' b') (bits .and .u32 a' c')) (bits .and .u32 b' c') = mjI a' b' c' := rfl
              have HTI : Hid (turnI [a', b', c', d', e', f', g', q'] ((Y + X) % 4294967296) = [(q' + turnedI e' 6 11 25 + chI e' f' g' + ((Y + X) % 4294967296) + (turnedI a' 2 13 22 + mjI a' b' c')) % 4294967296, a', b', c', (d' + (q' + turnedI e' 6 11 25 + chI e' f' g' + ((Y + X) % 4294967296))) % 4294967296, e', f', g']) := rfl
              obtain ⟨o1, o2⟩ := turned_bd e' 6 11 25
              obtain ⟨o3, o4⟩ := turned_bd a' 2 13 22
              obtain ⟨o5, o6⟩ : 0 ≤ chI e' f' g' ∧ chI e' f' g' < 4294967296 := bits_u32 _ _ _
              obtain ⟨o7, o8⟩ : 0 ≤ mjI a' b' c' ∧ mjI a' b' c' < 4294967296 := bits_u32 _ _ _
              generalize turnedI e' 6 11 25 = T1 at *
              generalize turnedI a' 2 13 22 = T2 at *
              generalize chI e' f' g' = CH at *
              generalize mjI a' b' c' = MJ at *
              generalize rotI e' 6 = r1 at *
              generalize rotI e' 11 = r2 at *
              generalize rotI e' 25 = r3 at *
              generalize rotI a' 2 = r4 at *
              generalize rotI a' 13 = r5 at *
              generalize rotI a' 22 = r6 at *
              have HTF : Hid (stN s (schedI bl) (k + 1) = [(q' + T1 + CH + Y + X + (T2 + MJ)) % 4294967296, a', b', c', (d' + (q' + T1 + CH + Y + X)) % 4294967296, e', f', g']) := by
                have h := HT.out.trans HTI.out
                rw [mod_a, mod_e] at h
                exact h
              clear et t8 tw HV HT HTI
              go_wp2_with fail
              refine wp_region_still_lit (by kernel_rfl) (by kernel_rfl) (still_of_quiet _ _ ?_)
              rw [show ({ wr with drawn := wr.drawn + 1 } : World) = wr.drew from rfl]
              repeat (first | go_big_quiet_skip | (go_big_quiet_want; go_big_quiet_op; go_big_quiet_on))
              (go_big_quiet_want; go_big_quiet_op; refine ⟨_, R1.out _, ?_⟩; go_big_quiet_on)
              repeat (first | go_big_quiet_skip | (go_big_quiet_want; go_big_quiet_op; go_big_quiet_on))
              (go_big_quiet_want; go_big_quiet_op; refine ⟨_, R2.out _, ?_⟩; go_big_quiet_on)
              repeat (first | go_big_quiet_skip | (go_big_quiet_want; go_big_quiet_op; go_big_quiet_on))
              (go_big_quiet_want; go_big_quiet_op; refine ⟨_, R3.out _, ?_⟩; go_big_quiet_on)
              repeat (first | go_big_quiet_skip | (go_big_quiet_want; go_big_quiet_op; go_big_quiet_on))
              refine wpQuiet_nil ?_
              go_wp2_with fail
              refine wp_region_still_lit (by kernel_rfl) (by kernel_rfl) (still_of_quiet _ _ ?_)
              rw [show ({ wr.drew with drawn := wr.drew.drawn + 1 } : World) = wr.drew.drew from rfl]
              repeat (first | go_big_quiet_skip | (go_big_quiet_want; go_big_quiet_op; go_big_quiet_on))
              (go_big_quiet_want; go_big_quiet_op; refine ⟨_, R4.out _, ?_⟩; go_big_quiet_on)
              repeat (first | go_big_quiet_skip | (go_big_quiet_want; go_big_quiet_op; go_big_quiet_on))
              (go_big_quiet_want; go_big_quiet_op; refine ⟨_, R5.out _, ?_⟩; go_big_quiet_on)
              repeat (first | go_big_quiet_skip | (go_big_quiet_want; go_big_quiet_op; go_big_quiet_on))
              (go_big_quiet_want; go_big_quiet_op; refine ⟨_, R6.out _, ?_⟩; go_big_quiet_on)
              repeat (first | go_big_quiet_skip | (go_big_quiet_want; go_big_quiet_op; go_big_quiet_on))
              refine wpQuiet_nil ?_
              have HV2 : Hid (wr.drew.drew.heap[g]? = some (.cells (u32s [a', b', c', d', e', f', g', q']) 62 (0, 0))) := HV'.out
              have fz : ∀ j, wr.frozen? ⟨g, j, none⟩ = false := fun j => frozen_of_row _ _ _ _ _ HV'.out
              go_wp2_with fail
              go_roundw
              case rel =>
                have hgg := HG4.out
                have h1 := set8_row (A := (q' + T1 + CH + Y + X + (T2 + MJ)) % 4294967296) (B := a') (C := b') (D := c') (E := (d' + (q' + T1 + CH + Y + X)) % 4294967296) (F := e') (G := f') (Q := g') HV'.out
                have h2 := (set8_other wr g ((q' + T1 + CH + Y + X + (T2 + MJ)) % 4294967296) a' b' c' ((d' + (q' + T1 + CH + Y + X)) % 4294967296) e' f' g' (w.heap.size + 3) (by omega)).trans HG3.out
                have h3 := (HL4.out.set8 g ((q' + T1 + CH + Y + X + (T2 + MJ)) % 4294967296) a' b' c' ((d' + (q' + T1 + CH + Y + X)) % 4294967296) e' f' g' (by omega)).drew.drew
                have h4 := HTF.out
                exact ⟨k + 1, by omega, by go_num, by rw [drew_heap, drew_heap]; exact h2, by rw [h4, drew_heap, drew_heap]; exact h1, h3⟩
              case measure => simp [intOf]; omega
            · have hk64 : k = 64 := by omega
              subst hk64
              rw [show ((64 : Nat) : Int) = 64 from rfl]
              clear hlt hk
              obtain ⟨t8, tw⟩ := stN_ok s (schedI bl) HS.out HW.out 64
              have HA : Hid (afterI s bl = addK s (stN s (schedI bl) 64) 8) := rfl
              have HT8 : Hid ((stN s (schedI bl) 64).length = 8) := t8
              have HTW : Hid (W32 (stN s (schedI bl) 64)) := tw
              clear t8 tw HG3
              generalize stN s (schedI bl) 64 = t at HV HA HT8 HTW
              go_wp2_with fail
              go_loopw [18] (fun v wr => ∃ k : Nat, k ≤ 8 ∧ v = .int .i64 k ∧ wr.heap[g]? = some (.cells (u32s (addK t s k)) 62 (0, 0)) ∧ Laid4 w wr s) (fun v wr => 8 - (intOf v).toNat)
              case atStart => exact ⟨0, by omega, rfl, by rw [addK_zero t s HT8.out]; exact HV.out, HL4.out⟩
              case round =>
                clear HV HL4
                obtain ⟨k, hk, rfl, hv, hL4⟩ := hrel
                have HV : Hid (wr.heap[g]? = some (.cells (u32s (addK t s k)) 62 (0, 0))) := hv
                have HL4 : Hid (Laid4 w wr s) := hL4
                clear hv hL4
                by_cases hlt : k < 8
                · have hlt' : (k : Int) < 8 := by omega
                  have c0 : wr.cell? ⟨g, k, none⟩ = some (.int .u32 (t.getD k 0)) := by
                    rw [cell_of_row _ _ _ _ _ _ HV.out, get_u32s _ _ (by rw [addK_len]; exact hlt), addK_at t s k hlt]
                  have f0 : wr.frozen? ⟨g, k, none⟩ = false := frozen_of_row _ _ _ _ _ HV.out
                  have c3 : wr.cell? ⟨w.heap.size, k, none⟩ = some (.int .u32 (s.getD k 0)) := by
                    rw [cell_of_row _ _ _ _ _ _ HL4.out.st, get_u32s _ _ (by rw [HS.out]; exact hlt)]
                  obtain ⟨p0, p1⟩ := w32_at HW.out k (by rw [HS.out]; exact hlt)
                  obtain ⟨r0, r1⟩ := w32_at HTW.out k (by rw [HT8.out]; exact hlt)
                  have HST : Hid (addK t s (k + 1) = (addK t s k).set k ((t.getD k 0 + s.getD k 0) % 4294967296)) := addK_succ t s k hlt
                  generalize s.getD k 0 = x at c3 p0 p1 HST
                  generalize t.getD k 0 = y at c0 r0 r1 HST
                  go_wp2_with fail
                  go_region
                  go_wp2_with fail
                  go_roundw
                  case rel =>
                    have hgg := HG4.out
                    refine ⟨k + 1, by omega, by go_num, ?_, (HL4.out.set _ _ _ (by omega)).drew⟩
                    refine (heap_setCell_same _ _ _ _ _ _ HV.out).trans ?_
                    rw [set_u32s, HST.out]
                  case measure => simp [intOf]; omega
                · have hk8 : k = 8 := by omega
                  subst hk8
                  rw [show ((8 : Nat) : Int) = 8 from rfl]
                  rw [addK_comm, ← HA.out] at HV
                  have hl8 : (afterI s bl).length = 8 := by rw [HA.out, addK_len]
                  have HL8 : Hid ((afterI s bl).length = 8) := hl8
                  clear hlt hk hl8
                  go_wp2_with (first | (refine wpList_load_row rfl 62 _ rfl g rfl 62 (u32s (afterI s bl)) (0, 0) _ HV.out Tryd.underlying62 rfl ?h1 ?_) | (refine wpList_store_row rfl 62 _ _ rfl (w.heap.size + 2) (u32s (afterI s bl)) rfl rfl 62 (u32s (List.replicate 8 0)) HL4.out.out ?h2 ?h3 (one_u32s _) ?_))
                  case h1 => rw [size_u32s, HL8.out]; kernel_rfl
                  case h2 => rw [size_u32s, HL8.out]; kernel_rfl
                  case h3 => simp [size_u32s, HL8.out]
                  refine bodyPost_ret (v := .agg (u32s (afterI s bl))) (results_cell_row Tryd.results44 _ _ (w.heap.size + 2) 62 (u32s (afterI s bl)) (0, 0) _ rfl (setRow_heap _ _ _ _ _ _ HL4.out.out) Tryd.underlying62 rfl (by rw [size_u32s, HL8.out]; kernel_rfl)) rfl ⟨rfl, below_setRow HL4.out.bel (by omega) _⟩
end Go.Proofs.YtfdmepblhlifcaaDoor
