/- A block's words. -/
import Derived.Test.YtfdmepblhlifcaaDoorA1
import Derived.Laws.Rows
import Derived.Deep.RegionHeld3
import Derived.BigRegion
namespace Go.Proofs.YtfdmepblhlifcaaDoor
open Go.RowKit
set_option linter.unusedVariables false

theorem size_u32s (l : List Int) : (u32s l).size = l.length := by simp [u32s]
theorem size_u8s (l : List Int) : (u8s l).size = l.length := by simp [u8s]
theorem get_u32s (l : List Int) (j : Nat) (h : j < l.length) : (u32s l)[j]? = some (.int .u32 (l.getD j 0)) := by
  simp [u32s, List.getElem?_eq_getElem h]
theorem get_u8s (l : List Int) (j : Nat) (h : j < l.length) : (u8s l)[j]? = some (.int .u8 (l.getD j 0)) := by
  simp [u8s, List.getElem?_eq_getElem h]
theorem set_u32s (l : List Int) (j : Nat) (v : Int) : (u32s l).setIfInBounds j (.int .u32 v) = u32s (l.set j v) := by
  simp [u32s, List.map_set]
theorem set_u8s (l : List Int) (j : Nat) (v : Int) : (u8s l).setIfInBounds j (.int .u8 v) = u8s (l.set j v) := by
  simp [u8s, List.map_set]
theorem one_u32s (l : List Int) : (u32s l).all (·.oneCell') = true := by
  simp [u32s, Value.oneCell']
theorem one_u8s (l : List Int) : (u8s l).all (·.oneCell') = true := by
  simp [u8s, Value.oneCell']

theorem below_setRow {B : Nat} {a w : World} (h : Below B a w) {g : Nat} (hg : B ≤ g) (cs : Array Value) : Below B a (w.setRow g cs) :=
  h.trans ⟨rfl, rfl, rfl, by simp, fun k hk => setRow_other w g k cs (by omega)⟩

def wordV (a b c d : Int) : Int := bits .or .u32 (bits .or .u32 (bits .or .u32 (a * 16777216) (b * 65536)) (c * 256)) d
theorem word_bd (a b c d : Int) : 0 ≤ wordV a b c d ∧ wordV a b c d < 4294967296 := bits_u32 _ _ _
def wordI (bl : List Int) (i : Nat) : Int := wordV (bl.getD (4 * i) 0) (bl.getD (4 * i + 1) 0) (bl.getD (4 * i + 2) 0) (bl.getD (4 * i + 3) 0)
def nextW (l : List Int) : Int := (l.getD (l.length - 16) 0 + mixedI (l.getD (l.length - 15) 0) 7 18 3 + l.getD (l.length - 7) 0 + mixedI (l.getD (l.length - 2) 0) 17 19 10) % 4294967296
def growN : Nat → List Int → List Int
  | 0, l => l
  | n + 1, l => growN n l ++ [nextW (growN n l)]
def firstW (bl : List Int) (k : Nat) : List Int := (List.range k).map (wordI bl)
def schedI (bl : List Int) : List Int := growN 48 (firstW bl 16)

theorem wrap64_small (x : Int) (h0 : -9223372036854775808 ≤ x) (h1 : x ≤ 9223372036854775807) : IntKind.i64.wrap x = x := by
  unfold IntKind.wrap
  simp only [IntKind.bits, IntKind.signed, Bool.true_and]
  split <;> rename_i h <;> simp at h <;> omega
theorem w32_at {l : List Int} (h : W32 l) (j : Nat) (hj : j < l.length) : 0 ≤ l.getD j 0 ∧ l.getD j 0 < 4294967296 := by
  rw [List.getD_eq_getElem?_getD, List.getElem?_eq_getElem hj]
  exact h _ (List.getElem_mem hj)
theorem first_w32 (bl : List Int) (k : Nat) : W32 (firstW bl k) := by
  intro x hx
  unfold firstW at hx
  obtain ⟨i, _, rfl⟩ := List.mem_map.1 hx
  exact word_bd _ _ _ _
theorem grow_w32 : ∀ (n : Nat) (l : List Int), W32 l → W32 (growN n l)
  | 0, l, h => h
  | n + 1, l, h => by
    intro x hx
    rcases List.mem_append.1 hx with hx | hx
    · exact grow_w32 n l h x hx
    · rw [List.mem_singleton] at hx
      subst hx
      exact ⟨Int.emod_nonneg _ (by decide), Int.emod_lt_of_pos _ (by decide)⟩
theorem grow_len : ∀ (n : Nat) (l : List Int), l.length = 16 → (growN n l).length = n + 16
  | 0, l, h => by simpa [growN] using h
  | n + 1, l, h => by simp [growN, grow_len n l h, Nat.add_right_comm]

set_option maxRecDepth 20000 in
set_option maxHeartbeats 4000000 in
theorem sched_any (bl : List Int) (w : World) (hl : bl.length = 64) (hb : Byt bl) :
    Calls Tryd.prog 48 #[.agg (u8s bl)] w fun e w' => e = .returned (.agg (u32s (schedI bl))) ∧ Below w.heap.size w w' := by
  have HL : Hid (bl.length = 64) := hl
  have HB : Hid (Byt bl) := hb
  clear hl hb
  go_enter Tryd.func48, Tryd.ntmps48
  go_wp2
  go_loopw [4, 5, 7] (fun a b i wr => ∃ k : Nat, k ≤ 16 ∧ i = .int .i64 k ∧ wr.heap[w.heap.size]? = some (.cells (u8s bl) 64 (0, 0)) ∧ wr.heap[w.heap.size + 2]? = some (.cells (u32s (firstW bl k ++ List.replicate (64 - k) 0)) 76 (0, 0)) ∧ wr.heap.size = w.heap.size + 3 ∧ Below w.heap.size w wr ∧ wr.heap[w.heap.size + 1]? = some (.cells (u32s (List.replicate 64 0)) 76 (0, 0))) (fun a b i wr => 16 - (intOf i).toNat)
  case atStart =>
    refine ⟨0, by omega, rfl, ?_, ?_, by simp, ?_, ?_⟩
    · rw [Below.heap_alloc _ _ _ (by simp <;> omega), Below.heap_alloc _ _ _ (by simp), Go.heap_alloc_new]
    · have h := Go.heap_alloc_new ((w.alloc (.cells (u8s bl) 64)).alloc (.cells (u32s (List.replicate 64 0)) 76)) (.cells (u32s (List.replicate 64 0)) 76)
      simp only [World.size_alloc] at h
      exact h
    · exact (((Below.refl _ w).alloc (Nat.le_refl _) _).alloc (by simp) _).alloc (by simp <;> omega) _
    · rw [Below.heap_alloc _ _ _ (by simp)]
      have h := Go.heap_alloc_new (w.alloc (.cells (u8s bl) 64)) (.cells (u32s (List.replicate 64 0)) 76)
      simp only [World.size_alloc] at h
      exact h
  case round =>
    obtain ⟨k, hk, rfl, hg1, hg3, hsz, hbel, hg2⟩ := hrel
    have HG2 : Hid _ := hg2
    clear hg2
    by_cases hlt : k < 16
    · have hlt' : (k : Int) < 16 := by omega
      have h4 : 4 * (k : Int) ≤ 64 := by omega
      have h5 : 0 ≤ 4 * (k : Int) := by omega
      have HG1 : Hid _ := hg1
      have HG3 : Hid _ := hg3
      clear hg1 hg3
      have n0 : (0 : Int) < ((64 - 4 * k : Nat) : Int) := by omega
      have n1 : (1 : Int) < ((64 - 4 * k : Nat) : Int) := by omega
      have n2 : (2 : Int) < ((64 - 4 * k : Nat) : Int) := by omega
      have n3 : (3 : Int) < ((64 - 4 * k : Nat) : Int) := by omega
      have hl := HL.out
      have c0 : wr.cell? ⟨w.heap.size, 4 * k, none⟩ = some (.int .u8 (bl.getD (4 * k) 0)) := by rw [cell_of_row _ _ _ _ _ _ HG1.out, get_u8s _ _ (by omega)]
      have c1 : wr.cell? ⟨w.heap.size, 4 * k + 1, none⟩ = some (.int .u8 (bl.getD (4 * k + 1) 0)) := by rw [cell_of_row _ _ _ _ _ _ HG1.out, get_u8s _ _ (by omega)]
      have c2 : wr.cell? ⟨w.heap.size, 4 * k + 2, none⟩ = some (.int .u8 (bl.getD (4 * k + 2) 0)) := by rw [cell_of_row _ _ _ _ _ _ HG1.out, get_u8s _ _ (by omega)]
      have c3 : wr.cell? ⟨w.heap.size, 4 * k + 3, none⟩ = some (.int .u8 (bl.getD (4 * k + 3) 0)) := by rw [cell_of_row _ _ _ _ _ _ HG1.out, get_u8s _ _ (by omega)]
      obtain ⟨z, c4⟩ : ∃ z, wr.cell? ⟨w.heap.size + 2, k, none⟩ = some (.int .u32 z) := ⟨_, by rw [cell_of_row _ _ _ _ _ _ HG3.out, get_u32s _ _ (by simp; omega)]⟩
      have f4 : wr.frozen? ⟨w.heap.size + 2, k, none⟩ = false := frozen_of_row _ _ _ _ _ HG3.out
      obtain ⟨p0, q0⟩ := HB.out (bl.getD (4 * k) 0) (by rw [List.getD_eq_getElem?_getD, List.getElem?_eq_getElem (by omega)]; exact List.getElem_mem _)
      obtain ⟨p1, q1⟩ := HB.out (bl.getD (4 * k + 1) 0) (by rw [List.getD_eq_getElem?_getD, List.getElem?_eq_getElem (by omega)]; exact List.getElem_mem _)
      obtain ⟨p2, q2⟩ := HB.out (bl.getD (4 * k + 2) 0) (by rw [List.getD_eq_getElem?_getD, List.getElem?_eq_getElem (by omega)]; exact List.getElem_mem _)
      obtain ⟨p3, q3⟩ := HB.out (bl.getD (4 * k + 3) 0) (by rw [List.getD_eq_getElem?_getD, List.getElem?_eq_getElem (by omega)]; exact List.getElem_mem _)
      have HW : Hid (wordI bl k = wordV (bl.getD (4 * k) 0) (bl.getD (4 * k + 1) 0) (bl.getD (4 * k + 2) 0) (bl.getD (4 * k + 3) 0)) := rfl
      generalize bl.getD (4 * k) 0 = b0 at c0 p0 q0 HW
      generalize bl.getD (4 * k + 1) 0 = b1 at c1 p1 q1 HW
      generalize bl.getD (4 * k + 2) 0 = b2 at c2 p2 q2 HW
      generalize bl.getD (4 * k + 3) 0 = b3 at c3 p3 q3 HW
      clear hl
      go_wp2_with fail
      generalize 64 - 4 * k = n at n0 n1 n2 n3 ⊢
      go_region
      go_wp2_with fail
      go_roundw
      case rel =>
        refine ⟨k + 1, by omega, by go_num, ?_, ?_, by simpa using hsz, ?_, ?_⟩
        · exact (Below.heap_setCell _ _ _ _ (by dsimp only; omega)).trans HG1.out
        · refine (heap_setCell_same _ _ _ _ _ _ HG3.out).trans ?_
          rw [set_u32s]
          have e : wordI bl k = bits .or .u32 (bits .or .u32 (bits .or .u32 (b0 * 16777216) (b1 * 65536)) (b2 * 256)) b3 := HW.out
          rw [← e]
          unfold firstW
          rw [List.range_succ, List.map_append, List.append_assoc]
          congr 3
          rw [show 64 - k = (64 - (k + 1)) + 1 by omega, List.replicate_succ]
          rw [List.set_append_right _ _ (by simp)]
          simp
        · exact (hbel.setCell (by dsimp only; omega) _).drew
        · exact (Below.heap_setCell _ _ _ _ (by dsimp only; omega)).trans HG2.out
      case measure => simp [intOf]; omega
    · have hk16 : k = 16 := by omega
      subst hk16
      rw [show ((16 : Nat) : Int) = 16 from rfl]
      have HG3 : Hid _ := hg3
      clear hg1 hg3 hlt
      go_wp2_with fail
      go_loopw [6] (fun v wr => ∃ i k : Nat, k ≤ 48 ∧ i = k + 16 ∧ v = .int .i64 i ∧ wr.heap[w.heap.size + 2]? = some (.cells (u32s (growN k (firstW bl 16) ++ List.replicate (48 - k) 0)) 76 (0, 0)) ∧ wr.heap.size = w.heap.size + 3 ∧ Below w.heap.size w wr ∧ wr.heap[w.heap.size + 1]? = some (.cells (u32s (List.replicate 64 0)) 76 (0, 0))) (fun i wr => 64 - (intOf i).toNat)
      case atStart => exact ⟨16, 0, by omega, rfl, rfl, HG3.out, hsz, hbel, HG2.out⟩
      case round =>
        clear hsz hbel HG3 HG2
        obtain ⟨i, k, hk, hik, rfl, hg3, hsz, hbel, hg2⟩ := hrel
        have HG3 : Hid _ := hg3
        have HG2 : Hid _ := hg2
        have HSZ : Hid _ := hsz
        have HIK : Hid _ := hik
        clear hg3 hg2 hsz
        by_cases hlt : k < 48
        · have hlt' : (i : Int) < 64 := by omega
          obtain ⟨j1, hj1⟩ : ∃ j1 : Nat, j1 = k + 1 := ⟨_, rfl⟩
          obtain ⟨j2, hj2⟩ : ∃ j2 : Nat, j2 = k + 9 := ⟨_, rfl⟩
          obtain ⟨j3, hj3⟩ : ∃ j3 : Nat, j3 = k + 14 := ⟨_, rfl⟩
          have w0 : IntKind.i64.wrap (k : Int) = k := wrap64_small _ (by omega) (by omega)
          have w1 : IntKind.i64.wrap (j1 : Int) = j1 := wrap64_small _ (by omega) (by omega)
          have w2 : IntKind.i64.wrap (j2 : Int) = j2 := wrap64_small _ (by omega) (by omega)
          have w3 : IntKind.i64.wrap (j3 : Int) = j3 := wrap64_small _ (by omega) (by omega)
          have d0 : ¬ (i = k) := by omega
          have d1 : ¬ (i = j1) := by omega
          have d2 : ¬ (i = j2) := by omega
          have d3 : ¬ (i = j3) := by omega
          have e0 : (i : Int) - 16 = k := by omega
          have e1 : (i : Int) - 15 = j1 := by omega
          have e2 : (i : Int) - 7 = j2 := by omega
          have e3 : (i : Int) - 2 = j3 := by omega
          have l0 : (k : Int) < 64 := by omega
          have l1 : (j1 : Int) < 64 := by omega
          have l2 : (j2 : Int) < 64 := by omega
          have l3 : (j3 : Int) < 64 := by omega
          have hn : (growN k (firstW bl 16)).length = k + 16 := grow_len _ _ (by simp [firstW])
          have hn2 : (growN k (firstW bl 16) ++ List.replicate (48 - k) 0).length = 64 := by simp [hn]; omega
          have hw : W32 (growN k (firstW bl 16)) := grow_w32 _ _ (first_w32 _ _)
          have hc : ∀ j : Nat, j < k + 16 → wr.cell? ⟨w.heap.size + 2, j, none⟩ = some (.int .u32 ((growN k (firstW bl 16)).getD j 0)) := by
            intro j hj
            rw [cell_of_row _ _ _ _ _ _ HG3.out, get_u32s _ _ (by omega)]
            simp only [List.getD_eq_getElem?_getD, List.getElem?_append_left (show j < (growN k (firstW bl 16)).length by omega)]
          have c0 := hc k (by omega)
          have c1 := hc j1 (by omega)
          have c2 := hc j2 (by omega)
          have c3 := hc j3 (by omega)
          obtain ⟨z, c4⟩ : ∃ z, wr.cell? ⟨w.heap.size + 2, i, none⟩ = some (.int .u32 z) := ⟨_, by rw [cell_of_row _ _ _ _ _ _ HG3.out, get_u32s _ _ (by omega)]⟩
          have f4 : wr.frozen? ⟨w.heap.size + 2, i, none⟩ = false := frozen_of_row _ _ _ _ _ HG3.out
          have HX : Hid (nextW (growN k (firstW bl 16)) = ((growN k (firstW bl 16)).getD k 0 + mixedI ((growN k (firstW bl 16)).getD j1 0) 7 18 3 + (growN k (firstW bl 16)).getD j2 0 + mixedI ((growN k (firstW bl 16)).getD j3 0) 17 19 10) % 4294967296) := by
            show _ = _
            unfold nextW
            rw [hn, hj1, hj2, hj3]
            simp
          obtain ⟨p0, q0⟩ := w32_at hw k (by omega)
          obtain ⟨p1, q1⟩ := w32_at hw j1 (by omega)
          obtain ⟨p2, q2⟩ := w32_at hw j2 (by omega)
          obtain ⟨p3, q3⟩ := w32_at hw j3 (by omega)
          have HN : Hid _ := hn
          have HN2 : Hid _ := hn2
          clear hc hn hn2 hw hj1 hj2 hj3 hik
          generalize (growN k (firstW bl 16)).getD k 0 = b0 at c0 p0 q0 HX
          generalize (growN k (firstW bl 16)).getD j1 0 = b1 at c1 p1 q1 HX
          generalize (growN k (firstW bl 16)).getD j2 0 = b2 at c2 p2 q2 HX
          generalize (growN k (firstW bl 16)).getD j3 0 = b3 at c3 p3 q3 HX
          obtain ⟨m0, m1⟩ := mixed_bd b1 7 18 3
          obtain ⟨m2, m3⟩ := mixed_bd b3 17 19 10
          go_wp2_with fail
          go_region_held3 (fun w' => w'.cell? ⟨w.heap.size + 2, k, none⟩ = some (.int .u32 b0) ∧ w'.cell? ⟨w.heap.size + 2, j1, none⟩ = some (.int .u32 b1) ∧ w'.cell? ⟨w.heap.size + 2, j2, none⟩ = some (.int .u32 b2) ∧ w'.cell? ⟨w.heap.size + 2, j3, none⟩ = some (.int .u32 b3)) (first | go_keep | (refine ⟨?_, ?_, ?_, ?_⟩ <;> (rw [World.cell?_setCell_other _ _ _ _ (by intro hh; injection hh; contradiction)]; simp [*]))) (first | (go_at_call_of 51 b1; refine (mixed_any b1 7 18 3 _ p1 q1 (by decide) (by decide) (by decide) (by decide) (by decide) (by decide)).mono ?_; rintro e w1 ⟨rfl, m, rfl⟩) | (go_at_call_of 51 b3; refine (mixed_any b3 17 19 10 _ p3 q3 (by decide) (by decide) (by decide) (by decide) (by decide) (by decide)).mono ?_; rintro e w1 ⟨rfl, m, rfl⟩))
          go_wp2_with fail
          go_roundw
          case rel =>
            have hik := HIK.out
            refine ⟨i + 1, k + 1, by omega, by omega, by go_num, ?_, by simpa using HSZ.out, (below_drewN hbel _).setCell (by dsimp only; omega) _, (Below.heap_setCell _ _ _ _ (by dsimp only; omega)).trans HG2.out⟩
            refine (heap_setCell_same _ _ _ _ _ _ HG3.out).trans ?_
            rw [set_u32s]
            have hn := HN.out
            have e : ((((b0 + mixedI b1 7 18 3) % 4294967296 + b2) % 4294967296 + mixedI b3 17 19 10) % 4294967296) = nextW (growN k (firstW bl 16)) := by
              rw [HX.out]
              omega
            rw [e]
            show some (Obj.cells (u32s _) 76 (0, 0)) = some (Obj.cells (u32s ((growN k (firstW bl 16) ++ [nextW (growN k (firstW bl 16))]) ++ _)) 76 (0, 0))
            rw [List.append_assoc]
            rw [show 48 - k = (48 - (k + 1)) + 1 by omega, List.replicate_succ, List.set_append_right _ _ (by omega)]
            rw [show i - (growN k (firstW bl 16)).length = 0 by omega]
            simp
          case measure => simp [intOf]; omega
        · have hk48 : k = 48 := by omega
          subst hk48
          have hi64 : (i : Int) = 64 := by have := HIK.out; omega
          clear hlt hk hik
          go_wp2_with (first | (refine wpList_load_row rfl 76 _ rfl (w.heap.size + 2) rfl 76 (u32s (schedI bl)) (0, 0) _ (by simpa [schedI] using HG3.out) Tryd.underlying76 rfl (by kernel_rfl) ?_) | (refine wpList_store_row rfl 76 _ _ rfl (w.heap.size + 1) (u32s (schedI bl)) rfl rfl 76 (u32s (List.replicate 64 0)) HG2.out (by kernel_rfl) (by kernel_rfl) (one_u32s _) ?_))
          refine bodyPost_ret (v := .agg (u32s (schedI bl))) (results_cell_row Tryd.results48 _ _ (w.heap.size + 1) 76 (u32s (schedI bl)) (0, 0) _ rfl (setRow_heap _ _ _ _ _ _ HG2.out) Tryd.underlying76 rfl (by kernel_rfl)) rfl ⟨rfl, below_setRow hbel (by omega) _⟩
end Go.Proofs.YtfdmepblhlifcaaDoor
