/- Matchers compared. -/
import Derived.Test.YtgmpmpgfpchbcaaGreatDoorX5
namespace Go.Proofs.YtgmpmpgfpchbcaaGreatDoor
open Go.RowKit Go.Shelf
set_option linter.unusedVariables false
set_option linter.unusedSimpArgs false

/-- The order of matchers. -/
def cmI (x y : Mt) : Int := orI (csI x.key y.key) (orI (ciI x.op y.op) (csI x.val y.val))
set_option maxRecDepth 20000 in
set_option maxHeartbeats 4000000 in
theorem cmp_grow (x y : Mt) (w : World) : Calls Tryz.prog 15 #[mtV x, mtV y] w fun e w' => e = .returned (.int .i64 (cmI x y)) ∧ ∃ q os', w' = Go.Sort.grow (w.drewN q) os' := by
  have HC : Hid (∀ W, Calls Tryz.prog 29 #[.string (tx x.key), .string (tx y.key)] W fun e w' => e = .returned (.int .i64 (csI x.key y.key)) ∧ w' = W) := fun W => compare_any _ _ W
  have HD : Hid (∀ W, Calls Tryz.prog 29 #[.string (tx x.val), .string (tx y.val)] W fun e w' => e = .returned (.int .i64 (csI x.val y.val)) ∧ w' = W) := fun W => compare_any _ _ W
  have HI : Hid (∀ W, Calls Tryz.prog 30 #[.int .i64 x.op, .int .i64 y.op] W fun e w' => e = .returned (.int .i64 (ciI x.op y.op)) ∧ w' = W) := fun W => comparei_any _ _ W
  obtain ⟨a, ha⟩ : ∃ a, csI x.key y.key = a := ⟨_, rfl⟩
  obtain ⟨b, hb⟩ : ∃ b, ciI x.op y.op = b := ⟨_, rfl⟩
  obtain ⟨c, hc⟩ : ∃ c, csI x.val y.val = c := ⟨_, rfl⟩
  rw [ha] at HC
  rw [hb] at HI
  rw [hc] at HD
  unfold cmI mtV
  rw [ha, hb, hc]
  clear ha hb hc
  have HO : Hid (∀ W g, W.cell? ⟨g, 0, none⟩ = some (.int .i64 a) → W.cell? ⟨g, 1, none⟩ = some (.int .i64 b) → W.cell? ⟨g, 2, none⟩ = some (.int .i64 c) → Calls Tryz.prog 28 #[.slice (some ⟨g, 0, none⟩) 3 3] W fun e w' => e = .returned (.int .i64 (orI a (orI b c))) ∧ w' = W) := fun W g h0 h1 h2 => or3_any g a b c W h0 h1 h2
  obtain ⟨X, hX⟩ : ∃ X, w.heap.size = X := ⟨_, rfl⟩
  obtain ⟨W0, hW0⟩ : ∃ W0, (w.alloc (.cells #[.int .i64 x.op, .string (tx x.key), .string (tx x.val)] 30)).alloc (.cells #[.int .i64 y.op, .string (tx y.key), .string (tx y.val)] 30) = W0 := ⟨_, rfl⟩
  have b0 : W0.heap[w.heap.size]? = some (.cells #[.int .i64 x.op, .string (tx x.key), .string (tx x.val)] 30 (0, 0)) := by
    rw [← hW0]
    exact (Below.heap_alloc _ _ _ (by simp)).trans (Go.heap_alloc_new _ _)
  have b1 : W0.heap[w.heap.size + 1]? = some (.cells #[.int .i64 y.op, .string (tx y.key), .string (tx y.val)] 30 (0, 0)) := by
    rw [← hW0]
    have h := Go.heap_alloc_new (w.alloc (.cells #[.int .i64 x.op, .string (tx x.key), .string (tx x.val)] 30)) (.cells #[.int .i64 y.op, .string (tx y.key), .string (tx y.val)] 30)
    simp only [World.size_alloc] at h
    exact h
  have x0 : W0.drew.cell? ⟨w.heap.size, 0, none⟩ = some (.int .i64 x.op) := (cell_of_row _ _ _ _ _ _ b0).trans rfl
  have x1 : W0.drew.cell? ⟨w.heap.size, 1, none⟩ = some (.string (tx x.key)) := (cell_of_row _ _ _ _ _ _ b0).trans rfl
  have x2 : W0.drew.cell? ⟨w.heap.size, 2, none⟩ = some (.string (tx x.val)) := (cell_of_row _ _ _ _ _ _ b0).trans rfl
  have y0 : W0.drew.cell? ⟨w.heap.size + 1, 0, none⟩ = some (.int .i64 y.op) := (cell_of_row _ _ _ _ _ _ b1).trans rfl
  have y1 : W0.drew.cell? ⟨w.heap.size + 1, 1, none⟩ = some (.string (tx y.key)) := (cell_of_row _ _ _ _ _ _ b1).trans rfl
  have y2 : W0.drew.cell? ⟨w.heap.size + 1, 2, none⟩ = some (.string (tx y.val)) := (cell_of_row _ _ _ _ _ _ b1).trans rfl
  have HW0 : Hid ((w.alloc (.cells #[.int .i64 x.op, .string (tx x.key), .string (tx x.val)] 30)).alloc (.cells #[.int .i64 y.op, .string (tx y.key), .string (tx y.val)] 30) = W0) := hW0
  clear b0 b1 hX
  go_enter Tryz.func15, Tryz.ntmps15
  go_upto_region 1 with fail
  refine wp_region_still_tail 15 (by kernel_rfl) (by kernel_rfl) (still_of_quiet _ _ ?_)
  simp only [List.take_succ_cons, List.take_zero, List.drop_succ_cons, List.drop_zero]
  try rw [hW0]
  rw [show ({ W0 with drawn := W0.drawn + 1 } : World) = W0.drew from rfl]
  clear hW0
  (go_big_quiet_want; go_big_quiet_op; go_big_quiet_on)
  (go_big_quiet_want; go_big_quiet_op; go_big_quiet_on)
  (go_big_quiet_want; go_big_quiet_op; go_big_quiet_on)
  (go_big_quiet_want; go_big_quiet_op; go_big_quiet_on)
  (go_big_quiet_want; go_big_quiet_op; refine ⟨_, HC.out _, ?_⟩; go_big_quiet_on)
  (go_big_quiet_want; go_big_quiet_op; go_big_quiet_on)
  (go_big_quiet_want; go_big_quiet_op; go_big_quiet_on)
  (go_big_quiet_want; go_big_quiet_op; go_big_quiet_on)
  (go_big_quiet_want; go_big_quiet_op; go_big_quiet_on)
  (go_big_quiet_want; go_big_quiet_op; refine ⟨_, HI.out _, ?_⟩; go_big_quiet_on)
  (go_big_quiet_want; go_big_quiet_op; go_big_quiet_on)
  (go_big_quiet_want; go_big_quiet_op; go_big_quiet_on)
  (go_big_quiet_want; go_big_quiet_op; go_big_quiet_on)
  (go_big_quiet_want; go_big_quiet_op; go_big_quiet_on)
  (go_big_quiet_want; go_big_quiet_op; refine ⟨_, HD.out _, ?_⟩; go_big_quiet_on)
  refine wpQuiet_nil ?_
  go_wp2_with (go_at_call 28; refine (HO.out _ _ (by simp [cell_of_row _ _ _ _ _ _ (Go.heap_alloc_new _ _)]) (by simp [cell_of_row _ _ _ _ _ _ (Go.heap_alloc_new _ _)]) (by simp [cell_of_row _ _ _ _ _ _ (Go.heap_alloc_new _ _)])).mono ?_; rintro e w9 ⟨rfl, hw9⟩; rw [hw9]; clear hw9)
  go_ret
  exact ⟨rfl, 1, _, by rw [← HW0.out, Go.Sort.alloc_eq_grow, Go.Sort.alloc_eq_grow, Go.Sort.alloc_eq_grow, Go.Sort.grow_grow, Go.Sort.grow_grow]; rfl⟩
end Go.Proofs.YtgmpmpgfpchbcaaGreatDoor
