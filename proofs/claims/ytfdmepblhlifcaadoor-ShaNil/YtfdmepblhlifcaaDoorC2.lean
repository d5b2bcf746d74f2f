/- The law of what is not there, but for the fixed call. -/
import Derived.Test.YtfdmepblhlifcaaDoorC1
namespace Go.Proofs.YtfdmepblhlifcaaDoor
open Go.RowKit Go.Shelf
set_option linter.unusedVariables false
set_option linter.unusedSimpArgs false
attribute [local go_sem] Oper.semAt_some

set_option maxRecDepth 100000 in
set_option maxHeartbeats 4000000 in
theorem nil_law (a : Option Addr) (l c : Nat) (w : World)
    (hS : ∀ W : World, Calls Tryd.prog 26 #[.pointer none] W fun e w' => e = .returned (.agg (u8s (List.replicate 32 0))) ∧ Below W.heap.size W w')
    (hK : ∀ W : World, Below w.heap.size w W → Calls Tryd.prog 14 #[] W fun e w' => e = .returned (.bool true) ∧ Below W.heap.size W w') :
    Calls Tryd.prog 7 #[.slice a l c] w fun e w' => e = .returned (.bool true) ∧ Below w.heap.size w w' := by
  have HS : Hid _ := hS
  have HK : Hid _ := hK
  clear hS hK
  have hnf : ∀ (fn : Fn) (first cap : Array Value) (w : World), (binOp BinOp.neq 46 (.func fn first cap) .nilFunc).run Tryd.prog w = .ok (.bool true) w := fun _ _ _ _ => by kernel_rfl
  have heq : ∀ w : World, (Op.equalIn 10000 23 (.agg (u8s [0, 0, 0, 0, 0, 0, 0, 0, 0, 0, 0, 0, 0, 0, 0, 0, 0, 0, 0, 0, 0, 0, 0, 0, 0, 0, 0, 0, 0, 0, 0, 0])) (.agg #[.int .u8 0, .int .u8 0, .int .u8 0, .int .u8 0, .int .u8 0, .int .u8 0, .int .u8 0, .int .u8 0, .int .u8 0, .int .u8 0, .int .u8 0, .int .u8 0, .int .u8 0, .int .u8 0, .int .u8 0, .int .u8 0, .int .u8 0, .int .u8 0, .int .u8 0, .int .u8 0, .int .u8 0, .int .u8 0, .int .u8 0, .int .u8 0, .int .u8 0, .int .u8 0, .int .u8 0, .int .u8 0, .int .u8 0, .int .u8 0, .int .u8 0, .int .u8 0])).run Tryd.prog w = .ok true w := fun _ => by kernel_rfl
  refine (callsIn_wide (n := 5)).1 ?_
  refine callsIn_of_wp_marks Tryd.func7 rfl trivial ?_ rfl
  simp only [Tryd.ntmps7, List.size_toArray, List.length_cons, List.length_nil, Nat.reduceAdd, Nat.reduceSub, Array.replicate_succ, Array.replicate_zero, List.push_toArray, List.append_toArray, List.nil_append, List.cons_append]
  gi_wp2_with (refine ⟨trivial, ?_⟩; first | (gi_at_call 22; refine (callsIn_wide.2 (reset_nil _)).mono ?_; rintro e w' ⟨⟨v, rfl⟩, rfl⟩) | (gi_at_call 25; refine (callsIn_wide.2 (blocks_nil _)).mono ?_; rintro e w' ⟨rfl, rfl⟩))
  obtain ⟨W0, hW0⟩ : ∃ W0, (w'.alloc (.cells #[.int .i64 0] 3)).alloc (.cells #[.slice none 0 0] 44) = W0 := ⟨_, rfl⟩
  have q0 : Boxed W0 w'.heap.size 3 (.int .i64 0) := by
    rw [← hW0]
    exact (Below.heap_alloc _ _ _ (by simp)).trans (Go.heap_alloc_new _ _)
  have q1 : W0.cell? ⟨w'.heap.size + 1, 0, none⟩ = some (.slice none 0 0) := by
    rw [← hW0]
    have h := (Boxed.new (w'.alloc (.cells #[.int .i64 0] 3)) 44 (.slice none 0 0)).cell
    simp only [World.size_alloc] at h
    exact h
  have hB0 : Below w'.heap.size w' W0 := by
    rw [← hW0]
    exact ((Below.refl _ w').alloc (Nat.le_refl _) _).alloc (by simp) _
  have hsz : W0.heap.size = w'.heap.size + 2 := by rw [← hW0]; simp
  show Code.wpIn _ _ _ _ _ _ ((w'.alloc (.cells #[.int .i64 0] 3)).alloc (.cells #[.slice none 0 0] 44))
  rw [hW0]
  clear hW0
  refine wpIn_rangeFunc_ownH rfl (by omega) (gf := 46) (lb := #[.pointer (some ⟨w'.heap.size + 1, 0, none⟩)]) rfl trivial (enters_of Tryd.func46 (by kernel_rfl) rfl)
    (vals_stops _ (w'.heap.size + 1) w'.heap.size 0 none W0 (by omega) q1) belowK_t (belowK_b (by omega)) (Below.refl _ _) (fun x => nomatch x)
    (fun pre W => Boxed W w'.heap.size 3 (.int .i64 0) ∧ Below w'.heap.size w' W)
    (fun _ _ _ => False)
    (OwnFrom.and (Own.from (boxed_own _ _ (fun _ : List Empty => .int .i64 0)) _) (ownFrom_below (Nat.le_refl _) (by omega)))
    (fun _ _ _ _ _ hs _ _ => hs)
    ⟨q0, hB0⟩
    (fun x a' W => False)
    (fun x a' _ X Y row hs hg hr => hs)
    ?assign ?body ?done ?stop
  case assign => exact fun l pre x => nomatch x
  case body =>
    rintro l pre x a' W _ _ _ h _
    exact h.elim
  case done =>
    rintro D zs' W hD rfl ⟨i0, hB1⟩ hK
    have i0' := i0.cell
    have hD2 : D ≠ w'.heap.size := by omega
    have hDlt : D < W.heap.size := (Array.getElem?_eq_some_iff.1 hK).1
    gi_wp2_with (refine ⟨trivial, ?_⟩; first | (gi_at_call 20; refine (callsIn_wide.2 (write_nil _ _)).mono ?_; rintro e w2 ⟨rfl, rfl⟩) | (gi_at_call 26; refine (callsIn_wide.2 (HS.out _)).mono ?_; rintro e w3 ⟨rfl, hb3⟩; have i3 := (hb3.cell (p := ⟨w'.heap.size, 0, none⟩) (by have := hB1.size; have := (Array.getElem?_eq_some_iff.1 i0).1; exact this)).trans i0') | (gi_at_call 27; refine (callsIn_wide.2 (len_nil _)).mono ?_; rintro e w4 ⟨rfl, rfl⟩) | (gi_at_call 23; refine (callsIn_wide.2 (copy_nil _)).mono ?_; rintro e w5 ⟨rfl, rfl⟩) | (gi_at_call 14; refine (callsIn_wide.2 (HK.out _ (hB1.trans (hb3.mono hB1.size)))).mono ?_; rintro e w6 ⟨rfl, hb6⟩))
    have hb36 := hb3.trans (hb6.mono hb3.size)
    have hK2 : w6.heap[D]? = some (.deferred (some [])) := (hb36.block _ hDlt).trans hK
    refine ⟨by simp, .inl ⟨_, _, rfl, run_takeDeferred hK2, ?_⟩⟩
    refine ⟨_, results_tmp Tryd.results7 _ _ _, rfl, ?_⟩
    exact (hB1.trans (hb36.mono hB1.size)).trans (belowK_b (w := w') (Nat.le_refl _) _ D _ _ (by omega) hK2 rfl rfl)
  case stop =>
    rintro D c pre W _ _ h _
    exact h.elim
end Go.Proofs.YtfdmepblhlifcaaDoor
