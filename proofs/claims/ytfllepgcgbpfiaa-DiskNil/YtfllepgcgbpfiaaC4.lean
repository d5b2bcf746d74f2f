/- The law of a disk that is not there. -/
import Derived.Test.YtfllepgcgbpfiaaC3
import Derived.RangeFuncNested
import Derived.RangeFuncBound
import Derived.RangeFuncCalls
import Derived.RangeFuncLeaves
import Derived.Shelf.Abstract
import Derived.OwnWalkIn
import Derived.TacticsInMore
import Derived.LoopNIn
import Derived.LoopIn
namespace Go.Proofs.Ytfllepgcgbpfiaa
open Go.RowKit Go.Shelf
set_option linter.unusedVariables false
set_option linter.unusedSimpArgs false
attribute [local go_sem] Oper.semAt_some

theorem none_in (n : Nat) (l : Nat) (W : World) :
    CallsIn Fence.wide n Try.prog 51 #[.func (.yield l) #[] #[]] W fun e W' => (∃ v, e = .returned v) ∧ W' = W := by
  refine callsIn_of_wp Try.func51 rfl trivial ?_ rfl
  simp only [Try.ntmps51, List.size_toArray, List.length_cons, List.length_nil, Nat.reduceAdd, Nat.reduceSub, Array.replicate_succ, Array.replicate_zero, List.push_toArray, List.append_toArray, List.nil_append, List.cons_append]
  gi_wp2
  go_end0
  exact ⟨⟨_, rfl⟩, rfl⟩
theorem none_stops (n n₀ : Nat) (w : World) :
    SeqStopsK Fence.wide n Try.prog 51 #[] (fun x : Empty => #[]) (Below n₀) (fun ys => ys = []) (fun _ => True) 0 w := by
  intro l J Jx W hW _ _ hY h0
  refine (none_in n l W).mono ?_
  rintro e W' ⟨h1, rfl⟩
  exact ⟨h1, .inl ⟨[], rfl, h0⟩⟩
theorem below_drewN' {B : Nat} {a w : World} (h : Below B a w) (n : Nat) : Below B a (w.drewN n) := h.trans ⟨rfl, rfl, rfl, Nat.le_refl _, fun _ _ => rfl⟩

set_option maxRecDepth 100000 in
set_option maxHeartbeats 8000000 in
theorem nil_law (s : ByteArray) (a : Option Addr) (l c : Nat) (n : Int) (w : World) :
    Calls Try.prog 7 #[.string s, .slice a l c, .int .i64 n] w fun e w' => e = .returned (.bool true) ∧ Below w.heap.size w w' := by
  have hnf : ∀ (fn : Fn) (first cap : Array Value) (w : World), (binOp BinOp.neq 63 (.func fn first cap) .nilFunc).run Try.prog w = .ok (.bool true) w := fun _ _ _ _ => by kernel_rfl
  refine (callsIn_wide (n := 5)).1 ?_
  refine callsIn_of_wp_marks Try.func7 rfl trivial ?_ rfl
  simp only [Try.ntmps7, List.size_toArray, List.length_cons, List.length_nil, Nat.reduceAdd, Nat.reduceSub, Array.replicate_succ, Array.replicate_zero, List.push_toArray, List.append_toArray, List.nil_append, List.cons_append]
  gi_wp2_with (refine ⟨trivial, ?_⟩; first | (gi_at_call 20; refine (callsIn_wide.2 (read_nil _ _)).mono ?_; rintro e w' ⟨rfl, rfl⟩) | (gi_at_call 27; refine (callsIn_wide.2 (len_nil _ _)).mono ?_; rintro e w' ⟨rfl, rfl⟩) | (gi_at_call 28; refine (callsIn_wide.2 (files_nil _)).mono ?_; rintro e w' ⟨rfl, rfl⟩))
  obtain ⟨W0, hW0⟩ : ∃ W0, w'.alloc (.cells #[.int .i64 0] 3) = W0 := ⟨_, rfl⟩
  have q0 : Boxed W0 w'.heap.size 3 (.int .i64 0) := by
    rw [← hW0]
    exact Go.heap_alloc_new _ _
  have hB0 : Below w'.heap.size w' W0 := by
    rw [← hW0]
    exact (Below.refl _ w').alloc (Nat.le_refl _) _
  have hsz : W0.heap.size = w'.heap.size + 1 := by rw [← hW0]; simp
  show Code.wpIn _ _ _ _ _ _ (w'.alloc (.cells #[.int .i64 0] 3))
  rw [hW0]
  clear hW0
  refine wpIn_rangeFunc_ownH rfl (by omega) (gf := 51) (lb := #[]) rfl trivial (enters_of Try.func51 (by kernel_rfl) rfl)
    (none_stops _ w'.heap.size W0) belowK_t (belowK_b (by omega)) (Below.refl _ _) (fun x => nomatch x)
    (fun pre W => Boxed W w'.heap.size 3 (.int .i64 0) ∧ Below w'.heap.size w' W)
    (fun _ _ _ => False)
    (OwnFrom.and (Own.from (boxed_own _ _ (fun _ : List Empty => .int .i64 0)) _) (ownFrom_below (Nat.le_refl _) (by omega)))
    (fun _ _ _ _ _ hs _ _ => hs)
    ⟨q0, hB0⟩
    (fun x a' W => False)
    (fun x a' _ X Y row hs hg hr => hs)
    ?assign ?body ?done ?stop
  case assign => exact fun l pre x => nomatch x
  case body =>
    rintro l pre x a' W _ _ _ h _
    exact h.elim
  case done =>
    rintro D zs' W hD rfl ⟨i0, hB1⟩ hK
    have i0' := i0.cell
    have hD2 : D ≠ w'.heap.size := by omega
    have hDlt : D < W.heap.size := (Array.getElem?_eq_some_iff.1 hK).1
    gi_wp2_with (refine ⟨trivial, ?_⟩; first | (gi_at_call 17; refine (callsIn_wide.2 (pending_nil _)).mono ?_; rintro e w2 ⟨rfl, rfl⟩) | (gi_at_call 29; refine (callsIn_wide.2 (syncs_nil _)).mono ?_; rintro e w3 ⟨rfl, rfl⟩) | (gi_at_call 18; refine (callsIn_wide.2 (copy_nil _)).mono ?_; rintro e w4 ⟨rfl, rfl⟩))
    refine ⟨trivial, ?_⟩
    refine (callsIn_wide.2 (same_nil _ _)).mono ?_
    rintro e w5 ⟨rfl, n5, hw5⟩
    have hb5 : Below w4.heap.size w4 w5 := by rw [hw5]; exact below_drewN' (Below.refl _ _) _
    clear hw5
    gi_wp2_with fail
    refine ⟨trivial, ?_⟩
    refine (callsIn_wide.2 (new70 _)).mono ?_
    rintro e w6 ⟨rfl, hw6⟩
    have hb6 : Below w4.heap.size w4 w6 := by rw [hw6]; exact hb5.trans ((bel1 _ _).mono hb5.size)
    clear hw6
    gi_wp2_with fail
    refine ⟨trivial, ?_⟩
    refine (callsIn_wide.2 (same_nil _ _)).mono ?_
    rintro e w7 ⟨rfl, n7, hw7⟩
    have hb7 : Below w4.heap.size w4 w7 := by rw [hw7]; exact below_drewN' hb6 _
    clear hw7 hb6 hb5
    gi_wp2_with (refine ⟨trivial, ?_⟩; first | (gi_at_call 23; refine (callsIn_wide.2 (append_nil _ _ _)).mono ?_; rintro e x1 ⟨rfl, rfl⟩) | (gi_at_call 24; refine (callsIn_wide.2 (sync_nil _ _)).mono ?_; rintro e x2 ⟨rfl, rfl⟩) | (gi_at_call 25; refine (callsIn_wide.2 (cut_nil _ _ _)).mono ?_; rintro e x3 ⟨rfl, rfl⟩) | (gi_at_call 30; refine (callsIn_wide.2 (rename_nil _ _ _)).mono ?_; rintro e x4 ⟨rfl, rfl⟩) | (gi_at_call 26; refine (callsIn_wide.2 (remove_nil _ _)).mono ?_; rintro e x5 ⟨rfl, rfl⟩) | (gi_at_call 16; refine (callsIn_wide.2 (crash_nil _ _)).mono ?_; rintro e x6 ⟨rfl, rfl⟩) | (gi_at_call 13; refine (callsIn_wide.2 (known_any _)).mono ?_; rintro e x7 ⟨rfl, hb8⟩))
    have hb78 := hb7.trans (hb8.mono hb7.size)
    have hK2 : x7.heap[D]? = some (.deferred (some [])) := (hb78.block _ hDlt).trans hK
    refine ⟨by simp, .inl ⟨_, _, rfl, run_takeDeferred hK2, ?_⟩⟩
    refine ⟨_, results_tmp Try.results7 _ _ _, rfl, ?_⟩
    exact (hB1.trans (hb78.mono hB1.size)).trans (belowK_b (w := w') (Nat.le_refl _) _ D _ _ (by omega) hK2 rfl rfl)
  case stop =>
    rintro D c pre W _ _ h _
    exact h.elim
end Go.Proofs.Ytfllepgcgbpfiaa
