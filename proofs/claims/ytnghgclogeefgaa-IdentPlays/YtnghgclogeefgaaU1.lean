/- The law of a table that is not there, but for the fixed calls. -/
import Derived.Test.YtnghgclogeefgaaT2
import Derived.Test.YtnghgclogeefgaaS2
import Derived.RangeFuncNested
import Derived.RangeFuncBound
import Derived.RangeFuncCalls
import Derived.RangeFuncLeaves
import Derived.Shelf.Abstract
import Derived.OwnWalkIn
import Derived.TacticsInMore
import Derived.LoopNIn
import Derived.LoopIn
namespace Go.Proofs.Ytnghgclogeefgaa
open Go.RowKit Go.Shelf
set_option linter.unusedVariables false
set_option linter.unusedSimpArgs false
attribute [local go_sem] Oper.semAt_some

theorem open_nil (v n s : Value) (w : World) : Calls Try.prog 18 #[.pointer none, v, n, s] w fun e w' => e = .returned (.tuple #[.int .i64 0, .int .i64 2]) ∧ w' = w := by
  go_enter Try.func18, Try.ntmps18
  go_wp2
  go_ret2
  exact ⟨rfl, rfl⟩
theorem who_nil (v n : Value) (w : World) : Calls Try.prog 20 #[.pointer none, v, n] w fun e w' => e = .returned (.tuple #[.agg #[.string ⟨#[]⟩, .string ⟨#[]⟩, .bool false], .int .i64 2]) ∧ Below w.heap.size w w' := by
  go_enter Try.func20, Try.ntmps20
  go_wp2
  refine bodyPost_ret (v := .tuple #[.agg (idV [] [] false), .int .i64 2]) (results_two Try.results20 _ _ w.heap.size (idV [] [] false) _ rfl rfl (load23 (Go.heap_alloc_new _ _) rfl)) rfl ⟨rfl, bel1 _ _⟩
theorem renew_nil (v n s : Value) (w : World) : Calls Try.prog 22 #[.pointer none, v, n, s] w fun e w' => e = .returned (.int .i64 2) ∧ w' = w := by
  go_enter Try.func22, Try.ntmps22
  go_wp2
  go_ret
  exact ⟨rfl, rfl⟩
theorem close_nil (v : Value) (w : World) : Calls Try.prog 24 #[.pointer none, v] w fun e w' => e = .returned (.int .i64 2) ∧ w' = w := by
  go_enter Try.func24, Try.ntmps24
  go_wp2
  go_ret
  exact ⟨rfl, rfl⟩
theorem expire_nil (n : Int) (w : World) : Calls Try.prog 26 #[.pointer none, .int .i64 n] w fun e w' => e = .returned (.int .i64 0) ∧ Below w.heap.size w w' := by
  go_enter Try.func26, Try.ntmps26
  go_wp2
  go_ret
  exact ⟨rfl, bel1 _ _⟩
theorem len_nil (w : World) : Calls Try.prog 29 #[.pointer none] w fun e w' => e = .returned (.int .i64 0) ∧ w' = w := by
  go_enter Try.func29, Try.ntmps29
  go_wp2
  go_ret
  exact ⟨rfl, rfl⟩
theorem values_any (a : Option Addr) (l c : Nat) (w : World) : Calls Try.prog 47 #[.slice a l c] w fun e w' => e = .returned (.func (.func 51) #[] #[.pointer (some ⟨w.heap.size, 0, none⟩)]) ∧ w' = w.alloc (.cells #[.slice a l c] 78) := by
  go_enter Try.func47, Try.ntmps47
  go_wp2
  go_ret
  exact ⟨rfl, rfl⟩
theorem of_nil (v : Value) (w : World) : Calls Try.prog 30 #[.pointer none, v] w fun e w' => e = .returned (.func (.func 51) #[] #[.pointer (some ⟨w.heap.size, 0, none⟩)]) ∧ w' = w.alloc (.cells #[.slice none 0 0] 78) := by
  go_enter Try.func30, Try.ntmps30
  go_wp2_with (go_at_call 47; refine (values_any _ _ _ _).mono ?_; rintro e w' ⟨rfl, rfl⟩)
  go_ret
  exact ⟨rfl, rfl⟩
set_option maxRecDepth 100000 in
set_option maxHeartbeats 2000000 in
theorem vals0_in (n : Nat) (l Bs cap : Nat) (a : Option Addr) (W : World) (hBs : W.cell? ⟨Bs, 0, none⟩ = some (.slice a 0 cap)) :
    CallsIn Fence.wide n Try.prog 51 #[.func (.yield l) #[] #[], .pointer (some ⟨Bs, 0, none⟩)] W fun e W' => (∃ v, e = .returned v) ∧ W' = W := by
  refine callsIn_of_wp Try.func51 rfl trivial ?_ rfl
  simp only [Try.ntmps51, List.size_toArray, List.length_cons, List.length_nil, Nat.reduceAdd, Nat.reduceSub, Array.replicate_succ, Array.replicate_zero, List.push_toArray, List.append_toArray, List.nil_append, List.cons_append]
  gi_wp2
  gi_loopw [7] (fun s wr => s = .int .i64 0 ∧ wr = W) (fun s _ => 0)
  case atStart => exact ⟨rfl, rfl⟩
  case round =>
    obtain ⟨rfl, rfl⟩ := hrel
    gi_wp2
    go_end0
    exact ⟨⟨_, rfl⟩, rfl⟩
theorem vals_stops (n : Nat) (Bs n₀ cap : Nat) (a : Option Addr) (w : World) (hBs : Bs < w.heap.size) (hc : w.cell? ⟨Bs, 0, none⟩ = some (.slice a 0 cap)) :
    SeqStopsK Fence.wide n Try.prog 51 #[.pointer (some ⟨Bs, 0, none⟩)] (fun x : Empty => #[]) (Below n₀) (fun ys => ys = []) (fun _ => True) 0 w := by
  intro l J Jx W hW _ _ hY h0
  have hc' := (hW.cell (p := ⟨Bs, 0, none⟩) hBs).trans hc
  refine (vals0_in n l Bs cap a W hc').mono ?_
  rintro e W' ⟨h1, rfl⟩
  exact ⟨h1, .inl ⟨[], rfl, h0⟩⟩
set_option maxRecDepth 100000 in
set_option maxHeartbeats 8000000 in
theorem nil_law (s : ByteArray) (id now : Int) (w : World)
    (hK : ∀ W : World, Below w.heap.size w W → Calls Try.prog 16 #[] W fun e w' => e = .returned (.bool true) ∧ Below W.heap.size W w') :
    Calls Try.prog 7 #[.string s, .int .i64 id, .int .i64 now] w fun e w' => e = .returned (.bool true) ∧ Below w.heap.size w w' := by
  have HK : Hid _ := hK
  clear hK
  have hnf : ∀ (fn : Fn) (first cap : Array Value) (w : World), (binOp BinOp.neq 54 (.func fn first cap) .nilFunc).run Try.prog w = .ok (.bool true) w := fun _ _ _ _ => by kernel_rfl
  have heq := eqId [] [] false (by simp) (by simp)
  have heq' : ∀ w : World, (Op.equalIn 10000 23 (.agg #[.string ⟨#[]⟩, .string ⟨#[]⟩, .bool false]) (.agg #[.string ⟨#[]⟩, .string ⟨#[]⟩, .bool false])).run Try.prog w = .ok true w := heq
  clear heq
  refine (callsIn_wide (n := 5)).1 ?_
  refine callsIn_of_wp_marks Try.func7 rfl trivial ?_ rfl
  simp only [Try.ntmps7, List.size_toArray, List.length_cons, List.length_nil, Nat.reduceAdd, Nat.reduceSub, Array.replicate_succ, Array.replicate_zero, List.push_toArray, List.append_toArray, List.nil_append, List.cons_append]
  gi_wp2_with (refine ⟨trivial, ?_⟩; first | (gi_at_call 18; refine (callsIn_wide.2 (open_nil _ _ _ _)).mono ?_; rintro e w' ⟨rfl, rfl⟩) | (gi_at_call 20; refine (callsIn_wide.2 (who_nil _ _ _)).mono ?_; rintro e w1 ⟨rfl, hb1⟩) | (gi_at_call 30; refine (callsIn_wide.2 (of_nil _ _)).mono ?_; rintro e w2 ⟨rfl, rfl⟩))
  obtain ⟨W0, hW0⟩ : ∃ W0, ((w1.alloc (.cells #[.string ⟨#[]⟩, .string ⟨#[]⟩, .bool false] 23)).alloc (.cells #[.int .i64 0] 3)).alloc (.cells #[.slice none 0 0] 78) = W0 := ⟨_, rfl⟩
  have q0 : Boxed W0 (w1.heap.size + 1) 3 (.int .i64 0) := by
    rw [← hW0]
    have h := Go.heap_alloc_new (w1.alloc (.cells #[.string ⟨#[]⟩, .string ⟨#[]⟩, .bool false] 23)) (.cells #[.int .i64 0] 3)
    simp only [World.size_alloc] at h
    exact (Below.heap_alloc _ _ _ (by simp)).trans h
  have q1 : W0.cell? ⟨w1.heap.size + 1 + 1, 0, none⟩ = some (.slice none 0 0) := by
    rw [← hW0]
    have h := (Boxed.new ((w1.alloc (.cells #[.string ⟨#[]⟩, .string ⟨#[]⟩, .bool false] 23)).alloc (.cells #[.int .i64 0] 3)) 78 (.slice none 0 0)).cell
    simp only [World.size_alloc] at h
    exact h
  have hB0 : Below w1.heap.size w1 W0 := by
    rw [← hW0]
    exact (((Below.refl _ w1).alloc (Nat.le_refl _) _).alloc (by simp) _).alloc (by simp; omega) _
  have q3 : W0.heap[w1.heap.size]? = some (.cells #[.string ⟨#[]⟩, .string ⟨#[]⟩, .bool false] 23 (0, 0)) := by
    rw [← hW0]
    exact (Below.heap_alloc _ _ _ (by simp; omega)).trans ((Below.heap_alloc _ _ _ (by simp)).trans (Go.heap_alloc_new _ _))
  have hsz : W0.heap.size = w1.heap.size + 3 := by rw [← hW0]; simp
  have hBw : Below w'.heap.size w' W0 := hb1.trans (hB0.mono hb1.size)
  show Code.wpIn _ _ _ _ _ _ (((w1.alloc (.cells #[.string ⟨#[]⟩, .string ⟨#[]⟩, .bool false] 23)).alloc (.cells #[.int .i64 0] 3)).alloc (.cells #[.slice none 0 0] 78))
  rw [hW0]
  clear hW0
  refine wpIn_rangeFunc_ownH rfl (by omega) (gf := 51) (lb := #[.pointer (some ⟨w1.heap.size + 1 + 1, 0, none⟩)]) rfl trivial (enters_of Try.func51 (by kernel_rfl) rfl)
    (vals_stops _ (w1.heap.size + 1 + 1) (w1.heap.size + 1) 0 none W0 (by omega) q1) belowK_t (belowK_b (by omega)) (Below.refl _ _) (fun x => nomatch x)
    (fun pre W => Boxed W (w1.heap.size + 1) 3 (.int .i64 0) ∧ Below (w1.heap.size + 1) W0 W)
    (fun _ _ _ => False)
    (OwnFrom.and (Own.from (boxed_own _ _ (fun _ : List Empty => .int .i64 0)) _) (ownFrom_below (by omega) (by omega)))
    (fun _ _ _ _ _ hs _ _ => hs)
    ⟨q0, Below.refl _ _⟩
    (fun x a' W => False)
    (fun x a' _ X Y row hs hg hr => hs)
    ?assign ?body ?done ?stop
  case assign => exact fun l pre x => nomatch x
  case body =>
    rintro l pre x a' W _ _ _ h _
    exact h.elim
  case done =>
    rintro D zs' W hD rfl ⟨i0, hB1⟩ hKD
    have i0' := i0.cell
    have hD2 : D ≠ w1.heap.size + 1 := by omega
    have hDlt : D < W.heap.size := (Array.getElem?_eq_some_iff.1 hKD).1
    have hr3 := (hB1.block w1.heap.size (by omega)).trans q3
    have y0 : W.cell? ⟨w1.heap.size, 0, none⟩ = some (.string ⟨#[]⟩) := by rw [cell_of_row _ _ _ _ _ _ hr3]; rfl
    have y1 : W.cell? ⟨w1.heap.size, 1, none⟩ = some (.string ⟨#[]⟩) := by rw [cell_of_row _ _ _ _ _ _ hr3]; rfl
    have y2 : W.cell? ⟨w1.heap.size, 2, none⟩ = some (.bool false) := by rw [cell_of_row _ _ _ _ _ _ hr3]; rfl
    have HBW : Hid (Below w'.heap.size w' W) := hBw.trans (hB1.mono (by have := hb1.size; omega))
    clear hr3 q3
    gi_wp2_with (refine ⟨trivial, ?_⟩; first | (gi_at_call 22; refine (callsIn_wide.2 (renew_nil _ _ _ _)).mono ?_; rintro e x1 ⟨rfl, hx1⟩; rw [hx1]; clear hx1) | (gi_at_call 24; refine (callsIn_wide.2 (close_nil _ _)).mono ?_; rintro e x2 ⟨rfl, hx2⟩; rw [hx2]; clear hx2))
    refine ⟨trivial, ?_⟩
    refine (callsIn_wide.2 (expire_nil _ _)).mono ?_
    rintro e x3 ⟨rfl, hb3⟩
    have i3 : x3.cell? ⟨w1.heap.size + 1, 0, none⟩ = some (.int .i64 0) := (hb3.cell (p := ⟨w1.heap.size + 1, 0, none⟩) (World.block_lt_of_cell? W _ i0')).trans i0'
    have HB3 : Hid (Below w'.heap.size w' x3 ∧ Below W.heap.size W x3) := ⟨HBW.out.trans (hb3.mono HBW.out.size), hb3⟩
    clear hb3
    gi_wp2_with (refine ⟨trivial, ?_⟩; first | (gi_at_call 29; refine (callsIn_wide.2 (len_nil _)).mono ?_; rintro e x4 ⟨rfl, hx4⟩; rw [hx4]; clear hx4) | (gi_at_call 16; refine (callsIn_wide.2 (HK.out _ HB3.out.1)).mono ?_; rintro e x7 ⟨rfl, hb8⟩))
    have hb78 := HB3.out.2.trans (hb8.mono HB3.out.2.size)
    have hK2 : x7.heap[D]? = some (.deferred (some [])) := (hb78.block _ hDlt).trans hKD
    refine ⟨by simp, .inl ⟨_, _, rfl, run_takeDeferred hK2, ?_⟩⟩
    refine ⟨_, results_tmp Try.results7 _ _ _, rfl, ?_⟩
    exact (HBW.out.trans (hb78.mono HBW.out.size)).trans (belowK_b (w := w') (Nat.le_refl _) _ D _ _ (by have := hb1.size; omega) hK2 rfl rfl)
  case stop =>
    rintro D c pre W _ _ h _
    exact h.elim
end Go.Proofs.Ytnghgclogeefgaa
