/- left: how many jobs are not done. -/
import Derived.Test.YtfndbllpnkhlhaaKo
namespace Go.Proofs.Ytfndbllpnkhlhaa
open Go.RowKit Go.Shelf
set_option linter.unusedVariables false
set_option linter.unusedSimpArgs false
attribute [local go_sem] Oper.semAt_some

set_option maxRecDepth 100000 in
theorem all_any (T : Nat) (w : World) : Calls Try.prog 50 #[.pointer (some ⟨T, 0, none⟩)] w fun e w' => e = .returned (.func (.func 66) #[] #[.pointer (some ⟨w.heap.size, 0, none⟩)]) ∧ w' = w.alloc (.cells #[.pointer (some ⟨T, 0, none⟩)] 105) := by
  go_enter Try.func50, Try.ntmps50
  go_wp2
  go_ret
  exact ⟨rfl, rfl⟩
set_option maxRecDepth 100000 in
set_option maxHeartbeats 4000000 in
theorem left_any (T : Nat) (lv srv : Value) (m : List Rw) (clk had : Int) (w : World) (h : SR w T lv m clk srv had) (hl : m.length ≤ 16) (hq : ∀ r ∈ m, r.t.ws.length ≤ 16) :
    Calls Try.prog 46 #[.pointer (some ⟨T, 0, none⟩)] w fun e w' => e = .returned (.int .i64 (m.map fun r => (r.t.ws.length : Int)).sum) ∧ Below w.heap.size w w' := by
  refine (callsIn_wide (n := 5)).1 ?_
  refine callsIn_of_wp_marks Try.func46 rfl trivial ?_ rfl
  simp only [Try.ntmps46, List.size_toArray, List.length_cons, List.length_nil, Nat.reduceAdd, Nat.reduceSub, Array.replicate_succ, Array.replicate_zero, List.push_toArray, List.append_toArray, List.nil_append, List.cons_append]
  gi_wp2_with (refine ⟨trivial, ?_⟩; gi_at_call 50; refine (callsIn_wide.2 (all_any _ _)).mono ?_; rintro e w' ⟨rfl, hw'⟩)
  subst hw'
  obtain ⟨W0, hW0⟩ : ∃ W0, (w.alloc (.cells #[.int .i64 0] 3)).alloc (.cells #[.pointer (some ⟨T, 0, none⟩)] 105) = W0 := ⟨_, rfl⟩
  have q0 : Boxed W0 w.heap.size 3 (.int .i64 0) := by rw [← hW0]; exact (Below.heap_alloc _ _ _ (by simp)).trans (Go.heap_alloc_new _ _)
  have q1 : W0.cell? ⟨w.heap.size + 1, 0, none⟩ = some (.pointer (some ⟨T, 0, none⟩)) := by
    rw [← hW0]
    have h := (Boxed.new (w.alloc (.cells #[.int .i64 0] 3)) 105 (.pointer (some ⟨T, 0, none⟩))).cell
    simp only [World.size_alloc] at h
    exact h
  have hB0 : Below w.heap.size w W0 := by rw [← hW0]; exact ((Below.refl _ w).alloc (Nat.le_refl _) _).alloc (by simp) _
  have hsz : W0.heap.size = w.heap.size + 2 := by rw [← hW0]; simp
  show Code.wpIn _ _ _ _ _ _ ((w.alloc (.cells #[.int .i64 0] 3)).alloc (.cells #[.pointer (some ⟨T, 0, none⟩)] 105))
  rw [hW0]
  clear hW0
  have hS0 : SR W0 T lv m clk srv had := h.at' fun q hq => hB0.block q (h.lt q hq)
  have hlen : (pts m).length = m.length := by simp [pts]
  obtain ⟨sa, cap, hlv⟩ := own_slice h.row
  rw [hlen] at hlv
  refine wpIn_rangeFunc_ownH rfl (by omega) (gf := 66) (lb := #[.pointer (some ⟨w.heap.size + 1, 0, none⟩)]) rfl trivial (enters_of Try.func66 (by kernel_rfl) rfl)
    (all_seq _ (w.heap.size + 1) T cap lv srv sa m clk had W0 hl hS0 hlv q1) Kq.trans
    (fun W l o o' h1 h2 h3 h4 => Kq.of (belowK_b (w := W0) (Nat.le_refl _) W l o o' h1 h2 h3 h4) (fun q hq => hS0.lt q (.inr (.inl (by rw [hlv]; exact hq)))) (fun p hp => by obtain ⟨r, hr, rfl⟩ := List.mem_map.1 hp; exact hS0.lt _ (.inr (.inr ⟨r, hr, .inl rfl⟩)))) (Below.refl _ _) (fun _ => rfl)
    (fun pre W => Boxed W w.heap.size 3 (.int .i64 ((vals pre).map fun r => (r.t.ws.length : Int)).sum) ∧ Below w.heap.size w W)
    (fun _ _ _ => False)
    (OwnFrom.and (Own.from (boxed_own _ 3 (fun pre : List (Of m) => .int .i64 ((vals pre).map fun r => (r.t.ws.length : Int)).sum)) _) (ownFrom_below (Nat.le_refl _) (by omega)))
    (fun _ _ _ _ _ hs _ _ => hs)
    ⟨q0, hB0⟩
    (fun x a' W => a' = { tmps := #[.pointer (some ⟨T, 0, none⟩), undef, .int .i64 0, .pointer (some ⟨w.heap.size, 0, none⟩), undef, .pointer (some ⟨x.1.p, 1, none⟩), .pointer (some ⟨T, 0, none⟩), .pointer (some ⟨T, 0, none⟩), .pointer (some ⟨T, 0, none⟩), .func (.func 66) #[] #[.pointer (some ⟨w.heap.size + 1, 0, none⟩)], .string (tx x.1.t.nm), .pointer (some ⟨x.1.p, 1, none⟩), undef, undef, undef, undef, undef, undef, undef, undef], defers := [] })
    (fun x a' _ X Y row hs hg hr => hs)
    ?assign ?body ?done ?stop
  case assign =>
    rintro l pre x W K hI hK
    have HK := hK
    clear hK q1 q0 hB0 hS0 h
    unfold elV
    gi_wp2_with fail
    exact HK _ _ (KeepsFrom.refl _ _) (Kq.refl _ _ _ _) hI rfl
  case body =>
    rintro l pre x a' W hl' ⟨r, hr⟩ ⟨b0, hB1⟩ rfl hlt
    have hSW : SR W T lv m clk srv had := h.at' fun q hq => hB1.block q (h.lt q hq)
    obtain ⟨-, -, -, -, c4⟩ := rowO_cells (hSW.each x.1 x.2)
    have HQ : Hid (QB W.drew x.1.Q x.1.sv x.1.t.ws) := (hSW.que x.1 x.2).at' fun _ _ => rfl
    have hbd : ∀ l : List (Of m), 0 ≤ ((vals l).map fun r => (r.t.ws.length : Int)).sum ∧ ((vals l).map fun r => (r.t.ws.length : Int)).sum ≤ 16 * (l.length : Int) := fun l => by
      induction l with
      | nil => simp [vals]
      | cons y l ih => have := hq y.1 y.2; simp only [vals, List.map_cons, List.sum_cons, List.length_cons] at ih ⊢; omega
    obtain ⟨k0, k1⟩ := hbd pre
    have k2 := hq x.1 x.2
    have HI : Hid (Boxed W w.heap.size 3 (.int .i64 ((vals pre).map fun r => (r.t.ws.length : Int)).sum) ∧ Below w.heap.size w W) := ⟨b0, hB1⟩
    have HV : Hid (((vals (pre ++ [x])).map fun r => (r.t.ws.length : Int)).sum = ((vals pre).map fun r => (r.t.ws.length : Int)).sum + (x.1.t.ws.length : Int)) := by show _ = _; simp [vals]
    generalize ((vals pre).map fun r => (r.t.ws.length : Int)).sum = sm at *
    have c0 := b0.cell
    have f0 := b0.frozen
    have i1 : (x.1.t.ws.length : Int) ≤ 16 := by omega
    have i2 : (0 : Int) ≤ (x.1.t.ws.length : Int) := by omega
    have i3 : sm ≤ 256 := by omega
    have HP : Hid (∀ v, (KeepsFrom W0.heap.size W (W.setCell ⟨w.heap.size, 0, none⟩ v).drew) ∧ Kq W0.heap.size (Value.slice sa m.length cap).ownBlock (pts m) W (W.setCell ⟨w.heap.size, 0, none⟩ v).drew ∧ Boxed (W.setCell ⟨w.heap.size, 0, none⟩ v).drew w.heap.size 3 v ∧ Below w.heap.size w (W.setCell ⟨w.heap.size, 0, none⟩ v).drew) := fun v => by
      have hb : Below w.heap.size W (W.setCell ⟨w.heap.size, 0, none⟩ v).drew := ((Below.refl _ W).setCell (p := ⟨w.heap.size, 0, none⟩) (Nat.le_refl _) _).drew
      have hbk : Kq w.heap.size (Value.slice sa m.length cap).ownBlock (pts m) W (W.setCell ⟨w.heap.size, 0, none⟩ v).drew := Kq.of hb (fun q hq => h.lt q (.inr (.inl (by rw [hlv]; exact hq)))) (fun p hp => by obtain ⟨r, hr, rfl⟩ := List.mem_map.1 hp; exact h.lt _ (.inr (.inr ⟨r, hr, .inl rfl⟩)))
      exact ⟨((KeepsOthers.setCell _ _ _).trans (KeepsOthers.drew _)).from _, ⟨hbk.size, hbk.row, hbk.nam⟩, HI.out.1.set v, HI.out.2.trans hb⟩
    clear b0 hB1 hr hl' q0 q1 hB0 hS0 hbd hlt k1 k2 hSW
    gi_wp2_with fail
    gi_region_with (refine ⟨trivial, ?_⟩; refine (CallsIn.inRound l (callsIn_wide.2 (qlen_any _ _ _ _ HQ.out))).mono ?_; rintro e w1 ⟨rfl, hw1⟩; rw [hw1]; clear hw1)
    all_goals
      have hwr : IntKind.i64.wrap (sm + (x.1.t.ws.length : Int)) = sm + (x.1.t.ws.length : Int) := wrap64_small _ (by omega) (by omega)
      rw [hwr, ← HV.out]
      exact HP.out _
  case done =>
    rintro D xs W hD hxs ⟨b0, hB1⟩ hK
    have c0 := b0.cell
    gi_wp2_with fail
    refine ⟨by simp, .inl ⟨_, _, rfl, run_takeDeferred hK, ?_⟩⟩
    refine ⟨_, results_tmp rfl _ _ _, rfl, hB1.trans (belowK_b (w := w) (Nat.le_refl _) _ D _ _ (by omega) hK rfl rfl)⟩
  case stop =>
    rintro D c pre W _ _ h _
    exact h.elim
end Go.Proofs.Ytfndbllpnkhlhaa
