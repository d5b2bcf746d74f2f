/- choose: a job is served. -/
import Derived.Test.YtfndbllpnkhlhaaKt
namespace Go.Proofs.Ytfndbllpnkhlhaa
open Go.RowKit Go.Shelf
set_option linter.unusedVariables false
set_option linter.unusedSimpArgs false
attribute [local go_sem] Oper.semAt_some

theorem alloc_cell {w : World} {g i : Nat} (o : Obj) (h : g < w.heap.size) : (w.alloc o).cell? ⟨g, i, none⟩ = w.cell? ⟨g, i, none⟩ := World.cell?_of_block (Below.heap_alloc _ _ _ h)
set_option maxRecDepth 100000 in
set_option maxHeartbeats 4000000 in
theorem choose_busy (T p o : Nat) (lv : Value) (m : List Rw) (clk had : Int) (w : World) (h : SR w T lv m clk (.pointer (some ⟨p, o, none⟩)) had) :
    Calls Try.prog 43 #[.pointer (some ⟨T, 0, none⟩)] w fun e w' => e = .returned (.bool true) ∧ Below w.heap.size w w' := by
  obtain ⟨c0, c1, c2, c3, f0⟩ := boxO_cells h.box
  have hT := h.ltT
  have d2 : (w.alloc (.cells #[.pointer (some ⟨T, 0, none⟩)] 34)).cell? ⟨T, 2, none⟩ = some (.pointer (some ⟨p, o, none⟩)) := (alloc_cell _ hT).trans c2
  clear c0 c1 c2 c3 f0
  go_enter Try.func43, Try.ntmps43
  go_wp2
  go_ret
  exact ⟨rfl, bel1' _ _⟩
theorem keeps_below {W W' : World} (h : Below W.heap.size W W') : KeepsOthers W W' :=
  ⟨h.size, fun k o hk _ => (h.block k (Array.getElem?_eq_some_iff.1 hk).1).trans hk⟩
/-- Whose job is served, and from when on. -/
def cho (c : Int × Option Rw) (r : Rw) : Int × Option Rw :=
  match r.t.ws with
  | [] => c
  | x :: _ => match c.2 with
    | none => (x.start, some r)
    | some _ => if x.start < c.1 then (x.start, some r) else c
def srvV : Option Rw → Value
  | none => .pointer none
  | some r => .pointer (some ⟨r.p, 1, none⟩)
def choB (lv : Value) (had : Int) (c : Int × Option Rw) : Obj := boxO lv c.1 (srvV c.2) had
set_option maxRecDepth 100000 in
set_option maxHeartbeats 4000000 in
theorem choose_any (T : Nat) (lv : Value) (m : List Rw) (clk had : Int) (w : World) (h : SR w T lv m clk (.pointer none) had) (hl : m.length ≤ 16) (hq : ∀ r ∈ m, r.t.ws.length ≤ 16) :
    Calls Try.prog 43 #[.pointer (some ⟨T, 0, none⟩)] w fun e w' => e = .returned (.bool (m.foldl cho (clk, none)).2.isSome) ∧ Tur w w' T m (choB lv had (m.foldl cho (clk, none))) (fun r => r.t) := by
  obtain ⟨c0, c1, c2, c3, f0⟩ := boxO_cells h.box
  have hT := h.ltT
  have d2 : (w.alloc (.cells #[.pointer (some ⟨T, 0, none⟩)] 34)).cell? ⟨T, 2, none⟩ = some (.pointer none) := (alloc_cell _ hT).trans c2
  clear c0 c1 c2 c3 f0
  refine (callsIn_wide (n := 5)).1 ?_
  refine callsIn_of_wp_marks Try.func43 rfl trivial ?_ rfl
  simp only [Try.ntmps43, List.size_toArray, List.length_cons, List.length_nil, Nat.reduceAdd, Nat.reduceSub, Array.replicate_succ, Array.replicate_zero, List.push_toArray, List.append_toArray, List.nil_append, List.cons_append]
  gi_wp2_with (refine ⟨trivial, ?_⟩; gi_at_call 50; refine (callsIn_wide.2 (all_any _ _)).mono ?_; rintro e w' ⟨rfl, hw'⟩)
  subst hw'
  obtain ⟨W0, hW0⟩ : ∃ W0, (w.alloc (.cells #[.pointer (some ⟨T, 0, none⟩)] 34)).alloc (.cells #[.pointer (some ⟨T, 0, none⟩)] 105) = W0 := ⟨_, rfl⟩
  have q0 : Boxed W0 w.heap.size 34 (.pointer (some ⟨T, 0, none⟩)) := by rw [← hW0]; exact (Below.heap_alloc _ _ _ (by simp)).trans (Go.heap_alloc_new _ _)
  have q1 : W0.cell? ⟨w.heap.size + 1, 0, none⟩ = some (.pointer (some ⟨T, 0, none⟩)) := by
    rw [← hW0]
    have h := (Boxed.new (w.alloc (.cells #[.pointer (some ⟨T, 0, none⟩)] 34)) 105 (.pointer (some ⟨T, 0, none⟩))).cell
    simp only [World.size_alloc] at h
    exact h
  have hB0 : Below w.heap.size w W0 := by rw [← hW0]; exact ((Below.refl _ w).alloc (Nat.le_refl _) _).alloc (by simp) _
  have hsz : W0.heap.size = w.heap.size + 2 := by rw [← hW0]; simp
  show Code.wpIn _ _ _ _ _ _ ((w.alloc (.cells #[.pointer (some ⟨T, 0, none⟩)] 34)).alloc (.cells #[.pointer (some ⟨T, 0, none⟩)] 105))
  rw [hW0]
  clear hW0 d2
  have hS0 : SR W0 T lv m clk (.pointer none) had := h.at' fun q hq => hB0.block q (h.lt q hq)
  have hT1 : Tur w W0 T m (choB lv had (clk, none)) (fun r => r.t) := (Tur.of h).bel h.ltT h.ltp hB0
  have hlen : (pts m).length = m.length := by simp [pts]
  obtain ⟨sa, cap, hlv⟩ := own_slice h.row
  rw [hlen] at hlv
  have hOwn : ∀ (g : Rw → Tn) (bx : Obj) (X Y : World) (row : Option Nat), Tur w X T m bx g → X.grownBy Y row → (∀ r, row = some r → W0.heap.size ≤ r ∧ ∃ o : Obj, X.heap[r]? = some o ∧ o.isCells = false) → Tur w Y T m bx g := fun g bx X Y row ht hg hr => ht.grown h.ltT h.ltp hg fun r e => by have := (hr r e).1; omega
  refine wpIn_rangeFunc_ownH rfl (by omega) (gf := 66) (lb := #[.pointer (some ⟨w.heap.size + 1, 0, none⟩)]) rfl trivial (enters_of Try.func66 (by kernel_rfl) rfl)
    (all_seq _ (w.heap.size + 1) T cap lv (.pointer none) sa m clk had W0 hl hS0 hlv q1) Kq.trans
    (fun W l o o' h1 h2 h3 h4 => Kq.of (belowK_b (w := W0) (Nat.le_refl _) W l o o' h1 h2 h3 h4) (fun q hq => hS0.lt q (.inr (.inl (by rw [hlv]; exact hq)))) (fun p hp => by obtain ⟨r, hr, rfl⟩ := List.mem_map.1 hp; exact hS0.lt _ (.inr (.inr ⟨r, hr, .inl rfl⟩)))) (Below.refl _ _) (fun _ => rfl)
    (fun pre W => Tur w W T m (choB lv had ((vals pre).foldl cho (clk, none))) (fun r => r.t) ∧ Boxed W w.heap.size 34 (.pointer (some ⟨T, 0, none⟩)))
    (fun _ _ _ => False)
    (OwnFrom.and (fun pre X Y row ht hg hr => hOwn _ _ X Y row ht hg hr) (Own.from (boxed_own _ 34 (fun _ : List (Of m) => .pointer (some ⟨T, 0, none⟩))) _))
    (fun _ _ _ _ _ hs _ _ => hs)
    ⟨hT1, q0⟩
    (fun x a' W => a' = { tmps := #[.pointer (some ⟨T, 0, none⟩), .pointer (some ⟨w.heap.size, 0, none⟩), .bool false, undef, .pointer (some ⟨x.1.p, 1, none⟩), undef, undef, .pointer (some ⟨T, 0, none⟩), .pointer (some ⟨T, 0, none⟩), .pointer (some ⟨T, 2, none⟩), .pointer none, .bool false, .pointer (some ⟨T, 0, none⟩), .pointer (some ⟨T, 0, none⟩), .pointer (some ⟨T, 0, none⟩), .func (.func 66) #[] #[.pointer (some ⟨w.heap.size + 1, 0, none⟩)], .string (tx x.1.t.nm), .pointer (some ⟨x.1.p, 1, none⟩), undef, undef, undef, undef, undef, undef, undef, undef, undef, undef, undef, undef, undef, undef, undef, undef, undef, undef, undef, undef, undef, undef, undef, undef, undef, undef, undef, undef, undef, undef, undef, undef, undef, undef, undef, undef, undef, undef, undef], defers := [] })
    (fun x a' _ X Y row hs hg hr => hs)
    ?assign ?body ?done ?stop
  case assign =>
    rintro l pre x W K hI hK
    have HK := hK
    clear hK q1 q0 hB0 hS0 h
    unfold elV
    gi_wp2_with fail
    exact HK _ _ (KeepsFrom.refl _ _) (Kq.refl _ _ _ _) hI rfl
  case body =>
    rintro l pre x a' W hl' ⟨r, hr⟩ ⟨ht, b0⟩ rfl hlt
    obtain ⟨c, hc⟩ : ∃ c, (vals pre).foldl cho (clk, none) = c := ⟨_, rfl⟩
    have HC : Hid ((vals (pre ++ [x])).foldl cho (clk, none) = cho c x.1) := by show _ = _; simp [vals, ← hc]
    rw [hc] at ht
    have HI : Hid (Tur w W T m (choB lv had c) (fun r => r.t) ∧ Boxed W w.heap.size 34 (.pointer (some ⟨T, 0, none⟩))) := ⟨ht, b0⟩
    obtain ⟨-, -, -, -, c4⟩ := rowO_cells (ht.rows x.1 x.2)
    have HQ : Hid (QB W x.1.Q x.1.sv x.1.t.ws) := by
      have := ht.sr h id (fun r => ⟨rfl, rfl, rfl, rfl, rfl⟩) (fun r _ => rfl)
      rw [List.map_id] at this
      exact this.que x.1 x.2
    have HPk : Hid (CallsIn (Fence.wide.inRound l) (5 - 1 - 1 - 1) Try.prog 44 #[.pointer (some ⟨x.1.Q, 0, none⟩)] W fun e w' => e = .returned (pkV x.1.t.ws) ∧ Below W.heap.size W w') := CallsIn.inRound l (callsIn_wide.2 (peek_any _ _ _ _ HQ.out (hq x.1 x.2)))
    clear ht b0 hr hl' hlt q0 q1 hB0 hT1 hS0 hc HQ
    have HF : Hid (∀ (Z : World) (c' : Int × Option Rw), KeepsOthers W Z → Boxed Z w.heap.size 34 (.pointer (some ⟨T, 0, none⟩)) → cho c x.1 = c' → Tur w Z T m (choB lv had c') (fun r => r.t) → KeepsFrom W0.heap.size W Z ∧ Kq W0.heap.size (Value.slice sa m.length cap).ownBlock (pts m) W Z ∧ Tur w Z T m (choB lv had ((vals (pre ++ [x])).foldl cho (clk, none))) (fun r => r.t) ∧ Boxed Z w.heap.size 34 (.pointer (some ⟨T, 0, none⟩))) := fun Z c' hb hbx he ht => by
      refine ⟨hb.from _, HI.out.1.kq h hlv ht (fun _ _ => rfl) (fun _ _ => rfl) hb.size, ?_, hbx⟩
      rw [HC.out, he]
      exact ht
    cases hws : x.1.t.ws with
    | nil =>
      rw [hws] at HPk
      unfold pkV tu0 at HPk
      gi_wp2_with (refine ⟨trivial, ?_⟩; gi_at_call 44; refine HPk.out.mono ?_; rintro e w1 ⟨rfl, hb1⟩)
      refine region_round_tail 16 (by kernel_rfl) (by kernel_rfl) (by kernel_rfl) (still_of_quiet _ _ ?_)
      simp only [List.take_succ_cons, List.take_zero, List.drop_succ_cons, List.drop_zero]
      repeat (first | go_big_quiet_skip | (go_big_quiet_want; go_big_quiet_op; go_big_quiet_on))
      refine wpQuiet_nil ?_
      go_wp2_with fail
      refine ⟨rfl, ?_⟩
      gi_wp2_with fail
      have hbz := (hb1.alloc hb1.size (.cells #[.int .i64 0, .int .i64 0, .int .i64 0] 80)).drew
      exact HF.out _ c (keeps_below hbz) ((hbz.block _ (Array.getElem?_eq_some_iff.1 HI.out.2).1).trans HI.out.2) (by simp [cho, hws]) (Tur.bel HI.out.1 h.ltT h.ltp (hbz.mono HI.out.1.size))
    | cons y ys =>
      rw [hws] at HPk
      unfold pkV tuV at HPk
      gi_wp2_with (refine ⟨trivial, ?_⟩; gi_at_call 44; refine HPk.out.mono ?_; rintro e w1 ⟨rfl, hb1⟩)
      obtain ⟨V, hV⟩ : ∃ V, w1.alloc (.cells #[.int .i64 y.id, .int .i64 y.cost, .int .i64 y.start] 80) = V := ⟨_, rfl⟩
      have hbV : Below W.heap.size W V := by rw [← hV]; exact hb1.alloc hb1.size _
      have ht : Tur w V T m (choB lv had c) (fun r => r.t) := HI.out.1.bel h.ltT h.ltp (hbV.mono HI.out.1.size)
      have hbb : Boxed V w.heap.size 34 (.pointer (some ⟨T, 0, none⟩)) := (hbV.block _ (Array.getElem?_eq_some_iff.1 HI.out.2).1).trans HI.out.2
      have HV : Hid (Tur w V T m (choB lv had c) (fun r => r.t) ∧ Below W.heap.size W V) := ⟨ht, hbV⟩
      have d0 : V.drew.cell? ⟨w.heap.size, 0, none⟩ = some (.pointer (some ⟨T, 0, none⟩)) := hbb.cell
      have e0 : V.cell? ⟨w.heap.size, 0, none⟩ = some (.pointer (some ⟨T, 0, none⟩)) := hbb.cell
      have hne : T ≠ w.heap.size := by omega
      obtain ⟨-, e1, e2, -, f0⟩ := boxO_cells (show V.heap[T]? = some (boxO lv c.1 (srvV c.2) had) from ht.box)
      have d1 : V.drew.cell? ⟨T, 1, none⟩ = some (.int .i64 c.1) := e1
      have d2 : V.drew.cell? ⟨T, 2, none⟩ = some (srvV c.2) := e2
      have hj : V.heap[w1.heap.size]? = some (.cells #[.int .i64 y.id, .int .i64 y.cost, .int .i64 y.start] 80 (0, 0)) := by rw [← hV]; exact heap_alloc_new _ _
      have d4 : V.drew.cell? ⟨w1.heap.size, 2, none⟩ = some (.int .i64 y.start) := by
        have : V.cell? ⟨w1.heap.size, 2, none⟩ = some (.int .i64 y.start) := by rw [cell_of_row _ _ _ _ _ _ hj]; rfl
        exact this
      have e4 : V.cell? ⟨w1.heap.size, 2, none⟩ = some (.int .i64 y.start) := d4
      have hnj : T ≠ w1.heap.size := by have := HI.out.1.size; have := hb1.size; omega
      have f1 := f0 1
      have f2 := f0 2
      show Code.wpIn _ _ _ _ _ _ (w1.alloc (.cells #[.int .i64 y.id, .int .i64 y.cost, .int .i64 y.start] 80))
      rw [hV]
      have HS : Hid (KeepsOthers W (((V.setCell ⟨T, 2, none⟩ (.pointer (some ⟨x.1.p, 1, none⟩))).setCell ⟨T, 1, none⟩ (.int .i64 y.start)).drew).drew ∧ Boxed (((V.setCell ⟨T, 2, none⟩ (.pointer (some ⟨x.1.p, 1, none⟩))).setCell ⟨T, 1, none⟩ (.int .i64 y.start)).drew).drew w.heap.size 34 (.pointer (some ⟨T, 0, none⟩)) ∧ Tur w (((V.setCell ⟨T, 2, none⟩ (.pointer (some ⟨x.1.p, 1, none⟩))).setCell ⟨T, 1, none⟩ (.int .i64 y.start)).drew).drew T m (choB lv had (y.start, some x.1)) (fun r => r.t)) := by
        refine ⟨(keeps_below hbV).trans ((KeepsOthers.setCell _ _ _).trans ((KeepsOthers.setCell _ _ _).trans ((KeepsOthers.drew _).trans (KeepsOthers.drew _)))), ?_, ?_⟩
        · exact (Below.heap_setCell _ _ _ _ (by show w.heap.size ≠ T; omega)).trans ((Below.heap_setCell _ _ _ _ (by show w.heap.size ≠ T; omega)).trans hbb)
        · exact ((HV.out.1.srv h.neT (srvV (some x.1))).clk h.neT y.start).bel h.ltT h.ltp (((Below.refl _ _).drew).drew)
      generalize w1.heap.size = jb at *
      clear hV hbV ht hbb hj hb1 HPk
      obtain ⟨ck, co⟩ := c
      cases co with
      | none =>
        unfold srvV at d2 e2
        refine region_round_tail 16 (by kernel_rfl) (by kernel_rfl) (by kernel_rfl) (still_of_quiet _ _ ?_)
        simp only [List.take_succ_cons, List.take_zero, List.drop_succ_cons, List.drop_zero]
        repeat (first | go_big_quiet_skip | (go_big_quiet_want; go_big_quiet_op; go_big_quiet_on))
        refine wpQuiet_nil ?_
        go_wp2_with fail
        refine ⟨rfl, ?_⟩
        gi_wp2_with fail
        refine wpIn_region_any (by kernel_rfl) (any_lift (by kernel_rfl) (R := fun a w => _) (fun _ _ h => h) _ _ _ _ (wpAny_of_held (S := fun w' => w'.cell? ⟨w.heap.size, 0, none⟩ = some (.pointer (some ⟨T, 0, none⟩)) ∧ w'.cell? ⟨jb, 2, none⟩ = some (.int .i64 y.start)) _ _ _ _ ?_))
        have hS0 : (fun w' : World => w'.cell? ⟨w.heap.size, 0, none⟩ = some (.pointer (some ⟨T, 0, none⟩)) ∧ w'.cell? ⟨jb, 2, none⟩ = some (.int .i64 y.start)) V.drew.drew := ⟨e0, e4⟩
        change wpAnyH _ _ _ _ _ _ _ _ (V.drew.drew)
        refine wpAnyH_take (i := 0) (v := ?_) rfl (by kernel_rfl) (by kernel_rfl) (by kernel_rfl) (fun _ _ _ h => h) (Or.inl ⟨by rfl, ?t0⟩) (by assumption) ?_
        case t0 => intro w hSw; obtain ⟨s1, s2⟩ := hSw; go_simp <;> rfl
        try simp only [Act.put, List.setIfInBounds_toArray, List.set_cons_zero, List.set_cons_succ]
        refine wpAnyH_take (i := 1) (v := ?_) rfl (by kernel_rfl) (by kernel_rfl) (by kernel_rfl) (fun _ _ _ h => h) (Or.inl ⟨by rfl, ?t1⟩) (by assumption) ?_
        case t1 => intro w hSw; obtain ⟨s1, s2⟩ := hSw; go_simp <;> rfl
        try simp only [Act.put, List.setIfInBounds_toArray, List.set_cons_zero, List.set_cons_succ]
        refine wpAnyH_take (i := 2) (v := ?_) rfl (by kernel_rfl) (by kernel_rfl) (by kernel_rfl) (fun _ _ _ h => h) (Or.inl ⟨by rfl, ?t2⟩) (by assumption) ?_
        case t2 => intro w hSw; obtain ⟨s1, s2⟩ := hSw; go_simp <;> rfl
        try simp only [Act.put, List.setIfInBounds_toArray, List.set_cons_zero, List.set_cons_succ]
        refine wpAnyH_take (i := 3) (v := ?_) rfl (by kernel_rfl) (by kernel_rfl) (by kernel_rfl) (fun _ _ _ h => h) (Or.inl ⟨by rfl, ?t3⟩) (by assumption) ?_
        case t3 => intro w hSw; obtain ⟨s1, s2⟩ := hSw; go_simp <;> rfl
        try simp only [Act.put, List.setIfInBounds_toArray, List.set_cons_zero, List.set_cons_succ]
        refine wpAnyH_take (i := 4) (v := ?_) rfl (by kernel_rfl) (by kernel_rfl) (by kernel_rfl) (fun _ _ _ h => h) (Or.inl ⟨by rfl, ?t4⟩) (by assumption) ?_
        case t4 => intro w hSw; obtain ⟨s1, s2⟩ := hSw; go_simp <;> rfl
        try simp only [Act.put, List.setIfInBounds_toArray, List.set_cons_zero, List.set_cons_succ]
        refine wpAnyH_take (i := 5) (v := ?_) rfl (by kernel_rfl) (by kernel_rfl) (by kernel_rfl) (fun _ _ _ h => h) (Or.inl ⟨by rfl, ?t5⟩) (by assumption) ?_
        case t5 => intro w hSw; obtain ⟨s1, s2⟩ := hSw; go_simp <;> rfl
        try simp only [Act.put, List.setIfInBounds_toArray, List.set_cons_zero, List.set_cons_succ]
        refine wpAnyH_take (i := 6) (v := ?_) rfl (by kernel_rfl) (by kernel_rfl) (by kernel_rfl) (fun _ _ _ h => h) (Or.inl ⟨by rfl, ?t6⟩) (by assumption) ?_
        case t6 => intro w hSw; obtain ⟨s1, s2⟩ := hSw; go_simp <;> rfl
        try simp only [Act.put, List.setIfInBounds_toArray, List.set_cons_zero, List.set_cons_succ]
        refine wpAnyH_ready (rs := [7]) (by kernel_rfl) (by simp) ?_
        refine AllReadyH.cons rfl (fun K hK => ?_) AllReadyH.nil
        go_simp
        refine hK.out _ _ ?s7 (fun hS7 => ?_)
        case s7 => exact ⟨(World.cell?_setCell_far _ _ _ _ hne).trans e0, (World.cell?_setCell_far _ _ _ _ hnj).trans e4⟩
        clear hK K
        try simp only [Act.put, List.setIfInBounds_toArray, List.set_cons_zero, List.set_cons_succ]
        refine wpAnyH_take (i := 8) (v := ?_) rfl (by kernel_rfl) (by kernel_rfl) (by kernel_rfl) (fun _ _ _ h => h) (Or.inl ⟨by rfl, ?t8⟩) (by assumption) ?_
        case t8 => intro w hSw; obtain ⟨s1, s2⟩ := hSw; go_simp <;> rfl
        try simp only [Act.put, List.setIfInBounds_toArray, List.set_cons_zero, List.set_cons_succ]
        refine wpAnyH_take (i := 9) (v := ?_) rfl (by kernel_rfl) (by kernel_rfl) (by kernel_rfl) (fun _ _ _ h => h) (Or.inl ⟨by rfl, ?t9⟩) (by assumption) ?_
        case t9 => intro w hSw; obtain ⟨s1, s2⟩ := hSw; go_simp <;> rfl
        try simp only [Act.put, List.setIfInBounds_toArray, List.set_cons_zero, List.set_cons_succ]
        refine wpAnyH_ready (rs := [10]) (by kernel_rfl) (by simp) ?_
        refine AllReadyH.cons rfl (fun K hK => ?_) AllReadyH.nil
        go_simp
        refine hK.out _ _ ?s10 (fun hS10 => ?_)
        case s10 => exact ⟨(World.cell?_setCell_far _ _ _ _ hne).trans ((World.cell?_setCell_far _ _ _ _ hne).trans e0), (World.cell?_setCell_far _ _ _ _ hnj).trans ((World.cell?_setCell_far _ _ _ _ hnj).trans e4)⟩
        clear hK K
        try simp only [Act.put, List.setIfInBounds_toArray, List.set_cons_zero, List.set_cons_succ]
        refine wpAnyH_done (by kernel_rfl) ?_ _
        exact ⟨rfl, HF.out _ (y.start, some x.1) HS.out.1 HS.out.2.1 (by simp [cho, hws]) HS.out.2.2⟩
      | some r0 =>
        unfold srvV at d2 e2
        by_cases hlt : y.start < ck
        · have HLT : Hid (y.start < ck) := hlt
          refine region_round_tail 16 (by kernel_rfl) (by kernel_rfl) (by kernel_rfl) (still_of_quiet _ _ ?_)
          simp only [List.take_succ_cons, List.take_zero, List.drop_succ_cons, List.drop_zero]
          repeat (first | go_big_quiet_skip | (go_big_quiet_want; go_big_quiet_op; go_big_quiet_on))
          refine wpQuiet_nil ?_
          go_wp2_with fail
          refine ⟨rfl, ?_⟩
          gi_wp2_with fail
          refine wpIn_region_any (by kernel_rfl) (any_lift (by kernel_rfl) (R := fun a w => _) (fun _ _ h => h) _ _ _ _ (wpAny_of_held (S := fun w' => w'.cell? ⟨w.heap.size, 0, none⟩ = some (.pointer (some ⟨T, 0, none⟩)) ∧ w'.cell? ⟨jb, 2, none⟩ = some (.int .i64 y.start)) _ _ _ _ ?_))
          have hS0 : (fun w' : World => w'.cell? ⟨w.heap.size, 0, none⟩ = some (.pointer (some ⟨T, 0, none⟩)) ∧ w'.cell? ⟨jb, 2, none⟩ = some (.int .i64 y.start)) V.drew.drew := ⟨e0, e4⟩
          change wpAnyH _ _ _ _ _ _ _ _ (V.drew.drew)
          refine wpAnyH_take (i := 0) (v := ?_) rfl (by kernel_rfl) (by kernel_rfl) (by kernel_rfl) (fun _ _ _ h => h) (Or.inl ⟨by rfl, ?t0⟩) (by assumption) ?_
          case t0 => intro w hSw; obtain ⟨s1, s2⟩ := hSw; go_simp <;> rfl
          try simp only [Act.put, List.setIfInBounds_toArray, List.set_cons_zero, List.set_cons_succ]
          refine wpAnyH_take (i := 1) (v := ?_) rfl (by kernel_rfl) (by kernel_rfl) (by kernel_rfl) (fun _ _ _ h => h) (Or.inl ⟨by rfl, ?t1⟩) (by assumption) ?_
          case t1 => intro w hSw; obtain ⟨s1, s2⟩ := hSw; go_simp <;> rfl
          try simp only [Act.put, List.setIfInBounds_toArray, List.set_cons_zero, List.set_cons_succ]
          refine wpAnyH_take (i := 2) (v := ?_) rfl (by kernel_rfl) (by kernel_rfl) (by kernel_rfl) (fun _ _ _ h => h) (Or.inl ⟨by rfl, ?t2⟩) (by assumption) ?_
          case t2 => intro w hSw; obtain ⟨s1, s2⟩ := hSw; go_simp <;> rfl
          try simp only [Act.put, List.setIfInBounds_toArray, List.set_cons_zero, List.set_cons_succ]
          refine wpAnyH_take (i := 3) (v := ?_) rfl (by kernel_rfl) (by kernel_rfl) (by kernel_rfl) (fun _ _ _ h => h) (Or.inl ⟨by rfl, ?t3⟩) (by assumption) ?_
          case t3 => intro w hSw; obtain ⟨s1, s2⟩ := hSw; go_simp <;> rfl
          try simp only [Act.put, List.setIfInBounds_toArray, List.set_cons_zero, List.set_cons_succ]
          refine wpAnyH_take (i := 4) (v := ?_) rfl (by kernel_rfl) (by kernel_rfl) (by kernel_rfl) (fun _ _ _ h => h) (Or.inl ⟨by rfl, ?t4⟩) (by assumption) ?_
          case t4 => intro w hSw; obtain ⟨s1, s2⟩ := hSw; go_simp <;> rfl
          try simp only [Act.put, List.setIfInBounds_toArray, List.set_cons_zero, List.set_cons_succ]
          refine wpAnyH_take (i := 5) (v := ?_) rfl (by kernel_rfl) (by kernel_rfl) (by kernel_rfl) (fun _ _ _ h => h) (Or.inl ⟨by rfl, ?t5⟩) (by assumption) ?_
          case t5 => intro w hSw; obtain ⟨s1, s2⟩ := hSw; go_simp <;> rfl
          try simp only [Act.put, List.setIfInBounds_toArray, List.set_cons_zero, List.set_cons_succ]
          refine wpAnyH_take (i := 6) (v := ?_) rfl (by kernel_rfl) (by kernel_rfl) (by kernel_rfl) (fun _ _ _ h => h) (Or.inl ⟨by rfl, ?t6⟩) (by assumption) ?_
          case t6 => intro w hSw; obtain ⟨s1, s2⟩ := hSw; go_simp <;> rfl
          try simp only [Act.put, List.setIfInBounds_toArray, List.set_cons_zero, List.set_cons_succ]
          refine wpAnyH_ready (rs := [7]) (by kernel_rfl) (by simp) ?_
          refine AllReadyH.cons rfl (fun K hK => ?_) AllReadyH.nil
          go_simp
          refine hK.out _ _ ?s7 (fun hS7 => ?_)
          case s7 => exact ⟨(World.cell?_setCell_far _ _ _ _ hne).trans e0, (World.cell?_setCell_far _ _ _ _ hnj).trans e4⟩
          clear hK K
          try simp only [Act.put, List.setIfInBounds_toArray, List.set_cons_zero, List.set_cons_succ]
          refine wpAnyH_take (i := 8) (v := ?_) rfl (by kernel_rfl) (by kernel_rfl) (by kernel_rfl) (fun _ _ _ h => h) (Or.inl ⟨by rfl, ?t8⟩) (by assumption) ?_
          case t8 => intro w hSw; obtain ⟨s1, s2⟩ := hSw; go_simp <;> rfl
          try simp only [Act.put, List.setIfInBounds_toArray, List.set_cons_zero, List.set_cons_succ]
          refine wpAnyH_take (i := 9) (v := ?_) rfl (by kernel_rfl) (by kernel_rfl) (by kernel_rfl) (fun _ _ _ h => h) (Or.inl ⟨by rfl, ?t9⟩) (by assumption) ?_
          case t9 => intro w hSw; obtain ⟨s1, s2⟩ := hSw; go_simp <;> rfl
          try simp only [Act.put, List.setIfInBounds_toArray, List.set_cons_zero, List.set_cons_succ]
          refine wpAnyH_ready (rs := [10]) (by kernel_rfl) (by simp) ?_
          refine AllReadyH.cons rfl (fun K hK => ?_) AllReadyH.nil
          go_simp
          refine hK.out _ _ ?s10 (fun hS10 => ?_)
          case s10 => exact ⟨(World.cell?_setCell_far _ _ _ _ hne).trans ((World.cell?_setCell_far _ _ _ _ hne).trans e0), (World.cell?_setCell_far _ _ _ _ hnj).trans ((World.cell?_setCell_far _ _ _ _ hnj).trans e4)⟩
          clear hK K
          try simp only [Act.put, List.setIfInBounds_toArray, List.set_cons_zero, List.set_cons_succ]
          refine wpAnyH_done (by kernel_rfl) ?_ _
          exact ⟨rfl, HF.out _ (y.start, some x.1) HS.out.1 HS.out.2.1 (by have := HLT.out; simp [cho, hws, this]) HS.out.2.2⟩
        · have HLT : Hid (¬ y.start < ck) := hlt
          refine region_round_tail 16 (by kernel_rfl) (by kernel_rfl) (by kernel_rfl) (still_of_quiet _ _ ?_)
          simp only [List.take_succ_cons, List.take_zero, List.drop_succ_cons, List.drop_zero]
          repeat (first | go_big_quiet_skip | (go_big_quiet_want; go_big_quiet_op; go_big_quiet_on))
          refine wpQuiet_nil ?_
          go_wp2_with fail
          refine ⟨rfl, ?_⟩
          gi_wp2_with fail
          have hk : KeepsOthers W V.drew := (keeps_below HV.out.2).trans (KeepsOthers.drew _)
          exact HF.out _ (ck, some r0) hk ((HV.out.2.block _ (Array.getElem?_eq_some_iff.1 HI.out.2).1).trans HI.out.2) (by have := HLT.out; simp [cho, hws]; intro h9; omega) (HV.out.1.bel h.ltT h.ltp ((Below.refl _ _).drew))
  case done =>
    rintro D xs W hD hxs ⟨ht, b0⟩ hK
    obtain ⟨c, hc⟩ : ∃ c, m.foldl cho (clk, none) = c := ⟨_, rfl⟩
    rw [hxs, hc] at ht
    have HC : Hid (m.foldl cho (clk, none) = c) := hc
    obtain ⟨-, e1, e2, -, f0⟩ := boxO_cells (show W.heap[T]? = some (boxO lv c.1 (srvV c.2) had) from ht.box)
    have e0 := b0.cell
    have HI : Hid (Tur w W T m (choB lv had c) (fun r => r.t)) := ht
    clear ht b0 f0 hc hlv q0 q1 hB0 hS0 hT1
    obtain ⟨ck, co⟩ := c
    cases co with
    | none =>
      unfold srvV at e2
      gi_wp2_with fail
      refine ⟨by simp, .inl ⟨_, _, rfl, run_takeDeferred hK, ?_⟩⟩
      refine ⟨_, results_tmp rfl _ _ _, ?_, ?_⟩
      · rw [HC.out]; rfl
      · rw [HC.out]
        exact HI.out.grown h.ltT h.ltp (grownBy_putObj' W D (.deferred none)) (fun r e => by cases e; omega)
    | some r0 =>
      unfold srvV at e2
      gi_wp2_with fail
      refine ⟨by simp, .inl ⟨_, _, rfl, run_takeDeferred hK, ?_⟩⟩
      refine ⟨_, results_tmp rfl _ _ _, ?_, ?_⟩
      · rw [HC.out]; rfl
      · rw [HC.out]
        exact HI.out.grown h.ltT h.ltp (grownBy_putObj' W D (.deferred none)) (fun r e => by cases e; omega)
  case stop =>
    rintro D c pre W _ _ h _
    exact h.elim
end Go.Proofs.Ytfndbllpnkhlhaa
