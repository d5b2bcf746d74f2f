/- The program's queues of turns: a new one, one is pushed, one is popped. -/
import Derived.Test.YtkigagglkmdccaaKe
namespace Go.Proofs.Ytkigagglkmdccaa
open Go.RowKit
set_option linter.unusedVariables false
set_option linter.unusedSimpArgs false

theorem info80 : (Try.prog.info? 99).map (fun i => (i.zero, i.size, i.bytes)) = some (some tu0, 3, 24) := by kernel_rfl
theorem zero80 (w : World) : (zeroValue 99).run Try.prog w = .ok (.agg #[.int .i64 0, .int .i64 0, .int .i64 0]) w := by kernel_rfl
theorem newq_any (w : World) : Calls Try.prog 58 #[.int .i64 16] w fun e w' => e = .returned (.pointer (some ⟨w.heap.size, 0, none⟩)) ∧ QB w' w.heap.size (.slice none 0 0) [] ∧ w' = w.alloc (.cells #[.int .i64 16, .slice none 0 0] 134) := by
  go_enter Try.func58, Try.ntmps58
  go_wp2
  go_ret
  exact ⟨rfl, ⟨heap_alloc_new _ _, Tl.nil _ _ _⟩, rfl⟩
theorem step_append_run {P : Program} {ops : Array Oper} {o : Oper} {a : Act} {w : World} {K : Act → World → Prop} {Q : Exit → Act → World → Prop} {E : Prop} (hgd : o.guard = none) (s x : Operand) (t : TypeId)
    (ho : o.op = .call { callee := .builtin .append, args := #[s, x], argTypes := #[t, t] }) (v1 v2 v' : Value) (w' : World) (hs : a.eval s = v1) (hx : a.eval x = v2) (hr : (Builtin.append_ #[t, t] o.type #[v1, v2]).run P w = .ok v' w') (h : K (a.put o.dst v') w') :
    if Region.wanted o (yielded ops a.tmps) = true then Oper.wp P o a w K Q else E := by
  have hw : Region.wanted o (yielded ops a.tmps) = true := by simp [Region.wanted, hgd]
  rw [if_pos hw]
  unfold Oper.wp
  simp [execOp, ho, resolve, invoke, builtin, hs, hx, hr, Result.andThen]
  exact h
/-- What a change of a queue leaves. -/
structure Qch (w w' : World) (Q : Nat) (sv sv' : Value) (ws' : List Wk) : Prop where
  qb : QB w' Q sv' ws'
  os : w'.os = w.os
  tape : w'.tape = w.tape
  output : w'.output = w.output
  size : w.heap.size ≤ w'.heap.size
  block : ∀ q, q < w.heap.size → q ≠ Q → some q ≠ sv.ownBlock → w'.heap[q]? = w.heap[q]?
  own : sv'.ownBlock = sv.ownBlock ∨ ∃ q, sv'.ownBlock = some q ∧ w.heap.size ≤ q
theorem belN {B : Nat} {a b : World} (h : Below B a b) (n : Nat) : Below B a (b.drewN n) := ⟨h.os, h.tape, h.output, h.size, h.block⟩
theorem bel2 (W : World) (o1 : Obj) : Below W.heap.size W (W.alloc o1).drew := (bel1' W o1).drew
theorem qpush_of {w W w2 : World} {Q : Nat} {sv sv' : Value} {ws : List Wk} {o1 : Obj} {x : Wk} (hQ : QB w Q sv ws) (hB : Below w.heap.size w W) (hg : (W.alloc o1).drew.grownBy w2 sv.ownBlock) (hi : Tl tu3 3 w2 0 99 sv' (ws ++ [x])) (ho : sv'.ownBlock = sv.ownBlock ∨ sv'.ownBlock = some (W.alloc o1).drew.heap.size) :
    w2.cell? ⟨Q, 1, none⟩ = some sv ∧ w2.frozen? ⟨Q, 1, none⟩ = false ∧ Hid (Qch w (w2.setCell ⟨Q, 1, none⟩ sv') Q sv sv' (ws ++ [x])) := by
  have hQl := hQ.lt Q (.inl rfl)
  have hWs := hB.size
  have hb2 := bel2 W o1
  have hsz : (W.alloc o1).drew.heap.size = W.heap.size + 1 := by show (W.alloc o1).heap.size = _; simp
  have hQne : some Q ≠ sv.ownBlock := fun e => by
    obtain ⟨cur, hc⟩ := tl_tag hQ.items e.symm
    exact ne_tag hQ.box hc (by decide) rfl
  have h1 : w2.heap[Q]? = some (.cells #[.int .i64 16, sv] 134 (0, 0)) := ((hg.block Q (by omega) hQne).trans ((hb2.block Q (by omega)).trans (hB.block Q hQl))).trans hQ.box
  have hgs := hg.size
  have hQs : some Q ≠ sv'.ownBlock := fun e => by
    rcases ho with h | h
    · exact hQne (e.trans h)
    · rw [h] at e
      have := Option.some.inj e
      omega
  refine ⟨by rw [cell_of_row _ _ _ _ _ _ h1]; rfl, by simp [World.frozen?, h1], ?_⟩
  exact (⟨⟨row_set _ h1, tl_at hi fun q hq => Below.heap_setCell _ _ _ _ (fun e => hQs (by rw [e] at hq; exact hq.symm))⟩, hg.os.trans (hb2.os.trans hB.os), hg.tape.trans (hb2.tape.trans hB.tape), hg.output.trans (hb2.output.trans hB.output), by simp; omega, fun q hq h2 h3 => by
    rw [Below.heap_setCell _ _ _ _ h2, hg.block q (by omega) h3, hb2.block q (by omega), hB.block q hq], ho.imp id fun h => ⟨_, h, by omega⟩⟩ : Qch w (w2.setCell ⟨Q, 1, none⟩ sv') Q sv sv' (ws ++ [x]))
set_option maxRecDepth 20000 in
set_option maxHeartbeats 4000000 in
theorem qpush_full (Q : Nat) (sv : Value) (ws : List Wk) (x : Wk) (w : World) (h : QB w Q sv ws) (hl : ws.length = 16) : Calls Try.prog 66 #[.pointer (some ⟨Q, 0, none⟩), tuV x] w fun e w' => e = .returned (.int .i64 200) ∧ Below w.heap.size w w' := by
  obtain ⟨a, cap, rfl, _, _⟩ := tl_slice h.items
  rw [hl] at h
  obtain ⟨c0, c1, _⟩ := h.cells
  have hQl := (Array.getElem?_eq_some_iff.1 h.box).1
  unfold tuV
  clear h hl
  go_enter Try.func66, Try.ntmps66
  go_wp2_with fail
  go_quiet (fail)
  go_wp2_with fail
  go_ret
  exact ⟨rfl, belN (bel1' w _) _⟩
set_option maxRecDepth 20000 in
set_option maxHeartbeats 4000000 in
theorem qpush_any (Q : Nat) (sv : Value) (ws : List Wk) (x : Wk) (w : World) (h : QB w Q sv ws) (hl : ws.length ≤ 15) : Calls Try.prog 66 #[.pointer (some ⟨Q, 0, none⟩), tuV x] w fun e w' => e = .returned (.int .i64 0) ∧ ∃ sv', Qch w w' Q sv sv' (ws ++ [x]) := by
  obtain ⟨a, cap, hsv, _, _⟩ := tl_slice h.items
  have HQ : Hid (QB w Q sv ws) := h
  obtain ⟨W, hW⟩ : ∃ W, w.alloc (.cells #[.int .i64 x.id, .int .i64 x.cost, .int .i64 x.start] 99) = W := ⟨_, rfl⟩
  have hB : Below w.heap.size w W := by rw [← hW]; exact bel1' w _
  have HB : Hid (Below w.heap.size w W) := hB
  have hQl := h.lt Q (.inl rfl)
  obtain ⟨k0, k1, k2⟩ := (h.at' (w' := W) fun q hq => hB.block q (h.lt q hq)).cells
  rw [hsv] at k1
  have hn : W.heap[w.heap.size]? = some (.cells #[.int .i64 x.id, .int .i64 x.cost, .int .i64 x.start] 99 (0, 0)) := by rw [← hW]; exact heap_alloc_new _ _
  have n0 : W.cell? ⟨w.heap.size, 0, none⟩ = some (.int .i64 x.id) := by rw [cell_of_row _ _ _ _ _ _ hn]; rfl
  have n1 : W.cell? ⟨w.heap.size, 1, none⟩ = some (.int .i64 x.cost) := by rw [cell_of_row _ _ _ _ _ _ hn]; rfl
  have n2 : W.cell? ⟨w.heap.size, 2, none⟩ = some (.int .i64 x.start) := by rw [cell_of_row _ _ _ _ _ _ hn]; rfl
  have hl' : (ws.length : Int) ≤ 15 := by omega
  have hl2 : (ws.length : Int) < 16 := by omega
  have HTL : Hid (ws.length ≤ 15) := hl
  have HSV : Hid (sv = .slice a ws.length cap) := hsv
  obtain ⟨n, hnn⟩ : ∃ n, ws.length = n := ⟨_, rfl⟩
  rw [hnn] at k1 hl' hl2 HSV
  have hWs : w.heap.size < W.heap.size := by rw [← hW]; simp
  have hQW : Q < W.heap.size := by omega
  have HAP : Hid (∀ (V : World) (vb : Nat), Below w.heap.size w V → (∀ j u, (tu3 x)[j]? = some u → V.cell? ⟨vb, j, none⟩ = some u) → ∃ v' w', (Builtin.append_ #[120, 120] 120 #[.slice a n cap, .slice (some ⟨vb, 0, none⟩) 1 1]).run Try.prog V = .ok v' w' ∧ Tl tu3 3 w' 0 99 v' (ws ++ [x]) ∧ V.grownBy w' sv.ownBlock ∧ (v'.ownBlock = sv.ownBlock ∨ v'.ownBlock = some V.heap.size)) := fun V vb hb hc => by
    obtain ⟨i0, hi0, hz0, hzs, hzb⟩ := info_parts info80
    have hT : Tl tu3 3 V 0 99 sv ws := tl_at HQ.out.items fun q hq => hb.block q (HQ.out.lt q (.inr hq))
    have := Tl.append Try.prog (t := 120) (ty := 120) (l2 := [x]) tu3_len tu3_one i0 tu0 24 Try.underlying120 hi0 hz0 hzs hzb rfl hT ⟨vb, 0, none⟩ 1 (fun j u hu => by rw [Addr.add_lit, Nat.zero_add]; exact hc j u (by simpa [fl] using hu)) (by unfold maxLen; simp; omega) (by simp; omega) (Nat.zero_le _)
    rw [HSV.out] at this
    rw [HSV.out]
    exact this
  clear h hsv hl hB hn hnn
  unfold tuV
  go_enter Try.func66, Try.ntmps66
  go_wp2_with fail
  go_quiet (fail)
  go_wp2_with fail
  obtain ⟨V0, hV0⟩ : ∃ V0, W.drewN nq = V0 := ⟨_, rfl⟩
  have HB0 : Hid (Below w.heap.size w V0) := by rw [← hV0]; exact belN HB.out nq
  have m0 : V0.cell? ⟨Q, 1, none⟩ = some (.slice a n cap) := by rw [← hV0]; exact k1
  have m1 : V0.cell? ⟨w.heap.size, 0, none⟩ = some (.int .i64 x.id) := by rw [← hV0]; exact n0
  have m2 : V0.cell? ⟨w.heap.size, 1, none⟩ = some (.int .i64 x.cost) := by rw [← hV0]; exact n1
  have m3 : V0.cell? ⟨w.heap.size, 2, none⟩ = some (.int .i64 x.start) := by rw [← hV0]; exact n2
  have m4 : w.heap.size < V0.heap.size := by rw [← hV0]; exact hWs
  have m5 : Q < V0.heap.size := by rw [← hV0]; exact hQW
  rw [hV0]
  obtain ⟨v', w2, hr, hi, hgr, hown⟩ := HAP.out (V0.alloc (.cells #[.int .i64 x.id, .int .i64 x.cost, .int .i64 x.start] 99)).drew V0.heap.size (HB0.out.trans ((bel2 V0 _).mono HB0.out.size)) (fun j u hu => by
    have : (V0.alloc (.cells #[.int .i64 x.id, .int .i64 x.cost, .int .i64 x.start] 99)).drew.heap[V0.heap.size]? = some (.cells #[.int .i64 x.id, .int .i64 x.cost, .int .i64 x.start] 99 (0, 0)) := heap_alloc_new _ _
    rw [cell_of_row _ _ _ _ _ _ this, ← Array.getElem?_toList]
    exact hu)
  obtain ⟨a', cap', hv', _, _⟩ := tl_slice hi
  obtain ⟨j1, j2, HX⟩ := qpush_of HQ.out HB0.out hgr hi hown
  rw [hv'] at hr HX
  rw [HSV.out] at j1
  clear hV0 HAP hi hgr hown hv' k0 k1 k2 n0 n1 n2 hWs hQW hW
  generalize (ws ++ [x]).length = n2 at *
  go_region_law (refine step_append_run rfl (.tmp 23) (.tmp 25) 120 rfl (.slice a n cap) (.slice (some ⟨V0.heap.size, 0, none⟩) 1 1) _ _ (by simp [Act.eval, Act.put]) (by simp [Act.eval, Act.put]) hr ?_)
  all_goals
    go_wp2_with fail
    go_ret
    exact ⟨rfl, _, HX.out⟩
theorem run_clear1 (w : World) (g o c : Nat) (cur : Array Value) (hg : w.heap[g]? = some (.cells cur 99 (0, 0))) (hfit : o + 3 ≤ cur.size) (ty : TypeId) :
    (Builtin.clear_ #[120] ty #[.slice (some ⟨g, o, none⟩) 1 c]).run Try.prog w = .ok (.tuple #[]) (w.setCells g o [.int .i64 0, .int .i64 0, .int .i64 0]) := by
  have hst := run_storeCells_cells (P := Try.prog) g o [.int .i64 0, .int .i64 0, .int .i64 0] 0 w (fun j hj => by simp at hj; simp [World.cell?, hg]; omega) (fun j hj => by simp [World.frozen?, hg]) (by intro u hu; simp at hu; subst hu; rfl)
  simp only [Nat.add_zero] at hst
  have hz : (Builtin.zeroCells (Value.agg #[.int .i64 0, .int .i64 0, .int .i64 0]).cells 1).toList = [.int .i64 0, .int .i64 0, .int .i64 0] := by kernel_rfl
  simp [Builtin.clear_, run_underlying Try.underlying120, zero80, hz, hst]
end Go.Proofs.Ytkigagglkmdccaa
