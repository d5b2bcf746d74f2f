/- The program's scheduler: Push. -/
import Derived.Test.YtfndbllpnkhlhaaKm
namespace Go.Proofs.Ytfndbllpnkhlhaa
open Go.RowKit
set_option linter.unusedVariables false
set_option linter.unusedSimpArgs false

theorem scale_eq {wt : Int} (h : 1 ≤ wt ∧ wt ≤ 16) (c : Int) : c * (720720 / wt) = c * 720720 / wt := by
  rcases (show wt = 1 ∨ wt = 2 ∨ wt = 3 ∨ wt = 4 ∨ wt = 5 ∨ wt = 6 ∨ wt = 7 ∨ wt = 8 ∨ wt = 9 ∨ wt = 10 ∨ wt = 11 ∨ wt = 12 ∨ wt = 13 ∨ wt = 14 ∨ wt = 15 ∨ wt = 16 from by omega) with rfl | rfl | rfl | rfl | rfl | rfl | rfl | rfl | rfl | rfl | rfl | rfl | rfl | rfl | rfl | rfl <;> omega
theorem quo_bd {wt : Int} (h : 1 ≤ wt ∧ wt ≤ 16) : 45045 ≤ 720720 / wt ∧ 720720 / wt ≤ 720720 := by
  rcases (show wt = 1 ∨ wt = 2 ∨ wt = 3 ∨ wt = 4 ∨ wt = 5 ∨ wt = 6 ∨ wt = 7 ∨ wt = 8 ∨ wt = 9 ∨ wt = 10 ∨ wt = 11 ∨ wt = 12 ∨ wt = 13 ∨ wt = 14 ∨ wt = 15 ∨ wt = 16 from by omega) with rfl | rfl | rfl | rfl | rfl | rfl | rfl | rfl | rfl | rfl | rfl | rfl | rfl | rfl | rfl | rfl <;> decide
theorem rowO_fin {w : World} {p Q : Nat} {t : Tn} (h : w.heap[p]? = some (rowO t Q)) (x : Int) (ws : List Wk) : (w.setCell ⟨p, 3, none⟩ (.int .i64 x)).heap[p]? = some (rowO { t with fin := x, ws := ws } Q) := by
  unfold rowO at h
  rw [row_set _ h]
  rfl
/-- A block lies so. -/
def Below' (w w2 : World) (z : Nat) (o : Obj) : Prop := w2.heap[z]? = some o
/-- A job that was pushed, against the plain scheduler. -/
theorem push_of {w W w2 : World} {T i : Nat} {F : Nat → Prop} {lv srv sv' : Value} {m : List Rw} {had : Int} {s : Sc} {r : Rw} {x : Wk} {fin : Int} (h : SR w T lv m s.clk srv had) (h2 : tns m = s.ts) (h3 : Srv s m srv had) (h4 : ∀ q, F q ↔ foot T lv m q) (hi : m[i]? = some r) (hb : Below w.heap.size w W) (hx : x.left = x.cost) (hq : Qch W w2 r.Q r.sv sv' (r.t.ws ++ [x])) :
    w2.heap[r.p]? = some (rowO r.t r.Q) ∧ ∃ F', PF (w2.setCell ⟨r.p, 3, none⟩ (.int .i64 fin)) T F' { s with ts := s.ts.set i { r.t with fin := fin, ws := r.t.ws ++ [x] } } ∧ Fr F F' w (w2.setCell ⟨r.p, 3, none⟩ (.int .i64 fin)) := by
  have hrm := List.mem_of_getElem? hi
  have tg := h.tagT hrm
  have hpl := h.lt r.p (.inr (.inr ⟨r, hrm, .inl rfl⟩))
  have hTl := h.lt T (.inl rfl)
  have hWs := hb.size
  have hp2 : w2.heap[r.p]? = some (rowO r.t r.Q) := ((hq.block r.p (by omega) tg.2.2.1 tg.2.2.2.2.1).trans (hb.block r.p hpl)).trans (h.each r hrm)
  refine ⟨hp2, PF.set (r' := ⟨r.p, r.Q, sv', { r.t with fin := fin, ws := r.t.ws ++ [x] }⟩) (srv' := srv) (had' := had) h h4 hi rfl rfl (rowO_fin hp2 fin _) ?_ ?_ ?_ (.inl rfl) ?_ (hq.os.trans hb.os) (hq.tape.trans hb.tape) (hq.output.trans hb.output) (by have := hq.size; simp; omega) ?_ ?_⟩
  · refine hq.qb.at' fun q hqq => Below.heap_setCell _ _ _ _ fun e => ?_
    rcases hqq with e2 | hqq
    · exact tg.2.2.1 (e.symm.trans e2)
    · obtain ⟨cur, hc⟩ := tl_tag hq.qb.items hqq
      rw [e, hp2] at hc
      unfold rowO at hc
      cases hc
  · rw [Below.heap_setCell _ _ _ _ (fun e => tg.1 e.symm), hq.block T (by omega) (fun e => tg.2.1 e.symm) tg.2.2.2.1, hb.block T hTl]
    exact h.box
  · intro q k1 k2 k3 k4 k5
    rw [Below.heap_setCell _ _ _ _ k3, hq.block q (by omega) k4 k5, hb.block q k1]
  · rcases hq.own with e | ⟨q', e, hle⟩
    · exact .inl e
    · refine .inr fun q hqq => ?_
      simp only at hqq
      rw [e] at hqq
      have := Option.some.inj hqq
      omega
  · show tns (m.set i _) = s.ts.set i _
    unfold tns
    rw [List.map_set]
    have : m.map (fun r => r.t) = s.ts := h2
    rw [this]
  · have hil := (List.getElem?_eq_some_iff.1 hi).1
    refine ⟨fun hid => ?_, fun hid => ?_⟩
    · obtain ⟨k1, k2, k3⟩ := h3.idle hid
      refine ⟨k1, k2, fun y hy z hz => ?_⟩
      rcases mem_set hy with ⟨rfl, _⟩ | ⟨j, hj, hy⟩
      · rcases List.mem_append.1 (show z ∈ r.t.ws ++ [x] from hz) with hz | hz
        · exact k3 r hrm z hz
        · simp at hz; rw [hz]; exact hx
      · exact k3 y (List.mem_of_getElem? hy) z hz
    · obtain ⟨k, r2, y, l, g1, g2, g3, g4, g5, g6, g7⟩ := h3.busy hid
      by_cases hki : k = i
      · subst hki
        rw [hi] at g1
        have := Option.some.inj g1
        subst this
        refine ⟨k, _, y, l ++ [x], List.getElem?_set_self hil, g2, g3, by show r.t.ws ++ [x] = _; rw [g4]; rfl, g5, fun z hz => ?_, fun j y' hj hy' z hz => ?_⟩
        · rcases List.mem_append.1 hz with hz | hz
          · exact g6 z hz
          · simp at hz; rw [hz]; exact hx
        · rw [List.getElem?_set_ne (fun e => hj e.symm)] at hy'
          exact g7 j y' hj hy' z hz
      · refine ⟨k, r2, y, l, by rw [List.getElem?_set_ne (fun e => hki e.symm)]; exact g1, g2, g3, g4, g5, g6, fun j y' hj hy' z hz => ?_⟩
        by_cases e : i = j
        · subst e
          rw [List.getElem?_set_self hil] at hy'
          have := Option.some.inj hy'
          subst this
          rcases List.mem_append.1 (show z ∈ r.t.ws ++ [x] from hz) with hz | hz
          · exact g7 i r (fun e => hki e.symm) hi z hz
          · simp at hz; rw [hz]; exact hx
        · rw [List.getElem?_set_ne e] at hy'
          exact g7 j y' hj hy' z hz
set_option maxRecDepth 20000 in
set_option maxHeartbeats 4000000 in
theorem push_any (N : Int) (T : Nat) (F : Nat → Prop) (s : Sc) (nm : List UInt8) (id cost : Int) (w : World) (h : PF w T F s) (hs : Sok N s) (hN : N ≤ 100000) :
    Calls Try.prog 21 #[.pointer (some ⟨T, 0, none⟩), .string (tx nm), .agg #[.int .i64 id, .int .i64 cost]] w fun e w' => e = .returned (.int .i64 (pushS s nm id cost).1) ∧ ∃ F', PF w' T F' (pushS s nm id cost).2 ∧ Fr F F' w w' := by
  obtain ⟨W, hW⟩ : ∃ W, w.alloc (.cells #[.int .i64 id, .int .i64 cost] 42) = W := ⟨_, rfl⟩
  have hB : Below w.heap.size w W := by rw [← hW]; exact bel1' w _
  have HSN : Hid (∃ F', PF W T F' s ∧ Fr F F' w W) := h.newer hB
  have hn : W.heap[w.heap.size]? = some (.cells #[.int .i64 id, .int .i64 cost] 42 (0, 0)) := by rw [← hW]; exact heap_alloc_new _ _
  have n0 : W.cell? ⟨w.heap.size, 0, none⟩ = some (.int .i64 id) := by rw [cell_of_row _ _ _ _ _ _ hn]; rfl
  have n1 : W.cell? ⟨w.heap.size, 1, none⟩ = some (.int .i64 cost) := by rw [cell_of_row _ _ _ _ _ _ hn]; rfl
  obtain ⟨lv, m, srv, had, h1, h2, h3, h4⟩ := h
  have hlen : m.length = s.ts.length := by rw [← h2]; simp [tns]
  have hl := hs.n
  have h1W := h1.at' (w' := W) fun q hq => hB.block q (h1.lt q hq)
  have hlk := fnd_look (nm := nm) h1.up
  rw [h2] at hlk
  have HF : Hid (∀ V, V = W → Calls Try.prog 41 #[.pointer (some ⟨T, 0, none⟩), .string (tx nm)] V fun e w' => e = .returned (match fnd m nm with | some (_, r) => .tuple #[.pointer (some ⟨r.p, 1, none⟩), .int .i64 0] | none => .tuple #[.pointer none, .int .i64 5]) ∧ w' = V) := fun V e => by
    subst e
    exact find_any T lv srv m s.clk had nm V h1W (by omega)
  cases hf : fnd m nm with
  | none =>
    rw [hf] at hlk HF
    simp only at HF
    have HR : Hid (pushS s nm id cost = (5, s)) := by show _ = _; unfold pushS; rw [hlk]; rfl
    clear h1 h2 h3 h4 h1W hlen hl hlk hf hs hn n0 n1 hB
    go_enter Try.func21, Try.ntmps21
    go_wp2_with (go_at_call 41; refine (HF.out _ rfl).mono ?_; rintro e w1 ⟨rfl, hw1⟩; rw [hw1]; clear hw1)
    go_ret
    rw [HR.out]
    exact ⟨rfl, HSN.out⟩
  | some y =>
    obtain ⟨i, r⟩ := y
    rw [hf] at hlk HF
    simp only [Option.map_some] at HF hlk
    have hg := fnd_some hf
    have hrm := List.mem_of_getElem? hg.2.2.1
    have hR : pushS s nm id cost = (if ¬ (1 ≤ cost ∧ cost ≤ 1000) then (1, s) else if 16 ≤ r.t.ws.length then (200, s) else (0, { s with ts := s.ts.set i { r.t with fin := begins s.clk r.t.fin + cost * 720720 / r.t.wt, ws := r.t.ws ++ [⟨id, cost, begins s.clk r.t.fin, cost⟩] } })) := by unfold pushS; rw [hlk]
    have hTn := hs.all r.t (by rw [← h2]; exact List.mem_map.2 ⟨r, hrm, rfl⟩)
    by_cases hc : 1 ≤ cost ∧ cost ≤ 1000
    · obtain ⟨c0, c1⟩ := hc
      rw [if_neg (fun k => k ⟨c0, c1⟩)] at hR
      have c0' : ¬ cost < 1 := by omega
      have c1' : ¬ 1000 < cost := by omega
      obtain ⟨d0, d1, d2, d3, d4⟩ := rowO_cells (h1W.each r hrm)
      have e1 := h1W.cells.2.1
      have f3 := rowO_frozen (i := 3) (h1W.each r hrm)
      have hclk0 := hs.k0
      have hclk1 := hs.k1
      have hf0 := hTn.f0
      have hf1 := hTn.f1
      have hw0 := hTn.w0
      have hw1 := hTn.w1
      have hclk2 : s.clk ≤ 72072000000000 := by omega
      have hf2 : r.t.fin ≤ 72072000000000 := by omega
      have hlQ := hTn.n
      have HB : Hid (Below w.heap.size w W) := hB
      have hBG : max s.clk r.t.fin = begins s.clk r.t.fin := by unfold begins; split <;> omega
      have hB0 : 0 ≤ begins s.clk r.t.fin := by rw [← hBG]; omega
      have hB1 : begins s.clk r.t.fin ≤ 72072000000000 := by rw [← hBG]; omega
      by_cases hfull : 16 ≤ r.t.ws.length
      · rw [if_pos hfull] at hR
        have HR : Hid (pushS s nm id cost = (200, s)) := hR
        have HQ : Hid (∀ (V : World) (x : Wk), Below W.heap.size W V → Calls Try.prog 42 #[.pointer (some ⟨r.Q, 0, none⟩), .agg #[.int .i64 x.id, .int .i64 x.cost, .int .i64 x.start]] V fun e w' => e = .returned (.int .i64 200) ∧ ∃ F', PF w' T F' s ∧ Fr F F' w w') := fun V x hb => (qpush_full r.Q r.sv r.t.ws x V ((h1W.que r hrm).at' fun q hq => hb.block q ((h1W.que r hrm).lt q hq)) (by omega)).mono fun e w' ⟨g1, g2⟩ => ⟨g1, PF.newer (w := w) (F := F) ⟨lv, m, srv, had, h1, h2, h3, h4⟩ (HB.out.trans ((hb.trans (g2.mono hb.size)).mono HB.out.size))⟩
        generalize begins s.clk r.t.fin = B at *
        generalize s.clk = clk at *
        generalize r.t.fin = fin at *
        generalize r.t.wt = wt at *
        clear h1 h2 h3 h4 h1W hlen hl hlk hf hs hn hg hrm hR hTn hlQ hfull HSN hB
        go_enter Try.func21, Try.ntmps21
        go_wp2_with (go_at_call 41; refine (HF.out _ rfl).mono ?_; rintro e w1 ⟨rfl, hw1⟩; rw [hw1]; clear hw1)
        go_region
        go_wp2_with fail
        go_region_with (go_at_call 42; refine (HQ.out _ ⟨id, cost, B, cost⟩ (((Below.refl _ W).drew).drew)).mono ?_; rintro e w2 ⟨rfl, hE⟩; (have HE : Hid (∃ F', PF w2 T F' s ∧ Fr F F' w w2) := hE); clear hE)
        all_goals
          go_wp2_with fail
          go_ret
          rw [HR.out]
          exact ⟨rfl, HE.out⟩
      · rw [if_neg hfull] at hR
        have HR : Hid (pushS s nm id cost = (0, { s with ts := s.ts.set i { r.t with fin := begins s.clk r.t.fin + cost * 720720 / r.t.wt, ws := r.t.ws ++ [⟨id, cost, begins s.clk r.t.fin, cost⟩] } })) := hR
        have hdiv := scale_eq (wt := r.t.wt) ⟨hw0, hw1⟩ cost
        have hqb := quo_bd (wt := r.t.wt) ⟨hw0, hw1⟩
        have HQ : Hid (∀ V : World, Below W.heap.size W V → Calls Try.prog 42 #[.pointer (some ⟨r.Q, 0, none⟩), .agg #[.int .i64 id, .int .i64 cost, .int .i64 (begins s.clk r.t.fin)]] V fun e w2 => e = .returned (.int .i64 0) ∧ w2.heap[r.p]? = some (rowO r.t r.Q) ∧ Below' w w2 w.heap.size (.cells #[.int .i64 id, .int .i64 cost] 42 (0, 0)) ∧ ∃ F', PF (w2.setCell ⟨r.p, 3, none⟩ (.int .i64 (begins s.clk r.t.fin + cost * 720720 / r.t.wt))) T F' { s with ts := s.ts.set i { r.t with fin := begins s.clk r.t.fin + cost * 720720 / r.t.wt, ws := r.t.ws ++ [⟨id, cost, begins s.clk r.t.fin, cost⟩] } } ∧ Fr F F' w (w2.setCell ⟨r.p, 3, none⟩ (.int .i64 (begins s.clk r.t.fin + cost * 720720 / r.t.wt)))) := fun V hb => by
          have hbw : Below w.heap.size w V := HB.out.trans (hb.mono HB.out.size)
          have hqV := (h1W.que r hrm).at' (w' := V) fun q hq => hb.block q ((h1W.que r hrm).lt q hq)
          refine (qpush_any r.Q r.sv r.t.ws ⟨id, cost, begins s.clk r.t.fin, cost⟩ V hqV (by omega)).mono ?_
          rintro e w2 ⟨rfl, sv', hq⟩
          obtain ⟨k1, k2⟩ := push_of (fin := begins s.clk r.t.fin + cost * 720720 / r.t.wt) h1 h2 h3 h4 hg.2.2.1 hbw rfl hq
          refine ⟨rfl, k1, ?_, k2⟩
          have hzl : w.heap.size < W.heap.size := (Array.getElem?_eq_some_iff.1 hn).1
          have hzV : V.heap[w.heap.size]? = some (.cells #[.int .i64 id, .int .i64 cost] 42 (0, 0)) := (hb.block _ hzl).trans hn
          have hQl := h1.lt r.Q (.inr (.inr ⟨r, hrm, .inr (.inl rfl)⟩))
          exact (hq.block w.heap.size (by have := hb.size; omega) (by omega) (fun e => by have := h1.lt w.heap.size (.inr (.inr ⟨r, hrm, .inr (.inr e.symm)⟩)); omega)).trans hzV
        generalize hBx : begins s.clk r.t.fin = B at *
        obtain ⟨D, hD⟩ : ∃ D, 720720 / r.t.wt = D := ⟨_, rfl⟩
        have hdt : Int.tdiv 720720 r.t.wt = D := by rw [Int.tdiv_eq_ediv_of_nonneg (by decide)]; exact hD
        rw [hD] at hdiv hqb
        rw [← hdiv] at HQ HR
        have hcD0 : 0 ≤ cost * D := Int.mul_nonneg (by omega) (by omega)
        have hcD1 : cost * D ≤ 720720000 := by
          have := Int.mul_le_mul c1 hqb.2 (by omega) (by omega)
          omega
        have hwz : (r.t.wt == 0) = false := by simpa using (show ¬ r.t.wt = 0 by omega)
        have HRO : Hid (∀ w2 : World, w2.heap[r.p]? = some (rowO r.t r.Q) → w2.heap[w.heap.size]? = some (.cells #[.int .i64 id, .int .i64 cost] 42 (0, 0)) → w2.cell? ⟨r.p, 2, none⟩ = some (.int .i64 r.t.wt) ∧ w2.cell? ⟨r.p, 3, none⟩ = some (.int .i64 r.t.fin) ∧ w2.frozen? ⟨r.p, 3, none⟩ = false ∧ w2.cell? ⟨w.heap.size, 1, none⟩ = some (.int .i64 cost)) := fun w2 k k2 => ⟨(rowO_cells k).2.2.1, (rowO_cells k).2.2.2.1, rowO_frozen k, by rw [cell_of_row _ _ _ _ _ _ k2]; rfl⟩
        obtain ⟨S', hS'⟩ : ∃ S' : Sc, ({ s with ts := s.ts.set i { r.t with fin := B + cost * D, ws := r.t.ws ++ [⟨id, cost, B, cost⟩] } } : Sc) = S' := ⟨_, rfl⟩
        rw [hS'] at HQ HR
        clear hS'
        clear h1 h2 h3 h4 h1W hlen hl hlk hf hs hn hg hrm hR hTn hlQ hfull HSN hB hdiv
        generalize s.clk = clk at *
        have hBm : max clk r.t.fin = B := hBG
        clear hBx hBG
        go_enter Try.func21, Try.ntmps21
        go_wp2_with (go_at_call 41; refine (HF.out _ rfl).mono ?_; rintro e w1 ⟨rfl, hw1⟩; rw [hw1]; clear hw1)
        go_region
        go_wp2_with fail
        go_region_with (go_at_call 42; refine (HQ.out _ (((Below.refl _ W).drew).drew)).mono ?_; rintro e w2 ⟨rfl, hro, hbo, hE⟩; (obtain ⟨y2, y3, y4, y5⟩ := HRO.out w2 hro hbo); (have HE : Hid (∃ F', PF (w2.setCell ⟨r.p, 3, none⟩ (.int .i64 (B + cost * D))) T F' S' ∧ Fr F F' w (w2.setCell ⟨r.p, 3, none⟩ (.int .i64 (B + cost * D)))) := hE); clear hE hro hbo)
        all_goals
          go_wp2_with fail
          go_region
          go_wp2_with fail
          go_ret
          rw [HR.out]
          obtain ⟨F', k1, k2⟩ := HE.out
          exact ⟨rfl, F', k1.at' (fun _ _ => rfl), ⟨k2.os, k2.tape, k2.output, k2.size, k2.block, k2.grow⟩⟩
    · rw [if_pos hc] at hR
      have HR : Hid (pushS s nm id cost = (1, s)) := hR
      rcases (show cost < 1 ∨ (1 ≤ cost ∧ 1000 < cost) from by omega) with c | ⟨c, c'⟩
      · clear h1 h2 h3 h4 h1W hlen hl hlk hf hs hn hB hg hrm hR hTn hc
        go_enter Try.func21, Try.ntmps21
        go_wp2_with (go_at_call 41; refine (HF.out _ rfl).mono ?_; rintro e w1 ⟨rfl, hw1⟩; rw [hw1]; clear hw1)
        go_ret
        rw [HR.out]
        exact ⟨rfl, HSN.out⟩
      · have c2 : ¬ cost < 1 := by omega
        clear h1 h2 h3 h4 h1W hlen hl hlk hf hs hn hB hg hrm hR hTn hc
        go_enter Try.func21, Try.ntmps21
        go_wp2_with (go_at_call 41; refine (HF.out _ rfl).mono ?_; rintro e w1 ⟨rfl, hw1⟩; rw [hw1]; clear hw1)
        go_ret
        rw [HR.out]
        exact ⟨rfl, HSN.out⟩
end Go.Proofs.Ytfndbllpnkhlhaa
