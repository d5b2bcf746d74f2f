/- The program's queues of turns: one is popped. -/
import Derived.Test.YtfndbllpnkhlhaaKf
namespace Go.Proofs.Ytfndbllpnkhlhaa
open Go.RowKit
set_option linter.unusedVariables false
set_option linter.unusedSimpArgs false

set_option maxRecDepth 20000 in
set_option maxHeartbeats 4000000 in
theorem qpop_any (Q : Nat) (sv : Value) (x : Wk) (ws : List Wk) (w : World) (h : QB w Q sv (x :: ws)) (hl : ws.length ≤ 15) : Calls Try.prog 45 #[.pointer (some ⟨Q, 0, none⟩)] w fun e w' => e = .returned (.tuple #[tuV x, .bool true]) ∧ ∃ sv', Qch w w' Q sv sv' ws := by
  have HPK : Hid (∀ W : World, Below w.heap.size w W → Calls Try.prog 44 #[.pointer (some ⟨Q, 0, none⟩)] W fun e w' => e = .returned (.tuple #[.agg #[.int .i64 x.id, .int .i64 x.cost, .int .i64 x.start], .bool true]) ∧ Below W.heap.size W w') := fun W hb => peek_any Q sv (x :: ws) W (h.at' fun q hq => hb.block q (h.lt q hq)) (by simp; omega)
  rcases h.items with ⟨_, hn⟩ | ⟨g, o, cap, cur, hv, _, hg, h1, h2, h3, h4⟩
  · cases hn
  · subst hv
    simp only [List.length_cons] at *
    have HQ : Hid (QB w Q (.slice (some ⟨g, o, none⟩) (ws.length + 1) cap) (x :: ws)) := h
    have hQl := h.lt Q (.inl rfl)
    have hgl := h.lt g (.inr rfl)
    have hne : Q ≠ g := ne_tag h.box hg (by decide)
    have HG : Hid (w.heap[g]? = some (.cells cur 80 (0, 0)) ∧ o + 3 ≤ cur.size) := ⟨hg, by have : 1 * 3 ≤ cap * 3 := Nat.mul_le_mul_right 3 (by omega); omega⟩
    have hcap : (1 : Int) ≤ (cap : Int) := by omega
    have hcap63 : (cap : Int) ≤ 9223372036854775807 := by unfold maxLen at h2; omega
    have hwl : (ws.length : Int) ≤ 15 := by omega
    have hnc : (ws.length : Int) + 1 ≤ (cap : Int) := by omega
    -- what is left when all is done, in any world that has only new blocks
    have HE : Hid (∀ W : World, Below w.heap.size w W → Qch w ((W.setCells g o [.int .i64 0, .int .i64 0, .int .i64 0]).setCell ⟨Q, 1, none⟩ (.slice (some ⟨g, if cap = 1 then o else o + 3, none⟩) ws.length (cap - 1))) Q (.slice (some ⟨g, o, none⟩) (ws.length + 1) cap) (.slice (some ⟨g, if cap = 1 then o else o + 3, none⟩) ws.length (cap - 1)) ws) := fun W hb => by
      have hgW : W.heap[g]? = some (.cells cur 80 (0, 0)) := (hb.block g hgl).trans hg
      obtain ⟨c2, hg2, hs2, hin2, hout2⟩ := setCs_cells [.int .i64 0, .int .i64 0, .int .i64 0] W g o cur 80 (0, 0) hgW (by simpa using HG.out.2)
      have hQ2 : (W.setCells g o [.int .i64 0, .int .i64 0, .int .i64 0]).heap[Q]? = some (.cells #[.int .i64 16, .slice (some ⟨g, o, none⟩) (ws.length + 1) cap] 112 (0, 0)) := (setCs_other _ _ _ _ _ hne).trans ((hb.block Q hQl).trans HQ.out.box)
      have hb2 := Tl.behind (w := w) tu3_len (x := x) (l := ws) (.inr ⟨g, o, cap, cur, rfl, Nat.zero_le _, hg, by simpa using h1, h2, h3, h4⟩)
      have hsz := hb.size
      refine ⟨⟨row_set _ hQ2, ?_⟩, (setCs_rest _ W g o).1.trans hb.os, (setCs_rest _ W g o).2.1.trans hb.tape, (setCs_rest _ W g o).2.2.trans hb.output, by simp [setCs_size]; omega, fun q hq k1 k2 => ?_, .inl rfl⟩
      · rcases hb2 with ⟨k, _⟩ | ⟨g', o', cap', cur', hv', _, hg', k1, k2, k3, k4⟩
        · cases k
        · have e := Value.slice.inj hv'
          have e1 := e.1
          simp only [Option.some.injEq, Addr.mk.injEq] at e1
          obtain ⟨rfl, rfl, _⟩ := e1
          have e3 := e.2.2
          subst e3
          rw [hg] at hg'
          have e4 : cur = cur' := by cases hg'; rfl
          subst e4
          refine .inr ⟨g, _, cap - 1, c2, rfl, Nat.zero_le _, (Below.heap_setCell _ _ _ _ hne.symm).trans hg2, k1, k2, by omega, fun j u hu => ?_⟩
          have hwn : ws ≠ [] := fun e => by subst e; simp [fl] at hu
          have hwl : 0 < ws.length := List.length_pos_iff.2 hwn
          have hc1 : ¬ cap = 1 := by omega
          have h5 := k4 j u hu
          rw [if_neg hc1] at h5 ⊢
          rw [hout2 (o + 3 + j) (.inr (by simp))]
          exact h5
      · rw [Below.heap_setCell _ _ _ _ k1, setCs_other _ _ _ _ _ (fun e => k2 (by rw [e]; rfl))]
        exact hb.block q hq
    have HC : Hid (∀ W : World, Below w.heap.size w W → W.cell? ⟨Q, 1, none⟩ = some (.slice (some ⟨g, o, none⟩) (ws.length + 1) cap) ∧ (∀ ty c, (Builtin.clear_ #[87] ty #[.slice (some ⟨g, o, none⟩) 1 c]).run Try.prog W = .ok (.tuple #[]) (W.setCells g o [.int .i64 0, .int .i64 0, .int .i64 0])) ∧ (W.setCells g o [.int .i64 0, .int .i64 0, .int .i64 0]).cell? ⟨Q, 1, none⟩ = some (.slice (some ⟨g, o, none⟩) (ws.length + 1) cap) ∧ (W.setCells g o [.int .i64 0, .int .i64 0, .int .i64 0]).frozen? ⟨Q, 1, none⟩ = false) := fun W hb => by
      have hgW : W.heap[g]? = some (.cells cur 80 (0, 0)) := (hb.block g hgl).trans hg
      have hQW : W.heap[Q]? = some (.cells #[.int .i64 16, .slice (some ⟨g, o, none⟩) (ws.length + 1) cap] 112 (0, 0)) := (hb.block Q hQl).trans HQ.out.box
      have hQ2 : (W.setCells g o [.int .i64 0, .int .i64 0, .int .i64 0]).heap[Q]? = some (.cells #[.int .i64 16, .slice (some ⟨g, o, none⟩) (ws.length + 1) cap] 112 (0, 0)) := (setCs_other _ _ _ _ _ hne).trans hQW
      exact ⟨by rw [cell_of_row _ _ _ _ _ _ hQW]; rfl, fun ty c => run_clear1 W g o c cur hgW HG.out.2 ty, by rw [cell_of_row _ _ _ _ _ _ hQ2]; rfl, by simp [World.frozen?, hQ2]⟩
    generalize ws.length = n at *
    clear h h1 h2 h3 h4 hg
    obtain ⟨U, hU⟩ : ∃ U, w.alloc (.cells #[.int .i64 0, .int .i64 0, .int .i64 0] 80) = U := ⟨_, rfl⟩
    have HU : Hid (Below w.heap.size w U ∧ U.heap[w.heap.size]? = some (.cells #[.int .i64 0, .int .i64 0, .int .i64 0] 80 (0, 0)) ∧ w.heap.size < U.heap.size) := by rw [← hU]; exact ⟨bel1' w _, heap_alloc_new _ _, by simp⟩
    have HNX : Hid (∀ w1 : World, Below U.heap.size U w1 → ∃ W2, w1.alloc (.cells #[.int .i64 x.id, .int .i64 x.cost, .int .i64 x.start] 80) = W2 ∧ Below w.heap.size w W2 ∧ w.heap.size < w1.heap.size) := fun w1 hb => ⟨_, rfl, HU.out.1.trans ((hb.trans ((bel1' w1 _).mono hb.size)).mono HU.out.1.size), by have := HU.out.2.2; have := hb.size; omega⟩
    go_enter Try.func45, Try.ntmps45
    go_upto_region 3 with (go_at_call 44; refine (HPK.out _ HU.out.1).mono ?_; rintro e w1 ⟨rfl, hb1⟩; (obtain ⟨W2, hW2, hb2, hlt⟩ := HNX.out w1 hb1); (obtain ⟨d1, hcl, d2, d3⟩ := HC.out W2 hb2); (have HB2 : Hid (Below w.heap.size w W2) := hb2); (have HB1 : Hid (Below U.heap.size U w1) := hb1); clear hb1 hb2)
    have HP2 : Hid (W2.heap[w.heap.size]? = some (.cells #[.int .i64 0, .int .i64 0, .int .i64 0] 80 (0, 0)) ∧ W2.heap[w1.heap.size]? = some (.cells #[.int .i64 x.id, .int .i64 x.cost, .int .i64 x.start] 80 (0, 0))) := by
      rw [← hW2]
      exact ⟨(Below.heap_alloc _ _ _ hlt).trans ((HB1.out.block _ HU.out.2.2).trans HU.out.2.1), heap_alloc_new _ _⟩
    have HE2 := HE.out W2 HB2.out
    obtain ⟨W3, hW3⟩ : ∃ W3, W2.setCells g o [.int .i64 0, .int .i64 0, .int .i64 0] = W3 := ⟨_, rfl⟩
    have HP3 : Hid (W3.heap[w.heap.size]? = some (.cells #[.int .i64 0, .int .i64 0, .int .i64 0] 80 (0, 0)) ∧ W3.heap[w1.heap.size]? = some (.cells #[.int .i64 x.id, .int .i64 x.cost, .int .i64 x.start] 80 (0, 0))) := by
      rw [← hW3]
      exact ⟨(setCs_other _ _ _ _ _ (by omega)).trans HP2.out.1, (setCs_other _ _ _ _ _ (by omega)).trans HP2.out.2⟩
    rw [hW3] at hcl d2 d3 HE2
    have q0 : W3.cell? ⟨w.heap.size, 0, none⟩ = some (.int .i64 0) := by rw [cell_of_row _ _ _ _ _ _ HP3.out.1]; rfl
    have q1 : W3.cell? ⟨w.heap.size, 1, none⟩ = some (.int .i64 0) := by rw [cell_of_row _ _ _ _ _ _ HP3.out.1]; rfl
    have q2 : W3.cell? ⟨w.heap.size, 2, none⟩ = some (.int .i64 0) := by rw [cell_of_row _ _ _ _ _ _ HP3.out.1]; rfl
    have y0 : W3.cell? ⟨w1.heap.size, 0, none⟩ = some (.int .i64 x.id) := by rw [cell_of_row _ _ _ _ _ _ HP3.out.2]; rfl
    have y1 : W3.cell? ⟨w1.heap.size, 1, none⟩ = some (.int .i64 x.cost) := by rw [cell_of_row _ _ _ _ _ _ HP3.out.2]; rfl
    have y2 : W3.cell? ⟨w1.heap.size, 2, none⟩ = some (.int .i64 x.start) := by rw [cell_of_row _ _ _ _ _ _ HP3.out.2]; rfl
    have g0 : ∀ j, W3.frozen? ⟨w.heap.size, j, none⟩ = false := fun j => by simp [World.frozen?, HP3.out.1]
    have g1 := g0 0
    have g2 := g0 1
    have g3 := g0 2
    have hne1 : ¬ w.heap.size = Q := by omega
    have hne2 : ¬ w1.heap.size = Q := by omega
    have hne3 : ¬ w1.heap.size = w.heap.size := by omega
    have HX : Hid (Qch w (W3.setCell ⟨Q, 1, none⟩ (.slice (some ⟨g, if cap = 1 then o else o + 3, none⟩) n (cap - 1))) Q (.slice (some ⟨g, o, none⟩) (n + 1) cap) (.slice (some ⟨g, if cap = 1 then o else o + 3, none⟩) n (cap - 1)) ws) := HE2
    have HFN : Hid (∀ (V : World) (sv' : Value), Qch w V Q (.slice (some ⟨g, o, none⟩) (n + 1) cap) sv' ws → V.heap[w.heap.size]? = some (.cells #[.int .i64 0, .int .i64 0, .int .i64 0] 80 (0, 0)) → (∀ q, (sv').ownBlock = some q → q < w.heap.size) → Qch w (((V.setCell ⟨w.heap.size, 0, none⟩ (.int .i64 x.id)).setCell ⟨w.heap.size, 1, none⟩ (.int .i64 x.cost)).setCell ⟨w.heap.size, 2, none⟩ (.int .i64 x.start)) Q (.slice (some ⟨g, o, none⟩) (n + 1) cap) sv' ws ∧ (((V.setCell ⟨w.heap.size, 0, none⟩ (.int .i64 x.id)).setCell ⟨w.heap.size, 1, none⟩ (.int .i64 x.cost)).setCell ⟨w.heap.size, 2, none⟩ (.int .i64 x.start)).heap[w.heap.size]? = some (.cells #[.int .i64 x.id, .int .i64 x.cost, .int .i64 x.start] 80 (0, 0))) := fun V sv' hq hz hown => by
      have hk : ∀ q, q ≠ w.heap.size → (((V.setCell ⟨w.heap.size, 0, none⟩ (.int .i64 x.id)).setCell ⟨w.heap.size, 1, none⟩ (.int .i64 x.cost)).setCell ⟨w.heap.size, 2, none⟩ (.int .i64 x.start)).heap[q]? = V.heap[q]? := fun q h => by
        rw [Below.heap_setCell _ _ _ _ h, Below.heap_setCell _ _ _ _ h, Below.heap_setCell _ _ _ _ h]
      refine ⟨⟨hq.qb.at' fun q hqq => hk q ?_, hq.os, hq.tape, hq.output, by have := hq.size; simpa using this, fun q h1 h2 h3 => (hk q (by omega)).trans (hq.block q h1 h2 h3), hq.own⟩, ?_⟩
      · rcases hqq with rfl | hqq
        · omega
        · have := hown q hqq; omega
      · rw [row_set _ (row_set _ (row_set _ hz))]
        rfl
    have HOW : Hid (∀ {o' n' c' : Nat}, ∀ q, (Value.slice (some ⟨g, o', none⟩) n' c').ownBlock = some q → q < w.heap.size) := fun q hq => by
      have e : g = q := by simpa [Value.ownBlock] using hq
      rw [← e]
      exact hgl
    have HZ3 : Hid (∀ v, (W3.setCell ⟨Q, 1, none⟩ v).heap[w.heap.size]? = some (.cells #[.int .i64 0, .int .i64 0, .int .i64 0] 80 (0, 0))) := fun v => (Below.heap_setCell _ _ _ _ hne1).trans HP3.out.1
    clear HE HC HNX HPK HE2 HP2 HP3 hW2 hW3 hU hQl hgl hlt hne HG HQ g0
    by_cases hc1 : cap = 1
    · subst hc1
      obtain rfl : n = 0 := by omega
      rw [if_pos rfl] at HX
      obtain ⟨r1, r2⟩ := HFN.out _ _ HX.out (HZ3.out _) HOW.out
      have HR : Hid _ := And.intro r1 r2
      clear HX HFN HZ3 r1 r2
      go_wp2_with fail
      refine bodyPost_ret (v := .tuple #[tuV x, .bool true]) (results_two Try.results45 _ _ w.heap.size #[.int .i64 x.id, .int .i64 x.cost, .int .i64 x.start] _ rfl rfl (load80 HR.out.2 rfl)) rfl ⟨rfl, _, HR.out.1⟩
    · rw [if_neg hc1] at HX
      obtain ⟨r1, r2⟩ := HFN.out _ _ HX.out (HZ3.out _) HOW.out
      have HR : Hid _ := And.intro r1 r2
      clear HX HFN HZ3 r1 r2
      go_wp2_with fail
      refine bodyPost_ret (v := .tuple #[tuV x, .bool true]) (results_two Try.results45 _ _ w.heap.size #[.int .i64 x.id, .int .i64 x.cost, .int .i64 x.start] _ rfl rfl (load80 HR.out.2 rfl)) rfl ⟨rfl, _, HR.out.1⟩
end Go.Proofs.Ytfndbllpnkhlhaa
