/- The program's scheduler: Set. -/
import Derived.Test.YtkigagglkmdccaaKl
namespace Go.Proofs.Ytkigagglkmdccaa
open Go.RowKit
set_option linter.unusedVariables false
set_option linter.unusedSimpArgs false
variable {X : Ext}

/-- Put, behind a new queue, against the plain scheduler. -/
theorem put_any (N : Int) (T : Nat) (F : Nat → Prop) (s : Sc) (nm : List UInt8) (wt : Int) (w W1 : World) (Q : Nat) (h : PF X w T F s) (hs : Sok N s) (hwt : 1 ≤ wt ∧ wt ≤ 16) (hwait : waitS s nm = 0) (hb : Below w.heap.size w W1) (hQ : QB W1 Q (.slice none 0 0) []) (hQn : w.heap.size ≤ Q) :
    Calls Try.prog 57 #[.pointer (some ⟨T, 4, none⟩), .string (tx nm), ln4 nm wt s.clk Q] W1 fun e w' => e = .returned (.int .i64 (setS s nm wt).1) ∧ ∃ F', PF X w' T F' (setS s nm wt).2 ∧ Fr F F' w w' := by
  have hPF := h
  obtain ⟨lv, m, srv, had, h1, h2, h3, h4⟩ := h
  have hlen : m.length = s.ts.length := by rw [← h2]; simp [tns]
  have hl := hs.n
  have h1W := h1.at' (w' := W1) fun q hq => hb.block q (h1.lt q hq)
  have hlk := fnd_look (nm := nm) h1.up
  rw [h2] at hlk
  have hnw : ¬ ¬ (1 ≤ wt ∧ wt ≤ 16) := fun k => k hwt
  cases hf : fnd m nm with
  | none =>
    rw [hf] at hlk
    by_cases hl6 : 16 ≤ s.ts.length
    · have hR : setS s nm wt = (7, s) := by unfold setS; rw [if_neg hnw, hlk]; simp [hl6]
      rw [hR]
      refine (put_full T lv srv m s.clk had nm wt s.clk Q W1 h1W (by omega) hf).mono ?_
      rintro e w' ⟨rfl, hb2⟩
      exact ⟨rfl, hPF.newer (hb.trans (hb2.mono hb.size))⟩
    · have hR : setS s nm wt = (0, { s with ts := insT ⟨nm, wt, s.clk, []⟩ s.ts }) := by unfold setS; rw [if_neg hnw, hlk]; simp [hl6]
      rw [hR]
      refine (put_new T lv srv m s.clk had nm wt s.clk Q W1 h1W (by omega) hf).mono ?_
      rintro e w' ⟨rfl, lv', p, hn⟩
      exact ⟨rfl, PF.ins (t := ⟨nm, wt, s.clk, []⟩) (s := s) h1 h2 h3 h4 hb hQ hQn (fnd_none hf) rfl hn rfl rfl rfl rfl⟩
  | some x =>
    obtain ⟨i, r⟩ := x
    rw [hf] at hlk
    simp only [Option.map_some] at hlk
    have hg := fnd_some hf
    have hrm := List.mem_of_getElem? hg.2.2.1
    have hw0 : r.t.ws = [] := by
      unfold waitS at hwait
      rw [hlk] at hwait
      simp only at hwait
      exact List.eq_nil_of_length_eq_zero (by omega)
    have hR : setS s nm wt = (0, { s with ts := s.ts.set i { r.t with wt := wt, fin := s.clk } }) := by unfold setS; rw [if_neg hnw, hlk]; simp [hw0]
    rw [hR]
    refine (put_there T lv srv m s.clk had nm wt s.clk Q W1 i r h1W (by omega) hf).mono ?_
    rintro e w' ⟨rfl, hr, hgr⟩
    have hTp := (h1.tagT hrm).1
    have hQl := hQ.lt Q (.inl rfl)
    have hpl := h1.lt r.p (.inr (.inr ⟨r, hrm, .inl rfl⟩))
    have hTl := h1.lt T (.inl rfl)
    have hWs := hb.size
    have blk : ∀ q, q < W1.heap.size → q ≠ r.p → w'.heap[q]? = W1.heap[q]? := fun q hq hn => hgr.block q hq fun e => hn (Option.some.inj e)
    refine ⟨rfl, PF.set (r' := ⟨r.p, Q, .slice none 0 0, { r.t with wt := wt, fin := s.clk }⟩) (srv' := srv) (had' := had) h1 h4 hg.2.2.1 rfl rfl hr ?_ ((blk T (by omega) (fun e => hTp e.symm)).trans h1W.box) (fun q k1 k2 k3 k4 k5 => (blk q (by omega) k3).trans (hb.block q k1)) (.inr hQn) (.inr fun q hq => by cases hq) (hgr.os.trans hb.os) (hgr.tape.trans hb.tape) (hgr.output.trans hb.output) (by have := hgr.size; omega) ?_ ?_⟩
    · show QB w' Q (.slice none 0 0) r.t.ws
      rw [hw0]
      refine hQ.at' fun q hq => ?_
      rcases hq with rfl | hq
      · exact blk q hQl (by omega)
      · cases hq
    · show tns (m.set i _) = s.ts.set i _
      unfold tns
      rw [List.map_set]
      have : m.map (fun r => r.t) = s.ts := h2
      rw [this]
    · refine ⟨fun hi => ?_, fun hi => ?_⟩
      · obtain ⟨k1, k2, k3⟩ := h3.idle hi
        refine ⟨k1, k2, fun y hy z hz => ?_⟩
        rcases mem_set hy with ⟨rfl, _⟩ | ⟨j, hj, hy⟩
        · rw [show (Rw.t ⟨r.p, Q, .slice none 0 0, { r.t with wt := wt, fin := s.clk }⟩).ws = [] from hw0] at hz
          cases hz
        · exact k3 y (List.mem_of_getElem? hy) z hz
      · obtain ⟨k, r2, y, l, g1, g2, g3, g4, g5, g6, g7⟩ := h3.busy hi
        have hki : k ≠ i := fun e => by
          subst e
          rw [hg.2.2.1] at g1
          have := Option.some.inj g1
          subst this
          rw [hw0] at g4
          cases g4
        refine ⟨k, r2, y, l, by rw [List.getElem?_set_ne (fun e => hki e.symm)]; exact g1, g2, g3, g4, g5, g6, fun j y' hj hy' z hz => ?_⟩
        by_cases e : i = j
        · subst e
          rw [List.getElem?_set_self (List.getElem?_eq_some_iff.1 hg.2.2.1).1] at hy'
          have := Option.some.inj hy'
          subst this
          rw [show (Rw.t ⟨r.p, Q, .slice none 0 0, { r.t with wt := wt, fin := s.clk }⟩).ws = [] from hw0] at hz
          cases hz
        · rw [List.getElem?_set_ne e] at hy'
          exact g7 j y' hj hy' z hz
set_option maxRecDepth 20000 in
set_option maxHeartbeats 4000000 in
theorem set_any (N : Int) (T : Nat) (F : Nat → Prop) (s : Sc) (nm : List UInt8) (wt : Int) (w : World) (h : PF X w T F s) (hs : Sok N s) (hN : N ≤ 100000) :
    Calls Try.prog 32 #[.pointer (some ⟨T, 4, none⟩), .string (tx nm), .int .i64 wt] w fun e w' => e = .returned (.int .i64 (setS s nm wt).1) ∧ ∃ F', PF X w' T F' (setS s nm wt).2 ∧ Fr F F' w w' := by
  have HS : Hid (∃ F', PF X w T F' s ∧ Fr F F' w w) := h.same
  by_cases hwt : 1 ≤ wt ∧ wt ≤ 16
  · obtain ⟨w0, w1⟩ := hwt
    have HPUT : Hid (∀ (W1 : World) (Q : Nat), waitS s nm = 0 → Below w.heap.size w W1 → QB W1 Q (.slice none 0 0) [] → w.heap.size ≤ Q → Calls Try.prog 57 #[.pointer (some ⟨T, 4, none⟩), .string (tx nm), .agg #[.string (tx nm), .int .i64 wt, .int .i64 s.clk, .pointer (some ⟨Q, 0, none⟩)]] W1 fun e w' => e = .returned (.int .i64 (setS s nm wt).1) ∧ ∃ F', PF X w' T F' (setS s nm wt).2 ∧ Fr F F' w w') := fun W1 Q hw hb hQ hQn => put_any N T F s nm wt w W1 Q h hs ⟨w0, w1⟩ hw hb hQ hQn
    have hPF := h
    obtain ⟨lv, m, srv, had, h1, h2, h3, h4⟩ := h
    have hlen : m.length = s.ts.length := by rw [← h2]; simp [tns]
    have hlk := fnd_look (nm := nm) h1.up
    rw [h2] at hlk
    have HW : Hid (∀ W, W = w → Calls Try.prog 43 #[.pointer (some ⟨T, 4, none⟩), .string (tx nm)] W fun e w' => e = .returned (.int .i64 (waitS s nm)) ∧ w' = W) := fun W e => by
      subst e
      have := waiting_any T lv srv m s.clk had nm W h1 (by have := hs.n; omega)
      have e : waitS s nm = (match fnd m nm with | some (_, r) => (r.t.ws.length : Int) | none => 0) := by
        unfold waitS
        rw [hlk]
        cases fnd m nm <;> rfl
      rw [e]
      exact this
    obtain ⟨c0, c1, c2, c3⟩ := h1.cells
    have hTl := h1.lt T (.inl rfl)
    have hx1 : ¬ wt < 1 := by omega
    have hx2 : ¬ 16 < wt := by omega
    by_cases hwz : 0 < waitS s nm
    · have HR : Hid (setS s nm wt = (200, s)) := by
        show _ = _
        unfold waitS at hwz
        cases hq : lookT s.ts nm with
        | none => rw [hq] at hwz; simp at hwz
        | some y =>
          obtain ⟨k, t⟩ := y
          rw [hq] at hwz
          simp only at hwz
          have hne : t.ws ≠ [] := fun e => by rw [e] at hwz; simp at hwz
          unfold setS
          rw [if_neg (fun k => k ⟨w0, w1⟩), hq]
          simp [hne]
      generalize waitS s nm = V at HW hwz
      clear h1 h2 h3 h4 hlen hlk hPF HPUT hs
      go_enter Try.func32, Try.ntmps32
      go_wp2_with (go_at_call 43; refine (HW.out _ rfl).mono ?_; rintro e w' ⟨rfl, hw⟩; rw [hw]; clear hw)
      go_ret
      rw [HR.out]
      exact ⟨rfl, HS.out⟩
    · have hz : waitS s nm = 0 := by
        have : 0 ≤ waitS s nm := by unfold waitS; cases lookT s.ts nm <;> simp
        omega
      rw [hz] at HW
      have HZ : Hid (waitS s nm = 0) := hz
      have HQ : Hid (∀ W : World, Calls Try.prog 58 #[.int .i64 16] W fun e w' => e = .returned (.pointer (some ⟨W.heap.size, 0, none⟩)) ∧ QB w' W.heap.size (.slice none 0 0) [] ∧ w' = W.alloc (.cells #[.int .i64 16, .slice none 0 0] 134)) := fun W => newq_any W
      generalize setS s nm wt = R at HPUT ⊢
      obtain ⟨x, R2⟩ := R
      simp only at HPUT ⊢
      generalize s.clk = clk at *
      have HBD : Hid (Below w.heap.size w w.drew) := (Below.refl _ w).drew
      clear h1 h2 h3 h4 hlen hlk hPF hs hz hwz c0 c2 c3
      go_enter Try.func32, Try.ntmps32
      go_wp2_with (go_at_call 43; refine (HW.out _ rfl).mono ?_; rintro e w' ⟨rfl, hw⟩; rw [hw]; clear hw)
      go_region_with (first | (go_at_call 58; refine (HQ.out _).mono ?_; rintro e w1 ⟨rfl, hqb, hw1⟩; (have HQ1 : Hid (QB w1 w.drew.heap.size (.slice none 0 0) [] ∧ Below w.heap.size w w1) := ⟨hqb, by rw [hw1]; exact HBD.out.trans ((bel1' w.drew _).mono (Nat.le_refl _))⟩); (have k1 : w1.cell? ⟨T, 5, none⟩ = some (.int .i64 clk) := by rw [World.cell?_of_block (HQ1.out.2.block T hTl)]; exact c1); clear hqb hw1) | (go_at_call 57; refine (HPUT.out w1 _ HZ.out HQ1.out.2 HQ1.out.1 (Nat.le_refl _)).mono ?_; rintro e w2 ⟨rfl, hE⟩; (have HE : Hid (∃ F', PF X w2 T F' R2 ∧ Fr F F' w w2) := hE); clear hE))
      all_goals
        go_wp2_with fail
        go_ret
        exact ⟨rfl, HE.out⟩
  · have HR : Hid (setS s nm wt = (1, s)) := by show _ = _; unfold setS; rw [if_pos hwt]
    rcases (show wt < 1 ∨ (1 ≤ wt ∧ 16 < wt) from by omega) with c | ⟨c, c'⟩
    · clear h hs hwt
      go_enter Try.func32, Try.ntmps32
      go_wp2_with fail
      go_ret
      rw [HR.out]
      exact ⟨rfl, HS.out⟩
    · have c2 : ¬ wt < 1 := by omega
      clear h hs hwt
      go_enter Try.func32, Try.ntmps32
      go_wp2_with fail
      go_ret
      rw [HR.out]
      exact ⟨rfl, HS.out⟩
end Go.Proofs.Ytkigagglkmdccaa
