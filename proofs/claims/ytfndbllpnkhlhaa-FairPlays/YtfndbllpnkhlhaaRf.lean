/- The model's Set, whole. -/
import Derived.Test.YtfndbllpnkhlhaaRe
namespace Go.Proofs.Ytfndbllpnkhlhaa
open Go.RowKit
set_option linter.unusedVariables false
set_option linter.unusedSimpArgs false

variable {T base : Nat} {lv : Value} {m : List Rt} {clk clk' : Int} {srv srv' : List UInt8} {busy busy' : Bool}
theorem rts_set {m : List Rt} {k : Nat} {x : Rt} : rts (m.set k x) = (rts m).set k x.t := by unfold rts; rw [List.map_set]
set_option maxRecDepth 20000 in
set_option maxHeartbeats 4000000 in
theorem rset_there (nm : List UInt8) (wt : Int) (w : World) (h : RS w T base lv m clk srv busy) (hl : m.length ≤ 16) (w0 : 1 ≤ wt) (w1 : wt ≤ 16) {k : Nat} {r : Rt} (hx : ixT (rts m) nm = some k) (hr : m[k]? = some r) (he : r.t.ws = []) :
    Calls Try.prog 32 #[.pointer (some ⟨T, 0, none⟩), .string (tx nm), .int .i64 wt] w fun e w' => e = .returned (.int .i64 0) ∧ RS w' T base lv (m.set k { r with t := { r.t with wt := wt, fin := clk } }) clk srv busy ∧ Km base w w' := by
  have HF : Hid (Calls Try.prog 59 #[.pointer (some ⟨T, 0, none⟩), .string (tx nm)] w fun e w' => e = .returned (.int .i64 (k : Int)) ∧ w' = w) := by
    have := rfind_any nm w h (by omega)
    unfold ixI at this
    rw [hx] at this
    exact this
  obtain ⟨g, cap, hv, hcap, e0, e1, e2, e3, hf⟩ := rs_row h hr
  have hkl := (List.getElem?_eq_some_iff.1 hr).1
  obtain ⟨n, hn⟩ : ∃ n, m.length = n := ⟨_, rfl⟩
  have c0 := h.cells.1
  have c1 := h.cells.2.1
  subst hv
  have hpp := h.put1 (x := { r with t := { r.t with wt := wt } }) (j := 1) (v := .int .i64 wt) rfl hr (by omega) rfl (.inl ⟨rfl, rfl⟩)
  have hr2 : (m.set k { r with t := { r.t with wt := wt } })[k]? = some { r with t := { r.t with wt := wt } } := List.getElem?_set_self hkl
  have hpp2 := hpp.1.put1 (x := { r with t := { r.t with wt := wt, fin := clk } }) (j := 2) (v := .int .i64 clk) (by simp) hr2 (by omega) rfl (.inl ⟨rfl, rfl⟩)
  rw [List.set_set] at hpp2
  have HX : Hid (∀ d, RS ((((w.setCell ⟨g, k * 4 + 1, none⟩ (.int .i64 wt)).setCell ⟨g, k * 4 + 2, none⟩ (.int .i64 clk))).drewN d) T base (.slice (some ⟨g, 0, none⟩) m.length cap) (m.set k { r with t := { r.t with wt := wt, fin := clk } }) clk srv busy ∧ Km base w (((w.setCell ⟨g, k * 4 + 1, none⟩ (.int .i64 wt)).setCell ⟨g, k * 4 + 2, none⟩ (.int .i64 clk)).drewN d)) := fun d => ⟨hpp2.1.at' fun _ _ => rfl, (hpp.2.trans hpp2.2).drewN d⟩
  have d0 := hpp.1.cells.1
  have d1 := hpp.1.cells.2.1
  rw [he] at e3
  rw [hn] at c0 d0 HX hcap ⊢
  have hcap' : (n : Int) ≤ (cap : Int) := by omega
  have hk' : (k : Int) < (n : Int) := by omega
  have hn16 : (n : Int) ≤ 16 := by omega
  have x1 : ¬ wt < 1 := by omega
  have x2 : ¬ 16 < wt := by omega
  have f1 := hf (k * 4 + 1)
  have f2 := hf (k * 4 + 2)
  have hgT : ¬ g = T := h.ne.1 g rfl
  obtain ⟨W, hW⟩ : ∃ W, w.setCell ⟨g, k * 4 + 1, none⟩ (.int .i64 wt) = W := ⟨_, rfl⟩
  have g2 : W.cell? ⟨g, k * 4 + 2, none⟩ = some (.int .i64 r.t.fin) := by
    have := rs_row hpp.1 hr2
    obtain ⟨g', cap', hv', _, _, _, q2, _⟩ := this
    have hg : g = g' := by have := (Value.slice.inj hv').1; simpa using this
    subst hg
    rw [← hW]
    exact q2
  have g3 : W.frozen? ⟨g, k * 4 + 2, none⟩ = false := by
    have := rs_row hpp.1 hr2
    obtain ⟨g', cap', hv', _, _, _, _, _, q⟩ := this
    have hg : g = g' := by have := (Value.slice.inj hv').1; simpa using this
    subst hg
    rw [← hW]
    exact q _
  rw [hW] at d0 d1 HX
  clear h hx hr hn hpp hpp2 hr2 hkl hcap hf e0 e2
  go_enter Try.func32, Try.ntmps32
  go_wp2_with (go_at_call 59; refine HF.out.mono ?_; rintro e w1 ⟨rfl, hw1⟩; rw [hw1]; clear hw1)
  go_region
  all_goals
    go_wp2_with fail
    go_ret
    exact ⟨rfl, HX.out 1⟩
set_option maxRecDepth 20000 in
set_option maxHeartbeats 4000000 in
theorem rset_any (s : Sc) (nm : List UInt8) (wt : Int) (w : World) (h : RP w T base s) (hl : s.ts.length ≤ 16) :
    Calls Try.prog 32 #[.pointer (some ⟨T, 0, none⟩), .string (tx nm), .int .i64 wt] w fun e w' => e = .returned (.int .i64 (setS s nm wt).1) ∧ RP w' T base (setS s nm wt).2 ∧ Km base w w' := by
  have hRP := h
  obtain ⟨lv, m, h1, h2⟩ := h
  have hlen : m.length = s.ts.length := by rw [← h2]; simp [rts]
  have HS : Hid (RP w T base s ∧ Km base w w) := ⟨hRP, Km.refl _ _⟩
  by_cases hwt : 1 ≤ wt ∧ wt ≤ 16
  · obtain ⟨w0, w1⟩ := hwt
    have hnw : ¬ ¬ (1 ≤ wt ∧ wt ≤ 16) := fun k => k ⟨w0, w1⟩
    have x1 : ¬ wt < 1 := by omega
    have x2 : ¬ 16 < wt := by omega
    cases hx : ixT s.ts nm with
    | none =>
      have hlk : lookT s.ts nm = none := by unfold lookT; rw [hx]
      by_cases h16 : 16 ≤ s.ts.length
      · have HR : Hid (setS s nm wt = (7, s)) := by show _ = _; unfold setS; rw [if_neg hnw, hlk]; simp [h16]
        have HF : Hid (Calls Try.prog 59 #[.pointer (some ⟨T, 0, none⟩), .string (tx nm)] w fun e w' => e = .returned (.int .i64 (-1)) ∧ w' = w) := by
          have := rfind_any nm w h1 (by omega)
          unfold ixI at this
          rw [h2, hx] at this
          exact this
        obtain ⟨sa, cap, hsv⟩ := own_slice h1.row
        have c0 := h1.cells.1
        rw [hsv, show m.length = 16 by omega] at c0
        clear hRP h1 h2 hlen hsv hx hlk h16 hl
        go_enter Try.func32, Try.ntmps32
        go_wp2_with (go_at_call 59; refine HF.out.mono ?_; rintro e w1 ⟨rfl, hw1⟩; rw [hw1]; clear hw1)
        go_ret
        rw [HR.out]
        exact ⟨rfl, HS.out⟩
      · have hR : setS s nm wt = (0, { s with ts := insT ⟨nm, wt, s.clk, []⟩ s.ts }) := by unfold setS; rw [if_neg hnw, hlk]; simp [h16]
        rw [hR]
        refine (rset_ins nm wt w h1 (by omega) w0 w1 (by rw [h2]; exact hx)).mono ?_
        rintro e w' ⟨rfl, lv', m', k1, k2, k3⟩
        exact ⟨rfl, ⟨lv', m', k1, by rw [k2, h2]⟩, k3⟩
    | some k =>
      obtain ⟨t, ht, hid⟩ := ixT_some _ _ _ hx
      have hlk : lookT s.ts nm = some (k, t) := by unfold lookT; rw [hx]; simp [ht]
      rw [← h2] at ht
      obtain ⟨r, hr, rfl⟩ := rts_of ht
      by_cases he : r.t.ws = []
      · have hR : setS s nm wt = (0, { s with ts := s.ts.set k { r.t with wt := wt, fin := s.clk } }) := by unfold setS; rw [if_neg hnw, hlk]; simp [he]
        rw [hR]
        refine (rset_there nm wt w h1 (by omega) w0 w1 (by rw [h2]; exact hx) hr he).mono ?_
        rintro e w' ⟨rfl, k1, k2⟩
        exact ⟨rfl, ⟨_, _, k1, by rw [rts_set, h2]⟩, k2⟩
      · have HR : Hid (setS s nm wt = (200, s)) := by show _ = _; unfold setS; rw [if_neg hnw, hlk]; simp [he]
        have HF : Hid (Calls Try.prog 59 #[.pointer (some ⟨T, 0, none⟩), .string (tx nm)] w fun e w' => e = .returned (.int .i64 (k : Int)) ∧ w' = w) := by
          have := rfind_any nm w h1 (by omega)
          unfold ixI at this
          rw [h2, hx] at this
          exact this
        obtain ⟨g, cap, hv, hcap, e0, e1, e2, e3, hf⟩ := rs_row h1 hr
        have hkl := (List.getElem?_eq_some_iff.1 hr).1
        have c0 := h1.cells.1
        rw [hv] at c0
        obtain ⟨n, hn⟩ : ∃ n, m.length = n := ⟨_, rfl⟩
        rw [hn] at c0 hcap
        have hcap' : (n : Int) ≤ (cap : Int) := by omega
        have hk' : (k : Int) < (n : Int) := by omega
        have hn16 : (n : Int) ≤ 16 := by omega
        have hp : 0 < r.t.ws.length := List.length_pos_iff.2 he
        generalize r.t.ws.length = nw at *
        clear hRP h1 h2 hlen hx hlk hl hr hv hn hkl hcap hf e0 e1 e2 he ht
        go_enter Try.func32, Try.ntmps32
        go_wp2_with (go_at_call 59; refine HF.out.mono ?_; rintro e w1 ⟨rfl, hw1⟩; rw [hw1]; clear hw1)
        go_ret
        rw [HR.out]
        exact ⟨rfl, HS.out⟩
  · have HR : Hid (setS s nm wt = (1, s)) := by show _ = _; unfold setS; rw [if_pos hwt]
    rcases (show wt < 1 ∨ (1 ≤ wt ∧ 16 < wt) from by omega) with c | ⟨c, c'⟩
    · clear hRP h1 h2 hwt
      go_enter Try.func32, Try.ntmps32
      go_wp2_with fail
      go_ret
      rw [HR.out]
      exact ⟨rfl, HS.out⟩
    · have c2 : ¬ wt < 1 := by omega
      clear hRP h1 h2 hwt
      go_enter Try.func32, Try.ntmps32
      go_wp2_with fail
      go_ret
      rw [HR.out]
      exact ⟨rfl, HS.out⟩
end Go.Proofs.Ytfndbllpnkhlhaa
