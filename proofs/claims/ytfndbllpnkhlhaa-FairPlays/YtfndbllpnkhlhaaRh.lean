/- The model's Push, whole. -/
import Derived.Test.YtfndbllpnkhlhaaRg
namespace Go.Proofs.Ytfndbllpnkhlhaa
open Go.RowKit
set_option linter.unusedVariables false
set_option linter.unusedSimpArgs false

variable {T base : Nat} {lv : Value} {m : List Rt} {clk clk' : Int} {srv srv' : List UInt8} {busy busy' : Bool}
set_option maxRecDepth 20000 in
set_option maxHeartbeats 4000000 in
theorem rpush_any (N : Int) (s : Sc) (nm : List UInt8) (id cost : Int) (w : World) (h : RP w T base s) (hs : Sok N s) (hN : N ≤ 100000) :
    Calls Try.prog 33 #[.pointer (some ⟨T, 0, none⟩), .string (tx nm), .agg #[.int .i64 id, .int .i64 cost]] w fun e w' => e = .returned (.int .i64 (pushS s nm id cost).1) ∧ RP w' T base (pushS s nm id cost).2 ∧ Km base w w' := by
  have hRP := h
  obtain ⟨lv, m, h1, h2⟩ := h
  have hlen : m.length = s.ts.length := by rw [← h2]; simp [rts]
  have hl := hs.n
  obtain ⟨W, hW⟩ : ∃ W, w.alloc (.cells #[.int .i64 id, .int .i64 cost] 42) = W := ⟨_, rfl⟩
  have hB : Below w.heap.size w W := by rw [← hW]; exact bel1' _ _
  have j1 : W.cell? ⟨w.heap.size, 1, none⟩ = some (.int .i64 cost) := by
    have : W.heap[w.heap.size]? = some (.cells #[.int .i64 id, .int .i64 cost] 42 (0, 0)) := by rw [← hW]; exact heap_alloc_new _ _
    rw [cell_of_row _ _ _ _ _ _ this]; rfl
  have hS : RS W T base lv m s.clk s.srv s.busy := h1.at' fun q hq => hB.block q (h1.lt q hq).2
  have HS : Hid (∀ o, RP (W.alloc o) T base s ∧ Km base w (W.alloc o)) := fun o => by
    have hb : Below w.heap.size w (W.alloc o) := hB.alloc hB.size o
    exact ⟨⟨lv, m, h1.at' fun q hq => hb.block q (h1.lt q hq).2, h2⟩, Km.of hb h1.bs⟩
  have HS0 : Hid (RP W T base s ∧ Km base w W) := ⟨⟨lv, m, hS, h2⟩, Km.of hB h1.bs⟩
  have hrf := rfind_any nm W hS (by omega)
  cases hx : ixT s.ts nm with
  | none =>
    have hlk : lookT s.ts nm = none := by unfold lookT; rw [hx]
    have HR : Hid (pushS s nm id cost = (5, s)) := by show _ = _; unfold pushS; rw [hlk]
    have HF : Hid (Calls Try.prog 59 #[.pointer (some ⟨T, 0, none⟩), .string (tx nm)] W fun e w' => e = .returned (.int .i64 (-1)) ∧ w' = W) := by
      unfold ixI at hrf
      rw [h2, hx] at hrf
      exact hrf
    clear hRP h1 h2 hlen hl hS hrf hx hlk hB hs
    go_enter Try.func33, Try.ntmps33
    go_wp2_with (go_at_call 59; refine HF.out.mono ?_; rintro e w1 ⟨rfl, hw1⟩; rw [hw1]; clear hw1)
    go_ret
    rw [HR.out]
    exact ⟨rfl, HS0.out⟩
  | some k =>
    have HF : Hid (Calls Try.prog 59 #[.pointer (some ⟨T, 0, none⟩), .string (tx nm)] W fun e w' => e = .returned (.int .i64 (k : Int)) ∧ w' = W) := by
      unfold ixI at hrf
      rw [h2, hx] at hrf
      exact hrf
    obtain ⟨t, ht, hid⟩ := ixT_some _ _ _ hx
    have hlk : lookT s.ts nm = some (k, t) := by unfold lookT; rw [hx]; simp [ht]
    have hok := hs.at' ht
    have hk0 := hs.k0
    have hk1 := hs.k1
    have hf0 := hok.f0
    have hf1 := hok.f1
    rw [← h2] at ht
    obtain ⟨r, hr, rfl⟩ := rts_of ht
    by_cases hc : 1 ≤ cost ∧ cost ≤ 1000
    · by_cases h16 : 16 ≤ r.t.ws.length
      · have HR : Hid (pushS s nm id cost = (200, s)) := by show _ = _; unfold pushS; rw [hlk]; simp [hc, h16]
        have h16' : r.t.ws.length = 16 := by have := hok.n; omega
        obtain ⟨g, cap, hv, hcap, e0, e1, e2, e3, hf⟩ := rs_row hS hr
        have hkl := (List.getElem?_eq_some_iff.1 hr).1
        have c0 := hS.cells.1
        have hTl : T < W.heap.size := (hS.lt T (.inl rfl)).2
        rw [hv] at c0
        rw [h16'] at e3
        obtain ⟨n, hn⟩ : ∃ n, m.length = n := ⟨_, rfl⟩
        rw [hn] at c0 hcap
        have hcap' : (n : Int) ≤ (cap : Int) := by omega
        have hk' : (k : Int) < (n : Int) := by omega
        have hn16 : (n : Int) ≤ 16 := by omega
        have x1 : ¬ cost < 1 := by omega
        have x2 : ¬ 1000 < cost := by omega
        clear hRP h1 h2 hlen hx hlk hl hr hv hn hkl hcap hf ht hS hrf hok hs hB h16 h16'
        go_enter Try.func33, Try.ntmps33
        go_wp2_with (go_at_call 59; refine HF.out.mono ?_; rintro e w1 ⟨rfl, hw1⟩; rw [hw1]; clear hw1)
        go_ret
        rw [HR.out]
        exact ⟨rfl, HS.out _⟩
      · have hR : pushS s nm id cost = (0, { s with ts := s.ts.set k { r.t with fin := begins s.clk r.t.fin + cost * 720720 / r.t.wt, ws := r.t.ws ++ [⟨id, cost, begins s.clk r.t.fin, cost⟩] } }) := by unfold pushS; rw [hlk]; simp [hc, h16]
        rw [hR]
        refine (rpush_ok nm id cost w h1 (by omega) (by rw [h2]; exact hx) hr hc.1 hc.2 hok.w0 hok.w1 (by omega) hk0 (by omega) hf0 (by omega)).mono ?_
        rintro e w' ⟨rfl, x, k1, k2, k3⟩
        exact ⟨rfl, ⟨_, _, k1, by rw [rts_set, h2, k2]⟩, k3⟩
    · have HR : Hid (pushS s nm id cost = (1, s)) := by show _ = _; unfold pushS; rw [hlk]; simp [hc]
      rcases (show cost < 1 ∨ (1 ≤ cost ∧ 1000 < cost) from by omega) with c | ⟨c, c'⟩
      · clear hRP h1 h2 hlen hl hS hrf hx hlk hB hs hok hr ht hc
        go_enter Try.func33, Try.ntmps33
        go_wp2_with (go_at_call 59; refine HF.out.mono ?_; rintro e w1 ⟨rfl, hw1⟩; rw [hw1]; clear hw1)
        go_ret
        rw [HR.out]
        exact ⟨rfl, HS0.out⟩
      · have c2 : ¬ cost < 1 := by omega
        clear hRP h1 h2 hlen hl hS hrf hx hlk hB hs hok hr ht hc
        go_enter Try.func33, Try.ntmps33
        go_wp2_with (go_at_call 59; refine HF.out.mono ?_; rintro e w1 ⟨rfl, hw1⟩; rw [hw1]; clear hw1)
        go_ret
        rw [HR.out]
        exact ⟨rfl, HS0.out⟩
end Go.Proofs.Ytfndbllpnkhlhaa
