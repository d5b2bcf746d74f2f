/- The model's Push. -/
import Derived.Test.YtfndbllpnkhlhaaRf
namespace Go.Proofs.Ytfndbllpnkhlhaa
open Go.RowKit
set_option linter.unusedVariables false
set_option linter.unusedSimpArgs false

variable {T base : Nat} {lv : Value} {m : List Rt} {clk clk' : Int} {srv srv' : List UInt8} {busy busy' : Bool}
theorem cell_new5 {W : World} {t : TypeId} {l : List Value} {b : Nat} (hb : W.heap.size = b) : ∀ (j : Nat) (u : Value), l[j]? = some u → (W.alloc (.cells l.toArray t)).cell? ((⟨b, 0, none⟩ : Addr).add j) = some u := fun j u hu => by
  subst hb
  exact cell_new4 j u hu
/-- A tenant and its jobs are turned: all that is new lies in new blocks. -/
theorem RS.turn_of {w w5 : World} {g n cap k : Nat} {r x : Rt} (h : RS w T base (.slice (some ⟨g, 0, none⟩) n cap) m clk srv busy) (hn : n = m.length) (hr : m[k]? = some r) (hx : w5.ownsRow base 104 4 x.v x.t.ws.length (fl wk4 x.t.ws)) (hxg : x.v.ownBlock ≠ some g)
    (hblk : ∀ q, q < w.heap.size → r.v.ownBlock ≠ some q → w5.heap[q]? = w.heap[q]?) (hos : w5.os = w.os ∧ w5.tape = w.tape ∧ w5.output = w.output ∧ w.heap.size ≤ w5.heap.size)
    (hO : (∀ q, x.v.ownBlock = some q → r.v.ownBlock = some q) ∨ ∀ q, x.v.ownBlock = some q → w.heap.size ≤ q) :
    RS (w5.setCells g (k * 4) (rt4 x)) T base (.slice (some ⟨g, 0, none⟩) n cap) (m.set k x) clk srv busy ∧ Km base w (w5.setCells g (k * 4) (rt4 x)) := by
  subst hn
  have hkl := (List.getElem?_eq_some_iff.1 hr).1
  have hrm := List.mem_of_getElem? hr
  have hne := h.ne
  have hgl := h.lt g (.inr (.inl rfl))
  have hTl := h.lt T (.inl rfl)
  have hgT : T ≠ g := (hne.1 g rfl).symm
  have hT5 : w5.heap[T]? = w.heap[T]? := hblk T hTl.2 fun e => (hne.2 r hrm T e).1 rfl
  have hg5 : w5.heap[g]? = w.heap[g]? := hblk g hgl.2 fun e => (hne.2 r hrm g e).2 rfl
  have hrow : w5.ownsRow base 102 4 (.slice (some ⟨g, 0, none⟩) m.length cap) m.length (fl rt4 m) := own_at h.row fun q hq => by
    have : g = q := by simpa [Value.ownBlock] using hq
    rw [← this]; exact hg5
  have hput := own_put rt4_len hrow hkl x
  rw [List.length_set] at hput
  refine ⟨h.turn hr (by rw [setCs_other _ _ _ _ _ hgT, hT5]; exact h.box) (by rw [List.length_set]; exact hput) (own_at hx fun q hq => setCs_other _ _ _ _ _ fun e => hxg (by rw [← e]; exact hq)) (fun j q r' hj hr' hq => ?_) hO, ⟨?_, ?_⟩⟩
  · have hq' := hne.2 r' (List.mem_of_getElem? hr') q hq
    rw [setCs_other _ _ _ _ _ (fun e => hq'.2 (by rw [e]; rfl))]
    exact hblk q (h.lt q (.inr (.inr ⟨r', List.mem_of_getElem? hr', hq⟩))).2 fun e => hj (h.dis j k q r' r hr' hr hq e)
  · refine ⟨(setCs_rest _ _ _ _).1.trans hos.1, (setCs_rest _ _ _ _).2.1.trans hos.2.1, (setCs_rest _ _ _ _).2.2.trans hos.2.2.1, by rw [setCs_size]; exact hos.2.2.2, fun q hq => ?_⟩
    rw [setCs_other _ _ _ _ _ (by omega)]
    exact hblk q (by omega) fun e => by have := (h.lt q (.inr (.inr ⟨r, hrm, e⟩))).1; omega
  · intro p o hp hb
    have hpl := (Array.getElem?_eq_some_iff.1 hp).1
    have hpg : p ≠ g := fun e => by
      obtain ⟨c, t, h1, h2⟩ := h.tag g (.inr (.inl rfl))
      rw [e, h1] at hp
      have := hb _ _ _ (Option.some.inj hp).symm
      rw [h2] at this
      cases this
    rw [setCs_other _ _ _ _ _ hpg, hblk p hpl fun e => by
      obtain ⟨c, t, h1, h2⟩ := h.tag p (.inr (.inr ⟨r, hrm, e⟩))
      rw [h1] at hp
      have := hb _ _ _ (Option.some.inj hp).symm
      rw [h2] at this
      cases this]
    exact hp
set_option maxRecDepth 20000 in
set_option maxHeartbeats 4000000 in
theorem rpush_ok (nm : List UInt8) (id cost : Int) (w : World) (h : RS w T base lv m clk srv busy) (hl : m.length ≤ 16) {k : Nat} {r : Rt} (hx : ixT (rts m) nm = some k) (hr : m[k]? = some r) (c0 : 1 ≤ cost) (c1 : cost ≤ 1000) (hw0 : 1 ≤ r.t.wt) (hw1 : r.t.wt ≤ 16) (hnw : r.t.ws.length ≤ 15) (hk0 : 0 ≤ clk) (hk1 : clk ≤ 72072000000000) (hf0 : 0 ≤ r.t.fin) (hf1 : r.t.fin ≤ 72072000000000) :
    Calls Try.prog 33 #[.pointer (some ⟨T, 0, none⟩), .string (tx nm), .agg #[.int .i64 id, .int .i64 cost]] w fun e w' => e = .returned (.int .i64 0) ∧ ∃ x : Rt, RS w' T base lv (m.set k x) clk srv busy ∧ x.t = { r.t with fin := begins clk r.t.fin + cost * 720720 / r.t.wt, ws := r.t.ws ++ [⟨id, cost, begins clk r.t.fin, cost⟩] } ∧ Km base w w' := by
  obtain ⟨W, hW⟩ : ∃ W, w.alloc (.cells #[.int .i64 id, .int .i64 cost] 42) = W := ⟨_, rfl⟩
  have hB : Below w.heap.size w W := by rw [← hW]; exact bel1' _ _
  have hsz : W.heap.size = w.heap.size + 1 := by rw [← hW]; simp
  have j1 : W.cell? ⟨w.heap.size, 1, none⟩ = some (.int .i64 cost) := by
    have : W.heap[w.heap.size]? = some (.cells #[.int .i64 id, .int .i64 cost] 42 (0, 0)) := by rw [← hW]; exact heap_alloc_new _ _
    rw [cell_of_row _ _ _ _ _ _ this]; rfl
  have j0 : W.cell? ⟨w.heap.size, 0, none⟩ = some (.int .i64 id) := by
    have : W.heap[w.heap.size]? = some (.cells #[.int .i64 id, .int .i64 cost] 42 (0, 0)) := by rw [← hW]; exact heap_alloc_new _ _
    rw [cell_of_row _ _ _ _ _ _ this]; rfl
  have hS : RS W T base lv m clk srv busy := h.at' fun q hq => hB.block q (h.lt q hq).2
  have HF : Hid (Calls Try.prog 59 #[.pointer (some ⟨T, 0, none⟩), .string (tx nm)] W fun e w' => e = .returned (.int .i64 (k : Int)) ∧ w' = W) := by
    have := rfind_any nm W hS (by omega)
    unfold ixI at this
    rw [hx] at this
    exact this
  obtain ⟨g, cap, hv, hcap, e0, e1, e2, e3, hf⟩ := rs_row hS hr
  have hkl := (List.getElem?_eq_some_iff.1 hr).1
  obtain ⟨n, hn⟩ : ∃ n, m.length = n := ⟨_, rfl⟩
  have HN : Hid (m.length = n) := hn
  have t0 := hS.cells.1
  have t1 := hS.cells.2.1
  subst hv
  have HS : Hid (RS w T base (.slice (some ⟨g, 0, none⟩) m.length cap) m clk srv busy) := h
  have HR : Hid (m[k]? = some r) := hr
  have HB : Hid (Below w.heap.size w W) := hB
  rw [hn] at t0 hcap ⊢
  have hcap' : (n : Int) ≤ (cap : Int) := by omega
  have hk' : (k : Int) < (n : Int) := by omega
  have hn16 : (n : Int) ≤ 16 := by omega
  have x1 : ¬ cost < 1 := by omega
  have x2 : ¬ 1000 < cost := by omega
  obtain ⟨nw, hnw'⟩ : ∃ nw, r.t.ws.length = nw := ⟨_, rfl⟩
  have HNW : Hid (r.t.ws.length = nw) := hnw'
  rw [hnw'] at hnw e3
  have x3 : (nw : Int) ≤ 15 := by omega
  have hTl : T < W.heap.size := (hS.lt T (.inl rfl)).2
  have hgl : g < W.heap.size := (hS.lt g (.inr (.inl rfl))).2
  have hJl : w.heap.size < W.heap.size := by omega
  have x4 : ¬ r.t.wt = 0 := by omega
  obtain ⟨D, hD⟩ : ∃ D, cost * 720720 / r.t.wt = D := ⟨_, rfl⟩
  have hdt : Int.tdiv (cost * 720720) r.t.wt = D := by rw [Int.tdiv_eq_ediv_of_nonneg (by omega)]; exact hD
  have hD0 : 0 ≤ D := by rw [← hD]; exact Int.ediv_nonneg (by omega) (by omega)
  have hD1 : D ≤ 720720000 := by rw [← hD]; exact Int.le_trans (Int.ediv_le_self _ (by omega)) (by omega)
  have x5 : (r.t.wt == 0) = false := by simpa using x4
  obtain ⟨i0, hi0, hz0, hz1, hz2⟩ := info_parts info104
  rw [hD]
  clear h hx hr hn hkl hcap hf hS hB hnw' hD hsz
  have HI : Hid (nw ≤ 15) := hnw
  have HVB : Hid (∀ o1 o2 : Obj, Below w.heap.size w ((W.alloc o1).alloc o2) ∧ base ≤ ((W.alloc o1).alloc o2).heap.size) := fun o1 o2 => by
    have hb : Below w.heap.size w ((W.alloc o1).alloc o2) := (HB.out.alloc HB.out.size o1).alloc (by have := HB.out.size; simp; omega) o2
    exact ⟨hb, Nat.le_trans HS.out.bs hb.size⟩
  have HOWN : Hid (∀ V : World, Below w.heap.size w V → V.ownsRow base 104 4 (.slice r.a nw r.c) nw (fl wk4 r.t.ws)) := fun V hb => by
    have h1 := HS.out.que r (List.mem_of_getElem? HR.out)
    unfold Rt.v at h1
    rw [HNW.out] at h1
    refine own_at h1 fun q hq => hb.block q ?_
    refine (HS.out.lt q (.inr (.inr ⟨r, List.mem_of_getElem? HR.out, ?_⟩))).2
    unfold Rt.v
    rw [HNW.out]
    exact hq
  have HRV : Hid (r.v = .slice r.a nw r.c) := by show _ = _; unfold Rt.v; rw [HNW.out]
  -- what is there behind the append
  have HA : Hid (∀ (w4 : World) (gq cq : Nat) (x : Wk) (fin : Int), ((W.alloc (.cells #[.string (tx r.t.nm), .int .i64 r.t.wt, .int .i64 fin, .slice r.a nw r.c] 102)).alloc (.cells #[.int .i64 x.id, .int .i64 x.cost, .int .i64 x.start, .int .i64 x.left] 104)).grownBy w4 (Value.slice r.a nw r.c).ownBlock → ((Value.slice r.a nw r.c).ownBlock = some gq ∨ gq = ((W.alloc (.cells #[.string (tx r.t.nm), .int .i64 r.t.wt, .int .i64 fin, .slice r.a nw r.c] 102)).alloc (.cells #[.int .i64 x.id, .int .i64 x.cost, .int .i64 x.start, .int .i64 x.left] 104)).heap.size) → w4.ownsRow base 104 4 (.slice (some ⟨gq, 0, none⟩) (nw + 1) cq) (nw + 1) (fl wk4 r.t.ws ++ wk4 x) →
      ∃ W5, w4.setCell ⟨W.heap.size, 3, none⟩ (.slice (some ⟨gq, 0, none⟩) (nw + 1) cq) = W5 ∧ w4.cell? ⟨W.heap.size, 3, none⟩ = some (.slice r.a nw r.c) ∧ w4.frozen? ⟨W.heap.size, 3, none⟩ = false ∧
        W5.cell? ⟨T, 0, none⟩ = some (.slice (some ⟨g, 0, none⟩) n cap) ∧ (W5.cell? ⟨W.heap.size, 0, none⟩ = some (.string (tx r.t.nm)) ∧ W5.cell? ⟨W.heap.size, 1, none⟩ = some (.int .i64 r.t.wt) ∧ W5.cell? ⟨W.heap.size, 2, none⟩ = some (.int .i64 fin) ∧ W5.cell? ⟨W.heap.size, 3, none⟩ = some (.slice (some ⟨gq, 0, none⟩) (nw + 1) cq)) ∧
        (W5.cell? ⟨g, k * 4, none⟩ = some (.string (tx r.t.nm)) ∧ W5.cell? ⟨g, k * 4 + 1, none⟩ = some (.int .i64 r.t.wt) ∧ W5.cell? ⟨g, k * 4 + 2, none⟩ = some (.int .i64 r.t.fin) ∧ W5.cell? ⟨g, k * 4 + 3, none⟩ = some (.slice r.a nw r.c) ∧ ∀ i, W5.frozen? ⟨g, i, none⟩ = false) ∧
        ∀ d, RS ((W5.setCells g (k * 4) [.string (tx r.t.nm), .int .i64 r.t.wt, .int .i64 fin, .slice (some ⟨gq, 0, none⟩) (nw + 1) cq]).drewN d) T base (.slice (some ⟨g, 0, none⟩) n cap) (m.set k ⟨{ r.t with fin := fin, ws := r.t.ws ++ [x] }, some ⟨gq, 0, none⟩, cq⟩) clk srv busy ∧ Km base w ((W5.setCells g (k * 4) [.string (tx r.t.nm), .int .i64 r.t.wt, .int .i64 fin, .slice (some ⟨gq, 0, none⟩) (nw + 1) cq]).drewN d)) := by
    intro w4 gq cq x fin hg4 hq4 ho4
    obtain ⟨O1, hO1⟩ : ∃ O1 : Obj, Obj.cells #[.string (tx r.t.nm), .int .i64 r.t.wt, .int .i64 fin, .slice r.a nw r.c] 102 = O1 := ⟨_, rfl⟩
    obtain ⟨O2, hO2⟩ : ∃ O2 : Obj, Obj.cells #[.int .i64 x.id, .int .i64 x.cost, .int .i64 x.start, .int .i64 x.left] 104 = O2 := ⟨_, rfl⟩
    rw [hO1, hO2] at hg4 hq4
    have hVB := (HVB.out O1 O2).1
    have hVs : ((W.alloc O1).alloc O2).heap.size = W.heap.size + 2 := by simp
    have hrm := List.mem_of_getElem? HR.out
    have hown : ∀ q, (Value.slice r.a nw r.c).ownBlock = some q → q < w.heap.size := fun q hq => (HS.out.lt q (.inr (.inr ⟨r, hrm, by rw [HRV.out]; exact hq⟩))).2
    have hWs := HB.out.size
    have hVt : ((W.alloc O1).alloc O2).heap[W.heap.size]? = some (.cells #[.string (tx r.t.nm), .int .i64 r.t.wt, .int .i64 fin, .slice r.a nw r.c] 102 (0, 0)) := by
      rw [Below.heap_alloc _ _ _ (by simp), ← hO1]
      exact heap_alloc_new _ _
    have h4t : w4.heap[W.heap.size]? = some (.cells #[.string (tx r.t.nm), .int .i64 r.t.wt, .int .i64 fin, .slice r.a nw r.c] 102 (0, 0)) := (hg4.block _ (by omega) fun e => by have := hown _ e.symm; omega).trans hVt
    have hgs := hg4.size
    have h4 : ∀ q, q < w.heap.size → r.v.ownBlock ≠ some q → w4.heap[q]? = w.heap[q]? := fun q h1 h2 => (hg4.block q (by omega) fun e => h2 (by rw [HRV.out]; exact e.symm)).trans (hVB.block q h1)
    refine ⟨_, rfl, by rw [cell_of_row _ _ _ _ _ _ h4t]; rfl, by simp [World.frozen?, h4t], ?_⟩
    have h5t := row_set (i := 3) (.slice (some ⟨gq, 0, none⟩) (nw + 1) cq) h4t
    have h5 : ∀ q, q ≠ W.heap.size → (w4.setCell ⟨W.heap.size, 3, none⟩ (.slice (some ⟨gq, 0, none⟩) (nw + 1) cq)).heap[q]? = w4.heap[q]? := fun q hq => Below.heap_setCell _ _ _ _ hq
    have h5w : ∀ q, q < w.heap.size → r.v.ownBlock ≠ some q → (w4.setCell ⟨W.heap.size, 3, none⟩ (.slice (some ⟨gq, 0, none⟩) (nw + 1) cq)).heap[q]? = w.heap[q]? := fun q h1 h2 => (h5 q (by omega)).trans (h4 q h1 h2)
    have hne := HS.out.ne
    have hTw := (HS.out.lt T (.inl rfl)).2
    have hgw := (HS.out.lt g (.inr (.inl rfl))).2
    have h5T := h5w T hTw fun e => (hne.2 r hrm T e).1 rfl
    have h5g := h5w g hgw fun e => (hne.2 r hrm g e).2 rfl
    have hgq : gq ≠ W.heap.size := fun e => by
      obtain ⟨cur, hc⟩ := own_tag ho4 (q := gq) rfl
      exact ne_tag hc h4t (by decide) e
    have hrow5 : (w4.setCell ⟨W.heap.size, 3, none⟩ (.slice (some ⟨gq, 0, none⟩) (nw + 1) cq)).ownsRow base 102 4 (.slice (some ⟨g, 0, none⟩) m.length cap) m.length (fl rt4 m) := own_at HS.out.row fun q hq => by
      have : g = q := by simpa [Value.ownBlock] using hq
      rw [← this]; exact h5g
    have hrt := own_rt hrow5 HR.out
    rw [HNW.out] at hrt
    refine ⟨by rw [cell_of_row _ _ _ _ _ _ (h5T.trans HS.out.box), ← HN.out]; rfl, ⟨by rw [cell_of_row _ _ _ _ _ _ h5t]; rfl, by rw [cell_of_row _ _ _ _ _ _ h5t]; rfl, by rw [cell_of_row _ _ _ _ _ _ h5t]; rfl, by rw [cell_of_row _ _ _ _ _ _ h5t]; rfl⟩, hrt, fun d => ?_⟩
    have hfin := HS.out.turn_of (x := ⟨{ r.t with fin := fin, ws := r.t.ws ++ [x] }, some ⟨gq, 0, none⟩, cq⟩) (w5 := w4.setCell ⟨W.heap.size, 3, none⟩ (.slice (some ⟨gq, 0, none⟩) (nw + 1) cq)) rfl HR.out (by
      unfold Rt.v
      simp only [List.length_append, List.length_cons, List.length_nil, HNW.out]
      rw [fl_app]
      refine own_at ?_ fun q hq => h5 q ?_
      · simpa [fl] using ho4
      · have : gq = q := by simpa [Value.ownBlock] using hq
        rw [← this]; exact hgq) (by
      unfold Rt.v
      intro e
      have e2 : gq = g := by simpa [Value.ownBlock] using e
      obtain ⟨cur, hc⟩ := own_tag ho4 (q := gq) rfl
      obtain ⟨cur', hc'⟩ := own_tag hrow5 (q := g) rfl
      rw [h5 g (by omega)] at hc'
      exact ne_tag hc hc' (by decide) e2) h5w ⟨hg4.os.trans hVB.os, hg4.tape.trans hVB.tape, hg4.output.trans hVB.output, by have := hVB.size; show w.heap.size ≤ (w4.setCell ⟨W.heap.size, 3, none⟩ (.slice (some ⟨gq, 0, none⟩) (nw + 1) cq)).heap.size; simp; omega⟩ (by
      rcases hq4 with e | e
      · refine .inl fun q hq => ?_
        have e2 : gq = q := by simpa [Rt.v, Value.ownBlock] using hq
        rw [HRV.out, e, e2]
      · refine .inr fun q hq => ?_
        have e2 : gq = q := by simpa [Rt.v, Value.ownBlock] using hq
        omega)
    have e4 : rt4 ⟨{ r.t with fin := fin, ws := r.t.ws ++ [x] }, some ⟨gq, 0, none⟩, cq⟩ = [.string (tx r.t.nm), .int .i64 r.t.wt, .int .i64 fin, .slice (some ⟨gq, 0, none⟩) (nw + 1) cq] := by
      unfold rt4
      simp [HNW.out]
    rw [e4, HN.out] at hfin
    exact ⟨hfin.1.at' fun _ _ => rfl, hfin.2.drewN d⟩
  go_enter Try.func33, Try.ntmps33
  by_cases hcf : r.t.fin < clk
  · skip
    rw [show begins clk r.t.fin = clk by unfold begins; rw [if_pos hcf]]
    go_upto_region 14 with (first
      | (go_at_call 59; refine HF.out.mono ?_; rintro e w1 ⟨rfl, hw1⟩; rw [hw1]; clear hw1)
      | (at_builtin; (refine wpList_append_lies _ rfl (.tmp 56) (.tmp 62) 100 rfl base 104 i0 _ 4 32 Try.underlying100 hi0 hz0 hz1 hz2 rfl (by decide) (.slice r.a nw r.c) nw (fl wk4 r.t.ws) rfl (HOWN.out _ (HVB.out _ _).1) ⟨_, 0, none⟩ 1 1 (wk4 ⟨id, cost, clk, cost⟩) rfl rfl (cell_new5 (l := wk4 ⟨id, cost, clk, cost⟩) (by simp)) (wk4_one _) (by decide) (by have := HI.out; unfold maxLen; omega) (by have := HI.out; omega) (HVB.out _ _).2 _ rfl ?_; intro gq cq w4 ho4 hg4 hq4 hl4; (obtain ⟨W5, hW5, y3, yf, yT, ⟨z0, z1, z2, z3⟩, ⟨v0, v1, v2, v3, vf⟩, hX⟩ := HA.out w4 gq cq ⟨id, cost, clk, cost⟩ (clk + D) hg4 hq4 ho4); (have HX : Hid (∀ d, RS ((W5.setCells g (k * 4) [.string (tx r.t.nm), .int .i64 r.t.wt, .int .i64 (clk + D), .slice (some ⟨gq, 0, none⟩) (nw + 1) cq]).drewN d) T base (.slice (some ⟨g, 0, none⟩) n cap) (m.set k ⟨{ r.t with fin := clk + D, ws := r.t.ws ++ [⟨id, cost, clk, cost⟩] }, some ⟨gq, 0, none⟩, cq⟩) clk srv busy ∧ Km base w ((W5.setCells g (k * 4) [.string (tx r.t.nm), .int .i64 r.t.wt, .int .i64 (clk + D), .slice (some ⟨gq, 0, none⟩) (nw + 1) cq]).drewN d)) := hX); clear ho4 hg4 hq4 hl4 hX)))
    have u0 := vf (k * 4)
    have u1 := vf (k * 4 + 1)
    have u2 := vf (k * 4 + 2)
    have u3 := vf (k * 4 + 3)
    clear vf HA HVB HOWN HF y3 yf hW5 j0 j1 t0 t1 e0 e1 e2 e3
    try clear hW
    go_region
    all_goals
      go_wp2_with fail
      go_ret
      exact ⟨rfl, _, (HX.out 1).1, rfl, (HX.out 1).2⟩
  · skip
    rw [show begins clk r.t.fin = r.t.fin by unfold begins; rw [if_neg hcf]]
    go_upto_region 14 with (first
      | (go_at_call 59; refine HF.out.mono ?_; rintro e w1 ⟨rfl, hw1⟩; rw [hw1]; clear hw1)
      | (at_builtin; (refine wpList_append_lies _ rfl (.tmp 56) (.tmp 62) 100 rfl base 104 i0 _ 4 32 Try.underlying100 hi0 hz0 hz1 hz2 rfl (by decide) (.slice r.a nw r.c) nw (fl wk4 r.t.ws) rfl (HOWN.out _ (HVB.out _ _).1) ⟨_, 0, none⟩ 1 1 (wk4 ⟨id, cost, r.t.fin, cost⟩) rfl rfl (cell_new5 (l := wk4 ⟨id, cost, r.t.fin, cost⟩) (by simp)) (wk4_one _) (by decide) (by have := HI.out; unfold maxLen; omega) (by have := HI.out; omega) (HVB.out _ _).2 _ rfl ?_; intro gq cq w4 ho4 hg4 hq4 hl4; (obtain ⟨W5, hW5, y3, yf, yT, ⟨z0, z1, z2, z3⟩, ⟨v0, v1, v2, v3, vf⟩, hX⟩ := HA.out w4 gq cq ⟨id, cost, r.t.fin, cost⟩ (r.t.fin + D) hg4 hq4 ho4); (have HX : Hid (∀ d, RS ((W5.setCells g (k * 4) [.string (tx r.t.nm), .int .i64 r.t.wt, .int .i64 (r.t.fin + D), .slice (some ⟨gq, 0, none⟩) (nw + 1) cq]).drewN d) T base (.slice (some ⟨g, 0, none⟩) n cap) (m.set k ⟨{ r.t with fin := r.t.fin + D, ws := r.t.ws ++ [⟨id, cost, r.t.fin, cost⟩] }, some ⟨gq, 0, none⟩, cq⟩) clk srv busy ∧ Km base w ((W5.setCells g (k * 4) [.string (tx r.t.nm), .int .i64 r.t.wt, .int .i64 (r.t.fin + D), .slice (some ⟨gq, 0, none⟩) (nw + 1) cq]).drewN d)) := hX); clear ho4 hg4 hq4 hl4 hX)))
    have u0 := vf (k * 4)
    have u1 := vf (k * 4 + 1)
    have u2 := vf (k * 4 + 2)
    have u3 := vf (k * 4 + 3)
    clear vf HA HVB HOWN HF y3 yf hW5 j0 j1 t0 t1 e0 e1 e2 e3
    try clear hW
    go_region
    all_goals
      go_wp2_with fail
      go_ret
      exact ⟨rfl, _, (HX.out 1).1, rfl, (HX.out 1).2⟩
end Go.Proofs.Ytfndbllpnkhlhaa
