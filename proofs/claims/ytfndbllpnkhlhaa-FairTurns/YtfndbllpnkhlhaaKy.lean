/- Step, whole; all that is asked of the scheduler. -/
import Derived.Test.YtfndbllpnkhlhaaKx
namespace Go.Proofs.Ytfndbllpnkhlhaa
open Go.RowKit Go.Shelf
set_option linter.unusedVariables false
set_option linter.unusedSimpArgs false

theorem rw_look {m : List Rw} {k : Nat} {r : Rw} (hu : Up (nms m)) (hk : m[k]? = some r) : lookT (tns m) r.t.nm = some (k, r.t) := by
  have hx : ixT (tns m) r.t.nm = some k := ixT_hit _ _ k r.t (fun j q hj hq e => by
    unfold tns at hq
    rw [List.getElem?_map] at hq
    cases hy : m[j]? with
    | none => rw [hy] at hq; cases hq
    | some y =>
      rw [hy] at hq
      have e2 : y.t = q := by simpa using hq
      have g1 := List.getElem?_eq_some_iff.1 (nms_at hy)
      have g2 := List.getElem?_eq_some_iff.1 (nms_at hk)
      have h1 := List.pairwise_iff_getElem.1 hu j k g1.1 g2.1 hj
      rw [g1.2, g2.2] at h1
      rw [e2, e] at h1
      exact lb_irrefl _ h1) (tns_at hk) rfl
  unfold lookT
  rw [hx]
  simp [tns_at hk]
set_option maxRecDepth 100000 in
set_option maxHeartbeats 4000000 in
/-- Nobody waits. -/
theorem step_none {T : Nat} {F : Nat → Prop} {s : Sc} {lv : Value} {m : List Rw} {w : World} (h : SR w T lv m s.clk (.pointer none) 0) (h2 : tns m = s.ts) (h4 : ∀ q, F q ↔ foot T lv m q) (h3 : Srv s m (.pointer none) 0)
    (hC : ∀ W1, Below w.heap.size w W1 → Calls Try.prog 43 #[.pointer (some ⟨T, 0, none⟩)] W1 fun e w1 => e = .returned (.bool false) ∧ Ot W1 w1 T ∧ w1.heap[T]? = some (boxO lv s.clk (.pointer none) 0)) :
    Calls Try.prog 22 #[.pointer (some ⟨T, 0, none⟩)] w fun e w' => e = .returned (ansV noAns) ∧ ∃ F', PF w' T F' s ∧ Fr F F' w w' := by
  have hTl := h.ltT
  have HC : Hid (Calls Try.prog 43 #[.pointer (some ⟨T, 0, none⟩)] (w.alloc (.cells #[.int .i64 0, .int .i64 0] 42)) fun e w1 => e = .returned (.bool false) ∧ (w1.cell? ⟨w.heap.size, 0, none⟩ = some (.int .i64 0) ∧ w1.cell? ⟨w.heap.size, 1, none⟩ = some (.int .i64 0) ∧ w1.frozen? ⟨w.heap.size, 0, none⟩ = false ∧ w1.frozen? ⟨w.heap.size, 1, none⟩ = false) ∧ w1.heap[w.heap.size]? = some (.cells #[.int .i64 0, .int .i64 0] 42 (0, 0)) ∧ ∃ F', PF (((w1.setCell ⟨w.heap.size, 0, none⟩ (.int .i64 0)).setCell ⟨w.heap.size, 1, none⟩ (.int .i64 0)).drew.drew) T F' s ∧ Fr F F' w (((w1.setCell ⟨w.heap.size, 0, none⟩ (.int .i64 0)).setCell ⟨w.heap.size, 1, none⟩ (.int .i64 0)).drew.drew)) := by
    refine (hC _ (bel1' w _)).mono fun e w1 ⟨g1, g2, g3⟩ => ?_
    have k2 := (g2.oth w.heap.size (by simp) (by omega)).trans (heap_alloc_new w (.cells #[.int .i64 0, .int .i64 0] 42))
    have o := (Ot.of (T := T) (bel1' w (.cells #[.int .i64 0, .int .i64 0] 42))).trans g2
    have hS := h.ot o g3
    refine ⟨g1, ⟨by rw [cell_of_row _ _ _ _ _ _ k2]; rfl, by rw [cell_of_row _ _ _ _ _ _ k2]; rfl, by simp [World.frozen?, k2], by simp [World.frozen?, k2]⟩, k2, ?_⟩
    have hF : ∀ q, F q → q < w.heap.size := fun q hq => h.lt q ((h4 q).1 hq)
    have ha : Aft w1 w1 T T F [] s ∨ True := .inr trivial
    have hx : ∀ q, q ≠ w.heap.size → (((w1.setCell ⟨w.heap.size, 0, none⟩ (.int .i64 0)).setCell ⟨w.heap.size, 1, none⟩ (.int .i64 0)).drew.drew).heap[q]? = w1.heap[q]? := fun q hq => (Below.heap_setCell _ _ _ _ hq).trans (Below.heap_setCell _ _ _ _ hq)
    have hp : PF w1 T F s := ⟨lv, m, .pointer none, 0, hS, h2, h3, h4⟩
    refine ⟨F, hp.at' fun q hq => hx q (by have := hF q hq; omega), ⟨o.os, o.tape, o.output, ?_, fun q hq hn => ?_, fun q hq => .inl hq⟩⟩
    · show w.heap.size ≤ ((w1.setCell ⟨w.heap.size, 0, none⟩ (.int .i64 0)).setCell ⟨w.heap.size, 1, none⟩ (.int .i64 0)).heap.size
      have := o.size
      simp
      omega
    · rw [hx q (by omega)]
      exact o.oth q hq fun e => hn (e ▸ (h4 T).2 (.inl rfl))
  clear hC h h2 h3 h4
  go_enter Try.func22, Try.ntmps22
  go_wp2_with fail
  refine HC.out.mono ?_
  rintro e w1 ⟨rfl, ⟨c0, c1, c2, c3⟩, hg, hE⟩
  have HE : Hid (w1.heap[w.heap.size]? = some (.cells #[.int .i64 0, .int .i64 0] 42 (0, 0)) ∧ ∃ F', PF (((w1.setCell ⟨w.heap.size, 0, none⟩ (.int .i64 0)).setCell ⟨w.heap.size, 1, none⟩ (.int .i64 0)).drew.drew) T F' s ∧ Fr F F' w (((w1.setCell ⟨w.heap.size, 0, none⟩ (.int .i64 0)).setCell ⟨w.heap.size, 1, none⟩ (.int .i64 0)).drew.drew)) := ⟨hg, hE⟩
  clear hE hg
  go_wp2_with fail
  refine bodyPost_ret (results_four Try.results22 _ _ w.heap.size #[.int .i64 0, .int .i64 0] _ _ _ rfl rfl rfl rfl (load42 (row2_set HE.out.1) rfl)) rfl ?_
  obtain ⟨F', k1, k2⟩ := HE.out.2
  exact ⟨rfl, F', k1.at' (fun _ _ => rfl), ⟨k2.os, k2.tape, k2.output, k2.size, k2.block, k2.grow⟩⟩
theorem step_any (N : Int) (T : Nat) (F : Nat → Prop) (s : Sc) (w : World) (h : PF w T F s) (hs : Sok N s) (hN : N ≤ 100000) :
    Calls Try.prog 22 #[.pointer (some ⟨T, 0, none⟩)] w fun e w' => e = .returned (ansV (stepS s).1) ∧ ∃ F', PF w' T F' (stepS s).2 ∧ Fr F F' w w' := by
  obtain ⟨lv, m, srv, had, h1, h2, h3, h4⟩ := h
  obtain ⟨k1, k2⟩ := pf_ok (w := w) (T := T) (F := F) (lv := lv) (srv := srv) (had := had) h2 hs
  cases hb : s.busy with
  | true =>
    obtain ⟨k, r, x, l, g1, g2, g3, g4, g5, g6, g7⟩ := h3.busy hb
    have hlk := rw_look h1.up g1
    rw [g3, h2] at hlk
    have e : stepS s = serveS s k r.t x l := by
      unfold stepS
      rw [hb, if_pos rfl, hlk]
      simp only [g4]
    rw [e]
    refine step_go h1 h2 h4 hs hN g1 g4 g3 g6 g7 g5 fun W1 hW => ?_
    have hS := h1.at' (w' := W1) fun q hq => hW.block q (h1.lt q hq)
    rw [g2] at hS
    exact (choose_busy T r.p 1 lv m s.clk had W1 hS).mono fun e w1 ⟨c1, c2⟩ => ⟨c1, Ot.of c2, (c2.block T hS.ltT).trans hS.box⟩
  | false =>
    obtain ⟨g1, g2, g3⟩ := h3.idle hb
    subst g1
    subst g2
    have hch := fun (W1 : World) (hW : Below w.heap.size w W1) => choose_any T lv m s.clk 0 W1 (h1.at' (w' := W1) fun q hq => hW.block q (h1.lt q hq)) k1 k2
    have hcr := cho_all m s.clk
    rw [h2] at hcr
    rcases hcr with ⟨c1, c2⟩ | ⟨r, k, x, l, c1, c2, c3, c4⟩
    · have e : stepS s = (noAns, s) := by
        unfold stepS
        rw [hb, c2]
        rfl
      rw [e]
      rw [c1] at hch
      refine step_none h1 h2 h4 h3 fun W1 hW => ?_
      have hS := h1.at' (w' := W1) fun q hq => hW.block q (h1.lt q hq)
      exact (hch W1 hW).mono fun e w1 ⟨d1, d2⟩ => ⟨d1, d2.ot hS, d2.box⟩
    · have hts : s.ts[k]? = some r.t := by rw [← h2]; exact tns_at c3
      have e : stepS s = serveS { s with clk := x.start, srv := r.t.nm } k r.t x l := by
        unfold stepS
        rw [hb, c2]
        simp only [Bool.false_eq_true, if_false, hts, c4]
      have hx := (hs.all r.t (List.mem_of_getElem? hts)).all x (by rw [c4]; simp)
      have hs1 : Sok N { s with clk := x.start, srv := r.t.nm } := ⟨hx.s0, hx.s1, hs.n, hs.all⟩
      rw [e]
      rw [c1] at hch
      refine step_go (s := { s with clk := x.start, srv := r.t.nm }) (had := 0) h1 h2 h4 hs1 hN c3 c4 rfl (fun y hy => g3 r (List.mem_of_getElem? c3) y (by rw [c4]; simp [hy])) (fun j r' hj hr' x hx => g3 r' (List.mem_of_getElem? hr') x hx) ?_ fun W1 hW => ?_
      · have := g3 r (List.mem_of_getElem? c3) x (by rw [c4]; simp)
        omega
      · have hS := h1.at' (w' := W1) fun q hq => hW.block q (h1.lt q hq)
        exact (hch W1 hW).mono fun e w1 ⟨d1, d2⟩ => ⟨d1, d2.ot hS, d2.box⟩
/-- The program's scheduler is what is asked. -/
theorem prgS : PrgS PF where
  at' := PF.at'
  lt := PF.lt
  new := new_any
  set := fun N T F s nm wt w h hs hN => set_any N T F s nm wt w h hs hN
  push := fun N T F s nm id cost w h hs hN => push_any N T F s nm id cost w h hs hN
  step := fun N T F s w h hs hN => step_any N T F s w h hs hN
end Go.Proofs.Ytfndbllpnkhlhaa
