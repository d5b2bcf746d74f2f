/- Step: what becomes of the scheduler, against the plain one. -/
import Derived.Test.YtfndbllpnkhlhaaKv
namespace Go.Proofs.Ytfndbllpnkhlhaa
open Go.RowKit Go.Shelf
set_option linter.unusedVariables false
set_option linter.unusedSimpArgs false

theorem Fr.trans {F F' F'' : Nat → Prop} {a b c : World} (h : Fr F F' a b) (k : Fr F' F'' b c) : Fr F F'' a c :=
  ⟨k.os.trans h.os, k.tape.trans h.tape, k.output.trans h.output, Nat.le_trans h.size k.size, fun q hq hn => (k.block q (Nat.lt_of_lt_of_le hq h.size) fun hf => by rcases h.grow q hf with g | g; exact hn g; omega).trans (h.block q hq hn), fun q hq => by
    rcases k.grow q hq with g | g
    · exact h.grow q g
    · exact .inr (Nat.le_trans h.size g)⟩
/-- All but one block lies as it lay. -/
structure Ot (w w' : World) (T : Nat) : Prop where
  os : w'.os = w.os
  tape : w'.tape = w.tape
  output : w'.output = w.output
  size : w.heap.size ≤ w'.heap.size
  oth : ∀ q, q < w.heap.size → q ≠ T → w'.heap[q]? = w.heap[q]?
theorem Ot.trans {a b c : World} {T : Nat} (h : Ot a b T) (k : Ot b c T) : Ot a c T :=
  ⟨k.os.trans h.os, k.tape.trans h.tape, k.output.trans h.output, Nat.le_trans h.size k.size, fun q hq hn => (k.oth q (Nat.lt_of_lt_of_le hq h.size) hn).trans (h.oth q hq hn)⟩
theorem Ot.of {a b : World} {T : Nat} (h : Below a.heap.size a b) : Ot a b T := ⟨h.os, h.tape, h.output, h.size, fun q hq _ => h.block q hq⟩
theorem Ot.set (a : World) (T i : Nat) (v : Value) : Ot a (a.setCell ⟨T, i, none⟩ v) T := ⟨rfl, rfl, rfl, by simp, fun q hq hn => Below.heap_setCell _ _ _ _ hn⟩
theorem Tur.ot {w W : World} {T : Nat} {lv srv : Value} {m : List Rw} {clk had : Int} {bx : Obj} (h : SR w T lv m clk srv had) (t : Tur w W T m bx fun r => r.t) : Ot w W T :=
  ⟨t.os, t.tape, t.output, t.size, fun q hq hn => by
    by_cases e : ∃ r ∈ m, q = r.p
    · obtain ⟨r, hr, rfl⟩ := e
      rw [t.rows r hr, h.each r hr]
    · exact t.oth q hq hn fun r hr e2 => e ⟨r, hr, e2⟩⟩
/-- The scheduler in a world in which its own cells alone have turned. -/
theorem SR.ot {w W : World} {T : Nat} {lv srv srv' : Value} {m : List Rw} {clk had clk' had' : Int} (h : SR w T lv m clk srv had) (o : Ot w W T) (hb : W.heap[T]? = some (boxO lv clk' srv' had')) : SR W T lv m clk' srv' had' := by
  have := h.rows id (fun r => ⟨rfl, rfl, rfl, rfl, rfl⟩) hb (fun r hr => (o.oth r.p (h.ltp r hr) (h.neT r hr)).trans (h.each r hr)) (fun q hq hn _ => o.oth q hq hn)
  rwa [List.map_id] at this
theorem qb_left {w : World} {Q : Nat} {sv : Value} {x : Wk} {l : List Wk} (n : Int) (h : QB w Q sv (x :: l)) : QB w Q sv ({ x with left := n } :: l) := by
  refine ⟨h.box, ?_⟩
  rcases h.items with ⟨_, hn⟩ | ⟨g, o, cap, cur, hv, hb, hg, h1, h2, h3, h4⟩
  · cases hn
  · exact .inr ⟨g, o, cap, cur, hv, hb, hg, h1, h2, h3, h4⟩
theorem set_tns {m : List Rw} {k : Nat} {r' : Rw} {ts : List Tn} (h : tns m = ts) : tns (m.set k r') = ts.set k r'.t := by
  rw [← h]
  unfold tns
  rw [List.map_set]
/-- A unit was served, and the job is not done. -/
theorem half_of {w W : World} {T k : Nat} {F : Nat → Prop} {lv srv : Value} {m : List Rw} {clk had had' : Int} {s : Sc} {r : Rw} {x : Wk} {l : List Wk} (h : SR w T lv m clk srv had) (h2 : tns m = s.ts) (h4 : ∀ q, F q ↔ foot T lv m q) (hk : m[k]? = some r) (hws : r.t.ws = x :: l) (hn : r.t.nm = s.srv) (hl : ∀ y ∈ l, y.left = y.cost) (ho : ∀ (j : Nat) (r' : Rw), j ≠ k → m[j]? = some r' → ∀ x ∈ r'.t.ws, x.left = x.cost)
    (o : Ot w W T) (hb : W.heap[T]? = some (boxO lv s.clk (.pointer (some ⟨r.p, 1, none⟩)) had')) (hh : had' = x.cost - x.left + 1) : ∃ F', PF W T F' { s with ts := s.ts.set k { r.t with ws := { x with left := x.left - 1 } :: l }, busy := true } ∧ Fr F F' w W := by
  have hrm := List.mem_of_getElem? hk
  have hil := (List.getElem?_eq_some_iff.1 hk).1
  have hS := h.ot o hb
  refine PF.set (r' := ⟨r.p, r.Q, r.sv, { r.t with ws := { x with left := x.left - 1 } :: l }⟩) (srv' := .pointer (some ⟨r.p, 1, none⟩)) (had' := had') h h4 hk rfl rfl (hS.each r hrm) ?_ hb (fun q hq hn _ _ _ => o.oth q hq hn) (.inl rfl) (.inl rfl) o.os o.tape o.output o.size (set_tns h2) ?_
  · have := hS.que r hrm
    rw [hws] at this
    exact qb_left _ this
  · refine ⟨fun e => (nomatch e), fun _ => ⟨k, _, { x with left := x.left - 1 }, l, List.getElem?_set_self hil, rfl, hn, rfl, ?_, hl, fun j y' hj hy' z hz => ?_⟩⟩
    · show had' = x.cost - (x.left - 1)
      omega
    · rw [List.getElem?_set_ne (fun e => hj e.symm)] at hy'
      exact ho j y' hj hy' z hz
/-- The job is done. -/
theorem done_of {w W : World} {T k : Nat} {F : Nat → Prop} {lv srv sv' : Value} {m : List Rw} {clk had : Int} {s : Sc} {r : Rw} {x : Wk} {l : List Wk} (h : SR w T lv m clk srv had) (h2 : tns m = s.ts) (h4 : ∀ q, F q ↔ foot T lv m q) (hk : m[k]? = some r) (hl : ∀ y ∈ l, y.left = y.cost) (ho : ∀ (j : Nat) (r' : Rw), j ≠ k → m[j]? = some r' → ∀ x ∈ r'.t.ws, x.left = x.cost)
    (hc : clk = s.clk) (hq : Qch w W r.Q r.sv sv' l) : ∃ F', PF ((W.setCell ⟨T, 2, none⟩ (.pointer none)).setCell ⟨T, 3, none⟩ (.int .i64 0)) T F' { s with ts := s.ts.set k { r.t with ws := l }, busy := false } ∧ Fr F F' w ((W.setCell ⟨T, 2, none⟩ (.pointer none)).setCell ⟨T, 3, none⟩ (.int .i64 0)) := by
  have hrm := List.mem_of_getElem? hk
  have hil := (List.getElem?_eq_some_iff.1 hk).1
  have tg := h.tagT hrm
  have hpl := h.ltp r hrm
  have hTl := h.ltT
  have o2 := (Ot.set W T 2 (.pointer none)).trans (Ot.set _ T 3 (.int .i64 0))
  have hb : W.heap[T]? = some (boxO lv clk srv had) := (hq.block T hTl (fun e => tg.2.1 e.symm) tg.2.2.2.1).trans h.box
  have hb2 := boxO_had (boxO_srv hb (.pointer none)) 0
  have hWs := hq.size
  subst hc
  refine PF.set (r' := ⟨r.p, r.Q, sv', { r.t with ws := l }⟩) (srv' := .pointer none) (had' := 0) h h4 hk rfl rfl ?_ ?_ hb2 ?_ (.inl rfl) ?_ (o2.os.trans hq.os) (o2.tape.trans hq.tape) (o2.output.trans hq.output) (Nat.le_trans hWs o2.size) (set_tns h2) ?_
  · exact ((o2.oth r.p (by omega) tg.1).trans (hq.block r.p hpl tg.2.2.1 tg.2.2.2.2.1)).trans (h.each r hrm)
  · refine hq.qb.at' fun q hqq => o2.oth q (hq.qb.lt q hqq) fun e => ?_
    rcases hqq with e2 | hqq
    · exact tg.2.1 (e2.symm.trans e)
    · obtain ⟨cur, hc⟩ := tl_tag hq.qb.items hqq
      rw [e, hb] at hc
      unfold boxO at hc
      cases hc
  · exact fun q k1 k2 k3 k4 k5 => (o2.oth q (by omega) k2).trans (hq.block q k1 k4 k5)
  · rcases hq.own with e | ⟨q', e, hle⟩
    · exact .inl e
    · refine .inr fun q hqq => ?_
      simp only at hqq
      rw [e] at hqq
      have := Option.some.inj hqq
      omega
  · refine ⟨fun _ => ⟨rfl, rfl, fun y hy z hz => ?_⟩, fun e => (nomatch e)⟩
    rcases mem_set hy with ⟨rfl, _⟩ | ⟨j, hj, hy⟩
    · exact hl z hz
    · exact ho j y hj hy z hz
theorem pf_ok {N : Int} {w : World} {T : Nat} {F : Nat → Prop} {s : Sc} {lv srv : Value} {m : List Rw} {had : Int} (h2 : tns m = s.ts) (hs : Sok N s) : m.length ≤ 16 ∧ ∀ r ∈ m, r.t.ws.length ≤ 16 := by
  have hl := hs.n
  rw [← h2] at hl
  refine ⟨by simpa [tns] using hl, fun r hr => (hs.all r.t (by rw [← h2]; exact List.mem_map.2 ⟨r, hr, rfl⟩)).n⟩
theorem left_PF {N : Int} {w : World} {T : Nat} {F : Nat → Prop} {s : Sc} (h : PF w T F s) (hs : Sok N s) : Calls Try.prog 46 #[.pointer (some ⟨T, 0, none⟩)] w fun e w' => e = .returned (.int .i64 (leftS s.ts : Int)) ∧ Below w.heap.size w w' := by
  obtain ⟨lv, m, srv, had, h1, h2, h3, h4⟩ := h
  obtain ⟨k1, k2⟩ := pf_ok (w := w) (T := T) (F := F) (lv := lv) (srv := srv) (had := had) h2 hs
  refine (left_any T lv srv m s.clk had w h1 k1 k2).mono fun e w' ⟨g1, g2⟩ => ⟨?_, g2⟩
  rw [g1, left_sum, h2]
theorem rest_PF {N : Int} {w : World} {T : Nat} {F : Nat → Prop} {s : Sc} (h : PF w T F s) (hs : Sok N s) (hb : s.busy = false) : Calls Try.prog 47 #[.pointer (some ⟨T, 0, none⟩)] w fun e w' => (∃ v, e = .returned v) ∧ (∃ F', PF w' T F' (restS s) ∧ Fr F F' w w') ∧ ∀ p, p < w.heap.size → p ≠ T → w'.cell? ⟨p, 1, none⟩ = w.cell? ⟨p, 1, none⟩ := by
  obtain ⟨lv, m, srv, had, h1, h2, h3, h4⟩ := h
  obtain ⟨k1, k2⟩ := pf_ok (w := w) (T := T) (F := F) (lv := lv) (srv := srv) (had := had) h2 hs
  refine (rest_any T lv srv m s.clk had w h1 k1).mono fun e w' ⟨g1, g2⟩ => ⟨g1, ?_, fun p hp hn => ?_⟩
  · have hS := g2.sr h1 zr (fun r => ⟨rfl, rfl, rfl, rfl, rfl⟩) (fun r _ => rfl)
    have hft : ∀ q, foot T lv (m.map zr) q ↔ foot T lv m q := fun q => by
      unfold foot
      refine or_congr Iff.rfl (or_congr Iff.rfl ⟨?_, ?_⟩)
      · rintro ⟨r, hr, hq⟩
        obtain ⟨y, hy, rfl⟩ := List.mem_map.1 hr
        exact ⟨y, hy, hq⟩
      · rintro ⟨r, hr, hq⟩
        exact ⟨zr r, List.mem_map.2 ⟨r, hr, rfl⟩, hq⟩
    refine ⟨foot T lv (m.map zr), ⟨lv, m.map zr, .pointer none, 0, hS, ?_, ?_, fun q => Iff.rfl⟩, ⟨g2.os, g2.tape, g2.output, g2.size, fun q hq hn => ?_, fun q hq => ?_⟩⟩
    · show tns (m.map zr) = s.ts.map fun t => { t with fin := 0 }
      rw [← h2]
      unfold tns
      rw [List.map_map, List.map_map]
      rfl
    · refine ⟨fun _ => ⟨rfl, rfl, fun r hr z hz => ?_⟩, fun e => ?_⟩
      · obtain ⟨y, hy, rfl⟩ := List.mem_map.1 hr
        exact (h3.idle hb).2.2 y hy z hz
      · have : s.busy = true := e
        rw [hb] at this
        cases this
    · rw [h4 q] at hn
      exact g2.oth q hq (fun e => hn (.inl e)) fun r hr e => hn (.inr (.inr ⟨r, hr, .inl e⟩))
    · rw [h4 q]
      exact .inl ((hft q).1 hq)
  · by_cases e : ∃ r ∈ m, p = r.p
    · obtain ⟨r, hr, rfl⟩ := e
      rw [(rowO_cells (g2.rows r hr)).2.1, (rowO_cells (h1.each r hr)).2.1]
      rfl
    · exact World.cell?_of_block (g2.oth p hp hn fun r hr e2 => e ⟨r, hr, e2⟩)
end Go.Proofs.Ytfndbllpnkhlhaa
