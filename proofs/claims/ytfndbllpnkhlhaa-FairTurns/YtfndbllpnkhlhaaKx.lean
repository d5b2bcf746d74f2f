/- Step. -/
import Derived.Test.YtfndbllpnkhlhaaKw
namespace Go.Proofs.Ytfndbllpnkhlhaa
open Go.RowKit Go.Shelf
set_option linter.unusedVariables false
set_option linter.unusedSimpArgs false

/-- Behind a time V: the scheduler says so, and what the call holds lies as it lay. -/
structure Aft (V W : World) (T p : Nat) (F : Nat → Prop) (nm : List UInt8) (s : Sc) : Prop where
  pf : ∃ F', PF W T F' s ∧ Fr F F' V W
  nam : W.cell? ⟨p, 1, none⟩ = some (.string (tx nm))
theorem Aft.bel {V W W' : World} {T p : Nat} {F : Nat → Prop} {nm : List UInt8} {s : Sc} (h : Aft V W T p F nm s) (hb : Below W.heap.size W W') (hp : p < W.heap.size) : Aft V W' T p F nm s := by
  obtain ⟨⟨F', h1, h2⟩, h3⟩ := h
  obtain ⟨F'', k1, k2⟩ := h1.newer hb
  exact ⟨⟨F'', k1, h2.trans k2⟩, (World.cell?_of_block (hb.block p hp)).trans h3⟩
/-- A block that is not the scheduler's lies as it lay. -/
theorem Aft.oth {V W : World} {T p q : Nat} {F : Nat → Prop} {nm : List UInt8} {s : Sc} (h : Aft V W T p F nm s) (hq : q < V.heap.size) (hn : ¬ F q) : W.heap[q]? = V.heap[q]? := by
  obtain ⟨⟨F', h1, h2⟩, h3⟩ := h
  exact h2.block q hq hn
theorem row2_set {W : World} {g : Nat} {a b c d : Value} {t : TypeId} (h : W.heap[g]? = some (.cells #[a, b] t (0, 0))) : ((W.setCell ⟨g, 0, none⟩ c).setCell ⟨g, 1, none⟩ d).heap[g]? = some (.cells #[c, d] t (0, 0)) := by
  have h1 : (W.setCell ⟨g, 0, none⟩ c).heap[g]? = some (.cells #[c, d] t (0, 0)) ∨ (W.setCell ⟨g, 0, none⟩ c).heap[g]? = some (.cells #[c, b] t (0, 0)) := .inr (by rw [row_set _ h]; rfl)
  rcases h1 with h1 | h1
  · rw [row_set _ h1]; rfl
  · rw [row_set _ h1]; rfl
/-- The answer's own block is filled. -/
theorem Aft.fill {w V W : World} {T p g : Nat} {F : Nat → Prop} {nm : List UInt8} {s : Sc} {c d : Value} (h : Aft V W T p F nm s) (o : Ot w V T) (hF : ∀ q, F q → q < w.heap.size) (hT : F T) (hg : w.heap.size ≤ g) (hgV : g < V.heap.size) : ∃ F', PF (((W.setCell ⟨g, 0, none⟩ c).setCell ⟨g, 1, none⟩ d).drew.drew) T F' s ∧ Fr F F' w (((W.setCell ⟨g, 0, none⟩ c).setCell ⟨g, 1, none⟩ d).drew.drew) := by
  obtain ⟨⟨F', h1, h2⟩, h3⟩ := h
  have hng : ¬ F' g := fun e => by
    rcases h2.grow g e with k | k
    · have := hF g k; omega
    · omega
  have hx : ∀ q, q ≠ g → (((W.setCell ⟨g, 0, none⟩ c).setCell ⟨g, 1, none⟩ d).drew.drew).heap[q]? = W.heap[q]? := fun q hq => (Below.heap_setCell _ _ _ _ hq).trans (Below.heap_setCell _ _ _ _ hq)
  refine ⟨F', h1.at' fun q hq => hx q fun e => hng (e ▸ hq), ⟨h2.os.trans o.os, h2.tape.trans o.tape, h2.output.trans o.output, ?_, fun q hq hn => ?_, fun q hq => ?_⟩⟩
  · have := h2.size
    have := o.size
    show w.heap.size ≤ (((W.setCell ⟨g, 0, none⟩ c).setCell ⟨g, 1, none⟩ d)).heap.size
    simp
    omega
  · rw [hx q (by omega), h2.block q (by have := o.size; omega) hn]
    exact o.oth q hq fun e => hn (e ▸ hT)
  · rcases h2.grow q hq with k | k
    · exact .inl k
    · exact .inr (by have := o.size; omega)
set_option maxRecDepth 100000 in
set_option maxHeartbeats 4000000 in
theorem step_go {N : Int} {T k : Nat} {F : Nat → Prop} {lv srv0 : Value} {m : List Rw} {clk0 had0 had : Int} {s : Sc} {r : Rw} {x : Wk} {l : List Wk} {w : World} (h : SR w T lv m clk0 srv0 had0) (h2 : tns m = s.ts) (h4 : ∀ q, F q ↔ foot T lv m q) (hs : Sok N s) (hN : N ≤ 100000) (hk : m[k]? = some r) (hws : r.t.ws = x :: l) (hn : r.t.nm = s.srv) (hl : ∀ y ∈ l, y.left = y.cost) (ho : ∀ (j : Nat) (r' : Rw), j ≠ k → m[j]? = some r' → ∀ x ∈ r'.t.ws, x.left = x.cost) (hh : had = x.cost - x.left)
    (hC : ∀ W1, Below w.heap.size w W1 → Calls Try.prog 43 #[.pointer (some ⟨T, 0, none⟩)] W1 fun e w1 => e = .returned (.bool true) ∧ Ot W1 w1 T ∧ w1.heap[T]? = some (boxO lv s.clk (.pointer (some ⟨r.p, 1, none⟩)) had)) :
    Calls Try.prog 22 #[.pointer (some ⟨T, 0, none⟩)] w fun e w' => e = .returned (ansV (serveS s k r.t x l).1) ∧ ∃ F', PF w' T F' (serveS s k r.t x l).2 ∧ Fr F F' w w' := by
  have hrm := List.mem_of_getElem? hk
  have hTn := hs.all r.t (by rw [← h2]; exact List.mem_map.2 ⟨r, hrm, rfl⟩)
  have hxo := hTn.all x (by rw [hws]; simp)
  have hc0 := hxo.c0
  have hc1 := hxo.c1
  have hl0 := hxo.l0
  have hl1 := hxo.l1
  have hln := hTn.n
  have hTl := h.ltT
  have hpl := h.ltp r hrm
  have hpT := h.neT r hrm
  -- behind choose
  have HC : Hid (Calls Try.prog 43 #[.pointer (some ⟨T, 0, none⟩)] (w.alloc (.cells #[.int .i64 0, .int .i64 0] 42)) fun e w1 => e = .returned (.bool true) ∧ Ot w w1 T ∧ w1.heap[w.heap.size]? = some (.cells #[.int .i64 0, .int .i64 0] 42 (0, 0)) ∧ w1.heap[T]? = some (boxO lv s.clk (.pointer (some ⟨r.p, 1, none⟩)) had)) := by
    refine (hC _ (bel1' w _)).mono fun e w1 ⟨g1, g2, g3⟩ => ⟨g1, (Ot.of (bel1' w _)).trans g2, ?_, g3⟩
    exact (g2.oth w.heap.size (by simp) (by omega)).trans (heap_alloc_new _ _)
  have HP : Hid (∀ w1 : World, Ot w w1 T → w1.heap[w.heap.size]? = some (.cells #[.int .i64 0, .int .i64 0] 42 (0, 0)) → w1.heap[T]? = some (boxO lv s.clk (.pointer (some ⟨r.p, 1, none⟩)) had) → w1.cell? ⟨r.p, 4, none⟩ = some (.pointer (some ⟨r.Q, 0, none⟩)) ∧ w1.cell? ⟨T, 2, none⟩ = some (.pointer (some ⟨r.p, 1, none⟩)) ∧ Calls Try.prog 44 #[.pointer (some ⟨r.Q, 0, none⟩)] w1 fun e w2 => e = .returned (.tuple #[.agg #[.int .i64 x.id, .int .i64 x.cost, .int .i64 x.start], .bool true]) ∧ Ot w w2 T ∧ w2.heap[w.heap.size]? = some (.cells #[.int .i64 0, .int .i64 0] 42 (0, 0)) ∧ w2.heap[T]? = some (boxO lv s.clk (.pointer (some ⟨r.p, 1, none⟩)) had)) := fun w1 g1 g2 g3 => by
    have hS := h.ot g1 g3
    refine ⟨(rowO_cells (hS.each r hrm)).2.2.2.2, hS.cells.2.2.1, (peek_any r.Q r.sv r.t.ws w1 (hS.que r hrm) hln).mono fun e w2 ⟨k1, k2⟩ => ⟨?_, g1.trans (Ot.of k2), (k2.block _ (Array.getElem?_eq_some_iff.1 g2).1).trans g2, (k2.block _ (by have := g1.size; omega)).trans g3⟩⟩
    rw [k1, hws]
    rfl
  have HV : Hid (∀ w2 : World, Ot w w2 T → w2.heap[w.heap.size]? = some (.cells #[.int .i64 0, .int .i64 0] 42 (0, 0)) → w2.heap[T]? = some (boxO lv s.clk (.pointer (some ⟨r.p, 1, none⟩)) had) → ∀ W3, w2.alloc (.cells #[.int .i64 x.id, .int .i64 x.cost, .int .i64 x.start] 80) = W3 → W3.cell? ⟨T, 3, none⟩ = some (.int .i64 had) ∧ W3.frozen? ⟨T, 3, none⟩ = false) := fun w2 g1 g2 g3 W3 e => by
    have g : W3.heap[T]? = some (boxO lv s.clk (.pointer (some ⟨r.p, 1, none⟩)) had) := by rw [← e]; exact (Below.heap_alloc _ _ _ (by have := g1.size; omega)).trans g3
    exact ⟨(boxO_cells g).2.2.2.1, (boxO_cells g).2.2.2.2 3⟩
  have hd0 : 0 ≤ had := by omega
  have hd1 : had ≤ 999 := by omega
  have HH : Hid (had = x.cost - x.left) := hh
  clear hC hh
  go_enter Try.func22, Try.ntmps22
  go_wp2_with fail
  refine HC.out.mono ?_
  rintro e w1 ⟨rfl, o1, b1, t1⟩
  obtain ⟨d1, d2, hpk⟩ := HP.out w1 o1 b1 t1
  have HPK : Hid _ := hpk
  clear hpk o1 b1 t1 HC HP
  go_wp2_with fail
  refine Calls.mono HPK.out ?_
  rintro e w2 ⟨rfl, o2, b2, t2⟩
  obtain ⟨W3, hW3⟩ : ∃ W3, w2.alloc (.cells #[.int .i64 x.id, .int .i64 x.cost, .int .i64 x.start] 80) = W3 := ⟨_, rfl⟩
  obtain ⟨e1, e2⟩ := HV.out w2 o2 b2 t2 W3 hW3
  have o3 : Ot w W3 T := by rw [← hW3]; exact o2.trans (Ot.of (bel1' w2 _))
  have b3 : W3.heap[w.heap.size]? = some (.cells #[.int .i64 0, .int .i64 0] 42 (0, 0)) := by rw [← hW3]; exact (Below.heap_alloc _ _ _ (Array.getElem?_eq_some_iff.1 b2).1).trans b2
  have t3 : W3.heap[T]? = some (boxO lv s.clk (.pointer (some ⟨r.p, 1, none⟩)) had) := by rw [← hW3]; exact (Below.heap_alloc _ _ _ (by have := o2.size; omega)).trans t2
  have j3 : W3.heap[w2.heap.size]? = some (.cells #[.int .i64 x.id, .int .i64 x.cost, .int .i64 x.start] 80 (0, 0)) := by rw [← hW3]; exact heap_alloc_new _ _
  have hj : w.heap.size < w2.heap.size := (Array.getElem?_eq_some_iff.1 b2).1
  have H3 : Hid (Ot w W3 T ∧ W3.heap[w.heap.size]? = some (.cells #[.int .i64 0, .int .i64 0] 42 (0, 0)) ∧ W3.heap[T]? = some (boxO lv s.clk (.pointer (some ⟨r.p, 1, none⟩)) had) ∧ W3.heap[w2.heap.size]? = some (.cells #[.int .i64 x.id, .int .i64 x.cost, .int .i64 x.start] 80 (0, 0))) := ⟨o3, b3, t3, j3⟩
  clear o2 b2 t2 o3 b3 t3 j3 HPK HV d1 d2
  go_wp2_with fail
  obtain ⟨V, hV⟩ : ∃ V, W3.setCell ⟨T, 3, none⟩ (.int .i64 (had + 1)) = V := ⟨_, rfl⟩
  have hjT : w2.heap.size ≠ T := by omega
  have hgT : w.heap.size ≠ T := by omega
  generalize w2.heap.size = jb at *
  obtain ⟨o3, b3, t3, j3⟩ := H3.out
  have oV : Ot w V T := by rw [← hV]; exact o3.trans (Ot.set _ _ _ _)
  have bV : V.heap[w.heap.size]? = some (.cells #[.int .i64 0, .int .i64 0] 42 (0, 0)) := by rw [← hV]; exact (Below.heap_setCell _ _ _ _ hgT).trans b3
  have jV : V.heap[jb]? = some (.cells #[.int .i64 x.id, .int .i64 x.cost, .int .i64 x.start] 80 (0, 0)) := by rw [← hV]; exact (Below.heap_setCell _ _ _ _ hjT).trans j3
  have tV : V.heap[T]? = some (boxO lv s.clk (.pointer (some ⟨r.p, 1, none⟩)) (had + 1)) := by rw [← hV]; exact boxO_had t3 _
  have sV := h.ot oV tV
  have f3 := (boxO_cells tV).2.2.2.1
  have f0 : V.cell? ⟨jb, 0, none⟩ = some (.int .i64 x.id) := by rw [cell_of_row _ _ _ _ _ _ jV]; rfl
  have f1 : V.cell? ⟨jb, 1, none⟩ = some (.int .i64 x.cost) := by rw [cell_of_row _ _ _ _ _ _ jV]; rfl
  obtain ⟨-, p1, -, -, p4⟩ := rowO_cells (sV.each r hrm)
  have q0 : V.cell? ⟨w.heap.size, 0, none⟩ = some (.int .i64 0) := by rw [cell_of_row _ _ _ _ _ _ bV]; rfl
  have q1 : V.cell? ⟨w.heap.size, 1, none⟩ = some (.int .i64 0) := by rw [cell_of_row _ _ _ _ _ _ bV]; rfl
  have z0 : V.frozen? ⟨w.heap.size, 0, none⟩ = false := by simp [World.frozen?, bV]
  have z1 : V.frozen? ⟨w.heap.size, 1, none⟩ = false := by simp [World.frozen?, bV]
  have HV2 : Hid (Ot w V T ∧ V.heap[w.heap.size]? = some (.cells #[.int .i64 0, .int .i64 0] 42 (0, 0)) ∧ V.heap[jb]? = some (.cells #[.int .i64 x.id, .int .i64 x.cost, .int .i64 x.start] 80 (0, 0)) ∧ V.heap[T]? = some (boxO lv s.clk (.pointer (some ⟨r.p, 1, none⟩)) (had + 1))) := ⟨oV, bV, jV, tV⟩
  rw [hV]
  clear hV hW3 o3 b3 t3 j3 H3 oV bV jV tV sV e1 e2
  have HN : Hid (r.t.nm = s.srv) := hn
  have HF : Hid ((∀ q, F q → q < w.heap.size) ∧ F T) := ⟨fun q hq => h.lt q ((h4 q).1 hq), (h4 T).2 (.inl rfl)⟩
  have hjV : jb < V.heap.size := (Array.getElem?_eq_some_iff.1 HV2.out.2.2.1).1
  have hgV : w.heap.size < V.heap.size := (Array.getElem?_eq_some_iff.1 HV2.out.2.1).1
  clear hn
  by_cases hlt : had + 1 < x.cost
  · have HA : Hid (serveS s k r.t x l = (⟨r.t.nm, x.id, x.cost, false, true⟩, { s with ts := s.ts.set k { r.t with ws := { x with left := x.left - 1 } :: l }, busy := true })) := by
      show _ = _
      unfold serveS
      rw [if_pos (by have := HH.out; omega)]
    have HE : Hid (∃ F', PF (((V.setCell ⟨w.heap.size, 0, none⟩ (.int .i64 x.id)).setCell ⟨w.heap.size, 1, none⟩ (.int .i64 x.cost)).drew.drew) T F' { s with ts := s.ts.set k { r.t with ws := { x with left := x.left - 1 } :: l }, busy := true } ∧ Fr F F' w (((V.setCell ⟨w.heap.size, 0, none⟩ (.int .i64 x.id)).setCell ⟨w.heap.size, 1, none⟩ (.int .i64 x.cost)).drew.drew)) := by
      have := HH.out
      obtain ⟨g1, g2, g3, g4⟩ := HV2.out
      have hx : ∀ q, q ≠ w.heap.size → (((V.setCell ⟨w.heap.size, 0, none⟩ (.int .i64 x.id)).setCell ⟨w.heap.size, 1, none⟩ (.int .i64 x.cost)).drew.drew).heap[q]? = V.heap[q]? := fun q hq => (Below.heap_setCell _ _ _ _ hq).trans (Below.heap_setCell _ _ _ _ hq)
      refine half_of h h2 h4 hk hws HN.out hl ho (had' := had + 1) ⟨g1.os, g1.tape, g1.output, ?_, fun q hq hn => ?_⟩ ?_ (by omega)
      · show w.heap.size ≤ ((V.setCell ⟨w.heap.size, 0, none⟩ (.int .i64 x.id)).setCell ⟨w.heap.size, 1, none⟩ (.int .i64 x.cost)).heap.size
        simp
        omega
      · rw [hx q (by omega)]
        exact g1.oth q hq hn
      · rw [hx T (by omega)]
        exact g4
    have HG : Hid ((((V.setCell ⟨w.heap.size, 0, none⟩ (.int .i64 x.id)).setCell ⟨w.heap.size, 1, none⟩ (.int .i64 x.cost)).drew.drew).heap[w.heap.size]? = some (.cells #[.int .i64 x.id, .int .i64 x.cost] 42 (0, 0))) := row2_set HV2.out.2.1
    clear HV2 HF
    go_region
    go_wp2_with fail
    go_region
    go_wp2_with fail
    refine bodyPost_ret (results_four Try.results22 _ _ w.heap.size #[.int .i64 x.id, .int .i64 x.cost] _ _ _ rfl rfl rfl rfl (load42 HG.out rfl)) rfl ?_
    rw [HA.out]
    exact ⟨rfl, HE.out⟩
  · obtain ⟨s6, hs6⟩ : ∃ s6 : Sc, ({ s with ts := s.ts.set k { r.t with ws := l }, busy := false } : Sc) = s6 := ⟨_, rfl⟩
    have hA : serveS s k r.t x l = (⟨r.t.nm, x.id, x.cost, true, true⟩, if leftS s6.ts = 0 then restS s6 else s6) := by
      unfold serveS
      rw [if_neg (by have := HH.out; omega), ← hs6]
    have ok6 : Sok N s6 := by
      rw [← hs6]
      refine ⟨hs.k0, hs.k1, by simpa using hs.n, setAll hs.all k ⟨hTn.w0, hTn.w1, hTn.f0, hTn.f1, ?_, fun y hy => hTn.all y (by rw [hws]; simp [hy])⟩⟩
      show l.length ≤ 16
      rw [hws] at hln
      simp at hln
      omega
    have hb6 : s6.busy = false := by rw [← hs6]
    obtain ⟨oV, bV, jV, tV⟩ := HV2.out
    have sV := h.ot oV tV
    have hlQ : l.length ≤ 15 := by rw [hws] at hln; simpa using hln
    have HPop : Hid (Calls Try.prog 45 #[.pointer (some ⟨r.Q, 0, none⟩)] V.drew fun e w5 => e = .returned (.tuple #[tuV x, .bool true]) ∧ (w5.cell? ⟨T, 2, none⟩ = some (.pointer (some ⟨r.p, 1, none⟩)) ∧ w5.cell? ⟨T, 3, none⟩ = some (.int .i64 (had + 1)) ∧ w5.frozen? ⟨T, 2, none⟩ = false ∧ w5.frozen? ⟨T, 3, none⟩ = false) ∧ Aft V ((w5.setCell ⟨T, 2, none⟩ (.pointer none)).setCell ⟨T, 3, none⟩ (.int .i64 0)) T r.p F r.t.nm s6) := by
      have sV : SR V.drew T lv m s.clk (.pointer (some ⟨r.p, 1, none⟩)) (had + 1) := sV.at' fun _ _ => rfl
      have tV : V.drew.heap[T]? = some (boxO lv s.clk (.pointer (some ⟨r.p, 1, none⟩)) (had + 1)) := tV
      have hq := sV.que r hrm
      rw [hws] at hq
      refine (qpop_any r.Q r.sv x l V.drew hq hlQ).mono fun e w5 ⟨g1, sv', g2⟩ => ⟨g1, ?_, ?_⟩
      · have tg := sV.tagT hrm
        have := (g2.block T sV.ltT (fun e => tg.2.1 e.symm) tg.2.2.2.1).trans tV
        obtain ⟨c0, c1, c2, c3, f⟩ := boxO_cells this
        exact ⟨c2, c3, f 2, f 3⟩
      · have hd := done_of (x := x) sV h2 h4 hk hl ho rfl g2
        rw [hs6] at hd
        obtain ⟨F', k1, k2⟩ := hd
        refine ⟨⟨F', k1, ⟨k2.os, k2.tape, k2.output, k2.size, k2.block, k2.grow⟩⟩, ?_⟩
        have tg := sV.tagT hrm
        have := (Below.heap_setCell (w5.setCell ⟨T, 2, none⟩ (.pointer none)) ⟨T, 3, none⟩ (.int .i64 0) r.p hpT).trans ((Below.heap_setCell w5 ⟨T, 2, none⟩ (.pointer none) r.p hpT).trans ((g2.block r.p (sV.ltp r hrm) tg.2.2.1 tg.2.2.2.2.1).trans (sV.each r hrm)))
        exact (rowO_cells this).2.1
    have HLe : Hid (∀ w6 : World, Aft V w6 T r.p F r.t.nm s6 → Calls Try.prog 46 #[.pointer (some ⟨T, 0, none⟩)] w6 fun e w7 => e = .returned (.int .i64 (leftS s6.ts : Int)) ∧ Aft V w7 T r.p F r.t.nm s6) := fun w6 g => by
      obtain ⟨F', g1, g2⟩ := g.pf
      refine (left_PF g1 ok6).mono fun e w7 ⟨k1, k2⟩ => ⟨k1, g.bel k2 ?_⟩
      have := g2.size
      have := oV.size
      omega
    have HRe : Hid (∀ w7 : World, Aft V w7 T r.p F r.t.nm s6 → Calls Try.prog 47 #[.pointer (some ⟨T, 0, none⟩)] w7 fun e w8 => (∃ v, e = .returned v) ∧ Aft V w8 T r.p F r.t.nm (restS s6)) := fun w7 g => by
      obtain ⟨F', g1, g2⟩ := g.pf
      refine (rest_PF g1 ok6 hb6).mono fun e w8 ⟨k1, ⟨F'', k2, k3⟩, k4⟩ => ⟨k1, ⟨F'', k2, g2.trans k3⟩, (k4 r.p ?_ hpT).trans g.nam⟩
      have := g2.size
      have := oV.size
      omega
    have HFi : Hid (∀ (W : World) (s8 : Sc), Aft V W T r.p F r.t.nm s8 → W.cell? ⟨jb, 0, none⟩ = some (.int .i64 x.id) ∧ W.cell? ⟨jb, 1, none⟩ = some (.int .i64 x.cost) ∧ W.cell? ⟨w.heap.size, 0, none⟩ = some (.int .i64 0) ∧ W.cell? ⟨w.heap.size, 1, none⟩ = some (.int .i64 0) ∧ W.frozen? ⟨w.heap.size, 0, none⟩ = false ∧ W.frozen? ⟨w.heap.size, 1, none⟩ = false ∧ Hid ((((W.setCell ⟨w.heap.size, 0, none⟩ (.int .i64 x.id)).setCell ⟨w.heap.size, 1, none⟩ (.int .i64 x.cost)).drew.drew).heap[w.heap.size]? = some (.cells #[.int .i64 x.id, .int .i64 x.cost] 42 (0, 0)) ∧ ∃ F', PF (((W.setCell ⟨w.heap.size, 0, none⟩ (.int .i64 x.id)).setCell ⟨w.heap.size, 1, none⟩ (.int .i64 x.cost)).drew.drew) T F' s8 ∧ Fr F F' w (((W.setCell ⟨w.heap.size, 0, none⟩ (.int .i64 x.id)).setCell ⟨w.heap.size, 1, none⟩ (.int .i64 x.cost)).drew.drew))) := fun W s8 g => by
      have k1 := (g.oth hjV (fun e => by have := HF.out.1 jb e; omega)).trans jV
      have k2 := (g.oth hgV (fun e => by have := HF.out.1 w.heap.size e; omega)).trans bV
      exact ⟨by rw [cell_of_row _ _ _ _ _ _ k1]; rfl, by rw [cell_of_row _ _ _ _ _ _ k1]; rfl, by rw [cell_of_row _ _ _ _ _ _ k2]; rfl, by rw [cell_of_row _ _ _ _ _ _ k2]; rfl, by simp [World.frozen?, k2], by simp [World.frozen?, k2], row2_set k2, g.fill oV HF.out.1 HF.out.2 (Nat.le_refl _) hgV⟩
    have HA : Hid (serveS s k r.t x l = (⟨r.t.nm, x.id, x.cost, true, true⟩, if leftS s6.ts = 0 then restS s6 else s6)) := hA
    clear hA ok6 hb6 oV bV jV tV sV hlQ hs6 HV2 HF q0 q1 z0 z1 h h2 h4 hs hk hws hl ho hrm hTn hxo
    have hlt' : x.cost ≤ had + 1 := by omega
    unfold tuV at HPop
    go_region
    go_wp2_with fail
    refine HPop.out.mono ?_
    rintro e w5 ⟨rfl, ⟨y2, y3, y4, y5⟩, ha⟩
    have HA6 : Hid (Aft V ((w5.setCell ⟨T, 2, none⟩ (.pointer none)).setCell ⟨T, 3, none⟩ (.int .i64 0)) T r.p F r.t.nm s6) := ha
    clear ha p1 p4 f0 f1 f3
    go_wp2_with fail
    refine (HLe.out _ HA6.out).mono ?_
    rintro e w7 ⟨rfl, ha⟩
    have HA7 : Hid (Aft V w7 T r.p F r.t.nm s6) := ha
    clear y2 y3 y4 y5
    by_cases hz : leftS s6.ts = 0
    · clear ha
      have hz' : (leftS s6.ts : Int) = 0 := by omega
      go_wp2_with fail
      refine (HRe.out _ HA7.out).mono ?_
      rintro e w8 ⟨⟨v, rfl⟩, ha⟩
      obtain ⟨i0, i1, i2, i3, i4, i5, HZ⟩ := HFi.out _ _ ha
      have i6 := ha.nam
      clear ha
      go_wp2_with fail
      go_region
      go_wp2_with fail
      refine bodyPost_ret (results_four Try.results22 _ _ w.heap.size #[.int .i64 x.id, .int .i64 x.cost] _ _ _ rfl rfl rfl rfl (load42 HZ.out.1 rfl)) rfl ?_
      rw [HA.out, if_pos hz]
      obtain ⟨F', k1, k2⟩ := HZ.out.2
      exact ⟨rfl, F', k1.at' (fun _ _ => rfl), ⟨k2.os, k2.tape, k2.output, k2.size, k2.block, k2.grow⟩⟩
    · obtain ⟨i0, i1, i2, i3, i4, i5, HZ⟩ := HFi.out _ _ ha
      have i6 := ha.nam
      clear ha
      have hz' : ¬ (leftS s6.ts : Int) = 0 := by omega
      go_wp2_with fail
      go_region
      go_wp2_with fail
      refine bodyPost_ret (results_four Try.results22 _ _ w.heap.size #[.int .i64 x.id, .int .i64 x.cost] _ _ _ rfl rfl rfl rfl (load42 HZ.out.1 rfl)) rfl ?_
      rw [HA.out, if_neg hz]
      obtain ⟨F', k1, k2⟩ := HZ.out.2
      exact ⟨rfl, F', k1.at' (fun _ _ => rfl), ⟨k2.os, k2.tape, k2.output, k2.size, k2.block, k2.grow⟩⟩
end Go.Proofs.Ytfndbllpnkhlhaa
