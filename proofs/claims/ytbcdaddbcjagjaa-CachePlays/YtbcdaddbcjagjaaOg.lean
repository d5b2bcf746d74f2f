/- Get of a cache. -/
import Derived.Test.YtbcdaddbcjagjaaOf
namespace Go.Proofs.Ytbcdaddbcjagjaa
open Go.RowKit
set_option linter.unusedVariables false
set_option linter.unusedSimpArgs false

variable {w w' : World} {C : Nat} {F : Nat → Prop} {most : Int} {E : List UInt8 → List It} {N : List UInt8 → Int × Int}
def hitB (o : Option It) (st : List UInt8) : Bool := match o with | some x => decide (x.st = st) | none => false
def getT (o : Option It) (st : List UInt8) : List UInt8 := match o with | some x => if x.st = st then x.te else [] | none => []
def getEE (k st : List UInt8) (es : List It) : List It := if hitB (lkE k es) st = true then getE k es else outE k es
def getN (k st : List UInt8) (es : List It) (p : Int × Int) : Int × Int := if hitB (lkE k es) st = true then (p.1 + 1, p.2) else (p.1, p.2 + 1)
theorem out_get (k : List UInt8) (es : List It) : outE k (getE k es) = outE k es := by
  unfold getE
  cases h : lkE k es with
  | none => rfl
  | some x =>
    have := (lkE_some h).1
    show outE k (x :: outE k es) = outE k es
    rw [outE, if_pos this.symm]
theorem updE_updE (E : List UInt8 → List It) (s : List UInt8) (a b : List It) : updE (updE E s a) s b = updE E s b := by
  funext x
  unfold updE
  by_cases e : x = s <;> simp [e]
theorem Fr.poke {F F' : Nat → Prop} {w V : World} (h : Fr F F' w V) {g : Nat} (hg : w.heap.size ≤ g) (i : Nat) (v : Value) : Fr F F' w (V.setCell ⟨g, i, none⟩ v) :=
  ⟨h.os, h.tape, h.output, by have := h.size; simpa using this, fun q hq hn => (Below.heap_setCell _ _ _ _ (show q ≠ g by omega)).trans (h.block q hq hn), h.grow⟩
theorem CR.poke (h : CR w C F most E N) {g : Nat} (hg : ¬ F g) (i : Nat) (v : Value) : CR (w.setCell ⟨g, i, none⟩ v) C F most E N := h.at' fun q hq => Below.heap_setCell _ _ _ _ (show q ≠ g from fun e => hg (by rw [← e]; exact hq))
/-- What a tenant's list tells of a key. -/
theorem CR.kept (h : CR w C F most E N) (s k : List UInt8) : ∃ K p, w.cell? ⟨C, 1, none⟩ = some (.map (some K)) ∧ (Instr.lookup 70 (.map (some K)) (.string (tx s)) false).run Try.prog w = .ok p w ∧ Calls Try.prog 40 #[p, .string (tx k)] w fun e w' => e = .returned (gtV (lkE k (E s))) ∧ ∃ F', CR w' C F' most (updE E s (getE k (E s))) N ∧ Fr F F' w w' := by
  by_cases hs : E s = []
  · obtain ⟨K, T, c0, c1, hl, -⟩ := h.shut hs
    refine ⟨K, _, c1, hl, (get_nil k w).mono ?_⟩
    rintro e w' ⟨rfl, hb⟩
    have hsame := h.same (s := s)
    rw [hs] at hsame ⊢
    exact ⟨rfl, F, hsame.newer hb, Fr.newer hb⟩
  · obtain ⟨K, L, M, FL, c1, hl, hlr, hFL, hturn, -⟩ := h.open hs
    refine ⟨K, _, c1, hl, (hlr.get k).mono ?_⟩
    rintro e w' ⟨rfl, F', k1, k2⟩
    refine ⟨rfl, hturn w' F' _ ?_ k1 k2⟩
    unfold getE
    cases lkE k (E s) with
    | none => exact hs
    | some x => simp
theorem cget_nil (s k st : List UInt8) (w : World) : Calls Try.prog 23 #[.pointer none, .string (tx s), .string (tx k), .string (tx st)] w fun e w' => e = .returned (.tuple #[.string { data := #[] }, .bool false]) ∧ w' = w := by
  have HN : Hid (Calls Try.prog 37 #[.pointer none] w fun e w' => e = .returned (.bool true) ∧ w' = w) := cnone_nil w
  go_enter Try.func23, Try.ntmps23
  go_wp2_with (go_at_call 37; refine HN.out.mono ?_; rintro e w1 ⟨rfl, hw1⟩; rw [hw1]; clear hw1)
  go_ret2
  exact ⟨rfl, rfl⟩
set_option maxRecDepth 20000 in
set_option maxHeartbeats 4000000 in
theorem CR.get (h : CR w C F most E N) (s k st : List UInt8) (hN : 0 ≤ (N s).1 ∧ (N s).1 ≤ 1000000 ∧ 0 ≤ (N s).2 ∧ (N s).2 ≤ 1000000) : Calls Try.prog 23 #[.pointer (some ⟨C, 0, none⟩), .string (tx s), .string (tx k), .string (tx st)] w fun e w' => e = .returned (.tuple #[.string (tx (getT (lkE k (E s)) st)), .bool (hitB (lkE k (E s)) st)]) ∧ ∃ F', CR w' C F' most (updE E s (getEE k st (E s))) (updN N s (getN k st (E s) (N s))) ∧ Fr F F' w w' := by
  have hm1 := h.m1
  have HN : Hid (Calls Try.prog 37 #[.pointer (some ⟨C, 0, none⟩)] w fun e w' => e = .returned (.bool false) ∧ w' = w) := by
    obtain ⟨⟨K0, D0, tl0, h1, -⟩, -, -⟩ := h
    exact cnone_some h1.cells.1 hm1
  obtain ⟨D, c2, hl, -⟩ := h.counts s
  obtain ⟨⟨H, Ms⟩, hNs⟩ : ∃ p, N s = p := ⟨_, rfl⟩
  have HNS : Hid (N s = (H, Ms)) := hNs
  rw [hNs] at hl hN
  obtain ⟨n1, n2, n3, n4⟩ := hN
  dsimp only at n1 n2 n3 n4
  have hl' : (Instr.lookup 71 (.map (some D)) (.string (tx s)) false).run Try.prog w = .ok (.agg #[.int .i64 H, .int .i64 Ms]) w := hl
  obtain ⟨W0, hW0⟩ : ∃ W, w.alloc (.cells #[.int .i64 H, .int .i64 Ms] 43) = W := ⟨_, rfl⟩
  have hb0 : Below w.heap.size w W0 := by rw [← hW0]; exact bel1' _ _
  have hg0 : W0.heap[w.heap.size]? = some (.cells #[.int .i64 H, .int .i64 Ms] 43 (0, 0)) := by rw [← hW0]; exact heap_alloc_new _ _
  have hs0 : W0.heap.size = w.heap.size + 1 := by rw [← hW0]; simp
  obtain ⟨K, p, c1, hlk, hcall⟩ := (h.newer hb0).kept s k
  have HC : Hid (Calls Try.prog 40 #[p, .string (tx k)] W0 fun e w' => e = .returned (gtV (lkE k (E s))) ∧ Hid (∃ F', CR w' C F' most (updE E s (getE k (E s))) N ∧ Fr F F' W0 w')) := hcall
  have HB0 : Hid (Below w.heap.size w W0 ∧ W0.heap[w.heap.size]? = some (.cells #[.int .i64 H, .int .i64 Ms] 43 (0, 0)) ∧ W0.heap.size = w.heap.size + 1 ∧ ∀ q, F q → q < w.heap.size) := ⟨hb0, hg0, hs0, fun q hq => h.lt q hq⟩
  clear h hcall hb0 hg0 hs0 hl hNs hm1
  -- what both ways share: behind the list's Get
  have HW1 : Hid (∀ (w1 : World) (c0 c1' : Value), (∃ F', CR w1 C F' most (updE E s (getE k (E s))) N ∧ Fr F F' W0 w1) → ∃ F', CR (w1.alloc (.cells #[c0, c1'] 76)) C F' most (updE E s (getE k (E s))) N ∧ Fr F F' w (w1.alloc (.cells #[c0, c1'] 76)) ∧ (w1.alloc (.cells #[c0, c1'] 76)).heap[w.heap.size]? = some (.cells #[.int .i64 H, .int .i64 Ms] 43 (0, 0)) ∧ (w1.alloc (.cells #[c0, c1'] 76)).heap[w1.heap.size]? = some (.cells #[c0, c1'] 76 (0, 0)) ∧ ¬ F' w.heap.size) := by
    rintro w1 x0 x1 ⟨F', k1, k2⟩
    obtain ⟨b1, b2, b3, b4⟩ := HB0.out
    have hr : w1.heap[w.heap.size]? = some (.cells #[.int .i64 H, .int .i64 Ms] 43 (0, 0)) := (k2.block _ (by omega) fun e => by have := b4 _ e; omega).trans b2
    refine ⟨F', k1.newer (bel1' _ _), ?_, (Below.heap_alloc _ _ _ (Array.getElem?_eq_some_iff.1 hr).1).trans hr, heap_alloc_new _ _, fun e => ?_⟩
    · have f0 : Fr F F w W0 := Fr.newer b1
      exact (f0.trans' k2).trans' (Fr.newer (bel1' _ _))
    · rcases k2.grow _ e with e | e
      · have := b4 _ e; omega
      · omega
  cases hk : lkE k (E s) with
  | none =>
    rw [hk] at HC
    have HC' : Hid (Calls Try.prog 40 #[p, .string (tx k)] W0 fun e w' => e = .returned (.tuple #[.agg #[.string { data := #[] }, .string { data := #[] }], .bool false]) ∧ Hid (∃ F', CR w' C F' most (updE E s (getE k (E s))) N ∧ Fr F F' W0 w')) := HC.out
    have HE : Hid (getEE k st (E s) = outE k (E s) ∧ getN k st (E s) (N s) = (H, Ms + 1)) := by
      show _ ∧ _
      rw [HNS.out]
      unfold getEE getN
      rw [hk]
      exact ⟨rfl, rfl⟩
    clear hk HC
    go_enter Try.func23, Try.ntmps23
    go_upto_region 3 with (go_at_call 37; refine HN.out.mono ?_; rintro e w1 ⟨rfl, hw1⟩; rw [hw1]; clear hw1)
    go_upto_region 4 with (fail)
    clear hW0 hl' c2 HN
    go_upto_region 5 with (go_at_call 40; refine HC'.out.mono ?_; rintro e w1 ⟨rfl, H1⟩)
    obtain ⟨F1, r1, r2, r3, r4, r5⟩ := HW1.out w1 (.string { data := #[] }) (.string { data := #[] }) H1.out
    obtain ⟨W1, hW1⟩ : ∃ W1, w1.alloc (.cells #[.string { data := #[] }, .string { data := #[] }] 76) = W1 := ⟨_, rfl⟩
    rw [hW1] at r1 r2 r3 r4
    rw [hW1]
    obtain ⟨y0, y1, z0, z1⟩ := row43 r3
    obtain ⟨x0, x1, -, -⟩ := row2 r4
    have HR : Hid (CR W1 C F1 most (updE E s (getE k (E s))) N ∧ Fr F F1 w W1 ∧ W1.heap[w.heap.size]? = some (.cells #[.int .i64 H, .int .i64 Ms] 43 (0, 0)) ∧ ¬ F1 w.heap.size) := ⟨r1, r2, r3, r5⟩
    clear hW1 r1 r2 r3 r4 r5 HC' H1 HW1 hlk c1 HB0
    generalize w1.heap.size = g2 at *
    obtain ⟨g1, hg1⟩ : ∃ g1, w.heap.size = g1 := ⟨_, rfl⟩
    have HG : Hid (w.heap.size = g1) := hg1
    rw [hg1] at y0 y1 z0 z1 ⊢
    clear hg1
    go_upto_region 10 with (fail)
    obtain ⟨W2, hW2⟩ : ∃ W2, W1.setCell ⟨g1, 1, none⟩ (.int .i64 (Ms + 1)) = W2 := ⟨_, rfl⟩
    have hr2 : W2.heap[g1]? = some (.cells #[.int .i64 (H), .int .i64 (Ms + 1)] 43 (0, 0)) := by
      have := HR.out.2.2.1
      rw [HG.out] at this
      rw [← hW2]
      exact row_set _ this
    have HR2 : Hid (CR W2 C F1 most (updE E s (getE k (E s))) N ∧ Fr F F1 w W2) := by
      obtain ⟨q1, q2, q3, q4⟩ := HR.out
      rw [HG.out] at q4
      rw [← hW2]
      exact ⟨q1.poke q4 _ _, q2.poke (by rw [HG.out]; exact Nat.le_refl _) _ _⟩
    rw [hW2]
    obtain ⟨u0, u1, -, -⟩ := row43 hr2
    obtain ⟨D2, d2, -, hput⟩ := (HR2.out.1.newer (drew_below W2)).counts s
    obtain ⟨o, hup, cr3, fr3⟩ := hput (H, Ms + 1)
    have d2' : W2.cell? ⟨C, 2, none⟩ = some (.map (some D2)) := d2
    have hup' : (Instr.mapUpdate 71 (.map (some D2)) (.string (tx s)) (.agg #[.int .i64 (H), .int .i64 (Ms + 1)])).run Try.prog W2.drew = .ok () (setM W2.drew D2 o) := hup
    have HR3 : Hid (CR (setM W2.drew D2 o) C F1 most (updE E s (getE k (E s))) (updN N s (H, Ms + 1)) ∧ Fr F F1 w (setM W2.drew D2 o)) := ⟨cr3, (HR2.out.2.trans' (Fr.newer (drew_below W2))).trans' fr3⟩
    clear hW2 hr2 HR2 hput d2 hup cr3 fr3 y0 y1 z0 z1 HR
    generalize setM W2.drew D2 o = V3 at *
    have HDR : Hid (Calls Try.prog 41 #[.pointer (some ⟨C, 0, none⟩), .string (tx s), .string (tx k)] V3 fun e w' => e = .returned (.tuple #[]) ∧ Hid (∃ F', CR w' C F' most (updE (updE E s (getE k (E s))) s (outE k ((updE E s (getE k (E s))) s))) (updN N s (H, Ms + 1)) ∧ Fr F1 F' V3 w')) := HR3.out.1.drop s k
    clear x0 x1
    go_region
    all_goals
      go_wp2_with (go_at_call 41; refine HDR.out.mono ?_; rintro e w4 ⟨rfl, H4⟩)
      go_ret2
      obtain ⟨F4, j1, j2⟩ := H4.out
      rw [updE_at, out_get, updE_updE] at j1
      rw [HE.out.1, HE.out.2]
      exact ⟨rfl, F4, j1, HR3.out.2.trans' j2⟩
  | some x =>
    rw [hk] at HC
    have HC' : Hid (Calls Try.prog 40 #[p, .string (tx k)] W0 fun e w' => e = .returned (.tuple #[.agg #[.string (tx x.st), .string (tx x.te)], .bool true]) ∧ Hid (∃ F', CR w' C F' most (updE E s (getE k (E s))) N ∧ Fr F F' W0 w')) := HC.out
    by_cases hst : x.st = st
    · have HST : Hid (x.st = st) := hst
      have hq' : ((tx x.st).toList == (tx st).toList) = true := by rw [tx_list, tx_list]; simp [hst]
      have HE : Hid (getEE k st (E s) = getE k (E s) ∧ getN k st (E s) (N s) = (H + 1, Ms)) := by
        show _ ∧ _
        rw [HNS.out]
        unfold getEE getN
        rw [hk, show hitB (some x) st = true from decide_eq_true hst]
        exact ⟨rfl, rfl⟩
      clear hk HC hst
      go_enter Try.func23, Try.ntmps23
      go_upto_region 3 with (go_at_call 37; refine HN.out.mono ?_; rintro e w1 ⟨rfl, hw1⟩; rw [hw1]; clear hw1)
      go_upto_region 4 with (fail)
      clear hW0 hl' c2 HN
      go_upto_region 5 with (go_at_call 40; refine HC'.out.mono ?_; rintro e w1 ⟨rfl, H1⟩)
      obtain ⟨F1, r1, r2, r3, r4, r5⟩ := HW1.out w1 (.string (tx x.st)) (.string (tx x.te)) H1.out
      obtain ⟨W1, hW1⟩ : ∃ W1, w1.alloc (.cells #[.string (tx x.st), .string (tx x.te)] 76) = W1 := ⟨_, rfl⟩
      rw [hW1] at r1 r2 r3 r4
      rw [hW1]
      obtain ⟨y0, y1, z0, z1⟩ := row43 r3
      obtain ⟨x0, x1, -, -⟩ := row2 r4
      have HR : Hid (CR W1 C F1 most (updE E s (getE k (E s))) N ∧ Fr F F1 w W1 ∧ W1.heap[w.heap.size]? = some (.cells #[.int .i64 H, .int .i64 Ms] 43 (0, 0)) ∧ ¬ F1 w.heap.size) := ⟨r1, r2, r3, r5⟩
      clear hW1 r1 r2 r3 r4 r5 HC' H1 HW1 hlk c1 HB0
      generalize w1.heap.size = g2 at *
      obtain ⟨g1, hg1⟩ : ∃ g1, w.heap.size = g1 := ⟨_, rfl⟩
      have HG : Hid (w.heap.size = g1) := hg1
      rw [hg1] at y0 y1 z0 z1 ⊢
      clear hg1
      go_upto_region 7 with (fail)
      obtain ⟨W2, hW2⟩ : ∃ W2, W1.setCell ⟨g1, 0, none⟩ (.int .i64 (H + 1)) = W2 := ⟨_, rfl⟩
      have hr2 : W2.heap[g1]? = some (.cells #[.int .i64 (H + 1), .int .i64 (Ms)] 43 (0, 0)) := by
        have := HR.out.2.2.1
        rw [HG.out] at this
        rw [← hW2]
        exact row_set _ this
      have HR2 : Hid (CR W2 C F1 most (updE E s (getE k (E s))) N ∧ Fr F F1 w W2) := by
        obtain ⟨q1, q2, q3, q4⟩ := HR.out
        rw [HG.out] at q4
        rw [← hW2]
        exact ⟨q1.poke q4 _ _, q2.poke (by rw [HG.out]; exact Nat.le_refl _) _ _⟩
      have hx1 : W2.cell? ⟨g2, 1, none⟩ = some (.string (tx x.te)) := by
        rw [← hW2]
        by_cases e : g2 = g1
        · subst e
          rw [World.cell?_setCell_other _ _ _ _ (fun e => by have := congrArg Addr.off e; simp at this)]
          exact x1
        · rw [World.cell?_setCell_other _ _ _ _ (fun e2 => e (congrArg Addr.block e2).symm)]
          exact x1
      rw [hW2]
      obtain ⟨u0, u1, -, -⟩ := row43 hr2
      obtain ⟨D2, d2, -, hput⟩ := (HR2.out.1.newer (drew_below W2)).counts s
      obtain ⟨o, hup, cr3, fr3⟩ := hput (H + 1, Ms)
      have d2' : W2.cell? ⟨C, 2, none⟩ = some (.map (some D2)) := d2
      have hup' : (Instr.mapUpdate 71 (.map (some D2)) (.string (tx s)) (.agg #[.int .i64 (H + 1), .int .i64 (Ms)])).run Try.prog W2.drew = .ok () (setM W2.drew D2 o) := hup
      have HR3 : Hid (CR (setM W2.drew D2 o) C F1 most (updE E s (getE k (E s))) (updN N s (H + 1, Ms)) ∧ Fr F F1 w (setM W2.drew D2 o)) := ⟨cr3, (HR2.out.2.trans' (Fr.newer (drew_below W2))).trans' fr3⟩
      have HX : Hid ((setM W2.drew D2 o).cell? ⟨g2, 1, none⟩ = some (.string (tx x.te))) := by
        show (setM W2.drew D2 o).cell? ⟨g2, 1, none⟩ = _
        have hne : g2 ≠ D2 := by
          rintro rfl
          obtain ⟨⟨K9, D9, tl9, x9, -⟩, -, -⟩ := HR2.out.1
          have e9 : D9 = g2 := by
            have := x9.cells.2.2
            rw [d2'] at this
            simpa using this.symm
          obtain ⟨es9, c9, m9, -⟩ := x9.mc
          rw [e9] at m9
          simp [World.cell?, m9] at hx1
        rw [cell_eq (setM_off (w := W2.drew) (B := D2) (q := g2) hne)]
        exact hx1
      clear hW2 hr2 HR2 hput d2 hup cr3 fr3 y0 y1 z0 z1 HR
      generalize setM W2.drew D2 o = V3 at *
      clear x0 x1 hx1
      go_region
      all_goals
        have hx2 := HX.out
        go_wp2_with fail
        go_ret2
        rw [HE.out.1, HE.out.2]
        exact ⟨by rw [show getT (some x) st = x.te from if_pos HST.out, show hitB (some x) st = true from decide_eq_true HST.out]; rfl, F1, HR3.out⟩
    · have HST : Hid (¬ x.st = st) := hst
      have hq' : ((tx x.st).toList == (tx st).toList) = false := by rw [tx_list, tx_list]; simpa using hst
      have HE : Hid (getEE k st (E s) = outE k (E s) ∧ getN k st (E s) (N s) = (H, Ms + 1)) := by
        show _ ∧ _
        rw [HNS.out]
        unfold getEE getN
        rw [hk, show hitB (some x) st = false from decide_eq_false hst]
        exact ⟨rfl, rfl⟩
      clear hk HC hst
      go_enter Try.func23, Try.ntmps23
      go_upto_region 3 with (go_at_call 37; refine HN.out.mono ?_; rintro e w1 ⟨rfl, hw1⟩; rw [hw1]; clear hw1)
      go_upto_region 4 with (fail)
      clear hW0 hl' c2 HN
      go_upto_region 5 with (go_at_call 40; refine HC'.out.mono ?_; rintro e w1 ⟨rfl, H1⟩)
      obtain ⟨F1, r1, r2, r3, r4, r5⟩ := HW1.out w1 (.string (tx x.st)) (.string (tx x.te)) H1.out
      obtain ⟨W1, hW1⟩ : ∃ W1, w1.alloc (.cells #[.string (tx x.st), .string (tx x.te)] 76) = W1 := ⟨_, rfl⟩
      rw [hW1] at r1 r2 r3 r4
      rw [hW1]
      obtain ⟨y0, y1, z0, z1⟩ := row43 r3
      obtain ⟨x0, x1, -, -⟩ := row2 r4
      have HR : Hid (CR W1 C F1 most (updE E s (getE k (E s))) N ∧ Fr F F1 w W1 ∧ W1.heap[w.heap.size]? = some (.cells #[.int .i64 H, .int .i64 Ms] 43 (0, 0)) ∧ ¬ F1 w.heap.size) := ⟨r1, r2, r3, r5⟩
      clear hW1 r1 r2 r3 r4 r5 HC' H1 HW1 hlk c1 HB0
      generalize w1.heap.size = g2 at *
      obtain ⟨g1, hg1⟩ : ∃ g1, w.heap.size = g1 := ⟨_, rfl⟩
      have HG : Hid (w.heap.size = g1) := hg1
      rw [hg1] at y0 y1 z0 z1 ⊢
      clear hg1
      go_upto_region 10 with (fail)
      obtain ⟨W2, hW2⟩ : ∃ W2, W1.setCell ⟨g1, 1, none⟩ (.int .i64 (Ms + 1)) = W2 := ⟨_, rfl⟩
      have hr2 : W2.heap[g1]? = some (.cells #[.int .i64 (H), .int .i64 (Ms + 1)] 43 (0, 0)) := by
        have := HR.out.2.2.1
        rw [HG.out] at this
        rw [← hW2]
        exact row_set _ this
      have HR2 : Hid (CR W2 C F1 most (updE E s (getE k (E s))) N ∧ Fr F F1 w W2) := by
        obtain ⟨q1, q2, q3, q4⟩ := HR.out
        rw [HG.out] at q4
        rw [← hW2]
        exact ⟨q1.poke q4 _ _, q2.poke (by rw [HG.out]; exact Nat.le_refl _) _ _⟩
      rw [hW2]
      obtain ⟨u0, u1, -, -⟩ := row43 hr2
      obtain ⟨D2, d2, -, hput⟩ := (HR2.out.1.newer (drew_below W2)).counts s
      obtain ⟨o, hup, cr3, fr3⟩ := hput (H, Ms + 1)
      have d2' : W2.cell? ⟨C, 2, none⟩ = some (.map (some D2)) := d2
      have hup' : (Instr.mapUpdate 71 (.map (some D2)) (.string (tx s)) (.agg #[.int .i64 (H), .int .i64 (Ms + 1)])).run Try.prog W2.drew = .ok () (setM W2.drew D2 o) := hup
      have HR3 : Hid (CR (setM W2.drew D2 o) C F1 most (updE E s (getE k (E s))) (updN N s (H, Ms + 1)) ∧ Fr F F1 w (setM W2.drew D2 o)) := ⟨cr3, (HR2.out.2.trans' (Fr.newer (drew_below W2))).trans' fr3⟩
      clear hW2 hr2 HR2 hput d2 hup cr3 fr3 y0 y1 z0 z1 HR
      generalize setM W2.drew D2 o = V3 at *
      have HDR : Hid (Calls Try.prog 41 #[.pointer (some ⟨C, 0, none⟩), .string (tx s), .string (tx k)] V3 fun e w' => e = .returned (.tuple #[]) ∧ Hid (∃ F', CR w' C F' most (updE (updE E s (getE k (E s))) s (outE k ((updE E s (getE k (E s))) s))) (updN N s (H, Ms + 1)) ∧ Fr F1 F' V3 w')) := HR3.out.1.drop s k
      clear x0 x1
      go_region
      all_goals
        go_wp2_with (go_at_call 41; refine HDR.out.mono ?_; rintro e w4 ⟨rfl, H4⟩)
        go_ret2
        obtain ⟨F4, j1, j2⟩ := H4.out
        rw [updE_at, out_get, updE_updE] at j1
        rw [HE.out.1, HE.out.2]
        exact ⟨by rw [show getT (some x) st = [] from if_neg HST.out, show hitB (some x) st = false from decide_eq_false HST.out]; rfl, F4, j1, HR3.out.2.trans' j2⟩
end Go.Proofs.Ytbcdaddbcjagjaa
