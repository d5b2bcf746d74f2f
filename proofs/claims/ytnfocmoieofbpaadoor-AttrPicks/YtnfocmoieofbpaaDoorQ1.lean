/- The law of picks. -/
import Derived.Test.YtnfocmoieofbpaaDoorB3
import Derived.Test.YtnfocmoieofbpaaDoorJ1
namespace Go.Proofs.YtnfocmoieofbpaaDoor
open Go.RowKit Go.Shelf
set_option linter.unusedVariables false
set_option linter.unusedSimpArgs false
attribute [local go_sem] Oper.semAt_some

theorem results_p4 {tmps : Array Value} {w : World} {g : Nat} {b : Bool} (hp : tmps.getD 10 undef = .pointer (some ⟨g, 0, none⟩)) (hc : w.cell? ⟨g, 0, none⟩ = some (.bool b)) :
    (results Tryd.f4 tmps).run Tryd.prog w = .ok (.bool b) w := by
  have hp' : tmps[10]?.getD undef = .pointer (some ⟨g, 0, none⟩) := by simpa using hp
  have l2 : (loadVar 4 ⟨g, 0, none⟩).run Tryd.prog w = .ok (.bool b) w := by simp [loadVar, go_sem, Tryd.isAgg4, hc]
  simp [results, Tryd.results4, hp', asAddr, l2]
theorem end_picks {tmps : Array Value} {z : World} {X D1 D2 : Nat} (hp : tmps.getD 10 undef = .pointer (some ⟨X + 1, 0, none⟩)) (b : Boxed z (X + 1) 4 (.bool false)) (h1 : z.heap[D1]? = some (.deferred (some []))) (h2 : z.heap[D2]? = some (.deferred (some []))) (hne : D1 ≠ D2) (w : World) (hb : Below w.heap.size w z) (hX : w.heap.size ≤ X) (hD1 : w.heap.size ≤ D1) (hD2 : w.heap.size ≤ D2) :
    bodyPostM Fence.wide 5 Tryd.prog Tryd.f4 (fun e w' => e = .returned (.bool true) ∧ Below w.heap.size w w') Exit.ret { tmps := tmps, defers := [mk D2, mk D1] } (z.setCell ⟨X + 1, 0, none⟩ (.bool true)) := by
  have n1 : D1 ≠ X + 1 := fun e => by
    have b' : z.heap[X + 1]? = some (.cells #[.bool false] 4 (0, 0)) := b
    rw [e, b'] at h1
    cases h1
  have n2 : D2 ≠ X + 1 := fun e => by
    have b' : z.heap[X + 1]? = some (.cells #[.bool false] 4 (0, 0)) := b
    rw [e, b'] at h2
    cases h2
  have bY := b.set (.bool true)
  have k1 : (z.setCell ⟨X + 1, 0, none⟩ (.bool true)).heap[D1]? = some (.deferred (some [])) := (Below.heap_setCell _ _ _ _ n1).trans h1
  have k2 : (z.setCell ⟨X + 1, 0, none⟩ (.bool true)).heap[D2]? = some (.deferred (some [])) := (Below.heap_setCell _ _ _ _ n2).trans h2
  have hbY := hb.setCell (p := ⟨X + 1, 0, none⟩) (by show w.heap.size ≤ X + 1; omega) (.bool true)
  generalize z.setCell ⟨X + 1, 0, none⟩ (.bool true) = Y at bY k1 k2 hbY ⊢
  have k1' : (Y.putObj D2 (.deferred none)).heap[D1]? = some (.deferred (some [])) := by
    have hs : Y.heap[D1]? = some (.deferred (some [])) := k1
    simpa [World.putObj, Array.getElem?_setIfInBounds_ne (Ne.symm hne)] using hs
  have g1 := belowK_b (w := w) (Nat.le_refl _) Y D2 _ (.deferred none) hD2 k2 rfl rfl
  have g2 := belowK_b (w := w) (Nat.le_refl _) (Y.putObj D2 (.deferred none)) D1 _ (.deferred none) hD1 k1' rfl rfl
  have m1 := bY.kept (grownBy_putObj' Y D2 (.deferred none)) (by intro e; cases e; exact n2 rfl)
  have m2 := m1.kept (grownBy_putObj' (Y.putObj D2 (.deferred none)) D1 (.deferred none)) (by intro e; cases e; exact n1 rfl)
  refine ⟨by simp, .inl ⟨D2, _, rfl, run_takeDeferred k2, ?_⟩⟩
  refine ⟨by simp, .inl ⟨D1, _, rfl, run_takeDeferred k1', ?_⟩⟩
  exact ⟨_, results_p4 hp m2.cell, rfl, (hbY.trans g1).trans g2⟩
set_option maxRecDepth 100000 in
set_option maxHeartbeats 16000000 in
theorem picks_law (sa sm sk : Option Addr) (ca cm ck : Nat) (l m : List At) (k v : List UInt8) (ks : List (List UInt8)) (w : World) (hl : Ats w sa ca l) (hm : Ats w sm cm m) (hks : Txs w sk ck ks) (h1 : (l.length + 1 : Int) * 32 ≤ 140737488355328) (h2 : (m.length + 1 : Int) * 32 ≤ 140737488355328) (hk : (k.length : Int) ≤ 140737488351232) (hv : (v.length : Int) ≤ 140737488351232) (h3 : (ks.length : Int) ≤ 140737488351232) (hT : Tabs w) :
    Calls Tryd.prog 4 #[.slice sa l.length ca, .slice sm m.length cm, .string (tx k), .string (tx v), .slice sk ks.length ck] w fun e w' => e = .returned (.bool true) ∧ Below w.heap.size w w' := by
  have ll : (l.length : Int) ≤ 140737488351232 := by omega
  have lm : (m.length : Int) ≤ 140737488351232 := by omega
  obtain ⟨nl, hnl⟩ : ∃ n, l.length = n := ⟨_, rfl⟩
  obtain ⟨nm, hnm⟩ : ∃ n, m.length = n := ⟨_, rfl⟩
  obtain ⟨nk, hnk⟩ : ∃ n, ks.length = n := ⟨_, rfl⟩
  refine (callsIn_wide (n := 5)).1 ?_
  refine callsIn_of_wp_marks Tryd.func4 rfl trivial ?_ rfl
  simp only [Tryd.ntmps4, List.size_toArray, List.length_cons, List.length_nil, Nat.reduceAdd, Nat.reduceSub, Array.replicate_succ, Array.replicate_zero, List.push_toArray, List.append_toArray, List.nil_append, List.cons_append]
  refine wpIn_wide.2 ?_
  rw [hnl, hnm, hnk]
  go_upto_region 1 with fail
  obtain ⟨W0, hW0⟩ : ∃ W0, (w.alloc (.cells #[.slice sa nl ca] 22)).alloc (.cells #[.bool false] 4) = W0 := ⟨_, rfl⟩
  have b0 : Boxed W0 w.heap.size 22 (.slice sa nl ca) := by
    rw [← hW0]
    exact (Below.heap_alloc _ _ _ (by simp)).trans (Go.heap_alloc_new _ _)
  have b1 : Boxed W0 (w.heap.size + 1) 4 (.bool false) := by
    rw [← hW0]
    have h := Go.heap_alloc_new (w.alloc (.cells #[.slice sa nl ca] 22)) (.cells #[.bool false] 4)
    simp only [World.size_alloc] at h
    exact h
  have hB0 : Below w.heap.size w W0 := by rw [← hW0]; exact ((Below.refl _ w).alloc (Nat.le_refl _) _).alloc (by simp) _
  have hsz : W0.heap.size = w.heap.size + 2 := by rw [← hW0]; simp
  rw [hW0]
  clear hW0
  have HB0 : Hid (Boxed W0 w.heap.size 22 (.slice sa nl ca) ∧ Boxed W0 (w.heap.size + 1) 4 (.bool false) ∧ Below w.heap.size w W0 ∧ W0.heap.size = w.heap.size + 2) := ⟨b0, b1, hB0, hsz⟩
  have HT : Hid (∀ V, Below W0.heap.size W0 V → Tabs V) := fun V hb => (hT.later hB0).later hb
  have HL : Hid (∀ V, Below W0.heap.size W0 V → Ats V sa ca l) := fun V hb => (hl.later hB0).later hb
  have HM : Hid (∀ V, Below W0.heap.size W0 V → Ats V sm cm m) := fun V hb => (hm.later hB0).later hb
  have HK : Hid (∀ V, Below W0.heap.size W0 V → Txs V sk ck ks) := fun V hb => (hks.later hB0).later hb
  have HCL : Hid (∀ x ∈ l, Can x) := hl.can
  have cX0 : W0.cell? ⟨w.heap.size, 0, none⟩ = some (.slice sa nl ca) := b0.cell
  have HNL : Hid (l.length = nl ∧ m.length = nm ∧ ks.length = nk) := ⟨hnl, hnm, hnk⟩
  have HBD : Hid ((l.length + 1 : Int) * 32 ≤ 140737488355328 ∧ (m.length + 1 : Int) * 32 ≤ 140737488355328 ∧ (k.length : Int) ≤ 140737488351232 ∧ (v.length : Int) ≤ 140737488351232 ∧ (ks.length : Int) ≤ 140737488351232 ∧ (l.length : Int) ≤ 140737488351232 ∧ (m.length : Int) ≤ 140737488351232) := ⟨h1, h2, hk, hv, h3, ll, lm⟩
  have hnl0 : (nl : Int) ≤ 140737488351232 := by omega
  clear hT hl hm hks b0 b1 hB0 hsz hnl hnm hnk h1 h2 hk hv h3 ll lm
  have H1 : Hid (Calls Tryd.prog 6 #[.slice sa nl ca] W0 fun e w' => (∃ v, e = .returned v ∧ w'.ownsRow W0.heap.size 45 2 v l.length (atL l)) ∧ Below W0.heap.size W0 w') := by
    have h := lent_any sa ca l W0 (HL.out W0 (Below.refl _ _)) HBD.out.1
    rw [HNL.out.1] at h ⊢
    exact h
  go_upto_region 2 with (go_at_call 6; refine H1.out.mono ?_; rintro e w1 ⟨⟨v1, rfl, ho⟩, hb⟩; (have HO1 : Hid (w1.ownsRow W0.heap.size 45 2 v1 l.length (atL l) ∧ Below W0.heap.size W0 w1) := ⟨ho, hb⟩); clear ho hb H1; (obtain ⟨so, co, e1, hA1⟩ := own_ats HO1.out.1 HCL.out); subst e1; (have HA1 : Hid (Ats w1 so co l) := hA1); clear hA1)
  have HX1 : Hid (∀ V, Below w1.heap.size w1 V → V.cell? ⟨w.heap.size, 0, none⟩ = some (.slice sa nl ca)) := fun V hb => by
    have g := HO1.out.2.trans (hb.mono HO1.out.2.size)
    exact (g.cell (p := ⟨w.heap.size, 0, none⟩) (by have := HB0.out.2.2.2; show w.heap.size < _; omega)).trans HB0.out.1.cell
  have HW0 : Hid (∀ V, Below w1.heap.size w1 V → Below W0.heap.size W0 V) := fun V hb => HO1.out.2.trans (hb.mono HO1.out.2.size)
  obtain ⟨u, hu⟩ : ∃ u, (getI l k).getD [] = u := ⟨_, rfl⟩
  obtain ⟨gb, hgb⟩ : ∃ gb, (getI l k).isSome = gb := ⟨_, rfl⟩
  have H2 : Hid (∀ V, Below w1.heap.size w1 V → Calls Tryd.prog 18 #[.slice so l.length co, .string (tx k)] V fun e w' => e = .returned (.tuple #[.string (tx u), .bool gb]) ∧ Below w1.heap.size w1 w') := fun V hb => by
    have hA := HA1.out.later hb
    have h := get_any so co l k V hA.lie hA.cap HBD.out.2.2.2.2.2.1
    rw [getV_form, hu, hgb] at h
    exact h.mono fun e w' ⟨g1, g2⟩ => ⟨g1, hb.trans (g2.mono hb.size)⟩
  have H3 : Hid (∀ V, Below w1.heap.size w1 V → Calls Tryd.prog 19 #[.slice sa nl ca, .string (tx k)] V fun e w' => e = .returned (.tuple #[.string (tx u), .bool gb]) ∧ w' = V) := fun V hb => by
    have h := rget_any sa ca l k V (HL.out V (HW0.out V hb)) HBD.out.2.2.2.2.2.1
    rw [getV_form, hu, hgb, HNL.out.1] at h
    exact h
  obtain ⟨p, hp⟩ : ∃ p, setI l k v = p := ⟨_, rfl⟩
  obtain ⟨S, E⟩ := p
  have HSC : Hid ((∀ x ∈ S, Can x) ∧ S.length ≤ 16) := by
    have e : S = (setI l k v).1 := by rw [hp]
    rw [e]
    unfold setI
    refine ⟨make_can _ (fun x hx => ?_), make_le _⟩
    split at hx
    · rw [List.append_nil] at hx; exact (set_can l k v HCL.out HBD.out.2.2.1 HBD.out.2.2.2.1).1 x hx
    · exact (set_can l k v HCL.out HBD.out.2.2.1 HBD.out.2.2.2.1).2 x hx
  have H4 : Hid (∀ V, Below w1.heap.size w1 V → Calls Tryd.prog 20 #[.slice so l.length co, .string (tx k), .string (tx v)] V fun e w' => (∃ q, e = .returned (.tuple #[q, .int .i64 E]) ∧ w'.ownsRow V.heap.size 45 2 q S.length (atL S)) ∧ Below V.heap.size V w') := fun V hb => by
    have h := set_any so co l k v V (HA1.out.later hb) HBD.out.1 HBD.out.2.2.1 HBD.out.2.2.2.1 (HT.out V (HW0.out V hb))
    rw [hp] at h
    exact h
  have H5 : Hid (∀ V, Below w1.heap.size w1 V → Calls Tryd.prog 21 #[.slice sa nl ca, .string (tx k), .string (tx v)] V fun e w' => (∃ q, e = .returned (.tuple #[q, .int .i64 E]) ∧ w'.ownsRow V.heap.size 45 2 q S.length (atL S)) ∧ Below V.heap.size V w') := fun V hb => by
    have h := rset_any sa ca l k v V (HL.out V (HW0.out V hb)) HBD.out.1 HBD.out.2.2.1 HBD.out.2.2.2.1
    rw [hp, HNL.out.1] at h
    exact h
  obtain ⟨M, hM⟩ : ∃ M, woI l ks = M := ⟨_, rfl⟩
  have HMC : Hid ((∀ x ∈ M, Can x) ∧ (M.length : Int) ≤ 140737488351232) := by
    rw [← hM]
    exact ⟨fun x hx => HCL.out x (List.mem_filter.1 hx).1, by have h1 := wo_len l ks; have h2 := HBD.out.2.2.2.2.2.1; omega⟩
  have H6 : Hid (∀ V, Below w1.heap.size w1 V → Calls Tryd.prog 22 #[.slice so l.length co, .slice sk nk ck] V fun e w' => (∃ q, e = .returned q ∧ w'.ownsRow V.heap.size 45 2 q M.length (atL M)) ∧ Below V.heap.size V w') := fun V hb => by
    have h := without_any so sk co ck l ks V (HA1.out.later hb) (HK.out V (HW0.out V hb)) HBD.out.1 HBD.out.2.2.2.2.1
    rw [hM, HNL.out.2.2] at h
    exact h
  have H7 : Hid (∀ V, Below w1.heap.size w1 V → Calls Tryd.prog 23 #[.slice sa nl ca, .slice sk nk ck] V fun e w' => (∃ q, e = .returned q ∧ w'.ownsRow V.heap.size 45 2 q M.length (atL M)) ∧ Below V.heap.size V w') := fun V hb => by
    have h := rwithout_any sa sk ca ck l ks V (HL.out V (HW0.out V hb)) (HK.out V (HW0.out V hb)) HBD.out.1 HBD.out.2.2.2.2.1
    rw [hM, HNL.out.2.2, HNL.out.1] at h
    exact h
  obtain ⟨Y, hY⟩ : ∃ Y, cmpI l m = Y := ⟨_, rfl⟩
  have H8 : Hid (∀ V, Below w1.heap.size w1 V → Calls Tryd.prog 24 #[.slice so l.length co, .slice sm nm cm] V fun e w' => e = .returned (.int .i64 Y) ∧ Below V.heap.size V w') := fun V hb => by
    have h := cmp_any so sm co cm l m V (HA1.out.later hb) (HM.out V (HW0.out V hb)) HBD.out.2.2.2.2.2.1 HBD.out.2.2.2.2.2.2
    rw [hY, HNL.out.2.1] at h
    exact h
  have H9 : Hid (∀ V, Below w1.heap.size w1 V → Calls Tryd.prog 25 #[.slice sa nl ca, .slice sm nm cm] V fun e w' => e = .returned (.int .i64 Y) ∧ Below V.heap.size V w') := fun V hb => by
    have h := rcmp_any sa sm ca cm l m V (HL.out V (HW0.out V hb)) (HM.out V (HW0.out V hb)) HBD.out.2.2.2.2.2.1 HBD.out.2.2.2.2.2.2
    rw [hY, HNL.out.2.1, HNL.out.1] at h
    exact h
  clear hu hgb hp hM hY cX0
  have cX1 := HX1.out w1 (Below.refl _ _)
  go_upto_region 3 with (go_at_call 18; refine (H2.out w1 (Below.refl _ _)).mono ?_; rintro e w2 ⟨rfl, hb⟩; (have HB2 : Hid (Below w1.heap.size w1 w2) := hb); clear hb H2 cX1)
  have cX2 := HX1.out w2 HB2.out
  go_upto_region 4 with (go_at_call 19; refine (H3.out w2 HB2.out).mono ?_; rintro e w' ⟨rfl, hw'⟩; rw [hw']; clear hw' H3)
  go_upto_region 5 with (go_at_call 20; refine (H4.out w2 HB2.out).mono ?_; rintro e w4 ⟨⟨q4, rfl, ho⟩, hb⟩; (have HO4 : Hid (w4.ownsRow w2.heap.size 45 2 q4 S.length (atL S) ∧ Below w2.heap.size w2 w4) := ⟨ho, hb⟩); clear ho hb H4; (obtain ⟨s4, c4, e4, hA4⟩ := own_ats HO4.out.1 HSC.out.1); subst e4; (have HA4 : Hid (Ats w4 s4 c4 S) := hA4); clear hA4 cX2)
  have HB4 : Hid (Below w1.heap.size w1 w4) := HB2.out.trans (HO4.out.2.mono HB2.out.size)
  have cX4 := HX1.out w4 HB4.out
  go_upto_region 6 with (go_at_call 21; refine (H5.out w4 HB4.out).mono ?_; rintro e w5 ⟨⟨q5, rfl, ho⟩, hb⟩; (have HO5 : Hid (w5.ownsRow w4.heap.size 45 2 q5 S.length (atL S) ∧ Below w4.heap.size w4 w5) := ⟨ho, hb⟩); clear ho hb H5; (obtain ⟨s5, c5, e5, hA5⟩ := own_ats HO5.out.1 HSC.out.1); subst e5; (have HA5 : Hid (Ats w5 s5 c5 S) := hA5); clear hA5 cX4)
  have HB5 : Hid (Below w1.heap.size w1 w5) := HB4.out.trans (HO5.out.2.mono HB4.out.size)
  go_upto_region 7 with (go_at_call 22; refine (H6.out w5 HB5.out).mono ?_; rintro e w6 ⟨⟨q6, rfl, ho⟩, hb⟩; (have HO6 : Hid (w6.ownsRow w5.heap.size 45 2 q6 M.length (atL M) ∧ Below w5.heap.size w5 w6) := ⟨ho, hb⟩); clear ho hb H6; (obtain ⟨s6, c6, e6, hA6⟩ := own_ats HO6.out.1 HMC.out.1); subst e6; (have HA6 : Hid (Ats w6 s6 c6 M) := hA6); clear hA6)
  have HB6 : Hid (Below w1.heap.size w1 w6) := HB5.out.trans (HO6.out.2.mono HB5.out.size)
  have HA6' : Hid (Ats w6 s4 c4 S ∧ Ats w6 s5 c5 S) := ⟨(HA4.out.later HO5.out.2).later HO6.out.2, HA5.out.later HO6.out.2⟩
  obtain ⟨C, hC⟩ : ∃ C : World → Prop, C = Below w6.heap.size w6 := ⟨_, rfl⟩
  have HCD : Hid (C w6.drew) := by show C _; rw [hC]; exact (Below.refl _ w6).drew
  have HCB : Hid (∀ V, C V → Below w6.heap.size w6 V) := fun V h => by rw [hC] at h; exact h
  have HCT : Hid (∀ V V', C V → Below V.heap.size V V' → C V') := fun V V' h hb => by rw [hC] at h ⊢; exact h.trans (hb.mono h.size)
  have HC1 : Hid (∀ V, C V → Below w1.heap.size w1 V) := fun V h => HB6.out.trans ((HCB.out V h).mono HB6.out.size)
  have HCX : Hid (∀ V, C V → V.cell? ⟨w.heap.size, 0, none⟩ = some (.slice sa nl ca) ∧ C V) := fun V h => ⟨HX1.out V (HC1.out V h), h⟩
  clear hC
  have K9 : Hid (∀ V, C V → Calls Tryd.prog 9 #[.slice s4 S.length c4, .slice s5 S.length c5] V fun e w' => e = .returned (.bool true) ∧ C w') := fun V h => by
    have hb := HCB.out V h
    have g := same_any s4 s5 c4 c5 S S V (HA6'.out.1.later hb) (HA6'.out.2.later hb) (by have := HSC.out.2; omega) (by have := HSC.out.2; omega)
    rw [decide_eq_true rfl] at g
    exact g.mono fun e w' ⟨g1, g2⟩ => ⟨g1, HCT.out V w' h g2⟩
  have K23 : Hid (∀ V, C V → Calls Tryd.prog 23 #[.slice sa nl ca, .slice sk nk ck] V fun e w' => (∃ s c, e = .returned (.slice s M.length c) ∧ Ats w' s c M) ∧ C w') := fun V h => by
    exact (H7.out V (HC1.out V h)).mono fun e w' ⟨⟨q, g1, g2⟩, g3⟩ => by
      obtain ⟨s, c, e1, hA⟩ := own_ats g2 HMC.out.1
      subst e1
      exact ⟨⟨s, c, g1, hA⟩, HCT.out V w' h g3⟩
  have K9b : Hid (∀ V s c, C V → Ats V s c M → Calls Tryd.prog 9 #[.slice s6 M.length c6, .slice s M.length c] V fun e w' => e = .returned (.bool true) ∧ C w') := fun V s c h hA => by
    have hb := HCB.out V h
    have g := same_any s6 s c6 c M M V (HA6.out.later hb) hA HMC.out.2 HMC.out.2
    rw [decide_eq_true rfl] at g
    exact g.mono fun e w' ⟨g1, g2⟩ => ⟨g1, HCT.out V w' h g2⟩
  have K24 : Hid (∀ V, C V → Calls Tryd.prog 24 #[.slice so l.length co, .slice sm nm cm] V fun e w' => e = .returned (.int .i64 Y) ∧ C w') := fun V h => (H8.out V (HC1.out V h)).mono fun e w' ⟨g1, g2⟩ => ⟨g1, HCT.out V w' h g2⟩
  have K25 : Hid (∀ V, C V → Calls Tryd.prog 25 #[.slice sa nl ca, .slice sm nm cm] V fun e w' => e = .returned (.int .i64 Y) ∧ C w') := fun V h => (H9.out V (HC1.out V h)).mono fun e w' ⟨g1, g2⟩ => ⟨g1, HCT.out V w' h g2⟩
  have hbe : ((E : Int) != E) = false := by simp
  have hby : ((Y : Int) != Y) = false := by simp
  have hbg : (gb != gb) = false := by simp
  have hbu : ((tx u).toList != (tx u).toList) = false := by simp
  have dX : w6.drew.cell? ⟨w.heap.size, 0, none⟩ = some (.slice sa nl ca) := (HCX.out _ HCD.out).1
  have dC : C w6.drew := HCD.out
  go_region_held3 (fun w' => w'.cell? ⟨w.heap.size, 0, none⟩ = some (.slice sa nl ca) ∧ C w') (first | go_keep | exact K7 | exact KA | exact KB | exact KC | exact KD) (first | (go_at_call 9; refine (K9.out _ dC).mono ?_; rintro e x1 ⟨rfl, hb⟩; (have KA := HCX.out x1 hb); clear hb K9) | (go_at_call 23; refine (K23.out x1 KA.2).mono ?_; rintro e x2 ⟨⟨s7, c7, rfl, hA⟩, hb⟩; (have KB := HCX.out x2 hb); (have HA7 : Hid (Ats x2 s7 c7 M) := hA); clear hb hA) | (go_at_call 9; refine (K9b.out x2 s7 c7 KB.2 HA7.out).mono ?_; rintro e x3 ⟨rfl, hb⟩; (have KC := HCX.out x3 hb); clear hb) | (go_at_call 24; (first | refine (K24.out x5 K7.2).mono ?_ | refine (K24.out x3 KC.2).mono ?_); rintro e x4 ⟨rfl, hb⟩; (have KD := HCX.out x4 hb); clear hb) | (go_at_call 25; (first | refine (K25.out x4 KD.2).mono ?_ | refine (K25.out x3 KC.2).mono ?_); rintro e x5 ⟨rfl, hb⟩; (have K7 := HCX.out x5 hb); clear hb))
  have hb65 : Below w6.heap.size w6 x5 := HCB.out x5 K7.2
  have HC5 : Hid (Below w1.heap.size w1 x5) := HC1.out x5 K7.2
  have HO9 : Hid (x5.ownsRow w2.heap.size 45 2 (.slice s4 S.length c4) S.length (atL S) ∧ x5.ownsRow w5.heap.size 45 2 (.slice s6 M.length c6) M.length (atL M)) :=
    ⟨own_at HO4.out.1 fun q hq => by
      have h4 := (HO4.out.1.lt q hq).2
      have h5 := HO5.out.2.size
      have h6 := HO6.out.2.size
      exact (hb65.block q (by omega)).trans ((HO6.out.2.block q (by omega)).trans (HO5.out.2.block q h4)), own_at HO6.out.1 fun q hq => hb65.block q (HO6.out.1.lt q hq).2⟩
  have HSP : Hid (Calls Tryd.prog 12 #[.slice s4 S.length c4] x5 fun e w' => e = .returned (.tuple #[]) ∧ x5.grownBy w' (Value.slice s4 S.length c4).ownBlock) := spoil_any _ _ S x5 HO9.out.1 (by have := HSC.out.2; omega)
  clear hb65 K7 KA KB KC KD HA7 K9b K23 K24 K25 HCD HCB HCT HC1 HCX dX dC
  go_upto_region 10 with (go_at_call 12; refine HSP.out.mono ?_; rintro e x6 ⟨rfl, hg⟩; (have HG6 : Hid (x5.grownBy x6 (Value.slice s4 S.length c4).ownBlock) := hg); clear hg)
  have HB6x : Hid (Below w1.heap.size w1 x6) := HC5.out.trans ⟨HG6.out.os, HG6.out.tape, HG6.out.output, HG6.out.size, fun q hq => HG6.out.block q (Nat.lt_of_lt_of_le hq HC5.out.size) (fun e => by have h1 := (HO4.out.1.lt q e.symm).1; have h2 := HB2.out.size; omega)⟩
  have HO9c : Hid (x6.ownsRow w5.heap.size 45 2 (.slice s6 M.length c6) M.length (atL M)) := own_grown45 HO9.out.2 HG6.out (fun q hq e => by have h1 := (HO4.out.1.lt q e).2; have h2 := (HO6.out.1.lt q hq).1; have h3 := HO5.out.2.size; omega)
  have HSQ : Hid (Calls Tryd.prog 12 #[.slice s6 M.length c6] x6 fun e w' => e = .returned (.tuple #[]) ∧ x6.grownBy w' (Value.slice s6 M.length c6).ownBlock) := spoil_any _ _ M x6 HO9c.out HMC.out.2
  go_upto_region 11 with (go_at_call 12; refine HSQ.out.mono ?_; rintro e x7 ⟨rfl, hg⟩; (have HG7 : Hid (x6.grownBy x7 (Value.slice s6 M.length c6).ownBlock) := hg); clear hg)
  have HB7x : Hid (Below w1.heap.size w1 x7) := HB6x.out.trans ⟨HG7.out.os, HG7.out.tape, HG7.out.output, HG7.out.size, fun q hq => HG7.out.block q (Nat.lt_of_lt_of_le hq HB6x.out.size) (fun e => by have h1 := (HO6.out.1.lt q e.symm).1; have h2 := HB5.out.size; omega)⟩
  go_upto_region 12 with fail
  obtain ⟨W1, hW1⟩ : ∃ W1, x7.alloc (.cells #[.int .i64 0] 3) = W1 := ⟨_, rfl⟩
  obtain ⟨N, hN⟩ : ∃ N, x7.heap.size = N := ⟨_, rfl⟩
  have HW1 : Hid (Boxed W1 N 3 (.int .i64 0) ∧ Below w1.heap.size w1 W1 ∧ N < W1.heap.size ∧ w1.heap.size ≤ N) := by
    rw [← hW1, ← hN]
    exact ⟨Go.heap_alloc_new _ _, HB7x.out.trans ((bel1 _ _).mono HB7x.out.size), by simp, HB7x.out.size⟩
  have H26 : Hid (Calls Tryd.prog 26 #[.slice so l.length co] W1 fun e w' => (∃ B s c, e = .returned (.func (.func 52) #[] #[.pointer (some ⟨B, 0, none⟩)]) ∧ W1.heap.size ≤ B ∧ B < w'.heap.size ∧ w'.cell? ⟨B, 0, none⟩ = some (.slice s l.length c) ∧ Ats w' s c l ∧ ∀ b off, s = some ⟨b, off, none⟩ → W1.heap.size ≤ b) ∧ Below W1.heap.size W1 w') := each_any so co l W1 (HA1.out.later HW1.out.2.1) HBD.out.1
  rw [hW1, hN]
  clear hW1 hN
  go_upto_region 13 with (go_at_call 26; refine H26.out.mono ?_; rintro e x8 ⟨⟨B, s8, c8, rfl, g1, g2, g3, g4⟩, hb⟩; (have HE8 : Hid ((W1.heap.size ≤ B ∧ B < x8.heap.size ∧ x8.cell? ⟨B, 0, none⟩ = some (.slice s8 l.length c8) ∧ Ats x8 s8 c8 l ∧ ∀ b off, s8 = some ⟨b, off, none⟩ → W1.heap.size ≤ b) ∧ Below W1.heap.size W1 x8) := ⟨⟨g1, g2, g3, g4⟩, hb⟩); clear g1 g2 g3 g4 hb)
  have hqn : ∀ w, (binOp .eql 42 (.func (.func 52) #[] #[.pointer (some ⟨B, 0, none⟩)]) .nilFunc).run Tryd.prog w = .ok (.bool false) w := fun w => by kernel_rfl
  go_wp2_with fail
  have HLW : Hid (∀ W, Below N x8 W → Below w1.heap.size w1 W) := fun W hb => HW1.out.2.1.trans ((HE8.out.2.mono HW1.out.2.1.size).trans (hb.mono HW1.out.2.2.2))
  have HRB : Hid (∀ W, Below N x8 W → Boxed W (w.heap.size + 1) 4 (.bool false)) := fun W hb => ((HW0.out W (HLW.out W hb)).block (w.heap.size + 1) (by have := HB0.out.2.2.2; omega)).trans HB0.out.2.1
  have HNx : Hid (N < x8.heap.size) := Nat.lt_of_lt_of_le HW1.out.2.2.1 HE8.out.2.size
  have HSM : Hid (∀ V, Below w1.heap.size w1 V → Calls Tryd.prog 9 #[.slice so l.length co, .slice sa nl ca] V fun e w' => e = .returned (.bool true) ∧ Below V.heap.size V w') := fun V hb => by
    have h := same_any so sa co ca l l V (HA1.out.later hb) (HL.out V (HW0.out V hb)) HBD.out.2.2.2.2.2.1 HBD.out.2.2.2.2.2.1
    rw [decide_eq_true rfl, HNL.out.1] at h
    rw [HNL.out.1]
    exact h
  have HKN : Hid (∀ V, Below w1.heap.size w1 V → Calls Tryd.prog 17 #[] V fun e w' => e = .returned (.bool true) ∧ Below V.heap.size V w') := fun V hb => known_any V (HT.out V (HW0.out V hb))
  have HWB : Hid (∀ V, Below w1.heap.size w1 V → Below w.heap.size w V) := fun V hb => HB0.out.2.2.1.trans ((HW0.out V hb).mono HB0.out.2.2.1.size)
  refine (wpIn_wide (n := 5)).1 ?_
  refine rng1 w.heap.size N B nl ca c8 sa s8 l x8 _ HNL.out.1 hnl0 (fun W hb => HX1.out W (HLW.out W hb)) HRB.out (fun W hb => HL.out W (HW0.out W (HLW.out W hb))) ((HE8.out.2.block N HW1.out.2.2.1).trans HW1.out.1) HNx.out HE8.out.1.2.1 HE8.out.1.2.2.1 HE8.out.1.2.2.2.1 (fun b off e => by have h1 := HE8.out.1.2.2.2.2 b off e; have h2 := HW1.out.2.2.1; omega) ?_
  intro D1 W9 hD1 hb9 hB9 hK9 hd1
  have HN9 : Hid (Boxed W9 N 3 (.int .i64 (nl : Int)) ∧ Below N x8 W9 ∧ W9.heap[D1]? = some (.deferred (some [])) ∧ x8.heap.size ≤ D1) := ⟨by rw [HNL.out.1] at hb9; exact hb9, hB9, hd1, hD1⟩
  have HA9 : Hid (Ats W9 s8 c8 l ∧ W9.cell? ⟨B, 0, none⟩ = some (.slice s8 l.length c8) ∧ B < W9.heap.size) := by
    have hW := HW1.out.2.2.1
    have hx := HE8.out.1
    refine ⟨⟨hx.2.2.2.1.cap, fun i x hi => ?_, hx.2.2.2.1.can⟩, (hK9.cell (p := ⟨B, 0, none⟩) hx.2.1 (by have := hx.1; show B ≠ N; omega)).trans hx.2.2.1, Nat.lt_of_lt_of_le hx.2.1 hK9.size⟩
    obtain ⟨b, off, e1, e2, e3⟩ := hx.2.2.2.1.cells i x hi
    have hb : b < x8.heap.size := World.block_lt_of_cell? x8 _ e2
    have hne : b ≠ N := by have := hx.2.2.2.2 b off e1; omega
    exact ⟨b, off, e1, (hK9.cell (p := ⟨b, off + i * 2, none⟩) hb hne).trans e2, (hK9.cell (p := ⟨b, off + i * 2 + 1, none⟩) hb hne).trans e3⟩
  clear hb9 hB9 hK9 hd1 hD1
  go_wp2_with fail
  refine (wpIn_wide (n := 5)).1 ?_
  refine rng2 w.heap.size N B c8 s8 l W9 _ HBD.out.2.2.2.2.2.1 (World.block_lt_of_cell? W9 _ HN9.out.1.cell) _ HN9.out.1 HA9.out.2.2 HA9.out.2.1 HA9.out.1 (fun b off e => by have h1 := HE8.out.1.2.2.2.2 b off e; have h2 := HW1.out.2.2.1; omega) ?_
  intro D2 W10 hD2 hb10 hB10 hd2
  have HD : Hid (W10.heap[D2]? = some (.deferred (some [])) ∧ W10.heap[D1]? = some (.deferred (some [])) ∧ D1 < W9.heap.size ∧ W9.heap.size ≤ D2) := ⟨hd2, (hB10.block D1 (Array.getElem?_eq_some_iff.1 HN9.out.2.2.1).1).trans HN9.out.2.2.1, (Array.getElem?_eq_some_iff.1 HN9.out.2.2.1).1, hD2⟩
  have HX10 : Hid (Below N x8 W10 ∧ Below w1.heap.size w1 W10 ∧ Boxed W10 N 3 (.int .i64 (nl : Int))) := by
    have h : Below N x8 W10 := HN9.out.2.1.trans (hB10.mono (Nat.le_trans (Nat.le_of_lt HNx.out) HN9.out.2.1.size))
    exact ⟨h, HLW.out _ h, hb10⟩
  have cN := HX10.out.2.2.cell
  have cX := HX1.out W10 HX10.out.2.1
  clear hb10 hB10 hd2 hD2
  refine ⟨?_, ?_⟩
  all_goals
    go_upto_region 22 with fail
    go_wp2_with (first | (go_at_call 9; refine (HSM.out W10 HX10.out.2.1).mono ?_; rintro e z1 ⟨rfl, hb⟩; (have HZ1 : Hid (Below W10.heap.size W10 z1) := hb); clear hb) | (go_at_call 17; refine (HKN.out z1 (HX10.out.2.1.trans (HZ1.out.mono HX10.out.2.1.size))).mono ?_; rintro e z2 ⟨rfl, hb⟩; (have HZ2 : Hid (Below W10.heap.size W10 z2) := HZ1.out.trans (hb.mono HZ1.out.size)); clear hb; (have bR := (HZ2.out.block (w.heap.size + 1) (by have h1 := HB0.out.2.2.2; have h2 := HO1.out.2.size; have h3 := HX10.out.2.1.size; omega)).trans (HRB.out W10 HX10.out.1)); (have cR := Boxed.cell bR); (have fR := Boxed.frozen bR); (have HRZ : Hid (Boxed z2 (w.heap.size + 1) 4 (.bool false)) := bR); clear bR))
    exact end_picks rfl HRZ.out ((HZ2.out.block D1 (Array.getElem?_eq_some_iff.1 HD.out.2.1).1).trans HD.out.2.1) ((HZ2.out.block D2 (Array.getElem?_eq_some_iff.1 HD.out.1).1).trans HD.out.1) (by have h1 := HD.out.2.2.1; have h2 := HD.out.2.2.2; omega) w ((HWB.out W10 HX10.out.2.1).trans (HZ2.out.mono (HWB.out W10 HX10.out.2.1).size)) (Nat.le_refl _) (by have h1 := HN9.out.2.2.2; have h2 := HB0.out.2.2.1.size; have h3 := HO1.out.2.size; have h4 := HW1.out.2.2.2; have h5 := HNx.out; omega) (by have h1 := HN9.out.2.2.2; have h2 := HB0.out.2.2.1.size; have h3 := HO1.out.2.size; have h4 := HW1.out.2.2.2; have h5 := HNx.out; have h6 := HD.out.2.2.1; have h7 := HD.out.2.2.2; omega)
end Go.Proofs.YtnfocmoieofbpaaDoor
