/- The law of the order. -/
import Derived.Test.YtnfocmoieofbpaaDoorH1
import Derived.Test.YtnfocmoieofbpaaDoorG1
namespace Go.Proofs.YtnfocmoieofbpaaDoor
open Go.RowKit Go.Shelf
set_option linter.unusedVariables false
set_option linter.unusedSimpArgs false

theorem cs_range (a b : List UInt8) : -1 ≤ csI a b ∧ csI a b ≤ 1 := by
  rw [cs_def]
  repeat' split
  all_goals omega
theorem cmp_range : ∀ a b : List At, -1 ≤ cmpI a b ∧ cmpI a b ≤ 1
  | [], [] => by show (-1 : Int) ≤ 0 ∧ (0 : Int) ≤ 1; omega
  | [], _ :: _ => by show (-1 : Int) ≤ -1 ∧ (-1 : Int) ≤ 1; omega
  | _ :: _, [] => by show (-1 : Int) ≤ 1 ∧ (1 : Int) ≤ 1; omega
  | x :: l, y :: m => by
    have ih := cmp_range l m
    have h1 := cs_range x.1 y.1
    have h2 := cs_range x.2 y.2
    show -1 ≤ (if csI x.1 y.1 = 0 then (if csI x.2 y.2 = 0 then cmpI l m else csI x.2 y.2) else csI x.1 y.1) ∧ (if csI x.1 y.1 = 0 then (if csI x.2 y.2 = 0 then cmpI l m else csI x.2 y.2) else csI x.1 y.1) ≤ 1
    repeat' split
    all_goals omega
theorem tx_empty {v : List UInt8} (h : v ≠ []) : (tx v).toList.isEmpty = false := by rw [tx_list]; cases v with | nil => exact (h rfl).elim | cons a r => rfl
theorem tx_nil {v : List UInt8} (h : v ≠ []) : ¬ (tx v).toList = [] := by rw [tx_list]; cases v with | nil => exact (h rfl).elim | cons a r => (intro e; cases e)
theorem getV_form (o : Option (List UInt8)) : getV o = .tuple #[.string (tx (o.getD [])), .bool o.isSome] := by cases o <;> rfl
set_option maxRecDepth 20000 in
set_option maxHeartbeats 16000000 in
theorem order_law (sa sb sc : Option Addr) (ca cb cc : Nat) (a b c : List At) (k v : List UInt8) (w : World) (ha : Ats w sa ca a) (hb : Ats w sb cb b) (hc : Ats w sc cc c) (h1 : (a.length + 1 : Int) * 32 ≤ 140737488355328) (h2 : (b.length + 1 : Int) * 32 ≤ 140737488355328) (h3 : (c.length + 1 : Int) * 32 ≤ 140737488355328) (hk : (k.length : Int) ≤ 140737488351232) (hv : (v.length : Int) ≤ 140737488351232) (hT : Tabs w) :
    Calls Tryd.prog 5 #[.slice sa a.length ca, .slice sb b.length cb, .slice sc c.length cc, .string (tx k), .string (tx v)] w fun e w' => e = .returned (.bool true) ∧ Below w.heap.size w w' := by
  have HA : Hid (Ats w sa ca a ∧ Ats w sb cb b ∧ Ats w sc cc c ∧ Tabs w) := ⟨ha, hb, hc, hT⟩
  have la : (a.length : Int) ≤ 140737488351232 := by omega
  have lb : (b.length : Int) ≤ 140737488351232 := by omega
  have lc : (c.length : Int) ≤ 140737488351232 := by omega
  obtain ⟨X, hX⟩ : ∃ X, cmpI a b = X := ⟨_, rfl⟩
  obtain ⟨Y, hY⟩ : ∃ Y, cmpI b c = Y := ⟨_, rfl⟩
  obtain ⟨Z, hZ⟩ : ∃ Z, cmpI a c = Z := ⟨_, rfl⟩
  have hXr : -1 ≤ X ∧ X ≤ 1 := by rw [← hX]; exact cmp_range a b
  have x0 := hXr.1
  have x1 := hXr.2
  have HZ : Hid (X ≤ 0 → Y ≤ 0 → Z ≤ 0) := fun p q => by rw [← hZ]; exact cmp_trans a b c (by rw [hX]; exact p) (by rw [hY]; exact q)
  have H1 : Hid (∀ W, Below w.heap.size w W → Calls Tryd.prog 24 #[.slice sa a.length ca, .slice sb b.length cb] W fun e w' => e = .returned (.int .i64 X) ∧ Below w.heap.size w w') := fun W hb' => by rw [← hX]; exact (cmp_any sa sb ca cb a b W (HA.out.1.later hb') (HA.out.2.1.later hb') la lb).mono fun e w' ⟨g1, g2⟩ => ⟨g1, hb'.trans (g2.mono hb'.size)⟩
  have H2 : Hid (∀ W, Below w.heap.size w W → Calls Tryd.prog 24 #[.slice sb b.length cb, .slice sc c.length cc] W fun e w' => e = .returned (.int .i64 Y) ∧ Below w.heap.size w w') := fun W hb' => by rw [← hY]; exact (cmp_any sb sc cb cc b c W (HA.out.2.1.later hb') (HA.out.2.2.1.later hb') lb lc).mono fun e w' ⟨g1, g2⟩ => ⟨g1, hb'.trans (g2.mono hb'.size)⟩
  have H3 : Hid (∀ W, Below w.heap.size w W → Calls Tryd.prog 24 #[.slice sb b.length cb, .slice sa a.length ca] W fun e w' => e = .returned (.int .i64 (-X)) ∧ Below w.heap.size w w') := fun W hb' => by
    have e : cmpI b a = -X := by rw [cmp_anti b a, hX]
    rw [← e]
    exact (cmp_any sb sa cb ca b a W (HA.out.2.1.later hb') (HA.out.1.later hb') lb la).mono fun e w' ⟨g1, g2⟩ => ⟨g1, hb'.trans (g2.mono hb'.size)⟩
  have H4 : Hid (∀ W, Below w.heap.size w W → Calls Tryd.prog 24 #[.slice sa a.length ca, .slice sc c.length cc] W fun e w' => e = .returned (.int .i64 Z) ∧ Below w.heap.size w w') := fun W hb' => by rw [← hZ]; exact (cmp_any sa sc ca cc a c W (HA.out.1.later hb') (HA.out.2.2.1.later hb') la lc).mono fun e w' ⟨g1, g2⟩ => ⟨g1, hb'.trans (g2.mono hb'.size)⟩
  have hxz : (X == 0) = decide (a = b) := by rw [← hX, ← cmp_bool]; rfl
  obtain ⟨r, hr⟩ : ∃ r, decide (a = b) = r := ⟨_, rfl⟩
  rw [hr] at hxz
  have H5 : Hid (∀ W, Below w.heap.size w W → Calls Tryd.prog 9 #[.slice sa a.length ca, .slice sb b.length cb] W fun e w' => e = .returned (.bool r) ∧ Below w.heap.size w w') := fun W hb' => by rw [← hr]; exact (same_any sa sb ca cb a b W (HA.out.1.later hb') (HA.out.2.1.later hb') la lb).mono fun e w' ⟨g1, g2⟩ => ⟨g1, hb'.trans (g2.mono hb'.size)⟩
  obtain ⟨p, hp⟩ : ∃ p, setI a k v = p := ⟨_, rfl⟩
  obtain ⟨S, E⟩ := p
  have HSC : Hid ((∀ x ∈ S, Can x) ∧ S.length ≤ 16) := by
    have e : S = (setI a k v).1 := by rw [hp]
    rw [e]
    unfold setI
    refine ⟨make_can _ (fun x hx => ?_), make_le _⟩
    split at hx
    · rw [List.append_nil] at hx; exact (set_can a k v ha.can hk hv).1 x hx
    · exact (set_can a k v ha.can hk hv).2 x hx
  have H6 : Hid (∀ W, Below w.heap.size w W → Calls Tryd.prog 20 #[.slice sa a.length ca, .string (tx k), .string (tx v)] W fun e w' => (∃ q, e = .returned (.tuple #[q, .int .i64 E]) ∧ w'.ownsRow W.heap.size 45 2 q S.length (atL S)) ∧ Below w.heap.size w w') := fun W hb' => by
    have h := set_any sa ca a k v W (HA.out.1.later hb') h1 hk hv (HA.out.2.2.2.later hb')
    rw [hp] at h
    exact h.mono fun e w' ⟨g1, g2⟩ => ⟨g1, hb'.trans (g2.mono hb'.size)⟩
  have HST : Hid (E = 0 → v ≠ [] → getI S k = some v ∧ rightI S = 0) := fun e hv' => by subst e; exact set_tells a k v S hv' hp
  obtain ⟨u, hu⟩ : ∃ u, (getI a k).getD [] = u := ⟨_, rfl⟩
  obtain ⟨gb, hgb⟩ : ∃ gb, (getI a k).isSome = gb := ⟨_, rfl⟩
  have HUL : Hid ((u.length : Int) ≤ 140737488351232) := by
    show _ ≤ _
    rw [← hu]
    cases hg : getI a k with
    | none => simp
    | some z => exact (ha.can _ (get_some_mem a k z hg)).2
  have H7 : Hid (∀ W, Below w.heap.size w W → Calls Tryd.prog 18 #[.slice sa a.length ca, .string (tx k)] W fun e w' => e = .returned (.tuple #[.string (tx u), .bool gb]) ∧ Below w.heap.size w w') := fun W hb' => by
    have hA := HA.out.1.later hb'
    have h := get_any sa ca a k W hA.lie hA.cap la
    rw [getV_form, hu, hgb] at h
    exact h.mono fun e w' ⟨g1, g2⟩ => ⟨g1, hb'.trans (g2.mono hb'.size)⟩
  have H8 : Hid (rightI a = 0 → ∀ W, Below w.heap.size w W → Calls Tryd.prog 20 #[.slice sa a.length ca, .string (tx k), .string (tx u)] W fun e w' => (∃ q, e = .returned (.tuple #[q, .int .i64 0]) ∧ w'.ownsRow W.heap.size 45 2 q a.length (atL a)) ∧ Below w.heap.size w w') := fun h0 W hb' => by
    have h := set_any sa ca a k u W (HA.out.1.later hb') h1 hk HUL.out (HA.out.2.2.2.later hb')
    rw [show setI a k u = (a, 0) by rw [← hu]; exact set_same a k h0] at h
    exact h.mono fun e w' ⟨g1, g2⟩ => ⟨g1, hb'.trans (g2.mono hb'.size)⟩
  obtain ⟨ra, hra⟩ : ∃ ra, rightI a = ra := ⟨_, rfl⟩
  have H9 : Hid (∀ W, Below w.heap.size w W → Calls Tryd.prog 11 #[.slice sa a.length ca] W fun e w' => e = .returned (.int .i64 ra) ∧ Below w.heap.size w w') := fun W hb' => by rw [← hra]; exact (rright_any sa ca a W (HA.out.1.later hb') la).mono fun e w' ⟨g1, g2⟩ => ⟨g1, hb'.trans (g2.mono hb'.size)⟩
  rw [hra] at H8
  have HOS : Hid (∀ q W W' B, W.ownsRow B 45 2 q S.length (atL S) → v ≠ [] → E = 0 → Below W.heap.size W W' → Below w.heap.size w W' → (Calls Tryd.prog 18 #[q, .string (tx k)] W' fun e w' => e = .returned (.tuple #[.string (tx v), .bool true]) ∧ Below W'.heap.size W' w') ∧ (Calls Tryd.prog 11 #[q] W' fun e w' => e = .returned (.int .i64 0) ∧ Below W'.heap.size W' w')) := fun q W W' B ho hv' hE hb' hbw => by
    obtain ⟨so, co, e4, hS⟩ := own_ats ho HSC.out.1
    rw [e4]
    have hS' := hS.later hb'
    have hl : (S.length : Int) ≤ 140737488351232 := by have := HSC.out.2; omega
    have g1 := get_any so co S k W' hS'.lie hS'.cap hl
    have g2 := rright_any so co S W' hS' hl
    rw [(HST.out hE hv').1] at g1
    rw [(HST.out hE hv').2] at g2
    exact ⟨g1, g2⟩
  have HOA : Hid (∀ q W W' B, W.ownsRow B 45 2 q a.length (atL a) → Below W.heap.size W W' → Below w.heap.size w W' → Calls Tryd.prog 9 #[q, .slice sa a.length ca] W' fun e w' => e = .returned (.bool true) ∧ Below w.heap.size w w') := fun q W W' B ho hb' hbw => by
    obtain ⟨so, co, e4, hS⟩ := own_ats ho HA.out.1.can
    rw [e4]
    have h := same_any so sa co ca a a W' (hS.later hb') (HA.out.1.later hbw) la la
    rw [decide_eq_true rfl] at h
    exact h.mono fun e w' ⟨g1, g2⟩ => ⟨g1, hbw.trans (g2.mono hbw.size)⟩
  have HWC : Hid (∀ x ∈ woI a [k], Can x) := fun x hx => ha.can x (List.mem_filter.1 hx).1
  have HWL : Hid ((woI a [k]).length ≤ a.length) := wo_len a [k]
  have H10 : Hid (∀ W, Below w.heap.size w W → Calls Tryd.prog 22 #[.slice sa a.length ca, .slice (some ⟨W.heap.size, 0, none⟩) 1 1] (W.alloc (.cells #[.string (tx k)] 9)) fun e w' => (∃ q, e = .returned q ∧ w'.ownsRow W.heap.size 45 2 q (woI a [k]).length (atL (woI a [k]))) ∧ Below w.heap.size w w') := fun W hb' => by
    have hb1 : Below W.heap.size W (W.alloc (.cells #[.string (tx k)] 9)) := bel1 _ _
    have hb2 := hb'.trans (hb1.mono hb'.size)
    exact (without_any sa (some ⟨W.heap.size, 0, none⟩) ca 1 a [k] _ (HA.out.1.later hb2) (key_txs W k) h1 (by simp)).mono fun e w' ⟨⟨q, g1, g2⟩, g3⟩ => ⟨⟨q, g1, own_low g2 hb1.size⟩, hb2.trans (g3.mono hb2.size)⟩
  obtain ⟨M, hM⟩ : ∃ M, woI a [k] = M := ⟨_, rfl⟩
  have H11 : Hid (∀ q W, W.ownsRow w.heap.size 45 2 q M.length (atL M) → Below w.heap.size w W → Calls Tryd.prog 22 #[q, .slice (some ⟨W.heap.size, 0, none⟩) 1 1] (W.alloc (.cells #[.string (tx k)] 9)) fun e w' => (∃ q2, e = .returned q2 ∧ w'.ownsRow W.heap.size 45 2 q2 M.length (atL M)) ∧ Below W.heap.size W w') := fun q W ho hb' => by
    obtain ⟨so, co, e4, hS⟩ := own_ats ho (by rw [← hM]; exact HWC.out)
    rw [e4]
    have hb1 : Below W.heap.size W (W.alloc (.cells #[.string (tx k)] 9)) := bel1 _ _
    have h := without_any so (some ⟨W.heap.size, 0, none⟩) co 1 M [k] _ (hS.later hb1) (key_txs W k) (by rw [← hM]; have := HWL.out; omega) (by simp)
    rw [show woI M [k] = M by rw [← hM]; exact wo_wo a k] at h
    exact h.mono fun e w' ⟨⟨q, g1, g2⟩, g3⟩ => ⟨⟨q, g1, own_low g2 hb1.size⟩, hb1.trans (g3.mono hb1.size)⟩
  have H12 : Hid (∀ q q2 W1 W B B2, W1.ownsRow B 45 2 q M.length (atL M) → Below W1.heap.size W1 W → W.ownsRow B2 45 2 q2 M.length (atL M) → Below w.heap.size w W → Calls Tryd.prog 9 #[q2, q] W fun e w' => e = .returned (.bool true) ∧ Below w.heap.size w w') := fun q q2 W1 W B B2 ho hbb ho2 hb' => by
    obtain ⟨so, co, e4, hS⟩ := own_ats ho (by rw [← hM]; exact HWC.out)
    obtain ⟨so2, co2, e5, hS2⟩ := own_ats ho2 (by rw [← hM]; exact HWC.out)
    rw [e4, e5]
    have hl : (M.length : Int) ≤ 140737488351232 := by rw [← hM]; have := HWL.out; omega
    have h := same_any so2 so co2 co M M W hS2 (hS.later hbb) hl hl
    rw [decide_eq_true rfl] at h
    exact h.mono fun e w' ⟨g1, g2⟩ => ⟨g1, hb'.trans (g2.mono hb'.size)⟩
  have H13 : Hid (∀ W, Below w.heap.size w W → Calls Tryd.prog 17 #[] W fun e w' => e = .returned (.bool true) ∧ Below w.heap.size w w') := fun W hb' => (known_any W (HA.out.2.2.2.later hb')).mono fun e w' ⟨g1, g2⟩ => ⟨g1, hb'.trans (g2.mono hb'.size)⟩
  rw [hM] at H10
  have hve : Hid (v = [] ∨ v ≠ []) := by
    show _ ∨ _
    cases v <;> simp
  have HXZ : Hid ((X == 0) = r) := hxz
  rw [hM] at HWC
  clear ha hb hc hT hX hY hZ hp hu hgb hra hM hXr hr hxz
  have HRA : Hid (ra = 0 ∨ ra ≠ 0) := Decidable.em _
  have HE : Hid (E ≠ 0 ∨ E = 0) := (Decidable.em (E = 0)).symm
  have HMC : Hid (∀ x ∈ M, Can x) := HWC.out
  have HX : Hid (-1 ≤ X ∧ X ≤ 1) := ⟨x0, x1⟩
  clear x0 x1
  go_enter Tryd.func5, Tryd.ntmps5
  go_upto_region 2 with (go_at_call 24; refine (H1.out w (Below.refl _ _)).mono ?_; rintro e w1 ⟨rfl, hb'⟩; (have HB1 : Hid (Below w.heap.size w w1) := hb'); clear hb' H1)
  go_upto_region 3 with (go_at_call 24; refine (H2.out w1 HB1.out).mono ?_; rintro e w2 ⟨rfl, hb'⟩; (have HB2 : Hid (Below w.heap.size w w2) := hb'); clear hb' H2)
  have hX3 : X = -1 ∨ X = 0 ∨ X = 1 := by have := HX.out.1; have := HX.out.2; omega
  by_cases hy0 : Y ≤ 0
  · have HY : Hid (Y ≤ 0) := hy0
    have hy : decide (Y ≤ 0) = true := decide_eq_true hy0
    clear hy0
    rcases hX3 with rfl | rfl | rfl
    · obtain rfl : false = r := HXZ.out
      rw [show -(-1 : Int) = 1 by rfl] at H3
      have hz : decide (0 < Z) = false := decide_eq_false (by have := HZ.out (by omega) HY.out; omega)
      go_upto_region 5 with (first | (go_at_call 24; refine (H3.out w2 HB2.out).mono ?_; rintro e w3 ⟨rfl, hb'⟩; (have HB3 : Hid (Below w.heap.size w w3) := hb'); clear hb' H3) | (go_at_call 9; refine (H5.out w3 HB3.out).mono ?_; rintro e w4 ⟨rfl, hb'⟩; (have HB4 : Hid (Below w.heap.size w w4) := hb'); clear hb') | (go_at_call 24; refine (H4.out w4 HB4.out).mono ?_; rintro e w5 ⟨rfl, hb'⟩; (have HB5 : Hid (Below w.heap.size w w5) := hb'); clear hb'))
      go_upto_region 6 with (go_at_call 20; refine (H6.out w5 HB5.out).mono ?_; rintro e v6 ⟨⟨q6, rfl, ho⟩, hb'⟩; (have HO6 : Hid (v6.ownsRow w5.heap.size 45 2 q6 S.length (atL S) ∧ Below w.heap.size w v6) := ⟨ho, hb'⟩); clear ho hb' H6; (obtain ⟨s6, c6, e6, -⟩ := own_ats HO6.out.1 HSC.out.1); subst e6)
      rcases HE.out with hE0 | hE0
      · have hE1 : (E == 0) = false := by simpa using hE0
        clear hE0
        go_upto_region 10 with (fail)
        rcases HRA.out with hra0 | hra0
        · subst hra0
          go_upto_region 11 with (go_at_call 11; refine (H9.out v6 HO6.out.2).mono ?_; rintro e y1 ⟨rfl, hb'⟩; (have HY1 : Hid (Below w.heap.size w y1) := hb'); clear hb' H9)
          go_upto_region 12 with (go_at_call 18; refine (H7.out y1 HY1.out).mono ?_; rintro e y2 ⟨rfl, hb'⟩; (have HY2 : Hid (Below w.heap.size w y2) := hb'); clear hb' H7)
          go_upto_region 13 with (go_at_call 20; refine (H8.out (by simp) y2 HY2.out).mono ?_; rintro e y3 ⟨⟨q3, rfl, ho⟩, hb'⟩; (have HY3 : Hid (y3.ownsRow y2.heap.size 45 2 q3 a.length (atL a) ∧ Below w.heap.size w y3) := ⟨ho, hb'⟩); clear ho hb' H8; (obtain ⟨s3, c3, e3, -⟩ := own_ats HY3.out.1 HA.out.1.can); subst e3)
          go_upto_region 15 with (go_at_call 9; refine (HOA.out _ y3 y3 _ HY3.out.1 (Below.refl _ _) HY3.out.2).mono ?_; rintro e y4 ⟨rfl, hb'⟩; (have HY4 : Hid (Below w.heap.size w y4) := hb'); clear hb' HOA)
          go_upto_region 16 with (go_at_call 22; refine (H10.out y4 HY4.out).mono ?_; rintro e z1 ⟨⟨q1, rfl, ho⟩, hb'⟩; (have HZ1 : Hid (z1.ownsRow y4.heap.size 45 2 q1 M.length (atL M) ∧ Below w.heap.size w z1) := ⟨ho, hb'⟩); clear ho hb' H10; (obtain ⟨t1, d1, e1, -⟩ := own_ats HZ1.out.1 HMC.out); subst e1)
          go_wp2_with (first | (go_at_call 22; refine (H11.out _ z1 (own_low HZ1.out.1 (HY4.out).size) HZ1.out.2).mono ?_; rintro e z2 ⟨⟨q2, rfl, ho⟩, hb'⟩; (have HZ2 : Hid (z2.ownsRow z1.heap.size 45 2 q2 M.length (atL M) ∧ Below z1.heap.size z1 z2) := ⟨ho, hb'⟩); clear ho hb' H11; (obtain ⟨t2, d2, e2, -⟩ := own_ats HZ2.out.1 HMC.out); subst e2) | (go_at_call 9; refine (H12.out _ _ z1 z2 _ _ HZ1.out.1 HZ2.out.2 HZ2.out.1 (HZ1.out.2.trans (HZ2.out.2.mono HZ1.out.2.size))).mono ?_; rintro e z3 ⟨rfl, hb'⟩; (have HZ3 : Hid (Below w.heap.size w z3) := hb'); clear hb') | (go_at_call 17; refine (H13.out z3 HZ3.out).mono ?_; rintro e z4 ⟨rfl, hb'⟩; (have HZ4 : Hid (Below w.heap.size w z4) := hb'); clear hb'))
          go_ret
          exact ⟨rfl, HZ4.out⟩
        · have hra1 : (ra == 0) = false := by simpa using hra0
          clear hra0
          go_upto_region 15 with (go_at_call 11; refine (H9.out v6 HO6.out.2).mono ?_; rintro e y1 ⟨rfl, hb'⟩; (have HY1 : Hid (Below w.heap.size w y1) := hb'); clear hb' H9)
          go_upto_region 16 with (go_at_call 22; refine (H10.out y1 HY1.out).mono ?_; rintro e z1 ⟨⟨q1, rfl, ho⟩, hb'⟩; (have HZ1 : Hid (z1.ownsRow y1.heap.size 45 2 q1 M.length (atL M) ∧ Below w.heap.size w z1) := ⟨ho, hb'⟩); clear ho hb' H10; (obtain ⟨t1, d1, e1, -⟩ := own_ats HZ1.out.1 HMC.out); subst e1)
          go_wp2_with (first | (go_at_call 22; refine (H11.out _ z1 (own_low HZ1.out.1 (HY1.out).size) HZ1.out.2).mono ?_; rintro e z2 ⟨⟨q2, rfl, ho⟩, hb'⟩; (have HZ2 : Hid (z2.ownsRow z1.heap.size 45 2 q2 M.length (atL M) ∧ Below z1.heap.size z1 z2) := ⟨ho, hb'⟩); clear ho hb' H11; (obtain ⟨t2, d2, e2, -⟩ := own_ats HZ2.out.1 HMC.out); subst e2) | (go_at_call 9; refine (H12.out _ _ z1 z2 _ _ HZ1.out.1 HZ2.out.2 HZ2.out.1 (HZ1.out.2.trans (HZ2.out.2.mono HZ1.out.2.size))).mono ?_; rintro e z3 ⟨rfl, hb'⟩; (have HZ3 : Hid (Below w.heap.size w z3) := hb'); clear hb') | (go_at_call 17; refine (H13.out z3 HZ3.out).mono ?_; rintro e z4 ⟨rfl, hb'⟩; (have HZ4 : Hid (Below w.heap.size w z4) := hb'); clear hb'))
          go_ret
          exact ⟨rfl, HZ4.out⟩
      · subst hE0
        rcases hve.out with rfl | hv0
        · have hv1 : (tx ([] : List UInt8)).toList.isEmpty = true := by rw [tx_list]; rfl
          have hv2 : (tx ([] : List UInt8)).toList = [] := tx_list _
          go_upto_region 10 with (fail)
          rcases HRA.out with hra0 | hra0
          · subst hra0
            go_upto_region 11 with (go_at_call 11; refine (H9.out v6 HO6.out.2).mono ?_; rintro e y1 ⟨rfl, hb'⟩; (have HY1 : Hid (Below w.heap.size w y1) := hb'); clear hb' H9)
            go_upto_region 12 with (go_at_call 18; refine (H7.out y1 HY1.out).mono ?_; rintro e y2 ⟨rfl, hb'⟩; (have HY2 : Hid (Below w.heap.size w y2) := hb'); clear hb' H7)
            go_upto_region 13 with (go_at_call 20; refine (H8.out (by simp) y2 HY2.out).mono ?_; rintro e y3 ⟨⟨q3, rfl, ho⟩, hb'⟩; (have HY3 : Hid (y3.ownsRow y2.heap.size 45 2 q3 a.length (atL a) ∧ Below w.heap.size w y3) := ⟨ho, hb'⟩); clear ho hb' H8; (obtain ⟨s3, c3, e3, -⟩ := own_ats HY3.out.1 HA.out.1.can); subst e3)
            go_upto_region 15 with (go_at_call 9; refine (HOA.out _ y3 y3 _ HY3.out.1 (Below.refl _ _) HY3.out.2).mono ?_; rintro e y4 ⟨rfl, hb'⟩; (have HY4 : Hid (Below w.heap.size w y4) := hb'); clear hb' HOA)
            go_upto_region 16 with (go_at_call 22; refine (H10.out y4 HY4.out).mono ?_; rintro e z1 ⟨⟨q1, rfl, ho⟩, hb'⟩; (have HZ1 : Hid (z1.ownsRow y4.heap.size 45 2 q1 M.length (atL M) ∧ Below w.heap.size w z1) := ⟨ho, hb'⟩); clear ho hb' H10; (obtain ⟨t1, d1, e1, -⟩ := own_ats HZ1.out.1 HMC.out); subst e1)
            go_wp2_with (first | (go_at_call 22; refine (H11.out _ z1 (own_low HZ1.out.1 (HY4.out).size) HZ1.out.2).mono ?_; rintro e z2 ⟨⟨q2, rfl, ho⟩, hb'⟩; (have HZ2 : Hid (z2.ownsRow z1.heap.size 45 2 q2 M.length (atL M) ∧ Below z1.heap.size z1 z2) := ⟨ho, hb'⟩); clear ho hb' H11; (obtain ⟨t2, d2, e2, -⟩ := own_ats HZ2.out.1 HMC.out); subst e2) | (go_at_call 9; refine (H12.out _ _ z1 z2 _ _ HZ1.out.1 HZ2.out.2 HZ2.out.1 (HZ1.out.2.trans (HZ2.out.2.mono HZ1.out.2.size))).mono ?_; rintro e z3 ⟨rfl, hb'⟩; (have HZ3 : Hid (Below w.heap.size w z3) := hb'); clear hb') | (go_at_call 17; refine (H13.out z3 HZ3.out).mono ?_; rintro e z4 ⟨rfl, hb'⟩; (have HZ4 : Hid (Below w.heap.size w z4) := hb'); clear hb'))
            go_ret
            exact ⟨rfl, HZ4.out⟩
          · have hra1 : (ra == 0) = false := by simpa using hra0
            clear hra0
            go_upto_region 15 with (go_at_call 11; refine (H9.out v6 HO6.out.2).mono ?_; rintro e y1 ⟨rfl, hb'⟩; (have HY1 : Hid (Below w.heap.size w y1) := hb'); clear hb' H9)
            go_upto_region 16 with (go_at_call 22; refine (H10.out y1 HY1.out).mono ?_; rintro e z1 ⟨⟨q1, rfl, ho⟩, hb'⟩; (have HZ1 : Hid (z1.ownsRow y1.heap.size 45 2 q1 M.length (atL M) ∧ Below w.heap.size w z1) := ⟨ho, hb'⟩); clear ho hb' H10; (obtain ⟨t1, d1, e1, -⟩ := own_ats HZ1.out.1 HMC.out); subst e1)
            go_wp2_with (first | (go_at_call 22; refine (H11.out _ z1 (own_low HZ1.out.1 (HY1.out).size) HZ1.out.2).mono ?_; rintro e z2 ⟨⟨q2, rfl, ho⟩, hb'⟩; (have HZ2 : Hid (z2.ownsRow z1.heap.size 45 2 q2 M.length (atL M) ∧ Below z1.heap.size z1 z2) := ⟨ho, hb'⟩); clear ho hb' H11; (obtain ⟨t2, d2, e2, -⟩ := own_ats HZ2.out.1 HMC.out); subst e2) | (go_at_call 9; refine (H12.out _ _ z1 z2 _ _ HZ1.out.1 HZ2.out.2 HZ2.out.1 (HZ1.out.2.trans (HZ2.out.2.mono HZ1.out.2.size))).mono ?_; rintro e z3 ⟨rfl, hb'⟩; (have HZ3 : Hid (Below w.heap.size w z3) := hb'); clear hb') | (go_at_call 17; refine (H13.out z3 HZ3.out).mono ?_; rintro e z4 ⟨rfl, hb'⟩; (have HZ4 : Hid (Below w.heap.size w z4) := hb'); clear hb'))
            go_ret
            exact ⟨rfl, HZ4.out⟩
        · have HV : Hid (v ≠ []) := hv0
          have hv1 : (tx v).toList.isEmpty = false := tx_empty hv0
          have hv2 : ¬ (tx v).toList = [] := tx_nil hv0
          clear hv0
          go_upto_region 8 with (go_at_call 18; refine ((HOS.out _ v6 v6 _ HO6.out.1 HV.out (by simp) (Below.refl _ _) HO6.out.2).1).mono ?_; rintro e v7 ⟨rfl, hb'⟩; (have HO7 : Hid (Below v6.heap.size v6 v7 ∧ Below w.heap.size w v7) := ⟨hb', HO6.out.2.trans (hb'.mono HO6.out.2.size)⟩); clear hb')
          go_upto_region 10 with (go_at_call 11; refine ((HOS.out _ v6 v7 _ HO6.out.1 HV.out (by simp) HO7.out.1 HO7.out.2).2).mono ?_; rintro e v8 ⟨rfl, hb'⟩; (have HO8 : Hid (Below w.heap.size w v8) := HO7.out.2.trans (hb'.mono HO7.out.2.size)); clear hb' HOS)
          rcases HRA.out with hra0 | hra0
          · subst hra0
            go_upto_region 11 with (go_at_call 11; refine (H9.out v8 HO8.out).mono ?_; rintro e y1 ⟨rfl, hb'⟩; (have HY1 : Hid (Below w.heap.size w y1) := hb'); clear hb' H9)
            go_upto_region 12 with (go_at_call 18; refine (H7.out y1 HY1.out).mono ?_; rintro e y2 ⟨rfl, hb'⟩; (have HY2 : Hid (Below w.heap.size w y2) := hb'); clear hb' H7)
            go_upto_region 13 with (go_at_call 20; refine (H8.out (by simp) y2 HY2.out).mono ?_; rintro e y3 ⟨⟨q3, rfl, ho⟩, hb'⟩; (have HY3 : Hid (y3.ownsRow y2.heap.size 45 2 q3 a.length (atL a) ∧ Below w.heap.size w y3) := ⟨ho, hb'⟩); clear ho hb' H8; (obtain ⟨s3, c3, e3, -⟩ := own_ats HY3.out.1 HA.out.1.can); subst e3)
            go_upto_region 15 with (go_at_call 9; refine (HOA.out _ y3 y3 _ HY3.out.1 (Below.refl _ _) HY3.out.2).mono ?_; rintro e y4 ⟨rfl, hb'⟩; (have HY4 : Hid (Below w.heap.size w y4) := hb'); clear hb' HOA)
            go_upto_region 16 with (go_at_call 22; refine (H10.out y4 HY4.out).mono ?_; rintro e z1 ⟨⟨q1, rfl, ho⟩, hb'⟩; (have HZ1 : Hid (z1.ownsRow y4.heap.size 45 2 q1 M.length (atL M) ∧ Below w.heap.size w z1) := ⟨ho, hb'⟩); clear ho hb' H10; (obtain ⟨t1, d1, e1, -⟩ := own_ats HZ1.out.1 HMC.out); subst e1)
            go_wp2_with (first | (go_at_call 22; refine (H11.out _ z1 (own_low HZ1.out.1 (HY4.out).size) HZ1.out.2).mono ?_; rintro e z2 ⟨⟨q2, rfl, ho⟩, hb'⟩; (have HZ2 : Hid (z2.ownsRow z1.heap.size 45 2 q2 M.length (atL M) ∧ Below z1.heap.size z1 z2) := ⟨ho, hb'⟩); clear ho hb' H11; (obtain ⟨t2, d2, e2, -⟩ := own_ats HZ2.out.1 HMC.out); subst e2) | (go_at_call 9; refine (H12.out _ _ z1 z2 _ _ HZ1.out.1 HZ2.out.2 HZ2.out.1 (HZ1.out.2.trans (HZ2.out.2.mono HZ1.out.2.size))).mono ?_; rintro e z3 ⟨rfl, hb'⟩; (have HZ3 : Hid (Below w.heap.size w z3) := hb'); clear hb') | (go_at_call 17; refine (H13.out z3 HZ3.out).mono ?_; rintro e z4 ⟨rfl, hb'⟩; (have HZ4 : Hid (Below w.heap.size w z4) := hb'); clear hb'))
            go_ret
            exact ⟨rfl, HZ4.out⟩
          · have hra1 : (ra == 0) = false := by simpa using hra0
            clear hra0
            go_upto_region 15 with (go_at_call 11; refine (H9.out v8 HO8.out).mono ?_; rintro e y1 ⟨rfl, hb'⟩; (have HY1 : Hid (Below w.heap.size w y1) := hb'); clear hb' H9)
            go_upto_region 16 with (go_at_call 22; refine (H10.out y1 HY1.out).mono ?_; rintro e z1 ⟨⟨q1, rfl, ho⟩, hb'⟩; (have HZ1 : Hid (z1.ownsRow y1.heap.size 45 2 q1 M.length (atL M) ∧ Below w.heap.size w z1) := ⟨ho, hb'⟩); clear ho hb' H10; (obtain ⟨t1, d1, e1, -⟩ := own_ats HZ1.out.1 HMC.out); subst e1)
            go_wp2_with (first | (go_at_call 22; refine (H11.out _ z1 (own_low HZ1.out.1 (HY1.out).size) HZ1.out.2).mono ?_; rintro e z2 ⟨⟨q2, rfl, ho⟩, hb'⟩; (have HZ2 : Hid (z2.ownsRow z1.heap.size 45 2 q2 M.length (atL M) ∧ Below z1.heap.size z1 z2) := ⟨ho, hb'⟩); clear ho hb' H11; (obtain ⟨t2, d2, e2, -⟩ := own_ats HZ2.out.1 HMC.out); subst e2) | (go_at_call 9; refine (H12.out _ _ z1 z2 _ _ HZ1.out.1 HZ2.out.2 HZ2.out.1 (HZ1.out.2.trans (HZ2.out.2.mono HZ1.out.2.size))).mono ?_; rintro e z3 ⟨rfl, hb'⟩; (have HZ3 : Hid (Below w.heap.size w z3) := hb'); clear hb') | (go_at_call 17; refine (H13.out z3 HZ3.out).mono ?_; rintro e z4 ⟨rfl, hb'⟩; (have HZ4 : Hid (Below w.heap.size w z4) := hb'); clear hb'))
            go_ret
            exact ⟨rfl, HZ4.out⟩
    · obtain rfl : true = r := HXZ.out
      rw [show -(0 : Int) = 0 by rfl] at H3
      have hz : decide (0 < Z) = false := decide_eq_false (by have := HZ.out (by omega) HY.out; omega)
      go_upto_region 5 with (first | (go_at_call 24; refine (H3.out w2 HB2.out).mono ?_; rintro e w3 ⟨rfl, hb'⟩; (have HB3 : Hid (Below w.heap.size w w3) := hb'); clear hb' H3) | (go_at_call 9; refine (H5.out w3 HB3.out).mono ?_; rintro e w4 ⟨rfl, hb'⟩; (have HB4 : Hid (Below w.heap.size w w4) := hb'); clear hb') | (go_at_call 24; refine (H4.out w4 HB4.out).mono ?_; rintro e w5 ⟨rfl, hb'⟩; (have HB5 : Hid (Below w.heap.size w w5) := hb'); clear hb'))
      go_upto_region 6 with (go_at_call 20; refine (H6.out w5 HB5.out).mono ?_; rintro e v6 ⟨⟨q6, rfl, ho⟩, hb'⟩; (have HO6 : Hid (v6.ownsRow w5.heap.size 45 2 q6 S.length (atL S) ∧ Below w.heap.size w v6) := ⟨ho, hb'⟩); clear ho hb' H6; (obtain ⟨s6, c6, e6, -⟩ := own_ats HO6.out.1 HSC.out.1); subst e6)
      rcases HE.out with hE0 | hE0
      · have hE1 : (E == 0) = false := by simpa using hE0
        clear hE0
        go_upto_region 10 with (fail)
        rcases HRA.out with hra0 | hra0
        · subst hra0
          go_upto_region 11 with (go_at_call 11; refine (H9.out v6 HO6.out.2).mono ?_; rintro e y1 ⟨rfl, hb'⟩; (have HY1 : Hid (Below w.heap.size w y1) := hb'); clear hb' H9)
          go_upto_region 12 with (go_at_call 18; refine (H7.out y1 HY1.out).mono ?_; rintro e y2 ⟨rfl, hb'⟩; (have HY2 : Hid (Below w.heap.size w y2) := hb'); clear hb' H7)
          go_upto_region 13 with (go_at_call 20; refine (H8.out (by simp) y2 HY2.out).mono ?_; rintro e y3 ⟨⟨q3, rfl, ho⟩, hb'⟩; (have HY3 : Hid (y3.ownsRow y2.heap.size 45 2 q3 a.length (atL a) ∧ Below w.heap.size w y3) := ⟨ho, hb'⟩); clear ho hb' H8; (obtain ⟨s3, c3, e3, -⟩ := own_ats HY3.out.1 HA.out.1.can); subst e3)
          go_upto_region 15 with (go_at_call 9; refine (HOA.out _ y3 y3 _ HY3.out.1 (Below.refl _ _) HY3.out.2).mono ?_; rintro e y4 ⟨rfl, hb'⟩; (have HY4 : Hid (Below w.heap.size w y4) := hb'); clear hb' HOA)
          go_upto_region 16 with (go_at_call 22; refine (H10.out y4 HY4.out).mono ?_; rintro e z1 ⟨⟨q1, rfl, ho⟩, hb'⟩; (have HZ1 : Hid (z1.ownsRow y4.heap.size 45 2 q1 M.length (atL M) ∧ Below w.heap.size w z1) := ⟨ho, hb'⟩); clear ho hb' H10; (obtain ⟨t1, d1, e1, -⟩ := own_ats HZ1.out.1 HMC.out); subst e1)
          go_wp2_with (first | (go_at_call 22; refine (H11.out _ z1 (own_low HZ1.out.1 (HY4.out).size) HZ1.out.2).mono ?_; rintro e z2 ⟨⟨q2, rfl, ho⟩, hb'⟩; (have HZ2 : Hid (z2.ownsRow z1.heap.size 45 2 q2 M.length (atL M) ∧ Below z1.heap.size z1 z2) := ⟨ho, hb'⟩); clear ho hb' H11; (obtain ⟨t2, d2, e2, -⟩ := own_ats HZ2.out.1 HMC.out); subst e2) | (go_at_call 9; refine (H12.out _ _ z1 z2 _ _ HZ1.out.1 HZ2.out.2 HZ2.out.1 (HZ1.out.2.trans (HZ2.out.2.mono HZ1.out.2.size))).mono ?_; rintro e z3 ⟨rfl, hb'⟩; (have HZ3 : Hid (Below w.heap.size w z3) := hb'); clear hb') | (go_at_call 17; refine (H13.out z3 HZ3.out).mono ?_; rintro e z4 ⟨rfl, hb'⟩; (have HZ4 : Hid (Below w.heap.size w z4) := hb'); clear hb'))
          go_ret
          exact ⟨rfl, HZ4.out⟩
        · have hra1 : (ra == 0) = false := by simpa using hra0
          clear hra0
          go_upto_region 15 with (go_at_call 11; refine (H9.out v6 HO6.out.2).mono ?_; rintro e y1 ⟨rfl, hb'⟩; (have HY1 : Hid (Below w.heap.size w y1) := hb'); clear hb' H9)
          go_upto_region 16 with (go_at_call 22; refine (H10.out y1 HY1.out).mono ?_; rintro e z1 ⟨⟨q1, rfl, ho⟩, hb'⟩; (have HZ1 : Hid (z1.ownsRow y1.heap.size 45 2 q1 M.length (atL M) ∧ Below w.heap.size w z1) := ⟨ho, hb'⟩); clear ho hb' H10; (obtain ⟨t1, d1, e1, -⟩ := own_ats HZ1.out.1 HMC.out); subst e1)
          go_wp2_with (first | (go_at_call 22; refine (H11.out _ z1 (own_low HZ1.out.1 (HY1.out).size) HZ1.out.2).mono ?_; rintro e z2 ⟨⟨q2, rfl, ho⟩, hb'⟩; (have HZ2 : Hid (z2.ownsRow z1.heap.size 45 2 q2 M.length (atL M) ∧ Below z1.heap.size z1 z2) := ⟨ho, hb'⟩); clear ho hb' H11; (obtain ⟨t2, d2, e2, -⟩ := own_ats HZ2.out.1 HMC.out); subst e2) | (go_at_call 9; refine (H12.out _ _ z1 z2 _ _ HZ1.out.1 HZ2.out.2 HZ2.out.1 (HZ1.out.2.trans (HZ2.out.2.mono HZ1.out.2.size))).mono ?_; rintro e z3 ⟨rfl, hb'⟩; (have HZ3 : Hid (Below w.heap.size w z3) := hb'); clear hb') | (go_at_call 17; refine (H13.out z3 HZ3.out).mono ?_; rintro e z4 ⟨rfl, hb'⟩; (have HZ4 : Hid (Below w.heap.size w z4) := hb'); clear hb'))
          go_ret
          exact ⟨rfl, HZ4.out⟩
      · subst hE0
        rcases hve.out with rfl | hv0
        · have hv1 : (tx ([] : List UInt8)).toList.isEmpty = true := by rw [tx_list]; rfl
          have hv2 : (tx ([] : List UInt8)).toList = [] := tx_list _
          go_upto_region 10 with (fail)
          rcases HRA.out with hra0 | hra0
          · subst hra0
            go_upto_region 11 with (go_at_call 11; refine (H9.out v6 HO6.out.2).mono ?_; rintro e y1 ⟨rfl, hb'⟩; (have HY1 : Hid (Below w.heap.size w y1) := hb'); clear hb' H9)
            go_upto_region 12 with (go_at_call 18; refine (H7.out y1 HY1.out).mono ?_; rintro e y2 ⟨rfl, hb'⟩; (have HY2 : Hid (Below w.heap.size w y2) := hb'); clear hb' H7)
            go_upto_region 13 with (go_at_call 20; refine (H8.out (by simp) y2 HY2.out).mono ?_; rintro e y3 ⟨⟨q3, rfl, ho⟩, hb'⟩; (have HY3 : Hid (y3.ownsRow y2.heap.size 45 2 q3 a.length (atL a) ∧ Below w.heap.size w y3) := ⟨ho, hb'⟩); clear ho hb' H8; (obtain ⟨s3, c3, e3, -⟩ := own_ats HY3.out.1 HA.out.1.can); subst e3)
            go_upto_region 15 with (go_at_call 9; refine (HOA.out _ y3 y3 _ HY3.out.1 (Below.refl _ _) HY3.out.2).mono ?_; rintro e y4 ⟨rfl, hb'⟩; (have HY4 : Hid (Below w.heap.size w y4) := hb'); clear hb' HOA)
            go_upto_region 16 with (go_at_call 22; refine (H10.out y4 HY4.out).mono ?_; rintro e z1 ⟨⟨q1, rfl, ho⟩, hb'⟩; (have HZ1 : Hid (z1.ownsRow y4.heap.size 45 2 q1 M.length (atL M) ∧ Below w.heap.size w z1) := ⟨ho, hb'⟩); clear ho hb' H10; (obtain ⟨t1, d1, e1, -⟩ := own_ats HZ1.out.1 HMC.out); subst e1)
            go_wp2_with (first | (go_at_call 22; refine (H11.out _ z1 (own_low HZ1.out.1 (HY4.out).size) HZ1.out.2).mono ?_; rintro e z2 ⟨⟨q2, rfl, ho⟩, hb'⟩; (have HZ2 : Hid (z2.ownsRow z1.heap.size 45 2 q2 M.length (atL M) ∧ Below z1.heap.size z1 z2) := ⟨ho, hb'⟩); clear ho hb' H11; (obtain ⟨t2, d2, e2, -⟩ := own_ats HZ2.out.1 HMC.out); subst e2) | (go_at_call 9; refine (H12.out _ _ z1 z2 _ _ HZ1.out.1 HZ2.out.2 HZ2.out.1 (HZ1.out.2.trans (HZ2.out.2.mono HZ1.out.2.size))).mono ?_; rintro e z3 ⟨rfl, hb'⟩; (have HZ3 : Hid (Below w.heap.size w z3) := hb'); clear hb') | (go_at_call 17; refine (H13.out z3 HZ3.out).mono ?_; rintro e z4 ⟨rfl, hb'⟩; (have HZ4 : Hid (Below w.heap.size w z4) := hb'); clear hb'))
            go_ret
            exact ⟨rfl, HZ4.out⟩
          · have hra1 : (ra == 0) = false := by simpa using hra0
            clear hra0
            go_upto_region 15 with (go_at_call 11; refine (H9.out v6 HO6.out.2).mono ?_; rintro e y1 ⟨rfl, hb'⟩; (have HY1 : Hid (Below w.heap.size w y1) := hb'); clear hb' H9)
            go_upto_region 16 with (go_at_call 22; refine (H10.out y1 HY1.out).mono ?_; rintro e z1 ⟨⟨q1, rfl, ho⟩, hb'⟩; (have HZ1 : Hid (z1.ownsRow y1.heap.size 45 2 q1 M.length (atL M) ∧ Below w.heap.size w z1) := ⟨ho, hb'⟩); clear ho hb' H10; (obtain ⟨t1, d1, e1, -⟩ := own_ats HZ1.out.1 HMC.out); subst e1)
            go_wp2_with (first | (go_at_call 22; refine (H11.out _ z1 (own_low HZ1.out.1 (HY1.out).size) HZ1.out.2).mono ?_; rintro e z2 ⟨⟨q2, rfl, ho⟩, hb'⟩; (have HZ2 : Hid (z2.ownsRow z1.heap.size 45 2 q2 M.length (atL M) ∧ Below z1.heap.size z1 z2) := ⟨ho, hb'⟩); clear ho hb' H11; (obtain ⟨t2, d2, e2, -⟩ := own_ats HZ2.out.1 HMC.out); subst e2) | (go_at_call 9; refine (H12.out _ _ z1 z2 _ _ HZ1.out.1 HZ2.out.2 HZ2.out.1 (HZ1.out.2.trans (HZ2.out.2.mono HZ1.out.2.size))).mono ?_; rintro e z3 ⟨rfl, hb'⟩; (have HZ3 : Hid (Below w.heap.size w z3) := hb'); clear hb') | (go_at_call 17; refine (H13.out z3 HZ3.out).mono ?_; rintro e z4 ⟨rfl, hb'⟩; (have HZ4 : Hid (Below w.heap.size w z4) := hb'); clear hb'))
            go_ret
            exact ⟨rfl, HZ4.out⟩
        · have HV : Hid (v ≠ []) := hv0
          have hv1 : (tx v).toList.isEmpty = false := tx_empty hv0
          have hv2 : ¬ (tx v).toList = [] := tx_nil hv0
          clear hv0
          go_upto_region 8 with (go_at_call 18; refine ((HOS.out _ v6 v6 _ HO6.out.1 HV.out (by simp) (Below.refl _ _) HO6.out.2).1).mono ?_; rintro e v7 ⟨rfl, hb'⟩; (have HO7 : Hid (Below v6.heap.size v6 v7 ∧ Below w.heap.size w v7) := ⟨hb', HO6.out.2.trans (hb'.mono HO6.out.2.size)⟩); clear hb')
          go_upto_region 10 with (go_at_call 11; refine ((HOS.out _ v6 v7 _ HO6.out.1 HV.out (by simp) HO7.out.1 HO7.out.2).2).mono ?_; rintro e v8 ⟨rfl, hb'⟩; (have HO8 : Hid (Below w.heap.size w v8) := HO7.out.2.trans (hb'.mono HO7.out.2.size)); clear hb' HOS)
          rcases HRA.out with hra0 | hra0
          · subst hra0
            go_upto_region 11 with (go_at_call 11; refine (H9.out v8 HO8.out).mono ?_; rintro e y1 ⟨rfl, hb'⟩; (have HY1 : Hid (Below w.heap.size w y1) := hb'); clear hb' H9)
            go_upto_region 12 with (go_at_call 18; refine (H7.out y1 HY1.out).mono ?_; rintro e y2 ⟨rfl, hb'⟩; (have HY2 : Hid (Below w.heap.size w y2) := hb'); clear hb' H7)
            go_upto_region 13 with (go_at_call 20; refine (H8.out (by simp) y2 HY2.out).mono ?_; rintro e y3 ⟨⟨q3, rfl, ho⟩, hb'⟩; (have HY3 : Hid (y3.ownsRow y2.heap.size 45 2 q3 a.length (atL a) ∧ Below w.heap.size w y3) := ⟨ho, hb'⟩); clear ho hb' H8; (obtain ⟨s3, c3, e3, -⟩ := own_ats HY3.out.1 HA.out.1.can); subst e3)
            go_upto_region 15 with (go_at_call 9; refine (HOA.out _ y3 y3 _ HY3.out.1 (Below.refl _ _) HY3.out.2).mono ?_; rintro e y4 ⟨rfl, hb'⟩; (have HY4 : Hid (Below w.heap.size w y4) := hb'); clear hb' HOA)
            go_upto_region 16 with (go_at_call 22; refine (H10.out y4 HY4.out).mono ?_; rintro e z1 ⟨⟨q1, rfl, ho⟩, hb'⟩; (have HZ1 : Hid (z1.ownsRow y4.heap.size 45 2 q1 M.length (atL M) ∧ Below w.heap.size w z1) := ⟨ho, hb'⟩); clear ho hb' H10; (obtain ⟨t1, d1, e1, -⟩ := own_ats HZ1.out.1 HMC.out); subst e1)
            go_wp2_with (first | (go_at_call 22; refine (H11.out _ z1 (own_low HZ1.out.1 (HY4.out).size) HZ1.out.2).mono ?_; rintro e z2 ⟨⟨q2, rfl, ho⟩, hb'⟩; (have HZ2 : Hid (z2.ownsRow z1.heap.size 45 2 q2 M.length (atL M) ∧ Below z1.heap.size z1 z2) := ⟨ho, hb'⟩); clear ho hb' H11; (obtain ⟨t2, d2, e2, -⟩ := own_ats HZ2.out.1 HMC.out); subst e2) | (go_at_call 9; refine (H12.out _ _ z1 z2 _ _ HZ1.out.1 HZ2.out.2 HZ2.out.1 (HZ1.out.2.trans (HZ2.out.2.mono HZ1.out.2.size))).mono ?_; rintro e z3 ⟨rfl, hb'⟩; (have HZ3 : Hid (Below w.heap.size w z3) := hb'); clear hb') | (go_at_call 17; refine (H13.out z3 HZ3.out).mono ?_; rintro e z4 ⟨rfl, hb'⟩; (have HZ4 : Hid (Below w.heap.size w z4) := hb'); clear hb'))
            go_ret
            exact ⟨rfl, HZ4.out⟩
          · have hra1 : (ra == 0) = false := by simpa using hra0
            clear hra0
            go_upto_region 15 with (go_at_call 11; refine (H9.out v8 HO8.out).mono ?_; rintro e y1 ⟨rfl, hb'⟩; (have HY1 : Hid (Below w.heap.size w y1) := hb'); clear hb' H9)
            go_upto_region 16 with (go_at_call 22; refine (H10.out y1 HY1.out).mono ?_; rintro e z1 ⟨⟨q1, rfl, ho⟩, hb'⟩; (have HZ1 : Hid (z1.ownsRow y1.heap.size 45 2 q1 M.length (atL M) ∧ Below w.heap.size w z1) := ⟨ho, hb'⟩); clear ho hb' H10; (obtain ⟨t1, d1, e1, -⟩ := own_ats HZ1.out.1 HMC.out); subst e1)
            go_wp2_with (first | (go_at_call 22; refine (H11.out _ z1 (own_low HZ1.out.1 (HY1.out).size) HZ1.out.2).mono ?_; rintro e z2 ⟨⟨q2, rfl, ho⟩, hb'⟩; (have HZ2 : Hid (z2.ownsRow z1.heap.size 45 2 q2 M.length (atL M) ∧ Below z1.heap.size z1 z2) := ⟨ho, hb'⟩); clear ho hb' H11; (obtain ⟨t2, d2, e2, -⟩ := own_ats HZ2.out.1 HMC.out); subst e2) | (go_at_call 9; refine (H12.out _ _ z1 z2 _ _ HZ1.out.1 HZ2.out.2 HZ2.out.1 (HZ1.out.2.trans (HZ2.out.2.mono HZ1.out.2.size))).mono ?_; rintro e z3 ⟨rfl, hb'⟩; (have HZ3 : Hid (Below w.heap.size w z3) := hb'); clear hb') | (go_at_call 17; refine (H13.out z3 HZ3.out).mono ?_; rintro e z4 ⟨rfl, hb'⟩; (have HZ4 : Hid (Below w.heap.size w z4) := hb'); clear hb'))
            go_ret
            exact ⟨rfl, HZ4.out⟩
    · obtain rfl : false = r := HXZ.out
      go_upto_region 5 with (first | (go_at_call 24; refine (H3.out w2 HB2.out).mono ?_; rintro e w3 ⟨rfl, hb'⟩; (have HB3 : Hid (Below w.heap.size w w3) := hb'); clear hb' H3) | (go_at_call 9; refine (H5.out w3 HB3.out).mono ?_; rintro e w4 ⟨rfl, hb'⟩; (have HB4 : Hid (Below w.heap.size w w4) := hb'); clear hb') | (go_at_call 24; refine (H4.out w4 HB4.out).mono ?_; rintro e w5 ⟨rfl, hb'⟩; (have HB5 : Hid (Below w.heap.size w w5) := hb'); clear hb'))
      go_upto_region 6 with (go_at_call 20; refine (H6.out w4 HB4.out).mono ?_; rintro e v6 ⟨⟨q6, rfl, ho⟩, hb'⟩; (have HO6 : Hid (v6.ownsRow w4.heap.size 45 2 q6 S.length (atL S) ∧ Below w.heap.size w v6) := ⟨ho, hb'⟩); clear ho hb' H6; (obtain ⟨s6, c6, e6, -⟩ := own_ats HO6.out.1 HSC.out.1); subst e6)
      rcases HE.out with hE0 | hE0
      · have hE1 : (E == 0) = false := by simpa using hE0
        clear hE0
        go_upto_region 10 with (fail)
        rcases HRA.out with hra0 | hra0
        · subst hra0
          go_upto_region 11 with (go_at_call 11; refine (H9.out v6 HO6.out.2).mono ?_; rintro e y1 ⟨rfl, hb'⟩; (have HY1 : Hid (Below w.heap.size w y1) := hb'); clear hb' H9)
          go_upto_region 12 with (go_at_call 18; refine (H7.out y1 HY1.out).mono ?_; rintro e y2 ⟨rfl, hb'⟩; (have HY2 : Hid (Below w.heap.size w y2) := hb'); clear hb' H7)
          go_upto_region 13 with (go_at_call 20; refine (H8.out (by simp) y2 HY2.out).mono ?_; rintro e y3 ⟨⟨q3, rfl, ho⟩, hb'⟩; (have HY3 : Hid (y3.ownsRow y2.heap.size 45 2 q3 a.length (atL a) ∧ Below w.heap.size w y3) := ⟨ho, hb'⟩); clear ho hb' H8; (obtain ⟨s3, c3, e3, -⟩ := own_ats HY3.out.1 HA.out.1.can); subst e3)
          go_upto_region 15 with (go_at_call 9; refine (HOA.out _ y3 y3 _ HY3.out.1 (Below.refl _ _) HY3.out.2).mono ?_; rintro e y4 ⟨rfl, hb'⟩; (have HY4 : Hid (Below w.heap.size w y4) := hb'); clear hb' HOA)
          go_upto_region 16 with (go_at_call 22; refine (H10.out y4 HY4.out).mono ?_; rintro e z1 ⟨⟨q1, rfl, ho⟩, hb'⟩; (have HZ1 : Hid (z1.ownsRow y4.heap.size 45 2 q1 M.length (atL M) ∧ Below w.heap.size w z1) := ⟨ho, hb'⟩); clear ho hb' H10; (obtain ⟨t1, d1, e1, -⟩ := own_ats HZ1.out.1 HMC.out); subst e1)
          go_wp2_with (first | (go_at_call 22; refine (H11.out _ z1 (own_low HZ1.out.1 (HY4.out).size) HZ1.out.2).mono ?_; rintro e z2 ⟨⟨q2, rfl, ho⟩, hb'⟩; (have HZ2 : Hid (z2.ownsRow z1.heap.size 45 2 q2 M.length (atL M) ∧ Below z1.heap.size z1 z2) := ⟨ho, hb'⟩); clear ho hb' H11; (obtain ⟨t2, d2, e2, -⟩ := own_ats HZ2.out.1 HMC.out); subst e2) | (go_at_call 9; refine (H12.out _ _ z1 z2 _ _ HZ1.out.1 HZ2.out.2 HZ2.out.1 (HZ1.out.2.trans (HZ2.out.2.mono HZ1.out.2.size))).mono ?_; rintro e z3 ⟨rfl, hb'⟩; (have HZ3 : Hid (Below w.heap.size w z3) := hb'); clear hb') | (go_at_call 17; refine (H13.out z3 HZ3.out).mono ?_; rintro e z4 ⟨rfl, hb'⟩; (have HZ4 : Hid (Below w.heap.size w z4) := hb'); clear hb'))
          go_ret
          exact ⟨rfl, HZ4.out⟩
        · have hra1 : (ra == 0) = false := by simpa using hra0
          clear hra0
          go_upto_region 15 with (go_at_call 11; refine (H9.out v6 HO6.out.2).mono ?_; rintro e y1 ⟨rfl, hb'⟩; (have HY1 : Hid (Below w.heap.size w y1) := hb'); clear hb' H9)
          go_upto_region 16 with (go_at_call 22; refine (H10.out y1 HY1.out).mono ?_; rintro e z1 ⟨⟨q1, rfl, ho⟩, hb'⟩; (have HZ1 : Hid (z1.ownsRow y1.heap.size 45 2 q1 M.length (atL M) ∧ Below w.heap.size w z1) := ⟨ho, hb'⟩); clear ho hb' H10; (obtain ⟨t1, d1, e1, -⟩ := own_ats HZ1.out.1 HMC.out); subst e1)
          go_wp2_with (first | (go_at_call 22; refine (H11.out _ z1 (own_low HZ1.out.1 (HY1.out).size) HZ1.out.2).mono ?_; rintro e z2 ⟨⟨q2, rfl, ho⟩, hb'⟩; (have HZ2 : Hid (z2.ownsRow z1.heap.size 45 2 q2 M.length (atL M) ∧ Below z1.heap.size z1 z2) := ⟨ho, hb'⟩); clear ho hb' H11; (obtain ⟨t2, d2, e2, -⟩ := own_ats HZ2.out.1 HMC.out); subst e2) | (go_at_call 9; refine (H12.out _ _ z1 z2 _ _ HZ1.out.1 HZ2.out.2 HZ2.out.1 (HZ1.out.2.trans (HZ2.out.2.mono HZ1.out.2.size))).mono ?_; rintro e z3 ⟨rfl, hb'⟩; (have HZ3 : Hid (Below w.heap.size w z3) := hb'); clear hb') | (go_at_call 17; refine (H13.out z3 HZ3.out).mono ?_; rintro e z4 ⟨rfl, hb'⟩; (have HZ4 : Hid (Below w.heap.size w z4) := hb'); clear hb'))
          go_ret
          exact ⟨rfl, HZ4.out⟩
      · subst hE0
        rcases hve.out with rfl | hv0
        · have hv1 : (tx ([] : List UInt8)).toList.isEmpty = true := by rw [tx_list]; rfl
          have hv2 : (tx ([] : List UInt8)).toList = [] := tx_list _
          go_upto_region 10 with (fail)
          rcases HRA.out with hra0 | hra0
          · subst hra0
            go_upto_region 11 with (go_at_call 11; refine (H9.out v6 HO6.out.2).mono ?_; rintro e y1 ⟨rfl, hb'⟩; (have HY1 : Hid (Below w.heap.size w y1) := hb'); clear hb' H9)
            go_upto_region 12 with (go_at_call 18; refine (H7.out y1 HY1.out).mono ?_; rintro e y2 ⟨rfl, hb'⟩; (have HY2 : Hid (Below w.heap.size w y2) := hb'); clear hb' H7)
            go_upto_region 13 with (go_at_call 20; refine (H8.out (by simp) y2 HY2.out).mono ?_; rintro e y3 ⟨⟨q3, rfl, ho⟩, hb'⟩; (have HY3 : Hid (y3.ownsRow y2.heap.size 45 2 q3 a.length (atL a) ∧ Below w.heap.size w y3) := ⟨ho, hb'⟩); clear ho hb' H8; (obtain ⟨s3, c3, e3, -⟩ := own_ats HY3.out.1 HA.out.1.can); subst e3)
            go_upto_region 15 with (go_at_call 9; refine (HOA.out _ y3 y3 _ HY3.out.1 (Below.refl _ _) HY3.out.2).mono ?_; rintro e y4 ⟨rfl, hb'⟩; (have HY4 : Hid (Below w.heap.size w y4) := hb'); clear hb' HOA)
            go_upto_region 16 with (go_at_call 22; refine (H10.out y4 HY4.out).mono ?_; rintro e z1 ⟨⟨q1, rfl, ho⟩, hb'⟩; (have HZ1 : Hid (z1.ownsRow y4.heap.size 45 2 q1 M.length (atL M) ∧ Below w.heap.size w z1) := ⟨ho, hb'⟩); clear ho hb' H10; (obtain ⟨t1, d1, e1, -⟩ := own_ats HZ1.out.1 HMC.out); subst e1)
            go_wp2_with (first | (go_at_call 22; refine (H11.out _ z1 (own_low HZ1.out.1 (HY4.out).size) HZ1.out.2).mono ?_; rintro e z2 ⟨⟨q2, rfl, ho⟩, hb'⟩; (have HZ2 : Hid (z2.ownsRow z1.heap.size 45 2 q2 M.length (atL M) ∧ Below z1.heap.size z1 z2) := ⟨ho, hb'⟩); clear ho hb' H11; (obtain ⟨t2, d2, e2, -⟩ := own_ats HZ2.out.1 HMC.out); subst e2) | (go_at_call 9; refine (H12.out _ _ z1 z2 _ _ HZ1.out.1 HZ2.out.2 HZ2.out.1 (HZ1.out.2.trans (HZ2.out.2.mono HZ1.out.2.size))).mono ?_; rintro e z3 ⟨rfl, hb'⟩; (have HZ3 : Hid (Below w.heap.size w z3) := hb'); clear hb') | (go_at_call 17; refine (H13.out z3 HZ3.out).mono ?_; rintro e z4 ⟨rfl, hb'⟩; (have HZ4 : Hid (Below w.heap.size w z4) := hb'); clear hb'))
            go_ret
            exact ⟨rfl, HZ4.out⟩
          · have hra1 : (ra == 0) = false := by simpa using hra0
            clear hra0
            go_upto_region 15 with (go_at_call 11; refine (H9.out v6 HO6.out.2).mono ?_; rintro e y1 ⟨rfl, hb'⟩; (have HY1 : Hid (Below w.heap.size w y1) := hb'); clear hb' H9)
            go_upto_region 16 with (go_at_call 22; refine (H10.out y1 HY1.out).mono ?_; rintro e z1 ⟨⟨q1, rfl, ho⟩, hb'⟩; (have HZ1 : Hid (z1.ownsRow y1.heap.size 45 2 q1 M.length (atL M) ∧ Below w.heap.size w z1) := ⟨ho, hb'⟩); clear ho hb' H10; (obtain ⟨t1, d1, e1, -⟩ := own_ats HZ1.out.1 HMC.out); subst e1)
            go_wp2_with (first | (go_at_call 22; refine (H11.out _ z1 (own_low HZ1.out.1 (HY1.out).size) HZ1.out.2).mono ?_; rintro e z2 ⟨⟨q2, rfl, ho⟩, hb'⟩; (have HZ2 : Hid (z2.ownsRow z1.heap.size 45 2 q2 M.length (atL M) ∧ Below z1.heap.size z1 z2) := ⟨ho, hb'⟩); clear ho hb' H11; (obtain ⟨t2, d2, e2, -⟩ := own_ats HZ2.out.1 HMC.out); subst e2) | (go_at_call 9; refine (H12.out _ _ z1 z2 _ _ HZ1.out.1 HZ2.out.2 HZ2.out.1 (HZ1.out.2.trans (HZ2.out.2.mono HZ1.out.2.size))).mono ?_; rintro e z3 ⟨rfl, hb'⟩; (have HZ3 : Hid (Below w.heap.size w z3) := hb'); clear hb') | (go_at_call 17; refine (H13.out z3 HZ3.out).mono ?_; rintro e z4 ⟨rfl, hb'⟩; (have HZ4 : Hid (Below w.heap.size w z4) := hb'); clear hb'))
            go_ret
            exact ⟨rfl, HZ4.out⟩
        · have HV : Hid (v ≠ []) := hv0
          have hv1 : (tx v).toList.isEmpty = false := tx_empty hv0
          have hv2 : ¬ (tx v).toList = [] := tx_nil hv0
          clear hv0
          go_upto_region 8 with (go_at_call 18; refine ((HOS.out _ v6 v6 _ HO6.out.1 HV.out (by simp) (Below.refl _ _) HO6.out.2).1).mono ?_; rintro e v7 ⟨rfl, hb'⟩; (have HO7 : Hid (Below v6.heap.size v6 v7 ∧ Below w.heap.size w v7) := ⟨hb', HO6.out.2.trans (hb'.mono HO6.out.2.size)⟩); clear hb')
          go_upto_region 10 with (go_at_call 11; refine ((HOS.out _ v6 v7 _ HO6.out.1 HV.out (by simp) HO7.out.1 HO7.out.2).2).mono ?_; rintro e v8 ⟨rfl, hb'⟩; (have HO8 : Hid (Below w.heap.size w v8) := HO7.out.2.trans (hb'.mono HO7.out.2.size)); clear hb' HOS)
          rcases HRA.out with hra0 | hra0
          · subst hra0
            go_upto_region 11 with (go_at_call 11; refine (H9.out v8 HO8.out).mono ?_; rintro e y1 ⟨rfl, hb'⟩; (have HY1 : Hid (Below w.heap.size w y1) := hb'); clear hb' H9)
            go_upto_region 12 with (go_at_call 18; refine (H7.out y1 HY1.out).mono ?_; rintro e y2 ⟨rfl, hb'⟩; (have HY2 : Hid (Below w.heap.size w y2) := hb'); clear hb' H7)
            go_upto_region 13 with (go_at_call 20; refine (H8.out (by simp) y2 HY2.out).mono ?_; rintro e y3 ⟨⟨q3, rfl, ho⟩, hb'⟩; (have HY3 : Hid (y3.ownsRow y2.heap.size 45 2 q3 a.length (atL a) ∧ Below w.heap.size w y3) := ⟨ho, hb'⟩); clear ho hb' H8; (obtain ⟨s3, c3, e3, -⟩ := own_ats HY3.out.1 HA.out.1.can); subst e3)
            go_upto_region 15 with (go_at_call 9; refine (HOA.out _ y3 y3 _ HY3.out.1 (Below.refl _ _) HY3.out.2).mono ?_; rintro e y4 ⟨rfl, hb'⟩; (have HY4 : Hid (Below w.heap.size w y4) := hb'); clear hb' HOA)
            go_upto_region 16 with (go_at_call 22; refine (H10.out y4 HY4.out).mono ?_; rintro e z1 ⟨⟨q1, rfl, ho⟩, hb'⟩; (have HZ1 : Hid (z1.ownsRow y4.heap.size 45 2 q1 M.length (atL M) ∧ Below w.heap.size w z1) := ⟨ho, hb'⟩); clear ho hb' H10; (obtain ⟨t1, d1, e1, -⟩ := own_ats HZ1.out.1 HMC.out); subst e1)
            go_wp2_with (first | (go_at_call 22; refine (H11.out _ z1 (own_low HZ1.out.1 (HY4.out).size) HZ1.out.2).mono ?_; rintro e z2 ⟨⟨q2, rfl, ho⟩, hb'⟩; (have HZ2 : Hid (z2.ownsRow z1.heap.size 45 2 q2 M.length (atL M) ∧ Below z1.heap.size z1 z2) := ⟨ho, hb'⟩); clear ho hb' H11; (obtain ⟨t2, d2, e2, -⟩ := own_ats HZ2.out.1 HMC.out); subst e2) | (go_at_call 9; refine (H12.out _ _ z1 z2 _ _ HZ1.out.1 HZ2.out.2 HZ2.out.1 (HZ1.out.2.trans (HZ2.out.2.mono HZ1.out.2.size))).mono ?_; rintro e z3 ⟨rfl, hb'⟩; (have HZ3 : Hid (Below w.heap.size w z3) := hb'); clear hb') | (go_at_call 17; refine (H13.out z3 HZ3.out).mono ?_; rintro e z4 ⟨rfl, hb'⟩; (have HZ4 : Hid (Below w.heap.size w z4) := hb'); clear hb'))
            go_ret
            exact ⟨rfl, HZ4.out⟩
          · have hra1 : (ra == 0) = false := by simpa using hra0
            clear hra0
            go_upto_region 15 with (go_at_call 11; refine (H9.out v8 HO8.out).mono ?_; rintro e y1 ⟨rfl, hb'⟩; (have HY1 : Hid (Below w.heap.size w y1) := hb'); clear hb' H9)
            go_upto_region 16 with (go_at_call 22; refine (H10.out y1 HY1.out).mono ?_; rintro e z1 ⟨⟨q1, rfl, ho⟩, hb'⟩; (have HZ1 : Hid (z1.ownsRow y1.heap.size 45 2 q1 M.length (atL M) ∧ Below w.heap.size w z1) := ⟨ho, hb'⟩); clear ho hb' H10; (obtain ⟨t1, d1, e1, -⟩ := own_ats HZ1.out.1 HMC.out); subst e1)
            go_wp2_with (first | (go_at_call 22; refine (H11.out _ z1 (own_low HZ1.out.1 (HY1.out).size) HZ1.out.2).mono ?_; rintro e z2 ⟨⟨q2, rfl, ho⟩, hb'⟩; (have HZ2 : Hid (z2.ownsRow z1.heap.size 45 2 q2 M.length (atL M) ∧ Below z1.heap.size z1 z2) := ⟨ho, hb'⟩); clear ho hb' H11; (obtain ⟨t2, d2, e2, -⟩ := own_ats HZ2.out.1 HMC.out); subst e2) | (go_at_call 9; refine (H12.out _ _ z1 z2 _ _ HZ1.out.1 HZ2.out.2 HZ2.out.1 (HZ1.out.2.trans (HZ2.out.2.mono HZ1.out.2.size))).mono ?_; rintro e z3 ⟨rfl, hb'⟩; (have HZ3 : Hid (Below w.heap.size w z3) := hb'); clear hb') | (go_at_call 17; refine (H13.out z3 HZ3.out).mono ?_; rintro e z4 ⟨rfl, hb'⟩; (have HZ4 : Hid (Below w.heap.size w z4) := hb'); clear hb'))
            go_ret
            exact ⟨rfl, HZ4.out⟩
  · have hy : decide (Y ≤ 0) = false := decide_eq_false hy0
    clear hy0
    rcases hX3 with rfl | rfl | rfl
    · obtain rfl : false = r := HXZ.out
      rw [show -(-1 : Int) = 1 by rfl] at H3
      go_upto_region 5 with (first | (go_at_call 24; refine (H3.out w2 HB2.out).mono ?_; rintro e w3 ⟨rfl, hb'⟩; (have HB3 : Hid (Below w.heap.size w w3) := hb'); clear hb' H3) | (go_at_call 9; refine (H5.out w3 HB3.out).mono ?_; rintro e w4 ⟨rfl, hb'⟩; (have HB4 : Hid (Below w.heap.size w w4) := hb'); clear hb') | (go_at_call 24; refine (H4.out w4 HB4.out).mono ?_; rintro e w5 ⟨rfl, hb'⟩; (have HB5 : Hid (Below w.heap.size w w5) := hb'); clear hb'))
      go_upto_region 6 with (go_at_call 20; refine (H6.out w4 HB4.out).mono ?_; rintro e v6 ⟨⟨q6, rfl, ho⟩, hb'⟩; (have HO6 : Hid (v6.ownsRow w4.heap.size 45 2 q6 S.length (atL S) ∧ Below w.heap.size w v6) := ⟨ho, hb'⟩); clear ho hb' H6; (obtain ⟨s6, c6, e6, -⟩ := own_ats HO6.out.1 HSC.out.1); subst e6)
      rcases HE.out with hE0 | hE0
      · have hE1 : (E == 0) = false := by simpa using hE0
        clear hE0
        go_upto_region 10 with (fail)
        rcases HRA.out with hra0 | hra0
        · subst hra0
          go_upto_region 11 with (go_at_call 11; refine (H9.out v6 HO6.out.2).mono ?_; rintro e y1 ⟨rfl, hb'⟩; (have HY1 : Hid (Below w.heap.size w y1) := hb'); clear hb' H9)
          go_upto_region 12 with (go_at_call 18; refine (H7.out y1 HY1.out).mono ?_; rintro e y2 ⟨rfl, hb'⟩; (have HY2 : Hid (Below w.heap.size w y2) := hb'); clear hb' H7)
          go_upto_region 13 with (go_at_call 20; refine (H8.out (by simp) y2 HY2.out).mono ?_; rintro e y3 ⟨⟨q3, rfl, ho⟩, hb'⟩; (have HY3 : Hid (y3.ownsRow y2.heap.size 45 2 q3 a.length (atL a) ∧ Below w.heap.size w y3) := ⟨ho, hb'⟩); clear ho hb' H8; (obtain ⟨s3, c3, e3, -⟩ := own_ats HY3.out.1 HA.out.1.can); subst e3)
          go_upto_region 15 with (go_at_call 9; refine (HOA.out _ y3 y3 _ HY3.out.1 (Below.refl _ _) HY3.out.2).mono ?_; rintro e y4 ⟨rfl, hb'⟩; (have HY4 : Hid (Below w.heap.size w y4) := hb'); clear hb' HOA)
          go_upto_region 16 with (go_at_call 22; refine (H10.out y4 HY4.out).mono ?_; rintro e z1 ⟨⟨q1, rfl, ho⟩, hb'⟩; (have HZ1 : Hid (z1.ownsRow y4.heap.size 45 2 q1 M.length (atL M) ∧ Below w.heap.size w z1) := ⟨ho, hb'⟩); clear ho hb' H10; (obtain ⟨t1, d1, e1, -⟩ := own_ats HZ1.out.1 HMC.out); subst e1)
          go_wp2_with (first | (go_at_call 22; refine (H11.out _ z1 (own_low HZ1.out.1 (HY4.out).size) HZ1.out.2).mono ?_; rintro e z2 ⟨⟨q2, rfl, ho⟩, hb'⟩; (have HZ2 : Hid (z2.ownsRow z1.heap.size 45 2 q2 M.length (atL M) ∧ Below z1.heap.size z1 z2) := ⟨ho, hb'⟩); clear ho hb' H11; (obtain ⟨t2, d2, e2, -⟩ := own_ats HZ2.out.1 HMC.out); subst e2) | (go_at_call 9; refine (H12.out _ _ z1 z2 _ _ HZ1.out.1 HZ2.out.2 HZ2.out.1 (HZ1.out.2.trans (HZ2.out.2.mono HZ1.out.2.size))).mono ?_; rintro e z3 ⟨rfl, hb'⟩; (have HZ3 : Hid (Below w.heap.size w z3) := hb'); clear hb') | (go_at_call 17; refine (H13.out z3 HZ3.out).mono ?_; rintro e z4 ⟨rfl, hb'⟩; (have HZ4 : Hid (Below w.heap.size w z4) := hb'); clear hb'))
          go_ret
          exact ⟨rfl, HZ4.out⟩
        · have hra1 : (ra == 0) = false := by simpa using hra0
          clear hra0
          go_upto_region 15 with (go_at_call 11; refine (H9.out v6 HO6.out.2).mono ?_; rintro e y1 ⟨rfl, hb'⟩; (have HY1 : Hid (Below w.heap.size w y1) := hb'); clear hb' H9)
          go_upto_region 16 with (go_at_call 22; refine (H10.out y1 HY1.out).mono ?_; rintro e z1 ⟨⟨q1, rfl, ho⟩, hb'⟩; (have HZ1 : Hid (z1.ownsRow y1.heap.size 45 2 q1 M.length (atL M) ∧ Below w.heap.size w z1) := ⟨ho, hb'⟩); clear ho hb' H10; (obtain ⟨t1, d1, e1, -⟩ := own_ats HZ1.out.1 HMC.out); subst e1)
          go_wp2_with (first | (go_at_call 22; refine (H11.out _ z1 (own_low HZ1.out.1 (HY1.out).size) HZ1.out.2).mono ?_; rintro e z2 ⟨⟨q2, rfl, ho⟩, hb'⟩; (have HZ2 : Hid (z2.ownsRow z1.heap.size 45 2 q2 M.length (atL M) ∧ Below z1.heap.size z1 z2) := ⟨ho, hb'⟩); clear ho hb' H11; (obtain ⟨t2, d2, e2, -⟩ := own_ats HZ2.out.1 HMC.out); subst e2) | (go_at_call 9; refine (H12.out _ _ z1 z2 _ _ HZ1.out.1 HZ2.out.2 HZ2.out.1 (HZ1.out.2.trans (HZ2.out.2.mono HZ1.out.2.size))).mono ?_; rintro e z3 ⟨rfl, hb'⟩; (have HZ3 : Hid (Below w.heap.size w z3) := hb'); clear hb') | (go_at_call 17; refine (H13.out z3 HZ3.out).mono ?_; rintro e z4 ⟨rfl, hb'⟩; (have HZ4 : Hid (Below w.heap.size w z4) := hb'); clear hb'))
          go_ret
          exact ⟨rfl, HZ4.out⟩
      · subst hE0
        rcases hve.out with rfl | hv0
        · have hv1 : (tx ([] : List UInt8)).toList.isEmpty = true := by rw [tx_list]; rfl
          have hv2 : (tx ([] : List UInt8)).toList = [] := tx_list _
          go_upto_region 10 with (fail)
          rcases HRA.out with hra0 | hra0
          · subst hra0
            go_upto_region 11 with (go_at_call 11; refine (H9.out v6 HO6.out.2).mono ?_; rintro e y1 ⟨rfl, hb'⟩; (have HY1 : Hid (Below w.heap.size w y1) := hb'); clear hb' H9)
            go_upto_region 12 with (go_at_call 18; refine (H7.out y1 HY1.out).mono ?_; rintro e y2 ⟨rfl, hb'⟩; (have HY2 : Hid (Below w.heap.size w y2) := hb'); clear hb' H7)
            go_upto_region 13 with (go_at_call 20; refine (H8.out (by simp) y2 HY2.out).mono ?_; rintro e y3 ⟨⟨q3, rfl, ho⟩, hb'⟩; (have HY3 : Hid (y3.ownsRow y2.heap.size 45 2 q3 a.length (atL a) ∧ Below w.heap.size w y3) := ⟨ho, hb'⟩); clear ho hb' H8; (obtain ⟨s3, c3, e3, -⟩ := own_ats HY3.out.1 HA.out.1.can); subst e3)
            go_upto_region 15 with (go_at_call 9; refine (HOA.out _ y3 y3 _ HY3.out.1 (Below.refl _ _) HY3.out.2).mono ?_; rintro e y4 ⟨rfl, hb'⟩; (have HY4 : Hid (Below w.heap.size w y4) := hb'); clear hb' HOA)
            go_upto_region 16 with (go_at_call 22; refine (H10.out y4 HY4.out).mono ?_; rintro e z1 ⟨⟨q1, rfl, ho⟩, hb'⟩; (have HZ1 : Hid (z1.ownsRow y4.heap.size 45 2 q1 M.length (atL M) ∧ Below w.heap.size w z1) := ⟨ho, hb'⟩); clear ho hb' H10; (obtain ⟨t1, d1, e1, -⟩ := own_ats HZ1.out.1 HMC.out); subst e1)
            go_wp2_with (first | (go_at_call 22; refine (H11.out _ z1 (own_low HZ1.out.1 (HY4.out).size) HZ1.out.2).mono ?_; rintro e z2 ⟨⟨q2, rfl, ho⟩, hb'⟩; (have HZ2 : Hid (z2.ownsRow z1.heap.size 45 2 q2 M.length (atL M) ∧ Below z1.heap.size z1 z2) := ⟨ho, hb'⟩); clear ho hb' H11; (obtain ⟨t2, d2, e2, -⟩ := own_ats HZ2.out.1 HMC.out); subst e2) | (go_at_call 9; refine (H12.out _ _ z1 z2 _ _ HZ1.out.1 HZ2.out.2 HZ2.out.1 (HZ1.out.2.trans (HZ2.out.2.mono HZ1.out.2.size))).mono ?_; rintro e z3 ⟨rfl, hb'⟩; (have HZ3 : Hid (Below w.heap.size w z3) := hb'); clear hb') | (go_at_call 17; refine (H13.out z3 HZ3.out).mono ?_; rintro e z4 ⟨rfl, hb'⟩; (have HZ4 : Hid (Below w.heap.size w z4) := hb'); clear hb'))
            go_ret
            exact ⟨rfl, HZ4.out⟩
          · have hra1 : (ra == 0) = false := by simpa using hra0
            clear hra0
            go_upto_region 15 with (go_at_call 11; refine (H9.out v6 HO6.out.2).mono ?_; rintro e y1 ⟨rfl, hb'⟩; (have HY1 : Hid (Below w.heap.size w y1) := hb'); clear hb' H9)
            go_upto_region 16 with (go_at_call 22; refine (H10.out y1 HY1.out).mono ?_; rintro e z1 ⟨⟨q1, rfl, ho⟩, hb'⟩; (have HZ1 : Hid (z1.ownsRow y1.heap.size 45 2 q1 M.length (atL M) ∧ Below w.heap.size w z1) := ⟨ho, hb'⟩); clear ho hb' H10; (obtain ⟨t1, d1, e1, -⟩ := own_ats HZ1.out.1 HMC.out); subst e1)
            go_wp2_with (first | (go_at_call 22; refine (H11.out _ z1 (own_low HZ1.out.1 (HY1.out).size) HZ1.out.2).mono ?_; rintro e z2 ⟨⟨q2, rfl, ho⟩, hb'⟩; (have HZ2 : Hid (z2.ownsRow z1.heap.size 45 2 q2 M.length (atL M) ∧ Below z1.heap.size z1 z2) := ⟨ho, hb'⟩); clear ho hb' H11; (obtain ⟨t2, d2, e2, -⟩ := own_ats HZ2.out.1 HMC.out); subst e2) | (go_at_call 9; refine (H12.out _ _ z1 z2 _ _ HZ1.out.1 HZ2.out.2 HZ2.out.1 (HZ1.out.2.trans (HZ2.out.2.mono HZ1.out.2.size))).mono ?_; rintro e z3 ⟨rfl, hb'⟩; (have HZ3 : Hid (Below w.heap.size w z3) := hb'); clear hb') | (go_at_call 17; refine (H13.out z3 HZ3.out).mono ?_; rintro e z4 ⟨rfl, hb'⟩; (have HZ4 : Hid (Below w.heap.size w z4) := hb'); clear hb'))
            go_ret
            exact ⟨rfl, HZ4.out⟩
        · have HV : Hid (v ≠ []) := hv0
          have hv1 : (tx v).toList.isEmpty = false := tx_empty hv0
          have hv2 : ¬ (tx v).toList = [] := tx_nil hv0
          clear hv0
          go_upto_region 8 with (go_at_call 18; refine ((HOS.out _ v6 v6 _ HO6.out.1 HV.out (by simp) (Below.refl _ _) HO6.out.2).1).mono ?_; rintro e v7 ⟨rfl, hb'⟩; (have HO7 : Hid (Below v6.heap.size v6 v7 ∧ Below w.heap.size w v7) := ⟨hb', HO6.out.2.trans (hb'.mono HO6.out.2.size)⟩); clear hb')
          go_upto_region 10 with (go_at_call 11; refine ((HOS.out _ v6 v7 _ HO6.out.1 HV.out (by simp) HO7.out.1 HO7.out.2).2).mono ?_; rintro e v8 ⟨rfl, hb'⟩; (have HO8 : Hid (Below w.heap.size w v8) := HO7.out.2.trans (hb'.mono HO7.out.2.size)); clear hb' HOS)
          rcases HRA.out with hra0 | hra0
          · subst hra0
            go_upto_region 11 with (go_at_call 11; refine (H9.out v8 HO8.out).mono ?_; rintro e y1 ⟨rfl, hb'⟩; (have HY1 : Hid (Below w.heap.size w y1) := hb'); clear hb' H9)
            go_upto_region 12 with (go_at_call 18; refine (H7.out y1 HY1.out).mono ?_; rintro e y2 ⟨rfl, hb'⟩; (have HY2 : Hid (Below w.heap.size w y2) := hb'); clear hb' H7)
            go_upto_region 13 with (go_at_call 20; refine (H8.out (by simp) y2 HY2.out).mono ?_; rintro e y3 ⟨⟨q3, rfl, ho⟩, hb'⟩; (have HY3 : Hid (y3.ownsRow y2.heap.size 45 2 q3 a.length (atL a) ∧ Below w.heap.size w y3) := ⟨ho, hb'⟩); clear ho hb' H8; (obtain ⟨s3, c3, e3, -⟩ := own_ats HY3.out.1 HA.out.1.can); subst e3)
            go_upto_region 15 with (go_at_call 9; refine (HOA.out _ y3 y3 _ HY3.out.1 (Below.refl _ _) HY3.out.2).mono ?_; rintro e y4 ⟨rfl, hb'⟩; (have HY4 : Hid (Below w.heap.size w y4) := hb'); clear hb' HOA)
            go_upto_region 16 with (go_at_call 22; refine (H10.out y4 HY4.out).mono ?_; rintro e z1 ⟨⟨q1, rfl, ho⟩, hb'⟩; (have HZ1 : Hid (z1.ownsRow y4.heap.size 45 2 q1 M.length (atL M) ∧ Below w.heap.size w z1) := ⟨ho, hb'⟩); clear ho hb' H10; (obtain ⟨t1, d1, e1, -⟩ := own_ats HZ1.out.1 HMC.out); subst e1)
            go_wp2_with (first | (go_at_call 22; refine (H11.out _ z1 (own_low HZ1.out.1 (HY4.out).size) HZ1.out.2).mono ?_; rintro e z2 ⟨⟨q2, rfl, ho⟩, hb'⟩; (have HZ2 : Hid (z2.ownsRow z1.heap.size 45 2 q2 M.length (atL M) ∧ Below z1.heap.size z1 z2) := ⟨ho, hb'⟩); clear ho hb' H11; (obtain ⟨t2, d2, e2, -⟩ := own_ats HZ2.out.1 HMC.out); subst e2) | (go_at_call 9; refine (H12.out _ _ z1 z2 _ _ HZ1.out.1 HZ2.out.2 HZ2.out.1 (HZ1.out.2.trans (HZ2.out.2.mono HZ1.out.2.size))).mono ?_; rintro e z3 ⟨rfl, hb'⟩; (have HZ3 : Hid (Below w.heap.size w z3) := hb'); clear hb') | (go_at_call 17; refine (H13.out z3 HZ3.out).mono ?_; rintro e z4 ⟨rfl, hb'⟩; (have HZ4 : Hid (Below w.heap.size w z4) := hb'); clear hb'))
            go_ret
            exact ⟨rfl, HZ4.out⟩
          · have hra1 : (ra == 0) = false := by simpa using hra0
            clear hra0
            go_upto_region 15 with (go_at_call 11; refine (H9.out v8 HO8.out).mono ?_; rintro e y1 ⟨rfl, hb'⟩; (have HY1 : Hid (Below w.heap.size w y1) := hb'); clear hb' H9)
            go_upto_region 16 with (go_at_call 22; refine (H10.out y1 HY1.out).mono ?_; rintro e z1 ⟨⟨q1, rfl, ho⟩, hb'⟩; (have HZ1 : Hid (z1.ownsRow y1.heap.size 45 2 q1 M.length (atL M) ∧ Below w.heap.size w z1) := ⟨ho, hb'⟩); clear ho hb' H10; (obtain ⟨t1, d1, e1, -⟩ := own_ats HZ1.out.1 HMC.out); subst e1)
            go_wp2_with (first | (go_at_call 22; refine (H11.out _ z1 (own_low HZ1.out.1 (HY1.out).size) HZ1.out.2).mono ?_; rintro e z2 ⟨⟨q2, rfl, ho⟩, hb'⟩; (have HZ2 : Hid (z2.ownsRow z1.heap.size 45 2 q2 M.length (atL M) ∧ Below z1.heap.size z1 z2) := ⟨ho, hb'⟩); clear ho hb' H11; (obtain ⟨t2, d2, e2, -⟩ := own_ats HZ2.out.1 HMC.out); subst e2) | (go_at_call 9; refine (H12.out _ _ z1 z2 _ _ HZ1.out.1 HZ2.out.2 HZ2.out.1 (HZ1.out.2.trans (HZ2.out.2.mono HZ1.out.2.size))).mono ?_; rintro e z3 ⟨rfl, hb'⟩; (have HZ3 : Hid (Below w.heap.size w z3) := hb'); clear hb') | (go_at_call 17; refine (H13.out z3 HZ3.out).mono ?_; rintro e z4 ⟨rfl, hb'⟩; (have HZ4 : Hid (Below w.heap.size w z4) := hb'); clear hb'))
            go_ret
            exact ⟨rfl, HZ4.out⟩
    · obtain rfl : true = r := HXZ.out
      rw [show -(0 : Int) = 0 by rfl] at H3
      go_upto_region 5 with (first | (go_at_call 24; refine (H3.out w2 HB2.out).mono ?_; rintro e w3 ⟨rfl, hb'⟩; (have HB3 : Hid (Below w.heap.size w w3) := hb'); clear hb' H3) | (go_at_call 9; refine (H5.out w3 HB3.out).mono ?_; rintro e w4 ⟨rfl, hb'⟩; (have HB4 : Hid (Below w.heap.size w w4) := hb'); clear hb') | (go_at_call 24; refine (H4.out w4 HB4.out).mono ?_; rintro e w5 ⟨rfl, hb'⟩; (have HB5 : Hid (Below w.heap.size w w5) := hb'); clear hb'))
      go_upto_region 6 with (go_at_call 20; refine (H6.out w4 HB4.out).mono ?_; rintro e v6 ⟨⟨q6, rfl, ho⟩, hb'⟩; (have HO6 : Hid (v6.ownsRow w4.heap.size 45 2 q6 S.length (atL S) ∧ Below w.heap.size w v6) := ⟨ho, hb'⟩); clear ho hb' H6; (obtain ⟨s6, c6, e6, -⟩ := own_ats HO6.out.1 HSC.out.1); subst e6)
      rcases HE.out with hE0 | hE0
      · have hE1 : (E == 0) = false := by simpa using hE0
        clear hE0
        go_upto_region 10 with (fail)
        rcases HRA.out with hra0 | hra0
        · subst hra0
          go_upto_region 11 with (go_at_call 11; refine (H9.out v6 HO6.out.2).mono ?_; rintro e y1 ⟨rfl, hb'⟩; (have HY1 : Hid (Below w.heap.size w y1) := hb'); clear hb' H9)
          go_upto_region 12 with (go_at_call 18; refine (H7.out y1 HY1.out).mono ?_; rintro e y2 ⟨rfl, hb'⟩; (have HY2 : Hid (Below w.heap.size w y2) := hb'); clear hb' H7)
          go_upto_region 13 with (go_at_call 20; refine (H8.out (by simp) y2 HY2.out).mono ?_; rintro e y3 ⟨⟨q3, rfl, ho⟩, hb'⟩; (have HY3 : Hid (y3.ownsRow y2.heap.size 45 2 q3 a.length (atL a) ∧ Below w.heap.size w y3) := ⟨ho, hb'⟩); clear ho hb' H8; (obtain ⟨s3, c3, e3, -⟩ := own_ats HY3.out.1 HA.out.1.can); subst e3)
          go_upto_region 15 with (go_at_call 9; refine (HOA.out _ y3 y3 _ HY3.out.1 (Below.refl _ _) HY3.out.2).mono ?_; rintro e y4 ⟨rfl, hb'⟩; (have HY4 : Hid (Below w.heap.size w y4) := hb'); clear hb' HOA)
          go_upto_region 16 with (go_at_call 22; refine (H10.out y4 HY4.out).mono ?_; rintro e z1 ⟨⟨q1, rfl, ho⟩, hb'⟩; (have HZ1 : Hid (z1.ownsRow y4.heap.size 45 2 q1 M.length (atL M) ∧ Below w.heap.size w z1) := ⟨ho, hb'⟩); clear ho hb' H10; (obtain ⟨t1, d1, e1, -⟩ := own_ats HZ1.out.1 HMC.out); subst e1)
          go_wp2_with (first | (go_at_call 22; refine (H11.out _ z1 (own_low HZ1.out.1 (HY4.out).size) HZ1.out.2).mono ?_; rintro e z2 ⟨⟨q2, rfl, ho⟩, hb'⟩; (have HZ2 : Hid (z2.ownsRow z1.heap.size 45 2 q2 M.length (atL M) ∧ Below z1.heap.size z1 z2) := ⟨ho, hb'⟩); clear ho hb' H11; (obtain ⟨t2, d2, e2, -⟩ := own_ats HZ2.out.1 HMC.out); subst e2) | (go_at_call 9; refine (H12.out _ _ z1 z2 _ _ HZ1.out.1 HZ2.out.2 HZ2.out.1 (HZ1.out.2.trans (HZ2.out.2.mono HZ1.out.2.size))).mono ?_; rintro e z3 ⟨rfl, hb'⟩; (have HZ3 : Hid (Below w.heap.size w z3) := hb'); clear hb') | (go_at_call 17; refine (H13.out z3 HZ3.out).mono ?_; rintro e z4 ⟨rfl, hb'⟩; (have HZ4 : Hid (Below w.heap.size w z4) := hb'); clear hb'))
          go_ret
          exact ⟨rfl, HZ4.out⟩
        · have hra1 : (ra == 0) = false := by simpa using hra0
          clear hra0
          go_upto_region 15 with (go_at_call 11; refine (H9.out v6 HO6.out.2).mono ?_; rintro e y1 ⟨rfl, hb'⟩; (have HY1 : Hid (Below w.heap.size w y1) := hb'); clear hb' H9)
          go_upto_region 16 with (go_at_call 22; refine (H10.out y1 HY1.out).mono ?_; rintro e z1 ⟨⟨q1, rfl, ho⟩, hb'⟩; (have HZ1 : Hid (z1.ownsRow y1.heap.size 45 2 q1 M.length (atL M) ∧ Below w.heap.size w z1) := ⟨ho, hb'⟩); clear ho hb' H10; (obtain ⟨t1, d1, e1, -⟩ := own_ats HZ1.out.1 HMC.out); subst e1)
          go_wp2_with (first | (go_at_call 22; refine (H11.out _ z1 (own_low HZ1.out.1 (HY1.out).size) HZ1.out.2).mono ?_; rintro e z2 ⟨⟨q2, rfl, ho⟩, hb'⟩; (have HZ2 : Hid (z2.ownsRow z1.heap.size 45 2 q2 M.length (atL M) ∧ Below z1.heap.size z1 z2) := ⟨ho, hb'⟩); clear ho hb' H11; (obtain ⟨t2, d2, e2, -⟩ := own_ats HZ2.out.1 HMC.out); subst e2) | (go_at_call 9; refine (H12.out _ _ z1 z2 _ _ HZ1.out.1 HZ2.out.2 HZ2.out.1 (HZ1.out.2.trans (HZ2.out.2.mono HZ1.out.2.size))).mono ?_; rintro e z3 ⟨rfl, hb'⟩; (have HZ3 : Hid (Below w.heap.size w z3) := hb'); clear hb') | (go_at_call 17; refine (H13.out z3 HZ3.out).mono ?_; rintro e z4 ⟨rfl, hb'⟩; (have HZ4 : Hid (Below w.heap.size w z4) := hb'); clear hb'))
          go_ret
          exact ⟨rfl, HZ4.out⟩
      · subst hE0
        rcases hve.out with rfl | hv0
        · have hv1 : (tx ([] : List UInt8)).toList.isEmpty = true := by rw [tx_list]; rfl
          have hv2 : (tx ([] : List UInt8)).toList = [] := tx_list _
          go_upto_region 10 with (fail)
          rcases HRA.out with hra0 | hra0
          · subst hra0
            go_upto_region 11 with (go_at_call 11; refine (H9.out v6 HO6.out.2).mono ?_; rintro e y1 ⟨rfl, hb'⟩; (have HY1 : Hid (Below w.heap.size w y1) := hb'); clear hb' H9)
            go_upto_region 12 with (go_at_call 18; refine (H7.out y1 HY1.out).mono ?_; rintro e y2 ⟨rfl, hb'⟩; (have HY2 : Hid (Below w.heap.size w y2) := hb'); clear hb' H7)
            go_upto_region 13 with (go_at_call 20; refine (H8.out (by simp) y2 HY2.out).mono ?_; rintro e y3 ⟨⟨q3, rfl, ho⟩, hb'⟩; (have HY3 : Hid (y3.ownsRow y2.heap.size 45 2 q3 a.length (atL a) ∧ Below w.heap.size w y3) := ⟨ho, hb'⟩); clear ho hb' H8; (obtain ⟨s3, c3, e3, -⟩ := own_ats HY3.out.1 HA.out.1.can); subst e3)
            go_upto_region 15 with (go_at_call 9; refine (HOA.out _ y3 y3 _ HY3.out.1 (Below.refl _ _) HY3.out.2).mono ?_; rintro e y4 ⟨rfl, hb'⟩; (have HY4 : Hid (Below w.heap.size w y4) := hb'); clear hb' HOA)
            go_upto_region 16 with (go_at_call 22; refine (H10.out y4 HY4.out).mono ?_; rintro e z1 ⟨⟨q1, rfl, ho⟩, hb'⟩; (have HZ1 : Hid (z1.ownsRow y4.heap.size 45 2 q1 M.length (atL M) ∧ Below w.heap.size w z1) := ⟨ho, hb'⟩); clear ho hb' H10; (obtain ⟨t1, d1, e1, -⟩ := own_ats HZ1.out.1 HMC.out); subst e1)
            go_wp2_with (first | (go_at_call 22; refine (H11.out _ z1 (own_low HZ1.out.1 (HY4.out).size) HZ1.out.2).mono ?_; rintro e z2 ⟨⟨q2, rfl, ho⟩, hb'⟩; (have HZ2 : Hid (z2.ownsRow z1.heap.size 45 2 q2 M.length (atL M) ∧ Below z1.heap.size z1 z2) := ⟨ho, hb'⟩); clear ho hb' H11; (obtain ⟨t2, d2, e2, -⟩ := own_ats HZ2.out.1 HMC.out); subst e2) | (go_at_call 9; refine (H12.out _ _ z1 z2 _ _ HZ1.out.1 HZ2.out.2 HZ2.out.1 (HZ1.out.2.trans (HZ2.out.2.mono HZ1.out.2.size))).mono ?_; rintro e z3 ⟨rfl, hb'⟩; (have HZ3 : Hid (Below w.heap.size w z3) := hb'); clear hb') | (go_at_call 17; refine (H13.out z3 HZ3.out).mono ?_; rintro e z4 ⟨rfl, hb'⟩; (have HZ4 : Hid (Below w.heap.size w z4) := hb'); clear hb'))
            go_ret
            exact ⟨rfl, HZ4.out⟩
          · have hra1 : (ra == 0) = false := by simpa using hra0
            clear hra0
            go_upto_region 15 with (go_at_call 11; refine (H9.out v6 HO6.out.2).mono ?_; rintro e y1 ⟨rfl, hb'⟩; (have HY1 : Hid (Below w.heap.size w y1) := hb'); clear hb' H9)
            go_upto_region 16 with (go_at_call 22; refine (H10.out y1 HY1.out).mono ?_; rintro e z1 ⟨⟨q1, rfl, ho⟩, hb'⟩; (have HZ1 : Hid (z1.ownsRow y1.heap.size 45 2 q1 M.length (atL M) ∧ Below w.heap.size w z1) := ⟨ho, hb'⟩); clear ho hb' H10; (obtain ⟨t1, d1, e1, -⟩ := own_ats HZ1.out.1 HMC.out); subst e1)
            go_wp2_with (first | (go_at_call 22; refine (H11.out _ z1 (own_low HZ1.out.1 (HY1.out).size) HZ1.out.2).mono ?_; rintro e z2 ⟨⟨q2, rfl, ho⟩, hb'⟩; (have HZ2 : Hid (z2.ownsRow z1.heap.size 45 2 q2 M.length (atL M) ∧ Below z1.heap.size z1 z2) := ⟨ho, hb'⟩); clear ho hb' H11; (obtain ⟨t2, d2, e2, -⟩ := own_ats HZ2.out.1 HMC.out); subst e2) | (go_at_call 9; refine (H12.out _ _ z1 z2 _ _ HZ1.out.1 HZ2.out.2 HZ2.out.1 (HZ1.out.2.trans (HZ2.out.2.mono HZ1.out.2.size))).mono ?_; rintro e z3 ⟨rfl, hb'⟩; (have HZ3 : Hid (Below w.heap.size w z3) := hb'); clear hb') | (go_at_call 17; refine (H13.out z3 HZ3.out).mono ?_; rintro e z4 ⟨rfl, hb'⟩; (have HZ4 : Hid (Below w.heap.size w z4) := hb'); clear hb'))
            go_ret
            exact ⟨rfl, HZ4.out⟩
        · have HV : Hid (v ≠ []) := hv0
          have hv1 : (tx v).toList.isEmpty = false := tx_empty hv0
          have hv2 : ¬ (tx v).toList = [] := tx_nil hv0
          clear hv0
          go_upto_region 8 with (go_at_call 18; refine ((HOS.out _ v6 v6 _ HO6.out.1 HV.out (by simp) (Below.refl _ _) HO6.out.2).1).mono ?_; rintro e v7 ⟨rfl, hb'⟩; (have HO7 : Hid (Below v6.heap.size v6 v7 ∧ Below w.heap.size w v7) := ⟨hb', HO6.out.2.trans (hb'.mono HO6.out.2.size)⟩); clear hb')
          go_upto_region 10 with (go_at_call 11; refine ((HOS.out _ v6 v7 _ HO6.out.1 HV.out (by simp) HO7.out.1 HO7.out.2).2).mono ?_; rintro e v8 ⟨rfl, hb'⟩; (have HO8 : Hid (Below w.heap.size w v8) := HO7.out.2.trans (hb'.mono HO7.out.2.size)); clear hb' HOS)
          rcases HRA.out with hra0 | hra0
          · subst hra0
            go_upto_region 11 with (go_at_call 11; refine (H9.out v8 HO8.out).mono ?_; rintro e y1 ⟨rfl, hb'⟩; (have HY1 : Hid (Below w.heap.size w y1) := hb'); clear hb' H9)
            go_upto_region 12 with (go_at_call 18; refine (H7.out y1 HY1.out).mono ?_; rintro e y2 ⟨rfl, hb'⟩; (have HY2 : Hid (Below w.heap.size w y2) := hb'); clear hb' H7)
            go_upto_region 13 with (go_at_call 20; refine (H8.out (by simp) y2 HY2.out).mono ?_; rintro e y3 ⟨⟨q3, rfl, ho⟩, hb'⟩; (have HY3 : Hid (y3.ownsRow y2.heap.size 45 2 q3 a.length (atL a) ∧ Below w.heap.size w y3) := ⟨ho, hb'⟩); clear ho hb' H8; (obtain ⟨s3, c3, e3, -⟩ := own_ats HY3.out.1 HA.out.1.can); subst e3)
            go_upto_region 15 with (go_at_call 9; refine (HOA.out _ y3 y3 _ HY3.out.1 (Below.refl _ _) HY3.out.2).mono ?_; rintro e y4 ⟨rfl, hb'⟩; (have HY4 : Hid (Below w.heap.size w y4) := hb'); clear hb' HOA)
            go_upto_region 16 with (go_at_call 22; refine (H10.out y4 HY4.out).mono ?_; rintro e z1 ⟨⟨q1, rfl, ho⟩, hb'⟩; (have HZ1 : Hid (z1.ownsRow y4.heap.size 45 2 q1 M.length (atL M) ∧ Below w.heap.size w z1) := ⟨ho, hb'⟩); clear ho hb' H10; (obtain ⟨t1, d1, e1, -⟩ := own_ats HZ1.out.1 HMC.out); subst e1)
            go_wp2_with (first | (go_at_call 22; refine (H11.out _ z1 (own_low HZ1.out.1 (HY4.out).size) HZ1.out.2).mono ?_; rintro e z2 ⟨⟨q2, rfl, ho⟩, hb'⟩; (have HZ2 : Hid (z2.ownsRow z1.heap.size 45 2 q2 M.length (atL M) ∧ Below z1.heap.size z1 z2) := ⟨ho, hb'⟩); clear ho hb' H11; (obtain ⟨t2, d2, e2, -⟩ := own_ats HZ2.out.1 HMC.out); subst e2) | (go_at_call 9; refine (H12.out _ _ z1 z2 _ _ HZ1.out.1 HZ2.out.2 HZ2.out.1 (HZ1.out.2.trans (HZ2.out.2.mono HZ1.out.2.size))).mono ?_; rintro e z3 ⟨rfl, hb'⟩; (have HZ3 : Hid (Below w.heap.size w z3) := hb'); clear hb') | (go_at_call 17; refine (H13.out z3 HZ3.out).mono ?_; rintro e z4 ⟨rfl, hb'⟩; (have HZ4 : Hid (Below w.heap.size w z4) := hb'); clear hb'))
            go_ret
            exact ⟨rfl, HZ4.out⟩
          · have hra1 : (ra == 0) = false := by simpa using hra0
            clear hra0
            go_upto_region 15 with (go_at_call 11; refine (H9.out v8 HO8.out).mono ?_; rintro e y1 ⟨rfl, hb'⟩; (have HY1 : Hid (Below w.heap.size w y1) := hb'); clear hb' H9)
            go_upto_region 16 with (go_at_call 22; refine (H10.out y1 HY1.out).mono ?_; rintro e z1 ⟨⟨q1, rfl, ho⟩, hb'⟩; (have HZ1 : Hid (z1.ownsRow y1.heap.size 45 2 q1 M.length (atL M) ∧ Below w.heap.size w z1) := ⟨ho, hb'⟩); clear ho hb' H10; (obtain ⟨t1, d1, e1, -⟩ := own_ats HZ1.out.1 HMC.out); subst e1)
            go_wp2_with (first | (go_at_call 22; refine (H11.out _ z1 (own_low HZ1.out.1 (HY1.out).size) HZ1.out.2).mono ?_; rintro e z2 ⟨⟨q2, rfl, ho⟩, hb'⟩; (have HZ2 : Hid (z2.ownsRow z1.heap.size 45 2 q2 M.length (atL M) ∧ Below z1.heap.size z1 z2) := ⟨ho, hb'⟩); clear ho hb' H11; (obtain ⟨t2, d2, e2, -⟩ := own_ats HZ2.out.1 HMC.out); subst e2) | (go_at_call 9; refine (H12.out _ _ z1 z2 _ _ HZ1.out.1 HZ2.out.2 HZ2.out.1 (HZ1.out.2.trans (HZ2.out.2.mono HZ1.out.2.size))).mono ?_; rintro e z3 ⟨rfl, hb'⟩; (have HZ3 : Hid (Below w.heap.size w z3) := hb'); clear hb') | (go_at_call 17; refine (H13.out z3 HZ3.out).mono ?_; rintro e z4 ⟨rfl, hb'⟩; (have HZ4 : Hid (Below w.heap.size w z4) := hb'); clear hb'))
            go_ret
            exact ⟨rfl, HZ4.out⟩
    · obtain rfl : false = r := HXZ.out
      go_upto_region 5 with (first | (go_at_call 24; refine (H3.out w2 HB2.out).mono ?_; rintro e w3 ⟨rfl, hb'⟩; (have HB3 : Hid (Below w.heap.size w w3) := hb'); clear hb' H3) | (go_at_call 9; refine (H5.out w3 HB3.out).mono ?_; rintro e w4 ⟨rfl, hb'⟩; (have HB4 : Hid (Below w.heap.size w w4) := hb'); clear hb') | (go_at_call 24; refine (H4.out w4 HB4.out).mono ?_; rintro e w5 ⟨rfl, hb'⟩; (have HB5 : Hid (Below w.heap.size w w5) := hb'); clear hb'))
      go_upto_region 6 with (go_at_call 20; refine (H6.out w4 HB4.out).mono ?_; rintro e v6 ⟨⟨q6, rfl, ho⟩, hb'⟩; (have HO6 : Hid (v6.ownsRow w4.heap.size 45 2 q6 S.length (atL S) ∧ Below w.heap.size w v6) := ⟨ho, hb'⟩); clear ho hb' H6; (obtain ⟨s6, c6, e6, -⟩ := own_ats HO6.out.1 HSC.out.1); subst e6)
      rcases HE.out with hE0 | hE0
      · have hE1 : (E == 0) = false := by simpa using hE0
        clear hE0
        go_upto_region 10 with (fail)
        rcases HRA.out with hra0 | hra0
        · subst hra0
          go_upto_region 11 with (go_at_call 11; refine (H9.out v6 HO6.out.2).mono ?_; rintro e y1 ⟨rfl, hb'⟩; (have HY1 : Hid (Below w.heap.size w y1) := hb'); clear hb' H9)
          go_upto_region 12 with (go_at_call 18; refine (H7.out y1 HY1.out).mono ?_; rintro e y2 ⟨rfl, hb'⟩; (have HY2 : Hid (Below w.heap.size w y2) := hb'); clear hb' H7)
          go_upto_region 13 with (go_at_call 20; refine (H8.out (by simp) y2 HY2.out).mono ?_; rintro e y3 ⟨⟨q3, rfl, ho⟩, hb'⟩; (have HY3 : Hid (y3.ownsRow y2.heap.size 45 2 q3 a.length (atL a) ∧ Below w.heap.size w y3) := ⟨ho, hb'⟩); clear ho hb' H8; (obtain ⟨s3, c3, e3, -⟩ := own_ats HY3.out.1 HA.out.1.can); subst e3)
          go_upto_region 15 with (go_at_call 9; refine (HOA.out _ y3 y3 _ HY3.out.1 (Below.refl _ _) HY3.out.2).mono ?_; rintro e y4 ⟨rfl, hb'⟩; (have HY4 : Hid (Below w.heap.size w y4) := hb'); clear hb' HOA)
          go_upto_region 16 with (go_at_call 22; refine (H10.out y4 HY4.out).mono ?_; rintro e z1 ⟨⟨q1, rfl, ho⟩, hb'⟩; (have HZ1 : Hid (z1.ownsRow y4.heap.size 45 2 q1 M.length (atL M) ∧ Below w.heap.size w z1) := ⟨ho, hb'⟩); clear ho hb' H10; (obtain ⟨t1, d1, e1, -⟩ := own_ats HZ1.out.1 HMC.out); subst e1)
          go_wp2_with (first | (go_at_call 22; refine (H11.out _ z1 (own_low HZ1.out.1 (HY4.out).size) HZ1.out.2).mono ?_; rintro e z2 ⟨⟨q2, rfl, ho⟩, hb'⟩; (have HZ2 : Hid (z2.ownsRow z1.heap.size 45 2 q2 M.length (atL M) ∧ Below z1.heap.size z1 z2) := ⟨ho, hb'⟩); clear ho hb' H11; (obtain ⟨t2, d2, e2, -⟩ := own_ats HZ2.out.1 HMC.out); subst e2) | (go_at_call 9; refine (H12.out _ _ z1 z2 _ _ HZ1.out.1 HZ2.out.2 HZ2.out.1 (HZ1.out.2.trans (HZ2.out.2.mono HZ1.out.2.size))).mono ?_; rintro e z3 ⟨rfl, hb'⟩; (have HZ3 : Hid (Below w.heap.size w z3) := hb'); clear hb') | (go_at_call 17; refine (H13.out z3 HZ3.out).mono ?_; rintro e z4 ⟨rfl, hb'⟩; (have HZ4 : Hid (Below w.heap.size w z4) := hb'); clear hb'))
          go_ret
          exact ⟨rfl, HZ4.out⟩
        · have hra1 : (ra == 0) = false := by simpa using hra0
          clear hra0
          go_upto_region 15 with (go_at_call 11; refine (H9.out v6 HO6.out.2).mono ?_; rintro e y1 ⟨rfl, hb'⟩; (have HY1 : Hid (Below w.heap.size w y1) := hb'); clear hb' H9)
          go_upto_region 16 with (go_at_call 22; refine (H10.out y1 HY1.out).mono ?_; rintro e z1 ⟨⟨q1, rfl, ho⟩, hb'⟩; (have HZ1 : Hid (z1.ownsRow y1.heap.size 45 2 q1 M.length (atL M) ∧ Below w.heap.size w z1) := ⟨ho, hb'⟩); clear ho hb' H10; (obtain ⟨t1, d1, e1, -⟩ := own_ats HZ1.out.1 HMC.out); subst e1)
          go_wp2_with (first | (go_at_call 22; refine (H11.out _ z1 (own_low HZ1.out.1 (HY1.out).size) HZ1.out.2).mono ?_; rintro e z2 ⟨⟨q2, rfl, ho⟩, hb'⟩; (have HZ2 : Hid (z2.ownsRow z1.heap.size 45 2 q2 M.length (atL M) ∧ Below z1.heap.size z1 z2) := ⟨ho, hb'⟩); clear ho hb' H11; (obtain ⟨t2, d2, e2, -⟩ := own_ats HZ2.out.1 HMC.out); subst e2) | (go_at_call 9; refine (H12.out _ _ z1 z2 _ _ HZ1.out.1 HZ2.out.2 HZ2.out.1 (HZ1.out.2.trans (HZ2.out.2.mono HZ1.out.2.size))).mono ?_; rintro e z3 ⟨rfl, hb'⟩; (have HZ3 : Hid (Below w.heap.size w z3) := hb'); clear hb') | (go_at_call 17; refine (H13.out z3 HZ3.out).mono ?_; rintro e z4 ⟨rfl, hb'⟩; (have HZ4 : Hid (Below w.heap.size w z4) := hb'); clear hb'))
          go_ret
          exact ⟨rfl, HZ4.out⟩
      · subst hE0
        rcases hve.out with rfl | hv0
        · have hv1 : (tx ([] : List UInt8)).toList.isEmpty = true := by rw [tx_list]; rfl
          have hv2 : (tx ([] : List UInt8)).toList = [] := tx_list _
          go_upto_region 10 with (fail)
          rcases HRA.out with hra0 | hra0
          · subst hra0
            go_upto_region 11 with (go_at_call 11; refine (H9.out v6 HO6.out.2).mono ?_; rintro e y1 ⟨rfl, hb'⟩; (have HY1 : Hid (Below w.heap.size w y1) := hb'); clear hb' H9)
            go_upto_region 12 with (go_at_call 18; refine (H7.out y1 HY1.out).mono ?_; rintro e y2 ⟨rfl, hb'⟩; (have HY2 : Hid (Below w.heap.size w y2) := hb'); clear hb' H7)
            go_upto_region 13 with (go_at_call 20; refine (H8.out (by simp) y2 HY2.out).mono ?_; rintro e y3 ⟨⟨q3, rfl, ho⟩, hb'⟩; (have HY3 : Hid (y3.ownsRow y2.heap.size 45 2 q3 a.length (atL a) ∧ Below w.heap.size w y3) := ⟨ho, hb'⟩); clear ho hb' H8; (obtain ⟨s3, c3, e3, -⟩ := own_ats HY3.out.1 HA.out.1.can); subst e3)
            go_upto_region 15 with (go_at_call 9; refine (HOA.out _ y3 y3 _ HY3.out.1 (Below.refl _ _) HY3.out.2).mono ?_; rintro e y4 ⟨rfl, hb'⟩; (have HY4 : Hid (Below w.heap.size w y4) := hb'); clear hb' HOA)
            go_upto_region 16 with (go_at_call 22; refine (H10.out y4 HY4.out).mono ?_; rintro e z1 ⟨⟨q1, rfl, ho⟩, hb'⟩; (have HZ1 : Hid (z1.ownsRow y4.heap.size 45 2 q1 M.length (atL M) ∧ Below w.heap.size w z1) := ⟨ho, hb'⟩); clear ho hb' H10; (obtain ⟨t1, d1, e1, -⟩ := own_ats HZ1.out.1 HMC.out); subst e1)
            go_wp2_with (first | (go_at_call 22; refine (H11.out _ z1 (own_low HZ1.out.1 (HY4.out).size) HZ1.out.2).mono ?_; rintro e z2 ⟨⟨q2, rfl, ho⟩, hb'⟩; (have HZ2 : Hid (z2.ownsRow z1.heap.size 45 2 q2 M.length (atL M) ∧ Below z1.heap.size z1 z2) := ⟨ho, hb'⟩); clear ho hb' H11; (obtain ⟨t2, d2, e2, -⟩ := own_ats HZ2.out.1 HMC.out); subst e2) | (go_at_call 9; refine (H12.out _ _ z1 z2 _ _ HZ1.out.1 HZ2.out.2 HZ2.out.1 (HZ1.out.2.trans (HZ2.out.2.mono HZ1.out.2.size))).mono ?_; rintro e z3 ⟨rfl, hb'⟩; (have HZ3 : Hid (Below w.heap.size w z3) := hb'); clear hb') | (go_at_call 17; refine (H13.out z3 HZ3.out).mono ?_; rintro e z4 ⟨rfl, hb'⟩; (have HZ4 : Hid (Below w.heap.size w z4) := hb'); clear hb'))
            go_ret
            exact ⟨rfl, HZ4.out⟩
          · have hra1 : (ra == 0) = false := by simpa using hra0
            clear hra0
            go_upto_region 15 with (go_at_call 11; refine (H9.out v6 HO6.out.2).mono ?_; rintro e y1 ⟨rfl, hb'⟩; (have HY1 : Hid (Below w.heap.size w y1) := hb'); clear hb' H9)
            go_upto_region 16 with (go_at_call 22; refine (H10.out y1 HY1.out).mono ?_; rintro e z1 ⟨⟨q1, rfl, ho⟩, hb'⟩; (have HZ1 : Hid (z1.ownsRow y1.heap.size 45 2 q1 M.length (atL M) ∧ Below w.heap.size w z1) := ⟨ho, hb'⟩); clear ho hb' H10; (obtain ⟨t1, d1, e1, -⟩ := own_ats HZ1.out.1 HMC.out); subst e1)
            go_wp2_with (first | (go_at_call 22; refine (H11.out _ z1 (own_low HZ1.out.1 (HY1.out).size) HZ1.out.2).mono ?_; rintro e z2 ⟨⟨q2, rfl, ho⟩, hb'⟩; (have HZ2 : Hid (z2.ownsRow z1.heap.size 45 2 q2 M.length (atL M) ∧ Below z1.heap.size z1 z2) := ⟨ho, hb'⟩); clear ho hb' H11; (obtain ⟨t2, d2, e2, -⟩ := own_ats HZ2.out.1 HMC.out); subst e2) | (go_at_call 9; refine (H12.out _ _ z1 z2 _ _ HZ1.out.1 HZ2.out.2 HZ2.out.1 (HZ1.out.2.trans (HZ2.out.2.mono HZ1.out.2.size))).mono ?_; rintro e z3 ⟨rfl, hb'⟩; (have HZ3 : Hid (Below w.heap.size w z3) := hb'); clear hb') | (go_at_call 17; refine (H13.out z3 HZ3.out).mono ?_; rintro e z4 ⟨rfl, hb'⟩; (have HZ4 : Hid (Below w.heap.size w z4) := hb'); clear hb'))
            go_ret
            exact ⟨rfl, HZ4.out⟩
        · have HV : Hid (v ≠ []) := hv0
          have hv1 : (tx v).toList.isEmpty = false := tx_empty hv0
          have hv2 : ¬ (tx v).toList = [] := tx_nil hv0
          clear hv0
          go_upto_region 8 with (go_at_call 18; refine ((HOS.out _ v6 v6 _ HO6.out.1 HV.out (by simp) (Below.refl _ _) HO6.out.2).1).mono ?_; rintro e v7 ⟨rfl, hb'⟩; (have HO7 : Hid (Below v6.heap.size v6 v7 ∧ Below w.heap.size w v7) := ⟨hb', HO6.out.2.trans (hb'.mono HO6.out.2.size)⟩); clear hb')
          go_upto_region 10 with (go_at_call 11; refine ((HOS.out _ v6 v7 _ HO6.out.1 HV.out (by simp) HO7.out.1 HO7.out.2).2).mono ?_; rintro e v8 ⟨rfl, hb'⟩; (have HO8 : Hid (Below w.heap.size w v8) := HO7.out.2.trans (hb'.mono HO7.out.2.size)); clear hb' HOS)
          rcases HRA.out with hra0 | hra0
          · subst hra0
            go_upto_region 11 with (go_at_call 11; refine (H9.out v8 HO8.out).mono ?_; rintro e y1 ⟨rfl, hb'⟩; (have HY1 : Hid (Below w.heap.size w y1) := hb'); clear hb' H9)
            go_upto_region 12 with (go_at_call 18; refine (H7.out y1 HY1.out).mono ?_; rintro e y2 ⟨rfl, hb'⟩; (have HY2 : Hid (Below w.heap.size w y2) := hb'); clear hb' H7)
            go_upto_region 13 with (go_at_call 20; refine (H8.out (by simp) y2 HY2.out).mono ?_; rintro e y3 ⟨⟨q3, rfl, ho⟩, hb'⟩; (have HY3 : Hid (y3.ownsRow y2.heap.size 45 2 q3 a.length (atL a) ∧ Below w.heap.size w y3) := ⟨ho, hb'⟩); clear ho hb' H8; (obtain ⟨s3, c3, e3, -⟩ := own_ats HY3.out.1 HA.out.1.can); subst e3)
            go_upto_region 15 with (go_at_call 9; refine (HOA.out _ y3 y3 _ HY3.out.1 (Below.refl _ _) HY3.out.2).mono ?_; rintro e y4 ⟨rfl, hb'⟩; (have HY4 : Hid (Below w.heap.size w y4) := hb'); clear hb' HOA)
            go_upto_region 16 with (go_at_call 22; refine (H10.out y4 HY4.out).mono ?_; rintro e z1 ⟨⟨q1, rfl, ho⟩, hb'⟩; (have HZ1 : Hid (z1.ownsRow y4.heap.size 45 2 q1 M.length (atL M) ∧ Below w.heap.size w z1) := ⟨ho, hb'⟩); clear ho hb' H10; (obtain ⟨t1, d1, e1, -⟩ := own_ats HZ1.out.1 HMC.out); subst e1)
            go_wp2_with (first | (go_at_call 22; refine (H11.out _ z1 (own_low HZ1.out.1 (HY4.out).size) HZ1.out.2).mono ?_; rintro e z2 ⟨⟨q2, rfl, ho⟩, hb'⟩; (have HZ2 : Hid (z2.ownsRow z1.heap.size 45 2 q2 M.length (atL M) ∧ Below z1.heap.size z1 z2) := ⟨ho, hb'⟩); clear ho hb' H11; (obtain ⟨t2, d2, e2, -⟩ := own_ats HZ2.out.1 HMC.out); subst e2) | (go_at_call 9; refine (H12.out _ _ z1 z2 _ _ HZ1.out.1 HZ2.out.2 HZ2.out.1 (HZ1.out.2.trans (HZ2.out.2.mono HZ1.out.2.size))).mono ?_; rintro e z3 ⟨rfl, hb'⟩; (have HZ3 : Hid (Below w.heap.size w z3) := hb'); clear hb') | (go_at_call 17; refine (H13.out z3 HZ3.out).mono ?_; rintro e z4 ⟨rfl, hb'⟩; (have HZ4 : Hid (Below w.heap.size w z4) := hb'); clear hb'))
            go_ret
            exact ⟨rfl, HZ4.out⟩
          · have hra1 : (ra == 0) = false := by simpa using hra0
            clear hra0
            go_upto_region 15 with (go_at_call 11; refine (H9.out v8 HO8.out).mono ?_; rintro e y1 ⟨rfl, hb'⟩; (have HY1 : Hid (Below w.heap.size w y1) := hb'); clear hb' H9)
            go_upto_region 16 with (go_at_call 22; refine (H10.out y1 HY1.out).mono ?_; rintro e z1 ⟨⟨q1, rfl, ho⟩, hb'⟩; (have HZ1 : Hid (z1.ownsRow y1.heap.size 45 2 q1 M.length (atL M) ∧ Below w.heap.size w z1) := ⟨ho, hb'⟩); clear ho hb' H10; (obtain ⟨t1, d1, e1, -⟩ := own_ats HZ1.out.1 HMC.out); subst e1)
            go_wp2_with (first | (go_at_call 22; refine (H11.out _ z1 (own_low HZ1.out.1 (HY1.out).size) HZ1.out.2).mono ?_; rintro e z2 ⟨⟨q2, rfl, ho⟩, hb'⟩; (have HZ2 : Hid (z2.ownsRow z1.heap.size 45 2 q2 M.length (atL M) ∧ Below z1.heap.size z1 z2) := ⟨ho, hb'⟩); clear ho hb' H11; (obtain ⟨t2, d2, e2, -⟩ := own_ats HZ2.out.1 HMC.out); subst e2) | (go_at_call 9; refine (H12.out _ _ z1 z2 _ _ HZ1.out.1 HZ2.out.2 HZ2.out.1 (HZ1.out.2.trans (HZ2.out.2.mono HZ1.out.2.size))).mono ?_; rintro e z3 ⟨rfl, hb'⟩; (have HZ3 : Hid (Below w.heap.size w z3) := hb'); clear hb') | (go_at_call 17; refine (H13.out z3 HZ3.out).mono ?_; rintro e z4 ⟨rfl, hb'⟩; (have HZ4 : Hid (Below w.heap.size w z4) := hb'); clear hb'))
            go_ret
            exact ⟨rfl, HZ4.out⟩
end Go.Proofs.YtnfocmoieofbpaaDoor
