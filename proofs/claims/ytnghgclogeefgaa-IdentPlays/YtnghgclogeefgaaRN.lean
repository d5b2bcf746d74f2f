/- Tables: a session is renewed, in both. -/
import Derived.Test.YtnghgclogeefgaaR3
namespace Go.Proofs.Ytnghgclogeefgaa
open Go.RowKit
set_option linter.unusedVariables false
set_option linter.unusedSimpArgs false

theorem own_set {w : World} {base e size g n cap i : Nat} {xs : List Value} (h : w.ownsRow base e size (.slice (some ⟨g, 0, none⟩) n cap) n xs) (hi : i < xs.length) (v : Value) : (w.setCell ⟨g, i, none⟩ v).ownsRow base e size (.slice (some ⟨g, 0, none⟩) n cap) n (xs.set i v) := by
  refine ⟨by rw [List.length_set]; exact h.1, .inr ?_⟩
  rcases h.2 with ⟨h', _⟩ | ⟨g', cp', cur, hv, hb, hc, h3, h4, h5, h6⟩
  · cases h'
  · cases hv
    refine ⟨g, cap, cur.setIfInBounds i v, rfl, hb, row_set _ hc, h3, h4, by simpa using h5, ?_⟩
    rw [Array.toList_setIfInBounds, ← h6, List.take_set]
def upd (ss : List Se) (id E : Int) : List Se := match ix ss id with | some k => (match ss[k]? with | some s => ss.set k ⟨s.num, s.t, s.u, s.a, E⟩ | none => ss) | none => ss
theorem upd_len (ss : List Se) (id E : Int) : (upd ss id E).length = ss.length := by
  unfold upd
  split
  · split
    · simp
    · rfl
  · rfl
theorem seL_set : ∀ (ss : List Se) (k : Nat) (s : Se) (E : Int), ss[k]? = some s → (seL ss).set (k * 5 + 4) (.int .i64 E) = seL (ss.set k ⟨s.num, s.t, s.u, s.a, E⟩)
  | [], k, s, E, h => by simp at h
  | p :: r, 0, s, E, h => by
    simp at h
    subst h
    rfl
  | p :: r, k + 1, s, E, h => by
    simp at h
    have ih := seL_set r k s E h
    show (se5 p ++ seL r).set ((k + 1) * 5 + 4) _ = se5 p ++ seL (r.set k _)
    rw [List.set_append_right _ _ (by simp [se5]; omega), show (k + 1) * 5 + 4 - (se5 p).length = k * 5 + 4 by simp [se5]; omega, ih]
/-- What Renew does: the error, the sessions. -/
def rnI (ss : List Se) (id now span : Int) : Int × List Se := if rsI now span = false then (1, ss) else if (thI ss id now).isSome = false then (5, ss) else (0, upd ss id (endI now span))
theorem th_at (ss : List Se) (id now : Int) (s : Se) (h : thI ss id now = some s) : ∃ k, ix ss id = some k ∧ ss[k]? = some s := by
  unfold thI at h
  split at h
  · rename_i k hk
    split at h
    · rename_i s' hs'
      split at h
      · cases h
      · cases h; exact ⟨k, hk, hs'⟩
    · cases h
  · cases h
set_option maxRecDepth 20000 in
set_option maxHeartbeats 4000000 in
theorem renew_any (T base : Nat) (last : Int) (sv : Value) (ss : List Se) (id now span : Int) (w : World) (h : Tb w T base last sv ss) (hl : ss.length ≤ 64) (hbs : base ≤ w.heap.size) :
    Calls Try.prog 22 #[.pointer (some ⟨T, 0, none⟩), .int .i64 id, .int .i64 now, .int .i64 span] w fun e w' => e = .returned (.int .i64 (rnI ss id now span).1) ∧ (∃ sv', Tb w' T base last sv' (rnI ss id now span).2) ∧ Below base w w' ∧ Kg 64 68 w w' := by
  have HT : Hid (Tb w T base last sv ss) := h
  have HBS : Hid (base ≤ w.heap.size) := hbs
  have HRS : Hid (∀ W, Calls Try.prog 36 #[.int .i64 now, .int .i64 span] W fun e w' => e = .returned (.bool (rsI now span)) ∧ w' = W) := fun W => rspan_any now span W
  have HTH : Hid (Calls Try.prog 40 #[.pointer (some ⟨T, 0, none⟩), .int .i64 id, .int .i64 now] w fun e w' => e = .returned (.tuple #[.int .i64 (ixI ss id), .bool (thI ss id now).isSome]) ∧ Below w.heap.size w w') := there_any T base last sv ss id now w h (by omega)
  clear h hbs
  cases hr : rsI now span with
  | false =>
    have HR : Hid (rnI ss id now span = (1, ss)) := by show _ = _; unfold rnI; rw [if_pos hr]
    rw [hr] at HRS
    clear hr
    go_enter Try.func22, Try.ntmps22
    go_wp2_with (go_at_call 36; refine (HRS.out _).mono ?_; rintro e w1 ⟨rfl, hw1⟩; rw [hw1]; clear hw1)
    go_ret
    rw [HR.out]
    exact ⟨rfl, ⟨sv, HT.out⟩, Below.refl _ _, Kg.of (Below.refl w.heap.size w) (Nat.le_refl _)⟩
  | true =>
    rw [hr] at HRS
    have HEN : Hid (∀ W, Calls Try.prog 37 #[.int .i64 now, .int .i64 span] W fun e w' => e = .returned (.int .i64 (endI now span)) ∧ w' = W) := fun W => end_any now span W hr
    cases ho : thI ss id now with
    | none =>
      have HR : Hid (rnI ss id now span = (5, ss)) := by show _ = _; unfold rnI; rw [if_neg (by rw [hr]; decide), if_pos (by rw [ho]; rfl)]
      rw [ho] at HTH
      rw [show (none : Option Se).isSome = false from rfl] at HTH
      clear hr ho
      go_enter Try.func22, Try.ntmps22
      go_wp2_with (first | (go_at_call 36; refine (HRS.out _).mono ?_; rintro e w1 ⟨rfl, hw1⟩; rw [hw1]; clear hw1) | (go_at_call 40; refine HTH.out.mono ?_; rintro e w2 ⟨rfl, hb2⟩))
      go_ret
      rw [HR.out]
      exact ⟨rfl, ⟨sv, HT.out.later hb2 (Nat.le_refl _)⟩, hb2.mono HBS.out, Kg.of hb2 (Nat.le_refl _)⟩
    | some s =>
      obtain ⟨k, hx, hs⟩ := th_at ss id now s ho
      have HR : Hid (rnI ss id now span = (0, ss.set k ⟨s.num, s.t, s.u, s.a, endI now span⟩)) := by
        show _ = _
        unfold rnI upd
        rw [if_neg (by rw [hr]; decide), if_neg (by rw [ho]; simp), hx]
        simp only
        rw [hs]
      have e1 : ixI ss id = (k : Int) := by unfold ixI; rw [hx]
      rw [ho, e1] at HTH
      rw [show (some s).isSome = true from rfl] at HTH
      have hk : k < ss.length := (List.getElem?_eq_some_iff.1 hs).1
      have HS : Hid (ss[k]? = some s) := hs
      generalize endI now span = E at HEN HR
      obtain ⟨g, c, e⟩ := own_form HT.out.row (by omega)
      subst e
      have hk' : (k : Int) < (ss.length : Int) := by omega
      have hcap : (ss.length : Int) ≤ (c : Int) := by have := own_cap HT.out.row; omega
      have hl' : (ss.length : Int) ≤ 64 := by omega
      clear hr ho hx hs e1 hk hl
      go_enter Try.func22, Try.ntmps22
      go_wp2_with fail
      refine (HRS.out _).mono ?_
      rintro e w1 ⟨rfl, hw1⟩
      rw [hw1]; clear hw1
      go_wp2_with fail
      refine HTH.out.mono ?_
      rintro e w2 ⟨rfl, hb2⟩
      have HT2 : Hid (Tb w2 T base last (.slice (some ⟨g, 0, none⟩) ss.length c) ss) := HT.out.later hb2 (Nat.le_refl _)
      have HB2 : Hid (Below w.heap.size w w2) := hb2
      clear hb2
      have d1 : w2.cell? ⟨T, 1, none⟩ = some (.slice (some ⟨g, 0, none⟩) ss.length c) := by rw [cell_of_row _ _ _ _ _ _ HT2.out.tab]; rfl
      have c4 := (own_sc HT2.out.row HS.out).c4
      have f4 : w2.frozen? ⟨g, k * 5 + 4, none⟩ = false := by
        obtain ⟨cur, hc⟩ := own_tag HT2.out.row (q := g) rfl
        exact frozen_of_row _ _ _ _ _ hc
      go_wp2_with fail
      go_region_law (refine step_call2 rfl 37 (.tmp 33) (.tmp 34) 2 2 rfl (.int .i64 now) (.int .i64 span) (by simp [Act.eval, Act.put]) (by simp [Act.eval, Act.put]) (enters_of Try.func37 (by kernel_rfl) rfl) ?_; refine (HEN.out _).mono ?_; rintro e w9 ⟨rfl, hw9⟩; rw [hw9]; clear hw9; refine ⟨_, rfl, ?_⟩)
      all_goals
        go_wp2_with fail
        go_ret
        rw [HR.out]
        have hgT : T ≠ g := by
          obtain ⟨cur, hc⟩ := own_tag HT2.out.row (q := g) rfl
          exact ne_tag HT2.out.tab hc (by decide)
        have hlo := own_lt HT2.out.row
        refine ⟨rfl, ⟨.slice (some ⟨g, 0, none⟩) ss.length c, ?_⟩, ?_, ?_⟩
        · refine ⟨(Below.heap_setCell _ _ _ _ hgT).trans HT2.out.tab, ?_, HT2.out.low⟩
          rw [List.length_set, ← seL_set ss k s E HS.out]
          have hkl : k < ss.length := (List.getElem?_eq_some_iff.1 HS.out).1
          exact own_set (own_at HT2.out.row (w' := w2.drew) fun q hq => rfl) (by rw [seL_len]; omega) _
        · exact ((HB2.out.mono HBS.out).drew).setCell hlo.1 _
        · refine (Kg.of HB2.out (Nat.le_refl _)).trans ?_
          intro p cc t f hp n1 n2
          obtain ⟨cur, hc⟩ := own_tag HT2.out.row (q := g) rfl
          exact Below.heap_setCell _ _ _ _ (ne_tag hp hc n2)
set_option maxRecDepth 20000 in
set_option maxHeartbeats 4000000 in
theorem rrenew_any (T base : Nat) (last : Int) (sv : Value) (ss : List Se) (id now span : Int) (w : World) (h : RTb w T base last sv ss) (hl : ss.length ≤ 64) (hbs : base ≤ w.heap.size) :
    Calls Try.prog 23 #[.pointer (some ⟨T, 0, none⟩), .int .i64 id, .int .i64 now, .int .i64 span] w fun e w' => e = .returned (.int .i64 (rnI ss id now span).1) ∧ (∃ sv', RTb w' T base last sv' (rnI ss id now span).2) ∧ Below base w w' ∧ Kg 39 70 w w' := by
  have HT : Hid (RTb w T base last sv ss) := h
  have HBS : Hid (base ≤ w.heap.size) := hbs
  have HRS : Hid (∀ W, Calls Try.prog 38 #[.int .i64 now, .int .i64 span] W fun e w' => e = .returned (.bool (!rsI now span)) ∧ w' = W) := fun W => wrong_any now span W
  have HTH : Hid (Calls Try.prog 21 #[.pointer (some ⟨T, 0, none⟩), .int .i64 id, .int .i64 now] w fun e w' => e = .returned (whoV (thI ss id now)) ∧ Below w.heap.size w w') := rwho_any T base last sv ss id now w h (by omega)
  clear h hbs
  cases hr : rsI now span with
  | false =>
    have HR : Hid (rnI ss id now span = (1, ss)) := by show _ = _; unfold rnI; rw [if_pos hr]
    rw [hr, Bool.not_false] at HRS
    clear hr
    go_enter Try.func23, Try.ntmps23
    go_wp2_with (go_at_call 38; refine (HRS.out _).mono ?_; rintro e w1 ⟨rfl, hw1⟩; rw [hw1]; clear hw1)
    go_ret
    rw [HR.out]
    exact ⟨rfl, ⟨sv, HT.out⟩, Below.refl _ _, Kg.of (Below.refl w.heap.size w) (Nat.le_refl _)⟩
  | true =>
    rw [hr, Bool.not_true] at HRS
    have HEN : Hid (∀ W, Calls Try.prog 39 #[.int .i64 now, .int .i64 span] W fun e w' => e = .returned (.int .i64 (endI now span)) ∧ w' = W) := fun W => rover_any now span W hr
    cases ho : thI ss id now with
    | none =>
      have HR : Hid (rnI ss id now span = (5, ss)) := by show _ = _; unfold rnI; rw [if_neg (by rw [hr]; decide), if_pos (by rw [ho]; rfl)]
      rw [ho] at HTH
      rw [show whoV none = .tuple #[.agg #[.string ⟨#[]⟩, .string ⟨#[]⟩, .bool false], .int .i64 5] from rfl] at HTH
      clear hr ho
      go_enter Try.func23, Try.ntmps23
      go_wp2_with (first | (go_at_call 38; refine (HRS.out _).mono ?_; rintro e w1 ⟨rfl, hw1⟩; rw [hw1]; clear hw1) | (go_at_call 21; refine HTH.out.mono ?_; rintro e w2 ⟨rfl, hb2⟩))
      go_ret
      rw [HR.out]
      have hb3 := hb2.trans ((bel1 w2 (.cells #[.string ⟨#[]⟩, .string ⟨#[]⟩, .bool false] 23)).mono hb2.size)
      exact ⟨rfl, ⟨sv, HT.out.later hb3 (Nat.le_refl _)⟩, hb3.mono HBS.out, Kg.of hb3 (Nat.le_refl _)⟩
    | some s =>
      obtain ⟨k, hx, hs⟩ := th_at ss id now s ho
      have HR : Hid (rnI ss id now span = (0, ss.set k ⟨s.num, s.t, s.u, s.a, endI now span⟩)) := by
        show _ = _
        unfold rnI upd
        rw [if_neg (by rw [hr]; decide), if_neg (by rw [ho]; simp), hx]
        simp only
        rw [hs]
      have e1 : ixI ss id = (k : Int) := by unfold ixI; rw [hx]
      have HFI : Hid (∀ W, RTb W T base last sv ss → Calls Try.prog 41 #[.pointer (some ⟨T, 0, none⟩), .int .i64 id] W fun e w' => e = .returned (.int .i64 (k : Int)) ∧ w' = W) := fun W hW => by have h := rfind_any T base last sv ss id W hW (by omega); rw [e1] at h; exact h
      rw [ho] at HTH
      rw [show whoV (some s) = .tuple #[.agg #[.string (tx s.t), .string (tx s.u), .bool s.a], .int .i64 0] from rfl] at HTH
      have hk : k < ss.length := (List.getElem?_eq_some_iff.1 hs).1
      have HS : Hid (ss[k]? = some s) := hs
      generalize endI now span = E at HEN HR
      obtain ⟨g, c, e⟩ := own_form HT.out.row (by omega)
      subst e
      have hk' : (k : Int) < (ss.length : Int) := by omega
      have hcap : (ss.length : Int) ≤ (c : Int) := by have := own_cap HT.out.row; omega
      have hl' : (ss.length : Int) ≤ 64 := by omega
      clear hr ho hx hs e1 hk hl
      go_enter Try.func23, Try.ntmps23
      go_wp2_with fail
      refine (HRS.out _).mono ?_
      rintro e w1 ⟨rfl, hw1⟩
      rw [hw1]; clear hw1
      go_wp2_with fail
      refine HTH.out.mono ?_
      rintro e w2 ⟨rfl, hb2⟩
      go_upto_region 6 with fail
      obtain ⟨W3, hW3⟩ : ∃ W3, w2.alloc (.cells #[.string (tx s.t), .string (tx s.u), .bool s.a] 23) = W3 := ⟨_, rfl⟩
      have HB2 : Hid (Below w.heap.size w W3) := by show Below _ _ _; rw [← hW3]; exact hb2.trans ((bel1 _ _).mono hb2.size)
      try rw [hW3]
      clear hW3 hb2
      have HT2 : Hid (RTb W3 T base last (.slice (some ⟨g, 0, none⟩) ss.length c) ss) := HT.out.later HB2.out (Nat.le_refl _)
      have HT2d : Hid (RTb W3.drew T base last (.slice (some ⟨g, 0, none⟩) ss.length c) ss) := ⟨HT2.out.tab, own_at HT2.out.row fun q hq => rfl, HT2.out.low⟩
      have d1 : W3.cell? ⟨T, 0, none⟩ = some (.slice (some ⟨g, 0, none⟩) ss.length c) := by rw [cell_of_row _ _ _ _ _ _ HT2.out.tab]; rfl
      have c4 := (rown_sc HT2.out.row HS.out).c4
      have f4 : W3.frozen? ⟨g, k * 5 + 4, none⟩ = false := by
        obtain ⟨cur, hc⟩ := own_tag HT2.out.row (q := g) rfl
        exact frozen_of_row _ _ _ _ _ hc
      go_region_law (first | (refine step_call2 rfl 39 (.tmp 31) (.tmp 32) 2 2 rfl (.int .i64 now) (.int .i64 span) (by simp [Act.eval, Act.put]) (by simp [Act.eval, Act.put]) (enters_of Try.func39 (by kernel_rfl) rfl) ?_; refine (HEN.out _).mono ?_; rintro e w9 ⟨rfl, hw9⟩; rw [hw9]; clear hw9; refine ⟨_, rfl, ?_⟩) | (refine step_call2 rfl 41 (.tmp 28) (.tmp 29) 36 2 rfl (.pointer (some ⟨T, 0, none⟩)) (.int .i64 id) (by simp [Act.eval, Act.put]) (by simp [Act.eval, Act.put]) (enters_of Try.func41 (by kernel_rfl) rfl) ?_; refine (HFI.out _ HT2d.out).mono ?_; rintro e w8 ⟨rfl, hw8⟩; rw [hw8]; clear hw8; refine ⟨_, rfl, ?_⟩))
      all_goals
        go_wp2_with fail
        go_ret
        rw [HR.out]
        have hgT : T ≠ g := by
          obtain ⟨cur, hc⟩ := own_tag HT2.out.row (q := g) rfl
          exact ne_tag HT2.out.tab hc (by decide)
        have hlo := own_lt HT2.out.row
        refine ⟨rfl, ⟨.slice (some ⟨g, 0, none⟩) ss.length c, ?_⟩, ?_, ?_⟩
        · refine ⟨(Below.heap_setCell _ _ _ _ hgT).trans HT2.out.tab, ?_, HT2.out.low⟩
          rw [List.length_set, ← seL_set ss k s E HS.out]
          have hkl : k < ss.length := (List.getElem?_eq_some_iff.1 HS.out).1
          exact own_set (own_at HT2.out.row (w' := W3.drew) fun q hq => rfl) (by rw [seL_len]; omega) _
        · exact ((HB2.out.mono HBS.out).drew).setCell hlo.1 _
        · refine (Kg.of HB2.out (Nat.le_refl _)).trans ?_
          intro p cc t f hp n1 n2
          obtain ⟨cur, hc⟩ := own_tag HT2.out.row (q := g) rfl
          exact Below.heap_setCell _ _ _ _ (ne_tag hp hc n2)
end Go.Proofs.Ytnghgclogeefgaa
