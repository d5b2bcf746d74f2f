/- Turns: what a slot keeps. Plain mathematics. -/
import Derived.Test.YtfndbllpnkhlhaaTa
namespace Go.Proofs.Ytfndbllpnkhlhaa
set_option linter.unusedVariables false
set_option linter.unusedSimpArgs false

theorem nxt_min : ∀ (l : List Tn) (i : Nat) (a : Option (Nat × Int)) (k : Nat) (st : Int), nxt l i a = some (k, st) → (∀ j s0, a = some (j, s0) → st ≤ s0) ∧ ∀ t ∈ l, ∀ y r, t.ws = y :: r → st ≤ y.start
  | [], i, a, k, st, h => by
    have h' : a = some (k, st) := h
    refine ⟨fun j s0 e => ?_, fun t ht => (nomatch ht)⟩
    rw [h'] at e
    have := Option.some.inj e
    simp at this
    omega
  | t :: r, i, a, k, st, h => by
    unfold nxt at h
    obtain ⟨h1, h2⟩ := nxt_min r (i + 1) _ k st h
    cases hws : t.ws with
    | nil =>
      rw [hws] at h1
      refine ⟨h1, fun t' ht' y r' e => ?_⟩
      rcases List.mem_cons.1 ht' with e' | ht'
      · rw [e', hws] at e; cases e
      · exact h2 t' ht' y r' e
    | cons x l =>
      rw [hws] at h1
      simp only at h1
      have hx : st ≤ x.start ∧ ∀ j s0, a = some (j, s0) → st ≤ s0 := by
        cases a with
        | none => exact ⟨h1 _ _ rfl, fun j s0 e => (nomatch e)⟩
        | some p =>
          obtain ⟨j, s0⟩ := p
          simp only at h1
          by_cases c : x.start < s0
          · rw [if_pos c] at h1
            have := h1 _ _ rfl
            refine ⟨this, fun j' s' e => ?_⟩
            have e' := Option.some.inj e
            simp at e'
            omega
          · rw [if_neg c] at h1
            have := h1 _ _ rfl
            refine ⟨by omega, fun j' s' e => ?_⟩
            have e' := Option.some.inj e
            simp at e'
            omega
      refine ⟨hx.2, fun t' ht' y r' e => ?_⟩
      rcases List.mem_cons.1 ht' with e' | ht'
      · rw [e', hws] at e
        have := (List.cons.inj e).1
        rw [← this]
        exact hx.1
      · exact h2 t' ht' y r' e
/-- The clock comes to the least start. -/
theorem To.clock {C clk clk' : Int} {t : Tn} (h : To C clk t) (hc : clk ≤ clk') (hm : ∀ y r, t.ws = y :: r → clk' ≤ y.start) : To C clk' t := by
  obtain ⟨b, h1, h2, h3⟩ := h.ch
  refine ⟨h.w0, h.w1, ⟨b, h1, by omega, fun hn => ?_⟩, h.co⟩
  cases hws : t.ws with
  | nil => exact (hn hws).elim
  | cons y r =>
    rw [hws] at h1
    have := hm y r hws
    have := h1.1
    omega
/-- A tenant's first job. -/
theorem To.head {C clk : Int} {t : Tn} {x : Wk} {l : List Wk} (h : To C clk t) (hws : t.ws = x :: l) : clk ≤ x.start ∧ x.start ≤ clk + C * un t ∧ Ch (un t) (x.start + x.cost * un t) l t.fin ∧ (1 ≤ x.cost ∧ x.cost ≤ C ∧ 1 ≤ x.left ∧ x.left ≤ x.cost) := by
  obtain ⟨b, h1, h2, h3⟩ := h.ch
  have hb := h3 (by rw [hws]; simp)
  rw [hws] at h1
  have e := h1.1
  have e2 := h1.2
  rw [← e] at e2 h2 hb
  exact ⟨hb, h2, e2, h.co x (by rw [hws]; simp)⟩
/-- A unit was served, and the job is not done. -/
theorem To.half {C clk : Int} {t : Tn} {x : Wk} {l : List Wk} (h : To C clk t) (hws : t.ws = x :: l) (hm : 1 < x.left) : To C clk { t with ws := { x with left := x.left - 1 } :: l } := by
  obtain ⟨h1, h2, h3, h4⟩ := h.head hws
  refine ⟨h.w0, h.w1, ⟨x.start, ⟨rfl, h3⟩, h2, fun _ => h1⟩, fun y hy => ?_⟩
  rcases List.mem_cons.1 hy with e | hy
  · subst e; exact ⟨h4.1, h4.2.1, by show 1 ≤ x.left - 1; omega, by show x.left - 1 ≤ x.cost; omega⟩
  · exact h.co y (by rw [hws]; simp [hy])
/-- The job is done. -/
theorem To.done {C clk : Int} {t : Tn} {x : Wk} {l : List Wk} (h : To C clk t) (hws : t.ws = x :: l) (hx : x.start = clk) : To C clk { t with ws := l } := by
  obtain ⟨h1, h2, h3, h4⟩ := h.head hws
  have hu := un_bd ⟨h.w0, h.w1⟩
  have hm := mul_mono h4.2.1 (show 1 ≤ un t by omega)
  have hn := cu_nn h4.1 (show 1 ≤ un t by omega)
  refine ⟨h.w0, h.w1, ⟨x.start + x.cost * un t, h3, by show _ ≤ clk + C * un t; omega, fun _ => by omega⟩, fun y hy => h.co y (by rw [hws]; simp [hy])⟩
theorem left_zero : ∀ {l : List Tn}, leftS l = 0 → ∀ t ∈ l, t.ws = []
  | [], _, t, ht => (nomatch ht)
  | p :: r, h, t, ht => by
    unfold leftS at h
    rcases List.mem_cons.1 ht with e | ht
    · subst e; exact List.eq_nil_of_length_eq_zero (by omega)
    · exact left_zero (by omega) t ht
theorem rest_iv {C : Int} {s : Sc} (h : Iv C s) (hz : leftS s.ts = 0) (hb : s.busy = false) : Iv C (restS s) := by
  refine ⟨fun t ht => ?_, ?_, h.c0, fun e => ?_, fun t ht _ x hx => ?_⟩
  · obtain ⟨x, hx, rfl⟩ := List.mem_map.1 ht
    have hx0 := left_zero hz x hx
    have hT := h.all x hx
    have hu := un_bd ⟨hT.w0, hT.w1⟩
    have := Int.mul_nonneg h.c0 (show 0 ≤ un x by omega)
    refine ⟨hT.w0, hT.w1, ⟨0, ?_, by show (0 : Int) ≤ 0 + C * un x; omega, fun hn => (hn hx0).elim⟩, fun y hy => hT.co y hy⟩
    show Ch (un x) 0 x.ws 0
    rw [hx0]
    exact rfl
  · show ((s.ts.map _).map _).Nodup
    rw [List.map_map]
    exact h.nd
  · have : s.busy = true := e
    rw [hb] at this
    cases this
  · obtain ⟨y, hy, rfl⟩ := List.mem_map.1 ht
    have hx' : x ∈ y.ws := hx
    rw [left_zero hz y hy] at hx'
    cases hx'
/-- A slot of a tenant's first job, which starts at the clock. -/
theorem serve_iv {C : Int} {s : Sc} {k : Nat} {t : Tn} {x : Wk} {l : List Wk} (hall : ∀ t ∈ s.ts, To C s.clk t) (hnd : (s.ts.map fun t => t.nm).Nodup) (hc : 0 ≤ C) (hk : s.ts[k]? = some t) (hsv : s.srv = t.nm) (hws : t.ws = x :: l) (hx : x.start = s.clk) (hl : ∀ y ∈ l, y.left = y.cost) (ho : ∀ u ∈ s.ts, u.nm ≠ s.srv → ∀ y ∈ u.ws, y.left = y.cost) : Iv C (serveS s k t x l).2 := by
  have ht := hall t (List.mem_of_getElem? hk)
  unfold serveS
  by_cases hm : 1 < x.left
  · rw [if_pos hm]
    refine ⟨fun u hu => ?_, nd_set hnd hk rfl, hc, fun _ => ⟨k, { t with ws := { x with left := x.left - 1 } :: l }, { x with left := x.left - 1 }, l, ?_, rfl, hx, hl⟩, fun u hu hor y hy => ?_⟩
    · rcases mem_setT hu with e | ⟨j, hj, hu⟩
      · subst e; exact ht.half hws hm
      · exact hall u (List.mem_of_getElem? hu)
    · have := look_of (l := s.ts.set k { t with ws := { x with left := x.left - 1 } :: l }) (nd_set hnd hk rfl) (List.getElem?_set_self (List.getElem?_eq_some_iff.1 hk).1)
      show lookT _ s.srv = _
      rw [hsv]
      exact this
    · rcases mem_setT hu with e | ⟨j, hj, hu⟩
      · subst e
        rcases hor with e | e
        · cases e
        · exact (e hsv.symm).elim
      · rcases hor with e | e
        · cases e
        · exact ho u (List.mem_of_getElem? hu) e y hy
  · rw [if_neg hm]
    have h2 : Iv C { s with ts := s.ts.set k { t with ws := l }, busy := false } := by
      refine ⟨fun u hu => ?_, nd_set hnd hk rfl, hc, fun e => (nomatch e), fun u hu hor y hy => ?_⟩
      · rcases mem_setT hu with e | ⟨j, hj, hu⟩
        · subst e; exact ht.done hws hx
        · exact hall u (List.mem_of_getElem? hu)
      · rcases mem_setT hu with e | ⟨j, hj, hu⟩
        · subst e; exact hl y hy
        · by_cases e : u.nm = s.srv
          · exact (hj (nd_at hnd hu hk (by rw [e, hsv]))).elim
          · exact ho u (List.mem_of_getElem? hu) e y hy
    show Iv C (if _ then _ else _)
    split
    · rename_i hz
      exact rest_iv h2 hz rfl
    · exact h2
theorem stepS_iv {C : Int} {s : Sc} (h : Iv C s) : Iv C (stepS s).2 := by
  unfold stepS
  cases hb : s.busy with
  | true =>
    obtain ⟨k, t, x, l, g1, g2, g3, g4⟩ := h.busy hb
    obtain ⟨g5, g6⟩ := look_in g1
    simp only [if_true, g1, g2]
    exact serve_iv h.all h.nd h.c0 g5 g6.symm g2 g3 g4 fun u hu hn => h.other u hu (.inr hn)
  | false =>
    simp only [Bool.false_eq_true, if_false]
    cases hn : nxt s.ts 0 none with
    | none => exact h
    | some y =>
      obtain ⟨k, st⟩ := y
      obtain ⟨_, hmin⟩ := nxt_min _ _ _ _ _ hn
      rcases nxt_some _ _ _ _ _ hn with e | ⟨j, t, x, l, hkj, ht, hws, hst⟩
      · cases e
      rw [Nat.zero_add] at hkj
      subst hkj
      subst hst
      simp only [ht, hws]
      have hT := h.all t (List.mem_of_getElem? ht)
      obtain ⟨q1, q2, q3, q4⟩ := hT.head hws
      refine serve_iv (s := { s with clk := x.start, srv := t.nm }) (fun u hu => (h.all u hu).clock q1 (hmin u hu)) h.nd h.c0 ht rfl hws rfl (fun y hy => h.other t (List.mem_of_getElem? ht) (.inl hb) y (by rw [hws]; simp [hy])) (fun u hu _ y hy => h.other u hu (.inl hb) y hy)
end Go.Proofs.Ytfndbllpnkhlhaa
