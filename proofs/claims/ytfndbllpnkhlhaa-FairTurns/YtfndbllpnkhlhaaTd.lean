/- Turns: a slot more is a slot less; the bound. Plain mathematics. -/
import Derived.Test.YtfndbllpnkhlhaaTc
namespace Go.Proofs.Ytfndbllpnkhlhaa
set_option linter.unusedVariables false
set_option linter.unusedSimpArgs false

theorem push_ok0 {s : Sc} {nm : List UInt8} {id cost : Int} (h : (pushS s nm id cost).1 = 0) : ∃ k t, lookT s.ts nm = some (k, t) ∧ (1 ≤ cost ∧ cost ≤ 1000) ∧ pushS s nm id cost = (0, { s with ts := s.ts.set k { t with fin := begins s.clk t.fin + cost * 720720 / t.wt, ws := t.ws ++ [⟨id, cost, begins s.clk t.fin, cost⟩] } }) := by
  unfold pushS at h ⊢
  cases hlk : lookT s.ts nm with
  | none => rw [hlk] at h; simp at h
  | some y =>
    obtain ⟨k, t⟩ := y
    rw [hlk] at h
    simp only at h ⊢
    by_cases c1 : ¬ (1 ≤ cost ∧ cost ≤ 1000)
    · rw [if_pos c1] at h; simp at h
    · rw [if_neg c1] at h ⊢
      by_cases c2 : 16 ≤ t.ws.length
      · rw [if_pos c2] at h; simp at h
      · rw [if_neg c2]
        exact ⟨k, t, rfl, by omega, rfl⟩
theorem push_bad {s : Sc} {nm : List UInt8} {id cost : Int} (h : (pushS s nm id cost).1 ≠ 0) : (pushS s nm id cost).2 = s := by
  unfold pushS at h ⊢
  cases hlk : lookT s.ts nm with
  | none => rfl
  | some y =>
    obtain ⟨k, t⟩ := y
    rw [hlk] at h
    simp only at h ⊢
    by_cases c1 : ¬ (1 ≤ cost ∧ cost ≤ 1000)
    · rw [if_pos c1]
    · rw [if_neg c1] at h ⊢
      by_cases c2 : 16 ≤ t.ws.length
      · rw [if_pos c2]
      · rw [if_neg c2] at h
        exact (h rfl).elim
theorem Phi_push {C st : Int} {f nm : List UInt8} {n : Nat} {s : Sc} {id cost : Int} (h : Iv C s) (hm : Mkd st f n s) (hc : (pushS s nm id cost).1 = 0 → cost ≤ C) : Phi C st f n (pushS s nm id cost).2 ≤ Phi C st f n s ∧ Mkd st f n (pushS s nm id cost).2 := by
  by_cases h0 : (pushS s nm id cost).1 = 0
  · have hcost := hc h0
    obtain ⟨k, t, h1, h2, h3⟩ := push_ok0 h0
    obtain ⟨hk, hnm⟩ := look_in h1
    rw [h3]
    have hT := h.all t (List.mem_of_getElem? hk)
    obtain ⟨k2, t2, x, g1, g2, g3, g4⟩ := hm.ex
    obtain ⟨g5, g6⟩ := look_in g1
    have hnl := (List.getElem?_eq_some_iff.1 g2).1
    have hnd := nd_set (t' := { t with fin := begins s.clk t.fin + cost * 720720 / t.wt, ws := t.ws ++ [⟨id, cost, begins s.clk t.fin, cost⟩] }) h.nd hk rfl
    constructor
    · have hs := sum_set_le (g := gg C st s.clk f n) (g' := gg C st s.clk f n) (b := { t with fin := begins s.clk t.fin + cost * 720720 / t.wt, ws := t.ws ++ [⟨id, cost, begins s.clk t.fin, cost⟩] }) hk fun i u _ _ => Int.le_refl _
      have hle : gg C st s.clk f n { t with fin := begins s.clk t.fin + cost * 720720 / t.wt, ws := t.ws ++ [⟨id, cost, begins s.clk t.fin, cost⟩] } ≤ gg C st s.clk f n t := by
        unfold gg
        by_cases e : t.nm = f
        · rw [if_pos e, if_pos e]
          have : k = k2 := nd_at h.nd hk g5 (by rw [e, g6])
          subst this
          rw [hk] at g5
          have := Option.some.inj g5
          subst this
          show sumL ((t.ws ++ [_]).take (n + 1)) ≤ _
          rw [List.take_append_of_le_length (by omega)]
          exact Int.le_refl _
        · rw [if_neg e, if_neg e]
          exact ph_push hT h.c0 h2.1 hcost
      show ((s.ts.set k _).map (gg C st s.clk f n)).sum ≤ (s.ts.map (gg C st s.clk f n)).sum
      omega
    · by_cases e : k = k2
      · subst e
        rw [hk] at g5
        have := Option.some.inj g5
        subst this
        refine ⟨k, { t with fin := begins s.clk t.fin + cost * 720720 / t.wt, ws := t.ws ++ [⟨id, cost, begins s.clk t.fin, cost⟩] }, x, ?_, ?_, g3, g4⟩
        · have := look_of hnd (List.getElem?_set_self (List.getElem?_eq_some_iff.1 hk).1)
          rw [← g6]
          exact this
        · show (t.ws ++ [_])[n]? = _
          rw [List.getElem?_append_left hnl]
          exact g2
      · refine ⟨k2, t2, x, ?_, g2, g3, g4⟩
        have := look_of hnd (show _ = some t2 by rw [List.getElem?_set_ne e]; exact g5)
        rw [← g6]
        exact this
  · rw [push_bad h0]
    exact ⟨Int.le_refl _, hm⟩
theorem left_ne {l : List Tn} {t : Tn} (ht : t ∈ l) (hn : t.ws ≠ []) : ¬ leftS l = 0 := fun e => hn (left_zero e t ht)
set_option maxHeartbeats 1000000 in
theorem serve_phi {C st clk0 : Int} {f : List UInt8} {n : Nat} {s : Sc} {k : Nat} {t : Tn} {x : Wk} {l : List Wk} (hall : ∀ t ∈ s.ts, To C s.clk t) (hall0 : ∀ t ∈ s.ts, To C clk0 t) (hc : clk0 ≤ s.clk) (hnd : (s.ts.map fun t => t.nm).Nodup) (h0 : 0 ≤ C) (hk : s.ts[k]? = some t) (hws : t.ws = x :: l) (hx : x.start = s.clk) (hxs : x.start ≤ st) (hl : ∀ y ∈ l, y.left = y.cost) (hm : Mkd st f n s) :
    (serveS s k t x l).1.some = true ∧ (((serveS s k t x l).1.don = true ∧ (serveS s k t x l).1.id = -77) ∨ ∃ n', Mkd st f n' (serveS s k t x l).2 ∧ Phi C st f n' (serveS s k t x l).2 ≤ (s.ts.map (gg C st clk0 f n)).sum - 1) := by
  have ht := List.mem_of_getElem? hk
  have hT := hall t ht
  have hT0 := hall0 t ht
  have hco := hT.co x (by rw [hws]; simp)
  obtain ⟨k2, t2, z, g1, g2, g3, g4⟩ := hm.ex
  obtain ⟨g5, g6⟩ := look_in g1
  have hkl := (List.getElem?_eq_some_iff.1 hk).1
  have hph := ph_clock (st := st) hT0 h0 hc
  have hoth : ∀ (n' : Nat), (n' = n ∨ t.nm = f) → ∀ (i : Nat) (u : Tn), i ≠ k → s.ts[i]? = some u → gg C st s.clk f n' u ≤ gg C st clk0 f n u := fun n' hn' i u hi hu => by
    unfold gg
    by_cases e : u.nm = f
    · rw [if_pos e, if_pos e]
      rcases hn' with e2 | e2
      · rw [e2]; exact Int.le_refl _
      · exact (hi (nd_at hnd hu hk (by rw [e, e2]))).elim
    · rw [if_neg e, if_neg e]
      exact ph_clock (hall0 u (List.mem_of_getElem? hu)) h0 hc
  unfold serveS
  by_cases hmore : 1 < x.left
  · rw [if_pos hmore]
    refine ⟨rfl, .inr ⟨n, ?_, ?_⟩⟩
    · have hnd' := nd_set (t' := { t with ws := { x with left := x.left - 1 } :: l }) hnd hk rfl
      by_cases e : k = k2
      · subst e
        rw [hk] at g5
        have := Option.some.inj g5
        subst this
        have hlk := look_of hnd' (List.getElem?_set_self hkl)
        have hlk' : lookT (s.ts.set k { t with ws := { x with left := x.left - 1 } :: l }) f = some (k, { t with ws := { x with left := x.left - 1 } :: l }) := by rw [← g6]; exact hlk
        rw [hws] at g2
        cases n with
        | zero =>
          have e2 : x = z := by simpa using g2
          subst e2
          exact ⟨k, _, { x with left := x.left - 1 }, hlk', rfl, g3, g4⟩
        | succ n => exact ⟨k, _, z, hlk', by simpa using g2, g3, g4⟩
      · have hlk := look_of hnd' (show _ = some t2 by rw [List.getElem?_set_ne e]; exact g5)
        exact ⟨k2, t2, z, by rw [← g6]; exact hlk, g2, g3, g4⟩
    · have hs := sum_set_le (g := gg C st clk0 f n) (g' := gg C st s.clk f n) (b := { t with ws := { x with left := x.left - 1 } :: l }) hk (hoth n (.inl rfl))
      have hle : gg C st s.clk f n { t with ws := { x with left := x.left - 1 } :: l } ≤ gg C st clk0 f n t - 1 := by
        unfold gg
        by_cases e : t.nm = f
        · rw [if_pos e, if_pos e, hws]
          simp only [List.take_succ_cons, sumL]
          omega
        · rw [if_neg e, if_neg e, ph_half hws hxs]
          omega
      unfold Phi
      dsimp only
      omega
  · rw [if_neg hmore]
    have h1 : x.left = 1 := by omega
    refine ⟨rfl, ?_⟩
    have hnd' := nd_set (t' := { t with ws := l }) hnd hk rfl
    by_cases e : t.nm = f
    · have : k = k2 := nd_at hnd hk g5 (by rw [e, g6])
      subst this
      rw [hk] at g5
      have := Option.some.inj g5
      subst this
      rw [hws] at g2
      cases n with
      | zero =>
        have e2 : x = z := by simpa using g2
        have g3' : x.id = -77 := by rw [e2]; exact g3
        refine Or.inl ?_
        refine And.intro ?_ ?_
        · rfl
        · exact g3'
      | succ n =>
        have hln : l[n]? = some z := by simpa using g2
        have hlne : l ≠ [] := fun e => by rw [e] at hln; simp at hln
        have hself : (s.ts.set k { t with ws := l })[k]? = some { t with ws := l } := List.getElem?_set_self hkl
        have hnz : ¬ leftS (s.ts.set k { t with ws := l }) = 0 := left_ne (List.mem_of_getElem? hself) hlne
        refine .inr ⟨n, ?_, ?_⟩
        · dsimp only
          rw [if_neg hnz]
          have hlk := look_of hnd' hself
          refine ⟨k, { t with ws := l }, z, ?_, hln, g3, g4⟩
          rw [← e]
          exact hlk
        · dsimp only
          rw [if_neg hnz]
          have hs := sum_set_le (g := gg C st clk0 f (n + 1)) (g' := gg C st s.clk f n) (b := { t with ws := l }) hk (hoth n (.inr e))
          have hle : gg C st s.clk f n { t with ws := l } ≤ gg C st clk0 f (n + 1) t - 1 := by
            unfold gg
            rw [if_pos e, if_pos e, hws]
            simp only [List.take_succ_cons, sumL]
            omega
          unfold Phi
          dsimp only
          omega
    · have hkk : k ≠ k2 := fun e2 => by
        subst e2
        rw [hk] at g5
        have := Option.some.inj g5
        subst this
        exact e g6
      have h2k : (s.ts.set k { t with ws := l })[k2]? = some t2 := by rw [List.getElem?_set_ne hkk]; exact g5
      have ht2 : t2.ws ≠ [] := fun e => by rw [e] at g2; simp at g2
      have hnz : ¬ leftS (s.ts.set k { t with ws := l }) = 0 := left_ne (List.mem_of_getElem? h2k) ht2
      refine .inr ⟨n, ?_, ?_⟩
      · dsimp only
        rw [if_neg hnz]
        have hlk := look_of hnd' h2k
        exact ⟨k2, t2, z, by rw [← g6]; exact hlk, g2, g3, g4⟩
      · dsimp only
        rw [if_neg hnz]
        have hs := sum_set_le (g := gg C st clk0 f n) (g' := gg C st s.clk f n) (b := { t with ws := l }) hk (hoth n (.inl rfl))
        have hle : gg C st s.clk f n { t with ws := l } ≤ gg C st clk0 f n t - 1 := by
          unfold gg
          rw [if_neg e, if_neg e]
          have := ph_done (st := st) hT h0 hws hxs hx hl h1
          omega
        unfold Phi
        dsimp only
        omega
/-- The clock is not behind the job that is waited for. -/
theorem Mkd.start {C st : Int} {f : List UInt8} {n : Nat} {s : Sc} (h : Iv C s) (hm : Mkd st f n s) : s.clk ≤ st ∧ ∃ t ∈ s.ts, ∃ y r, t.ws = y :: r ∧ y.start ≤ st := by
  obtain ⟨k2, t2, z, g1, g2, g3, g4⟩ := hm.ex
  obtain ⟨g5, g6⟩ := look_in g1
  have ht := List.mem_of_getElem? g5
  have hT := h.all t2 ht
  have hu := un_bd ⟨hT.w0, hT.w1⟩
  have hz := List.mem_of_getElem? g2
  obtain ⟨b, q1, q2, q3⟩ := hT.ch
  have hne : t2.ws ≠ [] := fun e => by rw [e] at hz; cases hz
  have hle := (Ch.le (by omega) q1 fun x hx => (hT.co x hx).1).2 z hz
  have hb := q3 hne
  refine ⟨by omega, t2, ht, ?_⟩
  cases hws : t2.ws with
  | nil => exact (hne hws).elim
  | cons y r =>
    rw [hws] at q1
    have := q1.1
    exact ⟨y, r, rfl, by omega⟩
theorem Phi_step {C st : Int} {f : List UInt8} {n : Nat} {s : Sc} (h : Iv C s) (hm : Mkd st f n s) :
    (stepS s).1.some = true ∧ (((stepS s).1.don = true ∧ (stepS s).1.id = -77) ∨ ∃ n', Mkd st f n' (stepS s).2 ∧ Phi C st f n' (stepS s).2 ≤ Phi C st f n s - 1) := by
  obtain ⟨hcs, t0, ht0, y0, r0, hy0, hys⟩ := hm.start h
  unfold stepS
  cases hb : s.busy with
  | true =>
    obtain ⟨k, t, x, l, g1, g2, g3, g4⟩ := h.busy hb
    obtain ⟨g5, g6⟩ := look_in g1
    simp only [if_true, g1, g2]
    exact serve_phi h.all h.all (Int.le_refl _) h.nd h.c0 g5 g2 g3 (by omega) g4 hm
  | false =>
    simp only [Bool.false_eq_true, if_false]
    cases hn : nxt s.ts 0 none with
    | none =>
      have := (nxt_none _ _ _ hn).2 t0 ht0
      rw [hy0] at this
      cases this
    | some y =>
      obtain ⟨k, st'⟩ := y
      obtain ⟨_, hmin⟩ := nxt_min _ _ _ _ _ hn
      rcases nxt_some _ _ _ _ _ hn with e | ⟨j, t, x, l, hkj, ht, hws, hst⟩
      · cases e
      rw [Nat.zero_add] at hkj
      subst hkj
      subst hst
      simp only [ht, hws]
      have hT := h.all t (List.mem_of_getElem? ht)
      obtain ⟨q1, q2, q3, q4⟩ := hT.head hws
      have hxs : x.start ≤ st := Int.le_trans (hmin t0 ht0 y0 r0 hy0) hys
      exact serve_phi (s := { s with clk := x.start, srv := t.nm }) (fun u hu => (h.all u hu).clock q1 (hmin u hu)) h.all q1 h.nd h.c0 ht hws rfl hxs (fun y hy => h.other t (List.mem_of_getElem? ht) (.inl hb) y (by rw [hws]; simp [hy])) ⟨hm.ex⟩
end Go.Proofs.Ytfndbllpnkhlhaa
