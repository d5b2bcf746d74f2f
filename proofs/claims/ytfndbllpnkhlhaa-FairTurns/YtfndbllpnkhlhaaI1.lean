/- A scheduler's jobs by names; what a call does to them; what stays true of it. -/
import Derived.Test.YtfndbllpnkhlhaaP0
namespace Go.Proofs.Ytfndbllpnkhlhaa
open Go.RowKit
set_option linter.unusedVariables false
set_option linter.unusedSimpArgs false

/-- The jobs of a name. -/
def wsOf : List Tn → List UInt8 → List Wk
  | [], _ => []
  | p :: r, nm => if p.nm = nm then p.ws else wsOf r nm
def tot : List Tn → Int
  | [] => 0
  | t :: r => sumL t.ws + tot r
/-- No two tenants have one name. -/
def Dis (l : List Tn) : Prop := (l.map Tn.nm).Nodup
theorem ixT_none : ∀ (l : List Tn) (nm : List UInt8), ixT l nm = none → nm ∉ l.map Tn.nm
  | [], nm, _ => by simp
  | p :: r, nm, h => by
    simp only [ixT] at h
    split at h
    · simp at h
    · rename_i hne
      have := ixT_none r nm (by simpa using h)
      simp only [List.map_cons, List.mem_cons, not_or]
      exact ⟨fun e => hne e.symm, this⟩
theorem ixT_at : ∀ (l : List Tn) (k : Nat) (t : Tn), Dis l → l[k]? = some t → ixT l t.nm = some k
  | [], k, t, _, h => by simp at h
  | p :: r, 0, t, _, h => by
    have : p = t := by simpa using h
    subst this
    simp [ixT]
  | p :: r, k + 1, t, hd, h => by
    have hr : r[k]? = some t := by simpa using h
    have hd' := List.nodup_cons.1 hd
    have hne : p.nm ≠ t.nm := fun e => hd'.1 (by rw [e]; exact List.mem_map_of_mem (List.mem_of_getElem? hr))
    simp [ixT, hne, ixT_at r k t hd'.2 hr]
theorem look_at {l : List Tn} {k : Nat} {t : Tn} (hd : Dis l) (h : l[k]? = some t) : lookT l t.nm = some (k, t) := by
  unfold lookT; rw [ixT_at l k t hd h]; simp [h]
theorem look_none {l : List Tn} {nm : List UInt8} (h : lookT l nm = none) : ixT l nm = none := by
  unfold lookT at h
  cases hx : ixT l nm with
  | none => rfl
  | some j =>
    rw [hx] at h
    obtain ⟨s, h1, _⟩ := ixT_some l nm j hx
    simp [h1] at h
theorem ws_not : ∀ (l : List Tn) (nm : List UInt8), nm ∉ l.map Tn.nm → wsOf l nm = []
  | [], nm, _ => rfl
  | p :: r, nm, h => by
    simp only [List.map_cons, List.mem_cons, not_or] at h
    have hne : ¬ p.nm = nm := fun e => h.1 e.symm
    simp [wsOf, hne, ws_not r nm h.2]
theorem ws_none {l : List Tn} {nm : List UInt8} (h : lookT l nm = none) : wsOf l nm = [] := ws_not l nm (ixT_none l nm (look_none h))
theorem ws_ix : ∀ (l : List Tn) (nm : List UInt8) (k : Nat) (t : Tn), ixT l nm = some k → l[k]? = some t → wsOf l nm = t.ws
  | [], nm, k, t, h, _ => by simp [ixT] at h
  | p :: r, nm, k, t, h, hk => by
    simp only [ixT] at h
    split at h
    · rename_i e
      have h0 : 0 = k := by simpa using h
      subst h0
      have : p = t := by simpa using hk
      subst this
      simp [wsOf, e]
    · rename_i hne
      cases hr : ixT r nm with
      | none => rw [hr] at h; simp at h
      | some j =>
        rw [hr] at h
        have hj : j + 1 = k := by simpa using h
        subst hj
        simp only [wsOf, hne, if_false]
        exact ws_ix r nm j t hr (by simpa using hk)
theorem ws_look {l : List Tn} {nm : List UInt8} {k : Nat} {t : Tn} (h : lookT l nm = some (k, t)) : wsOf l nm = t.ws := ws_ix l nm k t (lookT_some h).1 (lookT_some h).2.1
theorem ws_mem {l : List Tn} {nm : List UInt8} {w : Wk} (h : w ∈ wsOf l nm) : ∃ t ∈ l, t.nm = nm ∧ w ∈ t.ws := by
  cases hk : lookT l nm with
  | none => rw [ws_none hk] at h; cases h
  | some p => exact ⟨p.2, List.mem_of_getElem? (lookT_some (k := p.1) (b := p.2) hk).2.1, (lookT_some (k := p.1) (b := p.2) hk).2.2, by rw [ws_look (k := p.1) (t := p.2) hk] at h; exact h⟩
theorem names_set {l : List Tn} {k : Nat} {t t' : Tn} (h : l[k]? = some t) (hn : t'.nm = t.nm) : (l.set k t').map Tn.nm = l.map Tn.nm := by
  apply List.ext_getElem?
  intro i
  rw [List.getElem?_map, List.getElem?_map, List.getElem?_set]
  split
  · rename_i e
    subst e
    have := (List.getElem?_eq_some_iff.1 h).1
    simp [this, h, hn]
    have h2 := (List.getElem?_eq_some_iff.1 h).2
    rw [h2]
  · rfl
theorem dis_set {l : List Tn} {k : Nat} {t : Tn} (hd : Dis l) (h : l[k]? = some t) (t' : Tn) (hn : t'.nm = t.nm) : Dis (l.set k t') := by unfold Dis; rw [names_set h hn]; exact hd
theorem ws_set : ∀ (l : List Tn) (k : Nat) (t t' : Tn) (nm : List UInt8), Dis l → l[k]? = some t → t'.nm = t.nm → wsOf (l.set k t') nm = if t.nm = nm then t'.ws else wsOf l nm
  | [], k, t, t', nm, _, h, _ => by simp at h
  | p :: r, 0, t, t', nm, hd, h, hn => by
    have : p = t := by simpa using h
    subst this
    simp only [List.set_cons_zero, wsOf, hn]
    split <;> rfl
  | p :: r, k + 1, t, t', nm, hd, h, hn => by
    have hr : r[k]? = some t := by simpa using h
    have hd' := List.nodup_cons.1 hd
    have hne : p.nm ≠ t.nm := fun e => hd'.1 (by rw [e]; exact List.mem_map_of_mem (List.mem_of_getElem? hr))
    simp only [List.set_cons_succ, wsOf, ws_set r k t t' nm hd'.2 hr hn]
    split
    · rename_i e
      rw [if_neg (fun e2 => hne (e.trans e2.symm))]
    · rfl
theorem ws_map (f : Tn → Tn) (h1 : ∀ t, (f t).nm = t.nm) (h2 : ∀ t, (f t).ws = t.ws) : ∀ (l : List Tn) (nm : List UInt8), wsOf (l.map f) nm = wsOf l nm
  | [], nm => rfl
  | p :: r, nm => by simp only [List.map_cons, wsOf, h1, h2, ws_map f h1 h2 r nm]
theorem tot_map (f : Tn → Tn) (h2 : ∀ t, (f t).ws = t.ws) : ∀ l : List Tn, tot (l.map f) = tot l
  | [] => rfl
  | p :: r => by simp only [List.map_cons, tot, h2, tot_map f h2 r]
theorem tot_set : ∀ (l : List Tn) (k : Nat) (t t' : Tn), l[k]? = some t → tot (l.set k t') = tot l - sumL t.ws + sumL t'.ws
  | [], k, t, t', h => by simp at h
  | p :: r, 0, t, t', h => by
    have : p = t := by simpa using h
    subst this
    simp only [List.set_cons_zero, tot]; omega
  | p :: r, k + 1, t, t', h => by
    simp only [List.set_cons_succ, tot, tot_set r k t t' (by simpa using h)]; omega
theorem names_ins (t : Tn) : ∀ l : List Tn, ((insT t l).map Tn.nm).Perm (t.nm :: l.map Tn.nm)
  | [] => List.Perm.refl _
  | p :: r => by
    unfold insT
    split
    · simp only [List.map_cons]
      exact ((names_ins t r).cons p.nm).trans (List.Perm.swap _ _ _)
    · exact List.Perm.refl _
theorem dis_ins {t : Tn} {l : List Tn} (hd : Dis l) (hn : t.nm ∉ l.map Tn.nm) : Dis (insT t l) := (names_ins t l).nodup_iff.2 (List.nodup_cons.2 ⟨hn, hd⟩)
theorem tot_ins {t : Tn} (h : t.ws = []) : ∀ l : List Tn, tot (insT t l) = tot l
  | [] => by simp [insT, tot, h, sumL]
  | p :: r => by
    unfold insT
    split
    · simp only [tot, tot_ins h r]
    · simp [tot, h, sumL]
theorem ws_ins {t : Tn} (h : t.ws = []) (nm : List UInt8) : ∀ l : List Tn, t.nm ∉ l.map Tn.nm → wsOf (insT t l) nm = wsOf l nm
  | [], _ => by simp [insT, wsOf, h]
  | p :: r, hn => by
    simp only [List.map_cons, List.mem_cons, not_or] at hn
    unfold insT
    split
    · simp only [wsOf, ws_ins h nm r hn.2]
    · show (if t.nm = nm then t.ws else wsOf (p :: r) nm) = _
      split
      · rename_i e
        rw [h, ws_not]
        rw [← e]
        simp only [List.map_cons, List.mem_cons, not_or]
        exact hn
      · rfl
theorem set_dis {s : Sc} (hd : Dis s.ts) (nm : List UInt8) (wt : Int) : Dis (setS s nm wt).2.ts ∧ (∀ m, wsOf (setS s nm wt).2.ts m = wsOf s.ts m) ∧ tot (setS s nm wt).2.ts = tot s.ts ∧ (setS s nm wt).2.busy = s.busy ∧ (setS s nm wt).2.srv = s.srv := by
  unfold setS
  split
  · exact ⟨hd, fun _ => rfl, rfl, rfl, rfl⟩
  · split
    · rename_i k t hk
      have hl := lookT_some hk
      split
      · exact ⟨hd, fun _ => rfl, rfl, rfl, rfl⟩
      · refine ⟨dis_set hd hl.2.1 _ rfl, fun m => ?_, ?_, rfl, rfl⟩
        · show wsOf (s.ts.set k _) m = _
          refine (ws_set s.ts k t _ m hd hl.2.1 (by rfl)).trans ?_
          split
          · rename_i e; rw [← e, ws_look (look_at hd hl.2.1)]
          · rfl
        · show tot (s.ts.set k _) = _
          rw [tot_set s.ts k t _ hl.2.1]; show _ - sumL t.ws + sumL t.ws = _; omega
    · rename_i hk
      have hn := ixT_none _ _ (look_none hk)
      split
      · exact ⟨hd, fun _ => rfl, rfl, rfl, rfl⟩
      · exact ⟨dis_ins hd hn, fun m => ws_ins rfl m _ hn, tot_ins rfl _, rfl, rfl⟩
theorem sumL_append : ∀ (l : List Wk) (w : Wk), sumL (l ++ [w]) = sumL l + w.left
  | [], w => by simp [sumL]
  | x :: r, w => by simp only [List.cons_append, sumL, sumL_append r w]; omega
/-- A job that is taken: it is the last of its tenant. -/
theorem push_dis {s : Sc} (hd : Dis s.ts) (nm : List UInt8) (id cost : Int) : Dis (pushS s nm id cost).2.ts ∧ (pushS s nm id cost).2.busy = s.busy ∧ (pushS s nm id cost).2.srv = s.srv ∧
    (((pushS s nm id cost).1 = 0 ∧ tot (pushS s nm id cost).2.ts = tot s.ts + cost ∧ ∃ st, ∀ m, wsOf (pushS s nm id cost).2.ts m = if nm = m then wsOf s.ts nm ++ [⟨id, cost, st, cost⟩] else wsOf s.ts m) ∨ ((pushS s nm id cost).1 ≠ 0 ∧ (pushS s nm id cost).2 = s)) := by
  unfold pushS
  split
  · exact ⟨hd, rfl, rfl, .inr ⟨by show (5 : Int) ≠ 0; decide, rfl⟩⟩
  · rename_i k t hk
    have hl := lookT_some hk
    split
    · exact ⟨hd, rfl, rfl, .inr ⟨by show (1 : Int) ≠ 0; decide, rfl⟩⟩
    · split
      · exact ⟨hd, rfl, rfl, .inr ⟨by show (200 : Int) ≠ 0; decide, rfl⟩⟩
      · refine ⟨dis_set hd hl.2.1 _ rfl, rfl, rfl, .inl ⟨rfl, ?_, begins s.clk t.fin, fun m => ?_⟩⟩
        · show tot (s.ts.set k _) = _
          rw [tot_set s.ts k t _ hl.2.1]; show _ - sumL t.ws + sumL (t.ws ++ [_]) = _; rw [sumL_append]; show _ - _ + (_ + cost) = _; omega
        · show wsOf (s.ts.set k _) m = _
          refine (ws_set s.ts k t _ m hd hl.2.1 (by rfl)).trans ?_
          rw [hl.2.2, ws_look hk]
theorem tot_zero : ∀ l : List Tn, (∀ t ∈ l, t.ws = []) → tot l = 0
  | [], _ => rfl
  | t :: r, h => by simp only [tot, h t (by simp), sumL, tot_zero r fun x hx => h x (by simp [hx])]; rfl
theorem sumL_nonneg {N : Int} : ∀ l : List Wk, (∀ w ∈ l, Wok N w) → 0 ≤ sumL l
  | [], _ => Int.le_refl _
  | w :: r, h => by
    have h1 := (h w (by simp)).l0
    have h2 := sumL_nonneg r fun x hx => h x (by simp [hx])
    simp only [sumL]; omega
theorem tot_nonneg {N : Int} : ∀ l : List Tn, (∀ t ∈ l, Tnok N t) → 0 ≤ tot l
  | [], _ => Int.le_refl _
  | t :: r, h => by
    have h1 := sumL_nonneg t.ws (h t (by simp)).all
    have h2 := tot_nonneg r fun x hx => h x (by simp [hx])
    simp only [tot]; omega
theorem tot_pos {N : Int} : ∀ (l : List Tn) (t : Tn) (w : Wk) (r : List Wk), (∀ t ∈ l, Tnok N t) → t ∈ l → t.ws = w :: r → 0 < tot l
  | [], t, w, r, _, h, _ => by cases h
  | p :: l, t, w, r, hok, h, hw => by
    have h1 := sumL_nonneg p.ws (hok p (by simp)).all
    have h2 := tot_nonneg l fun x hx => hok x (by simp [hx])
    rcases List.mem_cons.1 h with rfl | h
    · have h3 := ((hok t (by simp)).all w (by rw [hw]; simp)).l0
      have h4 := sumL_nonneg r fun x hx => (hok t (by simp)).all x (by rw [hw]; simp [hx])
      simp only [tot, hw, sumL]; omega
    · have h3 := tot_pos l t w r (fun x hx => hok x (by simp [hx])) h hw
      simp only [tot]; omega
theorem nxt_none : ∀ (l : List Tn) (i : Nat) (a : Option (Nat × Int)), nxt l i a = none → a = none ∧ ∀ t ∈ l, t.ws = []
  | [], i, a, h => ⟨h, by simp⟩
  | t :: r, i, a, h => by
    simp only [nxt] at h
    have hr := nxt_none r (i + 1) _ h
    cases hw : t.ws with
    | nil =>
      rw [hw] at hr
      exact ⟨hr.1, fun x hx => by rcases List.mem_cons.1 hx with rfl | hx; exact hw; exact hr.2 x hx⟩
    | cons w q =>
      rw [hw] at hr
      cases a with
      | none => simp at hr
      | some p =>
        have := hr.1
        dsimp only at this
        split at this <;> cases this
theorem nxt_some : ∀ (l : List Tn) (i : Nat) (a : Option (Nat × Int)) (k : Nat) (st : Int), nxt l i a = some (k, st) → a = some (k, st) ∨ ∃ j t w r, k = i + j ∧ l[j]? = some t ∧ t.ws = w :: r ∧ w.start = st
  | [], i, a, k, st, h => .inl h
  | t :: r, i, a, k, st, h => by
    simp only [nxt] at h
    rcases nxt_some r (i + 1) _ k st h with h' | ⟨j, t', w, q, h1, h2, h3⟩
    · cases hw : t.ws with
      | nil => rw [hw] at h'; exact .inl h'
      | cons w q =>
        rw [hw] at h'
        cases a with
        | none =>
          have e : (i, w.start) = (k, st) := by simpa using h'
          have e1 := (Prod.mk.inj e).1
          have e2 := (Prod.mk.inj e).2
          exact .inr ⟨0, t, w, q, by omega, rfl, hw, e2⟩
        | some p =>
          dsimp only at h'
          split at h'
          · have e : (i, w.start) = (k, st) := by simpa using h'
            have e1 := (Prod.mk.inj e).1
            have e2 := (Prod.mk.inj e).2
            exact .inr ⟨0, t, w, q, by omega, rfl, hw, e2⟩
          · exact .inl h'
    · exact .inr ⟨j + 1, t', w, q, by omega, by simpa using h2, h3⟩
/-- What stays true of a scheduler beside its bounds: whose job is served has it; only the first job of that tenant is begun. -/
structure Inv (s : Sc) : Prop where
  dis : Dis s.ts
  bsy : s.busy = true → ∃ w r, wsOf s.ts s.srv = w :: r
theorem new_inv : Inv newS := ⟨List.nodup_nil, fun h => by cases h⟩
/-- A slot: none is left, or the first job of a tenant is served. -/
theorem serve_dis {N : Int} {s : Sc} {k : Nat} {t : Tn} {w : Wk} {r : List Wk} (hs : Sok N s) (hd : Dis s.ts) (hk : s.ts[k]? = some t) (hw : t.ws = w :: r) :
    (serveS s k t w r).1.nm = t.nm ∧ (serveS s k t w r).1.id = w.id ∧ (serveS s k t w r).1.cost = w.cost ∧ (serveS s k t w r).1.some = true ∧ Dis (serveS s k t w r).2.ts ∧ tot (serveS s k t w r).2.ts = tot s.ts - 1 ∧
    (((serveS s k t w r).1.don = false ∧ 1 < w.left ∧ (serveS s k t w r).2.busy = true ∧ (serveS s k t w r).2.srv = s.srv ∧ ∀ m, wsOf (serveS s k t w r).2.ts m = if t.nm = m then { w with left := w.left - 1 } :: r else wsOf s.ts m) ∨
     ((serveS s k t w r).1.don = true ∧ w.left = 1 ∧ (serveS s k t w r).2.busy = false ∧ ∀ m, wsOf (serveS s k t w r).2.ts m = if t.nm = m then r else wsOf s.ts m)) := by
  have hl := ((hs.at' hk).all w (by rw [hw]; simp)).l0
  unfold serveS
  split
  · rename_i c
    refine ⟨rfl, rfl, rfl, rfl, dis_set hd hk _ rfl, ?_, .inl ⟨rfl, c, rfl, rfl, fun m => ws_set s.ts k t _ m hd hk rfl⟩⟩
    show tot (s.ts.set k _) = _
    rw [tot_set s.ts k t _ hk, hw]
    simp only [sumL]; omega
  · rename_i c
    have hz : tot (s.ts.set k { t with ws := r }) = tot s.ts - 1 := by
      rw [tot_set s.ts k t _ hk, hw]
      simp only [sumL]; omega
    have hdd : Dis (s.ts.set k { t with ws := r }) := dis_set hd hk _ rfl
    refine ⟨rfl, rfl, rfl, rfl, ?_, ?_, .inr ⟨rfl, by omega, ?_, fun m => ?_⟩⟩
    · show Dis (Sc.ts (if _ then _ else _))
      split
      · show ((s.ts.set k _ |>.map _).map Tn.nm).Nodup
        rw [List.map_map]
        exact hdd
      · exact hdd
    · show tot (Sc.ts (if _ then _ else _)) = _
      split
      · show tot ((s.ts.set k _).map _) = _
        exact (tot_map (fun t : Tn => { t with fin := 0 }) (fun _ => rfl) _).trans hz
      · exact hz
    · show Sc.busy (if _ then _ else _) = _
      split <;> rfl
    · show wsOf (Sc.ts (if _ then _ else _)) m = _
      split
      · show wsOf ((s.ts.set k _).map _) m = _
        exact (ws_map (fun t : Tn => { t with fin := 0 }) (fun _ => rfl) (fun _ => rfl) _ m).trans (ws_set s.ts k t { t with ws := r } m hd hk rfl)
      · exact ws_set s.ts k t _ m hd hk rfl
structure Served (s s' : Sc) (a : Ans) (w : Wk) (r : List Wk) : Prop where
  ws : wsOf s.ts a.nm = w :: r
  whose : s.busy = true → a.nm = s.srv
  id : a.id = w.id
  cost : a.cost = w.cost
  yes : a.some = true
  pos : 0 < tot s.ts
  sum : tot s'.ts = tot s.ts - 1
  how : (a.don = false ∧ 1 < w.left ∧ s'.busy = true ∧ s'.srv = a.nm ∧ ∀ m, wsOf s'.ts m = if a.nm = m then { w with left := w.left - 1 } :: r else wsOf s.ts m) ∨ (a.don = true ∧ w.left = 1 ∧ s'.busy = false ∧ ∀ m, wsOf s'.ts m = if a.nm = m then r else wsOf s.ts m)
theorem step_dis {N : Int} {s : Sc} (hs : Sok N s) (hi : Inv s) :
    Inv (stepS s).2 ∧ (((stepS s).1 = noAns ∧ (stepS s).2 = s ∧ tot s.ts = 0 ∧ s.busy = false) ∨ ∃ w r, Served s (stepS s).2 (stepS s).1 w r) := by
  unfold stepS
  split
  · rename_i hb
    obtain ⟨w, r, hwr⟩ := hi.bsy hb
    cases hk : lookT s.ts s.srv with
    | none => rw [ws_none hk] at hwr; cases hwr
    | some p =>
      obtain ⟨k, t⟩ := p
      have hl := lookT_some hk
      have hw : t.ws = w :: r := by rw [← ws_look hk]; exact hwr
      simp only [hw]
      have hv := serve_dis hs hi.dis hl.2.1 hw
      have hS : Served s (serveS s k t w r).2 (serveS s k t w r).1 w r := by
        refine ⟨by rw [hv.1, hl.2.2]; exact hwr, fun _ => by rw [hv.1, hl.2.2], hv.2.1, hv.2.2.1, hv.2.2.2.1, tot_pos s.ts t w r hs.all (List.mem_of_getElem? hl.2.1) hw, hv.2.2.2.2.2.1, ?_⟩
        rw [hv.1]
        rcases hv.2.2.2.2.2.2 with ⟨h1, h2, h3, h4, h5⟩ | h
        · exact .inl ⟨h1, h2, h3, by rw [h4, hl.2.2], h5⟩
        · exact .inr h
      refine ⟨⟨hv.2.2.2.2.1, fun hb' => ?_⟩, .inr ⟨w, r, hS⟩⟩
      rcases hS.how with ⟨h1, h2, h3, h4, h5⟩ | ⟨h1, h2, h3, h4⟩
      · exact ⟨_, r, by rw [h4, h5, if_pos rfl]⟩
      · rw [h3] at hb'; cases hb'
  · rename_i hb
    have hb' : s.busy = false := by simpa using hb
    cases hx : nxt s.ts 0 none with
    | none => exact ⟨hi, .inl ⟨rfl, rfl, tot_zero _ (nxt_none _ _ _ hx).2, hb'⟩⟩
    | some p =>
      obtain ⟨k, st⟩ := p
      rcases nxt_some _ _ _ _ _ hx with h | ⟨j, t, w, r, h1, h2, hw, h4⟩
      · cases h
      · have hj : k = j := by omega
        subst hj
        simp only [h2, hw]
        have hW := (hs.at' h2).all w (by rw [hw]; simp)
        have hs2 : Sok N { s with clk := w.start, srv := t.nm } := ⟨hW.s0, hW.s1, hs.n, hs.all⟩
        have hv := serve_dis (s := { s with clk := w.start, srv := t.nm }) hs2 hi.dis h2 hw
        have hS : Served s (serveS { s with clk := w.start, srv := t.nm } k t w r).2 (serveS { s with clk := w.start, srv := t.nm } k t w r).1 w r := by
          refine ⟨by rw [hv.1, ws_look (look_at hi.dis h2)]; exact hw, fun h => absurd h (by rw [hb']; decide), hv.2.1, hv.2.2.1, hv.2.2.2.1, tot_pos s.ts t w r hs.all (List.mem_of_getElem? h2) hw, hv.2.2.2.2.2.1, ?_⟩
          rw [hv.1]
          exact hv.2.2.2.2.2.2
        refine ⟨⟨hv.2.2.2.2.1, fun hb2 => ?_⟩, .inr ⟨w, r, hS⟩⟩
        rcases hS.how with ⟨h1, h2, h3, h4, h5⟩ | ⟨h1, h2, h3, h4⟩
        · exact ⟨_, r, by rw [h4, h5, if_pos rfl]⟩
        · rw [h3] at hb2; cases hb2
theorem set_inv {s : Sc} (hi : Inv s) (nm : List UInt8) (wt : Int) : Inv (setS s nm wt).2 := by
  have h := set_dis hi.dis nm wt
  refine ⟨h.1, fun hb => ?_⟩
  rw [h.2.2.2.1] at hb
  rw [h.2.2.2.2, h.2.1]
  exact hi.bsy hb
theorem push_inv {s : Sc} (hi : Inv s) (nm : List UInt8) (id cost : Int) : Inv (pushS s nm id cost).2 := by
  have h := push_dis hi.dis nm id cost
  refine ⟨h.1, fun hb => ?_⟩
  rw [h.2.1] at hb
  rw [h.2.2.1]
  obtain ⟨w, r, hw⟩ := hi.bsy hb
  rcases h.2.2.2 with ⟨_, _, st, h5⟩ | ⟨_, h5⟩
  · rw [h5]
    split
    · rename_i e; rw [e, hw]; exact ⟨w, _, rfl⟩
    · exact ⟨w, r, hw⟩
  · rw [h5]; exact ⟨w, r, hw⟩
theorem drop_inv {s : Sc} (hi : Inv s) : Inv (dropS s).2 := ⟨by show ((s.ts.map _).map Tn.nm).Nodup; rw [List.map_map]; exact hi.dis, fun h => by cases h⟩
end Go.Proofs.Ytfndbllpnkhlhaa
