/- Turns: what a scheduler keeps, between calls. Plain mathematics. -/
import Derived.Test.YtfndbllpnkhlhaaI1
namespace Go.Proofs.Ytfndbllpnkhlhaa
set_option linter.unusedVariables false
set_option linter.unusedSimpArgs false

def un (t : Tn) : Int := 720720 / t.wt
theorem un_bd {t : Tn} (h : 1 ≤ t.wt ∧ t.wt ≤ 16) : 45045 ≤ un t ∧ un t ≤ 720720 := by
  unfold un
  generalize t.wt = v at *
  rcases (show v = 1 ∨ v = 2 ∨ v = 3 ∨ v = 4 ∨ v = 5 ∨ v = 6 ∨ v = 7 ∨ v = 8 ∨ v = 9 ∨ v = 10 ∨ v = 11 ∨ v = 12 ∨ v = 13 ∨ v = 14 ∨ v = 15 ∨ v = 16 by omega) with rfl | rfl | rfl | rfl | rfl | rfl | rfl | rfl | rfl | rfl | rfl | rfl | rfl | rfl | rfl | rfl <;> decide
theorem un_eq {t : Tn} (h : 1 ≤ t.wt ∧ t.wt ≤ 16) (c : Int) : c * 720720 / t.wt = c * un t ∧ un t * t.wt = 720720 := by
  unfold un
  generalize t.wt = v at *
  rcases (show v = 1 ∨ v = 2 ∨ v = 3 ∨ v = 4 ∨ v = 5 ∨ v = 6 ∨ v = 7 ∨ v = 8 ∨ v = 9 ∨ v = 10 ∨ v = 11 ∨ v = 12 ∨ v = 13 ∨ v = 14 ∨ v = 15 ∨ v = 16 by omega) with rfl | rfl | rfl | rfl | rfl | rfl | rfl | rfl | rfl | rfl | rfl | rfl | rfl | rfl | rfl | rfl <;> omega
/-- Jobs one behind the other, from one virtual time to another. -/
def Ch (u : Int) : Int → List Wk → Int → Prop
  | b, [], f => f = b
  | b, x :: r, f => x.start = b ∧ Ch u (b + x.cost * u) r f
theorem Ch.app {u : Int} {x : Wk} : ∀ {ws : List Wk} {b f : Int}, Ch u b ws f → x.start = f → Ch u b (ws ++ [x]) (f + x.cost * u)
  | [], b, f, h, hx => by
    have h' : f = b := h
    subst h'
    exact ⟨hx, rfl⟩
  | y :: r, b, f, h, hx => ⟨h.1, Ch.app h.2 hx⟩
theorem cu_nn {c u : Int} (hc : 1 ≤ c) (hu : 1 ≤ u) : 0 ≤ c * u := Int.mul_nonneg (by omega) (by omega)
theorem Ch.le {u : Int} (hu : 1 ≤ u) : ∀ {ws : List Wk} {b f : Int}, Ch u b ws f → (∀ x ∈ ws, 1 ≤ x.cost) → b ≤ f ∧ ∀ x ∈ ws, b ≤ x.start
  | [], b, f, h, _ => by
    have h' : f = b := h
    exact ⟨by omega, fun x hx => by cases hx⟩
  | y :: r, b, f, h, hc => by
    obtain ⟨h1, h2⟩ := Ch.le hu h.2 fun x hx => hc x (by simp [hx])
    have h3 := cu_nn (hc y (by simp)) hu
    have h4 := h.1
    refine ⟨by omega, fun x hx => ?_⟩
    rcases List.mem_cons.1 hx with e | hx
    · subst e; omega
    · have := h2 x hx; omega
def sC : List Wk → Int
  | [] => 0
  | x :: r => x.cost + sC r
theorem Ch.sum {u : Int} : ∀ {ws : List Wk} {b f : Int}, Ch u b ws f → f = b + sC ws * u
  | [], b, f, h => by
    have h' : f = b := h
    simp [sC, h']
  | y :: r, b, f, h => by
    have := Ch.sum h.2
    rw [this]
    simp only [sC]
    rw [Int.add_mul]
    omega
theorem sC_eq : ∀ {ws : List Wk}, (∀ x ∈ ws, x.left = x.cost) → sC ws = sumL ws
  | [], _ => rfl
  | x :: r, h => by
    simp only [sC, sumL]
    rw [sC_eq fun y hy => h y (by simp [hy]), h x (by simp)]
structure To (C clk : Int) (t : Tn) : Prop where
  w0 : 1 ≤ t.wt
  w1 : t.wt ≤ 16
  ch : ∃ b, Ch (un t) b t.ws t.fin ∧ b ≤ clk + C * un t ∧ (t.ws ≠ [] → clk ≤ b)
  co : ∀ x ∈ t.ws, 1 ≤ x.cost ∧ x.cost ≤ C ∧ 1 ≤ x.left ∧ x.left ≤ x.cost
structure Iv (C : Int) (s : Sc) : Prop where
  all : ∀ t ∈ s.ts, To C s.clk t
  nd : (s.ts.map fun t => t.nm).Nodup
  c0 : 0 ≤ C
  busy : s.busy = true → ∃ k t x l, lookT s.ts s.srv = some (k, t) ∧ t.ws = x :: l ∧ x.start = s.clk ∧ ∀ y ∈ l, y.left = y.cost
  other : ∀ t ∈ s.ts, (s.busy = false ∨ t.nm ≠ s.srv) → ∀ x ∈ t.ws, x.left = x.cost
theorem mul_mono {C C' u : Int} (h : C ≤ C') (hu : 1 ≤ u) : C * u ≤ C' * u := Int.mul_le_mul_of_nonneg_right h (by omega)
theorem To.more {C C' clk : Int} {t : Tn} (h : To C clk t) (hc : C ≤ C') : To C' clk t := by
  obtain ⟨b, h1, h2, h3⟩ := h.ch
  have hu := un_bd ⟨h.w0, h.w1⟩
  have := mul_mono hc (show 1 ≤ un t by omega)
  exact ⟨h.w0, h.w1, ⟨b, h1, by omega, h3⟩, fun x hx => by have := h.co x hx; omega⟩
theorem Iv.more {C C' : Int} {s : Sc} (h : Iv C s) (hc : C ≤ C') : Iv C' s := ⟨fun t ht => (h.all t ht).more hc, h.nd, by have := h.c0; omega, h.busy, h.other⟩
theorem look_in {s : Sc} {nm : List UInt8} {k : Nat} {t : Tn} (h : lookT s.ts nm = some (k, t)) : s.ts[k]? = some t ∧ t.nm = nm := ⟨(lookT_some h).2.1, (lookT_some h).2.2⟩
/-- Names tell places. -/
theorem nd_at {l : List Tn} (h : (l.map fun t => t.nm).Nodup) {i j : Nat} {a b : Tn} (hi : l[i]? = some a) (hj : l[j]? = some b) (e : a.nm = b.nm) : i = j := by
  have h1 : (l.map fun t => t.nm)[i]? = some a.nm := by rw [List.getElem?_map, hi]; rfl
  have h2 : (l.map fun t => t.nm)[j]? = some a.nm := by rw [List.getElem?_map, hj, e]; rfl
  have hil := (List.getElem?_eq_some_iff.1 h1).1
  have hjl := (List.getElem?_eq_some_iff.1 h2).1
  exact (List.getElem?_inj hil h).1 (h1.trans h2.symm)
theorem look_of {l : List Tn} (h : (l.map fun t => t.nm).Nodup) {k : Nat} {t : Tn} (hk : l[k]? = some t) : lookT l t.nm = some (k, t) := by
  cases hx : ixT l t.nm with
  | none =>
    exfalso
    have : ∀ (m : List Tn) (j : Nat), m[j]? = some t → ixT m t.nm ≠ none := by
      intro m
      induction m with
      | nil => intro j hj; simp at hj
      | cons p r ih =>
        intro j hj e
        unfold ixT at e
        split at e
        · cases e
        · rename_i hne
          cases j with
          | zero => simp at hj; exact hne (by rw [hj])
          | succ j => exact ih j (by simpa using hj) (by simpa using e)
    exact this l k hk hx
  | some j =>
    obtain ⟨a, h1, h2⟩ := ixT_some _ _ _ hx
    have := nd_at h h1 hk h2
    subst this
    unfold lookT
    rw [hx]
    simp [hk]
theorem map_set_nm {l : List Tn} {k : Nat} {t t' : Tn} (hk : l[k]? = some t) (e : t'.nm = t.nm) : (l.set k t').map (fun t => t.nm) = l.map fun t => t.nm := by
  rw [List.map_set, e]
  have hl := (List.getElem?_eq_some_iff.1 hk).1
  have : (l.map fun t => t.nm)[k]'(by simpa using hl) = t.nm := by simp [(List.getElem?_eq_some_iff.1 hk).2]
  rw [← this]
  exact List.set_getElem_self _
theorem nd_set {l : List Tn} {k : Nat} {t t' : Tn} (h : (l.map fun t => t.nm).Nodup) (hk : l[k]? = some t) (e : t'.nm = t.nm) : ((l.set k t').map fun t => t.nm).Nodup := by
  rw [map_set_nm hk e]
  exact h
theorem mem_setT {l : List Tn} {k : Nat} {t' x : Tn} (h : x ∈ l.set k t') : x = t' ∨ ∃ j, j ≠ k ∧ l[j]? = some x := by
  obtain ⟨j, hj⟩ := List.getElem?_of_mem h
  by_cases e : k = j
  · subst e
    have hl : k < l.length := by have := (List.getElem?_eq_some_iff.1 hj).1; simpa using this
    rw [List.getElem?_set_self hl] at hj
    exact .inl (Option.some.inj hj).symm
  · rw [List.getElem?_set_ne e] at hj
    exact .inr ⟨j, fun h => e h.symm, hj⟩
theorem begins_bd {clk fin : Int} : clk ≤ begins clk fin ∧ fin ≤ begins clk fin ∧ (begins clk fin = clk ∨ begins clk fin = fin) := by
  unfold begins
  split <;> omega
theorem newS_iv : Iv 0 newS := ⟨fun t ht => (nomatch ht), List.nodup_nil, Int.le_refl _, fun h => (nomatch h), fun t ht => (nomatch ht)⟩
theorem pushS_iv {C C' : Int} {s : Sc} {nm : List UInt8} {id cost : Int} (h : Iv C s) (hc : C ≤ C') (hcc : (pushS s nm id cost).1 = 0 → cost ≤ C') : Iv C' (pushS s nm id cost).2 := by
  have h' := h.more hc
  unfold pushS at hcc ⊢
  cases hlk : lookT s.ts nm with
  | none => exact h'
  | some y =>
    obtain ⟨k, t⟩ := y
    rw [hlk] at hcc
    simp only at hcc ⊢
    obtain ⟨hk, hnm⟩ := look_in hlk
    by_cases c1 : ¬ (1 ≤ cost ∧ cost ≤ 1000)
    · rw [if_pos c1]; exact h'
    · rw [if_neg c1] at hcc ⊢
      by_cases c2 : 16 ≤ t.ws.length
      · rw [if_pos c2]; exact h'
      · rw [if_neg c2] at hcc ⊢
        have hcost : cost ≤ C' := hcc rfl
        have ht := h'.all t (List.mem_of_getElem? hk)
        have hw : 1 ≤ t.wt ∧ t.wt ≤ 16 := ⟨ht.w0, ht.w1⟩
        have hu := un_bd hw
        obtain ⟨b, h1, h2, h3⟩ := ht.ch
        have hle := Ch.le (by omega) h1 fun x hx => (ht.co x hx).1
        obtain ⟨b1, b2, b3⟩ := begins_bd (clk := s.clk) (fin := t.fin)
        have hC0 : 0 ≤ C' * un t := Int.mul_nonneg h'.c0 (by omega)
        have eq1 := (un_eq hw cost).1
        refine ⟨fun x hx => ?_, ?_, h'.c0, fun hb => ?_, fun x hx hor y hy => ?_⟩
        · rcases mem_setT hx with e | ⟨j, hj, hx⟩
          · subst e
            refine ⟨ht.w0, ht.w1, ?_, fun y hy => ?_⟩
            · show ∃ b, Ch (un t) b (t.ws ++ [_]) (begins s.clk t.fin + cost * 720720 / t.wt) ∧ b ≤ s.clk + C' * un t ∧ _
              rw [eq1]
              cases hws : t.ws with
              | nil =>
                rw [hws] at h1
                have h1' : t.fin = b := h1
                exact ⟨begins s.clk t.fin, ⟨rfl, rfl⟩, by omega, fun _ => b1⟩
              | cons x r =>
                have hcb := h3 (by rw [hws]; simp)
                have e : begins s.clk t.fin = t.fin := by omega
                rw [e, ← hws]
                exact ⟨b, Ch.app h1 rfl, h2, fun _ => hcb⟩
            · rcases List.mem_append.1 hy with hy | hy
              · exact ht.co y hy
              · rw [List.mem_singleton.1 hy]
                exact ⟨by show 1 ≤ cost; omega, hcost, by show 1 ≤ cost; omega, Int.le_refl _⟩
          · exact h'.all x (List.mem_of_getElem? hx)
        · exact nd_set h'.nd hk rfl
        · obtain ⟨k2, t2, x, l, g1, g2, g3, g4⟩ := h'.busy hb
          obtain ⟨g5, g6⟩ := look_in g1
          by_cases e : k = k2
          · subst e
            rw [hk] at g5
            have := Option.some.inj g5
            subst this
            refine ⟨k, { t with fin := begins s.clk t.fin + cost * 720720 / t.wt, ws := t.ws ++ [⟨id, cost, begins s.clk t.fin, cost⟩] }, x, l ++ [⟨id, cost, begins s.clk t.fin, cost⟩], ?_, ?_, g3, fun y hy => ?_⟩
            · have := look_of (l := s.ts.set k { t with fin := begins s.clk t.fin + cost * 720720 / t.wt, ws := t.ws ++ [⟨id, cost, begins s.clk t.fin, cost⟩] }) (nd_set h'.nd hk rfl) (List.getElem?_set_self (List.getElem?_eq_some_iff.1 hk).1)
              rw [← g6]
              exact this
            · show t.ws ++ _ = _
              rw [g2]
              rfl
            · rcases List.mem_append.1 hy with hy | hy
              · exact g4 y hy
              · rw [List.mem_singleton.1 hy]
          · refine ⟨k2, t2, x, l, ?_, g2, g3, g4⟩
            have := look_of (l := s.ts.set k { t with fin := begins s.clk t.fin + cost * 720720 / t.wt, ws := t.ws ++ [⟨id, cost, begins s.clk t.fin, cost⟩] }) (nd_set h'.nd hk rfl) (by rw [List.getElem?_set_ne e]; exact g5)
            rw [← g6]
            exact this
        · rcases mem_setT hx with e | ⟨j, hj, hx⟩
          · subst e
            rcases List.mem_append.1 hy with hy | hy
            · exact h'.other t (List.mem_of_getElem? hk) hor y hy
            · rw [List.mem_singleton.1 hy]
          · exact h'.other x (List.mem_of_getElem? hx) hor y hy
end Go.Proofs.Ytfndbllpnkhlhaa
