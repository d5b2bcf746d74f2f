/- What is pushed and not done yet, as the law keeps it, and a scheduler: how they go together. -/
import Derived.Test.YtfndbllpnkhlhaaI1
namespace Go.Proofs.Ytfndbllpnkhlhaa
open Go.RowKit
set_option linter.unusedVariables false
set_option linter.unusedSimpArgs false

structure OpF where
  kind : Int
  nm : List UInt8
  wt : Int
  id : Int
  cost : Int
def jb : List OpF → List UInt8 → List (Int × Int)
  | [], _ => []
  | o :: r, nm => if o.nm = nm then (o.id, o.cost) :: jb r nm else jb r nm
theorem jb_append (m : List UInt8) : ∀ a b : List OpF, jb (a ++ b) m = jb a m ++ jb b m
  | [], b => rfl
  | o :: r, b => by simp only [List.cons_append, jb, jb_append m r b]; split <;> rfl
theorem jb_none {t : List UInt8} : ∀ l : List OpF, (∀ (i : Nat) (o : OpF), l[i]? = some o → o.nm ≠ t) → jb l t = []
  | [], _ => rfl
  | o :: r, h => by
    have h0 := h 0 o rfl
    simp only [jb, h0, if_false]
    exact jb_none r fun i x hx => h (i + 1) x (by simpa using hx)
theorem jb_least {t : List UInt8} : ∀ (l : List OpF) (j : Nat) (o : OpF), (∀ (i : Nat) (x : OpF), i < j → l[i]? = some x → x.nm ≠ t) → l[j]? = some o → o.nm = t →
    jb l t = (o.id, o.cost) :: jb (l.take j ++ l.drop (j + 1)) t ∧ ∀ m, t ≠ m → jb (l.take j ++ l.drop (j + 1)) m = jb l m
  | [], j, o, _, h, _ => by simp at h
  | p :: r, 0, o, _, h, e => by
    have : p = o := by simpa using h
    subst this
    refine ⟨by simp [jb, e], fun m hm => ?_⟩
    have : ¬ p.nm = m := fun e2 => hm (e.symm.trans e2)
    simp [jb, this]
  | p :: r, j + 1, o, hn, h, e => by
    have h0 : ¬ p.nm = t := hn 0 p (by omega) rfl
    have ih := jb_least r j o (fun i x hi hx => hn (i + 1) x (by omega) (by simpa using hx)) (by simpa using h) e
    refine ⟨?_, fun m hm => ?_⟩
    · simp only [List.take_succ_cons, List.drop_succ_cons, List.cons_append, jb, h0, if_false]
      exact ih.1
    · simp only [List.take_succ_cons, List.drop_succ_cons, List.cons_append, jb, ih.2 m hm]
structure Rel (s : Sc) (l : List OpF) (left id served last : Int) : Prop where
  inv : Inv s
  jobs : ∀ m, jb l m = (wsOf s.ts m).map fun w => (w.id, w.cost)
  ids : ∀ m, ∀ w ∈ wsOf s.ts m, 1 ≤ w.id ∧ w.id ≤ id
  id0 : 0 ≤ id
  full : ∀ m w r, wsOf s.ts m = w :: r → (∀ x ∈ r, x.left = x.cost) ∧ (¬ (s.busy = true ∧ s.srv = m) → w.left = w.cost)
  left : left = tot s.ts
  bsy : s.busy = true → ∀ w r, wsOf s.ts s.srv = w :: r → last = w.id ∧ served = w.cost - w.left
  idle : s.busy = false → last = 0 ∧ served = 0
theorem new_rel : Rel newS [] 0 0 0 0 := ⟨new_inv, fun m => rfl, fun m w hw => by simp [newS, wsOf] at hw, Int.le_refl _, fun m w r h => by simp [newS, wsOf] at h, rfl, fun h => (nomatch h), fun _ => ⟨rfl, rfl⟩⟩
variable {s : Sc} {l : List OpF} {left id served last : Int}
theorem Rel.set (h : Rel s l left id served last) (nm : List UInt8) (wt : Int) : Rel (setS s nm wt).2 l left id served last := by
  obtain ⟨h1, h2, h3, h4, h5⟩ := set_dis h.inv.dis nm wt
  exact ⟨set_inv h.inv nm wt, fun m => by rw [h2]; exact h.jobs m, fun m => by rw [h2]; exact h.ids m, h.id0, fun m => by rw [h2, h4, h5]; exact h.full m, by rw [h3]; exact h.left, by rw [h4, h5, h2]; exact h.bsy, by rw [h4]; exact h.idle⟩
theorem push_cost {s : Sc} {nm : List UInt8} {id cost : Int} (h : (pushS s nm id cost).1 = 0) : 1 ≤ cost ∧ cost ≤ 1000 := by
  unfold pushS at h
  split at h
  · exact absurd h (by show (5 : Int) ≠ 0; decide)
  · split at h
    · exact absurd h (by show (1 : Int) ≠ 0; decide)
    · omega
theorem Rel.more (h : Rel s l left id served last) : Rel s l left (id + 1) served last := ⟨h.inv, h.jobs, fun m w hw => by have := h.ids m w hw; omega, by have := h.id0; omega, h.full, h.left, h.bsy, h.idle⟩
theorem Rel.push (h : Rel s l left id served last) (o : OpF) (hid : o.id = id + 1) : ((pushS s o.nm o.id o.cost).1 = 0 ∧ Rel (pushS s o.nm o.id o.cost).2 (l ++ [o]) (left + o.cost) (id + 1) served last) ∨ ((pushS s o.nm o.id o.cost).1 ≠ 0 ∧ Rel (pushS s o.nm o.id o.cost).2 l left (id + 1) served last) := by
  obtain ⟨h1, h2, h3, h4⟩ := push_dis h.inv.dis o.nm o.id o.cost
  have hi := push_inv h.inv o.nm o.id o.cost
  rcases h4 with ⟨h5, h6, st, h7⟩ | ⟨h5, h6⟩
  · refine .inl ⟨h5, hi, fun m => ?_, fun m w hw => ?_, by have := h.id0; omega, fun m w r hw => ?_, by rw [h6, h.left], fun hb w r hw => ?_, by rw [h2]; exact h.idle⟩
    · rw [jb_append, h7, h.jobs m]
      by_cases e : o.nm = m
      · simp [jb, e]
      · simp [jb, e]
    · rw [h7] at hw
      split at hw
      · rcases List.mem_append.1 hw with h' | h'
        · have := h.ids _ w h'; omega
        · rw [List.mem_singleton.1 h']; show 1 ≤ o.id ∧ o.id ≤ _; have := h.id0; omega
      · have := h.ids _ w hw; omega
    · rw [h2, h3]
      rw [h7] at hw
      split at hw
      · rename_i e
        cases hq : wsOf s.ts o.nm with
        | nil =>
          rw [hq] at hw
          simp only [List.nil_append, List.cons.injEq] at hw
          obtain ⟨rfl, rfl⟩ := hw
          exact ⟨by simp, fun _ => rfl⟩
        | cons a q =>
          rw [hq] at hw
          simp only [List.cons_append, List.cons.injEq] at hw
          obtain ⟨rfl, rfl⟩ := hw
          have hf := h.full _ _ _ hq
          refine ⟨fun x hx => ?_, fun hc => hf.2 (by rw [e]; exact hc)⟩
          rcases List.mem_append.1 hx with h' | h'
          · exact hf.1 x h'
          · rw [List.mem_singleton.1 h']
      · exact h.full m w r hw
    · rw [h2] at hb
      rw [h3, h7] at hw
      obtain ⟨a, q, hq⟩ := h.inv.bsy hb
      have hf := h.bsy hb a q hq
      split at hw
      · rename_i e
        rw [e, hq] at hw
        simp only [List.cons_append, List.cons.injEq] at hw
        obtain ⟨rfl, rfl⟩ := hw
        exact hf
      · exact h.bsy hb w r hw
  · exact .inr ⟨h5, by rw [h6]; exact h.more⟩
/-- A slot, as the law sees it. -/
theorem Rel.step {N : Int} (h : Rel s l left id served last) (hs : Sok N s) :
    ((stepS s).1 = noAns ∧ (stepS s).2 = s ∧ left = 0) ∨
    ((stepS s).1.some = true ∧ 0 < left ∧ (last = 0 ∨ last = (stepS s).1.id) ∧ (0 ≤ served ∧ served ≤ 1000) ∧ ((1 ≤ (stepS s).1.id ∧ (stepS s).1.id ≤ id) ∧ 1 ≤ (stepS s).1.cost ∧ (stepS s).1.cost ≤ 1000) ∧
      (((stepS s).1.don = false ∧ served + 1 ≠ (stepS s).1.cost ∧ Rel (stepS s).2 l (left - 1) id (served + 1) (stepS s).1.id) ∨
       ((stepS s).1.don = true ∧ served + 1 = (stepS s).1.cost ∧ ∃ q, jb l (stepS s).1.nm = ((stepS s).1.id, (stepS s).1.cost) :: q ∧ ∀ l', jb l' (stepS s).1.nm = q → (∀ m, (stepS s).1.nm ≠ m → jb l' m = jb l m) → Rel (stepS s).2 l' (left - 1) id 0 0))) := by
  obtain ⟨hi, hd⟩ := step_dis hs h.inv
  rcases hd with ⟨h1, h2, h3, h4⟩ | ⟨w, r, hS⟩
  · exact .inl ⟨h1, h2, by rw [h.left, h3]⟩
  · obtain ⟨t, ht, htn, hwt⟩ := ws_mem (l := s.ts) (nm := (stepS s).1.nm) (w := w) (by rw [hS.ws]; simp)
    have hW := (hs.all t ht).all w hwt
    have hl0 := hW.l0
    have hl1 := hW.l1
    have hc1 := hW.c1
    have hcs : served = w.cost - w.left ∧ (last = 0 ∨ last = w.id) := by
      cases hb : s.busy with
      | true =>
        have := h.bsy hb w r (by rw [← hS.whose hb]; exact hS.ws)
        exact ⟨this.2, .inr this.1⟩
      | false =>
        have h1 := h.idle hb
        have h2 := (h.full _ w r hS.ws).2 (by rw [hb]; rintro ⟨h, _⟩; cases h)
        exact ⟨by omega, .inl h1.1⟩
    have hfr := (h.full _ w r hS.ws).1
    have hidw := h.ids _ w (by rw [hS.ws]; simp)
    have hj := h.jobs (stepS s).1.nm
    rw [hS.ws, List.map_cons] at hj
    refine .inr ⟨hS.yes, by rw [h.left]; exact hS.pos, by rw [hS.id]; exact hcs.2, by omega, ⟨by rw [hS.id]; exact hidw, by rw [hS.cost]; exact ⟨hW.c0, hc1⟩⟩, ?_⟩
    rcases hS.how with ⟨k1, k2, k3, k4, k5⟩ | ⟨k1, k2, k3, k4⟩
    · refine .inl ⟨k1, by rw [hS.cost]; omega, hi, fun m => ?_, fun m x hx => ?_, h.id0, fun m a q hq => ?_, by rw [hS.sum, h.left], fun _ a q hq => ?_, fun hb => by rw [k3] at hb; cases hb⟩
      · rw [k5, h.jobs m]
        split
        · rename_i e; rw [← e, hS.ws]; rfl
        · rfl
      · rw [k5] at hx
        split at hx
        · rcases List.mem_cons.1 hx with rfl | hx
          · exact hidw
          · exact h.ids _ x (by rw [hS.ws]; simp [hx])
        · exact h.ids m x hx
      · rw [k5] at hq
        split at hq
        · rename_i e
          obtain ⟨rfl, rfl⟩ := List.cons.inj hq
          exact ⟨hfr, fun hc => absurd ⟨k3, k4.trans e⟩ hc⟩
        · rename_i e
          have hf := h.full m a q hq
          refine ⟨hf.1, fun _ => hf.2 ?_⟩
          rintro ⟨hb, e2⟩
          exact e ((hS.whose hb).trans e2)
      · rw [k4, k5, if_pos rfl] at hq
        obtain ⟨rfl, rfl⟩ := List.cons.inj hq
        exact ⟨hS.id, by show served + 1 = w.cost - (w.left - 1); omega⟩
    · refine .inr ⟨k1, by rw [hS.cost]; omega, r.map fun w => (w.id, w.cost), by rw [hj, hS.id, hS.cost], fun l' e1 e2 => ⟨hi, fun m => ?_, fun m x hx => ?_, h.id0, fun m a q hq => ?_, by rw [hS.sum, h.left], fun hb => absurd hb (by rw [k3]; decide), fun _ => ⟨rfl, rfl⟩⟩⟩
      · rw [k4]
        split
        · rename_i e; rw [← e]; exact e1
        · rename_i e; rw [e2 m e]; exact h.jobs m
      · rw [k4] at hx
        split at hx
        · exact h.ids _ x (by rw [hS.ws]; simp [hx])
        · exact h.ids m x hx
      · rw [k3]
        rw [k4] at hq
        split at hq
        · rename_i e
          subst hq
          exact ⟨fun x hx => hfr x (by simp [hx]), fun _ => hfr a (by simp)⟩
        · rename_i e
          have hf := h.full m a q hq
          refine ⟨hf.1, fun _ => hf.2 ?_⟩
          rintro ⟨hb, e2⟩
          exact e ((hS.whose hb).trans e2)
end Go.Proofs.Ytfndbllpnkhlhaa
