/- Tables of buckets: calls in turn; two that will be alike; what one tenant's calls leave of another. -/
import Derived.Test.YtpobfcmbbabchaaP1
namespace Go.Proofs.Ytpobfcmbbabchaa
open Go.RowKit
set_option linter.unusedVariables false
set_option linter.unusedSimpArgs false

/-- A call, as a script has it. -/
structure OpI where
  kind : Int
  nm : List UInt8
  rate : Int
  burst : Int
  cost : Int
  now : Int
def stepT (l : List Bk) (o : OpI) : List Bk :=
  if o.kind = 0 then (setI l o.nm o.rate o.burst o.now).2
  else if 1 ≤ o.kind ∧ o.kind ≤ 4 then (takeI l o.nm o.cost o.now).2
  else if o.kind = 5 then (giveI l o.nm o.cost o.now).2
  else if o.kind = 6 then (tokI l o.nm o.now).2.2
  else if o.kind = 7 then (nextI l o.nm o.cost o.now).2
  else if o.kind = 8 then (dropI l o.nm).2
  else l
theorem step_ok {N : Int} {l : List Bk} (hN : 0 ≤ N) (h : Tok N l) (o : OpI) : Tok (N + 1) (stepT l o) := by
  unfold stepT
  split
  · exact (set_ok hN h _ _ _ _).more (by omega)
  · split
    · exact take_ok h _ _ _
    · split
      · exact (give_ok h _ _ _).more (by omega)
      · split
        · exact (tok_ok h _ _).more (by omega)
        · split
          · exact (next_ok h _ _ _).more (by omega)
          · split
            · exact (drop_ok h _).more (by omega)
            · exact h.more (by omega)

/-! Lists of which each pair is related. -/
def Rl (P : Bk → Bk → Prop) : List Bk → List Bk → Prop
  | [], [] => True
  | a :: r, b :: s => P a b ∧ Rl P r s
  | _, _ => False
theorem Rl.len {P : Bk → Bk → Prop} : ∀ {l m : List Bk}, Rl P l m → l.length = m.length
  | [], [], _ => rfl
  | a :: r, b :: s, h => by simp [Rl.len h.2]
  | [], b :: s, h => h.elim
  | a :: r, [], h => h.elim
theorem Rl.imp {P Q : Bk → Bk → Prop} (hPQ : ∀ a b, P a b → Q a b) : ∀ {l m : List Bk}, Rl P l m → Rl Q l m
  | [], [], _ => trivial
  | a :: r, b :: s, h => ⟨hPQ a b h.1, Rl.imp hPQ h.2⟩
  | [], b :: s, h => h.elim
  | a :: r, [], h => h.elim
theorem Rl.get {P : Bk → Bk → Prop} : ∀ {l m : List Bk}, Rl P l m → ∀ {k : Nat} {a : Bk}, l[k]? = some a → ∃ b, m[k]? = some b ∧ P a b
  | [], [], _, k, a, h => by simp at h
  | x :: r, y :: s, hR, 0, a, h => by simp at h; subst h; exact ⟨y, rfl, hR.1⟩
  | x :: r, y :: s, hR, k + 1, a, h => by simp at h; obtain ⟨b, h1, h2⟩ := Rl.get hR.2 h; exact ⟨b, by simpa using h1, h2⟩
  | [], y :: s, hR, _, _, _ => hR.elim
  | x :: r, [], hR, _, _, _ => hR.elim
theorem Rl.set {P : Bk → Bk → Prop} : ∀ {l m : List Bk}, Rl P l m → ∀ (k : Nat) {a b : Bk}, P a b → Rl P (l.set k a) (m.set k b)
  | [], [], _, k, a, b, h => by simp; trivial
  | x :: r, y :: s, hR, 0, a, b, h => ⟨h, hR.2⟩
  | x :: r, y :: s, hR, k + 1, a, b, h => ⟨hR.1, Rl.set hR.2 k h⟩
  | [], y :: s, hR, _, _, _, _ => hR.elim
  | x :: r, [], hR, _, _, _, _ => hR.elim
theorem Rl.app {P : Bk → Bk → Prop} : ∀ {l m : List Bk}, Rl P l m → ∀ {p q : List Bk}, Rl P p q → Rl P (l ++ p) (m ++ q)
  | [], [], _, p, q, h => h
  | x :: r, y :: s, hR, p, q, h => ⟨hR.1, Rl.app hR.2 h⟩
  | [], y :: s, hR, _, _, _ => hR.elim
  | x :: r, [], hR, _, _, _ => hR.elim
theorem Rl.take {P : Bk → Bk → Prop} : ∀ {l m : List Bk}, Rl P l m → ∀ (k : Nat), Rl P (l.take k) (m.take k)
  | [], [], _, k => by simp; trivial
  | x :: r, y :: s, hR, 0 => by simp; trivial
  | x :: r, y :: s, hR, k + 1 => ⟨hR.1, Rl.take hR.2 k⟩
  | [], y :: s, hR, _ => hR.elim
  | x :: r, [], hR, _ => hR.elim
theorem Rl.drop {P : Bk → Bk → Prop} : ∀ {l m : List Bk}, Rl P l m → ∀ (k : Nat), Rl P (l.drop k) (m.drop k)
  | [], [], _, k => by simp; trivial
  | x :: r, y :: s, hR, 0 => hR
  | x :: r, y :: s, hR, k + 1 => Rl.drop hR.2 k
  | [], y :: s, hR, _ => hR.elim
  | x :: r, [], hR, _ => hR.elim
theorem Rl.ix {P : Bk → Bk → Prop} (hP : ∀ a b, P a b → a.nm = b.nm) (nm : List UInt8) : ∀ {l m : List Bk}, Rl P l m → ixB l nm = ixB m nm
  | [], [], _ => rfl
  | x :: r, y :: s, hR => by
    have h1 := hP x y hR.1
    have h2 := Rl.ix hP nm hR.2
    simp [ixB, h1, h2]
  | [], y :: s, hR => hR.elim
  | x :: r, [], hR => hR.elim

/-! Two buckets that are alike from a time on. -/
def Ae (T : Int) (a b : Bk) : Prop := ∀ x, T ≤ x → x ≤ 1125899906842624 → fillI a x = fillI b x
theorem Ae.refl (T : Int) (a : Bk) : Ae T a a := fun _ _ _ => rfl
theorem Ae.later {T U : Int} {a b : Bk} (h : Ae T a b) (hU : T ≤ U) : Ae U a b := fun x h1 h2 => h x (by omega) h2
theorem Ae.nm {T : Int} {a b : Bk} (h : Ae T a b) (hT : T ≤ 1125899906842624) : a.nm = b.nm := by
  have := congrArg Bk.nm (h T (Int.le_refl _) hT)
  rwa [fill_nm, fill_nm] at this
theorem fill_counts (b : Bk) (now : Int) : (fillI b now).tk = b.tk ∧ (fillI b now).rf = b.rf ∧ (fillI b now).cs = b.cs := by
  unfold fillI
  split
  · exact ⟨rfl, rfl, rfl⟩
  · split
    · exact ⟨rfl, rfl, rfl⟩
    · split
      · exact ⟨rfl, rfl, rfl⟩
      · split <;> exact ⟨rfl, rfl, rfl⟩
theorem Ae.counts {T : Int} {a b : Bk} (h : Ae T a b) (hT : T ≤ 1125899906842624) : a.tk = b.tk ∧ a.rf = b.rf ∧ a.cs = b.cs := by
  have e := h T (Int.le_refl _) hT
  have h1 := fill_counts a T
  have h2 := fill_counts b T
  exact ⟨by rw [← h1.1, e, h2.1], by rw [← h1.2.1, e, h2.2.1], by rw [← h1.2.2, e, h2.2.2]⟩
/-- Asking earlier changes nothing. -/
theorem Ae.asked {N T : Int} {a b : Bk} (h : Ae T a b) (hB : Bok N b) {x : Int} (hx : x ≤ T) : Ae T a (fillI b x) := fun y h1 h2 => by
  rw [fill_fill hB (by omega) h2]
  exact h y h1 h2
theorem Rl.look {T : Int} (hT : T ≤ 1125899906842624) {l m : List Bk} (h : Rl (Ae T) l m) (nm : List UInt8) :
    (lookB l nm = none ∧ lookB m nm = none) ∨ ∃ k a b, lookB l nm = some (k, a) ∧ lookB m nm = some (k, b) ∧ Ae T a b := by
  have e := h.ix (fun a b hab => hab.nm hT) nm
  cases hx : lookB l nm with
  | none =>
    left
    refine ⟨rfl, ?_⟩
    unfold lookB
    rw [← e, lookB_none hx]
  | some ka =>
    obtain ⟨k, a⟩ := ka
    obtain ⟨h1, h2, h3⟩ := lookB_some hx
    obtain ⟨b, h4, h5⟩ := h.get h2
    right
    refine ⟨k, a, b, rfl, ?_, h5⟩
    unfold lookB
    rw [← e, h1]
    simp [h4]
/-- A call at that time leaves them alike. -/
theorem Rl.step {T : Int} {l m : List Bk} (h : Rl (Ae T) l m) (o : OpI) (ho : o.now = T) (hT : T ≤ 1125899906842624) : Rl (Ae T) (stepT l o) (stepT m o) := by
  subst ho
  have hlk := h.look hT o.nm
  have hix := h.ix (fun a b hab => hab.nm hT) o.nm
  have hln := h.len
  unfold stepT
  split
  · unfold setI
    split
    · exact h
    · rw [← hix]
      split
      · exact h.set _ (Ae.refl _ _)
      · rw [← hln]
        split
        · exact h
        · exact h.app (p := [_]) (q := [_]) ⟨Ae.refl _ _, trivial⟩
  · split
    · unfold takeI
      split
      · exact h
      · rcases hlk with ⟨h1, h2⟩ | ⟨k, a, b, h1, h2, h3⟩
        · rw [h1, h2]; exact h
        · rw [h1, h2]
          simp only
          rw [← h3 o.now (Int.le_refl _) hT]
          split
          · exact h.set _ (Ae.refl _ _)
          · exact h.set _ (Ae.refl _ _)
    · split
      · unfold giveI
        split
        · exact h
        · rcases hlk with ⟨h1, h2⟩ | ⟨k, a, b, h1, h2, h3⟩
          · rw [h1, h2]; exact h
          · rw [h1, h2]
            simp only
            rw [← h3 o.now (Int.le_refl _) hT]
            exact h.set _ (Ae.refl _ _)
      · split
        · unfold tokI
          split
          · exact h
          · rcases hlk with ⟨h1, h2⟩ | ⟨k, a, b, h1, h2, h3⟩
            · rw [h1, h2]; exact h
            · rw [h1, h2]
              simp only
              rw [← h3 o.now (Int.le_refl _) hT]
              exact h.set _ (Ae.refl _ _)
        · split
          · unfold nextI
            split
            · exact h
            · rcases hlk with ⟨h1, h2⟩ | ⟨k, a, b, h1, h2, h3⟩
              · rw [h1, h2]; exact h
              · rw [h1, h2]
                simp only
                rw [← h3 o.now (Int.le_refl _) hT]
                exact h.set _ (Ae.refl _ _)
          · split
            · unfold dropI
              rw [← hix]
              split
              · exact (h.take _).app (h.drop _)
              · exact h
            · exact h
/-- Asking at an earlier time leaves them alike. -/
theorem set_self : ∀ {l : List Bk} {k : Nat} {a : Bk}, l[k]? = some a → l.set k a = l
  | [], k, a, h => by simp at h
  | x :: r, 0, a, h => by simp at h; subst h; rfl
  | x :: r, k + 1, a, h => by simp at h; rw [List.set_cons_succ, set_self h]
theorem Rl.ask {N T : Int} {l m : List Bk} (h : Rl (Ae T) l m) (hm : Tok N m) (nm : List UInt8) {x : Int} (hx : x ≤ T) (hT : T ≤ 1125899906842624) : Rl (Ae T) l (tokI m nm x).2.2 := by
  unfold tokI
  split
  · exact h
  · rcases h.look hT nm with ⟨h1, h2⟩ | ⟨k, a, b, h1, h2, h3⟩
    · rw [h2]; exact h
    · rw [h2]
      simp only
      have h4 := (lookB_some h2).2.1
      have := h.set k (h3.asked (hm.at h4) hx)
      rwa [set_self (lookB_some h1).2.1] at this
theorem Rl.later {T U : Int} {l m : List Bk} (h : Rl (Ae T) l m) (hU : T ≤ U) : Rl (Ae U) l m := h.imp fun a b hab => hab.later hU
theorem Rl.counts {T : Int} {l m : List Bk} (h : Rl (Ae T) l m) (hT : T ≤ 1125899906842624) (nm : List UInt8) : cntI l nm = cntI m nm := by
  unfold cntI
  rcases h.look hT nm with ⟨h1, h2⟩ | ⟨k, a, b, h1, h2, h3⟩
  · rw [h1, h2]
  · rw [h1, h2]
    simp only
    obtain ⟨e1, e2, e3⟩ := h3.counts hT
    rw [e1, e2, e3]
theorem Rl.tokens {T : Int} {l m : List Bk} (h : Rl (Ae T) l m) (hT : T ≤ 1125899906842624) (nm : List UInt8) : (tokI l nm T).1 = (tokI m nm T).1 ∧ (tokI l nm T).2.1 = (tokI m nm T).2.1 ∧ Rl (Ae T) (tokI l nm T).2.2 (tokI m nm T).2.2 := by
  unfold tokI
  by_cases c : okA 0 T = false
  · rw [if_pos c, if_pos c]; exact ⟨rfl, rfl, h⟩
  · rw [if_neg c, if_neg c]
    rcases h.look hT nm with ⟨h1, h2⟩ | ⟨k, a, b, h1, h2, h3⟩
    · rw [h1, h2]; exact ⟨rfl, rfl, h⟩
    · rw [h1, h2]
      have e := h3 T (Int.le_refl _) hT
      refine ⟨congrArg Bk.has e, rfl, ?_⟩
      show Rl (Ae T) (l.set k (fillI a T)) (m.set k (fillI b T))
      rw [← e]
      exact h.set _ (Ae.refl _ _)

/-! Another tenant's calls. -/
theorem ixB_app_new (nm : List UInt8) {b : Bk} (hb : b.nm ≠ nm) : ∀ (l : List Bk), ixB (l ++ [b]) nm = ixB l nm
  | [] => by simp [ixB, hb]
  | x :: r => by simp [ixB, ixB_app_new nm hb r]
theorem ixB_set (nm : List UInt8) {b : Bk} : ∀ {l : List Bk} {k : Nat} {a : Bk}, l[k]? = some a → a.nm = b.nm → ixB (l.set k b) nm = ixB l nm
  | [], k, a, h, _ => by simp at h
  | x :: r, 0, a, h, e => by simp at h; subst h; simp [ixB, e]
  | x :: r, k + 1, a, h, e => by simp at h; simp [ixB, ixB_set nm h e]
theorem look_set {nm : List UInt8} {l : List Bk} {k : Nat} {a b : Bk} (h : l[k]? = some a) (e : a.nm = b.nm) (hn : b.nm ≠ nm) : lookB (l.set k b) nm = lookB l nm := by
  unfold lookB
  rw [ixB_set nm h e]
  cases hx : ixB l nm with
  | none => rfl
  | some j =>
    simp only
    obtain ⟨s, h1, h2⟩ := ixB_some l nm j hx
    have hjk : k ≠ j := by
      intro hjk
      subst hjk
      rw [h] at h1
      cases h1
      exact hn (e ▸ h2)
    rw [List.getElem?_set_ne hjk]
theorem look_app {nm : List UInt8} {l : List Bk} {b : Bk} (hn : b.nm ≠ nm) : lookB (l ++ [b]) nm = lookB l nm := by
  unfold lookB
  rw [ixB_app_new nm hn]
  cases hx : ixB l nm with
  | none => rfl
  | some j =>
    simp only
    obtain ⟨s, h1, h2⟩ := ixB_some l nm j hx
    rw [List.getElem?_append_left (List.getElem?_eq_some_iff.1 h1).1]
theorem given_nm (c : Bk) (cost : Int) : (given c cost).nm = c.nm := by unfold given; split <;> rfl
theorem look_step {nm : List UInt8} {l : List Bk} (o : OpI) (hn : o.nm ≠ nm) (h8 : o.kind ≠ 8) : lookB (stepT l o) nm = lookB l nm := by
  unfold stepT
  split
  · unfold setI
    split
    · rfl
    · split
      · rename_i k hk
        obtain ⟨s, h1, h2⟩ := ixB_some l o.nm k hk
        exact look_set h1 h2 hn
      · split
        · rfl
        · exact look_app hn
  · split
    · unfold takeI
      split
      · rfl
      · split
        · rename_i k b hb
          obtain ⟨h1, h2, h3⟩ := lookB_some hb
          split
          · exact look_set h2 (by show b.nm = (fillI b o.now).nm; rw [fill_nm]) (by show (fillI b o.now).nm ≠ nm; rw [fill_nm, h3]; exact hn)
          · exact look_set h2 (by show b.nm = (fillI b o.now).nm; rw [fill_nm]) (by show (fillI b o.now).nm ≠ nm; rw [fill_nm, h3]; exact hn)
        · rfl
    · split
      · unfold giveI
        split
        · rfl
        · split
          · rename_i k b hb
            obtain ⟨h1, h2, h3⟩ := lookB_some hb
            exact look_set h2 (by rw [given_nm, fill_nm]) (by rw [given_nm, fill_nm, h3]; exact hn)
          · rfl
      · split
        · unfold tokI
          split
          · rfl
          · split
            · rename_i k b hb
              obtain ⟨h1, h2, h3⟩ := lookB_some hb
              exact look_set h2 (by rw [fill_nm]) (by rw [fill_nm, h3]; exact hn)
            · rfl
        · split
          · unfold nextI
            split
            · rfl
            · split
              · rename_i k b hb
                obtain ⟨h1, h2, h3⟩ := lookB_some hb
                exact look_set h2 (by rw [fill_nm]) (by rw [fill_nm, h3]; exact hn)
              · rfl
          · rfl
theorem cnt_of_look {l m : List Bk} {nm : List UInt8} (h : lookB m nm = lookB l nm) : cntI m nm = cntI l nm := by unfold cntI; rw [h]
theorem tok_of_look {l m : List Bk} {nm : List UInt8} {now : Int} (h : lookB m nm = lookB l nm) : (tokI m nm now).1 = (tokI l nm now).1 ∧ (tokI m nm now).2.1 = (tokI l nm now).2.1 := by
  unfold tokI
  split
  · exact ⟨rfl, rfl⟩
  · rw [h]
    split <;> exact ⟨rfl, rfl⟩
end Go.Proofs.Ytpobfcmbbabchaa
