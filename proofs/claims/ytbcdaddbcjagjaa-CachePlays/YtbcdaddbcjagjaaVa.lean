/- Plain: the cache's lists against the model's one list. -/
import Derived.Test.YtbcdaddbcjagjaaTi
import Derived.Test.YtbcdaddbcjagjaaUa
namespace Go.Proofs.Ytbcdaddbcjagjaa
open Go.RowKit
set_option linter.unusedVariables false
set_option linter.unusedSimpArgs false

def itA (a : An) : It := ⟨a.key, a.st, a.te⟩
/-- What a tenant has. -/
def sel (x : List UInt8) : List An → List It
  | [] => []
  | a :: r => if a.tn = x then itA a :: sel x r else sel x r
theorem sel_app (x : List UInt8) : ∀ a b : List An, sel x (a ++ b) = sel x a ++ sel x b
  | [], b => rfl
  | y :: r, b => by
    rw [List.cons_append, sel, sel, sel_app x r b]
    split <;> rfl
theorem sel_len (x : List UInt8) : ∀ l : List An, (sel x l).length = cntT x l
  | [] => rfl
  | a :: r => by
    rw [sel, cntT]
    split
    · rw [List.length_cons, sel_len x r]
    · exact sel_len x r
theorem split_at {l : List An} {i : Nat} {a : An} (h : l[i]? = some a) : l = l.take i ++ a :: l.drop (i + 1) := by
  obtain ⟨h1, h2⟩ := List.getElem?_eq_some_iff.1 h
  rw [← h2, List.getElem_cons_drop, List.take_append_drop]
theorem sel_mem {x : List UInt8} : ∀ {l : List An} {y : It}, y ∈ sel x l → ∃ a ∈ l, a.tn = x ∧ itA a = y
  | [], y, h => by simp [sel] at h
  | a :: r, y, h => by
    rw [sel] at h
    split at h
    · rename_i e
      rcases List.mem_cons.1 h with h | h
      · exact ⟨a, by simp, e, h.symm⟩
      · obtain ⟨b, h1, h2⟩ := sel_mem h
        exact ⟨b, by simp [h1], h2⟩
    · obtain ⟨b, h1, h2⟩ := sel_mem h
      exact ⟨b, by simp [h1], h2⟩
/-- Where a key stands, in both. -/
theorem fnd_sel (s k : List UInt8) : ∀ (l : List An) (i : Nat), (fndA s k l i = none ∧ lkE k (sel s l) = none) ∨ ∃ (j : Nat) (a : An), fndA s k l i = some (i + j) ∧ l[j]? = some a ∧ a.tn = s ∧ a.key = k ∧ lkE k (sel s l) = some (itA a) ∧ sel s (l.take j ++ l.drop (j + 1)) = outE k (sel s l)
  | [], i => .inl ⟨rfl, rfl⟩
  | x :: r, i => by
    by_cases e : x.tn = s
    · by_cases e2 : x.key = k
      · right
        refine ⟨0, x, by rw [fndA, if_pos ⟨e, e2⟩]; rfl, rfl, e, e2, ?_, ?_⟩
        · rw [sel, if_pos e, lkE, if_pos (show k = (itA x).key from e2.symm)]
        · rw [sel, if_pos e, outE, if_pos (show k = (itA x).key from e2.symm)]
          rfl
      · have hk : ¬ k = (itA x).key := fun h => e2 h.symm
        rcases fnd_sel s k r (i + 1) with ⟨h1, h2⟩ | ⟨j, a, h1, h2, h3, h4, h5, h6⟩
        · left
          rw [fndA, if_neg (fun h => e2 h.2), sel, if_pos e, lkE, if_neg hk]
          exact ⟨h1, h2⟩
        · right
          refine ⟨j + 1, a, ?_, by simpa using h2, h3, h4, ?_, ?_⟩
          · rw [fndA, if_neg (fun h => e2 h.2), h1]
            congr 1
            omega
          · rw [sel, if_pos e, lkE, if_neg hk]
            exact h5
          · rw [List.take_succ_cons, List.drop_succ_cons, List.cons_append, sel, if_pos e, sel, if_pos e, outE, if_neg hk, h6]
    · rcases fnd_sel s k r (i + 1) with ⟨h1, h2⟩ | ⟨j, a, h1, h2, h3, h4, h5, h6⟩
      · left
        rw [fndA, if_neg (fun h => e h.1), sel, if_neg e]
        exact ⟨h1, h2⟩
      · right
        refine ⟨j + 1, a, ?_, by simpa using h2, h3, h4, ?_, ?_⟩
        · rw [fndA, if_neg (fun h => e h.1), h1]
          congr 1
          omega
        · rw [sel, if_neg e]
          exact h5
        · rw [List.take_succ_cons, List.drop_succ_cons, List.cons_append, sel, if_neg e, sel, if_neg e, h6]
theorem sel_cut (x : List UInt8) {l : List An} {i : Nat} {a : An} (h : l[i]? = some a) (hne : x ≠ a.tn) : sel x (l.take i ++ l.drop (i + 1)) = sel x l := by
  have e := split_at h
  have h1 : sel x l = sel x (l.take i ++ a :: l.drop (i + 1)) := by rw [← e]
  rw [h1, sel_app, sel_app, sel, if_neg (fun e => hne e.symm)]
theorem sel_put (s k st te : List UInt8) (l : List An) (x : List UInt8) : sel x (putA s k st te l) = if x = s then ⟨k, st, te⟩ :: outE k (sel s l) else sel x l := by
  unfold putA cutA
  rcases fnd_sel s k l 0 with ⟨h1, h2⟩ | ⟨j, a, h1, h2, h3, h4, h5, h6⟩
  · rw [h1]
    by_cases e : x = s
    · rw [if_pos e, sel, if_pos e.symm, e, outE_none (lkE_none.1 h2)]
      rfl
    · rw [if_neg e, sel, if_neg (fun e2 => e e2.symm)]
  · rw [h1, Nat.zero_add]
    by_cases e : x = s
    · rw [if_pos e, sel, if_pos e.symm, e]
      show itA _ :: sel s (l.take j ++ l.drop (j + 1)) = _
      rw [h6]
      rfl
    · rw [if_neg e, sel, if_neg (fun e2 => e e2.symm)]
      exact sel_cut x h2 (by rw [h3]; exact e)
/-- A tenant's last one. -/
theorem lst_some (s : List UInt8) : ∀ (l : List An) (i k : Nat), (lstA s l i (some k) = some k ∧ sel s l = []) ∨ ∃ (j : Nat) (a : An), lstA s l i (some k) = some (i + j) ∧ l[j]? = some a ∧ a.tn = s ∧ sel s l ≠ [] ∧ sel s (l.take j ++ l.drop (j + 1)) = (sel s l).dropLast
  | [], i, k => .inl ⟨rfl, rfl⟩
  | x :: r, i, k => by
    by_cases e : x.tn = s
    · rw [lstA, if_pos e, sel, if_pos e]
      right
      rcases lst_some s r (i + 1) i with ⟨h1, h2⟩ | ⟨j, a, h1, h2, h3, h4, h5⟩
      · refine ⟨0, x, by rw [h1]; rfl, rfl, e, by simp, ?_⟩
        rw [h2]
        show sel s r = _
        rw [h2]
        rfl
      · refine ⟨j + 1, a, by rw [h1]; congr 1; omega, by simpa using h2, h3, by simp, ?_⟩
        rw [List.take_succ_cons, List.drop_succ_cons, List.cons_append, sel, if_pos e, h5, List.dropLast_cons_of_ne_nil h4]
    · rw [lstA, if_neg e, sel, if_neg e]
      rcases lst_some s r (i + 1) k with h1 | ⟨j, a, h1, h2, h3, h4, h5⟩
      · exact .inl h1
      · refine .inr ⟨j + 1, a, by rw [h1]; congr 1; omega, by simpa using h2, h3, h4, ?_⟩
        rw [List.take_succ_cons, List.drop_succ_cons, List.cons_append, sel, if_neg e, h5]
theorem lst_sel (s : List UInt8) : ∀ (l : List An) (i : Nat), sel s l ≠ [] → ∃ (j : Nat) (a : An), lstA s l i none = some (i + j) ∧ l[j]? = some a ∧ a.tn = s ∧ sel s (l.take j ++ l.drop (j + 1)) = (sel s l).dropLast
  | [], i, h => (h rfl).elim
  | x :: r, i, h => by
    by_cases e : x.tn = s
    · rw [lstA, if_pos e, sel, if_pos e]
      rcases lst_some s r (i + 1) i with ⟨h1, h2⟩ | ⟨j, a, h1, h2, h3, h4, h5⟩
      · refine ⟨0, x, by rw [h1]; rfl, rfl, e, ?_⟩
        rw [h2]
        show sel s r = _
        rw [h2]
        rfl
      · refine ⟨j + 1, a, by rw [h1]; congr 1; omega, by simpa using h2, h3, ?_⟩
        rw [List.take_succ_cons, List.drop_succ_cons, List.cons_append, sel, if_pos e, h5, List.dropLast_cons_of_ne_nil h4]
    · rw [sel, if_neg e] at h
      rw [lstA, if_neg e, sel, if_neg e]
      obtain ⟨j, a, h1, h2, h3, h4⟩ := lst_sel s r (i + 1) h
      refine ⟨j + 1, a, by rw [h1]; congr 1; omega, by simpa using h2, h3, ?_⟩
      rw [List.take_succ_cons, List.drop_succ_cons, List.cons_append, sel, if_neg e, h4]
theorem sel_ten {l : List An} {x : List UInt8} : x ∈ tlT l [] ↔ sel x l ≠ [] := by
  rw [tlT_mem]
  constructor
  · rintro (h | h)
    · simp at h
    · obtain ⟨a, ha, rfl⟩ := List.mem_map.1 h
      intro e
      have : ∀ (l : List An), a ∈ l → sel a.tn l ≠ [] := by
        intro l
        induction l with
        | nil => intro h; simp at h
        | cons y r ih =>
          intro h e
          rw [sel] at e
          rcases List.mem_cons.1 h with h | h
          · rw [if_pos (by rw [h])] at e
            cases e
          · split at e
            · cases e
            · exact ih h e
      exact this l ha e
  · intro h
    right
    obtain ⟨y, hy⟩ := List.exists_mem_of_ne_nil _ h
    obtain ⟨a, h1, h2, -⟩ := sel_mem hy
    exact List.mem_map.2 ⟨a, h1, h2⟩
/-- Put, in both. -/
theorem put_full {s k st te : List UInt8} {most : Int} {l : List An} (h : fullB s l = true) : putM most s k st te l = (7, l) ∧ sel s l = [] ∧ ∃ S : List (List UInt8), S.Nodup ∧ 16 ≤ S.length ∧ ∀ x ∈ S, sel x l ≠ [] := by
  refine ⟨by unfold putM; rw [if_pos h], ?_, tlT l [], tlT_nd l [] List.nodup_nil, ?_, fun x hx => sel_ten.1 hx⟩
  · unfold fullB at h
    simp only [Bool.and_eq_true, decide_eq_true_eq] at h
    exact List.eq_nil_of_length_eq_zero (by rw [sel_len]; exact h.1)
  · unfold fullB at h
    simp only [Bool.and_eq_true, decide_eq_true_eq] at h
    exact h.2
theorem put_room {s : List UInt8} {l : List An} (h : fullB s l = false) (he : sel s l = []) : ∃ S : List (List UInt8), S.length ≤ 15 ∧ ∀ x, sel x l ≠ [] → x ∈ S := by
  refine ⟨tlT l [], ?_, fun x hx => sel_ten.2 hx⟩
  unfold fullB at h
  have : cntT s l = 0 := by rw [← sel_len, he]; rfl
  rw [decide_eq_true this, Bool.true_and] at h
  have := of_decide_eq_false h
  omega
theorem put_both {s k st te : List UInt8} {most : Int} {l : List An} (h : fullB s l = false) : (putM most s k st te l).1 = putR k te ∧ (fun x => sel x (putM most s k st te l).2) = putEE most (fun x => sel x l) s k st te := by
  unfold putM
  rw [if_neg (by rw [h]; decide)]
  by_cases hb : bigE k te = true
  · rw [if_pos hb]
    obtain ⟨e1, e2⟩ := put_big (most := most) (E := fun x => sel x l) (s := s) (st := st) hb
    rw [e1, e2]
    exact ⟨rfl, rfl⟩
  · rw [if_neg hb]
    obtain ⟨e1, e2⟩ := put_fit (most := most) (E := fun x => sel x l) (s := s) (st := st) (by simpa using hb)
    rw [e1, e2]
    refine ⟨rfl, ?_⟩
    have hs := sel_put s k st te l
    have hcn : (cntT s (putA s k st te l) : Int) = ((⟨k, st, te⟩ :: outE k (sel s l) : List It).length : Int) := by rw [← sel_len, hs, if_pos rfl]
    funext x
    unfold putE
    by_cases c : most < (cntT s (putA s k st te l) : Int)
    · dsimp only
      rw [if_pos c, if_neg (by rw [← hcn]; omega)]
      have hne : sel s (putA s k st te l) ≠ [] := by rw [hs, if_pos rfl]; simp
      obtain ⟨j, a, h1, h2, h3, h4⟩ := lst_sel s (putA s k st te l) 0 hne
      rw [h1, Nat.zero_add]
      show sel x (_ ++ _) = _
      by_cases e : x = s
      · rw [e, h4, hs, if_pos rfl, updE_at]
      · rw [updE_off _ _ e, sel_cut x h2 (by rw [h3]; exact e), hs, if_neg e]
    · dsimp only
      rw [if_neg c, if_pos (by rw [← hcn]; omega)]
      by_cases e : x = s
      · rw [e, hs, if_pos rfl, updE_at]
      · rw [updE_off _ _ e, hs, if_neg e]
/-- Get, in both. -/
theorem get_both (s k st : List UInt8) (l : List An) : getT (lkE k (sel s l)) st = txtM s k st l ∧ hitB (lkE k (sel s l)) st = hitM s k st l ∧ (fun x => sel x (getM s k st l)) = updE (fun x => sel x l) s (getEE k st (sel s l)) := by
  unfold txtM hitM getM
  rcases fnd_sel s k l 0 with ⟨h1, h2⟩ | ⟨j, a, h1, h2, h3, h4, h5, h6⟩
  · rw [h1, h2]
    refine ⟨rfl, rfl, ?_⟩
    funext x
    show sel x l = _
    unfold getEE
    rw [h2]
    show sel x l = updE _ s (outE k (sel s l)) x
    rw [outE_none (lkE_none.1 h2)]
    unfold updE
    by_cases e : x = s
    · rw [if_pos e, e]
    · rw [if_neg e]
  · have e1 : (fndA s k l 0).bind (l[·]?) = some a := by rw [h1, Nat.zero_add]; exact h2
    rw [e1, h5]
    refine ⟨rfl, rfl, ?_⟩
    funext x
    dsimp only
    rw [h1, Nat.zero_add]
    unfold getEE getE
    rw [h5]
    by_cases hst : a.st = st
    · rw [if_pos hst, show hitB (some (itA a)) st = true from decide_eq_true hst, if_pos rfl]
      show sel x (a :: (l.take j ++ l.drop (j + 1))) = _
      by_cases e : x = s
      · rw [e, sel, if_pos h3, h6, updE_at]
      · rw [updE_off _ _ e, sel, if_neg (by rw [h3]; exact fun e2 => e e2.symm)]
        exact sel_cut x h2 (by rw [h3]; exact e)
    · rw [if_neg hst, show hitB (some (itA a)) st = false from decide_eq_false hst, if_neg (by decide)]
      show sel x (l.take j ++ l.drop (j + 1)) = _
      by_cases e : x = s
      · rw [e, h6, updE_at]
      · rw [updE_off _ _ e]
        exact sel_cut x h2 (by rw [h3]; exact e)
theorem cnt_both (s k st : List UInt8) (l : List An) (cs : List Cn) : (fun x => lkN x (cntM s k st l cs)) = updN (fun x => lkN x cs) s (getN k st (sel s l) (lkN s cs)) := by
  funext x
  unfold cntM getN updN
  rw [(get_both s k st l).2.1]
  by_cases hh : hitM s k st l = true
  · rw [if_pos hh, if_pos hh, bumpH_lk]
  · rw [if_neg hh, if_neg hh, bumpM_lk]
theorem forget_both (s : List UInt8) : ∀ l : List An, (fun x => sel x (kpT s l)) = updE (fun x => sel x l) s []
  | [] => by funext x; unfold updE; split <;> rfl
  | a :: r => by
    have ih := fun x => congrFun (forget_both s r) x
    funext x
    have ihx := ih x
    unfold updE at ihx ⊢
    dsimp only at ihx ⊢
    rw [kpT, sel]
    by_cases e : a.tn = s
    · rw [if_pos e, ihx]
      by_cases e2 : x = s
      · rw [if_pos e2, if_pos e2]
      · rw [if_neg e2, if_neg e2, if_neg (by rw [e]; exact fun e3 => e2 e3.symm)]
    · rw [if_neg e, sel, ihx]
      by_cases e2 : x = s
      · rw [if_pos e2, if_pos e2, if_neg (by rw [e2]; exact e)]
      · rw [if_neg e2, if_neg e2]
/-- All of all tenants. -/
theorem sum_ins : ∀ (S : List (List UInt8)) (f : List UInt8 → Nat) (x : List UInt8), S.Nodup → x ∈ S → (S.map fun y => if y = x then f y + 1 else f y).sum = (S.map f).sum + 1
  | [], f, x, _, h => by simp at h
  | y :: r, f, x, hn, h => by
    obtain ⟨h1, h2⟩ := List.nodup_cons.1 hn
    rw [List.map_cons, List.map_cons, List.sum_cons, List.sum_cons]
    rcases List.mem_cons.1 h with h | h
    · subst h
      rw [if_pos rfl]
      have : (r.map fun y => if y = x then f y + 1 else f y) = r.map f := List.map_congr_left fun y hy => if_neg (show ¬ y = x from fun e => h1 (by rw [← e]; exact hy))
      rw [this]
      omega
    · rw [if_neg (show ¬ y = x from fun e => h1 (by rw [e]; exact h)), sum_ins r f x h2 h]
      omega
theorem sum_sel : ∀ (l : List An) (S : List (List UInt8)), S.Nodup → (∀ a ∈ l, a.tn ∈ S) → (S.map fun x => (sel x l).length).sum = l.length
  | [], S, _, _ => by
    have : ∀ S : List (List UInt8), (S.map fun x => (sel x []).length).sum = 0 := fun S => by
      induction S with
      | nil => rfl
      | cons y r ih => rw [List.map_cons, List.sum_cons, ih]; rfl
    exact this S
  | a :: r, S, hn, h => by
    have ih := sum_sel r S hn fun x hx => h x (by simp [hx])
    have e : (S.map fun x => (sel x (a :: r)).length) = S.map fun y => if y = a.tn then (sel y r).length + 1 else (sel y r).length := List.map_congr_left fun y hy => by
      rw [sel]
      by_cases e : y = a.tn
      · rw [if_pos e, if_pos e.symm]; rfl
      · rw [if_neg e, if_neg (fun e2 => e e2.symm)]
    rw [e, sum_ins S (fun y => (sel y r).length) a.tn hn (h a (by simp)), ih, List.length_cons]
theorem clear_both {l : List An} {n : Nat} (h : ∃ S : List (List UInt8), S.Nodup ∧ (∀ x, x ∈ S ↔ sel x l ≠ []) ∧ n = (S.map fun x => (sel x l).length).sum) : n = l.length := by
  obtain ⟨S, h1, h2, h3⟩ := h
  rw [h3]
  exact sum_sel l S h1 fun a ha => (h2 a.tn).2 (sel_ten.1 ((tlT_mem l [] a.tn).2 (.inr (List.mem_map.2 ⟨a, ha, rfl⟩))))
end Go.Proofs.Ytbcdaddbcjagjaa
