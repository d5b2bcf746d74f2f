/- What a text says of who asks, as plain lists. -/
import Derived.Test.YtnghgclogeefgaaChecked
import Derived.WalkKit
import Derived.WalkMore
import Derived.BigQuiet
namespace Go.Proofs.Ytnghgclogeefgaa
open Go.RowKit
set_option linter.unusedVariables false
set_option linter.unusedSimpArgs false

/-- A text of bytes. -/
def tx (l : List UInt8) : ByteArray := ⟨l.toArray⟩
theorem tx_app (l m : List UInt8) : tx l ++ tx m = tx (l ++ m) := by
  apply ByteArray.ext
  simp [tx, ByteArray.data_append]
theorem tx_size (l : List UInt8) : (tx l).size = l.length := by simp [tx, ByteArray.size]
theorem tx_extract (l : List UInt8) (a b : Nat) : (tx l).extract a b = tx ((l.drop a).take (b - a)) := by
  apply ByteArray.ext
  simp [tx]
theorem tx_from (l : List UInt8) (n : Nat) : (tx l).extract n l.length = tx (l.drop n) := by
  rw [tx_extract, List.take_of_length_le (by simp)]
theorem tx_list (l : List UInt8) : (tx l).toList = l := ByteArray.toList_mk l
theorem tx_inj {a b : List UInt8} (h : tx a = tx b) : a = b := by rw [← tx_list a, h, tx_list]

/-- A byte that can stand in a name; at its beginning, or behind it. -/
def okB (first : Bool) (c : UInt8) : Bool := (decide (97 ≤ c.toNat) && decide (c.toNat ≤ 122)) || (!first && ((decide (48 ≤ c.toNat) && decide (c.toNat ≤ 57)) || decide (c.toNat = 45)))
/-- How many bytes of a text, behind n of them, stand in a name. -/
def nlF : Nat → List UInt8 → Nat
  | _, [] => 0
  | n, c :: l => if n < 32 ∧ okB (n == 0) c = true then nlF (n + 1) l + 1 else 0
def nl (l : List UInt8) : Nat := nlF 0 l
theorem nlF_le : ∀ (n : Nat) (l : List UInt8), nlF n l ≤ l.length
  | _, [] => Nat.le_refl _
  | n, c :: l => by
    have := nlF_le (n + 1) l
    simp only [nlF, List.length_cons]
    split <;> omega
theorem nl_le (l : List UInt8) : nl l ≤ l.length := nlF_le 0 l
theorem nlF_max : ∀ (n : Nat) (l : List UInt8), nlF n l ≤ 32 - n
  | _, [] => Nat.zero_le _
  | n, c :: l => by
    have := nlF_max (n + 1) l
    simp only [nlF]
    split <;> omega
theorem nl_max (l : List UInt8) : nl l ≤ 32 := nlF_max 0 l
theorem nlF_of : ∀ (k n : Nat) (l : List UInt8), (∀ j c, j < k → l[j]? = some c → n + j < 32 ∧ okB (n + j == 0) c = true) → k ≤ l.length → (∀ c, l[k]? = some c → ¬ (n + k < 32 ∧ okB (n + k == 0) c = true)) → nlF n l = k
  | 0, _, [], _, _, _ => rfl
  | 0, n, c :: l, _, _, h => by
    have := h c rfl
    simp only [nlF]
    rw [if_neg (by simpa using this)]
  | k + 1, _, [], _, h, _ => by simp at h
  | k + 1, n, c :: l, h1, h2, h3 => by
    have hc := h1 0 c (by omega) rfl
    have := nlF_of k (n + 1) l (fun j x hj hx => by have := h1 (j + 1) x (by omega) (by simpa using hx); rwa [show n + (j + 1) = n + 1 + j by omega] at this) (by simpa using h2) (fun x hx => by have := h3 x (by simpa using hx); rwa [show n + (k + 1) = n + 1 + k by omega] at this)
    simp only [nlF]
    rw [if_pos (by simpa using hc), this]
theorem nl_of (k : Nat) (l : List UInt8) (h1 : ∀ j c, j < k → l[j]? = some c → j < 32 ∧ okB (j == 0) c = true) (h2 : k ≤ l.length) (h3 : ∀ c, l[k]? = some c → ¬ (k < 32 ∧ okB (k == 0) c = true)) : nl l = k :=
  nlF_of k 0 l (fun j c hj hc => by simpa using h1 j c hj hc) h2 (fun c hc => by simpa using h3 c hc)
theorem nlF_get : ∀ (k n : Nat) (l : List UInt8) (c : UInt8), k < nlF n l → l[k]? = some c → n + k < 32 ∧ okB (n + k == 0) c = true
  | k, n, [], c, h, _ => by simp [nlF] at h
  | 0, n, x :: l, c, h, e => by
    simp only [nlF] at h
    split at h
    · rename_i hh
      rw [show x = c by simpa using e] at hh
      simpa using hh
    · omega
  | k + 1, n, x :: l, c, h, e => by
    simp only [nlF] at h
    split at h
    · have := nlF_get k (n + 1) l c (by omega) (by simpa using e)
      rwa [show n + (k + 1) = n + 1 + k by omega]
    · omega
theorem nl_get {k : Nat} {l : List UInt8} {c : UInt8} (h : k < nl l) (e : l[k]? = some c) : k < 32 ∧ okB (k == 0) c = true := by
  simpa using nlF_get k 0 l c h e
/-- A name. -/
def rn (l : List UInt8) : Prop := l ≠ [] ∧ nl l = l.length
instance (l : List UInt8) : Decidable (rn l) := by unfold rn; infer_instance
/-- A name and what can't stand in one behind it. -/
theorem nl_app {t : List UInt8} (h : rn t) (m : List UInt8) (hm : ∀ c, m[0]? = some c → okB false c = false) : nl (t ++ m) = t.length := by
  have hl := nl_max t
  refine nl_of _ _ (fun j c hj hc => ?_) (by simp) (fun c hc => ?_)
  · rw [List.getElem?_append_left hj] at hc
    exact nl_get (by rw [h.2]; exact hj) hc
  · rw [List.getElem?_append_right (Nat.le_refl _), Nat.sub_self] at hc
    have h0 : t.length ≠ 0 := fun h0 => h.1 (List.length_eq_zero_iff.1 h0)
    have e : (t.length == 0) = false := by simpa using h0
    rw [e, hm c hc]
    simp
theorem rn_take (l : List UInt8) (h : nl l ≠ 0) : rn (l.take (nl l)) := by
  have hle := nl_le l
  refine ⟨fun e => h (by have := congrArg List.length e; simp at this; rcases this with h | h; exact h; rw [h]; rfl), ?_⟩
  refine nl_of _ _ (fun j c hj hc => ?_) (Nat.le_refl _) (fun c hc => ?_)
  · rw [List.length_take] at hj
    have hj' : j < nl l := by omega
    rw [List.getElem?_take_of_lt hj'] at hc
    exact nl_get hj' hc
  · rw [List.getElem?_eq_none (Nat.le_refl _)] at hc
    cases hc

/-- How far two lists go together. -/
def lcp : List UInt8 → List UInt8 → Nat
  | c :: l, d :: m => if c = d then lcp l m + 1 else 0
  | _, _ => 0
theorem lcp_le : ∀ (l m : List UInt8), lcp l m ≤ l.length
  | [], _ => Nat.zero_le _
  | _ :: _, [] => Nat.zero_le _
  | c :: l, d :: m => by
    have := lcp_le l m
    simp only [lcp, List.length_cons]
    split <;> omega
theorem lcp_le' : ∀ (l m : List UInt8), lcp l m ≤ m.length
  | [], _ => Nat.zero_le _
  | _ :: _, [] => Nat.zero_le _
  | c :: l, d :: m => by
    have := lcp_le' l m
    simp only [lcp, List.length_cons]
    split <;> omega
theorem lcp_of : ∀ (k : Nat) (l m : List UInt8), (∀ j, j < k → l[j]? = m[j]?) → k ≤ l.length → k ≤ m.length → (k = m.length ∨ k = l.length ∨ l[k]? ≠ m[k]?) → lcp l m = k
  | 0, [], _, _, _, _, _ => rfl
  | 0, _ :: _, [], _, _, _, _ => rfl
  | 0, c :: l, d :: m, _, _, _, h => by
    rcases h with h | h | h
    · simp at h
    · simp at h
    · simp only [lcp]
      rw [if_neg (by simpa using h)]
  | k + 1, [], _, _, h, _, _ => by simp at h
  | k + 1, _ :: _, [], _, _, h, _ => by simp at h
  | k + 1, c :: l, d :: m, h1, h2, h3, h4 => by
    have h0 := h1 0 (by omega)
    have := lcp_of k l m (fun j hj => by simpa using h1 (j + 1) (by omega)) (by simpa using h2) (by simpa using h3) (by simpa using h4)
    simp only [lcp]
    rw [if_pos (by simpa using h0), this]
theorem lcp_get : ∀ (k : Nat) (l m : List UInt8), k < lcp l m → l[k]? = m[k]?
  | k, [], _, h => by simp [lcp] at h
  | k, _ :: _, [], h => by simp [lcp] at h
  | 0, c :: l, d :: m, h => by
    simp only [lcp] at h
    split at h
    · simpa
    · omega
  | k + 1, c :: l, d :: m, h => by
    simp only [lcp] at h
    split at h
    · simpa using lcp_get k l m (by omega)
    · omega
theorem lcp_full : ∀ (m l : List UInt8), lcp l m = m.length → l = m ++ l.drop m.length
  | [], l, _ => by simp
  | d :: m, [], h => by simp [lcp] at h
  | d :: m, c :: l, h => by
    simp only [lcp] at h
    split at h
    · rename_i e
      have := lcp_full m l (by simpa using h)
      simp only [List.length_cons, List.drop_succ_cons, List.cons_append]
      rw [← this, e]
    · simp at h
theorem lcp_app : ∀ (m l : List UInt8), lcp (m ++ l) m = m.length
  | [], l => by cases l <;> rfl
  | d :: m, l => by simp [lcp, lcp_app m l]

def hd : List UInt8 := [98, 101, 108, 102, 114, 121, 58]
def ad : List UInt8 := [35, 97, 100, 109, 105, 110]
/-- Who a text says: a tenant, a user, whether an administrator; or the place at fault. -/
def pI (s : List UInt8) : (List UInt8 × List UInt8 × Bool) ⊕ Nat :=
  if lcp s hd < 7 then .inr (lcp s hd)
  else
    let n := nl (s.drop 7)
    if n = 0 ∨ s[7 + n]? ≠ some 47 then .inr (7 + n)
    else
      let m := nl (s.drop (8 + n))
      if m = 0 then .inr (8 + n)
      else if 8 + n + m = s.length then .inl ((s.drop 7).take n, (s.drop (8 + n)).take m, false)
      else
        let k := lcp (s.drop (8 + n + m)) ad
        if k < 6 ∨ 14 + n + m ≠ s.length then .inr (8 + n + m + k)
        else .inl ((s.drop 7).take n, (s.drop (8 + n)).take m, true)
/-- The text of one who asks. -/
def prI (t u : List UInt8) (a : Bool) : List UInt8 := hd ++ t ++ [47] ++ u ++ (if a then ad else [])
theorem p_back (t u : List UInt8) (a : Bool) (ht : rn t) (hu : rn u) : pI (prI t u a) = .inl (t, u, a) := by
  have e0 : lcp (prI t u a) hd = 7 := by
    have := lcp_app hd (t ++ [47] ++ u ++ (if a then ad else []))
    simpa [prI, hd, List.append_assoc] using this
  have d7 : (prI t u a).drop 7 = t ++ ([47] ++ u ++ (if a then ad else [])) := by simp [prI, hd, List.append_assoc]
  have n1 : nl ((prI t u a).drop 7) = t.length := by
    rw [d7]
    exact nl_app ht _ (fun c hc => by have : 47 = c := by simpa using hc
                                      subst this; rfl)
  have t0 : t.length ≠ 0 := fun h0 => ht.1 (List.length_eq_zero_iff.1 h0)
  have u0 : u.length ≠ 0 := fun h0 => hu.1 (List.length_eq_zero_iff.1 h0)
  have g7 : (prI t u a)[7 + t.length]? = some 47 := by
    have : (prI t u a)[7 + t.length]? = ((prI t u a).drop 7)[t.length]? := by rw [List.getElem?_drop]
    rw [this, d7, List.getElem?_append_right (Nat.le_refl _), Nat.sub_self]
    rfl
  have d8 : (prI t u a).drop (8 + t.length) = u ++ (if a then ad else []) := by
    have : (prI t u a).drop (8 + t.length) = ((prI t u a).drop 7).drop (t.length + 1) := by rw [List.drop_drop]; congr 1; omega
    rw [this, d7, List.drop_append, List.drop_of_length_le (by omega), show t.length + 1 - t.length = 1 by omega]
    rfl
  have m1 : nl ((prI t u a).drop (8 + t.length)) = u.length := by
    rw [d8]
    exact nl_app hu _ (fun c hc => by
      cases a
      · simp at hc
      · have : 35 = c := by simpa [ad] using hc
        subst this; rfl)
  have tk1 : ((prI t u a).drop 7).take t.length = t := by rw [d7, List.take_left']; rfl
  have tk2 : ((prI t u a).drop (8 + t.length)).take u.length = u := by rw [d8, List.take_left']; rfl
  unfold pI
  simp only [n1, m1, tk1, tk2, e0, g7]
  rw [if_neg (by omega), if_neg (by simp [t0]), if_neg u0]
  cases a
  · rw [if_pos (by simp [prI, hd]; omega)]
  · have d9 : (prI t u true).drop (8 + t.length + u.length) = ad := by
      rw [← List.drop_drop, d8]
      simp
    have := lcp_app ad []
    rw [List.append_nil] at this
    rw [if_neg (by simp [prI, hd, ad]; omega), d9, this, if_neg (by simp [prI, hd, ad]; omega)]
theorem take_one {l : List UInt8} {c : UInt8} (h : l[0]? = some c) : l = c :: l.drop 1 := by
  cases l with
  | nil => simp at h
  | cons x l => simp at h; simp [h]
theorem p_was (s t u : List UInt8) (a : Bool) (h : pI s = .inl (t, u, a)) : rn t ∧ rn u ∧ prI t u a = s := by
  unfold pI at h
  simp only at h
  split at h
  · cases h
  rename_i c1
  split at h
  · cases h
  rename_i c2
  split at h
  · cases h
  rename_i c3
  have l7 := lcp_le' s hd
  have e7 : s = hd ++ s.drop 7 := lcp_full hd s (by have : hd.length = 7 := rfl; omega)
  have c2' : nl (s.drop 7) ≠ 0 := fun h0 => c2 (.inl h0)
  have c2b : s[7 + nl (s.drop 7)]? = some 47 := Classical.byContradiction fun hh => c2 (.inr hh)
  have r1 := rn_take _ c2'
  have r2 := rn_take _ c3
  have es : s = hd ++ ((s.drop 7).take (nl (s.drop 7)) ++ ([47] ++ s.drop (8 + nl (s.drop 7)))) := by
    have h1 : (s.drop 7).drop (nl (s.drop 7)) = 47 :: s.drop (8 + nl (s.drop 7)) := by
      rw [take_one (l := (s.drop 7).drop (nl (s.drop 7))) (c := 47) (by rw [List.drop_drop, List.getElem?_drop]; simpa using c2b), List.drop_drop, List.drop_drop]
      congr 2
      omega
    rw [List.singleton_append, ← h1, List.take_append_drop]
    exact e7
  split at h
  · rename_i c4
    simp only [Sum.inl.injEq, Prod.mk.injEq] at h
    obtain ⟨rfl, rfl, rfl⟩ := h
    refine ⟨r1, r2, ?_⟩
    have hu : (s.drop (8 + nl (s.drop 7))).take (nl (s.drop (8 + nl (s.drop 7)))) = s.drop (8 + nl (s.drop 7)) := by
      rw [List.take_of_length_le]
      rw [List.length_drop]
      omega
    rw [hu]
    refine Eq.trans ?_ es.symm
    simp [prI, List.append_assoc]
  · rename_i c4
    split at h
    · cases h
    rename_i c5
    simp only [Sum.inl.injEq, Prod.mk.injEq] at h
    obtain ⟨rfl, rfl, rfl⟩ := h
    refine ⟨r1, r2, ?_⟩
    have l6 := lcp_le' (s.drop (8 + nl (s.drop 7) + nl (s.drop (8 + nl (s.drop 7))))) ad
    have e6 := lcp_full ad (s.drop (8 + nl (s.drop 7) + nl (s.drop (8 + nl (s.drop 7))))) (by have : ad.length = 6 := rfl; omega)
    have e8 : (s.drop (8 + nl (s.drop 7) + nl (s.drop (8 + nl (s.drop 7))))).drop ad.length = [] := by
      rw [List.drop_drop]
      apply List.drop_of_length_le
      simp [ad]
      omega
    rw [e8, List.append_nil] at e6
    have hu : s.drop (8 + nl (s.drop 7)) = (s.drop (8 + nl (s.drop 7))).take (nl (s.drop (8 + nl (s.drop 7)))) ++ ad := by
      conv => lhs; rw [← List.take_append_drop (nl (s.drop (8 + nl (s.drop 7)))) (s.drop (8 + nl (s.drop 7)))]
      rw [List.drop_drop, e6]
    refine Eq.trans ?_ es.symm
    conv => rhs; rw [hu]
    simp [prI, List.append_assoc]
end Go.Proofs.Ytnghgclogeefgaa
