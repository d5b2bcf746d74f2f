/- Lists of attributes compared: the model's. -/
import Derived.Test.YtgmpmpgfpchbcaaGreatDoorC2
import Derived.Sort.Walk0
namespace Go.Proofs.YtgmpmpgfpchbcaaGreatDoor
open Go.RowKit
set_option linter.unusedVariables false
set_option linter.unusedSimpArgs false

theorem bl_irrefl (a : List UInt8) : Op.bytesLess a a = false := by
  rw [bytesLess_eq]
  exact decide_eq_false (List.lt_irrefl a)
theorem cs_self (a : List UInt8) : csI a a = 0 := by unfold csI; rw [bl_irrefl]; simp
theorem cs_eq (a b : List UInt8) (h : csI a b = 0) : a = b := by
  unfold csI at h
  split at h
  · cases h
  · split at h
    · assumption
    · cases h
/-- Which of two lists is less. -/
def cmpI : List At → List At → Int
  | [], [] => 0
  | [], _ :: _ => -1
  | _ :: _, [] => 1
  | x :: l, y :: m => if csI x.1 y.1 = 0 then (if csI x.2 y.2 = 0 then cmpI l m else csI x.2 y.2) else csI x.1 y.1
theorem cmp_drop : ∀ (k : Nat) (l m : List At), k ≤ l.length → k ≤ m.length → (∀ j, j < k → l[j]? = m[j]?) → cmpI l m = cmpI (l.drop k) (m.drop k)
  | 0, l, m, _, _, _ => rfl
  | k + 1, [], m, h, _, _ => by simp at h
  | k + 1, x :: l, [], _, h, _ => by simp at h
  | k + 1, x :: l, y :: m, h1, h2, h => by
    have e := Option.some.inj (show some x = some y from h 0 (by omega))
    subst e
    rw [show cmpI (x :: l) (x :: m) = cmpI l m by show (if csI x.1 x.1 = 0 then (if csI x.2 x.2 = 0 then cmpI l m else csI x.2 x.2) else csI x.1 x.1) = _; rw [cs_self, cs_self]; simp]
    exact cmp_drop k l m (by simpa using h1) (by simpa using h2) (fun j hj => by have := h (j + 1) (by omega); simpa using this)
theorem cmp_at (k : Nat) (l m : List At) (x y : At) (hx : l[k]? = some x) (hy : m[k]? = some y) (h : ∀ j, j < k → l[j]? = m[j]?) (hne : x ≠ y) : cmpI l m = if csI x.1 y.1 = 0 then csI x.2 y.2 else csI x.1 y.1 := by
  obtain ⟨a1, a2⟩ := List.getElem?_eq_some_iff.1 hx
  obtain ⟨b1, b2⟩ := List.getElem?_eq_some_iff.1 hy
  rw [cmp_drop k l m (by omega) (by omega) h, List.drop_eq_getElem_cons a1, List.drop_eq_getElem_cons b1, a2, b2]
  show (if csI x.1 y.1 = 0 then (if csI x.2 y.2 = 0 then _ else csI x.2 y.2) else csI x.1 y.1) = _
  by_cases c : csI x.1 y.1 = 0
  · rw [if_pos c, if_pos c]
    have : csI x.2 y.2 ≠ 0 := fun d => hne (Prod.ext (cs_eq _ _ c) (cs_eq _ _ d))
    rw [if_neg this]
  · rw [if_neg c, if_neg c]
theorem cmp_end (l m : List At) (k : Nat) (h : ∀ j, j < k → l[j]? = m[j]?) (hk : k = l.length ∨ k = m.length) (h1 : k ≤ l.length) (h2 : k ≤ m.length) : cmpI l m = if l.length < m.length then -1 else if m.length < l.length then 1 else 0 := by
  rw [cmp_drop k l m h1 h2 h]
  rcases hk with hk | hk
  · rw [List.drop_eq_nil_of_le (by omega : l.length ≤ k)]
    by_cases c : l.length < m.length
    · rw [if_pos c, List.drop_eq_getElem_cons (by omega : k < m.length)]; rfl
    · rw [if_neg c, if_neg (by omega), List.drop_eq_nil_of_le (by omega : m.length ≤ k)]; rfl
  · rw [List.drop_eq_nil_of_le (by omega : m.length ≤ k)]
    rw [if_neg (by omega)]
    by_cases c : m.length < l.length
    · rw [if_pos c, List.drop_eq_getElem_cons (by omega : k < l.length)]; rfl
    · rw [if_neg c, List.drop_eq_nil_of_le (by omega : l.length ≤ k)]; rfl
end Go.Proofs.YtgmpmpgfpchbcaaGreatDoor
