/- Right UTF-8, byte by byte. -/
import Derived.Test.YtgmpmpgfpchbcaaGreatDoorD4
import Derived.Lib.ValidLaws
namespace Go.Proofs.YtgmpmpgfpchbcaaGreatDoor
open Go.RowKit
set_option linter.unusedVariables false
set_option linter.unusedSimpArgs false

/-- Of a first byte: how many follow it, and within which bounds the next one is. -/
def leadN (c : Nat) : Option (Nat × Nat × Nat) := if c < 128 then some (0, 128, 191) else if 194 ≤ c ∧ c ≤ 223 then some (1, 128, 191) else if 224 ≤ c ∧ c ≤ 239 then some (2, (if c = 224 then 160 else 128), (if c = 237 then 159 else 191)) else if 240 ≤ c ∧ c ≤ 244 then some (3, (if c = 240 then 144 else 128), (if c = 244 then 143 else 191)) else none
def clsOk (c : Nat) : Bool := match leadN c with
  | none => decide (Lib.firstT c % 8 ≠ 2 ∧ Lib.firstT c % 8 ≠ 3 ∧ Lib.firstT c % 8 ≠ 4)
  | some (n, lo, hi) => decide (Lib.firstT c % 8 = n + 1 ∧ 1 ≤ n ∧ n ≤ 3 ∧ Lib.accLo (Lib.firstT c / 16) = lo ∧ Lib.accHi (Lib.firstT c / 16) = hi)
theorem cls : ∀ c : Fin 256, 128 ≤ c.val → clsOk c.val = true := by decide +kernel
theorem drop_getD (l : List UInt8) (i j : Nat) : (l.drop i).getD j 0 = l.getD (i + j) 0 := by simp [List.getD_eq_getElem?_getD, List.getElem?_drop]
theorem getD_at (l : List UInt8) (i : Nat) (c : UInt8) (h : l[i]? = some c) : l.getD i 0 = c := by simp [List.getD_eq_getElem?_getD, h]
theorem lead_big (l : List UInt8) (i : Nat) (c : UInt8) (hc : l[i]? = some c) (h : 128 ≤ c.toNat) : Lib.validD (l.drop i) = match Lib.checkN (l.length - i) (l.getD (i + 1) 0).toNat (l.getD (i + 2) 0).toNat (l.getD (i + 3) 0).toNat (Lib.firstT c.toNat % 8) (Lib.accLo (Lib.firstT c.toNat / 16)) (Lib.accHi (Lib.firstT c.toNat / 16)) with
      | none => false
      | some k => Lib.validD (l.drop (i + k)) := by
  have hi : i < l.length := (List.getElem?_eq_some_iff.1 hc).1
  have h0 : (l.drop i).getD 0 0 = c := by rw [drop_getD]; exact getD_at l i c hc
  have hne : l.drop i ≠ [] := fun e => by have := congrArg List.length e; rw [List.length_drop] at this; simp at this; omega
  rw [Lib.validD_lead (l.drop i) hne (by rw [h0]; exact h), h0, drop_getD, drop_getD, drop_getD, List.length_drop]
  generalize Lib.checkN _ _ _ _ _ _ _ = o
  cases o with
  | none => rfl
  | some k => show Lib.validD ((l.drop i).drop k) = _; rw [List.drop_drop]
theorem lead_small (l : List UInt8) (i : Nat) (c : UInt8) (hc : l[i]? = some c) (h : c.toNat < 128) : Lib.validD (l.drop i) = Lib.validD (l.drop (i + 1)) := by
  obtain ⟨h1, h2⟩ := List.getElem?_eq_some_iff.1 hc
  rw [List.drop_eq_getElem_cons h1, h2]
  exact Lib.validD_cons c _ h
theorem lead_none (l : List UInt8) (i : Nat) (c : UInt8) (hc : l[i]? = some c) (h : leadN c.toNat = none) : Lib.validD (l.drop i) = false := by
  have hb : 128 ≤ c.toNat := by
    by_cases g : c.toNat < 128
    · unfold leadN at h; rw [if_pos g] at h; cases h
    · omega
  have hk := cls ⟨c.toNat, c.toNat_lt⟩ hb
  unfold clsOk at hk
  simp only [h, decide_eq_true_eq] at hk
  rw [lead_big l i c hc hb]
  unfold Lib.checkN
  rw [if_neg hk.1, if_neg hk.2.1, if_neg hk.2.2]
theorem lead_some (l : List UInt8) (i : Nat) (c : UInt8) (n lo hi : Nat) (hc : l[i]? = some c) (h : leadN c.toNat = some (n, lo, hi)) : (n = 0 ∧ Lib.validD (l.drop i) = Lib.validD (l.drop (i + 1))) ∨ (n = 1 ∧ Lib.validD (l.drop i) = if l.length - i < 2 ∨ (l.getD (i + 1) 0).toNat < lo ∨ hi < (l.getD (i + 1) 0).toNat then false else Lib.validD (l.drop (i + 2))) ∨
    (n = 2 ∧ Lib.validD (l.drop i) = if l.length - i < 3 ∨ (l.getD (i + 1) 0).toNat < lo ∨ hi < (l.getD (i + 1) 0).toNat ∨ (l.getD (i + 2) 0).toNat < 128 ∨ 191 < (l.getD (i + 2) 0).toNat then false else Lib.validD (l.drop (i + 3))) ∨
    (n = 3 ∧ Lib.validD (l.drop i) = if l.length - i < 4 ∨ (l.getD (i + 1) 0).toNat < lo ∨ hi < (l.getD (i + 1) 0).toNat ∨ (l.getD (i + 2) 0).toNat < 128 ∨ 191 < (l.getD (i + 2) 0).toNat ∨ (l.getD (i + 3) 0).toNat < 128 ∨ 191 < (l.getD (i + 3) 0).toNat then false else Lib.validD (l.drop (i + 4))) := by
  by_cases g : c.toNat < 128
  · left
    have h' := h
    unfold leadN at h'
    rw [if_pos g] at h'
    cases h'
    exact ⟨rfl, lead_small l i c hc g⟩
  · right
    have hb : 128 ≤ c.toNat := by omega
    have hk := cls ⟨c.toNat, c.toNat_lt⟩ hb
    unfold clsOk at hk
    simp only [h, decide_eq_true_eq] at hk
    obtain ⟨k1, k2, k3, k4, k5⟩ := hk
    rw [lead_big l i c hc hb, k1, k4, k5]
    unfold Lib.checkN
    rcases (by omega : n = 1 ∨ n = 2 ∨ n = 3) with rfl | rfl | rfl
    · left
      refine ⟨rfl, ?_⟩
      rw [if_pos rfl]
      by_cases q : l.length - i < 2 ∨ (l.getD (i + 1) 0).toNat < lo ∨ hi < (l.getD (i + 1) 0).toNat
      · rw [if_pos q, if_pos q]
      · rw [if_neg q, if_neg q]
    · right; left
      refine ⟨rfl, ?_⟩
      rw [if_neg (by omega), if_pos rfl]
      by_cases q : l.length - i < 3 ∨ (l.getD (i + 1) 0).toNat < lo ∨ hi < (l.getD (i + 1) 0).toNat ∨ (l.getD (i + 2) 0).toNat < 128 ∨ 191 < (l.getD (i + 2) 0).toNat
      · rw [if_pos q, if_pos q]
      · rw [if_neg q, if_neg q]
    · right; right
      refine ⟨rfl, ?_⟩
      rw [if_neg (by omega), if_neg (by omega), if_pos rfl]
      by_cases q : l.length - i < 4 ∨ (l.getD (i + 1) 0).toNat < lo ∨ hi < (l.getD (i + 1) 0).toNat ∨ (l.getD (i + 2) 0).toNat < 128 ∨ 191 < (l.getD (i + 2) 0).toNat ∨ (l.getD (i + 3) 0).toNat < 128 ∨ 191 < (l.getD (i + 3) 0).toNat
      · rw [if_pos q, if_pos q]
      · rw [if_neg q, if_neg q]
theorem lead_short (l : List UInt8) (i : Nat) (c : UInt8) (n lo hi : Nat) (hc : l[i]? = some c) (h : leadN c.toNat = some (n, lo, hi)) (hs : l.length ≤ i + n) : Lib.validD (l.drop i) = false := by
  have hi' : i < l.length := (List.getElem?_eq_some_iff.1 hc).1
  rcases lead_some l i c n lo hi hc h with ⟨rfl, e⟩ | ⟨rfl, e⟩ | ⟨rfl, e⟩ | ⟨rfl, e⟩
  · omega
  all_goals (rw [e, if_pos (.inl (by omega))])
/-- The bounds of the byte k behind a first one. -/
def loK (lo k : Nat) : Nat := if k = 1 then lo else 128
def hiK (hi k : Nat) : Nat := if k = 1 then hi else 191
theorem lead_no (l : List UInt8) (i : Nat) (c : UInt8) (n lo hi : Nat) (hc : l[i]? = some c) (h : leadN c.toNat = some (n, lo, hi)) (k : Nat) (k1 : 1 ≤ k) (k2 : k ≤ n) (b : UInt8) (hb : l[i + k]? = some b) (hbad : b.toNat < loK lo k ∨ hiK hi k < b.toNat) : Lib.validD (l.drop i) = false := by
  have hb' := getD_at l (i + k) b hb
  unfold loK hiK at hbad
  rcases lead_some l i c n lo hi hc h with ⟨rfl, e⟩ | ⟨rfl, e⟩ | ⟨rfl, e⟩ | ⟨rfl, e⟩
  · omega
  · obtain rfl : k = 1 := by omega
    rw [if_pos rfl, if_pos rfl] at hbad
    rw [e, hb', if_pos (by omega)]
  · rcases (by omega : k = 1 ∨ k = 2) with rfl | rfl
    · rw [if_pos rfl, if_pos rfl] at hbad
      rw [e, hb', if_pos (by omega)]
    · rw [if_neg (by omega), if_neg (by omega)] at hbad
      rw [e, hb', if_pos (by omega)]
  · rcases (by omega : k = 1 ∨ k = 2 ∨ k = 3) with rfl | rfl | rfl
    · rw [if_pos rfl, if_pos rfl] at hbad
      rw [e, hb', if_pos (by omega)]
    · rw [if_neg (by omega), if_neg (by omega)] at hbad
      rw [e, hb', if_pos (by omega)]
    · rw [if_neg (by omega), if_neg (by omega)] at hbad
      rw [e, hb', if_pos (by omega)]
theorem lead_yes (l : List UInt8) (i : Nat) (c : UInt8) (n lo hi : Nat) (hc : l[i]? = some c) (h : leadN c.toNat = some (n, lo, hi)) (hs : i + n < l.length) (hok : ∀ k b, 1 ≤ k → k ≤ n → l[i + k]? = some b → loK lo k ≤ b.toNat ∧ b.toNat ≤ hiK hi k) : Lib.validD (l.drop i) = Lib.validD (l.drop (i + n + 1)) := by
  have hg : ∀ k, k ≤ n → l[i + k]? = some (l.getD (i + k) 0) := fun k hk => by
    rw [List.getD_eq_getElem?_getD, List.getElem?_eq_getElem (by omega)]
    rfl
  unfold loK hiK at hok
  rcases lead_some l i c n lo hi hc h with ⟨rfl, e⟩ | ⟨rfl, e⟩ | ⟨rfl, e⟩ | ⟨rfl, e⟩
  · exact e
  · have h1 := hok 1 _ (by omega) (by omega) (hg 1 (by omega))
    simp only [if_true] at h1
    rw [e, if_neg (by omega)]
  · have h1 := hok 1 _ (by omega) (by omega) (hg 1 (by omega))
    have h2 := hok 2 _ (by omega) (by omega) (hg 2 (by omega))
    simp only [if_true, if_false, Nat.reduceEqDiff] at h1 h2
    rw [e, if_neg (by omega)]
  · have h1 := hok 1 _ (by omega) (by omega) (hg 1 (by omega))
    have h2 := hok 2 _ (by omega) (by omega) (hg 2 (by omega))
    have h3 := hok 3 _ (by omega) (by omega) (hg 3 (by omega))
    simp only [if_true, if_false, Nat.reduceEqDiff] at h1 h2 h3
    rw [e, if_neg (by omega)]
theorem lead_bounds (c n lo hi : Nat) (h : leadN c = some (n, lo, hi)) : n ≤ 3 ∧ lo < 256 ∧ hi < 256 := by
  unfold leadN at h
  repeat' split at h
  all_goals first | (cases h; done) | (cases h; omega)
end Go.Proofs.YtgmpmpgfpchbcaaGreatDoor
