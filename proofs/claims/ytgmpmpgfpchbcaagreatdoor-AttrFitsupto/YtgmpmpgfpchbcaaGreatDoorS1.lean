/- Attributes in order of their keys: the mathematics of sorting. -/
import Derived.Test.YtgmpmpgfpchbcaaGreatDoorD4
import Derived.Lib.ValidU
import Derived.Shelf.SlSortCmp.Insertion
namespace Go.Proofs.YtgmpmpgfpchbcaaGreatDoor
open Go.RowKit
set_option linter.unusedVariables false
set_option linter.unusedSimpArgs false

/-- Whether a text can be a value. -/
def valI (v : List UInt8) : Bool := decide (v ≠ []) && decide (v.length ≤ 256) && Lib.validD v
/-- What is wrong of an attribute. -/
def raI (x : At) : Int := if keyI x.1 = true then (if valI x.2 = true then 0 else 41) else 40
/-- What is wrong of the first one. -/
def badI : List At → Int
  | [] => 0
  | x :: l => if raI x = 0 then badI l else raI x
theorem bad_take (l : List At) (k : Nat) (h : ∀ j x, j < k → l[j]? = some x → raI x = 0) : badI l = badI (l.drop k) := by
  induction k generalizing l with
  | zero => rfl
  | succ k ih =>
    cases l with
    | nil => rfl
    | cons x r =>
      have hx := h 0 x (by omega) rfl
      show (if raI x = 0 then badI r else raI x) = _
      rw [if_pos hx, List.drop_succ_cons]
      exact ih r fun j y hj hy => h (j + 1) y (by omega) (by simpa using hy)
theorem bad_at (l : List At) (k : Nat) (x : At) (hx : l[k]? = some x) (h : ∀ j x, j < k → l[j]? = some x → raI x = 0) (hb : raI x ≠ 0) : badI l = raI x := by
  obtain ⟨h1, h2⟩ := List.getElem?_eq_some_iff.1 hx
  rw [bad_take l k h, List.drop_eq_getElem_cons h1, h2]
  show (if raI x = 0 then _ else raI x) = _
  rw [if_neg hb]
theorem bad_end (l : List At) (h : ∀ j x, j < l.length → l[j]? = some x → raI x = 0) : badI l = 0 := by
  rw [bad_take l l.length h, List.drop_length]
  rfl
theorem bad_all (l : List At) (h : badI l = 0) : ∀ x ∈ l, raI x = 0 := by
  induction l with
  | nil => simp
  | cons y r ih =>
    have h' : (if raI y = 0 then badI r else raI y) = 0 := h
    by_cases c : raI y = 0
    · rw [if_pos c] at h'
      intro x hx
      rcases List.mem_cons.1 hx with rfl | hx
      · exact c
      · exact ih h' x hx
    · rw [if_neg c] at h'
      exact (c h').elim
/-- A key is less than another one. -/
def klt (x y : At) : Bool := Op.bytesLess x.1 y.1
theorem klt_eq (x y : At) : klt x y = decide (x.1 < y.1) := bytesLess_eq _ _
theorem lt_or (a b : List UInt8) : a < b ∨ a = b ∨ b < a := by
  by_cases h : a < b
  · exact .inl h
  by_cases g : b < a
  · exact .inr (.inr g)
  · exact .inr (.inl (List.le_antisymm (List.not_lt.1 g) (List.not_lt.1 h)))
theorem klt_swo : Sort.SWO klt := by
  refine ⟨fun x => ?_, fun x y z h1 h2 => ?_, fun x y z h1 h2 => ?_⟩
  · rw [klt_eq]; exact decide_eq_false (List.lt_irrefl _)
  · rw [klt_eq] at h1 h2 ⊢
    exact decide_eq_true (List.lt_trans (of_decide_eq_true h1) (of_decide_eq_true h2))
  · rw [klt_eq] at h1 h2 ⊢
    have a1 := of_decide_eq_false h1
    have a2 := of_decide_eq_false h2
    exact decide_eq_false (List.not_lt.2 (List.le_trans (List.not_lt.1 a2) (List.not_lt.1 a1)))
/-- None behind another one is less. -/
def Srt (l : List At) : Prop := l.Pairwise fun x y => klt y x = false
def keys (l : List At) : List (List UInt8) := l.map Prod.fst
/-- Two beside one another have one key. -/
def twI : List At → Bool
  | [] => false
  | x :: l => (match l with | [] => false | y :: _ => decide (y.1 = x.1)) || twI l
theorem tw_at : ∀ (l : List At) (k : Nat) (x y : At), l[k]? = some x → l[k + 1]? = some y → y.1 = x.1 → twI l = true
  | [], k, x, y, h, _, _ => by simp at h
  | [z], 0, x, y, h, g, e => by simp at g
  | [z], k + 1, x, y, h, g, e => by simp at h
  | z :: u :: l, 0, x, y, h, g, e => by
    simp at h g
    subst h; subst g
    simp [twI, e]
  | z :: u :: l, k + 1, x, y, h, g, e => by
    have := tw_at (u :: l) k x y (by simpa using h) (by simpa using g) e
    show (_ || twI (u :: l)) = true
    rw [this, Bool.or_true]
theorem tw_no : ∀ (l : List At), (∀ k x y, l[k]? = some x → l[k + 1]? = some y → y.1 ≠ x.1) → twI l = false
  | [], h => rfl
  | [z], h => rfl
  | z :: u :: l, h => by
    have h0 := h 0 z u rfl rfl
    have := tw_no (u :: l) (fun k x y hx hy => h (k + 1) x y (by simpa using hx) (by simpa using hy))
    show (decide (u.1 = z.1) || twI (u :: l)) = false
    rw [this, Bool.or_false]
    exact decide_eq_false h0
theorem tw_nodup : ∀ (l : List At), Srt l → twI l = false → (keys l).Nodup
  | [], _, _ => by simp [keys]
  | [z], _, _ => by simp [keys]
  | z :: u :: l, hs, ht => by
    have ht' : (decide (u.1 = z.1) || twI (u :: l)) = false := ht
    rw [Bool.or_eq_false_iff] at ht'
    have hne := of_decide_eq_false ht'.1
    have hs2 : Srt (u :: l) := (List.pairwise_cons.1 hs).2
    have ih := tw_nodup (u :: l) hs2 ht'.2
    have hz := (List.pairwise_cons.1 hs).1
    have hu := (List.pairwise_cons.1 hs2).1
    have zu : z.1 < u.1 := by
      have h1 := hz u (by simp)
      rw [klt_eq] at h1
      have h1 := of_decide_eq_false h1
      rcases lt_or z.1 u.1 with h | h | h
      · exact h
      · exact (hne h.symm).elim
      · exact (h1 h).elim
    show (z.1 :: keys (u :: l)).Nodup
    rw [List.nodup_cons]
    refine ⟨fun hm => ?_, ih⟩
    obtain ⟨v, hv, he⟩ := List.mem_map.1 hm
    have : z.1 < v.1 := by
      rcases List.mem_cons.1 hv with rfl | hv
      · exact zu
      · have h2 := hu v hv
        rw [klt_eq] at h2
        have h2 := of_decide_eq_false h2
        rcases lt_or u.1 v.1 with h | h | h
        · exact List.lt_trans zu h
        · rw [← h]; exact zu
        · exact (h2 h).elim
    rw [he] at this
    exact List.lt_irrefl _ this
theorem nodup_tw (l : List At) (h : (keys l).Nodup) : twI l = false := by
  refine tw_no l fun k x y hx hy e => ?_
  have h1 : (keys l)[k]? = some x.1 := by unfold keys; rw [List.getElem?_map, hx]; rfl
  have h2 : (keys l)[k + 1]? = some y.1 := by unfold keys; rw [List.getElem?_map, hy]; rfl
  obtain ⟨a1, a2⟩ := List.getElem?_eq_some_iff.1 h1
  obtain ⟨b1, b2⟩ := List.getElem?_eq_some_iff.1 h2
  have := (List.nodup_iff_pairwise_ne.1 h)
  have := List.pairwise_iff_getElem.1 this k (k + 1) a1 b1 (by omega)
  rw [a2, b2] at this
  exact this e.symm
/-- Where a key goes, from behind. -/
def bkI (out : List At) (x : At) : Nat → Nat
  | 0 => 0
  | k + 1 => if (match out[k]? with | some y => klt x y | none => false) = true then bkI out x k else k + 1
def insI (out : List At) (x : At) : List At := out.take (bkI out x out.length) ++ x :: out.drop (bkI out x out.length)
def srtI (l : List At) : List At := l.foldl insI []
theorem bk_le (out : List At) (x : At) : ∀ k, bkI out x k ≤ k
  | 0 => Nat.le_refl _
  | k + 1 => by
    show (if (match out[k]? with | some y => klt x y | none => false) = true then bkI out x k else k + 1) ≤ _
    generalize (match out[k]? with | some y => klt x y | none => false) = b
    cases b
    · exact Nat.le_refl _
    · exact Nat.le_succ_of_le (bk_le out x k)
theorem bk_yes (out : List At) (x : At) (k : Nat) (y : At) (hy : out[k]? = some y) (h : klt x y = true) : bkI out x (k + 1) = bkI out x k := by
  show (if (match out[k]? with | some y => klt x y | none => false) = true then bkI out x k else k + 1) = _
  rw [hy]
  exact if_pos h
theorem bk_no (out : List At) (x : At) (k : Nat) (y : At) (hy : out[k]? = some y) (h : klt x y = false) : bkI out x (k + 1) = k + 1 := by
  show (if (match out[k]? with | some y => klt x y | none => false) = true then bkI out x k else k + 1) = _
  rw [hy]
  exact if_neg (by simp [h])
theorem bk_above (out : List At) (x : At) : ∀ k j y, bkI out x k ≤ j → j < k → out[j]? = some y → klt x y = true
  | 0, j, y, _, h, _ => by omega
  | k + 1, j, y, h1, h2, h3 => by
    have hk : k < out.length ∨ out.length ≤ k := by omega
    rcases hk with hk | hk
    · have hz : out[k]? = some out[k] := List.getElem?_eq_getElem hk
      by_cases c : klt x out[k] = true
      · rw [bk_yes out x k _ hz c] at h1
        by_cases e : j = k
        · subst e
          rw [hz] at h3
          cases h3
          exact c
        · exact bk_above out x k j y h1 (by omega) h3
      · rw [bk_no out x k _ hz (by simpa using c)] at h1
        omega
    · have hj : j < out.length := (List.getElem?_eq_some_iff.1 h3).1
      have e : bkI out x (k + 1) = k + 1 := by
        show (if (match out[k]? with | some y => klt x y | none => false) = true then bkI out x k else k + 1) = _
        rw [List.getElem?_eq_none hk]
        exact if_neg (by simp)
      omega
theorem bk_below (out : List At) (x : At) : ∀ k y, 0 < bkI out x k → k ≤ out.length → out[bkI out x k - 1]? = some y → klt x y = false
  | 0, y, h, _, _ => by simp [bkI] at h
  | k + 1, y, h1, h2, h3 => by
    have hz : out[k]? = some out[k] := List.getElem?_eq_getElem (by omega)
    by_cases c : klt x out[k] = true
    · rw [bk_yes out x k _ hz c] at h1 h3
      exact bk_below out x k y h1 (by omega) h3
    · rw [bk_no out x k _ hz (by simpa using c)] at h3
      rw [show k + 1 - 1 = k by omega, hz] at h3
      cases h3
      simpa using c
theorem ins_perm (out : List At) (x : At) : (insI out x).Perm (x :: out) := by
  unfold insI
  refine List.perm_middle.trans ?_
  rw [List.take_append_drop]
theorem ins_len (out : List At) (x : At) : (insI out x).length = out.length + 1 := (ins_perm out x).length_eq
theorem ins_srt (out : List At) (x : At) (h : Srt out) : Srt (insI out x) := by
  have hle := bk_le out x out.length
  have hab := bk_above out x out.length
  have hbe := bk_below out x out.length
  unfold insI
  generalize bkI out x out.length = k at hle hab hbe
  have h1 : ∀ a ∈ out.take k, klt x a = false := by
    intro a ha
    obtain ⟨j, hj⟩ := List.getElem?_of_mem ha
    have hjk : j < k := by
      have := (List.getElem?_eq_some_iff.1 hj).1
      rw [List.length_take] at this
      omega
    have hja : out[j]? = some a := by rw [List.getElem?_take] at hj; rw [if_pos hjk] at hj; exact hj
    have hz : out[k - 1]? = some (out[k - 1]'(by omega)) := List.getElem?_eq_getElem (by omega)
    have hx := hbe _ (by omega) (Nat.le_refl _) hz
    by_cases e : j = k - 1
    · subst e
      rw [hz] at hja
      cases hja
      exact hx
    · obtain ⟨a1, a2⟩ := List.getElem?_eq_some_iff.1 hja
      have := List.pairwise_iff_getElem.1 h j (k - 1) a1 (by omega) (by omega)
      rw [a2] at this
      exact klt_swo.ntrans _ _ _ hx this
  have h2 : ∀ b ∈ out.drop k, klt x b = true := by
    intro b hb
    obtain ⟨j, hj⟩ := List.getElem?_of_mem hb
    rw [List.getElem?_drop] at hj
    exact hab (k + j) b (by omega) (List.getElem?_eq_some_iff.1 hj).1 hj
  have hsp : Srt (out.take k ++ out.drop k) := by rw [List.take_append_drop]; exact h
  unfold Srt at hsp ⊢
  rw [List.pairwise_append] at hsp ⊢
  refine ⟨hsp.1, List.pairwise_cons.2 ⟨fun b hb => ?_, hsp.2.1⟩, fun a ha b hb => ?_⟩
  · have := h2 b hb
    rw [klt_eq] at this ⊢
    exact decide_eq_false (fun g => List.lt_irrefl _ (List.lt_trans g (of_decide_eq_true this)))
  · rcases List.mem_cons.1 hb with rfl | hb
    · exact h1 a ha
    · exact hsp.2.2 a ha b hb
theorem fold_perm : ∀ (l out : List At), (l.foldl insI out).Perm (out ++ l)
  | [], out => by simp
  | x :: l, out => by
    refine (fold_perm l (insI out x)).trans ?_
    refine ((ins_perm out x).append_right l).trans ?_
    exact List.perm_middle.symm
theorem fold_srt : ∀ (l out : List At), Srt out → Srt (l.foldl insI out)
  | [], out, h => h
  | x :: l, out, h => fold_srt l (insI out x) (ins_srt out x h)
theorem srt_perm (l : List At) : (srtI l).Perm l := by have h := fold_perm l []; rw [List.nil_append] at h; exact h
theorem srt_srt (l : List At) : Srt (srtI l) := fold_srt l [] List.Pairwise.nil
theorem srt_len (l : List At) : (srtI l).length = l.length := (srt_perm l).length_eq
theorem srt_snoc (l : List At) (k : Nat) (x : At) (h : l[k]? = some x) : srtI (l.take (k + 1)) = insI (srtI (l.take k)) x := by
  obtain ⟨h1, h2⟩ := List.getElem?_eq_some_iff.1 h
  unfold srtI
  rw [List.take_succ_eq_append_getElem h1, h2, List.foldl_append]
  rfl
/-- Whatever is in order of the same attributes: that one, if no key stands twice; else two stand beside one another in both. -/
theorem srt_one (l d : List At) (hp : d.Perm l) (hs : Srt d) : twI d = twI (srtI l) ∧ (twI d = false → d = srtI l) := by
  have hpp : d.Perm (srtI l) := hp.trans (srt_perm l).symm
  have hk : (keys d).Perm (keys (srtI l)) := hpp.map _
  constructor
  · rw [Bool.eq_iff_iff]
    constructor
    · intro h
      by_cases c : twI (srtI l) = true
      · exact c
      · have := tw_nodup _ (srt_srt l) (by simpa using c)
        have := nodup_tw d (hk.nodup_iff.2 this)
        rw [this] at h
        cases h
    · intro h
      by_cases c : twI d = true
      · exact c
      · have := tw_nodup _ hs (by simpa using c)
        have := nodup_tw (srtI l) (hk.nodup_iff.1 this)
        rw [this] at h
        cases h
  · intro h
    have hn := tw_nodup d hs h
    refine List.Perm.eq_of_pairwise (le := fun x y => klt y x = false) (fun a b ha hb h1 h2 => ?_) hs (srt_srt l) hpp
    have hb' : b ∈ d := hpp.mem_iff.2 hb
    have e : a.1 = b.1 := by
      rw [klt_eq] at h1 h2
      rcases lt_or a.1 b.1 with g | g | g
      · exact ((of_decide_eq_false h2) g).elim
      · exact g
      · exact ((of_decide_eq_false h1) g).elim
    obtain ⟨i, hi⟩ := List.getElem?_of_mem ha
    obtain ⟨j, hj⟩ := List.getElem?_of_mem hb'
    have k1 : (keys d)[i]? = some a.1 := by unfold keys; rw [List.getElem?_map, hi]; rfl
    have k2 : (keys d)[j]? = some a.1 := by unfold keys; rw [List.getElem?_map, hj, e]; rfl
    obtain ⟨a1, a2⟩ := List.getElem?_eq_some_iff.1 k1
    obtain ⟨b1, b2⟩ := List.getElem?_eq_some_iff.1 k2
    have : i = j := by
      rcases Nat.lt_trichotomy i j with g | g | g
      · have := List.pairwise_iff_getElem.1 (List.nodup_iff_pairwise_ne.1 hn) i j a1 b1 g
        rw [a2, b2] at this
        exact (this rfl).elim
      · exact g
      · have := List.pairwise_iff_getElem.1 (List.nodup_iff_pairwise_ne.1 hn) j i b1 a1 g
        rw [a2, b2] at this
        exact (this rfl).elim
    subst this
    rw [hi] at hj
    exact Option.some.inj hj
/-- The set of attributes, and what is wrong. -/
def makeI (l : List At) : List At × Int := if 16 < l.length then ([], 7) else if badI l = 0 then (if twI (srtI l) = true then ([], 6) else (srtI l, 0)) else ([], badI l)
/-- What is wrong of a set. -/
def rightI (l : List At) : Int := if (makeI l).2 = 0 then (if (makeI l).1 = l then 0 else 3) else (makeI l).2
/-- With a key's value. -/
def setI (l : List At) (k v : List UInt8) : List At × Int := makeI (woI l [k] ++ if v = [] then [] else [(k, v)])
end Go.Proofs.YtgmpmpgfpchbcaaGreatDoor
