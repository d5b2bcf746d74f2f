/- The order of lists, and what is set: the mathematics. -/
import Derived.Test.YtnfocmoieofbpaaDoorS1
namespace Go.Proofs.YtnfocmoieofbpaaDoor
open Go.RowKit
set_option linter.unusedVariables false
set_option linter.unusedSimpArgs false

theorem cs_def (a b : List UInt8) : csI a b = if a < b then -1 else if a = b then 0 else 1 := by
  unfold csI
  rw [bytesLess_eq]
  by_cases h : a < b
  · rw [if_pos (decide_eq_true h), if_pos h]
  · rw [if_neg (by simpa using h), if_neg h]
theorem cs_lt (a b : List UInt8) : csI a b < 0 ↔ a < b := by
  rw [cs_def]
  by_cases h : a < b
  · rw [if_pos h]; exact ⟨fun _ => h, fun _ => by decide⟩
  · rw [if_neg h]
    by_cases e : a = b
    · rw [if_pos e]; exact ⟨fun g => by omega, fun g => (h g).elim⟩
    · rw [if_neg e]; exact ⟨fun g => by omega, fun g => (h g).elim⟩
theorem cs_zero (a b : List UInt8) : csI a b = 0 ↔ a = b := ⟨cs_eq a b, fun e => by rw [e, cs_self]⟩
theorem cs_gt (a b : List UInt8) : 0 < csI a b ↔ b < a := by
  rw [cs_def]
  by_cases h : a < b
  · rw [if_pos h]
    exact ⟨fun g => by omega, fun g => (List.lt_irrefl _ (List.lt_trans h g)).elim⟩
  · rw [if_neg h]
    by_cases e : a = b
    · rw [if_pos e]; exact ⟨fun g => by omega, fun g => by rw [e] at g; exact (List.lt_irrefl _ g).elim⟩
    · rw [if_neg e]
      refine ⟨fun _ => ?_, fun _ => by decide⟩
      rcases lt_or a b with g | g | g
      · exact (h g).elim
      · exact (e g).elim
      · exact g
theorem cs_anti (a b : List UInt8) : csI a b = - csI b a := by
  rw [cs_def a b, cs_def b a]
  rcases lt_or a b with g | g | g
  · have h : ¬ b < a := fun k => List.lt_irrefl _ (List.lt_trans g k)
    have e : ¬ b = a := fun k => by rw [k] at g; exact List.lt_irrefl _ g
    rw [if_pos g, if_neg h, if_neg e]
  · subst g
    rw [if_neg (List.lt_irrefl _), if_pos rfl]; rfl
  · have h : ¬ a < b := fun k => List.lt_irrefl _ (List.lt_trans g k)
    have e : ¬ a = b := fun k => by rw [k] at g; exact List.lt_irrefl _ g
    rw [if_neg h, if_neg e, if_pos g]; rfl
theorem cmp_anti : ∀ a b : List At, cmpI a b = - cmpI b a
  | [], [] => rfl
  | [], _ :: _ => rfl
  | _ :: _, [] => rfl
  | x :: l, y :: m => by
    have ih := cmp_anti l m
    have h1 := cs_anti x.1 y.1
    have h2 := cs_anti x.2 y.2
    show (if csI x.1 y.1 = 0 then (if csI x.2 y.2 = 0 then cmpI l m else csI x.2 y.2) else csI x.1 y.1) = -(if csI y.1 x.1 = 0 then (if csI y.2 x.2 = 0 then cmpI m l else csI y.2 x.2) else csI y.1 x.1)
    by_cases c1 : csI x.1 y.1 = 0
    · have d1 : csI y.1 x.1 = 0 := by omega
      rw [if_pos c1, if_pos d1]
      by_cases c2 : csI x.2 y.2 = 0
      · have d2 : csI y.2 x.2 = 0 := by omega
        rw [if_pos c2, if_pos d2]; exact ih
      · have d2 : ¬ csI y.2 x.2 = 0 := by omega
        rw [if_neg c2, if_neg d2]; exact h2
    · have d1 : ¬ csI y.1 x.1 = 0 := by omega
      rw [if_neg c1, if_neg d1]; exact h1
theorem cmp_self : ∀ a : List At, cmpI a a = 0
  | [] => rfl
  | x :: l => by
    show (if csI x.1 x.1 = 0 then (if csI x.2 x.2 = 0 then cmpI l l else csI x.2 x.2) else csI x.1 x.1) = 0
    rw [if_pos (cs_self _), if_pos (cs_self _)]
    exact cmp_self l
theorem cmp_eq : ∀ a b : List At, cmpI a b = 0 → a = b
  | [], [], _ => rfl
  | [], _ :: _, h => by cases h
  | _ :: _, [], h => by cases h
  | x :: l, y :: m, h => by
    have h' : (if csI x.1 y.1 = 0 then (if csI x.2 y.2 = 0 then cmpI l m else csI x.2 y.2) else csI x.1 y.1) = 0 := h
    by_cases c1 : csI x.1 y.1 = 0
    · rw [if_pos c1] at h'
      by_cases c2 : csI x.2 y.2 = 0
      · rw [if_pos c2] at h'
        rw [cmp_eq l m h', Prod.ext (cs_eq _ _ c1) (cs_eq _ _ c2)]
      · rw [if_neg c2] at h'; exact (c2 h').elim
    · rw [if_neg c1] at h'; exact (c1 h').elim
theorem cmp_bool (a b : List At) : decide (cmpI a b = 0) = decide (a = b) := by
  rw [decide_eq_decide]
  exact ⟨cmp_eq a b, fun e => by rw [e, cmp_self]⟩
theorem cs_le (a b c : List UInt8) (h1 : csI a b ≤ 0) (h2 : csI b c ≤ 0) : csI a c ≤ 0 ∧ (csI a c = 0 → csI a b = 0 ∧ csI b c = 0) := by
  rcases lt_or a b with g | g | g
  · have hac : a < c := by
      rcases lt_or b c with k | k | k
      · exact List.lt_trans g k
      · rw [← k]; exact g
      · have := (cs_gt b c).2 k; omega
    have := (cs_lt a c).2 hac
    exact ⟨by omega, fun e => by omega⟩
  · subst g
    exact ⟨h2, fun e => ⟨cs_self _, e⟩⟩
  · have := (cs_gt a b).2 g; omega
theorem cmp_trans : ∀ a b c : List At, cmpI a b ≤ 0 → cmpI b c ≤ 0 → cmpI a c ≤ 0
  | [], _, [], _, _ => by show (0 : Int) ≤ 0; decide
  | [], _, _ :: _, _, _ => by show (-1 : Int) ≤ 0; decide
  | _ :: _, [], _, h, _ => by have h' : (1 : Int) ≤ 0 := h; omega
  | _ :: _, _ :: _, [], _, h => by have h' : (1 : Int) ≤ 0 := h; omega
  | x :: l, y :: m, z :: n, h1, h2 => by
    have ih := cmp_trans l m n
    have h1' : (if csI x.1 y.1 = 0 then (if csI x.2 y.2 = 0 then cmpI l m else csI x.2 y.2) else csI x.1 y.1) ≤ 0 := h1
    have h2' : (if csI y.1 z.1 = 0 then (if csI y.2 z.2 = 0 then cmpI m n else csI y.2 z.2) else csI y.1 z.1) ≤ 0 := h2
    show (if csI x.1 z.1 = 0 then (if csI x.2 z.2 = 0 then cmpI l n else csI x.2 z.2) else csI x.1 z.1) ≤ 0
    have k1 : csI x.1 y.1 ≤ 0 := by
      by_cases c : csI x.1 y.1 = 0
      · omega
      · rw [if_neg c] at h1'; exact h1'
    have k2 : csI y.1 z.1 ≤ 0 := by
      by_cases c : csI y.1 z.1 = 0
      · omega
      · rw [if_neg c] at h2'; exact h2'
    obtain ⟨k3, k4⟩ := cs_le _ _ _ k1 k2
    by_cases c : csI x.1 z.1 = 0
    · obtain ⟨e1, e2⟩ := k4 c
      rw [if_pos e1] at h1'
      rw [if_pos e2] at h2'
      rw [if_pos c]
      have j1 : csI x.2 y.2 ≤ 0 := by
        by_cases c : csI x.2 y.2 = 0
        · omega
        · rw [if_neg c] at h1'; exact h1'
      have j2 : csI y.2 z.2 ≤ 0 := by
        by_cases c : csI y.2 z.2 = 0
        · omega
        · rw [if_neg c] at h2'; exact h2'
      obtain ⟨j3, j4⟩ := cs_le _ _ _ j1 j2
      by_cases d : csI x.2 z.2 = 0
      · obtain ⟨f1, f2⟩ := j4 d
        rw [if_pos f1] at h1'
        rw [if_pos f2] at h2'
        rw [if_pos d]
        exact ih h1' h2'
      · rw [if_neg d]; exact j3
    · rw [if_neg c]; exact k3
/-- Of what is made a set: what it is. -/
theorem make_ok (L S : List At) (h : makeI L = (S, 0)) : L.length ≤ 16 ∧ badI L = 0 ∧ twI S = false ∧ S = srtI L := by
  unfold makeI at h
  by_cases c : 16 < L.length
  · rw [if_pos c] at h; cases h
  · rw [if_neg c] at h
    by_cases d : badI L = 0
    · rw [if_pos d] at h
      by_cases e : twI (srtI L) = true
      · rw [if_pos e] at h; cases h
      · rw [if_neg e] at h
        cases h
        exact ⟨by omega, d, by simpa using e, rfl⟩
    · rw [if_neg d] at h
      exact (d (Prod.mk.inj h).2).elim
theorem bad_of (L : List At) (h : ∀ x ∈ L, raI x = 0) : badI L = 0 := bad_end L (fun j x _ hx => h x (List.mem_of_getElem? hx))
/-- Of the same attributes in another order the same set is made. -/
theorem make_perm (L S M : List At) (h : makeI L = (S, 0)) (hp : M.Perm L) : makeI M = (S, 0) := by
  obtain ⟨h1, h2, h3, h4⟩ := make_ok L S h
  have hb : badI M = 0 := bad_of M (fun x hx => bad_all L h2 x (hp.mem_iff.1 hx))
  have hs := srt_one L (srtI M) ((srt_perm M).trans hp) (srt_srt M)
  have ht : twI (srtI M) = false := by rw [hs.1, ← h4]; exact h3
  have he : srtI M = S := by rw [h4]; exact hs.2 ht
  unfold makeI
  rw [if_neg (by have := hp.length_eq; omega), hb, if_pos rfl, if_neg (by rw [ht]; decide), he]
theorem make_set (L S : List At) (h : makeI L = (S, 0)) : makeI S = (S, 0) := make_perm L S S h (by obtain ⟨_, _, _, h4⟩ := make_ok L S h; rw [h4]; exact srt_perm L)
theorem right_set (L S : List At) (h : makeI L = (S, 0)) : rightI S = 0 := by
  unfold rightI
  rw [make_set L S h, if_pos rfl, if_pos rfl]
theorem make_keys (L S : List At) (h : makeI L = (S, 0)) : (keys S).Nodup := by
  obtain ⟨_, _, h3, h4⟩ := make_ok L S h
  exact tw_nodup S (by rw [h4]; exact srt_srt L) h3
theorem get_mem : ∀ (l : List At) (x : At), (keys l).Nodup → x ∈ l → getI l x.1 = some x.2
  | [], x, _, h => by simp at h
  | y :: l, x, hn, h => by
    have hn' : y.1 ∉ keys l ∧ (keys l).Nodup := List.nodup_cons.1 hn
    show (if y.1 = x.1 then some y.2 else getI l x.1) = _
    rcases List.mem_cons.1 h with rfl | h
    · rw [if_pos rfl]
    · have : ¬ y.1 = x.1 := fun e => hn'.1 (by rw [e]; exact List.mem_map.2 ⟨x, h, rfl⟩)
      rw [if_neg this]
      exact get_mem l x hn'.2 h
theorem get_some_mem : ∀ (l : List At) (k v : List UInt8), getI l k = some v → (k, v) ∈ l
  | [], k, v, h => by cases h
  | y :: l, k, v, h => by
    have h' : (if y.1 = k then some y.2 else getI l k) = some v := h
    by_cases c : y.1 = k
    · rw [if_pos c] at h'
      cases h'
      rw [← c]
      simp
    · rw [if_neg c] at h'
      exact List.mem_cons_of_mem _ (get_some_mem l k v h')
theorem get_none_all : ∀ (l : List At) (k : List UInt8), getI l k = none → ∀ x ∈ l, x.1 ≠ k
  | [], k, _, x, hx => by simp at hx
  | y :: l, k, h, x, hx => by
    have h' : (if y.1 = k then some y.2 else getI l k) = none := h
    by_cases c : y.1 = k
    · rw [if_pos c] at h'; cases h'
    · rw [if_neg c] at h'
      rcases List.mem_cons.1 hx with rfl | hx
      · exact c
      · exact get_none_all l k h' x hx
/-- What is set is told. -/
theorem set_tells (a : List At) (k v : List UInt8) (S : List At) (hv : v ≠ []) (h : setI a k v = (S, 0)) : getI S k = some v ∧ rightI S = 0 := by
  unfold setI at h
  rw [if_neg hv] at h
  obtain ⟨_, _, _, h4⟩ := make_ok _ _ h
  refine ⟨get_mem S (k, v) (make_keys _ _ h) ?_, right_set _ _ h⟩
  rw [h4, (srt_perm _).mem_iff]
  simp
theorem filter_perm : ∀ (a : List At) (k v : List UInt8), (keys a).Nodup → (k, v) ∈ a → (woI a [k] ++ [(k, v)]).Perm a
  | [], k, v, _, h => by simp at h
  | y :: l, k, v, hn, h => by
    have hn' : y.1 ∉ keys l ∧ (keys l).Nodup := List.nodup_cons.1 hn
    rcases List.mem_cons.1 h with rfl | h
    · have e : woI ((k, v) :: l) [k] = l := by
        unfold woI
        rw [List.filter_cons_of_neg (by simp), List.filter_eq_self.2]
        intro x hx
        have : x.1 ≠ k := fun e => hn'.1 (by show k ∈ keys l; rw [← e]; exact List.mem_map.2 ⟨x, hx, rfl⟩)
        simp [this]
      rw [e]
      exact List.perm_append_comm
    · have hk : ¬ y.1 = k := fun e => hn'.1 (by rw [e]; exact List.mem_map.2 ⟨(k, v), h, rfl⟩)
      have e : woI (y :: l) [k] = y :: woI l [k] := by
        unfold woI
        rw [List.filter_cons_of_pos (by simp [hk])]
      rw [e, List.cons_append]
      exact (filter_perm l k v hn'.2 h).cons y
/-- What is set as it is changes nothing. -/
theorem set_same (a : List At) (k : List UInt8) (h : rightI a = 0) : setI a k ((getI a k).getD []) = (a, 0) := by
  have hm : makeI a = (a, 0) := by
    unfold rightI at h
    by_cases c : (makeI a).2 = 0
    · rw [if_pos c] at h
      by_cases d : (makeI a).1 = a
      · exact Prod.ext d c
      · rw [if_neg d] at h; cases h
    · rw [if_neg c] at h; exact (c h).elim
  cases hg : getI a k with
  | none =>
    have e : woI a [k] = a := by
      unfold woI
      rw [List.filter_eq_self]
      intro x hx
      have := get_none_all a k hg x hx
      simp [this]
    show setI a k [] = _
    unfold setI
    rw [if_pos rfl, List.append_nil, e]
    exact hm
  | some v =>
    show setI a k v = _
    have hmem := get_some_mem a k v hg
    obtain ⟨_, h2, _, h4⟩ := make_ok a a hm
    have hra := bad_all a h2 _ hmem
    have hv : v ≠ [] := by
      intro e
      unfold raI at hra
      rw [e] at hra
      split at hra
      · split at hra
        · rename_i h; simp [valI] at h
        · cases hra
      · cases hra
    unfold setI
    rw [if_neg hv]
    exact make_perm a a _ hm (filter_perm a k v (make_keys a a hm) hmem)
theorem wo_wo (a : List At) (k : List UInt8) : woI (woI a [k]) [k] = woI a [k] := by
  unfold woI
  rw [List.filter_filter]
  congr 1
  funext x
  simp
end Go.Proofs.YtnfocmoieofbpaaDoor
