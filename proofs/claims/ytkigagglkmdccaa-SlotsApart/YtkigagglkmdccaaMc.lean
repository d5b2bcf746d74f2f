/- The jobs in fixed turns: one line is turned, one is added, one goes. -/
import Derived.Test.YtkigagglkmdccaaMb
namespace Go.Proofs.Ytkigagglkmdccaa
open Go.RowKit
set_option linter.unusedVariables false
set_option linter.unusedSimpArgs false

theorem map_set_same {α β : Type} (f : α → β) : ∀ (ls : List α) (j : Nat) (l l' : α), ls[j]? = some l → f l' = f l → (ls.set j l').map f = ls.map f
  | [], _, _, _, _, _ => rfl
  | a :: r, 0, l, l', h, e => by
    have : a = l := by simpa using h
    subst this
    simp [e]
  | a :: r, j + 1, l, l', h, e => by
    have h' : r[j]? = some l := by simpa using h
    simp only [List.set_cons_succ, List.map_cons]
    rw [map_set_same f r j l l' h' e]
theorem set_get {α : Type} {ls : List α} {j i : Nat} {l' m : α} (h : (ls.set j l')[i]? = some m) : (i = j ∧ m = l') ∨ (i ≠ j ∧ ls[i]? = some m) := by
  by_cases e : i = j
  · subst e
    by_cases k : i < ls.length
    · rw [List.getElem?_set_self k] at h
      exact .inl ⟨rfl, by simpa using h.symm⟩
    · rw [List.getElem?_eq_none (by simpa using Nat.le_of_not_lt k)] at h
      cases h
  · rw [List.getElem?_set_ne (Ne.symm e)] at h
    exact .inr ⟨e, h⟩
theorem MR.turn {w w' : World} {B c j : Nat} {ls : List Lf} {l l' : Lf} (h : MR w B c ls) (hj : ls[j]? = some l) (he : l'.en = l.en) (hp : PQ w' l'.q l'.F 16 l'.ps) (hm : l'.ts ≠ []) (ht : ∀ t ∈ l'.ts, TkAt w' t) (hnew : ∀ t ∈ l'.ts, t.p ∈ l.ps ∨ ¬ MF B ls t.p) (hto : l'.ps.Nodup)
    (hk : ∀ q, MF B ls q → ¬ l.F q → q ∉ l.ps → w'.heap[q]? = w.heap[q]?) (hg : ∀ q, l'.F q → l.F q ∨ ¬ MF B ls q) : MR w' B c (ls.set j l') := by
  have hl := List.mem_of_getElem? hj
  have hmem : ∀ m ∈ ls.set j l', m = l' ∨ ∃ i, i ≠ j ∧ ls[i]? = some m := fun m hm => by
    obtain ⟨i, hi⟩ := List.getElem?_of_mem hm
    rcases set_get hi with ⟨_, h2⟩ | ⟨h1, h2⟩
    · exact .inl h2
    · exact .inr ⟨i, h1, h2⟩
  have hps : ∀ {q}, q ∈ l.ps → ∃ t ∈ l.ts, t.p = q := fun hq => by simpa [Lf.ps] using hq
  have hoF : ∀ i m, i ≠ j → ls[i]? = some m → ∀ q, m.F q → w'.heap[q]? = w.heap[q]? := fun i m hi hm q hq => by
    have hmm := List.mem_of_getElem? hm
    refine hk q (.inr (.inl ⟨m, hmm, hq⟩)) (h.ap i j m l hm hj hi q hq) fun k => ?_
    obtain ⟨t, h1, rfl⟩ := hps k
    exact h.t_ne_q hl hmm h1 hq
  have hoT : ∀ i m, i ≠ j → ls[i]? = some m → ∀ t ∈ m.ts, w'.heap[t.p]? = w.heap[t.p]? := fun i m hi hm t ht => by
    have hmm := List.mem_of_getElem? hm
    refine hk t.p (.inr (.inr (mem_tps.2 ⟨m, hmm, t, ht, rfl⟩))) (h.t_ne_q hmm hl ht) fun k => ?_
    obtain ⟨u, h1, h2⟩ := hps k
    exact h.tp i j m l hm hj hi t ht u h1 h2.symm
  refine ⟨?_, ?_, ?_, ?_, ?_, ?_, ?_, ?_⟩
  · unfold MapAt
    rw [map_set_same Lf.en ls j l l' hj he, hk B (.inl rfl) (fun k => h.q_ne_map hl k rfl) fun k => by
      obtain ⟨t, h1, h2⟩ := hps k
      exact h.t_ne_map hl h1 h2]
    exact h.map
  · intro m hmm
    rcases hmem m hmm with rfl | ⟨i, hi, hm⟩
    · exact hp
    · exact (h.qs m (List.mem_of_getElem? hm)).at' (hoF i m hi hm)
  · intro m hmm t htm
    rcases hmem m hmm with rfl | ⟨i, hi, hm⟩
    · exact ht t htm
    · exact (hoT i m hi hm t htm).trans (h.tk m (List.mem_of_getElem? hm) t htm)
  · intro m hmm
    rcases hmem m hmm with rfl | ⟨i, hi, hm⟩
    · exact hm
    · exact h.more m (List.mem_of_getElem? hm)
  · rw [map_set_same Lf.nm ls j l l' hj (congrArg En.nm he)]
    exact h.nm
  · have one : ∀ i m, i ≠ j → ls[i]? = some m → ∀ q, l'.F q → ¬ m.F q := fun i m hi hm q hq k => by
      rcases hg q hq with h' | h'
      · exact h.ap i j m l hm hj hi q k h'
      · exact h' (.inr (.inl ⟨m, List.mem_of_getElem? hm, k⟩))
    intro i k a b ha hb hik q hq hq2
    rcases set_get ha with ⟨rfl, rfl⟩ | ⟨h1, h2⟩
    · rcases set_get hb with ⟨rfl, _⟩ | ⟨h3, h4⟩
      · exact hik rfl
      · exact one k b h3 h4 q hq hq2
    · rcases set_get hb with ⟨rfl, rfl⟩ | ⟨h3, h4⟩
      · exact one i a h1 h2 q hq2 hq
      · exact h.ap i k a b h2 h4 hik q hq hq2
  · have one : ∀ i m, i ≠ j → ls[i]? = some m → ∀ t ∈ l'.ts, ∀ u ∈ m.ts, t.p ≠ u.p := fun i m hi hm t ht u hu k => by
      rcases hnew t ht with h' | h'
      · obtain ⟨v, h1, h2⟩ := hps h'
        exact h.tp i j m l hm hj hi u hu v h1 (k.symm.trans h2.symm)
      · exact h' (.inr (.inr (mem_tps.2 ⟨m, List.mem_of_getElem? hm, u, hu, k.symm⟩)))
    intro i k a b ha hb hik t ht1 u hu
    rcases set_get ha with ⟨rfl, rfl⟩ | ⟨h1, h2⟩
    · rcases set_get hb with ⟨rfl, _⟩ | ⟨h3, h4⟩
      · exact absurd rfl hik
      · exact one k b h3 h4 t ht1 u hu
    · rcases set_get hb with ⟨rfl, rfl⟩ | ⟨h3, h4⟩
      · exact fun e => one i a h1 h2 u hu t ht1 e.symm
      · exact h.tp i k a b h2 h4 hik t ht1 u hu
  · intro m hmm
    rcases hmem m hmm with rfl | ⟨i, hi, hm⟩
    · exact hto
    · exact h.tn m (List.mem_of_getElem? hm)
/-- What the turned lines' blocks are. -/
theorem MF.turn {B j : Nat} {ls : List Lf} {l l' : Lf} (hj : ls[j]? = some l) {q : Nat} (hq : MF B (ls.set j l') q) : MF B ls q ∨ l'.F q ∨ q ∈ l'.ps := by
  rcases hq with rfl | ⟨m, hm, hq⟩ | hq
  · exact .inl (.inl rfl)
  · obtain ⟨i, hi⟩ := List.getElem?_of_mem hm
    rcases set_get hi with ⟨_, rfl⟩ | ⟨h1, h2⟩
    · exact .inr (.inl hq)
    · exact .inl (.inr (.inl ⟨m, List.mem_of_getElem? h2, hq⟩))
  · obtain ⟨m, hm, t, ht, rfl⟩ := mem_tps.1 hq
    obtain ⟨i, hi⟩ := List.getElem?_of_mem hm
    rcases set_get hi with ⟨_, rfl⟩ | ⟨h1, h2⟩
    · exact .inr (.inr (List.mem_map.2 ⟨t, ht, rfl⟩))
    · exact .inl (.inr (.inr (mem_tps.2 ⟨m, List.mem_of_getElem? h2, t, ht, rfl⟩)))
/-- One line more. -/
theorem MR.add {w w' : World} {B c : Nat} {ls : List Lf} {l : Lf} (h : MR w B c ls) (hn : l.nm ∉ ls.map Lf.nm) (hmap : MapAt w' B ((ls ++ [l]).map Lf.en) (c + 1)) (hp : PQ w' l.q l.F 16 l.ps) (hm : l.ts ≠ []) (ht : ∀ t ∈ l.ts, TkAt w' t) (hto : l.ps.Nodup)
    (hk : ∀ q, MF B ls q → q ≠ B → w'.heap[q]? = w.heap[q]?) (hF : ∀ q, l.F q → ¬ MF B ls q) (hP : ∀ q, q ∈ l.ps → ¬ MF B ls q) : MR w' B (c + 1) (ls ++ [l]) := by
  have get : ∀ {i m}, (ls ++ [l])[i]? = some m → ls[i]? = some m ∨ (i = ls.length ∧ m = l) := fun {i m} hi => by
    rcases Nat.lt_or_ge i ls.length with k | k
    · rw [List.getElem?_append_left k] at hi
      exact .inl hi
    · rw [List.getElem?_append_right k] at hi
      rcases Nat.eq_zero_or_pos (i - ls.length) with e | e
      · rw [e] at hi
        exact .inr ⟨by omega, by simpa using hi.symm⟩
      · rw [List.getElem?_eq_none (by simp; omega)] at hi
        cases hi
  have hlt : ∀ {i m}, ls[i]? = some m → i < ls.length := fun hi => (List.getElem?_eq_some_iff.1 hi).1
  refine ⟨hmap, ?_, ?_, ?_, ?_, ?_, ?_, ?_⟩
  · intro m hmm
    rcases List.mem_append.1 hmm with k | k
    · exact (h.qs m k).at' fun q hq => hk q (.inr (.inl ⟨m, k, hq⟩)) (h.q_ne_map k hq)
    · rw [List.mem_singleton.1 k]; exact hp
  · intro m hmm t htm
    rcases List.mem_append.1 hmm with k | k
    · exact (hk t.p (.inr (.inr (mem_tps.2 ⟨m, k, t, htm, rfl⟩))) (h.t_ne_map k htm)).trans (h.tk m k t htm)
    · rw [List.mem_singleton.1 k] at htm; exact ht t htm
  · intro m hmm
    rcases List.mem_append.1 hmm with k | k
    · exact h.more m k
    · rw [List.mem_singleton.1 k]; exact hm
  · rw [List.map_append, List.nodup_append]
    refine ⟨h.nm, by simp, fun a ha b hb e => ?_⟩
    have : b = l.nm := by simpa using hb
    exact hn (this ▸ e ▸ ha)
  · intro i k a b ha hb hik q hq hq2
    rcases get ha with h1 | ⟨h1, rfl⟩
    · rcases get hb with h3 | ⟨h3, rfl⟩
      · exact h.ap i k a b h1 h3 hik q hq hq2
      · exact hF q hq2 (.inr (.inl ⟨a, List.mem_of_getElem? h1, hq⟩))
    · rcases get hb with h3 | ⟨h3, _⟩
      · exact hF q hq (.inr (.inl ⟨b, List.mem_of_getElem? h3, hq2⟩))
      · exact hik (h1.trans h3.symm)
  · intro i k a b ha hb hik t ht1 u hu e
    rcases get ha with h1 | ⟨h1, rfl⟩
    · rcases get hb with h3 | ⟨h3, rfl⟩
      · exact h.tp i k a b h1 h3 hik t ht1 u hu e
      · exact hP u.p (List.mem_map.2 ⟨u, hu, rfl⟩) (.inr (.inr (mem_tps.2 ⟨a, List.mem_of_getElem? h1, t, ht1, e⟩)))
    · rcases get hb with h3 | ⟨h3, _⟩
      · exact hP t.p (List.mem_map.2 ⟨t, ht1, rfl⟩) (.inr (.inr (mem_tps.2 ⟨b, List.mem_of_getElem? h3, u, hu, e.symm⟩)))
      · exact hik (h1.trans h3.symm)
  · intro m hmm
    rcases List.mem_append.1 hmm with k | k
    · exact h.tn m k
    · rw [List.mem_singleton.1 k]; exact hto
end Go.Proofs.Ytkigagglkmdccaa
