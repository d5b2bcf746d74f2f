/- What is kept of the sessions by each call. -/
import Derived.Test.YtnghgclogeefgaaB1
namespace Go.Proofs.Ytnghgclogeefgaa
open Go.RowKit Go.Shelf
set_option linter.unusedVariables false
set_option linter.unusedSimpArgs false

def Fine (last : Int) (s : Se) : Prop := 0 < s.num ∧ s.num ≤ last ∧ (s.t.length : Int) ≤ 140737488351232 ∧ (s.u.length : Int) ≤ 140737488351232
/-- Sessions as they come to be. -/
structure Good (last : Int) (ss : List Se) : Prop where
  up : (ss.map (·.num)).Pairwise (· < ·)
  all : ∀ s ∈ ss, Fine last s
  len : ss.length ≤ 64
theorem Good.rise {last : Int} {ss : List Se} (h : Good last ss) : Rise ss := ⟨h.up, fun s hs => (h.all s hs).1⟩
theorem Good.sub {last : Int} {ss zs : List Se} (h : Good last ss) (hs : List.Sublist zs ss) : Good last zs :=
  ⟨h.up.sublist (hs.map _), fun s hz => h.all s (hs.subset hz), Nat.le_trans hs.length_le h.len⟩
theorem good_nil : Good 0 [] := ⟨List.Pairwise.nil, by simp, by simp⟩
theorem good_close {last : Int} {ss : List Se} (h : Good last ss) (I : Int) : Good last (clI ss I) := by
  refine h.sub ?_
  unfold clI
  split
  · rename_i k _
    have : List.Sublist (ss.take k ++ ss.drop (k + 1)) (ss.take k ++ ss.drop k) := (List.Sublist.refl _).append (by
      rw [← List.drop_drop]; exact List.drop_sublist _ _)
    rwa [List.take_append_drop] at this
  · exact List.Sublist.refl _
theorem good_expire {last : Int} {ss : List Se} (h : Good last ss) (N : Int) : Good last (exI ss N) := h.sub List.filter_sublist
theorem good_upd {last : Int} {ss : List Se} (h : Good last ss) (I E : Int) : Good last (upd ss I E) := by
  unfold upd
  split
  · rename_i k _
    split
    · rename_i s hs
      obtain ⟨hk, he⟩ := List.getElem?_eq_some_iff.1 hs
      have hf := h.all s (List.mem_of_getElem? hs)
      refine ⟨?_, fun x hx => ?_, by rw [List.length_set]; exact h.len⟩
      · have e : (ss.set k ⟨s.num, s.t, s.u, s.a, E⟩).map (·.num) = ss.map (·.num) := by
          rw [List.map_set]
          apply List.ext_getElem?
          intro j
          rw [List.getElem?_set]
          by_cases c : k = j
          · subst c
            simp [hk, he]
          · simp [c]
        rw [e]
        exact h.up
      · rcases List.mem_or_eq_of_mem_set hx with h1 | h1
        · exact h.all x h1
        · rw [h1]; exact hf
    · exact h
  · exact h
theorem good_renew {last : Int} {ss : List Se} (h : Good last ss) (I N S : Int) : Good last (rnI ss I N S).2 := by
  unfold rnI
  split
  · exact h
  · split
    · exact h
    · exact good_upd h _ _
theorem good_open {last : Int} {ss : List Se} (h : Good last ss) (h0 : 0 ≤ last) (peer : List UInt8) (N S : Int) : Good (opI last ss peer N S).2.2.1 (opI last ss peer N S).2.2.2 ∧ 0 ≤ (opI last ss peer N S).2.2.1 ∧ (opI last ss peer N S).2.2.1 ≤ last + 1 := by
  unfold opI
  split
  · exact ⟨h, h0, by show last ≤ last + 1; omega⟩
  · rename_i t u a hp
    split
    · exact ⟨h, h0, by show last ≤ last + 1; omega⟩
    · split
      · exact ⟨h, h0, by show last ≤ last + 1; omega⟩
      · rename_i hne
        obtain ⟨ht, hu, _⟩ := p_was _ _ _ _ hp
        have lt : t.length ≤ 32 := by rw [← ht.2]; exact nl_max t
        have lu : u.length ≤ 32 := by rw [← hu.2]; exact nl_max u
        refine ⟨⟨?_, fun s hs => ?_, ?_⟩, by show 0 ≤ last + 1; omega, Int.le_refl _⟩
        · show ((ss ++ [_]).map (fun s : Se => s.num)).Pairwise (· < ·)
          rw [List.map_append]
          refine List.pairwise_append.2 ⟨h.up, by simp, fun x hx y hy => ?_⟩
          obtain ⟨s, hs, rfl⟩ := List.mem_map.1 hx
          have := (h.all s hs).2.1
          simp at hy
          omega
        · rcases List.mem_append.1 hs with h1 | h1
          · obtain ⟨a1, a2, a3⟩ := h.all s h1
            exact ⟨a1, by show s.num ≤ last + 1; omega, a3⟩
          · have h2 := List.mem_singleton.1 h1
            rw [h2]
            exact ⟨by show 0 < last + 1; omega, Int.le_refl _, by show (t.length : Int) ≤ _; omega, by show (u.length : Int) ≤ _; omega⟩
        · show (ss ++ [_]).length ≤ 64
          have := h.len
          simp
          omega
theorem Mid.later {w V V' : World} {T R q : Nat} {row : Array Value} {la lb : Int} {ss zs : List Se} (h : Mid w T R q row la lb ss zs V) (hb : Below V.heap.size V V') : Mid w T R q row la lb ss zs V' := by
  obtain ⟨sv, ht⟩ := h.t
  obtain ⟨sr, hr⟩ := h.r
  exact ⟨⟨sv, ht.later hb (Nat.le_refl _)⟩, ⟨sr, hr.later hb (Nat.le_refl _)⟩, (hb.block _ (Array.getElem?_eq_some_iff.1 h.o).1).trans h.o, h.b.trans (hb.mono h.low)⟩
end Go.Proofs.Ytnghgclogeefgaa
