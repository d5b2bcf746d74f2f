/- Plain: a key among others, which are put and asked; how many came ahead of it. -/
import Derived.Test.YtbcdaddbcjagjaaPc
namespace Go.Proofs.Ytbcdaddbcjagjaa
open Go.RowKit
set_option linter.unusedVariables false
set_option linter.unusedSimpArgs false

theorem out_mid {k : List UInt8} {it : It} {b : List It} (h : k ≠ it.key) : ∀ (a : List It), ∃ a' b', outE k (a ++ it :: b) = a' ++ it :: b' ∧ ∀ y ∈ a', y ∈ a
  | [] => ⟨[], outE k b, by show outE k (it :: b) = _; rw [outE, if_neg h]; rfl, fun y hy => hy⟩
  | x :: a => by
    by_cases e : k = x.key
    · exact ⟨a, b, by rw [List.cons_append, outE, if_pos e], fun y hy => List.mem_cons_of_mem _ hy⟩
    · obtain ⟨a', b', h1, h2⟩ := out_mid h a
      refine ⟨x :: a', b', by rw [List.cons_append, outE, if_neg e, h1]; rfl, fun y hy => ?_⟩
      rcases List.mem_cons.1 hy with rfl | hy
      · exact List.mem_cons_self
      · exact List.mem_cons_of_mem _ (h2 y hy)
theorem out_sub : ∀ {es : List It} {k : List UInt8} {y : It}, y ∈ outE k es → y ∈ es
  | [], k, y, h => h
  | x :: r, k, y, h => by
    unfold outE at h
    split at h
    · exact List.mem_cons_of_mem _ h
    · rcases List.mem_cons.1 h with rfl | h
      · exact List.mem_cons_self
      · exact List.mem_cons_of_mem _ (out_sub h)
/-- A thing is there, and all ahead of it are of some keys. -/
def Kq (it : It) (l : List It) (S : List (List UInt8)) : Prop := ∃ a b, l = a ++ it :: b ∧ ∀ y ∈ a, y.key ∈ S
/-- It is there, or so many others came. -/
def Qk (it : It) (most : Int) (l : List It) (S : List (List UInt8)) : Prop := Kq it l S ∨ (it.key ∉ l.map It.key ∧ most ≤ (S.length : Int))
theorem Kq.look {it : It} {l : List It} {S : List (List UInt8)} (h : Kq it l S) (hn : (l.map It.key).Nodup) : lkE it.key l = some it := by
  obtain ⟨a, b, rfl, h2⟩ := h
  refine (lkE_mid fun y hy e => ?_).1
  rw [List.map_append, List.map_cons] at hn
  exact nd_mid hn (List.mem_append.2 (.inl (List.mem_map.2 ⟨y, hy, e.symm⟩)))
theorem Qk.look {it : It} {most : Int} {l : List It} {S : List (List UInt8)} (h : Qk it most l S) (hn : (l.map It.key).Nodup) : lkE it.key l = some it ∨ (lkE it.key l = none ∧ most ≤ (S.length : Int)) := by
  rcases h with h | ⟨h, h2⟩
  · exact .inl (h.look hn)
  · exact .inr ⟨lkE_none.2 h, h2⟩
/-- Another key is put. -/
theorem Qk.put {it : It} {most : Int} {l : List It} {S S' : List (List UInt8)} (h : Qk it most l S) (hn : (l.map It.key).Nodup) {k : List UInt8} (hk : k ≠ it.key) (st te : List UInt8) (hS : ∀ x ∈ S, x ∈ S') (hkS : k ∈ S') (hl : S.length ≤ S'.length) : Qk it most (putL most l k st te) S' := by
  unfold putL
  by_cases e : bigE k te = true
  · rw [if_pos e]
    rcases h with ⟨a, b, h1, h2⟩ | ⟨h1, h2⟩
    · exact .inl ⟨a, b, h1, fun y hy => hS _ (h2 y hy)⟩
    · exact .inr ⟨h1, by omega⟩
  · rw [if_neg e]
    obtain ⟨o1, o2, o3⟩ := outE_keys (k := k) hn
    unfold putE
    dsimp only
    rcases h with ⟨a, b, rfl, h2⟩ | ⟨h1, h2⟩
    · obtain ⟨a', b', e1, e2⟩ := out_mid (b := b) hk a
      rw [e1] at o1 o2 ⊢
      have ha : ∀ y ∈ (⟨k, st, te⟩ : It) :: a', y.key ∈ S' := fun y hy => by
        rcases List.mem_cons.1 hy with rfl | hy
        · exact hkS
        · exact hS _ (h2 y (e2 y hy))
      split
      · exact .inl ⟨⟨k, st, te⟩ :: a', b', rfl, ha⟩
      · rename_i hfit
        show Qk it most (((⟨k, st, te⟩ : It) :: (a' ++ it :: b')).dropLast) S'
        rcases List.eq_nil_or_concat b' with rfl | ⟨b2, z, rfl⟩
        · have e3 : ((⟨k, st, te⟩ : It) :: (a' ++ [it])).dropLast = ⟨k, st, te⟩ :: a' := by
            rw [← List.cons_append, List.dropLast_concat]
          rw [e3]
          have hnd : (((⟨k, st, te⟩ : It) :: (a' ++ [it])).map It.key).Nodup := List.nodup_cons.2 ⟨o1, o2⟩
          rw [← List.cons_append, List.map_append] at hnd
          have hnd2 := List.nodup_append.1 hnd
          refine .inr ⟨fun hm => hnd2.2.2 _ hm it.key (by simp) rfl, ?_⟩
          have hle := len_sub (((⟨k, st, te⟩ : It) :: a').map It.key) S' hnd2.1 fun x hx => by
            obtain ⟨y, hy, rfl⟩ := List.mem_map.1 hx
            exact ha y hy
          simp at hle hfit
          omega
        · refine .inl ⟨⟨k, st, te⟩ :: a', b2, ?_, ha⟩
          have : (⟨k, st, te⟩ : It) :: (a' ++ it :: (b2 ++ [z])) = ((⟨k, st, te⟩ : It) :: a' ++ it :: b2) ++ [z] := by simp
          rw [List.concat_eq_append, this, List.dropLast_concat]
    · refine .inr ⟨fun hm => ?_, by omega⟩
      have hsub : ∀ y ∈ (⟨k, st, te⟩ : It) :: outE k l, y.key ≠ it.key := fun y hy e => by
        rcases List.mem_cons.1 hy with rfl | hy
        · exact hk e
        · exact h1 (List.mem_map.2 ⟨y, out_sub hy, e⟩)
      split at hm
      · obtain ⟨y, hy, e⟩ := List.mem_map.1 hm
        exact hsub y hy e
      · obtain ⟨y, hy, e⟩ := List.mem_map.1 hm
        exact hsub y (List.dropLast_subset _ hy) e
/-- Another key is asked for. -/
theorem Qk.get {it : It} {most : Int} {l : List It} {S S' : List (List UInt8)} (h : Qk it most l S) {k : List UInt8} (hk : k ≠ it.key) (st : List UInt8) (hS : ∀ x ∈ S, x ∈ S') (hkS : k ∈ S') (hl : S.length ≤ S'.length) : Qk it most (getEE k st l) S' := by
  have hout : Qk it most (outE k l) S' := by
    rcases h with ⟨a, b, rfl, h2⟩ | ⟨h1, h2⟩
    · obtain ⟨a', b', e1, e2⟩ := out_mid (b := b) hk a
      exact .inl ⟨a', b', e1, fun y hy => hS _ (h2 y (e2 y hy))⟩
    · refine .inr ⟨fun hm => ?_, by omega⟩
      obtain ⟨y, hy, e⟩ := List.mem_map.1 hm
      exact h1 (List.mem_map.2 ⟨y, out_sub hy, e⟩)
  unfold getEE
  split
  · unfold getE
    cases hx : lkE k l with
    | none =>
      rw [outE_none (lkE_none.1 hx)] at hout
      exact hout
    | some x =>
      have hxk := (lkE_some hx).1
      rcases hout with ⟨a, b, e1, h2⟩ | ⟨h1, h2⟩
      · refine .inl ⟨x :: a, b, by show x :: outE k l = _; rw [e1]; rfl, fun y hy => ?_⟩
        rcases List.mem_cons.1 hy with rfl | hy
        · rw [hxk]; exact hkS
        · exact h2 y hy
      · refine .inr ⟨fun hm => ?_, h2⟩
        rcases List.mem_cons.1 hm with e | hm
        · exact hk (hxk.symm.trans e.symm)
        · exact h1 hm
  · exact hout
/-- The others that were met: each once. -/
structure Met (xs : List (List UInt8)) (key : List UInt8) (i : Nat) (S : List (List UInt8)) : Prop where
  nd : S.Nodup
  all : ∀ (j : Nat) (x : List UInt8), j < i → xs[j]? = some x → x ≠ key → x ∈ S
  only : ∀ x ∈ S, ∃ j : Nat, j < i ∧ xs[j]? = some x
theorem Met.zero (xs : List (List UInt8)) (key : List UInt8) : Met xs key 0 [] := ⟨List.nodup_nil, fun j x hj => by omega, fun x hx => (nomatch hx)⟩
theorem Met.skip {xs : List (List UInt8)} {key : List UInt8} {i : Nat} {S : List (List UInt8)} (h : Met xs key i S) (hx : xs[i]? = some key) : Met xs key (i + 1) S := by
  refine ⟨h.nd, fun j x hj e hk => ?_, fun x hx => ?_⟩
  · rcases Nat.lt_or_ge j i with c | c
    · exact h.all j x c e hk
    · obtain rfl : j = i := by omega
      rw [hx] at e
      exact (hk (Option.some.inj e).symm).elim
  · obtain ⟨j, h1, h2⟩ := h.only x hx
    exact ⟨j, by omega, h2⟩
theorem Met.again {xs : List (List UInt8)} {key x : List UInt8} {i : Nat} {S : List (List UInt8)} (h : Met xs key i S) (hx : xs[i]? = some x) (hk : x ≠ key) (hm : ∃ j : Nat, j < i ∧ xs[j]? = some x) : Met xs key (i + 1) S ∧ x ∈ S := by
  obtain ⟨j0, g1, g2⟩ := hm
  have hin := h.all j0 x g1 g2 hk
  refine ⟨⟨h.nd, fun j y hj e hk' => ?_, fun y hy => ?_⟩, hin⟩
  · rcases Nat.lt_or_ge j i with c | c
    · exact h.all j y c e hk'
    · obtain rfl : j = i := by omega
      rw [hx] at e
      rw [← Option.some.inj e]
      exact hin
  · obtain ⟨j, h1, h2⟩ := h.only y hy
    exact ⟨j, by omega, h2⟩
theorem Met.more {xs : List (List UInt8)} {key x : List UInt8} {i : Nat} {S : List (List UInt8)} (h : Met xs key i S) (hx : xs[i]? = some x) (hm : ¬ ∃ j : Nat, j < i ∧ xs[j]? = some x) : Met xs key (i + 1) (x :: S) := by
  refine ⟨List.nodup_cons.2 ⟨fun e => hm (h.only x e), h.nd⟩, fun j y hj e hk => ?_, fun y hy => ?_⟩
  · rcases Nat.lt_or_ge j i with c | c
    · exact List.mem_cons_of_mem _ (h.all j y c e hk)
    · obtain rfl : j = i := by omega
      rw [hx] at e
      rw [← Option.some.inj e]
      exact List.mem_cons_self
  · rcases List.mem_cons.1 hy with rfl | hy
    · exact ⟨i, by omega, hx⟩
    · obtain ⟨j, h1, h2⟩ := h.only y hy
      exact ⟨j, by omega, h2⟩
/-- What a cache's list keeps. -/
theorem KS.ok {w w1 : World} {C : Nat} {most n : Int} {l : List It} (h : KS w w1 C most l n) : (l.map It.key).Nodup ∧ (l.length : Int) ≤ most := by
  obtain ⟨F, E, N, h1, h2, h3, h4, -⟩ := h
  obtain ⟨⟨K, D, tl, x1, x2, x3, x4⟩, m1, m2⟩ := h1
  rw [x3] at h4
  by_cases e : lkTl nA tl = []
  · rw [← h4, e]
    exact ⟨List.nodup_nil, by simp; omega⟩
  · obtain ⟨a, t, b, e1, e2, e3, e4⟩ := x1.who e
    have := x1.lr t (by rw [e1]; simp)
    rw [← h4, ← e3]
    exact ⟨this.ks, this.le⟩
end Go.Proofs.Ytbcdaddbcjagjaa
