/- A cache as it lies: one tenant's list is turned, a tenant goes, a tenant comes, counts are turned. -/
import Derived.Test.YtbcdaddbcjagjaaOa
namespace Go.Proofs.Ytbcdaddbcjagjaa
open Go.RowKit
set_option linter.unusedVariables false
set_option linter.unusedSimpArgs false

structure Tn where
  nm : List UInt8
  L : Nat
  M : Nat
  F : Nat → Prop
  es : List It
def mlT (tl : List Tn) : List (List UInt8 × Nat) := tl.map fun t => (t.nm, t.L)
structure CX (w : World) (C K D : Nat) (most : Int) (tl : List Tn) (N : List UInt8 → Int × Int) : Prop where
  box : w.heap[C]? = some (.cells #[.int .i64 most, .map (some K), .map (some D)] 73 (0, 0))
  km : MM w K (mlT tl)
  nd : (tl.map Tn.nm).Nodup
  lr : ∀ t ∈ tl, LR w t.L t.M t.F most t.es
  ap : tl.Pairwise fun s t => ∀ q, s.F q → ¬ t.F q
  of : ∀ t ∈ tl, ∀ q, t.F q → q ≠ C ∧ q ≠ K ∧ q ≠ D
  kd : K ≠ D
  mc : MC w D N
def CF (C K D : Nat) (tl : List Tn) (q : Nat) : Prop := q = C ∨ q = K ∨ q = D ∨ ∃ t ∈ tl, t.F q
variable {w w' : World} {C K D : Nat} {most : Int} {tl a b : List Tn} {t : Tn} {N : List UInt8 → Int × Int}
theorem CX.ck (h : CX w C K D most tl N) : C ≠ K := by
  rintro rfl
  obtain ⟨es, c, h1, h2, hB⟩ := h.km
  unfold MapAt at h1
  rw [h.box] at h1
  cases h1
theorem CX.cd (h : CX w C K D most tl N) : C ≠ D := by
  rintro rfl
  obtain ⟨es, c, h1, h2⟩ := h.mc
  rw [h.box] at h1
  cases h1
theorem CX.lt (h : CX w C K D most tl N) : ∀ q, CF C K D tl q → q < w.heap.size := by
  rintro q (rfl | rfl | rfl | ⟨t, ht, hq⟩)
  · exact (Array.getElem?_eq_some_iff.1 h.box).1
  · exact h.km.lt
  · exact h.mc.lt
  · exact (h.lr t ht).lt q hq
theorem CX.at' (h : CX w C K D most tl N) (hk : ∀ q, CF C K D tl q → w'.heap[q]? = w.heap[q]?) : CX w' C K D most tl N :=
  ⟨(hk C (.inl rfl)).trans h.box, h.km.at' (hk K (.inr (.inl rfl))), h.nd, fun t ht => (h.lr t ht).at' fun q hq => hk q (.inr (.inr (.inr ⟨t, ht, hq⟩))), h.ap, h.of, h.kd, h.mc.at' (hk D (.inr (.inr (.inl rfl))))⟩
theorem CX.newer (h : CX w C K D most tl N) (hb : Below w.heap.size w w') : CX w' C K D most tl N := h.at' fun q hq => hb.block q (h.lt q hq)
theorem CX.cells (h : CX w C K D most tl N) : w.cell? ⟨C, 0, none⟩ = some (.int .i64 most) ∧ w.cell? ⟨C, 1, none⟩ = some (.map (some K)) ∧ w.cell? ⟨C, 2, none⟩ = some (.map (some D)) :=
  ⟨by rw [cell_of_row _ _ _ _ _ _ h.box]; rfl, by rw [cell_of_row _ _ _ _ _ _ h.box]; rfl, by rw [cell_of_row _ _ _ _ _ _ h.box]; rfl⟩
/-- One tenant's list is turned. -/
theorem CX.turn (h : CX w C K D most (a ++ t :: b) N) {F' : Nat → Prop} {es' : List It} (hl : LR w' t.L t.M F' most es') (hf : Fr t.F F' w w') : CX w' C K D most (a ++ ⟨t.nm, t.L, t.M, F', es'⟩ :: b) N ∧ Fr (CF C K D (a ++ t :: b)) (CF C K D (a ++ ⟨t.nm, t.L, t.M, F', es'⟩ :: b)) w w' := by
  have ht : t ∈ a ++ t :: b := by simp
  have hlt := h.lt
  have keep : ∀ q, q < w.heap.size → ¬ t.F q → w'.heap[q]? = w.heap[q]? := hf.block
  have hof := h.of t ht
  have kC := keep C (hlt C (.inl rfl)) fun e => (hof C e).1 rfl
  have kK := keep K (hlt K (.inr (.inl rfl))) fun e => (hof K e).2.1 rfl
  have kD := keep D (hlt D (.inr (.inr (.inl rfl)))) fun e => (hof D e).2.2 rfl
  have hap := h.ap
  rw [List.pairwise_append] at hap
  obtain ⟨p1, p2, p3⟩ := hap
  obtain ⟨p4, p5⟩ := List.pairwise_cons.1 p2
  have hnew : ∀ s ∈ a ++ b, ∀ q, s.F q → ¬ t.F q ∧ ¬ F' q := fun s hs q hq => by
    have h1 : ¬ t.F q := by
      rcases List.mem_append.1 hs with hs | hs
      · exact p3 s hs t (by simp) q hq
      · exact fun e => p4 s hs q e hq
    refine ⟨h1, fun e => ?_⟩
    rcases hf.grow q e with e | e
    · exact h1 e
    · have := hlt q (.inr (.inr (.inr ⟨s, by simp at hs ⊢; rcases hs with hs | hs <;> simp [hs], hq⟩)))
      omega
  have hnm : (a ++ ⟨t.nm, t.L, t.M, F', es'⟩ :: b).map Tn.nm = (a ++ t :: b).map Tn.nm := by simp
  have hml : mlT (a ++ ⟨t.nm, t.L, t.M, F', es'⟩ :: b) = mlT (a ++ t :: b) := by simp [mlT]
  refine ⟨⟨kC.trans h.box, by rw [hml]; exact h.km.at' kK, by rw [hnm]; exact h.nd, fun s hs => ?_, ?_, fun s hs q hq => ?_, h.kd, h.mc.at' kD⟩, ⟨hf.os, hf.tape, hf.output, hf.size, fun q hq hn => keep q hq fun e => hn (.inr (.inr (.inr ⟨t, ht, e⟩))), ?_⟩⟩
  · have : s = ⟨t.nm, t.L, t.M, F', es'⟩ ∨ s ∈ a ++ b := by simp at hs ⊢; rcases hs with hs | hs | hs <;> simp [hs]
    rcases this with rfl | hs'
    · exact hl
    · refine (h.lr s (by simp at hs' ⊢; rcases hs' with hs' | hs' <;> simp [hs'])).at' fun q hq => keep q (hlt q (.inr (.inr (.inr ⟨s, by simp at hs' ⊢; rcases hs' with hs' | hs' <;> simp [hs'], hq⟩)))) (hnew s hs' q hq).1
  · rw [List.pairwise_append]
    refine ⟨p1, List.pairwise_cons.2 ⟨fun s hs q hq e => (hnew s (by simp [hs]) q e).2 hq, p5⟩, fun s hs r hr => ?_⟩
    rcases List.mem_cons.1 hr with rfl | hr
    · exact fun q hq => (hnew s (by simp [hs]) q hq).2
    · exact p3 s hs r (List.mem_cons_of_mem _ hr)
  · have : s = ⟨t.nm, t.L, t.M, F', es'⟩ ∨ s ∈ a ++ b := by simp at hs ⊢; rcases hs with hs | hs | hs <;> simp [hs]
    rcases this with rfl | hs'
    · rcases hf.grow q hq with e | e
      · exact hof q e
      · have h1 := hlt C (.inl rfl)
        have h2 := hlt K (.inr (.inl rfl))
        have h3 := hlt D (.inr (.inr (.inl rfl)))
        refine ⟨?_, ?_, ?_⟩ <;> omega
    · exact h.of s (by simp at hs' ⊢; rcases hs' with hs' | hs' <;> simp [hs']) q hq
  · rintro q (rfl | rfl | rfl | ⟨s, hs, hq⟩)
    · exact .inl (.inl rfl)
    · exact .inl (.inr (.inl rfl))
    · exact .inl (.inr (.inr (.inl rfl)))
    · have : s = ⟨t.nm, t.L, t.M, F', es'⟩ ∨ s ∈ a ++ b := by simp at hs ⊢; rcases hs with hs | hs | hs <;> simp [hs]
      rcases this with rfl | hs'
      · rcases hf.grow q hq with e | e
        · exact .inl (.inr (.inr (.inr ⟨t, ht, e⟩)))
        · exact .inr e
      · exact .inl (.inr (.inr (.inr ⟨s, by simp at hs' ⊢; rcases hs' with hs' | hs' <;> simp [hs'], hq⟩)))
/-- A block that is a map is turned. -/
theorem setM_fr {F : Nat → Prop} {B : Nat} (hF : F B) (o : Obj) : Fr F F w (setM w B o) := ⟨rfl, rfl, rfl, by rw [setM_size]; exact Nat.le_refl _, fun q hq hn => setM_off fun e => hn (e ▸ hF), fun q hq => .inl hq⟩
/-- A tenant goes. -/
theorem CX.gone (h : CX w C K D most (a ++ t :: b) N) {o : Obj} (hm : MM (setM w K o) K ((mlT (a ++ t :: b)).erase (t.nm, t.L))) : CX (setM w K o) C K D most (a ++ b) N ∧ Fr (CF C K D (a ++ t :: b)) (CF C K D (a ++ b)) w (setM w K o) := by
  have hsub : ∀ s ∈ a ++ b, s ∈ a ++ t :: b := fun s hs => by simp at hs ⊢; rcases hs with hs | hs <;> simp [hs]
  have hsl : (a ++ b).Sublist (a ++ t :: b) := (List.Sublist.refl _).append (List.sublist_cons_self _ _)
  have hp : ((mlT (a ++ t :: b)).erase (t.nm, t.L)).Perm (mlT (a ++ b)) := by
    have h1 : (mlT (a ++ t :: b)).Perm ((t.nm, t.L) :: mlT (a ++ b)) := (mid_perm a b t).map _
    have h2 := h1.erase (t.nm, t.L)
    rwa [List.erase_cons_head] at h2
  obtain ⟨es, c, m1, m2, mB⟩ := hm
  refine ⟨⟨(setM_off h.ck).trans h.box, ⟨es, c, m1, m2.trans hp, mB⟩, h.nd.sublist (hsl.map _), fun s hs => (h.lr s (hsub s hs)).at' fun q hq => setM_off (h.of s (hsub s hs) q hq).2.1, h.ap.sublist hsl, fun s hs => h.of s (hsub s hs), h.kd, h.mc.at' (setM_off h.kd.symm)⟩, (setM_fr (.inr (.inl rfl)) o).sub ?_⟩
  rintro q (hq | hq | hq | ⟨s, hs, hq⟩)
  · exact .inl hq
  · exact .inr (.inl hq)
  · exact .inr (.inr (.inl hq))
  · exact .inr (.inr (.inr ⟨s, hsub s hs, hq⟩))
/-- A tenant comes. -/
theorem CX.come (h : CX w C K D most tl N) {o : Obj} (hn : t.nm ∉ tl.map Tn.nm) (hl : LR w t.L t.M t.F most t.es) (hnew : ∀ q, t.F q → ¬ CF C K D tl q) (hm : MM (setM w K o) K (mlT tl ++ [(t.nm, t.L)])) : CX (setM w K o) C K D most (tl ++ [t]) N ∧ Fr (CF C K D (tl ++ [t])) (CF C K D (tl ++ [t])) w (setM w K o) := by
  have hof : ∀ q, t.F q → q ≠ C ∧ q ≠ K ∧ q ≠ D := fun q hq => ⟨fun e => hnew q hq (.inl e), fun e => hnew q hq (.inr (.inl e)), fun e => hnew q hq (.inr (.inr (.inl e)))⟩
  have hml : mlT (tl ++ [t]) = mlT tl ++ [(t.nm, t.L)] := by simp [mlT]
  refine ⟨⟨(setM_off h.ck).trans h.box, by rw [hml]; exact hm, ?_, fun s hs => ?_, ?_, fun s hs => ?_, h.kd, h.mc.at' (setM_off h.kd.symm)⟩, setM_fr (.inr (.inl rfl)) o⟩
  · rw [List.map_append, List.nodup_append]
    refine ⟨h.nd, by simp, fun x hx y hy e => ?_⟩
    simp at hy
    subst hy
    subst e
    exact hn hx
  · rcases List.mem_append.1 hs with hs | hs
    · exact (h.lr s hs).at' fun q hq => setM_off (h.of s hs q hq).2.1
    · obtain rfl := List.mem_singleton.1 hs
      exact hl.at' fun q hq => setM_off (hof q hq).2.1
  · rw [List.pairwise_append]
    refine ⟨h.ap, List.pairwise_singleton _ _, fun s hs r hr q hq e => ?_⟩
    obtain rfl := List.mem_singleton.1 hr
    exact hnew q e (.inr (.inr (.inr ⟨s, hs, hq⟩)))
  · rcases List.mem_append.1 hs with hs | hs
    · exact h.of s hs
    · obtain rfl := List.mem_singleton.1 hs
      exact hof
/-- Counts are turned. -/
theorem CX.count (h : CX w C K D most tl N) {o : Obj} {N' : List UInt8 → Int × Int} (hm : MC (setM w D o) D N') : CX (setM w D o) C K D most tl N' ∧ Fr (CF C K D tl) (CF C K D tl) w (setM w D o) :=
  ⟨⟨(setM_off h.cd).trans h.box, h.km.at' (setM_off h.kd), h.nd, fun s hs => (h.lr s hs).at' fun q hq => setM_off (h.of s hs q hq).2.2, h.ap, h.of, h.kd, hm⟩, setM_fr (.inr (.inr (.inl rfl))) o⟩
end Go.Proofs.Ytbcdaddbcjagjaa
