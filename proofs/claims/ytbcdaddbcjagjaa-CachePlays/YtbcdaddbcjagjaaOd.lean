/- A cache, opened at a tenant; drop, Forget, Counts. -/
import Derived.Test.YtbcdaddbcjagjaaOc
import Derived.Laws.Rows
namespace Go.Proofs.Ytbcdaddbcjagjaa
open Go.RowKit
set_option linter.unusedVariables false
set_option linter.unusedSimpArgs false

variable {w w' : World} {C : Nat} {F : Nat → Prop} {most : Int} {E : List UInt8 → List It} {N : List UInt8 → Int × Int}
theorem Fr.from {F G G' : Nat → Prop} {w w' : World} (h : Fr G G' w w') (hF : ∀ q, F q ↔ G q) : Fr F G' w w' := ⟨h.os, h.tape, h.output, h.size, fun q hq hn => h.block q hq fun e => hn ((hF q).2 e), fun q hq => (h.grow q hq).imp (fun e => (hF q).2 e) id⟩
theorem len_sub : ∀ (l S : List (List UInt8)), l.Nodup → (∀ x ∈ l, x ∈ S) → l.length ≤ S.length
  | [], S, _, _ => by simp
  | x :: r, S, hn, hs => by
    obtain ⟨h1, h2⟩ := List.nodup_cons.1 hn
    have hx := hs x (by simp)
    have h3 := len_sub r (S.erase x) h2 fun y hy => (List.mem_erase_of_ne (show y ≠ x from fun e => h1 (by rw [← e]; exact hy))).2 (hs y (by simp [hy]))
    have h4 := List.length_erase_of_mem hx
    have h5 := List.length_pos_of_mem hx
    simp
    omega
/-- Opened at a tenant that has something. -/
theorem CR.open (h : CR w C F most E N) {s : List UInt8} (hs : E s ≠ []) : ∃ K L M FL, w.cell? ⟨C, 1, none⟩ = some (.map (some K)) ∧ (Instr.lookup 70 (.map (some K)) (.string (tx s)) false).run Try.prog w = .ok (.pointer (some ⟨L, 0, none⟩)) w ∧ LR w L M FL most (E s) ∧ (∀ q, FL q → F q) ∧
    (∀ w' F' es', es' ≠ [] → LR w' L M F' most es' → Fr FL F' w w' → ∃ F'', CR w' C F'' most (updE E s es') N ∧ Fr F F'' w w') ∧
    (∀ w' F', LR w' L M F' most [] → Fr FL F' w w' → w'.cell? ⟨C, 1, none⟩ = some (.map (some K)) ∧ ∃ o, (Builtin.delete_ #[70, 9] 0 #[.map (some K), .string (tx s)]).run Try.prog w' = .ok (.tuple #[]) (setM w' K o) ∧ ∃ F'', CR (setM w' K o) C F'' most (updE E s []) N ∧ Fr F F'' w (setM w' K o)) ∧
    ∃ o, (Builtin.delete_ #[70, 9] 0 #[.map (some K), .string (tx s)]).run Try.prog w = .ok (.tuple #[]) (setM w K o) ∧ ∃ F'', CR (setM w K o) C F'' most (updE E s []) N ∧ Fr F F'' w (setM w K o) := by
  obtain ⟨⟨K, D, tl, h1, h2, h3, h4⟩, h5, h6⟩ := h
  obtain ⟨a, t, b, rfl, e2, e3, e4⟩ := h1.who (s := s) (by rw [← h3]; exact hs)
  have hl := h1.km.look70 h1.knd s
  rw [e4] at hl
  have hE : E = fun s => lkTl s (a ++ t :: b) := funext h3
  have gone : ∀ (V : World) (tt : Tn), tt.nm = s → CX V C K D most (a ++ tt :: b) N → (∀ x, updE (fun s => lkTl s (a ++ tt :: b)) s [] x = updE E s [] x) → ∃ o, (Builtin.delete_ #[70, 9] 0 #[.map (some K), .string (tx s)]).run Try.prog V = .ok (.tuple #[]) (setM V K o) ∧ CR (setM V K o) C (CF C K D (a ++ b)) most (updE E s []) N ∧ Fr (CF C K D (a ++ tt :: b)) (CF C K D (a ++ b)) V (setM V K o) := by
    intro V tt ht hX hu
    obtain ⟨o, k1, k2⟩ := hX.km.del70 hX.knd (s := s) (q := tt.L) (List.mem_map.2 ⟨tt, by simp, by rw [ht]⟩) 0
    rw [← ht] at k2
    obtain ⟨g1, g2⟩ := hX.gone k2
    refine ⟨o, k1, ⟨⟨K, D, a ++ b, g1, fun u hu => h2 u (by simp at hu ⊢; rcases hu with hu | hu <;> simp [hu]), fun x => ?_, fun q => Iff.rfl⟩, h5, h6⟩, g2⟩
    rw [← hu x, ← ht]
    exact (lk_gone hX.nd x).symm
  refine ⟨K, t.L, t.M, t.F, h1.cells.2.1, hl, ?_, fun q hq => (h4 q).2 (.inr (.inr (.inr ⟨t, by simp, hq⟩))), ?_, ?_, ?_⟩
  · have := h1.lr t (by simp)
    rw [e3, ← h3] at this
    exact this
  · intro w' F' es' hne hl' hf
    obtain ⟨k1, k2⟩ := h1.turn hl' hf
    refine ⟨CF C K D (a ++ ⟨t.nm, t.L, t.M, F', es'⟩ :: b), ⟨⟨K, D, _, k1, fun u hu => ?_, fun x => ?_, fun q => Iff.rfl⟩, h5, h6⟩, k2.from h4⟩
    · have : u = ⟨t.nm, t.L, t.M, F', es'⟩ ∨ u ∈ a ++ t :: b := by simp at hu ⊢; rcases hu with hu | hu | hu <;> simp [hu]
      rcases this with rfl | hu
      · exact hne
      · exact h2 u hu
    · rw [hE, ← e2]
      exact (lk_turn h1.nd F' es' x).symm
  · intro w' F' hl' hf
    obtain ⟨k1, k2⟩ := h1.turn hl' hf
    obtain ⟨o, g1, g2, g3⟩ := gone w' ⟨t.nm, t.L, t.M, F', []⟩ e2 k1 fun x => by
      rw [hE]
      unfold updE
      by_cases e : x = s
      · rw [if_pos e, if_pos e]
      · rw [if_neg e, if_neg e]
        show lkTl x _ = lkTl x _
        rw [lk_turn h1.nd F' [] x, updE_off _ _ (by rw [e2]; exact e)]
    exact ⟨k1.cells.2.1, o, g1, _, g2, (k2.trans' g3).from h4⟩
  · obtain ⟨o, g1, g2, g3⟩ := gone w t e2 h1 fun x => by rw [hE]
    exact ⟨o, g1, _, g2, g3.from h4⟩
/-- Opened at one that has nothing. -/
theorem CR.shut (h : CR w C F most E N) {s : List UInt8} (hs : E s = []) : ∃ (K : Nat) (T : Nat), w.cell? ⟨C, 0, none⟩ = some (.int .i64 most) ∧ w.cell? ⟨C, 1, none⟩ = some (.map (some K)) ∧ (Instr.lookup 70 (.map (some K)) (.string (tx s)) false).run Try.prog w = .ok (.pointer none) w ∧ (∀ ty, (Builtin.len_ #[70] ty #[.map (some K)]).run Try.prog w = .ok (.int .i64 (T : Int)) w) ∧ (∀ S : List (List UInt8), (∀ x, E x ≠ [] → x ∈ S) → T ≤ S.length) ∧
    (∀ w1 L M FL, Below w.heap.size w w1 → LR w1 L M FL most [] → (∀ q, FL q → w.heap.size ≤ q) → w1.cell? ⟨C, 1, none⟩ = some (.map (some K)) ∧ ∃ o, (Instr.mapUpdate 70 (.map (some K)) (.string (tx s)) (.pointer (some ⟨L, 0, none⟩))).run Try.prog w1 = .ok () (setM w1 K o) ∧ LR (setM w1 K o) L M FL most [] ∧
      ∀ w2 F' es', es' ≠ [] → LR w2 L M F' most es' → Fr FL F' (setM w1 K o) w2 → ∃ F'', CR w2 C F'' most (updE E s es') N ∧ Fr F F'' w w2) := by
  obtain ⟨⟨K, D, tl, h1, h2, h3, h4⟩, h5, h6⟩ := h
  have hn : lkTl s tl = [] := by rw [← h3]; exact hs
  have hl := h1.km.look70 h1.knd s
  rw [CX.nobody h2 hn] at hl
  have hnot := lkTl_none h2 hn
  have hE : E = fun s => lkTl s tl := funext h3
  refine ⟨K, tl.length, h1.cells.1, h1.cells.2.1, hl, fun ty => by have := run_len70 h1.km ty; rwa [show (mlT tl).length = tl.length by simp [mlT]] at this, fun S hS => ?_, ?_⟩
  · have hsub : ∀ x ∈ tl.map Tn.nm, x ∈ S := fun x hx => hS x (by
      rw [h3]
      intro e
      exact lkTl_none h2 e hx)
    have := len_sub _ S h1.nd hsub
    simpa using this
  · intro w1 L M FL hb hlr hnew
    have hX := h1.newer hb
    have hdis : ∀ q, FL q → ¬ CF C K D tl q := fun q hq e => by have := h1.lt q e; have := hnew q hq; omega
    obtain ⟨o, k1, k2⟩ := hX.km.put70 (s := s) (by rw [mlT_fst]; exact hnot) L
    obtain ⟨g1, g2⟩ := hX.come (t := ⟨s, L, M, FL, []⟩) (o := o) hnot hlr hdis k2
    refine ⟨hX.cells.2.1, o, k1, g1.lr ⟨s, L, M, FL, []⟩ (by simp), fun w2 F' es' hne hl2 hf => ?_⟩
    obtain ⟨j1, j2⟩ := CX.turn (t := ⟨s, L, M, FL, []⟩) (a := tl) (b := []) g1 hl2 hf
    have f0 : Fr F (CF C K D (tl ++ [⟨s, L, M, FL, []⟩])) w w1 := by
      refine ⟨hb.os, hb.tape, hb.output, hb.size, fun q hq _ => hb.block q hq, ?_⟩
      rintro q (e | e | e | ⟨u, hu, e⟩)
      · exact .inl ((h4 q).2 (.inl e))
      · exact .inl ((h4 q).2 (.inr (.inl e)))
      · exact .inl ((h4 q).2 (.inr (.inr (.inl e))))
      · rcases List.mem_append.1 hu with hu | hu
        · exact .inl ((h4 q).2 (.inr (.inr (.inr ⟨u, hu, e⟩))))
        · obtain rfl := List.mem_singleton.1 hu
          exact .inr (hnew q e)
    refine ⟨_, ⟨⟨K, D, _, j1, fun u hu => ?_, fun x => ?_, fun q => Iff.rfl⟩, h5, h6⟩, (f0.trans' g2).trans' j2⟩
    · rcases List.mem_append.1 hu with hu | hu
      · exact h2 u hu
      · obtain rfl := List.mem_singleton.1 hu
        exact hne
    · rw [hE]
      exact (lk_come (t := ⟨s, L, M, F', es'⟩) hnot x).symm
/-- The counts. -/
theorem CR.counts (h : CR w C F most E N) (s : List UInt8) : ∃ D, w.cell? ⟨C, 2, none⟩ = some (.map (some D)) ∧ (Instr.lookup 71 (.map (some D)) (.string (tx s)) false).run Try.prog w = .ok (cV (N s)) w ∧ ∀ p, ∃ o, (Instr.mapUpdate 71 (.map (some D)) (.string (tx s)) (cV p)).run Try.prog w = .ok () (setM w D o) ∧ CR (setM w D o) C F most E (updN N s p) ∧ Fr F F w (setM w D o) := by
  obtain ⟨⟨K, D, tl, h1, h2, h3, h4⟩, h5, h6⟩ := h
  refine ⟨D, h1.cells.2.2, h1.mc.look s, fun p => ?_⟩
  obtain ⟨o, k1, k2⟩ := h1.mc.put s p
  obtain ⟨g1, g2⟩ := h1.count k2
  exact ⟨o, k1, ⟨⟨K, D, tl, g1, h2, h3, h4⟩, h5, h6⟩, (g2.from h4).sub fun q hq => (h4 q).1 hq⟩
theorem CR.same (h : CR w C F most E N) {s : List UInt8} : CR w C F most (updE E s (E s)) N := by
  have : updE E s (E s) = E := by
    funext x
    unfold updE
    by_cases e : x = s <;> simp [e]
  rw [this]
  exact h
end Go.Proofs.Ytbcdaddbcjagjaa
