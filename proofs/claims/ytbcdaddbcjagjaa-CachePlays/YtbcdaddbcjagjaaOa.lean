/- The cache's two maps: kept, by names to lists by keys; counts, by names to counts. -/
import Derived.Test.YtbcdaddbcjagjaaNl
namespace Go.Proofs.Ytbcdaddbcjagjaa
open Go.RowKit
set_option linter.unusedVariables false
set_option linter.unusedSimpArgs false

theorem under70 : Try.prog.underlying 70 = some (.map 9 74) := by kernel_rfl
theorem zero74 (w : World) : (zeroValue 74).run Try.prog w = .ok (.pointer none) w := by kernel_rfl
theorem run_look70 {w : World} {B c : Nat} {l : List En} (h : MapAt w B l c) (s : List UInt8) :
    (Instr.lookup 70 (.map (some B)) (.string (tx s)) false).run Try.prog w = .ok (atE s l) w := by
  unfold MapAt at h
  unfold atE
  cases hf : fndE s l 0 with
  | none => simp [Instr.lookup, run_underlying under70, MapKept.run_getObj_map h, run_check, run_findKey_ents, hf, zero74, Result.andThen]
  | some p => simp [Instr.lookup, run_underlying under70, MapKept.run_getObj_map h, run_check, run_findKey_ents, hf, Result.andThen]
theorem run_put_new70 {w : World} {B c : Nat} {l : List En} (h : MapAt w B l c) {s : List UInt8} (hf : fndE s l 0 = none) (q : Nat) :
    (Instr.mapUpdate 70 (.map (some B)) (.string (tx s)) (.pointer (some ⟨q, 0, none⟩))).run Try.prog w = .ok () { w with heap := w.heap.setIfInBounds B (.map (ents (l ++ [⟨s, q, c⟩])).toArray (c + 1)) } := by
  unfold MapAt at h
  have e1 : ents l ++ [{ key := .string (tx s), val := .pointer (some ⟨q, 0, none⟩), born := c }] = ents (l ++ [⟨s, q, c⟩]) := by simp [ents]
  simp [Instr.mapUpdate, run_underlying under70, MapKept.run_getObj_map h, run_check, run_findKey_ents, hf, MapKept.run_setObj_map _ h, Result.andThen]
  rw [e1]
theorem run_del70 {w : World} {B c : Nat} {l : List En} (h : MapAt w B l c) {s : List UInt8} {i q : Nat} (hf : fndE s l 0 = some (i, q)) (ty : TypeId) :
    (Builtin.delete_ #[70, 9] ty #[.map (some B), .string (tx s)]).run Try.prog w = .ok (.tuple #[]) { w with heap := w.heap.setIfInBounds B (.map (ents (l.eraseIdx i)).toArray c) } := by
  unfold MapAt at h
  simp [Builtin.delete_, run_underlying under70, MapKept.run_getObj_map h, run_check, run_findKey_ents, hf, MapKept.run_setObj_map _ h, Result.andThen]
  rw [ents_erase]
theorem MM.look70 {w : World} {B : Nat} {ml : List (List UInt8 × Nat)} (h : MM w B ml) (hn : (ml.map Prod.fst).Nodup) (s : List UInt8) : (Instr.lookup 70 (.map (some B)) (.string (tx s)) false).run Try.prog w = .ok (ptM (lkM s ml)) w := by
  obtain ⟨es, c, h1, h2, hB⟩ := h
  rw [run_look70 h1 s]
  congr 1
  rw [← lkM_perm h2 hn s, ← fndE_lk es s 0]
  unfold atE ptM
  cases fndE s es 0 <;> rfl
theorem MM.put70 {w : World} {B : Nat} {ml : List (List UInt8 × Nat)} (h : MM w B ml) {s : List UInt8} (hs : s ∉ ml.map Prod.fst) (q : Nat) : ∃ o, (Instr.mapUpdate 70 (.map (some B)) (.string (tx s)) (.pointer (some ⟨q, 0, none⟩))).run Try.prog w = .ok () (setM w B o) ∧ MM (setM w B o) B (ml ++ [(s, q)]) := by
  obtain ⟨es, c, h1, h2, hB⟩ := h
  have hf : fndE s es 0 = none := by
    have h3 := fndE_lk es s 0
    rw [lkM_none.2 (fun e => hs ((h2.map Prod.fst).mem_iff.1 e))] at h3
    cases hh : fndE s es 0 with
    | none => rfl
    | some p => rw [hh] at h3; simp at h3
  refine ⟨_, run_put_new70 h1 hf q, es ++ [(⟨s, q, c⟩ : En)], c + 1, setM_at (Array.getElem?_eq_some_iff.1 h1).1, ?_, hB.put s q⟩
  unfold prs
  rw [List.map_append]
  exact h2.append_right _
theorem MM.del70 {w : World} {B : Nat} {ml : List (List UInt8 × Nat)} (h : MM w B ml) (hn : (ml.map Prod.fst).Nodup) {s : List UInt8} {q : Nat} (hs : (s, q) ∈ ml) (ty : TypeId) : ∃ o, (Builtin.delete_ #[70, 9] ty #[.map (some B), .string (tx s)]).run Try.prog w = .ok (.tuple #[]) (setM w B o) ∧ MM (setM w B o) B (ml.erase (s, q)) := by
  obtain ⟨es, c, h1, h2, hB⟩ := h
  have hl : lkM s (prs es) = some q := by rw [lkM_perm h2 hn s]; exact lkM_of hn hs
  have h3 := fndE_lk es s 0
  rw [hl] at h3
  obtain ⟨⟨i, q'⟩, hf, rfl⟩ : ∃ p, fndE s es 0 = some p ∧ p.2 = q := by
    cases hh : fndE s es 0 with
    | none => rw [hh] at h3; simp at h3
    | some p => rw [hh] at h3; exact ⟨p, rfl, by simpa using h3⟩
  obtain ⟨-, e, he, e1, e2⟩ := fndE_some hf
  refine ⟨_, run_del70 h1 hf ty, es.eraseIdx i, c, setM_at (Array.getElem?_eq_some_iff.1 h1).1, ?_, hB.del i⟩
  refine List.Perm.trans ?_ (h2.erase (s, q'))
  have hx : (prs es)[i]? = some (s, q') := by
    unfold prs
    rw [List.getElem?_map, show i = i - 0 by omega, he]
    simp [← e1, ← e2]
  have hp : (prs (es.eraseIdx i)) = (prs es).eraseIdx i := prs_erase es i
  rw [hp]
  obtain ⟨hlt, hget⟩ := List.getElem?_eq_some_iff.1 hx
  have h5 : (prs es).Perm ((s, q') :: (prs es).eraseIdx i) := by
    exact perm_idx _ i hx
  have h6 := h5.erase (s, q')
  rw [List.erase_cons_head] at h6
  exact h6.symm
theorem run_len70 {w : World} {B : Nat} {ml : List (List UInt8 × Nat)} (h : MM w B ml) (ty : TypeId) : (Builtin.len_ #[70] ty #[.map (some B)]).run Try.prog w = .ok (.int .i64 (ml.length : Int)) w := by
  obtain ⟨es, c, h1, h2, hB⟩ := h
  have hl : es.length = ml.length := by have := h2.length_eq; simpa [prs] using this
  unfold MapAt at h1
  simp [Builtin.len_, run_underlying under70, MapKept.run_getObj_map h1, Result.andThen, ents, goInt, hl]
/-! Counts. -/
structure Ce where
  nm : List UInt8
  h : Int
  m : Int
  born : Nat
def cV (p : Int × Int) : Value := .agg #[.int .i64 p.1, .int .i64 p.2]
def entsC (l : List Ce) : List MapEntry := l.map fun p => ⟨.string (tx p.nm), cV (p.h, p.m), p.born⟩
def fndC (s : List UInt8) : List Ce → Nat → Option (Nat × (Int × Int))
  | [], _ => none
  | p :: r, i => if s = p.nm then some (i, (p.h, p.m)) else fndC s r (i + 1)
theorem findNow_entsC (s : List UInt8) : ∀ (l : List Ce) (i : Nat), Instr.findNow .string (.string (tx s)) (entsC l) i = some ((fndC s l i).map fun p => (p.1, cV p.2))
  | [], _ => rfl
  | p :: r, i => by
    have ih := findNow_entsC s r (i + 1)
    unfold entsC at ih ⊢
    simp only [List.map_cons, Instr.findNow, Instr.sameNow, fndC, tx_beq]
    by_cases h : s = p.nm
    · simp [h]
    · simp [h, ih]
theorem under71 : Try.prog.underlying 71 = some (.map 9 43) := by kernel_rfl
theorem zero43 (w : World) : (zeroValue 43).run Try.prog w = .ok (cV (0, 0)) w := by kernel_rfl
theorem run_findKey_entsC (s : List UInt8) (l : List Ce) (w : World) : (Instr.findKey 9 (.string (tx s)) (entsC l)).run Try.prog w = .ok ((fndC s l 0).map fun p => (p.1, cV p.2)) w := by
  simp [Instr.findKey, run_underlying under9, findNow_entsC, Result.andThen]
def lkC (s : List UInt8) (l : List Ce) : Int × Int := ((fndC s l 0).map Prod.snd).getD (0, 0)
/-- The map of counts, against what each name has. -/
def MC (w : World) (B : Nat) (N : List UInt8 → Int × Int) : Prop := ∃ es c, w.heap[B]? = some (.map (entsC es).toArray c) ∧ ∀ s, lkC s es = N s
theorem MC.look {w : World} {B : Nat} {N : List UInt8 → Int × Int} (h : MC w B N) (s : List UInt8) : (Instr.lookup 71 (.map (some B)) (.string (tx s)) false).run Try.prog w = .ok (cV (N s)) w := by
  obtain ⟨es, c, h1, h2⟩ := h
  rw [← h2 s]
  unfold lkC
  cases hf : fndC s es 0 with
  | none =>
    simp [Instr.lookup, run_underlying under71, MapKept.run_getObj_map h1, run_check, run_findKey_entsC, hf, zero43, Result.andThen]
    try rfl
  | some p => simp [Instr.lookup, run_underlying under71, MapKept.run_getObj_map h1, run_check, run_findKey_entsC, hf, Result.andThen]
def updN (N : List UInt8 → Int × Int) (s : List UInt8) (v : Int × Int) : List UInt8 → Int × Int := fun s' => if s' = s then v else N s'
theorem fndC_shift : ∀ (l : List Ce) (s : List UInt8) (k : Nat), (fndC s l k).map Prod.snd = (fndC s l 0).map Prod.snd
  | [], s, k => rfl
  | p :: r, s, k => by
    unfold fndC
    by_cases e : s = p.nm
    · simp [e]
    · simp only [e, if_false]
      rw [fndC_shift r s (k + 1), fndC_shift r s (0 + 1)]
theorem lkC_cons (p : Ce) (r : List Ce) (s : List UInt8) : lkC s (p :: r) = if s = p.nm then (p.h, p.m) else lkC s r := by
  unfold lkC
  rw [show fndC s (p :: r) 0 = if s = p.nm then some (0, (p.h, p.m)) else fndC s r 1 from rfl]
  by_cases e : s = p.nm
  · simp [e]
  · simp only [e, if_false]
    rw [fndC_shift r s 1]
theorem lkC_app : ∀ (l : List Ce) (p : Ce) (s : List UInt8), fndC p.nm l 0 = none → lkC s (l ++ [p]) = if s = p.nm then (p.h, p.m) else lkC s l
  | [], p, s, h => by rw [List.nil_append, lkC_cons]
  | q :: r, p, s, h => by
    have hq : ¬ p.nm = q.nm := fun e => by unfold fndC at h; simp [e] at h
    have hr : fndC p.nm r 0 = none := by
      unfold fndC at h
      rw [if_neg hq] at h
      have := fndC_shift r p.nm (0 + 1)
      rw [h] at this
      cases hh : fndC p.nm r 0 with
      | none => rfl
      | some v => rw [hh] at this; simp at this
    rw [List.cons_append, lkC_cons, lkC_app r p s hr, lkC_cons]
    by_cases e : s = q.nm
    · have : ¬ s = p.nm := fun e2 => hq (e2.symm.trans e)
      simp [e]
      intro e3
      exact (hq (e3 ▸ rfl)).elim
    · simp [e]
theorem lkC_mod : ∀ (l : List Ce) (s : List UInt8) (k i : Nat) (v : Int × Int), fndC s l k = some (i, v) → ∀ (p : Int × Int), k ≤ i ∧ ∃ l', (entsC l).modify (i - k) (fun e => { e with key := .string (tx s), val := cV p }) = entsC l' ∧ ∀ s', lkC s' l' = if s' = s then p else lkC s' l
  | [], s, k, i, v, h, p => by simp [fndC] at h
  | q :: r, s, k, i, v, h, p => by
    unfold fndC at h
    by_cases e : s = q.nm
    · rw [if_pos e] at h
      obtain ⟨rfl, rfl⟩ := Prod.mk.inj (Option.some.inj h)
      refine ⟨Nat.le_refl _, ⟨s, p.1, p.2, q.born⟩ :: r, ?_, fun s' => ?_⟩
      · simp [entsC]
      · rw [lkC_cons, lkC_cons]
        by_cases e2 : s' = s
        · simp [e2]
        · simp [e2, ← e]
    · rw [if_neg e] at h
      obtain ⟨h1, l', h2, h3⟩ := lkC_mod r s (k + 1) i v h p
      refine ⟨by omega, q :: l', ?_, fun s' => ?_⟩
      · rw [show i - k = (i - (k + 1)) + 1 by omega]
        show (_ :: entsC r).modify (_ + 1) _ = _ :: entsC l'
        rw [List.modify_succ_cons, h2]
      · rw [lkC_cons, lkC_cons, h3]
        by_cases e2 : s' = s
        · simp [e2, e]
        · simp [e2]
theorem fndC_key (l : List Ce) (s : List UInt8) (k i : Nat) (v : Int × Int) (h : fndC s l k = some (i, v)) : (Option.map (fun x : MapEntry => x.key) (entsC l)[i - k]?).getD (.string (tx s)) = .string (tx s) := by
  induction l generalizing k with
  | nil => simp [fndC] at h
  | cons q r ih =>
    unfold fndC at h
    by_cases e : s = q.nm
    · rw [if_pos e] at h
      obtain ⟨rfl, rfl⟩ := Prod.mk.inj (Option.some.inj h)
      simp [entsC, e]
    · rw [if_neg e] at h
      have h1 : k + 1 ≤ i := (lkC_mod r s (k + 1) i v h (0, 0)).1
      rw [show i - k = (i - (k + 1)) + 1 by omega]
      exact ih (k + 1) h
theorem stays (s : List UInt8) (w : World) : (Instr.keyThatStays (.string (tx s)) (.string (tx s))).run Try.prog w = .ok (.string (tx s)) w := by
  have h : Instr.sameBits 10000 (.string (tx s)) (.string (tx s)) = true := by
    simp [Instr.sameBits, tx_beq]
  simp [Instr.keyThatStays, h]
theorem MC.put {w : World} {B : Nat} {N : List UInt8 → Int × Int} (h : MC w B N) (s : List UInt8) (p : Int × Int) : ∃ o, (Instr.mapUpdate 71 (.map (some B)) (.string (tx s)) (cV p)).run Try.prog w = .ok () (setM w B o) ∧ MC (setM w B o) B (updN N s p) := by
  obtain ⟨es, c, h1, h2⟩ := h
  have hlt := (Array.getElem?_eq_some_iff.1 h1).1
  cases hf : fndC s es 0 with
  | none =>
    refine ⟨.map (entsC (es ++ [⟨s, p.1, p.2, c⟩])).toArray (c + 1), ?_, es ++ [⟨s, p.1, p.2, c⟩], c + 1, setM_at hlt, fun s' => ?_⟩
    · have e1 : entsC es ++ [{ key := .string (tx s), val := cV p, born := c }] = entsC (es ++ [⟨s, p.1, p.2, c⟩]) := by simp [entsC]
      simp [Instr.mapUpdate, run_underlying under71, MapKept.run_getObj_map h1, run_check, run_findKey_entsC, hf, MapKept.run_setObj_map _ h1, Result.andThen]
      rw [e1]
      rfl
    · rw [lkC_app es ⟨s, p.1, p.2, c⟩ s' hf, h2]
      rfl
  | some iv =>
    obtain ⟨i, v⟩ := iv
    obtain ⟨-, l', h3, h4⟩ := lkC_mod es s 0 i v hf p
    refine ⟨.map (entsC l').toArray c, ?_, l', c, setM_at hlt, fun s' => by rw [h4, h2]; rfl⟩
    rw [Nat.sub_zero] at h3
    simp [Instr.mapUpdate, run_underlying under71, MapKept.run_getObj_map h1, run_check, run_findKey_entsC, hf, MapKept.run_setObj_map _ h1, Result.andThen]
    have hkey := fndC_key es s 0 i v hf
    rw [Nat.sub_zero] at hkey
    rw [hkey, stays s w]
    simp only
    rw [MapKept.run_setObj_map _ h1, h3]
    rfl
theorem MC.at' {w w' : World} {B : Nat} {N : List UInt8 → Int × Int} (h : MC w B N) (hk : w'.heap[B]? = w.heap[B]?) : MC w' B N := by
  obtain ⟨es, c, h1, h2⟩ := h
  exact ⟨es, c, hk.trans h1, h2⟩
theorem MC.new (w : World) : MC (w.alloc (.map #[] 0)) w.heap.size fun _ => (0, 0) := ⟨[], 0, heap_alloc_new _ _, fun _ => rfl⟩
theorem MC.lt {w : World} {B : Nat} {N : List UInt8 → Int × Int} (h : MC w B N) : B < w.heap.size := by
  obtain ⟨es, c, h1, h2⟩ := h
  exact (Array.getElem?_eq_some_iff.1 h1).1
end Go.Proofs.Ytbcdaddbcjagjaa
