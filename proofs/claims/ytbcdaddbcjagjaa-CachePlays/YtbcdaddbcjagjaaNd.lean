/- Maps by texts, as they lie: what a key leads to, a new key, a key goes, how many there are. -/
import Derived.Test.YtbcdaddbcjagjaaNc
import Derived.Maps.Own
namespace Go.Proofs.Ytbcdaddbcjagjaa
open Go.RowKit
set_option linter.unusedVariables false
set_option linter.unusedSimpArgs false

/-- An entry: the tenant's name, its queue's block, when it was born. -/
structure En where
  nm : List UInt8
  q : Nat
  born : Nat
def ents (l : List En) : List MapEntry := l.map fun p => ⟨.string (tx p.nm), .pointer (some ⟨p.q, 0, none⟩), p.born⟩
/-- Where a name stands, and its queue. -/
def fndE (s : List UInt8) : List En → Nat → Option (Nat × Nat)
  | [], _ => none
  | p :: r, i => if s = p.nm then some (i, p.q) else fndE s r (i + 1)
theorem tx_beq (s t : List UInt8) : (tx s == tx t) = decide (s = t) := by
  have e : (tx s == tx t) = (s.toArray == t.toArray) := rfl
  rw [e]
  by_cases h : s = t
  · subst h; simp
  · simp [h]
theorem ents_erase : ∀ (l : List En) (i : Nat), (ents l).eraseIdx i = ents (l.eraseIdx i)
  | [], _ => rfl
  | _ :: _, 0 => rfl
  | p :: r, i + 1 => congrArg (_ :: ·) (ents_erase r i)
theorem findNow_ents (s : List UInt8) : ∀ (l : List En) (i : Nat), Instr.findNow .string (.string (tx s)) (ents l) i = some ((fndE s l i).map fun p => (p.1, .pointer (some ⟨p.2, 0, none⟩)))
  | [], _ => rfl
  | p :: r, i => by
    have ih := findNow_ents s r (i + 1)
    unfold ents at ih ⊢
    simp only [List.map_cons, Instr.findNow, Instr.sameNow, fndE, tx_beq]
    by_cases h : s = p.nm
    · simp [h]
    · simp [h, ih]
/-- A map by texts, as it lies. -/
def MapAt (w : World) (B : Nat) (l : List En) (c : Nat) : Prop := w.heap[B]? = some (.map (ents l).toArray c)
theorem under9 : Try.prog.underlying 9 = some .string := by kernel_rfl
theorem under87 : Try.prog.underlying 87 = some (.map 9 88) := by kernel_rfl
theorem zero88 (w : World) : (zeroValue 88).run Try.prog w = .ok (.pointer none) w := by kernel_rfl
theorem run_findKey_ents (s : List UInt8) (l : List En) (w : World) : (Instr.findKey 9 (.string (tx s)) (ents l)).run Try.prog w = .ok ((fndE s l 0).map fun p => (p.1, .pointer (some ⟨p.2, 0, none⟩))) w := by
  simp [Instr.findKey, run_underlying under9, findNow_ents, Result.andThen]
theorem run_check (s : ByteArray) (b : Bool) (w : World) : (Instr.checkKey b 10000 9 (.string s)).run Try.prog w = .ok () w := MapKept.run_checkKey under9 (by trivial) b 9999
/-- What a key leads to. -/
def atE (s : List UInt8) (l : List En) : Value := match fndE s l 0 with | some p => .pointer (some ⟨p.2, 0, none⟩) | none => .pointer none
theorem run_look {w : World} {B c : Nat} {l : List En} (h : MapAt w B l c) (s : List UInt8) :
    (Instr.lookup 87 (.map (some B)) (.string (tx s)) false).run Try.prog w = .ok (atE s l) w := by
  unfold MapAt at h
  unfold atE
  cases hf : fndE s l 0 with
  | none => simp [Instr.lookup, run_underlying under87, MapKept.run_getObj_map h, run_check, run_findKey_ents, hf, zero88, Result.andThen]
  | some p => simp [Instr.lookup, run_underlying under87, MapKept.run_getObj_map h, run_check, run_findKey_ents, hf, Result.andThen]
/-- No map. -/
theorem run_look_nil (w : World) (s : List UInt8) : (Instr.lookup 87 (.map none) (.string (tx s)) false).run Try.prog w = .ok (.pointer none) w := by
  have h0 := run_findKey_ents s [] w
  unfold ents fndE at h0
  simp only [List.map_nil] at h0
  simp [Instr.lookup, run_underlying under87, run_check, h0, zero88, Result.andThen]
/-- A new key. -/
theorem run_put_new {w : World} {B c : Nat} {l : List En} (h : MapAt w B l c) {s : List UInt8} (hf : fndE s l 0 = none) (q : Nat) :
    (Instr.mapUpdate 87 (.map (some B)) (.string (tx s)) (.pointer (some ⟨q, 0, none⟩))).run Try.prog w = .ok () { w with heap := w.heap.setIfInBounds B (.map (ents (l ++ [⟨s, q, c⟩])).toArray (c + 1)) } := by
  unfold MapAt at h
  have e1 : ents l ++ [{ key := .string (tx s), val := .pointer (some ⟨q, 0, none⟩), born := c }] = ents (l ++ [⟨s, q, c⟩]) := by simp [ents]
  simp [Instr.mapUpdate, run_underlying under87, MapKept.run_getObj_map h, run_check, run_findKey_ents, hf, MapKept.run_setObj_map _ h, Result.andThen]
  rw [e1]
/-- A key goes. -/
theorem run_del {w : World} {B c : Nat} {l : List En} (h : MapAt w B l c) {s : List UInt8} {i q : Nat} (hf : fndE s l 0 = some (i, q)) (ty : TypeId) :
    (Builtin.delete_ #[87, 9] ty #[.map (some B), .string (tx s)]).run Try.prog w = .ok (.tuple #[]) { w with heap := w.heap.setIfInBounds B (.map (ents (l.eraseIdx i)).toArray c) } := by
  unfold MapAt at h
  simp [Builtin.delete_, run_underlying under87, MapKept.run_getObj_map h, run_check, run_findKey_ents, hf, MapKept.run_setObj_map _ h, Result.andThen]
  rw [ents_erase]
/-- The pairs of a map, whatever their order. -/
def lkM (s : List UInt8) : List (List UInt8 × Nat) → Option Nat
  | [] => none
  | p :: r => if s = p.1 then some p.2 else lkM s r
def prs (l : List En) : List (List UInt8 × Nat) := l.map fun e => (e.nm, e.q)
theorem lkM_mem : ∀ {l : List (List UInt8 × Nat)} {s : List UInt8} {q : Nat}, lkM s l = some q → (s, q) ∈ l
  | [], s, q, h => by simp [lkM] at h
  | p :: r, s, q, h => by
    unfold lkM at h
    split at h
    · rename_i e
      have := Option.some.inj h
      subst this
      rw [e]
      exact List.mem_cons_self
    · exact List.mem_cons_of_mem _ (lkM_mem h)
theorem lkM_of : ∀ {l : List (List UInt8 × Nat)} {s : List UInt8} {q : Nat}, (l.map Prod.fst).Nodup → (s, q) ∈ l → lkM s l = some q
  | [], s, q, hn, h => by simp at h
  | p :: r, s, q, hn, h => by
    unfold lkM
    rcases List.mem_cons.1 h with h | h
    · rw [← h]; simp
    · rw [if_neg, lkM_of (List.nodup_cons.1 hn).2 h]
      intro e
      exact (List.nodup_cons.1 hn).1 (List.mem_map.2 ⟨(s, q), h, e⟩)
theorem lkM_none : ∀ {l : List (List UInt8 × Nat)} {s : List UInt8}, lkM s l = none ↔ s ∉ l.map Prod.fst
  | [], s => by simp [lkM]
  | p :: r, s => by
    unfold lkM
    by_cases e : s = p.1
    · simp [e]
    · rw [if_neg e, lkM_none (l := r)]
      simp [e]
theorem fndE_some : ∀ {l : List En} {s : List UInt8} {k i q : Nat}, fndE s l k = some (i, q) → k ≤ i ∧ ∃ e, l[i - k]? = some e ∧ e.nm = s ∧ e.q = q
  | [], s, k, i, q, h => by simp [fndE] at h
  | p :: r, s, k, i, q, h => by
    unfold fndE at h
    split at h
    · rename_i e
      obtain ⟨rfl, rfl⟩ := Prod.mk.inj (Option.some.inj h)
      exact ⟨Nat.le_refl _, p, by simp, e.symm, rfl⟩
    · obtain ⟨h1, e, h2, h3, h4⟩ := fndE_some h
      refine ⟨by omega, e, ?_, h3, h4⟩
      rw [show i - k = (i - (k + 1)) + 1 by omega, List.getElem?_cons_succ]
      exact h2
theorem fndE_lk : ∀ (l : List En) (s : List UInt8) (k : Nat), (fndE s l k).map Prod.snd = lkM s (prs l)
  | [], s, k => rfl
  | p :: r, s, k => by
    unfold fndE
    show _ = lkM s ((p.nm, p.q) :: prs r)
    unfold lkM
    by_cases e : s = p.nm
    · simp [e]
    · simp only [e, if_false]
      exact fndE_lk r s (k + 1)
theorem lkM_perm {a b : List (List UInt8 × Nat)} (h : a.Perm b) (hn : (b.map Prod.fst).Nodup) (s : List UInt8) : lkM s a = lkM s b := by
  have hna : (a.map Prod.fst).Nodup := (h.map Prod.fst).nodup_iff.2 hn
  cases hb : lkM s b with
  | none =>
    rw [lkM_none] at hb ⊢
    exact fun e => hb ((h.map Prod.fst).mem_iff.1 e)
  | some q => exact lkM_of hna (h.mem_iff.2 (lkM_mem hb))
/-- A map against pairs. -/
structure Bok (es : List En) (c : Nat) : Prop where
  nd : (es.map En.born).Nodup
  lt : ∀ e ∈ es, e.born < c
theorem Bok.put {es : List En} {c : Nat} (h : Bok es c) (s : List UInt8) (q : Nat) : Bok (es ++ [⟨s, q, c⟩]) (c + 1) := by
  refine ⟨?_, fun e he => ?_⟩
  · rw [List.map_append, List.nodup_append]
    refine ⟨h.nd, by simp, fun x hx y hy e => ?_⟩
    obtain ⟨z, hz, rfl⟩ := List.mem_map.1 hx
    have := h.lt z hz
    simp at hy
    omega
  · rcases List.mem_append.1 he with he | he
    · have := h.lt e he; omega
    · rw [List.mem_singleton.1 he]; exact Nat.lt_succ_self c
theorem Bok.del {es : List En} {c : Nat} (h : Bok es c) (i : Nat) : Bok (es.eraseIdx i) c := ⟨h.nd.sublist ((List.eraseIdx_sublist es i).map _), fun e he => h.lt e ((List.eraseIdx_sublist es i).subset he)⟩
theorem Bok.nil : Bok [] 0 := ⟨List.nodup_nil, fun e he => (nomatch he)⟩
def MM (w : World) (B : Nat) (ml : List (List UInt8 × Nat)) : Prop := ∃ es c, MapAt w B es c ∧ (prs es).Perm ml ∧ Bok es c
def ptM (o : Option Nat) : Value := match o with | some q => .pointer (some ⟨q, 0, none⟩) | none => .pointer none
theorem MM.look {w : World} {B : Nat} {ml : List (List UInt8 × Nat)} (h : MM w B ml) (hn : (ml.map Prod.fst).Nodup) (s : List UInt8) : (Instr.lookup 87 (.map (some B)) (.string (tx s)) false).run Try.prog w = .ok (ptM (lkM s ml)) w := by
  obtain ⟨es, c, h1, h2, hB⟩ := h
  rw [run_look h1 s]
  congr 1
  rw [← lkM_perm h2 hn s, ← fndE_lk es s 0]
  unfold atE ptM
  cases fndE s es 0 <;> rfl
theorem MM.at' {w w' : World} {B : Nat} {ml : List (List UInt8 × Nat)} (h : MM w B ml) (hk : w'.heap[B]? = w.heap[B]?) : MM w' B ml := by
  obtain ⟨es, c, h1, h2, hB⟩ := h
  exact ⟨es, c, hk.trans h1, h2, hB⟩
theorem MM.lt {w : World} {B : Nat} {ml : List (List UInt8 × Nat)} (h : MM w B ml) : B < w.heap.size := by
  obtain ⟨es, c, h1, h2, hB⟩ := h
  exact (Array.getElem?_eq_some_iff.1 h1).1
/-- A world with another map in a block. -/
def setM (w : World) (B : Nat) (o : Obj) : World := { w with heap := w.heap.setIfInBounds B o }
theorem setM_at {w : World} {B : Nat} {o : Obj} (h : B < w.heap.size) : (setM w B o).heap[B]? = some o := by
  unfold setM
  simp [h]
theorem setM_off {w : World} {B q : Nat} {o : Obj} (h : q ≠ B) : (setM w B o).heap[q]? = w.heap[q]? := by
  unfold setM
  simp only
  rw [Array.getElem?_setIfInBounds_ne (fun e => h e.symm)]
theorem setM_size {w : World} {B : Nat} {o : Obj} : (setM w B o).heap.size = w.heap.size := by
  unfold setM
  simp
theorem MM.put {w : World} {B : Nat} {ml : List (List UInt8 × Nat)} (h : MM w B ml) {s : List UInt8} (hs : s ∉ ml.map Prod.fst) (q : Nat) : ∃ o, (Instr.mapUpdate 87 (.map (some B)) (.string (tx s)) (.pointer (some ⟨q, 0, none⟩))).run Try.prog w = .ok () (setM w B o) ∧ MM (setM w B o) B (ml ++ [(s, q)]) := by
  obtain ⟨es, c, h1, h2, hB⟩ := h
  have hf : fndE s es 0 = none := by
    have h3 := fndE_lk es s 0
    rw [lkM_none.2 (fun e => hs ((h2.map Prod.fst).mem_iff.1 e))] at h3
    cases hh : fndE s es 0 with
    | none => rfl
    | some p => rw [hh] at h3; simp at h3
  refine ⟨_, run_put_new h1 hf q, es ++ [(⟨s, q, c⟩ : En)], c + 1, setM_at (Array.getElem?_eq_some_iff.1 h1).1, ?_, hB.put s q⟩
  unfold prs
  rw [List.map_append]
  exact h2.append_right _
theorem prs_erase : ∀ (l : List En) (i : Nat), prs (l.eraseIdx i) = (prs l).eraseIdx i
  | [], _ => rfl
  | _ :: _, 0 => rfl
  | p :: r, i + 1 => congrArg (_ :: ·) (prs_erase r i)
theorem perm_idx {α : Type} : ∀ (l : List α) (i : Nat) {x : α}, l[i]? = some x → l.Perm (x :: l.eraseIdx i)
  | [], i, x, h => by simp at h
  | p :: r, 0, x, h => by
    have : p = x := by simpa using h
    subst this
    exact List.Perm.refl _
  | p :: r, i + 1, x, h => by
    have h' : r[i]? = some x := by simpa using h
    exact ((perm_idx r i h').cons p).trans (List.Perm.swap _ _ _)
theorem MM.del {w : World} {B : Nat} {ml : List (List UInt8 × Nat)} (h : MM w B ml) (hn : (ml.map Prod.fst).Nodup) {s : List UInt8} {q : Nat} (hs : (s, q) ∈ ml) (ty : TypeId) : ∃ o, (Builtin.delete_ #[87, 9] ty #[.map (some B), .string (tx s)]).run Try.prog w = .ok (.tuple #[]) (setM w B o) ∧ MM (setM w B o) B (ml.erase (s, q)) := by
  obtain ⟨es, c, h1, h2, hB⟩ := h
  have hl : lkM s (prs es) = some q := by rw [lkM_perm h2 hn s]; exact lkM_of hn hs
  have h3 := fndE_lk es s 0
  rw [hl] at h3
  obtain ⟨⟨i, q'⟩, hf, rfl⟩ : ∃ p, fndE s es 0 = some p ∧ p.2 = q := by
    cases hh : fndE s es 0 with
    | none => rw [hh] at h3; simp at h3
    | some p => rw [hh] at h3; exact ⟨p, rfl, by simpa using h3⟩
  obtain ⟨-, e, he, e1, e2⟩ := fndE_some hf
  refine ⟨_, run_del h1 hf ty, es.eraseIdx i, c, setM_at (Array.getElem?_eq_some_iff.1 h1).1, ?_, hB.del i⟩
  refine List.Perm.trans ?_ (h2.erase (s, q'))
  have hx : (prs es)[i]? = some (s, q') := by
    unfold prs
    rw [List.getElem?_map, show i = i - 0 by omega, he]
    simp [← e1, ← e2]
  have hp : (prs (es.eraseIdx i)) = (prs es).eraseIdx i := prs_erase es i
  rw [hp]
  obtain ⟨hlt, hget⟩ := List.getElem?_eq_some_iff.1 hx
  have h5 : (prs es).Perm ((s, q') :: (prs es).eraseIdx i) := by
    exact perm_idx _ i hx
  have h6 := h5.erase (s, q')
  rw [List.erase_cons_head] at h6
  exact h6.symm
end Go.Proofs.Ytbcdaddbcjagjaa
