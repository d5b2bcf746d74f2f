import Derived.Test.YtflhgphjkhplmaaML06
import Derived.Maps.Own
import Derived.Test.YtflhgphjkhplmaaML02
import Derived.Deep.CutRange
import Derived.Laws.CopyOwn
import Derived.Laws.MakeOwn
import Derived.LoopN
import Derived.Lib.TrimByte
/- A disk's map: names to files. -/
namespace Go.Proofs.Ytflhgphjkhplmaa.D
open Go.RowKit
set_option linter.unusedVariables false
set_option linter.unusedSimpArgs false

/-- An entry: the tenant's name, its queue's block, when it was born. -/
structure En where
  nm : List UInt8
  q : Nat
  born : Nat
def ents (l : List En) : List MapEntry := l.map fun p => ⟨.string (tx p.nm), .pointer (some ⟨p.q, 0, none⟩), p.born⟩
/-- Where a name stands, and its queue. -/
def fndE (s : List UInt8) : List En → Nat → Option (Nat × Nat)
  | [], _ => none
  | p :: r, i => if s = p.nm then some (i, p.q) else fndE s r (i + 1)
theorem tx_beq (s t : List UInt8) : (tx s == tx t) = decide (s = t) := by
  have e : (tx s == tx t) = (s.toArray == t.toArray) := rfl
  rw [e]
  by_cases h : s = t
  · subst h; simp
  · simp [h]
theorem ents_erase : ∀ (l : List En) (i : Nat), (ents l).eraseIdx i = ents (l.eraseIdx i)
  | [], _ => rfl
  | _ :: _, 0 => rfl
  | p :: r, i + 1 => congrArg (_ :: ·) (ents_erase r i)
theorem findNow_ents (s : List UInt8) : ∀ (l : List En) (i : Nat), Instr.findNow .string (.string (tx s)) (ents l) i = some ((fndE s l i).map fun p => (p.1, .pointer (some ⟨p.2, 0, none⟩)))
  | [], _ => rfl
  | p :: r, i => by
    have ih := findNow_ents s r (i + 1)
    unfold ents at ih ⊢
    simp only [List.map_cons, Instr.findNow, Instr.sameNow, fndE, tx_beq]
    by_cases h : s = p.nm
    · simp [h]
    · simp [h, ih]
/-- A map by texts, as it lies. -/
def MapAt (w : World) (B : Nat) (l : List En) (c : Nat) : Prop := w.heap[B]? = some (.map (ents l).toArray c)
theorem under9 : Try.prog.underlying 9 = some .string := by kernel_rfl
theorem under68 : Try.prog.underlying 88 = some (.map 9 112) := by kernel_rfl
theorem zero77 (w : World) : (zeroValue 112).run Try.prog w = .ok (.pointer none) w := by kernel_rfl
theorem run_findKey_ents (s : List UInt8) (l : List En) (w : World) : (Instr.findKey 9 (.string (tx s)) (ents l)).run Try.prog w = .ok ((fndE s l 0).map fun p => (p.1, .pointer (some ⟨p.2, 0, none⟩))) w := by
  simp [Instr.findKey, run_underlying under9, findNow_ents, Result.andThen]
theorem run_check (s : ByteArray) (b : Bool) (w : World) : (Instr.checkKey b 10000 9 (.string s)).run Try.prog w = .ok () w := MapKept.run_checkKey under9 (by trivial) b 9999
/-- What a key leads to. -/
def atE (s : List UInt8) (l : List En) : Value := match fndE s l 0 with | some p => .pointer (some ⟨p.2, 0, none⟩) | none => .pointer none
theorem run_look {w : World} {B c : Nat} {l : List En} (h : MapAt w B l c) (s : List UInt8) :
    (Instr.lookup 88 (.map (some B)) (.string (tx s)) true).run Try.prog w = .ok (.tuple #[atE s l, .bool (fndE s l 0).isSome]) w := by
  unfold MapAt at h
  unfold atE
  cases hf : fndE s l 0 with
  | none => simp [Instr.lookup, run_underlying under68, MapKept.run_getObj_map h, run_check, run_findKey_ents, hf, zero77, Result.andThen]
  | some p => simp [Instr.lookup, run_underlying under68, MapKept.run_getObj_map h, run_check, run_findKey_ents, hf, Result.andThen]
/-- No map. -/
theorem run_look_nil (w : World) (s : List UInt8) : (Instr.lookup 88 (.map none) (.string (tx s)) true).run Try.prog w = .ok (.tuple #[.pointer none, .bool false]) w := by
  have h0 := run_findKey_ents s [] w
  unfold ents fndE at h0
  simp only [List.map_nil] at h0
  simp [Instr.lookup, run_underlying under68, run_check, h0, zero77, Result.andThen]
/-- A new key. -/
theorem run_put_new {w : World} {B c : Nat} {l : List En} (h : MapAt w B l c) {s : List UInt8} (hf : fndE s l 0 = none) (q : Nat) :
    (Instr.mapUpdate 88 (.map (some B)) (.string (tx s)) (.pointer (some ⟨q, 0, none⟩))).run Try.prog w = .ok () { w with heap := w.heap.setIfInBounds B (.map (ents (l ++ [⟨s, q, c⟩])).toArray (c + 1)) } := by
  unfold MapAt at h
  have e1 : ents l ++ [{ key := .string (tx s), val := .pointer (some ⟨q, 0, none⟩), born := c }] = ents (l ++ [⟨s, q, c⟩]) := by simp [ents]
  simp [Instr.mapUpdate, run_underlying under68, MapKept.run_getObj_map h, run_check, run_findKey_ents, hf, MapKept.run_setObj_map _ h, Result.andThen]
  rw [e1]
/-- A key goes. -/
theorem run_del {w : World} {B c : Nat} {l : List En} (h : MapAt w B l c) {s : List UInt8} {i q : Nat} (hf : fndE s l 0 = some (i, q)) (ty : TypeId) :
    (Builtin.delete_ #[88, 9] ty #[.map (some B), .string (tx s)]).run Try.prog w = .ok (.tuple #[]) { w with heap := w.heap.setIfInBounds B (.map (ents (l.eraseIdx i)).toArray c) } := by
  unfold MapAt at h
  simp [Builtin.delete_, run_underlying under68, MapKept.run_getObj_map h, run_check, run_findKey_ents, hf, MapKept.run_setObj_map _ h, Result.andThen]
  rw [ents_erase]
/-- The pairs of a map, whatever their order. -/
def lkM (s : List UInt8) : List (List UInt8 × Nat) → Option Nat
  | [] => none
  | p :: r => if s = p.1 then some p.2 else lkM s r
def prs (l : List En) : List (List UInt8 × Nat) := l.map fun e => (e.nm, e.q)
theorem lkM_mem : ∀ {l : List (List UInt8 × Nat)} {s : List UInt8} {q : Nat}, lkM s l = some q → (s, q) ∈ l
  | [], s, q, h => by simp [lkM] at h
  | p :: r, s, q, h => by
    unfold lkM at h
    split at h
    · rename_i e
      have := Option.some.inj h
      subst this
      rw [e]
      exact List.mem_cons_self
    · exact List.mem_cons_of_mem _ (lkM_mem h)
theorem lkM_of : ∀ {l : List (List UInt8 × Nat)} {s : List UInt8} {q : Nat}, (l.map Prod.fst).Nodup → (s, q) ∈ l → lkM s l = some q
  | [], s, q, hn, h => by simp at h
  | p :: r, s, q, hn, h => by
    unfold lkM
    rcases List.mem_cons.1 h with h | h
    · rw [← h]; simp
    · rw [if_neg, lkM_of (List.nodup_cons.1 hn).2 h]
      intro e
      exact (List.nodup_cons.1 hn).1 (List.mem_map.2 ⟨(s, q), h, e⟩)
theorem lkM_none : ∀ {l : List (List UInt8 × Nat)} {s : List UInt8}, lkM s l = none ↔ s ∉ l.map Prod.fst
  | [], s => by simp [lkM]
  | p :: r, s => by
    unfold lkM
    by_cases e : s = p.1
    · simp [e]
    · rw [if_neg e, lkM_none (l := r)]
      simp [e]
theorem fndE_some : ∀ {l : List En} {s : List UInt8} {k i q : Nat}, fndE s l k = some (i, q) → k ≤ i ∧ ∃ e, l[i - k]? = some e ∧ e.nm = s ∧ e.q = q
  | [], s, k, i, q, h => by simp [fndE] at h
  | p :: r, s, k, i, q, h => by
    unfold fndE at h
    split at h
    · rename_i e
      obtain ⟨rfl, rfl⟩ := Prod.mk.inj (Option.some.inj h)
      exact ⟨Nat.le_refl _, p, by simp, e.symm, rfl⟩
    · obtain ⟨h1, e, h2, h3, h4⟩ := fndE_some h
      refine ⟨by omega, e, ?_, h3, h4⟩
      rw [show i - k = (i - (k + 1)) + 1 by omega, List.getElem?_cons_succ]
      exact h2
theorem fndE_lk : ∀ (l : List En) (s : List UInt8) (k : Nat), (fndE s l k).map Prod.snd = lkM s (prs l)
  | [], s, k => rfl
  | p :: r, s, k => by
    unfold fndE
    show _ = lkM s ((p.nm, p.q) :: prs r)
    unfold lkM
    by_cases e : s = p.nm
    · simp [e]
    · simp only [e, if_false]
      exact fndE_lk r s (k + 1)
theorem lkM_perm {a b : List (List UInt8 × Nat)} (h : a.Perm b) (hn : (b.map Prod.fst).Nodup) (s : List UInt8) : lkM s a = lkM s b := by
  have hna : (a.map Prod.fst).Nodup := (h.map Prod.fst).nodup_iff.2 hn
  cases hb : lkM s b with
  | none =>
    rw [lkM_none] at hb ⊢
    exact fun e => hb ((h.map Prod.fst).mem_iff.1 e)
  | some q => exact lkM_of hna (h.mem_iff.2 (lkM_mem hb))
/-- A map against pairs. -/
structure Bok (es : List En) (c : Nat) : Prop where
  nd : (es.map En.born).Nodup
  lt : ∀ e ∈ es, e.born < c
theorem Bok.put {es : List En} {c : Nat} (h : Bok es c) (s : List UInt8) (q : Nat) : Bok (es ++ [⟨s, q, c⟩]) (c + 1) := by
  refine ⟨?_, fun e he => ?_⟩
  · rw [List.map_append, List.nodup_append]
    refine ⟨h.nd, by simp, fun x hx y hy e => ?_⟩
    obtain ⟨z, hz, rfl⟩ := List.mem_map.1 hx
    have := h.lt z hz
    simp at hy
    omega
  · rcases List.mem_append.1 he with he | he
    · have := h.lt e he; omega
    · rw [List.mem_singleton.1 he]; exact Nat.lt_succ_self c
theorem Bok.del {es : List En} {c : Nat} (h : Bok es c) (i : Nat) : Bok (es.eraseIdx i) c := ⟨h.nd.sublist ((List.eraseIdx_sublist es i).map _), fun e he => h.lt e ((List.eraseIdx_sublist es i).subset he)⟩
theorem Bok.nil : Bok [] 0 := ⟨List.nodup_nil, fun e he => (nomatch he)⟩
def MM (w : World) (B : Nat) (ml : List (List UInt8 × Nat)) : Prop := ∃ es c, MapAt w B es c ∧ (prs es).Perm ml ∧ Bok es c
def ptM (o : Option Nat) : Value := match o with | some q => .pointer (some ⟨q, 0, none⟩) | none => .pointer none
theorem MM.look {w : World} {B : Nat} {ml : List (List UInt8 × Nat)} (h : MM w B ml) (hn : (ml.map Prod.fst).Nodup) (s : List UInt8) : (Instr.lookup 88 (.map (some B)) (.string (tx s)) true).run Try.prog w = .ok (.tuple #[ptM (lkM s ml), .bool (lkM s ml).isSome]) w := by
  obtain ⟨es, c, h1, h2, hB⟩ := h
  rw [run_look h1 s]
  rw [← lkM_perm h2 hn s, ← fndE_lk es s 0]
  unfold atE ptM
  cases fndE s es 0 <;> rfl
theorem MM.at' {w w' : World} {B : Nat} {ml : List (List UInt8 × Nat)} (h : MM w B ml) (hk : w'.heap[B]? = w.heap[B]?) : MM w' B ml := by
  obtain ⟨es, c, h1, h2, hB⟩ := h
  exact ⟨es, c, hk.trans h1, h2, hB⟩
theorem MM.lt {w : World} {B : Nat} {ml : List (List UInt8 × Nat)} (h : MM w B ml) : B < w.heap.size := by
  obtain ⟨es, c, h1, h2, hB⟩ := h
  exact (Array.getElem?_eq_some_iff.1 h1).1
/-- A world with another map in a block. -/
def setM (w : World) (B : Nat) (o : Obj) : World := { w with heap := w.heap.setIfInBounds B o }
theorem setM_at {w : World} {B : Nat} {o : Obj} (h : B < w.heap.size) : (setM w B o).heap[B]? = some o := by
  unfold setM
  simp [h]
theorem setM_off {w : World} {B q : Nat} {o : Obj} (h : q ≠ B) : (setM w B o).heap[q]? = w.heap[q]? := by
  unfold setM
  simp only
  rw [Array.getElem?_setIfInBounds_ne (fun e => h e.symm)]
theorem setM_size {w : World} {B : Nat} {o : Obj} : (setM w B o).heap.size = w.heap.size := by
  unfold setM
  simp
theorem MM.put {w : World} {B : Nat} {ml : List (List UInt8 × Nat)} (h : MM w B ml) {s : List UInt8} (hs : s ∉ ml.map Prod.fst) (q : Nat) : ∃ o, (Instr.mapUpdate 88 (.map (some B)) (.string (tx s)) (.pointer (some ⟨q, 0, none⟩))).run Try.prog w = .ok () (setM w B o) ∧ MM (setM w B o) B (ml ++ [(s, q)]) := by
  obtain ⟨es, c, h1, h2, hB⟩ := h
  have hf : fndE s es 0 = none := by
    have h3 := fndE_lk es s 0
    rw [lkM_none.2 (fun e => hs ((h2.map Prod.fst).mem_iff.1 e))] at h3
    cases hh : fndE s es 0 with
    | none => rfl
    | some p => rw [hh] at h3; simp at h3
  refine ⟨_, run_put_new h1 hf q, es ++ [(⟨s, q, c⟩ : En)], c + 1, setM_at (Array.getElem?_eq_some_iff.1 h1).1, ?_, hB.put s q⟩
  unfold prs
  rw [List.map_append]
  exact h2.append_right _
theorem prs_erase : ∀ (l : List En) (i : Nat), prs (l.eraseIdx i) = (prs l).eraseIdx i
  | [], _ => rfl
  | _ :: _, 0 => rfl
  | p :: r, i + 1 => congrArg (_ :: ·) (prs_erase r i)
theorem perm_idx {α : Type} : ∀ (l : List α) (i : Nat) {x : α}, l[i]? = some x → l.Perm (x :: l.eraseIdx i)
  | [], i, x, h => by simp at h
  | p :: r, 0, x, h => by
    have : p = x := by simpa using h
    subst this
    exact List.Perm.refl _
  | p :: r, i + 1, x, h => by
    have h' : r[i]? = some x := by simpa using h
    exact ((perm_idx r i h').cons p).trans (List.Perm.swap _ _ _)
theorem MM.del {w : World} {B : Nat} {ml : List (List UInt8 × Nat)} (h : MM w B ml) (hn : (ml.map Prod.fst).Nodup) {s : List UInt8} {q : Nat} (hs : (s, q) ∈ ml) (ty : TypeId) : ∃ o, (Builtin.delete_ #[88, 9] ty #[.map (some B), .string (tx s)]).run Try.prog w = .ok (.tuple #[]) (setM w B o) ∧ MM (setM w B o) B (ml.erase (s, q)) := by
  obtain ⟨es, c, h1, h2, hB⟩ := h
  have hl : lkM s (prs es) = some q := by rw [lkM_perm h2 hn s]; exact lkM_of hn hs
  have h3 := fndE_lk es s 0
  rw [hl] at h3
  obtain ⟨⟨i, q'⟩, hf, rfl⟩ : ∃ p, fndE s es 0 = some p ∧ p.2 = q := by
    cases hh : fndE s es 0 with
    | none => rw [hh] at h3; simp at h3
    | some p => rw [hh] at h3; exact ⟨p, rfl, by simpa using h3⟩
  obtain ⟨-, e, he, e1, e2⟩ := fndE_some hf
  refine ⟨_, run_del h1 hf ty, es.eraseIdx i, c, setM_at (Array.getElem?_eq_some_iff.1 h1).1, ?_, hB.del i⟩
  refine List.Perm.trans ?_ (h2.erase (s, q'))
  have hx : (prs es)[i]? = some (s, q') := by
    unfold prs
    rw [List.getElem?_map, show i = i - 0 by omega, he]
    simp [← e1, ← e2]
  have hp : (prs (es.eraseIdx i)) = (prs es).eraseIdx i := prs_erase es i
  rw [hp]
  obtain ⟨hlt, hget⟩ := List.getElem?_eq_some_iff.1 hx
  have h5 : (prs es).Perm ((s, q') :: (prs es).eraseIdx i) := by
    exact perm_idx _ i hx
  have h6 := h5.erase (s, q')
  rw [List.erase_cons_head] at h6
  exact h6.symm
end Go.Proofs.Ytflhgphjkhplmaa.D

/- Where a write ends. -/
namespace Go.Proofs.Ytflhgphjkhplmaa
open Go.RowKit
set_option linter.unusedVariables false
set_option linter.unusedSimpArgs false

theorem i64_at {w : World} {base g cap : Nat} {bg : List Int} (h : w.ownsRow base 3 1 (.slice (some ⟨g, 0, none⟩) bg.length cap) bg.length (i64l bg)) (i : Nat) (hi : i < bg.length) : w.cell? ⟨g, i, none⟩ = some (.int .i64 (bg.getD i 0)) := by
  rw [h.cellAt i (by omega)]
  unfold i64l
  rw [List.getElem?_map, List.getElem?_eq_getElem hi, List.getD_eq_getElem?_getD, List.getElem?_eq_getElem hi]
  rfl
def endI (n : Nat) (bg : List Int) (i : Nat) : Int := if i + 1 < bg.length then bg.getD (i + 1) 0 else (n : Int)
set_option maxRecDepth 20000 in
set_option maxHeartbeats 4000000 in
theorem end_any (F : Nat) (da : Option Addr) (dc n base i : Nat) (bv : Value) (bg : List Int) (w : World) (hF : w.heap[F]? = some (.cells #[.slice da n dc, bv] 118 (0, 0))) (hb : w.ownsRow base 3 1 bv bg.length (i64l bg)) (hi : i < bg.length) (hl : bg.length ≤ 10000000) :
    Calls Try.prog 89 #[.pointer (some ⟨F, 0, none⟩), .int .i64 (i : Int)] w fun e w' => e = .returned (.int .i64 (endI n bg i)) ∧ w' = w := by
  obtain ⟨g, cap, rfl⟩ := own_form hb (by omega)
  have c0 : w.cell? ⟨F, 0, none⟩ = some (.slice da n dc) := by rw [cell_of_row _ _ _ _ _ _ hF]; rfl
  have c1 : w.cell? ⟨F, 1, none⟩ = some (.slice (some ⟨g, 0, none⟩) bg.length cap) := by rw [cell_of_row _ _ _ _ _ _ hF]; rfl
  by_cases h : i + 1 < bg.length
  · have hc := i64_at hb (i + 1) h
    have he : endI n bg i = bg.getD (i + 1) 0 := by unfold endI; rw [if_pos h]
    rw [he]
    generalize bg.getD (i + 1) 0 = X at *
    have hlt : (i : Int) + 1 < (bg.length : Int) := by omega
    have hl' : (bg.length : Int) ≤ 10000000 := by omega
    have hcap : (bg.length : Int) ≤ (cap : Int) := by have := own_cap hb; omega
    generalize bg.length = m at *
    obtain ⟨k, hk⟩ : ∃ k : Nat, i + 1 = k := ⟨_, rfl⟩
    rw [hk] at hc
    have hk' : (i : Int) + 1 = (k : Int) := by omega
    clear hb hF hi hl he h
    go_enter Try.func89, Try.ntmps89
    go_wp2
    go_ret
    exact ⟨rfl, rfl⟩
  · have he : endI n bg i = (n : Int) := by unfold endI; rw [if_neg h]
    rw [he]
    have hlt : ¬ ((i : Int) + 1 < (bg.length : Int)) := by omega
    have hl' : (bg.length : Int) ≤ 10000000 := by omega
    have hi' : (i : Int) < (bg.length : Int) := by omega
    generalize bg.length = m at *
    clear hb hF hi hl he h
    go_enter Try.func89, Try.ntmps89
    go_wp2
    go_ret
    exact ⟨rfl, rfl⟩
end Go.Proofs.Ytflhgphjkhplmaa

/- The file of the fixed run, crashed. -/
namespace Go.Proofs.Ytflhgphjkhplmaa
open Go.RowKit
set_option linter.unusedVariables false
set_option linter.unusedSimpArgs false

theorem size5 : (Try.prog.info? 5).map (·.size) = some 1 := by kernel_rfl
def z8 : Array Value := #[.int .u8 0, .int .u8 0, .int .u8 0, .int .u8 0, .int .u8 0, .int .u8 0, .int .u8 0, .int .u8 0]
def z8a : Array Value := #[.int .u8 97, .int .u8 98, .int .u8 99, .int .u8 0, .int .u8 0, .int .u8 0, .int .u8 0, .int .u8 0]
theorem make8 (w : World) : (Instr.makeSlice 23 (.int .i64 8) (.int .i64 8)).run Try.prog w = .ok (.slice (some ⟨w.heap.size, 0, none⟩) 8 8) (w.alloc (.cells z8 5)) := by
  obtain ⟨i0, hi, hz0, hz1, hz2⟩ := info_parts info5
  have h := run_make (P := Try.prog) w 23 5 i0 _ Try.underlying23 hi hz0 .i64 .i64 8 8 (by decide) (by decide) (by rw [hz2]; decide) (by decide)
  rw [h, hz1]
  have e : madeCells (Value.int .u8 0).cells (Int.toNat 8 * 1) = z8 := by kernel_rfl
  rw [e]
  rfl
set_option maxRecDepth 20000 in
set_option maxHeartbeats 4000000 in
theorem crash_known (F base : Nat) (dv bv : Value) (w : World) (hF : w.heap[F]? = some (.cells #[dv, bv] 118 (0, 0))) (hd : w.ownsRow base 5 1 dv 8 (u8l [97, 98, 99, 100, 101, 102, 103, 104])) (hb : w.ownsRow base 3 1 bv 2 (i64l [3, 5])) (g nc : Nat) (n0 : w.cell? ⟨g, 0, none⟩ = some (.int .i64 0)) (n1 : w.cell? ⟨g, 1, none⟩ = some (.int .i64 2)) (hnc : 2 ≤ nc) (hg : g < w.heap.size) (hbase : base ≤ w.heap.size) (hgF : g ≠ F) :
    Calls Try.prog 70 #[.pointer (some ⟨F, 0, none⟩), .slice (some ⟨g, 0, none⟩) 2 nc] w fun e w' => (∃ v, e = .returned v) ∧ (∃ dv', w'.heap[F]? = some (.cells #[dv', .slice none 0 0] 118 (0, 0)) ∧ w'.ownsRow base 5 1 dv' 7 (u8l [97, 98, 99, 0, 0, 102, 103])) ∧ Kep w w' (fun q => q = F) := by
  have hlt : F < w.heap.size := (Array.getElem?_eq_some_iff.1 hF).1
  obtain ⟨dg, dc, rfl⟩ := own_form hd (by decide)
  obtain ⟨bb, bc, rfl⟩ := own_form hb (by decide)
  obtain ⟨W, hW⟩ : ∃ W, w.alloc (.cells z8 5) = W := ⟨_, rfl⟩
  have hB : Below w.heap.size w W := by rw [← hW]; exact bel1 _ _
  have hWF : W.heap[F]? = some (.cells #[.slice (some ⟨dg, 0, none⟩) 8 dc, .slice (some ⟨bb, 0, none⟩) 2 bc] 118 (0, 0)) := (hB.block _ hlt).trans hF
  have hWd : W.ownsRow base 5 1 (.slice (some ⟨dg, 0, none⟩) 8 dc) 8 (u8l [97, 98, 99, 100, 101, 102, 103, 104]) := own_kept hd fun q _ hq => hB.block q hq
  have hWb : W.ownsRow base 3 1 (.slice (some ⟨bb, 0, none⟩) 2 bc) 2 (i64l [3, 5]) := own_kept hb fun q _ hq => hB.block q hq
  have hWk : W.heap[w.heap.size]? = some (.cells z8 5 (0, 0)) := by rw [← hW]; exact Go.heap_alloc_new _ _
  have f0 : w.cell? ⟨F, 0, none⟩ = some (.slice (some ⟨dg, 0, none⟩) 8 dc) := by rw [cell_of_row _ _ _ _ _ _ hF]; rfl
  have F0 : W.cell? ⟨F, 0, none⟩ = some (.slice (some ⟨dg, 0, none⟩) 8 dc) := by rw [cell_of_row _ _ _ _ _ _ hWF]; rfl
  have F1 : W.cell? ⟨F, 1, none⟩ = some (.slice (some ⟨bb, 0, none⟩) 2 bc) := by rw [cell_of_row _ _ _ _ _ _ hWF]; rfl
  have B0 : W.cell? ⟨bb, 0, none⟩ = some (.int .i64 3) := i64_at (bg := [3, 5]) hWb 0 (by decide)
  have B1 : W.cell? ⟨bb, 1, none⟩ = some (.int .i64 5) := i64_at (bg := [3, 5]) hWb 1 (by decide)
  have hmk := make8 w
  rw [hW] at hmk
  have hcap := own_cap hd
  have hcb := own_cap hb
  have HD : Hid (W.ownsRow base 5 1 (.slice (some ⟨dg, 0, none⟩) 8 dc) 8 (u8l [97, 98, 99, 100, 101, 102, 103, 104])) := hWd
  have HK : Hid (W.heap[w.heap.size]? = some (.cells z8 5 (0, 0))) := hWk
  have HF : Hid (W.heap[F]? = some (.cells #[.slice (some ⟨dg, 0, none⟩) 8 dc, .slice (some ⟨bb, 0, none⟩) 2 bc] 118 (0, 0))) := hWF
  have hc8 : (8 : Int) ≤ (dc : Int) := by omega
  have hc2 : (2 : Int) ≤ (bc : Int) := by omega
  have HBW : Hid (W.ownsRow base 3 1 (.slice (some ⟨bb, 0, none⟩) 2 bc) 2 (i64l [3, 5])) := hWb
  have HDw : Hid (w.ownsRow base 5 1 (.slice (some ⟨dg, 0, none⟩) 8 dc) 8 (u8l [97, 98, 99, 100, 101, 102, 103, 104])) := hd
  clear hW hF hd hb hWF hWd hWb hWk
  obtain ⟨k, hk⟩ : ∃ k, w.heap.size = k := ⟨_, rfl⟩
  rw [hk] at HK hmk hB
  have hsrc : ∀ j v, (u8l [97, 98, 99])[j]? = some v → W.cell? ((⟨dg, 0, none⟩ : Addr).add j) = some v := fun j v hv => by
    have hj : j < 3 := (List.getElem?_eq_some_iff.1 hv).1
    rw [Addr.add_mid, Nat.zero_add, HD.out.cellAt j (by omega), ← hv]
    match j, hj with
    | 0, _ => rfl
    | 1, _ => rfl
    | 2, _ => rfl
  have hcp := run_copy_row (P := Try.prog) W 23 23 3 5 k 0 8 8 ⟨dg, 0, none⟩ 3 dc z8 5 (u8l [97, 98, 99]) Try.underlying23 size5 HK.out (by decide) hsrc (by decide) (u8l_one _)
  obtain ⟨W2, hW2⟩ : ∃ W2, W.setRow k (z8.toList.take 0 ++ u8l [97, 98, 99] ++ z8.toList.drop (0 + (u8l [97, 98, 99]).length)).toArray = W2 := ⟨_, rfl⟩
  rw [hW2] at hcp
  have hcp' : (Builtin.copy_ #[23, 23] 3 #[.slice (some ⟨k, 0, none⟩) 8 8, .slice (some ⟨dg, 0, none⟩) 3 dc]).run Try.prog W = .ok (.int .i64 3) W2 := hcp
  have hK2 : W2.heap[k]? = some (.cells z8a 5 (0, 0)) := by rw [← hW2]; exact setRow_heap W k _ _ 5 _ HK.out
  have hO2 : ∀ q, q ≠ k → W2.heap[q]? = W.heap[q]? := fun q hq => by rw [← hW2]; exact setRow_other W k q _ hq
  have hS2 : W2.heap.size = W.heap.size ∧ W2.os = W.os ∧ W2.tape = W.tape ∧ W2.output = W.output := by rw [← hW2]; exact ⟨by simp [World.setRow], rfl, rfl, rfl⟩
  have hc2' : ∀ b i v, b ≠ k → W.cell? ⟨b, i, none⟩ = some v → W2.cell? ⟨b, i, none⟩ = some v := fun b i v hb hv => by
    have e : W2.cell? ⟨b, i, none⟩ = W.cell? ⟨b, i, none⟩ := by unfold World.cell?; rw [hO2 b hb]
    rw [e]; exact hv
  have hFk : F ≠ k := by omega
  have hbk : bb ≠ k := ne_tag (own_tag HBW.out rfl).choose_spec HK.out (by decide)
  have hdk : dg ≠ k := by have h1 := (HDw.out.lt dg rfl).2; omega
  have hgk : g ≠ k := by omega
  have G0 := hc2' F 0 _ hFk F0
  have G1 := hc2' F 1 _ hFk F1
  have G2 := hc2' bb 0 _ hbk B0
  have G3 := hc2' bb 1 _ hbk B1
  have N0 := hc2' g 0 _ hgk ((hB.cell (p := ⟨g, 0, none⟩) (show g < k by omega)).trans n0)
  have N1 := hc2' g 1 _ hgk ((hB.cell (p := ⟨g, 1, none⟩) (show g < k by omega)).trans n1)
  have HE : ∀ (V : World), V.heap = W2.heap → ∀ (i : Nat), i < 2 → Calls Try.prog 89 #[.pointer (some ⟨F, 0, none⟩), .int .i64 (i : Int)] V fun e w' => e = .returned (.int .i64 (endI 8 [3, 5] i)) ∧ ∃ n, w' = V.drewN n := fun V hV i hi => by
    refine (end_any F _ dc 8 base i _ [3, 5] V (by rw [hV]; exact (hO2 F hFk).trans HF.out) (own_at (w := W) HBW.out fun q hq => by
      have e : bb = q := by simpa [Value.ownBlock] using hq
      rw [hV]
      exact hO2 q (e ▸ hbk)) hi (by decide)).mono ?_
    rintro e w' ⟨rfl, rfl⟩
    exact ⟨rfl, 0, rfl⟩
  have HE0 : Hid (∀ (V : World), V.heap = W2.heap → Calls Try.prog 89 #[.pointer (some ⟨F, 0, none⟩), .int .i64 0] V fun e w' => e = .returned (.int .i64 5) ∧ ∃ n, w' = V.drewN n) := fun V hV => HE V hV 0 (by decide)
  have HE1 : Hid (∀ (V : World), V.heap = W2.heap → Calls Try.prog 89 #[.pointer (some ⟨F, 0, none⟩), .int .i64 1] V fun e w' => e = .returned (.int .i64 8) ∧ ∃ n, w' = V.drewN n) := fun V hV => HE V hV 1 (by decide)
  clear HE
  clear hcp hsrc hW2
  go_enter Try.func70, Try.ntmps70
  go_upto_region 5 with fail
  go_quiet (fail)
  go_wp2
  obtain ⟨W3, hW3⟩ : ∃ W3, W2.drewN nq = W3 := ⟨_, rfl⟩
  have g2 : W3.cell? ⟨bb, 0, none⟩ = some (.int .i64 3) := by rw [← hW3]; exact G2
  have g3 : W3.cell? ⟨bb, 1, none⟩ = some (.int .i64 5) := by rw [← hW3]; exact G3
  have g0 : W3.cell? ⟨F, 0, none⟩ = some (.slice (some ⟨dg, 0, none⟩) 8 dc) := by rw [← hW3]; exact G0
  have m0 : W3.cell? ⟨g, 0, none⟩ = some (.int .i64 0) := by rw [← hW3]; exact N0
  have m1 : W3.cell? ⟨g, 1, none⟩ = some (.int .i64 2) := by rw [← hW3]; exact N1
  have HH : Hid (W3.heap = W2.heap) := by show _ = _; rw [← hW3]; rfl
  have HQ3 : Hid (W3.os = W2.os ∧ W3.tape = W2.tape ∧ W3.output = W2.output) := by rw [← hW3]; exact ⟨rfl, rfl, rfl⟩
  rw [hW3]
  clear hW3 G0 G1 G2 G3 N0 N1 F0 F1 B0 B1 f0 n0 n1 hmk hcp' hc2'
  refine wp_loop_rounds 3 ?_
  rw [rounds_succ]
  go_wp2
  go_quiet (first | (go_at_call 89; refine Calls.quiet_of (HE0.out _ ?_); exact HH.out))
  go_wp2
  obtain ⟨W4, hW4⟩ : ∃ W4, W3.drewN nq = W4 := ⟨_, rfl⟩
  have r3 : W4.cell? ⟨bb, 1, none⟩ = some (.int .i64 5) := by rw [← hW4]; exact g3
  have r0 : W4.cell? ⟨F, 0, none⟩ = some (.slice (some ⟨dg, 0, none⟩) 8 dc) := by rw [← hW4]; exact g0
  have r1 : W4.cell? ⟨g, 1, none⟩ = some (.int .i64 2) := by rw [← hW4]; exact m1
  have HH4 : Hid (W4.heap = W2.heap) := by show _ = _; rw [← hW4]; exact HH.out
  have HQ4 : Hid (W4.os = W2.os ∧ W4.tape = W2.tape ∧ W4.output = W2.output) := by rw [← hW4]; exact HQ3.out
  rw [hW4]
  clear hW4 g2 g3 g0 m0 m1
  rw [rounds_succ]
  go_wp2
  go_quiet (first | (go_at_call 89; refine Calls.quiet_of (HE1.out _ ?_); exact HH4.out))
  go_upto_region 10 with fail
  obtain ⟨W5, hW5⟩ : ∃ W5, W4.drewN nq = W5 := ⟨_, rfl⟩
  have t0 : W5.cell? ⟨F, 0, none⟩ = some (.slice (some ⟨dg, 0, none⟩) 8 dc) := by rw [← hW5]; exact r0
  have HH5 : Hid (W5.heap = W2.heap) := by show _ = _; rw [← hW5]; exact HH4.out
  have HQ5 : Hid (W5.os = W2.os ∧ W5.tape = W2.tape ∧ W5.output = W2.output) := by rw [← hW5]; exact HQ4.out
  rw [hW5]
  clear hW5 r0 r1 r3
  have HK5 : Hid (W5.heap[k]? = some (.cells z8a.toList.toArray 5 (0, 0))) := by show _ = _; rw [HH5.out]; exact hK2
  have HD5 : Hid (W5.ownsRow base 5 1 (.slice (some ⟨dg, 0, none⟩) 8 dc) 8 (u8l [97, 98, 99, 100, 101, 102, 103, 104])) := own_at (w := W) HD.out fun q hq => by
    have e : dg = q := by simpa [Value.ownBlock] using hq
    rw [HH5.out]
    exact hO2 q (e ▸ hdk)
  have HSR : Hid (∀ j v, (u8l [102, 103])[j]? = some v → W5.cell? ((⟨dg, 5, none⟩ : Addr).add j) = some v) := fun j v hv => by
    have hj : j < 2 := (List.getElem?_eq_some_iff.1 hv).1
    rw [Addr.add_mid, HD5.out.cellAt (5 + j) (by omega), ← hv]
    match j, hj with
    | 0, _ => rfl
    | 1, _ => rfl
  have h7 : (7 : Int) ≤ (dc : Int) := by omega
  have h7' : ¬ ((dc : Int) < 7) := by omega
  have h7n : 7 ≤ dc := by omega
  have h5n : ¬ dc = 5 := by omega
  have hw7 : IntKind.i64.wrap 7 = 7 := by decide
  have h7d : decide ((dc : Int) < 7) = false := by simpa using h7
  go_region_law (refine step_copy_splice rfl (.tmp 74) (.tmp 83) 23 23 rfl 5 Try.underlying23 size5 (some ⟨k, 5, none⟩) (some ⟨dg, 5, none⟩) 3 3 2 (dc - 5) (by simp [Act.eval, Act.put]) (by simp [Act.eval, Act.put]) k 5 z8a.toList 5 HK5.out (u8l [102, 103]) (by decide) (fun _ => ⟨rfl, _, rfl, HSR.out⟩) (by decide) (u8l_one _) k W5 (by repeat (first | exact Below.refl _ _ | refine Below.drew ?_)) (Nat.le_refl _) ?_; intro w6 hg6 hb6)
  have hu2 : (u8l [102, 103]).length = 2 := rfl
  rw [hu2]
  have HX6 : Hid (w6.heap[F]? = some (.cells #[.slice (some ⟨dg, 0, none⟩) 8 dc, .slice (some ⟨bb, 0, none⟩) 2 bc] 118 (0, 0))) := (hb6.block F (by omega)).trans (by rw [HH5.out]; exact (hO2 F hFk).trans HF.out)
  have HK6 : Hid (w6.heap[k]? = some (.cells (u8l [97, 98, 99, 0, 0, 102, 103, 0]).toArray 5 (0, 0))) := hg6
  have HB6 : Hid (Below k W5 w6) := hb6
  have HS6 : Hid (Src w6 (.slice (some ⟨k, 0, none⟩) 7 8) [97, 98, 99, 0, 0, 102, 103]) := .inr ⟨⟨k, 0, none⟩, 8, rfl, by decide, fun j u hu => by
    have hj : j < 7 := (List.getElem?_eq_some_iff.1 hu).1
    rw [Addr.add_mid, Nat.zero_add, cell_of_row _ _ _ _ _ _ HK6.out, ← hu]
    match j, hj with
    | 0, _ => rfl
    | 1, _ => rfl
    | 2, _ => rfl
    | 3, _ => rfl
    | 4, _ => rfl
    | 5, _ => rfl
    | 6, _ => rfl⟩
  have hw72 : IntKind.i64.wrap (5 + ((2 : Nat) : Int)) = 7 := by decide
  rw [hw72]
  clear hg6 hb6 t0 h7 h7' h7n h5n h7d
  go_wp2
  rw [rounds_succ]
  go_wp2_with (go_at_call 75; refine (clone_any _ _ _ HS6.out (by decide)).mono ?_; rintro e w7 ⟨⟨v7, rfl, ho7⟩, hb7⟩; (obtain ⟨va, vc, hv7⟩ := own_slice ho7); subst hv7; (have HO7 : Hid (w7.ownsRow w6.heap.size 5 1 (.slice va 7 vc) 7 (u8l [97, 98, 99, 0, 0, 102, 103])) := ho7); (have HX7 : Hid (w7.heap[F]? = some (.cells #[.slice (some ⟨dg, 0, none⟩) 8 dc, .slice (some ⟨bb, 0, none⟩) 2 bc] 118 (0, 0))) := (hb7.block F (Array.getElem?_eq_some_iff.1 HX6.out).1).trans HX6.out); (have HB7 : Hid (Below w6.heap.size w6 w7) := hb7); (have s0 : w7.cell? ⟨F, 0, none⟩ = some (.slice (some ⟨dg, 0, none⟩) 8 dc) := (by rw [cell_of_row _ _ _ _ _ _ HX7.out]; rfl)); (have s1 : w7.frozen? ⟨F, 0, none⟩ = false := frozen_of_row _ _ 0 _ _ HX7.out); (have s2 : w7.cell? ⟨F, 1, none⟩ = some (.slice (some ⟨bb, 0, none⟩) 2 bc) := (by rw [cell_of_row _ _ _ _ _ _ HX7.out]; rfl)); (have s3 : w7.frozen? ⟨F, 1, none⟩ = false := frozen_of_row _ _ 1 _ _ HX7.out); clear ho7 hb7)
  go_end0
  obtain ⟨o1, o2, o3⟩ := HQ5.out
  have b6 := HB6.out
  have b7 := HB7.out
  have z5 : W5.heap.size = W2.heap.size := by rw [HH5.out]
  have z6 := b6.size
  have z7 := b7.size
  have z1 := hB.size
  have hkk : k < W.heap.size := (Array.getElem?_eq_some_iff.1 HK.out).1
  refine ⟨⟨_, rfl⟩, ⟨.slice va 7 vc, row_set _ (row_set _ HX7.out), ?_⟩, ⟨?_, ?_, ?_, ?_, ?_⟩⟩
  · refine own_low (base := w6.heap.size) ?_ (by omega)
    refine own_at HO7.out fun q hq => ?_
    obtain ⟨cur, hc⟩ := own_tag HO7.out hq
    have hqF : q ≠ F := ne_tag hc HX7.out (by decide)
    rw [Below.heap_setCell _ _ _ _ hqF, Below.heap_setCell _ _ _ _ hqF]
  · exact b7.os.trans (b6.os.trans (o1.trans (hS2.2.1.trans hB.os)))
  · exact b7.tape.trans (b6.tape.trans (o2.trans (hS2.2.2.1.trans hB.tape)))
  · exact b7.output.trans (b6.output.trans (o3.trans (hS2.2.2.2.trans hB.output)))
  · simp
    omega
  · intro q h1 h2
    have hqF : q ≠ F := h2
    have hqk : q < k := by omega
    rw [Below.heap_setCell _ _ _ _ hqF, Below.heap_setCell _ _ _ _ hqF, b7.block q (by omega), b6.block q hqk, HH5.out, hO2 q (by omega)]
    exact hB.block q hqk
end Go.Proofs.Ytflhgphjkhplmaa

/- A disk as it lies: one file is turned, a file goes, a file comes. -/
namespace Go.Proofs.Ytflhgphjkhplmaa.D
open Go.RowKit
set_option linter.unusedVariables false
set_option linter.unusedSimpArgs false

def iV (k : Int) : Value := .int .i64 k
/-- A file as it lies: its bytes, where its writes begin. -/
structure FL (w : World) (f : Nat) (F : Nat → Prop) (b ws : List Int) : Prop where
  ex : ∃ dv bv, w.heap[f]? = some (.cells #[dv, bv] 118 (0, 0)) ∧ w.ownsRow 0 5 1 dv b.length (u8l b) ∧ w.ownsRow 0 3 1 bv ws.length (ws.map iV) ∧ ∀ q, F q ↔ q = f ∨ dv.ownBlock = some q ∨ bv.ownBlock = some q
variable {w w' : World} {D K : Nat} {sy : Int}
theorem FL.at' {f : Nat} {F : Nat → Prop} {b ws : List Int} (h : FL w f F b ws) (hk : ∀ q, F q → w'.heap[q]? = w.heap[q]?) : FL w' f F b ws := by
  obtain ⟨dv, bv, h1, h2, h3, h4⟩ := h
  exact ⟨dv, bv, (hk f ((h4 f).2 (.inl rfl))).trans h1, own_at h2 fun q hq => hk q ((h4 q).2 (.inr (.inl hq))), own_at h3 fun q hq => hk q ((h4 q).2 (.inr (.inr hq))), h4⟩
theorem FL.lt {f : Nat} {F : Nat → Prop} {b ws : List Int} (h : FL w f F b ws) : ∀ q, F q → q < w.heap.size := by
  obtain ⟨dv, bv, h1, h2, h3, h4⟩ := h
  intro q hq
  rcases (h4 q).1 hq with rfl | e | e
  · exact (Array.getElem?_eq_some_iff.1 h1).1
  · exact (h2.lt q e).2
  · exact (h3.lt q e).2
theorem FL.newer {f : Nat} {F : Nat → Prop} {b ws : List Int} (h : FL w f F b ws) (hb : Below w.heap.size w w') : FL w' f F b ws := h.at' fun q hq => hb.block q (h.lt q hq)
theorem FL.iff {f : Nat} {F F' : Nat → Prop} {b ws : List Int} (h : FL w f F b ws) (hF : ∀ q, F' q ↔ F q) : FL w f F' b ws := by
  obtain ⟨dv, bv, h1, h2, h3, h4⟩ := h
  exact ⟨dv, bv, h1, h2, h3, fun q => (hF q).trans (h4 q)⟩
structure Tn where
  nm : List UInt8
  L : Nat
  F : Nat → Prop
  b : List Int
  ws : List Int
def mlT (tl : List Tn) : List (List UInt8 × Nat) := tl.map fun t => (t.nm, t.L)
structure DX (w : World) (D K : Nat) (sy : Int) (tl : List Tn) : Prop where
  box : w.heap[D]? = some (.cells #[.map (some K), .int .i64 sy] 90 (0, 0))
  km : MM w K (mlT tl)
  nd : (tl.map Tn.nm).Nodup
  lr : ∀ t ∈ tl, FL w t.L t.F t.b t.ws
  ap : tl.Pairwise fun s t => ∀ q, s.F q → ¬ t.F q
  of : ∀ t ∈ tl, ∀ q, t.F q → q ≠ D ∧ q ≠ K
def CF (D K : Nat) (tl : List Tn) (q : Nat) : Prop := q = D ∨ q = K ∨ ∃ t ∈ tl, t.F q
variable {tl a b : List Tn} {t : Tn}
theorem MM.notcells {w : World} {B : Nat} {ml : List (List UInt8 × Nat)} (h : MM w B ml) {q : Nat} {c : Array Value} {t : TypeId} {f : Nat × Nat} (hq : w.heap[q]? = some (.cells c t f)) : q ≠ B := by
  rintro rfl
  obtain ⟨es, c, h1, h2, hB⟩ := h
  unfold MapAt at h1
  rw [hq] at h1
  cases h1
theorem DX.ck (h : DX w D K sy tl) : D ≠ K := h.km.notcells h.box
theorem DX.lt (h : DX w D K sy tl) : ∀ q, CF D K tl q → q < w.heap.size := by
  rintro q (rfl | rfl | ⟨t, ht, hq⟩)
  · exact (Array.getElem?_eq_some_iff.1 h.box).1
  · exact h.km.lt
  · exact (h.lr t ht).lt q hq
theorem DX.at' (h : DX w D K sy tl) (hk : ∀ q, CF D K tl q → w'.heap[q]? = w.heap[q]?) : DX w' D K sy tl :=
  ⟨(hk D (.inl rfl)).trans h.box, h.km.at' (hk K (.inr (.inl rfl))), h.nd, fun t ht => (h.lr t ht).at' fun q hq => hk q (.inr (.inr ⟨t, ht, hq⟩)), h.ap, h.of⟩
theorem DX.newer (h : DX w D K sy tl) (hb : Below w.heap.size w w') : DX w' D K sy tl := h.at' fun q hq => hb.block q (h.lt q hq)
theorem DX.cells (h : DX w D K sy tl) : w.cell? ⟨D, 0, none⟩ = some (.map (some K)) ∧ w.cell? ⟨D, 1, none⟩ = some (.int .i64 sy) ∧ w.frozen? ⟨D, 0, none⟩ = false ∧ w.frozen? ⟨D, 1, none⟩ = false :=
  ⟨by rw [cell_of_row _ _ _ _ _ _ h.box]; rfl, by rw [cell_of_row _ _ _ _ _ _ h.box]; rfl, by simp [World.frozen?, h.box], by simp [World.frozen?, h.box]⟩
theorem nd_mid {α : Type} {a b : List α} {n : α} (h : (a ++ n :: b).Nodup) : n ∉ a ++ b := by
  rw [List.nodup_append] at h
  intro e
  rcases List.mem_append.1 e with e | e
  · exact h.2.2 n e n List.mem_cons_self rfl
  · exact (List.nodup_cons.1 h.2.1).1 e
theorem mid_perm {α : Type} (a b : List α) (n : α) : (a ++ n :: b).Perm (n :: (a ++ b)) := List.perm_middle
/-- One file is turned. -/
theorem DX.turn (h : DX w D K sy (a ++ t :: b)) {F' : Nat → Prop} {b' ws' : List Int} (hl : FL w' t.L F' b' ws') (hf : Fr t.F F' w w') : DX w' D K sy (a ++ ⟨t.nm, t.L, F', b', ws'⟩ :: b) ∧ Fr (CF D K (a ++ t :: b)) (CF D K (a ++ ⟨t.nm, t.L, F', b', ws'⟩ :: b)) w w' := by
  have ht : t ∈ a ++ t :: b := by simp
  have hlt := h.lt
  have keep : ∀ q, q < w.heap.size → ¬ t.F q → w'.heap[q]? = w.heap[q]? := hf.block
  have hof := h.of t ht
  have kC := keep D (hlt D (.inl rfl)) fun e => (hof D e).1 rfl
  have kK := keep K (hlt K (.inr (.inl rfl))) fun e => (hof K e).2 rfl
  have hap := h.ap
  rw [List.pairwise_append] at hap
  obtain ⟨p1, p2, p3⟩ := hap
  obtain ⟨p4, p5⟩ := List.pairwise_cons.1 p2
  have hnew : ∀ s ∈ a ++ b, ∀ q, s.F q → ¬ t.F q ∧ ¬ F' q := fun s hs q hq => by
    have h1 : ¬ t.F q := by
      rcases List.mem_append.1 hs with hs | hs
      · exact p3 s hs t (by simp) q hq
      · exact fun e => p4 s hs q e hq
    refine ⟨h1, fun e => ?_⟩
    rcases hf.grow q e with e | e
    · exact h1 e
    · have := hlt q (.inr (.inr ⟨s, by simp at hs ⊢; rcases hs with hs | hs <;> simp [hs], hq⟩))
      omega
  have hnm : (a ++ ⟨t.nm, t.L, F', b', ws'⟩ :: b).map Tn.nm = (a ++ t :: b).map Tn.nm := by simp
  have hml : mlT (a ++ ⟨t.nm, t.L, F', b', ws'⟩ :: b) = mlT (a ++ t :: b) := by simp [mlT]
  refine ⟨⟨kC.trans h.box, by rw [hml]; exact h.km.at' kK, by rw [hnm]; exact h.nd, fun s hs => ?_, ?_, fun s hs q hq => ?_⟩, ⟨hf.os, hf.tape, hf.output, hf.size, fun q hq hn => keep q hq fun e => hn (.inr (.inr ⟨t, ht, e⟩)), ?_⟩⟩
  · have : s = ⟨t.nm, t.L, F', b', ws'⟩ ∨ s ∈ a ++ b := by simp at hs ⊢; rcases hs with hs | hs | hs <;> simp [hs]
    rcases this with rfl | hs'
    · exact hl
    · refine (h.lr s (by simp at hs' ⊢; rcases hs' with hs' | hs' <;> simp [hs'])).at' fun q hq => keep q (hlt q (.inr (.inr ⟨s, by simp at hs' ⊢; rcases hs' with hs' | hs' <;> simp [hs'], hq⟩))) (hnew s hs' q hq).1
  · rw [List.pairwise_append]
    refine ⟨p1, List.pairwise_cons.2 ⟨fun s hs q hq e => (hnew s (by simp [hs]) q e).2 hq, p5⟩, fun s hs r hr => ?_⟩
    rcases List.mem_cons.1 hr with rfl | hr
    · exact fun q hq => (hnew s (by simp [hs]) q hq).2
    · exact p3 s hs r (List.mem_cons_of_mem _ hr)
  · have : s = ⟨t.nm, t.L, F', b', ws'⟩ ∨ s ∈ a ++ b := by simp at hs ⊢; rcases hs with hs | hs | hs <;> simp [hs]
    rcases this with rfl | hs'
    · rcases hf.grow q hq with e | e
      · exact hof q e
      · have h1 := hlt D (.inl rfl)
        have h2 := hlt K (.inr (.inl rfl))
        refine ⟨?_, ?_⟩ <;> omega
    · exact h.of s (by simp at hs' ⊢; rcases hs' with hs' | hs' <;> simp [hs']) q hq
  · rintro q (rfl | rfl | ⟨s, hs, hq⟩)
    · exact .inl (.inl rfl)
    · exact .inl (.inr (.inl rfl))
    · have : s = ⟨t.nm, t.L, F', b', ws'⟩ ∨ s ∈ a ++ b := by simp at hs ⊢; rcases hs with hs | hs | hs <;> simp [hs]
      rcases this with rfl | hs'
      · rcases hf.grow q hq with e | e
        · exact .inl (.inr (.inr ⟨t, ht, e⟩))
        · exact .inr e
      · exact .inl (.inr (.inr ⟨s, by simp at hs' ⊢; rcases hs' with hs' | hs' <;> simp [hs'], hq⟩))
/-- A block that is a map is turned. -/
theorem setM_fr {F : Nat → Prop} {B : Nat} (hF : F B) (o : Obj) : Fr F F w (setM w B o) := ⟨rfl, rfl, rfl, by rw [setM_size]; exact Nat.le_refl _, fun q hq hn => setM_off fun e => hn (e ▸ hF), fun q hq => .inl hq⟩
theorem Fr.sub {F F' F2 : Nat → Prop} {w w' : World} (h : Fr F F' w w') (hs : ∀ q, F2 q → F' q) : Fr F F2 w w' := ⟨h.os, h.tape, h.output, h.size, h.block, fun q hq => h.grow q (hs q hq)⟩
theorem Fr.refl (F : Nat → Prop) (w : World) : Fr F F w w := ⟨rfl, rfl, rfl, Nat.le_refl _, fun _ _ _ => rfl, fun _ h => .inl h⟩
theorem Fr.trans' {F F' F2 : Nat → Prop} {w w1 w2 : World} (h : Fr F F' w w1) (k : Fr F' F2 w1 w2) : Fr F F2 w w2 := by
  have hs := h.size
  refine ⟨k.os.trans h.os, k.tape.trans h.tape, k.output.trans h.output, Nat.le_trans h.size k.size, fun q hq hn => (k.block q (by omega) fun e => ?_).trans (h.block q hq hn), fun q hq => ?_⟩
  · rcases h.grow q e with e | e
    · exact hn e
    · omega
  · rcases k.grow q hq with e | e
    · exact h.grow q e
    · exact .inr (by omega)
theorem Fr.newer {F : Nat → Prop} {w w' : World} (h : Below w.heap.size w w') : Fr F F w w' := ⟨h.os, h.tape, h.output, h.size, fun q hq _ => h.block q hq, fun _ hq => .inl hq⟩
theorem ml_erase (a b : List Tn) (t : Tn) : ((mlT (a ++ t :: b)).erase (t.nm, t.L)).Perm (mlT (a ++ b)) := by
  have h1 : (mlT (a ++ t :: b)).Perm ((t.nm, t.L) :: mlT (a ++ b)) := (mid_perm a b t).map _
  have h2 := h1.erase (t.nm, t.L)
  rwa [List.erase_cons_head] at h2
theorem MM.perm {w : World} {B : Nat} {ml ml' : List (List UInt8 × Nat)} (h : MM w B ml) (hp : ml.Perm ml') : MM w B ml' := by
  obtain ⟨es, c, m1, m2, mB⟩ := h
  exact ⟨es, c, m1, m2.trans hp, mB⟩
/-- A file goes: it is there yet, beside the others. -/
theorem DX.gone (h : DX w D K sy (a ++ t :: b)) {o : Obj} (hm : MM (setM w K o) K ((mlT (a ++ t :: b)).erase (t.nm, t.L))) : DX (setM w K o) D K sy (a ++ b) ∧ Fr (CF D K (a ++ t :: b)) (CF D K (a ++ b)) w (setM w K o) ∧ FL (setM w K o) t.L t.F t.b t.ws ∧ ∀ q, t.F q → ¬ CF D K (a ++ b) q := by
  have hsub : ∀ s ∈ a ++ b, s ∈ a ++ t :: b := fun s hs => by simp at hs ⊢; rcases hs with hs | hs <;> simp [hs]
  have hsl : (a ++ b).Sublist (a ++ t :: b) := (List.Sublist.refl _).append (List.sublist_cons_self _ _)
  have hap := h.ap
  rw [List.pairwise_append] at hap
  obtain ⟨p1, p2, p3⟩ := hap
  obtain ⟨p4, p5⟩ := List.pairwise_cons.1 p2
  refine ⟨⟨(setM_off h.ck).trans h.box, hm.perm (ml_erase a b t), h.nd.sublist (hsl.map _), fun s hs => (h.lr s (hsub s hs)).at' fun q hq => setM_off (h.of s (hsub s hs) q hq).2, h.ap.sublist hsl, fun s hs => h.of s (hsub s hs)⟩, (setM_fr (.inr (.inl rfl)) o).sub ?_, (h.lr t (by simp)).at' fun q hq => setM_off (h.of t (by simp) q hq).2, ?_⟩
  · rintro q (hq | hq | ⟨s, hs, hq⟩)
    · exact .inl hq
    · exact .inr (.inl hq)
    · exact .inr (.inr ⟨s, hsub s hs, hq⟩)
  · rintro q hq (e | e | ⟨s, hs, e⟩)
    · exact (h.of t (by simp) q hq).1 e
    · exact (h.of t (by simp) q hq).2 e
    · rcases List.mem_append.1 hs with hs | hs
      · exact p3 s hs t (by simp) q e hq
      · exact p4 s hs q hq e
/-- A file comes. -/
theorem DX.come (h : DX w D K sy tl) {o : Obj} (hn : t.nm ∉ tl.map Tn.nm) (hl : FL w t.L t.F t.b t.ws) (hnew : ∀ q, t.F q → ¬ CF D K tl q) (hm : MM (setM w K o) K (mlT tl ++ [(t.nm, t.L)])) : DX (setM w K o) D K sy (tl ++ [t]) ∧ Fr (CF D K (tl ++ [t])) (CF D K (tl ++ [t])) w (setM w K o) := by
  have hof : ∀ q, t.F q → q ≠ D ∧ q ≠ K := fun q hq => ⟨fun e => hnew q hq (.inl e), fun e => hnew q hq (.inr (.inl e))⟩
  have hml : mlT (tl ++ [t]) = mlT tl ++ [(t.nm, t.L)] := by simp [mlT]
  refine ⟨⟨(setM_off h.ck).trans h.box, by rw [hml]; exact hm, ?_, fun s hs => ?_, ?_, fun s hs => ?_⟩, setM_fr (.inr (.inl rfl)) o⟩
  · rw [List.map_append, List.nodup_append]
    refine ⟨h.nd, by simp, fun x hx y hy e => ?_⟩
    simp at hy
    subst hy
    subst e
    exact hn hx
  · rcases List.mem_append.1 hs with hs | hs
    · exact (h.lr s hs).at' fun q hq => setM_off (h.of s hs q hq).2
    · obtain rfl := List.mem_singleton.1 hs
      exact hl.at' fun q hq => setM_off (hof q hq).2
  · rw [List.pairwise_append]
    refine ⟨h.ap, List.pairwise_singleton _ _, fun s hs r hr q hq e => ?_⟩
    obtain rfl := List.mem_singleton.1 hr
    exact hnew q e (.inr (.inr ⟨s, hs, hq⟩))
  · rcases List.mem_append.1 hs with hs | hs
    · exact h.of s hs
    · obtain rfl := List.mem_singleton.1 hs
      exact hof
end Go.Proofs.Ytflhgphjkhplmaa.D

/- A disk between calls: opened at a file, or where there is none. -/
namespace Go.Proofs.Ytflhgphjkhplmaa.D
open Go.RowKit
set_option linter.unusedVariables false
set_option linter.unusedSimpArgs false

/-- A plain file. -/
structure Fd where
  nm : List UInt8
  b : List Int
  ws : List Int
def lkF (s : List UInt8) : List Fd → Option Fd
  | [] => none
  | x :: r => if s = x.nm then some x else lkF s r
def outF (s : List UInt8) : List Fd → List Fd
  | [] => []
  | x :: r => if s = x.nm then r else x :: outF s r
def setF (s : List UInt8) (b ws : List Int) : List Fd → List Fd
  | [] => []
  | x :: r => if s = x.nm then ⟨x.nm, b, ws⟩ :: r else x :: setF s b ws r
theorem lkF_none : ∀ {dl : List Fd} {s : List UInt8}, lkF s dl = none ↔ s ∉ dl.map Fd.nm
  | [], s => by simp [lkF]
  | x :: r, s => by
    unfold lkF
    by_cases e : s = x.nm
    · simp [e]
    · rw [if_neg e, lkF_none (dl := r)]
      simp [e]
theorem lkF_some : ∀ {dl : List Fd} {s : List UInt8} {x : Fd}, lkF s dl = some x → x.nm = s ∧ ∃ a b, dl = a ++ x :: b ∧ outF s dl = a ++ b ∧ ∀ b' ws', setF s b' ws' dl = a ++ ⟨s, b', ws'⟩ :: b
  | [], s, x, h => by simp [lkF] at h
  | y :: r, s, x, h => by
    unfold lkF at h
    split at h
    · rename_i e
      obtain rfl := Option.some.inj h
      refine ⟨e.symm, [], r, rfl, by rw [outF, if_pos e]; rfl, fun b' ws' => by rw [setF, if_pos e, e]; rfl⟩
    · rename_i e
      obtain ⟨h1, a, b, h2, h3, h4⟩ := lkF_some h
      refine ⟨h1, y :: a, b, by rw [h2]; rfl, by rw [outF, if_neg e, h3]; rfl, fun b' ws' => by rw [setF, if_neg e, h4]; rfl⟩
theorem lkF_of : ∀ {dl : List Fd} {x : Fd}, (dl.map Fd.nm).Nodup → x ∈ dl → lkF x.nm dl = some x
  | [], x, hn, h => by simp at h
  | y :: r, x, hn, h => by
    unfold lkF
    rcases List.mem_cons.1 h with h | h
    · rw [← h]; simp
    · rw [if_neg, lkF_of (List.nodup_cons.1 hn).2 h]
      intro e
      exact (List.nodup_cons.1 hn).1 (List.mem_map.2 ⟨x, h, e⟩)
def pl (t : Tn) : Fd := ⟨t.nm, t.b, t.ws⟩
/-- A disk, between calls. -/
structure DR (w : World) (D : Nat) (F : Nat → Prop) (sy : Int) (dl : List Fd) : Prop where
  ex : (dl = [] ∧ w.heap[D]? = some (.cells #[.map none, .int .i64 sy] 90 (0, 0)) ∧ ∀ q, F q ↔ q = D) ∨ ∃ K tl, DX w D K sy tl ∧ (tl.map pl).Perm dl ∧ ∀ q, F q ↔ CF D K tl q
variable {w w' : World} {D K : Nat} {F : Nat → Prop} {sy : Int} {dl : List Fd} {tl a b : List Tn} {t : Tn}
theorem pl_nm (tl : List Tn) : (tl.map pl).map Fd.nm = tl.map Tn.nm := by rw [List.map_map]; rfl
theorem mlT_fst (tl : List Tn) : (mlT tl).map Prod.fst = tl.map Tn.nm := by unfold mlT; rw [List.map_map]; rfl
theorem DX.knd (h : DX w D K sy tl) : ((mlT tl).map Prod.fst).Nodup := by rw [mlT_fst]; exact h.nd
theorem DR.nd (h : DR w D F sy dl) : (dl.map Fd.nm).Nodup := by
  rcases h.ex with ⟨rfl, -, -⟩ | ⟨K, tl, h1, h2, h3⟩
  · exact List.nodup_nil
  · rw [← (h2.map Fd.nm).nodup_iff, pl_nm]
    exact h1.nd
theorem DR.lt (h : DR w D F sy dl) : ∀ q, F q → q < w.heap.size := by
  rcases h.ex with ⟨-, h1, h2⟩ | ⟨K, tl, h1, h2, h3⟩
  · intro q hq
    rw [(h2 q).1 hq]
    exact (Array.getElem?_eq_some_iff.1 h1).1
  · exact fun q hq => h1.lt q ((h3 q).1 hq)
theorem DR.at' (h : DR w D F sy dl) (hk : ∀ q, F q → w'.heap[q]? = w.heap[q]?) : DR w' D F sy dl := by
  rcases h.ex with ⟨h0, h1, h2⟩ | ⟨K, tl, h1, h2, h3⟩
  · exact ⟨.inl ⟨h0, (hk D ((h2 D).2 rfl)).trans h1, h2⟩⟩
  · exact ⟨.inr ⟨K, tl, h1.at' fun q hq => hk q ((h3 q).2 hq), h2, h3⟩⟩
theorem DR.newer (h : DR w D F sy dl) (hb : Below w.heap.size w w') : DR w' D F sy dl := h.at' fun q hq => hb.block q (h.lt q hq)
theorem DR.box (h : DR w D F sy dl) : ∃ mv, w.heap[D]? = some (.cells #[.map mv, .int .i64 sy] 90 (0, 0)) ∧ F D := by
  rcases h.ex with ⟨h0, h1, h2⟩ | ⟨K, tl, h1, h2, h3⟩
  · exact ⟨none, h1, (h2 D).2 rfl⟩
  · exact ⟨some K, h1.box, (h3 D).2 (.inl rfl)⟩
theorem Fr.from {F G G' : Nat → Prop} {w w' : World} (h : Fr G G' w w') (hF : ∀ q, F q ↔ G q) : Fr F G' w w' := ⟨h.os, h.tape, h.output, h.size, fun q hq hn => h.block q hq fun e => hn ((hF q).2 e), fun q hq => (h.grow q hq).imp (fun e => (hF q).2 e) id⟩
theorem tl_split {tl : List Tn} {x : Fd} (h : x ∈ tl.map pl) : ∃ a t b, tl = a ++ t :: b ∧ pl t = x := by
  obtain ⟨t, ht, rfl⟩ := List.mem_map.1 h
  obtain ⟨a, b, rfl⟩ := List.append_of_mem ht
  exact ⟨a, t, b, rfl, rfl⟩
/-- Opened at a file that is there. -/
theorem DR.open (h : DR w D F sy dl) {s : List UInt8} {x : Fd} (hs : lkF s dl = some x) : ∃ K f Ff, w.heap[D]? = some (.cells #[.map (some K), .int .i64 sy] 90 (0, 0)) ∧ (Instr.lookup 88 (.map (some K)) (.string (tx s)) true).run Try.prog w = .ok (.tuple #[.pointer (some ⟨f, 0, none⟩), .bool true]) w ∧ FL w f Ff x.b x.ws ∧ (∀ q, Ff q → F q ∧ q ≠ D) ∧
    (∀ w' F' b' ws', FL w' f F' b' ws' → Fr Ff F' w w' → ∃ F'', DR w' D F'' sy (setF s b' ws' dl) ∧ Fr F F'' w w') ∧
    (∀ ty, ∃ o, (Builtin.delete_ #[88, 9] ty #[.map (some K), .string (tx s)]).run Try.prog w = .ok (.tuple #[]) (setM w K o) ∧ ∃ F'', DR (setM w K o) D F'' sy (outF s dl) ∧ Fr F F'' w (setM w K o) ∧ FL (setM w K o) f Ff x.b x.ws ∧ (∀ q, Ff q → ¬ F'' q) ∧ (setM w K o).heap[D]? = some (.cells #[.map (some K), .int .i64 sy] 90 (0, 0))) := by
  obtain ⟨hxs, A, B, rfl, hout, hset⟩ := lkF_some hs
  rcases h.ex with ⟨h0, -, -⟩ | ⟨K, tl, h1, h2, h3⟩
  · simp at h0
  · obtain ⟨a, t, b, rfl, ht⟩ := tl_split (h2.mem_iff.2 (show x ∈ A ++ x :: B by simp))
    have htn : t.nm = s := by rw [← hxs, ← ht]; rfl
    have hb : t.b = x.b := by rw [← ht]; rfl
    have hw : t.ws = x.ws := by rw [← ht]; rfl
    have hmem : (s, t.L) ∈ mlT (a ++ t :: b) := List.mem_map.2 ⟨t, by simp, by rw [htn]⟩
    have hl := h1.km.look h1.knd s
    rw [lkM_of h1.knd hmem] at hl
    have hrest : ((a ++ b).map pl).Perm (A ++ B) := by
      have p1 : ((a ++ t :: b).map pl).Perm (pl t :: (a ++ b).map pl) := (mid_perm a b t).map pl
      have p2 : (A ++ x :: B).Perm (x :: (A ++ B)) := mid_perm A B x
      rw [ht] at p1
      exact (p1.symm.trans (h2.trans p2)).cons_inv
    refine ⟨K, t.L, t.F, h1.box, hl, by rw [← hb, ← hw]; exact h1.lr t (by simp), fun q hq => ⟨(h3 q).2 (.inr (.inr ⟨t, by simp, hq⟩)), (h1.of t (by simp) q hq).1⟩, ?_, fun ty => ?_⟩
    · intro w' F' b' ws' hl' hf
      obtain ⟨k1, k2⟩ := h1.turn hl' hf
      refine ⟨_, ⟨.inr ⟨K, _, k1, ?_, fun q => Iff.rfl⟩⟩, k2.from h3⟩
      rw [hset]
      have p1 : ((a ++ ⟨t.nm, t.L, F', b', ws'⟩ :: b).map pl).Perm (pl ⟨t.nm, t.L, F', b', ws'⟩ :: (a ++ b).map pl) := (mid_perm a b _).map pl
      have e : pl ⟨t.nm, t.L, F', b', ws'⟩ = ⟨s, b', ws'⟩ := by rw [← htn]; rfl
      rw [e] at p1
      exact p1.trans ((hrest.cons _).trans (mid_perm A B _).symm)
    · obtain ⟨o, k1, k2⟩ := h1.km.del h1.knd (s := s) (q := t.L) hmem ty
      rw [← htn] at k2
      obtain ⟨g1, g2, g3, g4⟩ := h1.gone k2
      refine ⟨o, k1, _, ⟨.inr ⟨K, a ++ b, g1, by rw [hout]; exact hrest, fun q => Iff.rfl⟩⟩, g2.from h3, by rw [← hb, ← hw]; exact g3, g4, (setM_off h1.ck).trans h1.box⟩
/-- Where there is none. -/
theorem DR.shut (h : DR w D F sy dl) {s : List UInt8} (hs : lkF s dl = none) : ∃ mv, w.heap[D]? = some (.cells #[.map mv, .int .i64 sy] 90 (0, 0)) ∧ (Instr.lookup 88 (.map mv) (.string (tx s)) true).run Try.prog w = .ok (.tuple #[.pointer none, .bool false]) w := by
  rcases h.ex with ⟨h0, h1, h2⟩ | ⟨K, tl, h1, h2, h3⟩
  · exact ⟨none, h1, run_look_nil w s⟩
  · refine ⟨some K, h1.box, ?_⟩
    have hl := h1.km.look h1.knd s
    have hn : lkM s (mlT tl) = none := by
      rw [lkM_none, mlT_fst, ← pl_nm]
      exact fun e => lkF_none.1 hs ((h2.map Fd.nm).mem_iff.1 e)
    rw [hn] at hl
    exact hl
end Go.Proofs.Ytflhgphjkhplmaa.D

/- A file's name. -/
namespace Go.Proofs.Ytflhgphjkhplmaa.D
open Go.RowKit
set_option linter.unusedVariables false
set_option linter.unusedSimpArgs false

def okC (c : Int) : Bool := (decide (97 ≤ c) && decide (c ≤ 122)) || ((decide (48 ≤ c) && decide (c ≤ 57)) || (c == 46))
def chI (s : List UInt8) : List Int := s.map fun c => (c.toNat : Int)
def nameB (s : List UInt8) : Bool := decide (1 ≤ s.length) && decide (s.length ≤ 32) && (chI s).all okC
theorem tx_at (l : List UInt8) (i : Nat) (c : UInt8) (h : l[i]? = some c) (k : IntKind) (W : World) : (Instr.index 9 (.string (tx l)) (.int k (i : Int))).run Try.prog W = .ok (.int .u8 (c.toNat : Int)) W := by
  have hi : i < l.length := (List.getElem?_eq_some_iff.1 h).1
  rw [run_index_string W 9 (tx l) k (i : Int) Try.underlying9, dif_pos (by rw [tx_size]; omega)]
  have e := Lib.getElem_mk l i (by rw [Lib.size_mk]; exact hi)
  rw [h] at e
  have e2 := Option.some.inj e
  simp only [Int.toNat_natCast]
  congr 4
  exact e2.symm
theorem chI_at {s : List UInt8} {j : Nat} {c : UInt8} (h : s[j]? = some c) : chI (s.take (j + 1)) = chI (s.take j) ++ [(c.toNat : Int)] := by
  unfold chI
  rw [List.take_add_one, h, List.map_append]
  rfl
theorem all_not {s : List UInt8} {j : Nat} {c : UInt8} (h : s[j]? = some c) (hc : okC (c.toNat : Int) = false) : nameB s = false := by
  unfold nameB
  have : (chI s).all okC = false := by
    rw [Bool.eq_false_iff]
    intro e
    rw [List.all_eq_true] at e
    have := e (c.toNat : Int) (List.mem_map.2 ⟨c, List.mem_of_getElem? h, rfl⟩)
    rw [hc] at this
    cases this
  rw [this, Bool.and_false]
set_option maxRecDepth 20000 in
set_option maxHeartbeats 4000000 in
theorem name_any (s : List UInt8) (w : World) (hl : (s.length : Int) ≤ 140737488351232) : Calls Try.prog 56 #[.string (tx s)] w fun e w' => e = .returned (.bool (nameB s)) ∧ w' = w := by
  obtain ⟨n, hn⟩ : ∃ n, s.length = n := ⟨_, rfl⟩
  have HN : Hid (s.length = n) := hn
  have lt : ((tx s).size : Int) = (n : Int) := by rw [tx_size, hn]
  rw [hn] at hl
  clear hn
  go_enter Try.func56, Try.ntmps56
  go_wp2
  go_step3
  go_wp2
  go_step3
  go_wp2
  go_loopw [3, 4] (fun a b wx => ∃ j : Nat, a = .int .i64 (j : Int) ∧ j ≤ n ∧ Hid ((chI (s.take j)).all okC = true) ∧ wx = w) (fun a b wx => n - (intOf a).toNat)
  case atStart => exact ⟨0, rfl, by omega, rfl, rfl⟩
  case round =>
    obtain ⟨j, rfl, hj, HA, hw⟩ := hrel
    rw [hw]
    clear hw
    by_cases cj : j < n
    · have cj' : (j : Int) < (n : Int) := by omega
      obtain ⟨c, hc⟩ : ∃ c, s[j]? = some c := ⟨_, List.getElem?_eq_getElem (by have := HN.out; omega)⟩
      have hix : ∀ W, (Instr.index 9 (.string (tx s)) (.int .i64 (j : Int))).run Try.prog W = .ok (.int .u8 (c.toNat : Int)) W := fun W => tx_at s j c hc .i64 W
      have HC : Hid (s[j]? = some c ∧ j < n) := ⟨hc, cj⟩
      have HS : Hid (okC (c.toNat : Int) = true → (chI (s.take (j + 1))).all okC = true) := fun h => by rw [chI_at hc, List.all_append, HA.out]; simp [h]
      obtain ⟨y, hy⟩ : ∃ y, (c.toNat : Int) = y := ⟨_, rfl⟩
      rw [hy] at hix HS
      have HY : Hid ((c.toNat : Int) = y) := hy
      clear hc cj hj hy
      by_cases a1 : 97 ≤ y
      · by_cases a2 : y ≤ 122
        · have HOK : Hid (okC y = true) := by show okC y = true; unfold okC; simp; omega
          go_wp2_with fail
          go_roundw
          case rel => exact ⟨j + 1, by go_num, HC.out.2, HS.out HOK.out, by first | trivial | rfl⟩
          case measure => have := HC.out.2; simp [intOf]; omega
        · have HNO : Hid (nameB s = false) := by
            apply all_not HC.out.1
            rw [HY.out]
            unfold okC
            simp
            omega
          go_wp2_with fail
          try rw [Exit.noGoto_ret]
          go_ret
          all_goals exact ⟨by rw [HNO.out]; rfl, by first | trivial | rfl⟩
      · by_cases a3 : 48 ≤ y
        · by_cases a4 : y ≤ 57
          · have HOK : Hid (okC y = true) := by show okC y = true; unfold okC; simp; omega
            go_wp2_with fail
            go_roundw
            case rel => exact ⟨j + 1, by go_num, HC.out.2, HS.out HOK.out, by first | trivial | rfl⟩
            case measure => have := HC.out.2; simp [intOf]; omega
          · have HNO : Hid (nameB s = false) := by
              apply all_not HC.out.1
              rw [HY.out]
              unfold okC
              simp
              omega
            go_wp2_with fail
            try rw [Exit.noGoto_ret]
            go_ret
            all_goals exact ⟨by rw [HNO.out]; rfl, by first | trivial | rfl⟩
        · by_cases a5 : y = 46
          · have HOK : Hid (okC y = true) := by show okC y = true; unfold okC; simp; omega
            go_wp2_with fail
            go_roundw
            case rel => exact ⟨j + 1, by go_num, HC.out.2, HS.out HOK.out, by first | trivial | rfl⟩
            case measure => have := HC.out.2; simp [intOf]; omega
          · have HNO : Hid (nameB s = false) := by
              apply all_not HC.out.1
              rw [HY.out]
              unfold okC
              simp
              omega
            go_wp2_with fail
            try rw [Exit.noGoto_ret]
            go_ret
            all_goals exact ⟨by rw [HNO.out]; rfl, by first | trivial | rfl⟩
    · have ej : j = n := by omega
      subst ej
      clear cj hj
      have HE : Hid (nameB s = (decide (1 ≤ j) && decide (j ≤ 32))) := by
        show nameB s = _
        unfold nameB
        have := HA.out
        rw [← HN.out, List.take_length] at this
        rw [this, Bool.and_true, HN.out]
      by_cases c1 : 1 ≤ j
      · have c1' : (1 : Int) ≤ (j : Int) := by omega
        by_cases c2 : j ≤ 32
        · have c2' : (j : Int) ≤ 32 := by omega
          have HB : Hid (nameB s = true) := by show nameB s = true; rw [HE.out]; simp [c1, c2]
          clear c1 c2 
          go_wp2_with fail
          try rw [Exit.noGoto_ret]
          go_ret
          all_goals exact ⟨by rw [HB.out]; rfl, by first | trivial | rfl⟩
        · have c2' : ¬ (j : Int) ≤ 32 := by omega
          have HB : Hid (nameB s = false) := by show nameB s = false; rw [HE.out]; simp [c1, c2]
          clear c1 c2 
          go_wp2_with fail
          try rw [Exit.noGoto_ret]
          go_ret
          all_goals exact ⟨by rw [HB.out]; rfl, by first | trivial | rfl⟩
      · have c1' : ¬ (1 : Int) ≤ (j : Int) := by omega
        have HB : Hid (nameB s = false) := by show nameB s = false; rw [HE.out]; simp [c1]
        clear c1 
        go_wp2_with fail
        try rw [Exit.noGoto_ret]
        go_ret
        all_goals exact ⟨by rw [HB.out]; rfl, by first | trivial | rfl⟩
end Go.Proofs.Ytflhgphjkhplmaa.D
