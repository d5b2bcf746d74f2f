/- Maps by texts, as they lie: what a key leads to, a new key, a key goes, how many there are. -/
import Derived.Test.YtkigagglkmdccaaQa
import Derived.Maps.Own
namespace Go.Proofs.Ytkigagglkmdccaa
open Go.RowKit
set_option linter.unusedVariables false
set_option linter.unusedSimpArgs false

/-- An entry: the tenant's name, its queue's block, when it was born. -/
structure En where
  nm : List UInt8
  q : Nat
  born : Nat
def ents (l : List En) : List MapEntry := l.map fun p => ⟨.string (tx p.nm), .pointer (some ⟨p.q, 0, none⟩), p.born⟩
/-- Where a name stands, and its queue. -/
def fndE (s : List UInt8) : List En → Nat → Option (Nat × Nat)
  | [], _ => none
  | p :: r, i => if s = p.nm then some (i, p.q) else fndE s r (i + 1)
theorem tx_beq (s t : List UInt8) : (tx s == tx t) = decide (s = t) := by
  have e : (tx s == tx t) = (s.toArray == t.toArray) := rfl
  rw [e]
  by_cases h : s = t
  · subst h; simp
  · simp [h]
theorem ents_erase : ∀ (l : List En) (i : Nat), (ents l).eraseIdx i = ents (l.eraseIdx i)
  | [], _ => rfl
  | _ :: _, 0 => rfl
  | p :: r, i + 1 => congrArg (_ :: ·) (ents_erase r i)
theorem findNow_ents (s : List UInt8) : ∀ (l : List En) (i : Nat), Instr.findNow .string (.string (tx s)) (ents l) i = some ((fndE s l i).map fun p => (p.1, .pointer (some ⟨p.2, 0, none⟩)))
  | [], _ => rfl
  | p :: r, i => by
    have ih := findNow_ents s r (i + 1)
    unfold ents at ih ⊢
    simp only [List.map_cons, Instr.findNow, Instr.sameNow, fndE, tx_beq]
    by_cases h : s = p.nm
    · simp [h]
    · simp [h, ih]
/-- A map by texts, as it lies. -/
def MapAt (w : World) (B : Nat) (l : List En) (c : Nat) : Prop := w.heap[B]? = some (.map (ents l).toArray c)
theorem under9 : Try.prog.underlying 9 = some .string := by kernel_rfl
theorem under63 : Try.prog.underlying 63 = some (.map 9 109) := by kernel_rfl
theorem zero109 (w : World) : (zeroValue 109).run Try.prog w = .ok (.pointer none) w := by kernel_rfl
theorem run_findKey_ents (s : List UInt8) (l : List En) (w : World) : (Instr.findKey 9 (.string (tx s)) (ents l)).run Try.prog w = .ok ((fndE s l 0).map fun p => (p.1, .pointer (some ⟨p.2, 0, none⟩))) w := by
  simp [Instr.findKey, run_underlying under9, findNow_ents, Result.andThen]
theorem run_check (s : ByteArray) (b : Bool) (w : World) : (Instr.checkKey b 10000 9 (.string s)).run Try.prog w = .ok () w := MapKept.run_checkKey under9 (by trivial) b 9999
/-- What a key leads to. -/
def atE (s : List UInt8) (l : List En) : Value := match fndE s l 0 with | some p => .pointer (some ⟨p.2, 0, none⟩) | none => .pointer none
theorem run_look {w : World} {B c : Nat} {l : List En} (h : MapAt w B l c) (s : List UInt8) :
    (Instr.lookup 63 (.map (some B)) (.string (tx s)) false).run Try.prog w = .ok (atE s l) w := by
  unfold MapAt at h
  unfold atE
  cases hf : fndE s l 0 with
  | none => simp [Instr.lookup, run_underlying under63, MapKept.run_getObj_map h, run_check, run_findKey_ents, hf, zero109, Result.andThen]
  | some p => simp [Instr.lookup, run_underlying under63, MapKept.run_getObj_map h, run_check, run_findKey_ents, hf, Result.andThen]
/-- No map. -/
theorem run_look_nil (w : World) (s : List UInt8) : (Instr.lookup 63 (.map none) (.string (tx s)) false).run Try.prog w = .ok (.pointer none) w := by
  have h0 := run_findKey_ents s [] w
  unfold ents fndE at h0
  simp only [List.map_nil] at h0
  simp [Instr.lookup, run_underlying under63, run_check, h0, zero109, Result.andThen]
/-- A new key. -/
theorem run_put_new {w : World} {B c : Nat} {l : List En} (h : MapAt w B l c) {s : List UInt8} (hf : fndE s l 0 = none) (q : Nat) :
    (Instr.mapUpdate 63 (.map (some B)) (.string (tx s)) (.pointer (some ⟨q, 0, none⟩))).run Try.prog w = .ok () { w with heap := w.heap.setIfInBounds B (.map (ents (l ++ [⟨s, q, c⟩])).toArray (c + 1)) } := by
  unfold MapAt at h
  have e1 : ents l ++ [{ key := .string (tx s), val := .pointer (some ⟨q, 0, none⟩), born := c }] = ents (l ++ [⟨s, q, c⟩]) := by simp [ents]
  simp [Instr.mapUpdate, run_underlying under63, MapKept.run_getObj_map h, run_check, run_findKey_ents, hf, MapKept.run_setObj_map _ h, Result.andThen]
  rw [e1]
/-- A key goes. -/
theorem run_del {w : World} {B c : Nat} {l : List En} (h : MapAt w B l c) {s : List UInt8} {i q : Nat} (hf : fndE s l 0 = some (i, q)) (ty : TypeId) :
    (Builtin.delete_ #[63, 9] ty #[.map (some B), .string (tx s)]).run Try.prog w = .ok (.tuple #[]) { w with heap := w.heap.setIfInBounds B (.map (ents (l.eraseIdx i)).toArray c) } := by
  unfold MapAt at h
  simp [Builtin.delete_, run_underlying under63, MapKept.run_getObj_map h, run_check, run_findKey_ents, hf, MapKept.run_setObj_map _ h, Result.andThen]
  rw [ents_erase]
end Go.Proofs.Ytkigagglkmdccaa
