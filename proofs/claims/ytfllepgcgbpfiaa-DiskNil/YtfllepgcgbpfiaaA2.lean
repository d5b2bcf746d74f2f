/- Maps by strings, as they lie: what a key leads to, and a new key. -/
import Derived.Test.YtfllepgcgbpfiaaA1
import Derived.Maps.Own
namespace Go.Proofs.Ytfllepgcgbpfiaa
open Go.RowKit
set_option linter.unusedVariables false
set_option linter.unusedSimpArgs false

abbrev Ent := ByteArray × Value × Nat
def ents (l : List Ent) : List MapEntry := l.map fun p => ⟨.string p.1, p.2.1, p.2.2⟩
def fnd (s : ByteArray) : List Ent → Nat → Option (Nat × Value)
  | [], _ => none
  | p :: r, i => if s == p.1 then some (i, p.2.1) else fnd s r (i + 1)
theorem findNow_ents (s : ByteArray) : ∀ (l : List Ent) (i : Nat), Instr.findNow .string (.string s) (ents l) i = some (fnd s l i)
  | [], _ => rfl
  | p :: r, i => by
    have ih := findNow_ents s r (i + 1)
    unfold ents at ih ⊢
    simp only [List.map_cons, Instr.findNow, Instr.sameNow, fnd]
    by_cases h : (s == p.1) = true
    · simp [h]
    · have h' : (s == p.1) = false := by simpa using h
      simp [h', ih]
/-- A map by strings, as it lies. -/
def MapAt (w : World) (B : Nat) (l : List Ent) (c : Nat) : Prop := w.heap[B]? = some (.map (ents l).toArray c)
theorem under9 : Try.prog.underlying 9 = some .string := by kernel_rfl
theorem run_findKey_ents (s : ByteArray) (l : List Ent) (w : World) : (Instr.findKey 9 (.string s) (ents l)).run Try.prog w = .ok (fnd s l 0) w := by
  simp [Instr.findKey, run_underlying under9, findNow_ents, Result.andThen]
theorem run_check (s : ByteArray) (b : Bool) (w : World) : (Instr.checkKey b 10000 9 (.string s)).run Try.prog w = .ok () w := MapKept.run_checkKey under9 (by trivial) b 9999
/-- A key that is there. -/
theorem run_look_some {T e : TypeId} (ht : Try.prog.underlying T = some (.map 9 e)) {w : World} {B c : Nat} {l : List Ent} (h : MapAt w B l c) {s : ByteArray} {i : Nat} {v : Value} (hf : fnd s l 0 = some (i, v)) :
    (Instr.lookup T (.map (some B)) (.string s) true).run Try.prog w = .ok (.tuple #[v, .bool true]) w := by
  unfold MapAt at h
  simp [Instr.lookup, run_underlying ht, MapKept.run_getObj_map h, run_check, run_findKey_ents, hf, Result.andThen]
/-- A key that is not there. -/
theorem run_look_none {T e : TypeId} (ht : Try.prog.underlying T = some (.map 9 e)) {w : World} {z : Value} (hz : (zeroValue e).run Try.prog w = .ok z w) {B c : Nat} {l : List Ent} (h : MapAt w B l c) {s : ByteArray} (hf : fnd s l 0 = none) :
    (Instr.lookup T (.map (some B)) (.string s) true).run Try.prog w = .ok (.tuple #[z, .bool false]) w := by
  unfold MapAt at h
  simp [Instr.lookup, run_underlying ht, MapKept.run_getObj_map h, run_check, run_findKey_ents, hf, hz, Result.andThen]
/-- No map. -/
theorem run_look_nil {T e : TypeId} (ht : Try.prog.underlying T = some (.map 9 e)) {w : World} {z : Value} (hz : (zeroValue e).run Try.prog w = .ok z w) (s : ByteArray) :
    (Instr.lookup T (.map none) (.string s) true).run Try.prog w = .ok (.tuple #[z, .bool false]) w := by
  have h0 := run_findKey_ents s [] w
  unfold ents fnd at h0
  simp only [List.map_nil] at h0
  simp [Instr.lookup, run_underlying ht, run_check, h0, hz, Result.andThen]
/-- A new key. -/
theorem run_put_new {T e : TypeId} (ht : Try.prog.underlying T = some (.map 9 e)) {w : World} {B c : Nat} {l : List Ent} (h : MapAt w B l c) {s : ByteArray} (hf : fnd s l 0 = none) (v : Value) :
    (Instr.mapUpdate T (.map (some B)) (.string s) v).run Try.prog w = .ok () { w with heap := w.heap.setIfInBounds B (.map (ents (l ++ [(s, v, c)])).toArray (c + 1)) } := by
  unfold MapAt at h
  have e1 : ents l ++ [{ key := .string s, val := v, born := c }] = ents (l ++ [(s, v, c)]) := by simp [ents]
  simp [Instr.mapUpdate, run_underlying ht, MapKept.run_getObj_map h, run_check, run_findKey_ents, hf, MapKept.run_setObj_map _ h, Result.andThen]
  rw [e1]
end Go.Proofs.Ytfllepgcgbpfiaa
