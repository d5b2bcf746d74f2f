/- Ranging over a map of one entry. -/
import Derived.Test.YtfllepgcgbpfiaaB2
import Derived.Laws.IdiomRangeMap
namespace Go.Proofs.Ytfllepgcgbpfiaa
open Go.RowKit
set_option linter.unusedVariables false
set_option linter.unusedSimpArgs false

theorem under74 : Try.prog.underlying 74 = some (.map 9 3) := by kernel_rfl
theorem next_first {W : World} {it B : Nat} {s : ByteArray} {v : Value} (ty : TypeId) (hi : W.heap[it]? = some (.mapIter (some B) 1 #[] 1)) (hm : MapAt W B [(s, v, 0)] 1) :
    (Instr.next (.pointer (some ⟨it, 0, none⟩)) false ty).run Try.prog W = .ok (.tuple #[.bool true, .string s, v]) { W with heap := W.heap.setIfInBounds it (.mapIter (some B) 1 #[0] 1) } := by
  unfold MapAt ents at hm
  simp only [List.map_cons, List.map_nil] at hm
  simp only [Instr.next, getObj, Sem.run_bind, Sem.run, hi, hm, Result.andThen]
  have e : (!(#[] : Array Nat).isEmpty && !(#[{ key := Value.string s, val := v, born := 0 }] : Array MapEntry).isEmpty && (#[{ key := Value.string s, val := v, born := 0 }] : Array MapEntry).all (fun x => decide (x.born ≥ 1))) = false := rfl
  simp only [e, Bool.false_eq_true, if_false]
  simp [choose, Sem.run, Question.forced, setObj, Result.andThen, hi]
theorem next_last {W : World} {it B : Nat} {s : ByteArray} {v : Value} (ty : TypeId) (hi : W.heap[it]? = some (.mapIter (some B) 1 #[0] 1)) (hm : MapAt W B [(s, v, 0)] 1) :
    (Instr.next (.pointer (some ⟨it, 0, none⟩)) false ty).run Try.prog W = .ok (.tuple #[.bool false]) W := by
  unfold MapAt ents at hm
  simp only [List.map_cons, List.map_nil] at hm
  simp only [Instr.next, getObj, Sem.run_bind, Sem.run, hi, hm, Result.andThen]
  have e : (!(#[0] : Array Nat).isEmpty && !(#[{ key := Value.string s, val := v, born := 0 }] : Array MapEntry).isEmpty && (#[{ key := Value.string s, val := v, born := 0 }] : Array MapEntry).all (fun x => decide (x.born ≥ 1))) = false := by simp
  simp only [e, Bool.false_eq_true, if_false]
  simp [choose, Sem.run, Question.forced, Result.andThen]
theorem entry_one {W : World} {it B : Nat} {s : ByteArray} {v : Value} (hi : W.heap[it]? = some (.mapIter (some B) 1 #[0] 1)) (hm : MapAt W B [(s, v, 0)] 1) :
    (Instr.entry (.pointer (some ⟨it, 0, none⟩))).run Try.prog W = .ok (.tuple #[.string s, v]) W := by
  unfold MapAt ents at hm
  simp only [List.map_cons, List.map_nil] at hm
  have e : (#[0] : Array Nat).back? = some 0 := rfl
  simp only [Instr.entry, getObj, Sem.run_bind, Sem.run, hi, hm, Result.andThen, e]
  simp
end Go.Proofs.Ytfllepgcgbpfiaa
