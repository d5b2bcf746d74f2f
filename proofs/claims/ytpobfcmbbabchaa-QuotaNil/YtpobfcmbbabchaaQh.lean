/- The program's calls of a table that is not there; one call that comes in. -/
import Derived.Test.YtpobfcmbbabchaaQg
import Derived.Test.YtpobfcmbbabchaaA1
namespace Go.Proofs.Ytpobfcmbbabchaa
open Go.RowKit
set_option linter.unusedVariables false
set_option linter.unusedSimpArgs false

theorem filled_nil (nm : List UInt8) (cost now : Int) (w : World) : Calls Try.prog 22 #[.pointer none, .string (tx nm), .int .i64 cost, .int .i64 now] w fun e w' => e = .returned (.tuple #[.pointer none, .int .i64 2]) ∧ w' = w := by
  go_enter Try.func22, Try.ntmps22
  go_wp2
  go_ret2
  exact ⟨rfl, rfl⟩
theorem prgNil : PrgNil where
  tok := fun nm now w => by
    go_enter Try.func12, Try.ntmps12
    go_wp2_with (go_at_call 22; refine (filled_nil _ _ _ _).mono ?_; rintro e w1 ⟨rfl, hw1⟩; rw [hw1]; clear hw1)
    go_ret2
    exact ⟨rfl, Below.refl _ _⟩
  next := fun nm cost now w => by
    go_enter Try.func17, Try.ntmps17
    go_wp2_with (go_at_call 22; refine (filled_nil _ _ _ _).mono ?_; rintro e w1 ⟨rfl, hw1⟩; rw [hw1]; clear hw1)
    go_ret2
    exact ⟨rfl, Below.refl _ _⟩
  cnt := fun nm w => by
    go_enter Try.func14, Try.ntmps14
    go_wp2
    refine bodyPost_ret (v := cntV ((0, 0, 0), 2)) (results_two Try.results14 _ _ w.heap.size _ _ rfl rfl (load41 (heap_alloc_new _ _) rfl)) rfl ⟨rfl, bel1 w _⟩
  set := fun nm rate burst now w => by
    go_enter Try.func15, Try.ntmps15
    go_wp2
    go_ret
    exact ⟨rfl, Below.refl _ _⟩
  take := fun nm cost now w => by
    go_enter Try.func16, Try.ntmps16
    go_wp2_with (go_at_call 22; refine (filled_nil _ _ _ _).mono ?_; rintro e w1 ⟨rfl, hw1⟩; rw [hw1]; clear hw1)
    go_ret
    exact ⟨rfl, Below.refl _ _⟩
  give := fun nm cost now w => by
    go_enter Try.func19, Try.ntmps19
    go_wp2_with (go_at_call 22; refine (filled_nil _ _ _ _).mono ?_; rintro e w1 ⟨rfl, hw1⟩; rw [hw1]; clear hw1)
    go_ret
    exact ⟨rfl, Below.refl _ _⟩
  drop := fun nm w => by
    go_enter Try.func20, Try.ntmps20
    go_wp2
    go_ret
    exact ⟨rfl, Below.refl _ _⟩
  len := fun w => by
    go_enter Try.func21, Try.ntmps21
    go_wp2
    go_ret
    exact ⟨rfl, Below.refl _ _⟩
  copy := fun w => by
    go_enter Try.func18, Try.ntmps18
    go_wp2
    go_ret
    exact ⟨rfl, Below.refl _ _⟩
set_option maxRecDepth 100000 in
open Go.WideShapes in
theorem op_in {H : Type} {enc : TypeId × Value → H} {W : World} {r : Reach} {b0 : Nat} {v : Value} {d : DataW H} {p : List MemPlace} (hv : Value.okWide Try.prog W r b0 32 v) (h : DataW.Trod enc Try.prog W 0 (fun _ => true) true 32 v d p) : ∃ o : OpI, v = opV o := by
  obtain ⟨cs, rfl, hsz⟩ := okWide_struct Try.underlying32 hv
  have k32 : Try.prog.cellsOf 32 = 6 := by kernel_rfl
  rw [k32] at hsz
  obtain ⟨fuel, hf⟩ := h
  obtain ⟨o, ho⟩ := op_of (cs := cs.toList) (by simpa using hsz) (by simpa [Value.cells] using hf)
  exact ⟨o, by unfold opV; rw [← Array.toArray_toList (xs := cs), ho]⟩
end Go.Proofs.Ytpobfcmbbabchaa
