/- What is asked of the program's scheduler beside: what can be seen of it. -/
import Derived.Test.YtfndbllpnkhlhaaL1
namespace Go.Proofs.Ytfndbllpnkhlhaa
open Go.RowKit
set_option linter.unusedVariables false

structure PrgSX (PF : World → Nat → (Nat → Prop) → Sc → Prop) : Prop where
  waiting : ∀ (N : Int) (T : Nat) (F : Nat → Prop) (s : Sc) (nm : List UInt8) (w : World), PF w T F s → Sok N s → N ≤ 100000 →
    Calls Try.prog 29 #[.pointer (some ⟨T, 0, none⟩), .string (tx nm)] w fun e w' => e = .returned (.int .i64 (waitS s nm)) ∧ ∃ F', PF w' T F' s ∧ Fr F F' w w'
  ahead : ∀ (N : Int) (T : Nat) (F : Nat → Prop) (s : Sc) (nm : List UInt8) (w : World), PF w T F s → Sok N s → N ≤ 100000 →
    Calls Try.prog 23 #[.pointer (some ⟨T, 0, none⟩), .string (tx nm)] w fun e w' => e = .returned (.int .i64 (aheadS s nm)) ∧ ∃ F', PF w' T F' s ∧ Fr F F' w w'
  weights : ∀ (N : Int) (T : Nat) (F : Nat → Prop) (s : Sc) (w : World), PF w T F s → Sok N s → N ≤ 100000 →
    Calls Try.prog 24 #[.pointer (some ⟨T, 0, none⟩)] w fun e w' => e = .returned (.tuple #[.int .i64 (sumW s.ts), .int .i64 (s.ts.length : Int)]) ∧ ∃ F', PF w' T F' s ∧ Fr F F' w w'
  drop : ∀ (N : Int) (T : Nat) (F : Nat → Prop) (s : Sc) (w : World), PF w T F s → Sok N s → N ≤ 100000 →
    Calls Try.prog 30 #[.pointer (some ⟨T, 0, none⟩)] w fun e w' => e = .returned (.int .i64 (dropS s).1) ∧ ∃ F', PF w' T F' (dropS s).2 ∧ Fr F F' w w'
end Go.Proofs.Ytfndbllpnkhlhaa
