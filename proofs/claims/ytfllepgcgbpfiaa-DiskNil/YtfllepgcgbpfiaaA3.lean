/- A disk's file is found, or not. -/
import Derived.Test.YtfllepgcgbpfiaaA2
namespace Go.Proofs.Ytfllepgcgbpfiaa
open Go.RowKit
set_option linter.unusedVariables false
set_option linter.unusedSimpArgs false

theorem under68 : Try.prog.underlying 68 = some (.map 9 77) := by kernel_rfl
theorem zero77 (w : World) : (zeroValue 77).run Try.prog w = .ok (.pointer none) w := by kernel_rfl
theorem find_some (D : Nat) (s : ByteArray) (B c i : Nat) (l : List Ent) (a : Option Addr) (w : World) (hD : w.cell? ⟨D, 0, none⟩ = some (.map (some B))) (h : MapAt w B l c) (hf : fnd s l 0 = some (i, .pointer a)) :
    Calls Try.prog 48 #[.pointer (some ⟨D, 0, none⟩), .string s] w fun e w' => e = .returned (.tuple #[.pointer a, .int .i64 0]) ∧ w' = w := by
  have hrun := run_look_some under68 h hf
  clear h hf
  go_enter Try.func48, Try.ntmps48
  go_wp2
  go_ret2
  exact ⟨rfl, rfl⟩
theorem find_none (D : Nat) (s : ByteArray) (B c : Nat) (l : List Ent) (w : World) (hD : w.cell? ⟨D, 0, none⟩ = some (.map (some B))) (h : MapAt w B l c) (hf : fnd s l 0 = none) :
    Calls Try.prog 48 #[.pointer (some ⟨D, 0, none⟩), .string s] w fun e w' => e = .returned (.tuple #[.pointer none, .int .i64 5]) ∧ w' = w := by
  have hrun := run_look_none under68 (zero77 w) h hf
  clear h hf
  go_enter Try.func48, Try.ntmps48
  go_wp2
  go_ret2
  exact ⟨rfl, rfl⟩
theorem find_new (D : Nat) (s : ByteArray) (w : World) (hD : w.cell? ⟨D, 0, none⟩ = some (.map none)) :
    Calls Try.prog 48 #[.pointer (some ⟨D, 0, none⟩), .string s] w fun e w' => e = .returned (.tuple #[.pointer none, .int .i64 5]) ∧ w' = w := by
  have hrun := run_look_nil under68 (zero77 w) s
  go_enter Try.func48, Try.ntmps48
  go_wp2
  go_ret2
  exact ⟨rfl, rfl⟩
end Go.Proofs.Ytfllepgcgbpfiaa
