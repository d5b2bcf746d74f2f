/- What a slot told, compared with itself. -/
import Derived.Test.YtkigagglkmdccaaYa
import Derived.DeepKeys
namespace Go.Proofs.Ytkigagglkmdccaa
open Go.RowKit
set_option linter.unusedVariables false
set_option linter.unusedSimpArgs false
theorem eqI (A : Int) (n : Nat) (w : World) : (Op.equalIn (n + 1) 2 (.int .i64 A) (.int .i64 A)).run Try.prog w = .ok true w := by
  simp [Op.equalIn, run_underlying Try.underlying2]
theorem eqS (s : ByteArray) (n : Nat) (w : World) : (Op.equalIn (n + 1) 9 (.string s) (.string s)).run Try.prog w = .ok true w := by
  simp [Op.equalIn, run_underlying Try.underlying9]
  first | (show (s.data == s.data) = true; simp) | (cases s; rfl) | (unfold BEq.beq; simp)
theorem eqB (b : Bool) (n : Nat) (w : World) : (Op.equalIn (n + 1) 4 (.bool b) (.bool b)).run Try.prog w = .ok true w := by
  simp [Op.equalIn, run_underlying Try.underlying4]
theorem eqJob (B C : Int) (w : World) : (Op.equalIn (9998 + 1) 30 (.agg #[.int .i64 B, .int .i64 C]) (.agg #[.int .i64 B, .int .i64 C])).run Try.prog w = .ok true w := by
  have p0 : (part 2 #[.int .i64 B, .int .i64 C] 0).run Try.prog w = .ok (.int .i64 B) w := by kernel_rfl
  have p1 : (part 2 #[.int .i64 B, .int .i64 C] 1).run Try.prog w = .ok (.int .i64 C) w := by kernel_rfl
  rw [run_equalIn_struct w 9998 30 _ _ (by simp [Program.fieldsOf, Try.underlying30]) (by kernel_rfl)]
  simp [Program.fieldsOf, Try.underlying30, Op.eqFields, p0, p1, eqI _ 9997]
theorem eqServed (A B C : Int) (s : ByteArray) (d e : Bool) (w : World) : (Op.equalIn 10000 40 (.agg #[.int .i64 A, .string s, .int .i64 B, .int .i64 C, .bool d, .bool e]) (.agg #[.int .i64 A, .string s, .int .i64 B, .int .i64 C, .bool d, .bool e])).run Try.prog w = .ok true w := by
  have p0 : (part 2 #[.int .i64 A, .string s, .int .i64 B, .int .i64 C, .bool d, .bool e] 0).run Try.prog w = .ok (.int .i64 A) w := by kernel_rfl
  have p1 : (part 9 #[.int .i64 A, .string s, .int .i64 B, .int .i64 C, .bool d, .bool e] 1).run Try.prog w = .ok (.string s) w := by kernel_rfl
  have p2 : (part 30 #[.int .i64 A, .string s, .int .i64 B, .int .i64 C, .bool d, .bool e] 2).run Try.prog w = .ok (.agg #[.int .i64 B, .int .i64 C]) w := by kernel_rfl
  have p4 : (part 4 #[.int .i64 A, .string s, .int .i64 B, .int .i64 C, .bool d, .bool e] 4).run Try.prog w = .ok (.bool d) w := by kernel_rfl
  have p5 : (part 4 #[.int .i64 A, .string s, .int .i64 B, .int .i64 C, .bool d, .bool e] 5).run Try.prog w = .ok (.bool e) w := by kernel_rfl
  rw [show (10000:Nat) = 9999+1 from rfl, run_equalIn_struct w 9999 40 _ _ (by simp [Program.fieldsOf, Try.underlying40]) (by kernel_rfl)]
  simp [Program.fieldsOf, Try.underlying40, Op.eqFields, p0, p1, p2, p4, p5, eqI _ 9998, eqS _ 9998, eqB _ 9998, eqJob]
/-- A text, and not that text. -/
theorem tx_ne {a b : List UInt8} (h : a ≠ b) : tx a ≠ tx b := fun e => h (tx_inj e)
end Go.Proofs.Ytkigagglkmdccaa
