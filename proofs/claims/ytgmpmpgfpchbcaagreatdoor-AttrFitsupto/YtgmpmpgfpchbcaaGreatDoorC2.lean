/- Attributes as they lie; lists of them that are alike. -/
import Derived.Test.YtgmpmpgfpchbcaaGreatDoorC1
import Derived.DeepKeys
import Derived.StillTailTactics
import Derived.Deep.CutRange
import Derived.Deep.MidRow
namespace Go.Proofs.YtgmpmpgfpchbcaaGreatDoor
open Go.RowKit
set_option linter.unusedVariables false
set_option linter.unusedSimpArgs false

/-- An attribute: its key, its value. -/
abbrev At := List UInt8 × List UInt8
/-- A text's length can be. -/
def Can (x : At) : Prop := (x.1.length : Int) ≤ 140737488351232 ∧ (x.2.length : Int) ≤ 140737488351232
def atV (x : At) : Value := .agg #[.string (tx x.1), .string (tx x.2)]
/-- Attributes, as they lie. -/
structure Ats (W : World) (sa : Option Addr) (cap : Nat) (l : List At) : Prop where
  cap : l.length ≤ cap
  cells : ∀ i x, l[i]? = some x → ∃ b off, sa = some ⟨b, off, none⟩ ∧ W.cell? ⟨b, off + i * 2, none⟩ = some (.string (tx x.1)) ∧ W.cell? ⟨b, off + i * 2 + 1, none⟩ = some (.string (tx x.2))
  can : ∀ x ∈ l, Can x
theorem Ats.drew {W : World} {sa : Option Addr} {cap : Nat} {l : List At} (h : Ats W sa cap l) : Ats W.drew sa cap l := ⟨h.cap, h.cells, h.can⟩
theorem eqAt (x y : At) (hx : Can x) (hy : Can y) (w : World) : (Op.equalIn 10000 44 (.agg #[.string (tx x.1), .string (tx x.2)]) (.agg #[.string (tx y.1), .string (tx y.2)])).run Tryz.prog w = .ok (decide (x = y)) w := by
  have c9 : Tryz.prog.cellsOf 9 = 1 := by kernel_rfl
  have c45 : Tryz.prog.cellsOf 44 = 2 := by kernel_rfl
  have hk : ∀ z : At, Can z → Tryz.prog.keyLits 2 44 [.string (tx z.1), .string (tx z.2)] = some [.string (tx z.1).data.toList, .string (tx z.2).data.toList] := fun z hz => by
    have l1 : (tx z.1).size ≤ maxLen := by rw [tx_size]; unfold maxLen; have := hz.1; omega
    have l2 : (tx z.2).size ≤ maxLen := by rw [tx_size]; unfold maxLen; have := hz.2; omega
    simp [Program.keyLits, Tryz.underlying44, Tryz.underlying9, c9, c45, l1, l2]
  have hf : ∀ z : At, Value.formed Tryz.prog 44 (.agg #[.string (tx z.1), .string (tx z.2)]) = true := fun z => by
    unfold Value.formed
    simp only [Tryz.underlying44, c45]
    rfl
  obtain ⟨r, hr, hiff⟩ := run_equalIn_deep (P := Tryz.prog) 9998 2 44 (by kernel_rfl) w 2 2 (.agg #[.string (tx x.1), .string (tx x.2)]) (.agg #[.string (tx y.1), .string (tx y.2)]) _ _ (hf x) (hf y) (hk x hx) (hk y hy)
  have e : r = decide (x = y) := by
    rw [Bool.eq_iff_iff, hiff]
    have t1 : ∀ l : List UInt8, (tx l).data.toList = l := fun l => rfl
    simp only [t1, decide_eq_true_eq]
    constructor
    · intro h
      simp at h
      exact Prod.ext h.1 h.2
    · rintro rfl
      rfl
  rw [e] at hr
  exact hr
theorem still_of_quiet {P : Program} {ops : Array Oper} {W : World} {Q : Act → Prop} : ∀ (l : List Oper) (a : Act), wpQuiet P ops (fun w' => w' = W) Q l a → wpStill P ops W Q l a
  | [], a, h => h
  | o :: l, a, h => by
    unfold wpQuiet at h
    unfold wpStill
    split
    · rename_i hw
      rw [if_pos hw] at h
      obtain ⟨v, h1, h2⟩ := h
      have h3 := h1 W rfl
      have h4 := still_of_quiet l _ h2
      unfold Oper.quietAt at h3
      unfold Oper.still
      generalize (execOp a.eval o).run P W = r at h3
      cases r with
      | ok n w' =>
        cases n with
        | value u => obtain ⟨e1, e2⟩ := h3; subst e1; subst e2; exact ⟨rfl, h4⟩
        | skip => obtain ⟨e1, e2⟩ := h3; subst e1; subst e2; exact ⟨rfl, h4⟩
        | enter f args => obtain ⟨e1, e2⟩ := h3; subst e1; exact ⟨rfl, v, e2, h4⟩
        | _ => exact h3.elim
      | halt x w' => exact h3.elim
    · rename_i hw
      rw [if_neg hw] at h
      exact still_of_quiet l _ h
theorem quiet_loadV {P : Program} {W : World} {a : Act} {o : Oper} {K : Act → Prop} (ty : TypeId) (x : Operand) (ho : o.op = .load ty x) (p : Addr) (hx : a.eval x = .pointer (some p)) (v : Value) (hl : (loadVar ty p).run P W = .ok v W)
    (hk : K (a.put o.dst v)) : o.quiet P a (fun w' => w' = W) K := by
  refine ⟨v, fun w hw => ?_, hk⟩
  subst hw
  unfold Oper.quietAt
  simp only [execOp, ho, hx, Instr.loadAt, Instr.sureAddr, Sem.run_bind, Sem.run_pure, Result.andThen_ok, hl]
  exact ⟨rfl, rfl⟩
theorem quiet_neqAt {W : World} {a : Act} {o : Oper} {K : Act → Prop} (x y : Operand) (ho : o.op = .binOp .neq 44 x y 44) (u v : Array Value) (hx : a.eval x = .agg u) (hy : a.eval y = .agg v) (r : Bool) (hr : (Op.equalIn 10000 44 (.agg u) (.agg v)).run Tryz.prog W = .ok r W)
    (hk : K (a.put o.dst (.bool (!r)))) : o.quiet Tryz.prog a (fun w' => w' = W) K := by
  have hg : Tryz.prog.eqGuardType Tryz.prog.depth 44 = false := by kernel_rfl
  have hm : Op.maxDepth = 10000 := rfl
  refine ⟨_, fun w hw => ?_, hk⟩
  subst hw
  unfold Oper.quietAt
  simp only [execOp, ho, hx, hy]
  simp only [eqGuard, binOp, Op.equal, hg, hm]
  generalize Op.equalIn 10000 44 (.agg u) (.agg v) = E at hr ⊢
  simp [hr, go_sem, Oper.quietUpon]
theorem load45 {w : World} {b off : Nat} {x : At} (h0 : w.cell? ⟨b, off, none⟩ = some (.string (tx x.1))) (h1 : w.cell? ⟨b, off + 1, none⟩ = some (.string (tx x.2))) : (loadVar 44 ⟨b, off, none⟩).run Tryz.prog w = .ok (.agg #[.string (tx x.1), .string (tx x.2)]) w := by
  refine run_loadVar_mid w b off 44 [.string (tx x.1), .string (tx x.2)] _ (fun i v hv => ?_) Tryz.underlying44 rfl (by kernel_rfl)
  match i, hv with
  | 0, hv => rw [← hv]; exact h0
  | 1, hv => rw [← hv]; exact h1
  | i + 2, hv => simp at hv
end Go.Proofs.YtgmpmpgfpchbcaaGreatDoor
