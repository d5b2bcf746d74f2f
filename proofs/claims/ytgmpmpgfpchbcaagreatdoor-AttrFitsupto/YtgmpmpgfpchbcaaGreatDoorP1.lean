/- Keys, as plain lists. -/
import Derived.Test.YtgmpmpgfpchbcaaGreatDoorChecked
import Derived.WalkKit
import Derived.WalkMore
import Derived.BigQuiet
import Derived.Lib.TrimByte
namespace Go.Proofs.YtgmpmpgfpchbcaaGreatDoor
open Go.RowKit
set_option linter.unusedVariables false
set_option linter.unusedSimpArgs false

/-- A text of bytes. -/
def tx (l : List UInt8) : ByteArray := ⟨l.toArray⟩
theorem tx_size (l : List UInt8) : (tx l).size = l.length := by simp [tx, ByteArray.size]
theorem tx_list (l : List UInt8) : (tx l).toList = l := ByteArray.toList_mk l
theorem tx_inj {a b : List UInt8} (h : tx a = tx b) : a = b := by rw [← tx_list a, h, tx_list]
/-- A byte that can stand in a key, by its number; at its beginning, or behind it. -/
def kbI (first : Bool) (C : Int) : Bool := decide (97 ≤ C ∧ C ≤ 122) || decide (65 ≤ C ∧ C ≤ 90) || decide (C = 95) || (!first && (decide (48 ≤ C ∧ C ≤ 57) || decide (C = 46)))
def kb (first : Bool) (c : UInt8) : Bool := kbI first (c.toNat : Int)
/-- Whether a text can be a key. -/
def keyI (l : List UInt8) : Bool := decide (1 ≤ l.length ∧ l.length ≤ 64) && match l with | [] => true | c :: r => kb true c && r.all (kb false)
theorem key_yes (l : List UInt8) (h1 : 1 ≤ l.length) (h2 : l.length ≤ 64) (h : ∀ j c, l[j]? = some c → kb (j == 0) c = true) : keyI l = true := by
  unfold keyI
  rw [decide_eq_true ⟨h1, h2⟩]
  cases l with
  | nil => rfl
  | cons c r =>
    have hc := h 0 c rfl
    have hr : r.all (kb false) = true := by
      rw [List.all_eq_true]
      intro x hx
      obtain ⟨j, hj⟩ := List.getElem?_of_mem hx
      exact h (j + 1) x (by simpa using hj)
    simp only [Bool.true_and]
    rw [hr, Bool.and_true]
    exact hc
theorem key_no (l : List UInt8) (j : Nat) (c : UInt8) (hc : l[j]? = some c) (h : kb (j == 0) c = false) : keyI l = false := by
  unfold keyI
  cases l with
  | nil => simp at hc
  | cons d r =>
    cases j with
    | zero =>
      simp at hc
      subst hc
      have h' : kb true d = false := h
      simp [h']
    | succ j =>
      have hm : c ∈ r := List.mem_of_getElem? (by simpa using hc)
      have h' : kb false c = false := h
      have : r.all (kb false) = false := by
        rw [Bool.eq_false_iff]
        intro ha
        have := List.all_eq_true.1 ha c hm
        rw [h'] at this
        cases this
      simp [this]
theorem key_len (l : List UInt8) (h : ¬ (1 ≤ l.length ∧ l.length ≤ 64)) : keyI l = false := by unfold keyI; rw [decide_eq_false h]; rfl
theorem tx_at (l : List UInt8) (i : Nat) (c : UInt8) (h : l[i]? = some c) (k : IntKind) (W : World) : (Instr.index 9 (.string (tx l)) (.int k (i : Int))).run Tryz.prog W = .ok (.int .u8 (c.toNat : Int)) W := by
  have hi : i < l.length := (List.getElem?_eq_some_iff.1 h).1
  rw [run_index_string W 9 (tx l) k (i : Int) Tryz.underlying9, dif_pos (by rw [tx_size]; omega)]
  have e := Lib.getElem_mk l i (by rw [Lib.size_mk]; exact hi)
  rw [h] at e
  have e2 := Option.some.inj e
  simp only [Int.toNat_natCast]
  congr 4
  exact e2.symm
end Go.Proofs.YtgmpmpgfpchbcaaGreatDoor
