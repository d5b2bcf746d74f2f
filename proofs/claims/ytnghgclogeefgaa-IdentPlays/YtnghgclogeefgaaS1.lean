/- Who is right, and is written. -/
import Derived.Test.YtnghgclogeefgaaR2
namespace Go.Proofs.Ytnghgclogeefgaa
open Go.RowKit
set_option linter.unusedVariables false
set_option linter.unusedSimpArgs false

/-- What is wrong of one who asks. -/
def rtI (t u : List UInt8) : Int := if rn t ∧ rn u then 0 else 100
theorem bel1' (w : World) (o : Obj) : Below w.heap.size w (w.alloc o) := (Below.refl _ w).alloc (Nat.le_refl _) _
theorem rightI_any (t u : List UInt8) (b : Bool) (w : World) (ht : (t.length : Int) ≤ 140737488351232) (hu : (u.length : Int) ≤ 140737488351232) :
    Calls Try.prog 12 #[.agg #[.string (tx t), .string (tx u), .bool b]] w fun e w' => e = .returned (.int .i64 (rtI t u)) ∧ Below w.heap.size w w' := by
  have HT : Hid (∀ W, Calls Try.prog 14 #[.string (tx t)] W fun e w' => e = .returned (.bool (decide (rn t))) ∧ w' = W) := fun W => name_any t W ht
  have HU : Hid (∀ W, Calls Try.prog 14 #[.string (tx u)] W fun e w' => e = .returned (.bool (decide (rn u))) ∧ w' = W) := fun W => name_any u W hu
  clear ht hu
  by_cases c1 : rn t
  · rw [decide_eq_true c1] at HT
    by_cases c2 : rn u
    · rw [decide_eq_true c2] at HU
      have HR : Hid (rtI t u = 0) := by show _ = _; unfold rtI; rw [if_pos ⟨c1, c2⟩]
      clear c1 c2
      go_enter Try.func12, Try.ntmps12
      go_wp2_with fail
      refine (HT.out _).mono ?_
      rintro e w1 ⟨rfl, hw1⟩
      rw [hw1]; clear hw1
      go_wp2_with fail
      refine (HU.out _).mono ?_
      rintro e w1 ⟨rfl, hw1⟩
      rw [hw1]; clear hw1
      go_wp2_with fail
      go_ret
      exact ⟨by rw [HR.out]; rfl, bel1' _ _⟩
    · rw [decide_eq_false c2] at HU
      have HR : Hid (rtI t u = 100) := by show _ = _; unfold rtI; rw [if_neg (fun h => c2 h.2)]
      clear c1 c2
      go_enter Try.func12, Try.ntmps12
      go_wp2_with fail
      refine (HT.out _).mono ?_
      rintro e w1 ⟨rfl, hw1⟩
      rw [hw1]; clear hw1
      go_wp2_with fail
      refine (HU.out _).mono ?_
      rintro e w1 ⟨rfl, hw1⟩
      rw [hw1]; clear hw1
      go_wp2_with fail
      go_ret
      exact ⟨by rw [HR.out]; rfl, bel1' _ _⟩
  · rw [decide_eq_false c1] at HT
    have HR : Hid (rtI t u = 100) := by show _ = _; unfold rtI; rw [if_neg (fun h => c1 h.1)]
    clear c1
    go_enter Try.func12, Try.ntmps12
    go_wp2_with fail
    refine (HT.out _).mono ?_
    rintro e w1 ⟨rfl, hw1⟩
    rw [hw1]; clear hw1
    go_wp2_with fail
    go_ret
    exact ⟨by rw [HR.out]; rfl, bel1' _ _⟩
theorem rrightI_any (t u : List UInt8) (b : Bool) (w : World) (ht : (t.length : Int) ≤ 140737488351232) (hu : (u.length : Int) ≤ 140737488351232) :
    Calls Try.prog 13 #[.agg #[.string (tx t), .string (tx u), .bool b]] w fun e w' => e = .returned (.int .i64 (rtI t u)) ∧ Below w.heap.size w w' := by
  have HT : Hid (∀ W, Calls Try.prog 15 #[.string (tx t)] W fun e w' => e = .returned (.bool (decide (rn t))) ∧ w' = W) := fun W => rname_ref t W ht
  have HU : Hid (∀ W, Calls Try.prog 15 #[.string (tx u)] W fun e w' => e = .returned (.bool (decide (rn u))) ∧ w' = W) := fun W => rname_ref u W hu
  clear ht hu
  by_cases c1 : rn t
  · rw [decide_eq_true c1] at HT
    by_cases c2 : rn u
    · rw [decide_eq_true c2] at HU
      have HR : Hid (rtI t u = 0) := by show _ = _; unfold rtI; rw [if_pos ⟨c1, c2⟩]
      clear c1 c2
      go_enter Try.func13, Try.ntmps13
      go_wp2_with fail
      refine (HT.out _).mono ?_
      rintro e w1 ⟨rfl, hw1⟩
      rw [hw1]; clear hw1
      go_wp2_with fail
      refine (HU.out _).mono ?_
      rintro e w1 ⟨rfl, hw1⟩
      rw [hw1]; clear hw1
      go_wp2_with fail
      go_ret
      exact ⟨by rw [HR.out]; rfl, bel1' _ _⟩
    · rw [decide_eq_false c2] at HU
      have HR : Hid (rtI t u = 100) := by show _ = _; unfold rtI; rw [if_neg (fun h => c2 h.2)]
      clear c1 c2
      go_enter Try.func13, Try.ntmps13
      go_wp2_with fail
      refine (HT.out _).mono ?_
      rintro e w1 ⟨rfl, hw1⟩
      rw [hw1]; clear hw1
      go_wp2_with fail
      refine (HU.out _).mono ?_
      rintro e w1 ⟨rfl, hw1⟩
      rw [hw1]; clear hw1
      go_wp2_with fail
      go_ret
      exact ⟨by rw [HR.out]; rfl, bel1' _ _⟩
  · rw [decide_eq_false c1] at HT
    have HR : Hid (rtI t u = 100) := by show _ = _; unfold rtI; rw [if_neg (fun h => c1 h.1)]
    clear c1
    go_enter Try.func13, Try.ntmps13
    go_wp2_with fail
    refine (HT.out _).mono ?_
    rintro e w1 ⟨rfl, hw1⟩
    rw [hw1]; clear hw1
    go_wp2_with fail
    go_ret
    exact ⟨by rw [HR.out]; rfl, bel1' _ _⟩
/-- What Print answers. -/
def prV (t u : List UInt8) (b : Bool) : Value := if rn t ∧ rn u then .tuple #[.string (tx (prI t u b)), .int .i64 0] else .tuple #[.string (tx []), .int .i64 100]
theorem pr_cat (t u : List UInt8) : ((tx hd ++ tx t) ++ tx [47]) ++ tx u = tx (prI t u false) := by rw [tx_app, tx_app, tx_app]; simp [prI, List.append_assoc]
theorem pr_adm (t u : List UInt8) : tx (prI t u false) ++ tx ad = tx (prI t u true) := by rw [tx_app]; simp [prI, List.append_assoc]
theorem print_any (t u : List UInt8) (b : Bool) (w : World) (ht : (t.length : Int) ≤ 140737488351232) (hu : (u.length : Int) ≤ 140737488351232) :
    Calls Try.prog 10 #[.agg #[.string (tx t), .string (tx u), .bool b]] w fun e w' => e = .returned (prV t u b) ∧ Below w.heap.size w w' := by
  have HR : Hid (∀ W, Calls Try.prog 12 #[.agg #[.string (tx t), .string (tx u), .bool b]] W fun e w' => e = .returned (.int .i64 (rtI t u)) ∧ Below W.heap.size W w') := fun W => rightI_any t u b W ht hu
  by_cases c : rn t ∧ rn u
  · have e1 : rtI t u = 0 := by unfold rtI; rw [if_pos c]
    have HP : Hid (prV t u b = .tuple #[.string (tx (prI t u b)), .int .i64 0]) := by show _ = _; unfold prV; rw [if_pos c]
    rw [e1] at HR
    have h1 := pr_cat t u
    have h2 := pr_adm t u
    have lt : (tx t).size ≤ 32 := by rw [tx_size, ← c.1.2]; exact nl_max t
    have lu : (tx u).size ≤ 32 := by rw [tx_size, ← c.2.2]; exact nl_max u
    clear c e1 ht hu
    go_enter Try.func10, Try.ntmps10
    go_wp2_with fail
    refine (HR.out _).mono ?_
    rintro e w1 ⟨rfl, hb1⟩
    have HB : Hid (Below w.heap.size w w1) := (bel1' _ _).trans (hb1.mono (by simp))
    have hrow : w1.heap[w.heap.size]? = some (.cells #[.string (tx t), .string (tx u), .bool b] 23 (0, 0)) := (hb1.block _ (by simp)).trans (Go.heap_alloc_new _ _)
    have c0 : w1.cell? ⟨w.heap.size, 0, none⟩ = some (.string (tx t)) := by rw [cell_of_row _ _ _ _ _ _ hrow]; rfl
    have c1 : w1.cell? ⟨w.heap.size, 1, none⟩ = some (.string (tx u)) := by rw [cell_of_row _ _ _ _ _ _ hrow]; rfl
    have c2 : w1.cell? ⟨w.heap.size, 2, none⟩ = some (.bool b) := by rw [cell_of_row _ _ _ _ _ _ hrow]; rfl
    clear hb1 hrow
    cases b with
    | false =>
      go_wp2_with fail
      go_ret2
      exact ⟨by rw [HP.out, ← h1]; rfl, HB.out⟩
    | true =>
      go_wp2_with fail
      go_ret2
      exact ⟨by rw [HP.out, ← h2, ← h1]; rfl, HB.out⟩
  · have e1 : rtI t u = 100 := by unfold rtI; rw [if_neg c]
    have HP : Hid (prV t u b = .tuple #[.string (tx []), .int .i64 100]) := by show _ = _; unfold prV; rw [if_neg c]
    rw [e1] at HR
    clear c e1 ht hu
    go_enter Try.func10, Try.ntmps10
    go_wp2_with fail
    refine (HR.out _).mono ?_
    rintro e w1 ⟨rfl, hb1⟩
    have HB : Hid (Below w.heap.size w w1) := (bel1' _ _).trans (hb1.mono (by simp))
    clear hb1
    go_wp2_with fail
    go_ret2
    exact ⟨by rw [HP.out]; rfl, HB.out⟩
theorem rprint_any (t u : List UInt8) (b : Bool) (w : World) (ht : (t.length : Int) ≤ 140737488351232) (hu : (u.length : Int) ≤ 140737488351232) :
    Calls Try.prog 11 #[.agg #[.string (tx t), .string (tx u), .bool b]] w fun e w' => e = .returned (prV t u b) ∧ Below w.heap.size w w' := by
  have HR : Hid (∀ W, Calls Try.prog 13 #[.agg #[.string (tx t), .string (tx u), .bool b]] W fun e w' => e = .returned (.int .i64 (rtI t u)) ∧ Below W.heap.size W w') := fun W => rrightI_any t u b W ht hu
  by_cases c : rn t ∧ rn u
  · have e1 : rtI t u = 0 := by unfold rtI; rw [if_pos c]
    have HP : Hid (prV t u b = .tuple #[.string (tx (prI t u b)), .int .i64 0]) := by show _ = _; unfold prV; rw [if_pos c]
    rw [e1] at HR
    have h1 := pr_cat t u
    have h2 := pr_adm t u
    have lt : (tx t).size ≤ 32 := by rw [tx_size, ← c.1.2]; exact nl_max t
    have lu : (tx u).size ≤ 32 := by rw [tx_size, ← c.2.2]; exact nl_max u
    clear c e1 ht hu
    go_enter Try.func11, Try.ntmps11
    go_wp2_with fail
    refine (HR.out _).mono ?_
    rintro e w1 ⟨rfl, hb1⟩
    have HB : Hid (Below w.heap.size w w1) := (bel1' _ _).trans (hb1.mono (by simp))
    have hrow : w1.heap[w.heap.size]? = some (.cells #[.string (tx t), .string (tx u), .bool b] 23 (0, 0)) := (hb1.block _ (by simp)).trans (Go.heap_alloc_new _ _)
    have c0 : w1.cell? ⟨w.heap.size, 0, none⟩ = some (.string (tx t)) := by rw [cell_of_row _ _ _ _ _ _ hrow]; rfl
    have c1 : w1.cell? ⟨w.heap.size, 1, none⟩ = some (.string (tx u)) := by rw [cell_of_row _ _ _ _ _ _ hrow]; rfl
    have c2 : w1.cell? ⟨w.heap.size, 2, none⟩ = some (.bool b) := by rw [cell_of_row _ _ _ _ _ _ hrow]; rfl
    clear hb1 hrow
    cases b with
    | false =>
      go_wp2_with fail
      go_ret2
      exact ⟨by rw [HP.out, ← h1]; rfl, HB.out⟩
    | true =>
      go_wp2_with fail
      go_ret2
      exact ⟨by rw [HP.out, ← h2, ← h1]; rfl, HB.out⟩
  · have e1 : rtI t u = 100 := by unfold rtI; rw [if_neg c]
    have HP : Hid (prV t u b = .tuple #[.string (tx []), .int .i64 100]) := by show _ = _; unfold prV; rw [if_neg c]
    rw [e1] at HR
    clear c e1 ht hu
    go_enter Try.func11, Try.ntmps11
    go_wp2_with fail
    refine (HR.out _).mono ?_
    rintro e w1 ⟨rfl, hb1⟩
    have HB : Hid (Below w.heap.size w w1) := (bel1' _ _).trans (hb1.mono (by simp))
    clear hb1
    go_wp2_with fail
    go_ret2
    exact ⟨by rw [HP.out]; rfl, HB.out⟩
end Go.Proofs.Ytnghgclogeefgaa
