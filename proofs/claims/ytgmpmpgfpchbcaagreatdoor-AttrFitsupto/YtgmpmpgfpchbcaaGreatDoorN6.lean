/- The fixed texts, read. -/
import Derived.Test.YtgmpmpgfpchbcaaGreatDoorN5
namespace Go.Proofs.YtgmpmpgfpchbcaaGreatDoor
open Go.RowKit
set_option linter.unusedVariables false
set_option linter.unusedSimpArgs false

def tA : List UInt8 := [123, 32, 97, 32, 61, 32, 34, 120, 92, 34, 121, 34, 32, 125]
def tB : List UInt8 := [123, 97, 61, 49, 125]
theorem bl0 (t : List UInt8) (i : Nat) (h1 : t[i]? ≠ some 32) (h2 : t[i]? ≠ some 9) : Bl t i i := ⟨Nat.le_refl _, fun m a b => by omega, h1, h2⟩
theorem bl1 (t : List UInt8) (i : Nat) (h : t[i]? = some 32) (h1 : t[i + 1]? ≠ some 32) (h2 : t[i + 1]? ≠ some 9) : Bl t i (i + 1) := ⟨by omega, fun m a b => by
    have e : m = i := by omega
    rw [e]
    exact .inl h, h1, h2⟩
theorem ky1 (t : List UInt8) (i : Nat) (c d : UInt8) (h : t[i]? = some c) (hk : kb true c = true) (h1 : t[i + 1]? = some d) (hd : kb false d = false) : Ky t i (i + 1) :=
  ⟨by omega, fun m a b => by
    have e : m = i := by omega
    rw [e]
    exact ⟨c, h, by simpa using hk⟩, .inr ⟨d, h1, by rw [show (i + 1 == i) = false by simp]; exact hd⟩⟩
theorem sgA1 (C : Nat) : Sg C tA 123 0 2 true := fun W h => sign_yes C tA 0 0 2 123 W h (bl0 _ _ (by decide) (by decide)) rfl (bl1 tA 1 rfl (by decide) (by decide))
theorem sgA2 (C : Nat) : Sg C tA 125 2 2 false := fun W h => sign_no C tA 2 2 125 W h (bl0 _ _ (by decide) (by decide)) (by decide)
theorem arA (C : Nat) : Ar C tA ([97], [120, 34, 121]) 2 12 true := fun W h =>
  attr_read C tA 2 3 4 6 12 [120, 34, 121] true W h (ky1 tA 2 97 32 rfl (by decide) rfl (by decide)) (by decide) (bl1 tA 3 rfl (by decide) (by decide)) rfl (fun W hS => value_yes C tA 5 6 5 [120, 34, 121] W hS (bl1 tA 5 rfl (by decide) (by decide)) rfl (by decide))
theorem sgA3 (C : Nat) : Sg C tA 44 12 13 false := fun W h => sign_no C tA 12 13 44 W h (bl1 tA 12 rfl (by decide) (by decide)) (by decide)
theorem sgA4 (C : Nat) : Sg C tA 125 13 tA.length true := fun W h => sign_yes C tA 13 13 14 125 W h (bl0 _ _ (by decide) (by decide)) rfl (bl0 _ _ (by decide) (by decide))
theorem sgB1 (C : Nat) : Sg C tB 123 0 1 true := fun W h => sign_yes C tB 0 0 1 123 W h (bl0 _ _ (by decide) (by decide)) rfl (bl0 _ _ (by decide) (by decide))
theorem sgB2 (C : Nat) : Sg C tB 125 1 1 false := fun W h => sign_no C tB 1 1 125 W h (bl0 _ _ (by decide) (by decide)) (by decide)
theorem arB (C : Nat) : Ar C tB ([97], []) 1 3 false := fun W h =>
  attr_read C tB 1 2 2 3 3 [] false W h (ky1 tB 1 97 61 rfl (by decide) rfl (by decide)) (by decide) (bl0 _ _ (by decide) (by decide)) rfl (fun W hS => value_no C tB 3 3 W hS (bl0 _ _ (by decide) (by decide)) (by decide))
theorem sc_new (w : World) (t : List UInt8) (h : (t.length : Int) ≤ 65536) : Sc (w.alloc (.cells #[.string (tx t), .int .i64 0] 92)) w.heap.size t 0 := ⟨Go.heap_alloc_new _ _, Nat.zero_le _, h⟩
theorem below_new {w w' : World} {o : Obj} (h : (w.alloc o).grownBy w' (some w.heap.size)) : Below w.heap.size w w' :=
  ⟨h.os, h.tape, h.output, Nat.le_trans (by simp) h.size, fun q hq => (h.block q (by simp; omega) (fun e => by cases e; omega)).trans (Below.heap_alloc _ _ _ hq)⟩
theorem itemsA (w : World) : Calls Tryz.prog 35 #[.string (tx tA), .func (.func 36) #[] #[]] w fun e w' => (∃ v, e = .returned (.tuple #[v, .int .i64 0, .int .i64 0]) ∧ w'.ownsRow w.heap.size 44 2 v 1 (atL [([97], [120, 34, 121])])) ∧ Below w.heap.size w w' := by
  have HB : Hid (Calls Tryz.prog 59 #[.pointer (some ⟨w.heap.size, 0, none⟩), .func (.func 36) #[] #[]] (w.alloc (.cells #[.string (tx tA), .int .i64 0] 92)) fun e w' => (∃ v, e = .returned (.tuple #[v, .bool true]) ∧ w'.ownsRow w.heap.size 44 2 v 1 (atL [([97], [120, 34, 121])])) ∧ Below w.heap.size w w') :=
    (braces_yes w.heap.size tA 2 2 12 13 ([97], [120, 34, 121]) _ (sc_new w tA (show ((14 : Nat) : Int) ≤ 65536 by omega)) (sgA1 _) (sgA2 _) (arA _) (sgA3 _) (sgA4 _)).mono fun e w' ⟨⟨v, g1, g2⟩, g3⟩ => ⟨⟨v, g1, own_low g2 (by simp)⟩, below_new g3⟩
  have hsz : (tx tA).size = 14 := tx_size tA
  go_enter Tryz.func35, Tryz.ntmps35
  go_wp2_with (go_at_call 59; refine HB.out.mono ?_; rintro e w1 ⟨⟨v1, rfl, ho⟩, hb⟩; (obtain ⟨a1, k1, e1⟩ := own_slice ho); subst e1; (have HO : Hid (w1.ownsRow w.heap.size 44 2 (.slice a1 1 k1) 1 (atL [([97], [120, 34, 121])]) ∧ Below w.heap.size w w1) := ⟨ho, hb⟩); clear ho hb)
  refine bodyPost_ret (results_tmp3 rfl _ _ _) rfl ?_
  exact ⟨⟨_, rfl, HO.out.1⟩, HO.out.2⟩
set_option maxRecDepth 20000 in
theorem itemsB (w : World) : Calls Tryz.prog 35 #[.string (tx tB), .func (.func 36) #[] #[]] w fun e w' => e = .returned (.tuple #[.slice none 0 0, .int .i64 3, .int .i64 3]) ∧ Below w.heap.size w w' := by
  have HB : Hid (Calls Tryz.prog 59 #[.pointer (some ⟨w.heap.size, 0, none⟩), .func (.func 36) #[] #[]] (w.alloc (.cells #[.string (tx tB), .int .i64 0] 92)) fun e w' => e = .returned (.tuple #[.slice none 0 0, .bool false]) ∧ Sc w' w.heap.size tB 3 ∧ Below w.heap.size w w') :=
    (braces_no w.heap.size tB 1 1 3 ([97], []) _ (sc_new w tB (show ((5 : Nat) : Int) ≤ 65536 by omega)) (sgB1 _) (sgB2 _) (arB _)).mono fun e w' ⟨g1, g2, g3⟩ => ⟨g1, g2, below_new g3⟩
  have hsz : (tx tB).size = 5 := tx_size tB
  go_enter Tryz.func35, Tryz.ntmps35
  go_upto_region 6 with (go_at_call 59; refine HB.out.mono ?_; rintro e w1 ⟨rfl, hs, hb⟩; (have HO : Hid (Sc w1 w.heap.size tB 3 ∧ Below w.heap.size w w1) := ⟨hs, hb⟩); clear hs hb)
  have g1 : w1.drew.cell? ⟨w.heap.size, 1, none⟩ = some (.int .i64 3) := HO.out.1.c1
  refine wp_region_still_lit (by kernel_rfl) (by kernel_rfl) (still_of_quiet _ _ ?_)
  rw [show ({ w1 with drawn := w1.drawn + 1 } : World) = w1.drew from rfl]
  repeat (first | go_big_quiet_skip | (go_big_quiet_want; go_big_quiet_op; go_big_quiet_on))
  refine wpQuiet_nil ?_
  go_wp2_with fail
  refine bodyPost_ret (results_tmp3 rfl _ _ _) rfl ?_
  exact ⟨rfl, HO.out.2.drew⟩
theorem mk1 : makeI [([97], [120, 34, 121])] = ([([97], [120, 34, 121])], 0) := by
  have hv : valI [120, 34, 121] = true := by
    unfold valI
    rw [Lib.validD_cons _ _ (by decide), Lib.validD_cons _ _ (by decide), Lib.validD_cons _ _ (by decide), Lib.validD_nil]
    decide
  have hr : raI ([97], [120, 34, 121]) = 0 := by unfold raI; rw [if_pos (by decide), if_pos hv]
  have hb : badI [([97], [120, 34, 121])] = 0 := by show (if raI _ = 0 then badI [] else _) = 0; rw [if_pos hr]; rfl
  unfold makeI
  rw [if_neg (by decide), hb, if_pos rfl]
  rfl
theorem mk2 : makeI [([98], [50]), ([97], [49])] = ([([97], [49]), ([98], [50])], 0) := by
  have v1 : valI [50] = true := by unfold valI; rw [Lib.validD_cons _ _ (by decide), Lib.validD_nil]; decide
  have v2 : valI [49] = true := by unfold valI; rw [Lib.validD_cons _ _ (by decide), Lib.validD_nil]; decide
  have r1 : raI ([98], [50]) = 0 := by unfold raI; rw [if_pos (by decide), if_pos v1]
  have r2 : raI ([97], [49]) = 0 := by unfold raI; rw [if_pos (by decide), if_pos v2]
  have hb : badI [([98], [50]), ([97], [49])] = 0 := by show (if raI _ = 0 then (if raI _ = 0 then badI [] else _) else _) = 0; rw [if_pos r1, if_pos r2]; rfl
  unfold makeI
  rw [if_neg (by decide), hb, if_pos rfl]
  decide
theorem can_small (x : At) (h1 : x.1.length ≤ 1000) (h2 : x.2.length ≤ 1000) : Can x := ⟨by omega, by omega⟩
theorem parseA (w : World) (hT : Tabs w) : Calls Tryz.prog 18 #[.string (tx tA)] w fun e w' => (∃ v, e = .returned (.tuple #[v, .int .i64 0, .int .i64 0]) ∧ w'.ownsRow w.heap.size 44 2 v 1 (atL [([97], [120, 34, 121])])) ∧ Below w.heap.size w w' := by
  have HI : Hid (Calls Tryz.prog 35 #[.string (tx tA), .func (.func 36) #[] #[]] w fun e w' => (∃ v, e = .returned (.tuple #[v, .int .i64 0, .int .i64 0]) ∧ w'.ownsRow w.heap.size 44 2 v 1 (atL [([97], [120, 34, 121])])) ∧ Below w.heap.size w w') := itemsA w
  have HM : Hid (∀ v W, W.ownsRow w.heap.size 44 2 v 1 (atL [([97], [120, 34, 121])]) → Below w.heap.size w W → Calls Tryz.prog 17 #[v] W fun e w' => (∃ q, e = .returned (.tuple #[q, .int .i64 0]) ∧ w'.ownsRow w.heap.size 44 2 q 1 (atL [([97], [120, 34, 121])])) ∧ Below w.heap.size w w') := by
    intro v W ho hb
    obtain ⟨so, co, e4, hA⟩ := own_ats (l := [([97], [120, 34, 121])]) ho (fun x hx => by simp at hx; subst hx; exact can_small _ (by decide) (by decide))
    rw [e4]
    have h := make_any so co _ W hA (show ((1 : Nat) : Int) ≤ 140737488351232 by omega) (hT.later hb)
    rw [mk1] at h
    exact h.mono fun e w' ⟨⟨q, g1, g2⟩, g3⟩ => ⟨⟨q, g1, own_low g2 hb.size⟩, hb.trans (g3.mono hb.size)⟩
  clear hT
  go_enter Tryz.func18, Tryz.ntmps18
  go_wp2_with (first | (go_at_call 35; refine HI.out.mono ?_; rintro e w1 ⟨⟨v1, rfl, ho⟩, hb⟩; (obtain ⟨a1, k1, e1⟩ := own_slice ho); subst e1; (have HO : Hid (w1.ownsRow w.heap.size 44 2 (.slice a1 1 k1) 1 (atL [([97], [120, 34, 121])]) ∧ Below w.heap.size w w1) := ⟨ho, hb⟩); clear ho hb) | (go_at_call 17; refine (HM.out _ w1 HO.out.1 HO.out.2).mono ?_; rintro e w2 ⟨⟨v2, rfl, ho⟩, hb⟩; (obtain ⟨a2, k2, e2⟩ := own_slice ho); subst e2; (have HO2 : Hid (w2.ownsRow w.heap.size 44 2 (.slice a2 1 k2) 1 (atL [([97], [120, 34, 121])]) ∧ Below w.heap.size w w2) := ⟨ho, hb⟩); clear ho hb))
  refine bodyPost_ret (results_tmp3 rfl _ _ _) rfl ?_
  exact ⟨⟨_, rfl, HO2.out.1⟩, HO2.out.2⟩
theorem parseB (w : World) : Calls Tryz.prog 18 #[.string (tx tB)] w fun e w' => e = .returned (.tuple #[.slice none 0 0, .int .i64 3, .int .i64 3]) ∧ Below w.heap.size w w' := by
  have HI : Hid (Calls Tryz.prog 35 #[.string (tx tB), .func (.func 36) #[] #[]] w fun e w' => e = .returned (.tuple #[.slice none 0 0, .int .i64 3, .int .i64 3]) ∧ Below w.heap.size w w') := itemsB w
  go_enter Tryz.func18, Tryz.ntmps18
  go_wp2_with (go_at_call 35; refine HI.out.mono ?_; rintro e w1 ⟨rfl, hb⟩; (have HO : Hid (Below w.heap.size w w1) := hb); clear hb)
  refine bodyPost_ret (results_tmp3 rfl _ _ _) rfl ?_
  exact ⟨rfl, HO.out⟩
end Go.Proofs.YtgmpmpgfpchbcaaGreatDoor
