/- FixedSigns: for every three numbers of 64 bits the law's call returns true: the signs of products and quotients; a greater divisor gives no greater size. No condition. -/
import Derived.Test.YtinhbegnpadcaaaRows
import Derived.WalkKit
import Derived.ProofKit
import Derived.OpenShut
import Derived.ShutString
import Derived.Test.YtinhbegnpadcaaaMul
import Derived.Test.YtinhbegnpadcaaaSigns
import Derived.Deep.RegionWith
namespace Go.Proofs.Ytinhbegnpadcaaa.fixedSigns
open Go.ChangeShapes Go.WideShapes Go.ChangeAt Go.RowKit
open Go.ChangeMaps (open_string shut_string)
set_option linter.unusedVariables false      -- a walk need not use every 'w<i>' (that an integer argument fits its kind)

theorem own : ownKnob Try.prog.godebug = none := by kernel_rfl

set_option maxHeartbeats 4000000 in
/-- The walk, the signs and the results under names. -/
theorem core (a b m p q d r : Int) (sa sb : Bool) (w : World) (ga : a ≤ 9223372036854775807) (gb : b ≤ 9223372036854775807) (gm : m ≤ 9223372036854775807)
    (hb0 : (b == 0) = false) (hd0 : (d == 0) = false) (gd : d ≤ 9223372036854775807) (gq : q ≤ 9223372036854775807) (gr : r ≤ 9223372036854775807)
    (HP : Hid (muI a b = p)) (HQ : Hid (diI a b = q)) (HD : Hid (adI (szI b) (szI m) = d)) (HR : Hid (diI a d = r))
    (gs : (szI b : Int) ≤ 9223372036854775807) (gs' : (szI m : Int) ≤ 9223372036854775807)
    (ha : decide (a < 0) = sa) (hb : decide (b < 0) = sb) (hrq : (szI r : Int) ≤ (szI q : Int))
    (hc : ((sa != sb) = false ∧ (sa == sb) = true ∧ 0 ≤ p ∧ 0 ≤ q) ∨ ((sa != sb) = true ∧ (sa == sb) = false ∧ p ≤ 0 ∧ q ≤ 0)) :
    Calls Try.prog 7 #[.int .i64 a, .int .i64 b, .int .i64 m] w fun e w' => e = .returned (.bool true) ∧ Grown w w' := by
  rcases hc with ⟨x1, x2, p0, q0⟩ | ⟨x1, x2, p0, q0⟩
  · by_cases c1 : 0 < p <;> by_cases c2 : 0 < q
    all_goals
      go_enter Try.func7, Try.ntmps7
      go_wp2_with fail
      refine (mul_any a b _ ga gb).mono ?_
      rintro e w' ⟨rfl, n1, rfl⟩
      rw [HP.out]
      go_wp2_with fail
      refine (div_any a b _ ga gb hb0).mono ?_
      rintro e w' ⟨rfl, n2, rfl⟩
      rw [HQ.out]
      go_wp2_with (go_at_call 15; refine (abs_any _ _ (by assumption)).mono ?_; rintro e w' ⟨rfl, rfl⟩)
      refine (add_any _ _ _ gs gs').mono ?_
      rintro e w' ⟨rfl, rfl⟩
      rw [HD.out]
      go_wp2_with fail
      refine (div_any a d _ ga gd hd0).mono ?_
      rintro e w' ⟨rfl, n3, rfl⟩
      rw [HR.out]
      go_wp2_with (first | (go_at_call 15; refine (abs_any _ _ (by assumption)).mono ?_; rintro e w' ⟨rfl, rfl⟩) | (go_at_call 20; refine (known_any _).mono ?_; rintro e w' ⟨rfl, n4, rfl⟩))
      go_ret
      exact ⟨rfl, Grown.refl _⟩
  · by_cases c1 : p < 0 <;> by_cases c2 : q < 0
    all_goals
      go_enter Try.func7, Try.ntmps7
      go_wp2_with fail
      refine (mul_any a b _ ga gb).mono ?_
      rintro e w' ⟨rfl, n1, rfl⟩
      rw [HP.out]
      go_wp2_with fail
      refine (div_any a b _ ga gb hb0).mono ?_
      rintro e w' ⟨rfl, n2, rfl⟩
      rw [HQ.out]
      go_wp2_with (go_at_call 15; refine (abs_any _ _ (by assumption)).mono ?_; rintro e w' ⟨rfl, rfl⟩)
      refine (add_any _ _ _ gs gs').mono ?_
      rintro e w' ⟨rfl, rfl⟩
      rw [HD.out]
      go_wp2_with fail
      refine (div_any a d _ ga gd hd0).mono ?_
      rintro e w' ⟨rfl, n3, rfl⟩
      rw [HR.out]
      go_wp2_with (first | (go_at_call 15; refine (abs_any _ _ (by assumption)).mono ?_; rintro e w' ⟨rfl, rfl⟩) | (go_at_call 20; refine (known_any _).mono ?_; rintro e w' ⟨rfl, n4, rfl⟩))
      go_ret
      exact ⟨rfl, Grown.refl _⟩

/-- The divisor is 0. -/
theorem core0 (a m : Int) (w : World) (ga : a ≤ 9223372036854775807) :
    Calls Try.prog 7 #[.int .i64 a, .int .i64 0, .int .i64 m] w fun e w' => e = .returned (.bool true) ∧ Grown w w' := by
  have HP : Hid (muI a 0 = 0) := by
    show _ = _
    unfold muI
    rw [show szI 0 = 0 from by decide, Nat.mul_zero, Nat.zero_div]
    unfold sgI
    split <;> rfl
  go_enter Try.func7, Try.ntmps7
  go_wp2_with fail
  refine (mul_any a 0 _ ga (by omega)).mono ?_
  rintro e w' ⟨rfl, n1, rfl⟩
  rw [HP.out]
  go_wp2_with fail
  refine (div_zero a _).mono ?_
  rintro e w' ⟨rfl, rfl⟩
  go_wp2_with (go_at_call 20; refine (known_any _).mono ?_; rintro e w' ⟨rfl, n4, rfl⟩)
  go_ret
  exact ⟨rfl, Grown.refl _⟩

/-! ### STEP 1: THE WALK: the Go text returns true. 'Grown w w'': the world has at most new blocks (Derived/RowKit3.lean). Part the cases AHEAD of 'go_enter' where a test parts the walk; take each callee by a contract of your own. -/
theorem walk (a0 : Int) (a1 : Int) (a2 : Int) (w0 : (Lit.int .i64 a0).wf = true) (w1 : (Lit.int .i64 a1).wf = true) (w2 : (Lit.int .i64 a2).wf = true) (w : World) :
    Calls Try.prog 7 #[.int .i64 a0, .int .i64 a1, .int .i64 a2] w fun e w' => e = .returned (.bool true) ∧ Grown w w' := by
  obtain ⟨l0, g0⟩ := bounds_i64 w0
  obtain ⟨l1, g1⟩ := bounds_i64 w1
  obtain ⟨l2, g2⟩ := bounds_i64 w2
  by_cases hz : a1 = 0
  · subst hz
    exact core0 a0 a2 w g0
  · have s1 := sz_hi a1 g1
    have s2 := sz_hi a2 g2
    have s3 := ad_sizes a1 a2 g1 g2
    have s4 := sz_pos a1 hz
    have s5 := di_sum a0 a1 a2 g1 g2 hz
    refine core a0 a1 a2 (muI a0 a1) (diI a0 a1) (adI (szI a1) (szI a2)) (diI a0 (adI (szI a1) (szI a2))) (decide (a0 < 0)) (decide (a1 < 0)) w g0 g1 g2 (by simpa using hz) (by simp; omega) (ad_hi _ _) (sg_hi _ _) (sg_hi _ _) rfl rfl rfl rfl (by omega) (by omega) rfl rfl (by omega) ?_
    by_cases c : decide (a0 < 0) = decide (a1 < 0)
    · have x : (decide (a0 < 0) != decide (a1 < 0)) = false := by rw [c]; simp
      refine Or.inl ⟨x, by rw [c]; simp, ?_, ?_⟩
      · unfold muI; rw [x]; exact sg_false _
      · unfold diI; rw [x]; exact sg_false _
    · have x : (decide (a0 < 0) != decide (a1 < 0)) = true := by simpa using c
      refine Or.inr ⟨x, by simpa using c, ?_, ?_⟩
      · unfold muI; rw [x]; exact sg_true _
      · unfold diI; rw [x]; exact sg_true _

/-! ### THE ROW's STEP: WRITTEN OUT: LEAVE IT -/
set_option maxRecDepth 100000 in
theorem lifted (os : Os) (started : os.Started) (H : Type) (enc : TypeId × Value → H) :
    ReturnsInHanded {} Try.checked os 7 .any (Rows.fixedSignsSpec.pre6 enc Try.prog Try.f7 Rows.fixedSignsRow.domain false) (Rows.fixedSignsSpec.post enc Try.prog Try.f7 false true false false) := by
  refine returnsInHanded_of_change (C := Try.checked) own started (by kernel_rfl) Try.func7
    (ChangeSpec.witness6 (enc := enc) (C := Try.checked) false ⟨#[], #[.int .i64 0, .int .i64 0, .int .i64 0], []⟩ 8 (by kernel_rfl) (by kernel_rfl) (by kernel_rfl) (by kernel_rfl)) ?_
  intro W base args ds gs before hval0 hW hcnd _
  have hval : ∀ (j : Nat) t v, Try.f7.params[j]? = some t → args[j]? = some v → Value.okWide Try.prog W .any base t v := hval0
  have hW' := hW
  obtain ⟨p, q, hA0, hV, rfl, hfz, hnd⟩ := hW
  have hA : DataW.TrodAll enc Try.prog W 0 (fun _ => true) true Try.f7.params.toList args.toList ds p := hA0
  rw [Try.params7] at hA hval
  obtain ⟨v0, vs0, d0, ds0, p0, q0, hargs, rfl, rfl, h0, r0⟩ := trodAll_cons hA
  obtain ⟨v1, vs1, d1, ds1, p1, q1, rfl, rfl, rfl, h1, r1⟩ := trodAll_cons r0
  obtain ⟨v2, vs2, d2, ds2, p2, q2, rfl, rfl, rfl, h2, r2⟩ := trodAll_cons r1
  obtain ⟨rfl, rfl, rfl⟩ := trodAll_nil r2
  obtain rfl : args = #[v0, v1, v2] := by cases args; simp_all
  obtain ⟨rfl, rfl⟩ := trodVars_none hV
  obtain ⟨a0, rfl, rfl, rfl, w0⟩ := open_int Try.underlying2 (hval 0 2 v0 rfl rfl) h0
  obtain ⟨a1, rfl, rfl, rfl, w1⟩ := open_int Try.underlying2 (hval 1 2 v1 rfl rfl) h1
  obtain ⟨a2, rfl, rfl, rfl, w2⟩ := open_int Try.underlying2 (hval 2 2 v2 rfl rfl) h2
  clear hA0 hval0
  simp only [List.append_nil] at hW'
  refine (walk a0 a1 a2 w0 w1 w2 W).mono fun e W' ⟨he, hg⟩ => ?_
  subst he
  exact ⟨_, rfl, post_of_same (pa := []) (pv := []) hW' (fun _ _ _ => (trodAll_cons_mk (shut_bool Try.underlying4 _) trodAll_mk0)) (fun sp _ => (trodAll_cons_mk (shut_int Try.underlying2 w0) (trodAll_cons_mk (shut_int Try.underlying2 w1) (trodAll_cons_mk (shut_int Try.underlying2 w2) trodAll_mk0)))) (fun _ _ => rfl) rfl
    (hg.frame _) hg.2.1 (ok_one (by kernel_rfl) rfl (okWide_bool_mk Try.underlying4 _))⟩

theorem over : Rows.fixedSignsRow.holds Try.pinned (OpenSpec.ofChange Rows.fixedSignsSpec) :=
  OpenClaim.holds_of_wide 7 Try.f7 rfl rfl rfl rfl rfl rfl rfl ⟨rfl, rfl, rfl, rfl, rfl⟩ rfl rfl rfl rfl rfl (by kernel_rfl) Try.func7 (by kernel_rfl)
    (of_decide_eq_true (by kernel_rfl)) (by unfold Func.isWrapper; first | (rw [if_pos (by decide +kernel)]; kernel_rfl) | (rw [if_neg (by decide +kernel)]; exact ⟨rfl, rfl⟩))
    (fun os started H enc _ => lifted os started H enc)

/-- ████ THE STATEMENT ████ -/
theorem proved : Rows.FixedSignsSaid :=
  over
#print axioms proved
end Go.Proofs.Ytinhbegnpadcaaa.fixedSigns
