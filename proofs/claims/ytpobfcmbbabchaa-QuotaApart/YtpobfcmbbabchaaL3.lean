/- One call of both: Take. -/
import Derived.Test.YtpobfcmbbabchaaL1
namespace Go.Proofs.Ytpobfcmbbabchaa
open Go.RowKit
set_option linter.unusedVariables false
set_option linter.unusedSimpArgs false

variable {PT : World → Nat → Nat → List Bk → Prop} {bad : TypeId → Bool}
set_option maxRecDepth 20000 in
set_option maxHeartbeats 4000000 in
theorem step3 (G : Prg PT bad) (N : Int) (T R base : Nat) (lt lr : List Bk) (o : OpI) (w0 w : World) (h : Mid PT bad T R base lt lr w0 w) (ht : Tok N lt) (hr : Tok N lr) (hN : N ≤ 1000000) (hk : o.kind = 3) :
    Calls Try.prog 13 #[.pointer (some ⟨T, 0, none⟩), .pointer (some ⟨R, 0, none⟩), opV o] w fun e w' => e = .returned (.bool (stepB lt lr o)) ∧ Mid PT bad T R base (stepT lt o) (stepT lr o) w0 w' := by
  have HG : Hid (Prg PT bad) := G
  have HM : Hid (Mid PT bad T R base lt lr w0 w) := h
  have HT : Hid (Tok N lt ∧ Tok N lr ∧ N ≤ 1000000) := ⟨ht, hr, hN⟩
  have HB : Hid (stepB lt lr o = ((takeI lt o.nm o.cost o.now).1 == (takeI lr o.nm o.cost o.now).1)) := by show _ = _; unfold stepB; simp [hk]
  have HS : Hid (∀ l, stepT l o = (takeI l o.nm o.cost o.now).2) := fun l => by unfold stepT; simp [hk]
  obtain ⟨kind, nm, rate, burst, cost, now⟩ := o
  simp only at hk HB HS
  subst hk
  show Calls Try.prog 13 #[_, _, .agg #[.int .i64 3, .string (tx nm), .int .i64 rate, .int .i64 burst, .int .i64 cost, .int .i64 now]] w _
  have HA : Hid (∀ W, Mid PT bad T R base lt lr w0 W → Calls Try.prog 16 #[.pointer (some ⟨T, 0, none⟩), .string (tx nm), .int .i64 cost, .int .i64 now] W fun e w' => e = .returned (.int .i64 (takeI lt nm cost now).1) ∧ Mid PT bad T R base (takeI lt nm cost now).2 lr w0 w' ∧ Kx (badB bad) W w') := fun W hW =>
    (HG.out.take N T base lt nm cost now W hW.pt HT.out.1 HT.out.2.2 hW.bs).mono fun e w' ⟨h1, h2, h3, h4⟩ => ⟨h1, hW.prog HG.out h2 h3 h4, h4.mono badB_l⟩
  have HC : Hid (∀ W, Mid PT bad T R base (takeI lt nm cost now).2 lr w0 W → Calls Try.prog 25 #[.pointer (some ⟨R, 0, none⟩), .string (tx nm), .int .i64 cost, .int .i64 now] W fun e w' => e = .returned (.int .i64 (takeI lr nm cost now).1) ∧ Mid PT bad T R base (takeI lt nm cost now).2 (takeI lr nm cost now).2 w0 w' ∧ Kx (badB bad) W w') := fun W hW => by
    obtain ⟨sv, hsv⟩ := hW.rt
    exact (rtake_any N R base sv lr nm cost now W hsv HT.out.2.1 HT.out.2.2 hW.bs).mono fun e w' ⟨h1, h2, h3, h4⟩ => ⟨h1, hW.model HG.out h2 h3 h4, h4.mono badB_r⟩
  have h32 : badB bad 32 = false := by unfold badB; rw [G.b32]; rfl
  have H32 : Hid (badB bad 32 = false) := h32
  generalize (takeI lt nm cost now).1 = A1 at HA HB
  generalize (takeI lr nm cost now).1 = A2 at HC HB
  clear h ht hr hN h32 G
  go_enter Try.func13, Try.ntmps13
  go_wp2_with fail
  obtain ⟨W, hW⟩ : ∃ W, w.alloc (.cells #[.int .i64 3, .string (tx nm), .int .i64 rate, .int .i64 burst, .int .i64 cost, .int .i64 now] 32) = W := ⟨_, rfl⟩
  have HP : Hid (W.heap[w.heap.size]? = some (.cells #[.int .i64 3, .string (tx nm), .int .i64 rate, .int .i64 burst, .int .i64 cost, .int .i64 now] 32 (0, 0))) := by show _ = _; rw [← hW]; exact heap_alloc_new _ _
  have HMW : Hid (Mid PT bad T R base lt lr w0 W) := by rw [← hW]; exact HM.out.later HG.out (bel1 w _) (Nat.le_refl _)
  rw [hW]
  clear hW HM
  generalize w.heap.size = p at HP ⊢
  have HCW : Hid (∀ V, Kx (badB bad) W V → V.cell? ⟨p, 1, none⟩ = some (.string (tx nm)) ∧ V.cell? ⟨p, 4, none⟩ = some (.int .i64 cost) ∧ V.cell? ⟨p, 5, none⟩ = some (.int .i64 now)) := fun V hV => by
    have h := hV.row HP.out H32.out
    exact ⟨by rw [cell_of_row _ _ _ _ _ _ h]; rfl, by rw [cell_of_row _ _ _ _ _ _ h]; rfl, by rw [cell_of_row _ _ _ _ _ _ h]; rfl⟩
  obtain ⟨y1, y4, y5⟩ := HCW.out W (Kx.refl _ _)
  go_region_held3 (fun w' => w'.cell? ⟨p, 1, none⟩ = some (.string (tx nm)) ∧ w'.cell? ⟨p, 4, none⟩ = some (.int .i64 cost) ∧ w'.cell? ⟨p, 5, none⟩ = some (.int .i64 now)) (first | exact K9 | exact K8 | go_keep) (first | (go_at_call 16; refine (HA.out _ (HMW.out.drew (G := HG.out))).mono ?_; rintro e w8 ⟨rfl, hm8, hk8⟩; (have HM8 : Hid (Mid PT bad T R base (takeI lt nm cost now).2 lr w0 w8) := hm8); (have HK8 : Hid (Kx (badB bad) W w8) := hk8); (have K8 := HCW.out w8 hk8); clear hm8 hk8 HMW) | (go_at_call 25; refine (HC.out _ HM8.out).mono ?_; rintro e w9 ⟨rfl, hm9, hk9⟩; (have HM9 : Hid (Mid PT bad T R base (takeI lt nm cost now).2 (takeI lr nm cost now).2 w0 w9) := hm9); (have K9 := HCW.out w9 (HK8.out.trans hk9)); clear hm9 hk9))
  go_wp2_with fail
  go_ret
  exact ⟨by rw [HB.out]; rfl, by rw [HS.out, HS.out]; exact HM9.out⟩
set_option maxRecDepth 20000 in
set_option maxHeartbeats 4000000 in
theorem step4 (G : Prg PT bad) (N : Int) (T R base : Nat) (lt lr : List Bk) (o : OpI) (w0 w : World) (h : Mid PT bad T R base lt lr w0 w) (ht : Tok N lt) (hr : Tok N lr) (hN : N ≤ 1000000) (hk : o.kind = 4) :
    Calls Try.prog 13 #[.pointer (some ⟨T, 0, none⟩), .pointer (some ⟨R, 0, none⟩), opV o] w fun e w' => e = .returned (.bool (stepB lt lr o)) ∧ Mid PT bad T R base (stepT lt o) (stepT lr o) w0 w' := by
  have HG : Hid (Prg PT bad) := G
  have HM : Hid (Mid PT bad T R base lt lr w0 w) := h
  have HT : Hid (Tok N lt ∧ Tok N lr ∧ N ≤ 1000000) := ⟨ht, hr, hN⟩
  have HB : Hid (stepB lt lr o = ((takeI lt o.nm o.cost o.now).1 == (takeI lr o.nm o.cost o.now).1)) := by show _ = _; unfold stepB; simp [hk]
  have HS : Hid (∀ l, stepT l o = (takeI l o.nm o.cost o.now).2) := fun l => by unfold stepT; simp [hk]
  obtain ⟨kind, nm, rate, burst, cost, now⟩ := o
  simp only at hk HB HS
  subst hk
  show Calls Try.prog 13 #[_, _, .agg #[.int .i64 4, .string (tx nm), .int .i64 rate, .int .i64 burst, .int .i64 cost, .int .i64 now]] w _
  have HA : Hid (∀ W, Mid PT bad T R base lt lr w0 W → Calls Try.prog 16 #[.pointer (some ⟨T, 0, none⟩), .string (tx nm), .int .i64 cost, .int .i64 now] W fun e w' => e = .returned (.int .i64 (takeI lt nm cost now).1) ∧ Mid PT bad T R base (takeI lt nm cost now).2 lr w0 w' ∧ Kx (badB bad) W w') := fun W hW =>
    (HG.out.take N T base lt nm cost now W hW.pt HT.out.1 HT.out.2.2 hW.bs).mono fun e w' ⟨h1, h2, h3, h4⟩ => ⟨h1, hW.prog HG.out h2 h3 h4, h4.mono badB_l⟩
  have HC : Hid (∀ W, Mid PT bad T R base (takeI lt nm cost now).2 lr w0 W → Calls Try.prog 25 #[.pointer (some ⟨R, 0, none⟩), .string (tx nm), .int .i64 cost, .int .i64 now] W fun e w' => e = .returned (.int .i64 (takeI lr nm cost now).1) ∧ Mid PT bad T R base (takeI lt nm cost now).2 (takeI lr nm cost now).2 w0 w' ∧ Kx (badB bad) W w') := fun W hW => by
    obtain ⟨sv, hsv⟩ := hW.rt
    exact (rtake_any N R base sv lr nm cost now W hsv HT.out.2.1 HT.out.2.2 hW.bs).mono fun e w' ⟨h1, h2, h3, h4⟩ => ⟨h1, hW.model HG.out h2 h3 h4, h4.mono badB_r⟩
  have h32 : badB bad 32 = false := by unfold badB; rw [G.b32]; rfl
  have H32 : Hid (badB bad 32 = false) := h32
  generalize (takeI lt nm cost now).1 = A1 at HA HB
  generalize (takeI lr nm cost now).1 = A2 at HC HB
  clear h ht hr hN h32 G
  go_enter Try.func13, Try.ntmps13
  go_wp2_with fail
  obtain ⟨W, hW⟩ : ∃ W, w.alloc (.cells #[.int .i64 4, .string (tx nm), .int .i64 rate, .int .i64 burst, .int .i64 cost, .int .i64 now] 32) = W := ⟨_, rfl⟩
  have HP : Hid (W.heap[w.heap.size]? = some (.cells #[.int .i64 4, .string (tx nm), .int .i64 rate, .int .i64 burst, .int .i64 cost, .int .i64 now] 32 (0, 0))) := by show _ = _; rw [← hW]; exact heap_alloc_new _ _
  have HMW : Hid (Mid PT bad T R base lt lr w0 W) := by rw [← hW]; exact HM.out.later HG.out (bel1 w _) (Nat.le_refl _)
  rw [hW]
  clear hW HM
  generalize w.heap.size = p at HP ⊢
  have HCW : Hid (∀ V, Kx (badB bad) W V → V.cell? ⟨p, 1, none⟩ = some (.string (tx nm)) ∧ V.cell? ⟨p, 4, none⟩ = some (.int .i64 cost) ∧ V.cell? ⟨p, 5, none⟩ = some (.int .i64 now)) := fun V hV => by
    have h := hV.row HP.out H32.out
    exact ⟨by rw [cell_of_row _ _ _ _ _ _ h]; rfl, by rw [cell_of_row _ _ _ _ _ _ h]; rfl, by rw [cell_of_row _ _ _ _ _ _ h]; rfl⟩
  obtain ⟨y1, y4, y5⟩ := HCW.out W (Kx.refl _ _)
  go_region_held3 (fun w' => w'.cell? ⟨p, 1, none⟩ = some (.string (tx nm)) ∧ w'.cell? ⟨p, 4, none⟩ = some (.int .i64 cost) ∧ w'.cell? ⟨p, 5, none⟩ = some (.int .i64 now)) (first | exact K9 | exact K8 | go_keep) (first | (go_at_call 16; refine (HA.out _ (HMW.out.drew (G := HG.out))).mono ?_; rintro e w8 ⟨rfl, hm8, hk8⟩; (have HM8 : Hid (Mid PT bad T R base (takeI lt nm cost now).2 lr w0 w8) := hm8); (have HK8 : Hid (Kx (badB bad) W w8) := hk8); (have K8 := HCW.out w8 hk8); clear hm8 hk8 HMW) | (go_at_call 25; refine (HC.out _ HM8.out).mono ?_; rintro e w9 ⟨rfl, hm9, hk9⟩; (have HM9 : Hid (Mid PT bad T R base (takeI lt nm cost now).2 (takeI lr nm cost now).2 w0 w9) := hm9); (have K9 := HCW.out w9 (HK8.out.trans hk9)); clear hm9 hk9))
  go_wp2_with fail
  go_ret
  exact ⟨by rw [HB.out]; rfl, by rw [HS.out, HS.out]; exact HM9.out⟩
end Go.Proofs.Ytpobfcmbbabchaa
