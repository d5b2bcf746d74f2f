/- One call of both: Counts; whatever its kind. -/
import Derived.Test.YtpobfcmbbabchaaL2
import Derived.Test.YtpobfcmbbabchaaL3
import Derived.Test.YtpobfcmbbabchaaL4
import Derived.Test.YtpobfcmbbabchaaL5
namespace Go.Proofs.Ytpobfcmbbabchaa
open Go.RowKit
set_option linter.unusedVariables false
set_option linter.unusedSimpArgs false

variable {PT : World → Nat → Nat → List Bk → Prop} {bad : TypeId → Bool}
set_option maxRecDepth 20000 in
set_option maxHeartbeats 4000000 in
theorem step9 (G : Prg PT bad) (N : Int) (T R base : Nat) (lt lr : List Bk) (o : OpI) (w0 w : World) (h : Mid PT bad T R base lt lr w0 w) (ht : Tok N lt) (hr : Tok N lr) (hN : N ≤ 1000000) (hk : o.kind < 0 ∨ 8 < o.kind) :
    Calls Try.prog 13 #[.pointer (some ⟨T, 0, none⟩), .pointer (some ⟨R, 0, none⟩), opV o] w fun e w' => e = .returned (.bool (stepB lt lr o)) ∧ Mid PT bad T R base (stepT lt o) (stepT lr o) w0 w' := by
  have HG : Hid (Prg PT bad) := G
  have HM : Hid (Mid PT bad T R base lt lr w0 w) := h
  have HT : Hid (Tok N lt ∧ Tok N lr ∧ N ≤ 1000000) := ⟨ht, hr, hN⟩
  have HB : Hid (stepB lt lr o = ((cntI lt o.nm).1.1 == (cntI lr o.nm).1.1 && (cntI lt o.nm).1.2.1 == (cntI lr o.nm).1.2.1 && (cntI lt o.nm).1.2.2 == (cntI lr o.nm).1.2.2 && (cntI lt o.nm).2 == (cntI lr o.nm).2)) := by
    show _ = _
    unfold stepB
    rw [if_neg (by omega), if_neg (by omega), if_neg (by omega), if_neg (by omega), if_neg (by omega), if_neg (by omega)]
  have HS : Hid (∀ l, stepT l o = l) := fun l => by
    unfold stepT
    rw [if_neg (by omega), if_neg (by omega), if_neg (by omega), if_neg (by omega), if_neg (by omega), if_neg (by omega)]
  obtain ⟨kind, nm, rate, burst, cost, now⟩ := o
  simp only at hk HB HS
  show Calls Try.prog 13 #[_, _, .agg #[.int .i64 kind, .string (tx nm), .int .i64 rate, .int .i64 burst, .int .i64 cost, .int .i64 now]] w _
  have HA : Hid (∀ W, Mid PT bad T R base lt lr w0 W → Calls Try.prog 14 #[.pointer (some ⟨T, 0, none⟩), .string (tx nm)] W fun e w' => e = .returned (.tuple #[.agg #[.int .i64 (cntI lt nm).1.1, .int .i64 (cntI lt nm).1.2.1, .int .i64 (cntI lt nm).1.2.2], .int .i64 (cntI lt nm).2]) ∧ Mid PT bad T R base lt lr w0 w' ∧ Kx (badB bad) W w') := fun W hW =>
    (HG.out.cnt N T base lt nm W hW.pt HT.out.1 HT.out.2.2 hW.bs).mono fun e w' ⟨h1, h2, h3, h4⟩ => ⟨h1, hW.prog HG.out h2 h3 h4, h4.mono badB_l⟩
  have HC : Hid (∀ W, Mid PT bad T R base lt lr w0 W → Calls Try.prog 30 #[.pointer (some ⟨R, 0, none⟩), .string (tx nm)] W fun e w' => e = .returned (.tuple #[.agg #[.int .i64 (cntI lr nm).1.1, .int .i64 (cntI lr nm).1.2.1, .int .i64 (cntI lr nm).1.2.2], .int .i64 (cntI lr nm).2]) ∧ Below W.heap.size W w') := fun W hW => by
    obtain ⟨sv, hsv⟩ := hW.rt
    exact rcnt_any R base sv lr nm W hsv HT.out.2.1.len
  have h32 : badB bad 32 = false := by unfold badB; rw [G.b32]; rfl
  have H32 : Hid (badB bad 32 = false) := h32
  generalize (cntI lt nm).1.1 = A1 at HA HB
  generalize (cntI lr nm).1.1 = A2 at HC HB
  generalize (cntI lt nm).1.2.1 = B1 at HA HB
  generalize (cntI lr nm).1.2.1 = B2 at HC HB
  generalize (cntI lt nm).1.2.2 = C1 at HA HB
  generalize (cntI lr nm).1.2.2 = C2 at HC HB
  generalize (cntI lt nm).2 = D1 at HA HB
  generalize (cntI lr nm).2 = D2 at HC HB
  have k0 : (kind == 0) = false := by simp; omega
  have k1 : (kind == 1) = false := by simp; omega
  have k2 : (kind == 2) = false := by simp; omega
  have k3 : (kind == 3) = false := by simp; omega
  have k4 : (kind == 4) = false := by simp; omega
  have k5 : (kind == 5) = false := by simp; omega
  have k6 : (kind == 6) = false := by simp; omega
  have k7 : (kind == 7) = false := by simp; omega
  have k8 : (kind == 8) = false := by simp; omega
  clear h ht hr hN h32 G hk
  go_enter Try.func13, Try.ntmps13
  go_wp2_with fail
  obtain ⟨W, hW⟩ : ∃ W, w.alloc (.cells #[.int .i64 kind, .string (tx nm), .int .i64 rate, .int .i64 burst, .int .i64 cost, .int .i64 now] 32) = W := ⟨_, rfl⟩
  have HP : Hid (W.heap[w.heap.size]? = some (.cells #[.int .i64 kind, .string (tx nm), .int .i64 rate, .int .i64 burst, .int .i64 cost, .int .i64 now] 32 (0, 0))) := by show _ = _; rw [← hW]; exact heap_alloc_new _ _
  have HMW : Hid (Mid PT bad T R base lt lr w0 W) := by rw [← hW]; exact HM.out.later HG.out (bel1 w _) (Nat.le_refl _)
  rw [hW]
  clear hW HM
  generalize w.heap.size = p at HP ⊢
  refine (HA.out _ HMW.out).mono ?_
  rintro e w8 ⟨rfl, hm8, hk8⟩
  have h8 := hk8.row HP.out H32.out
  have hp8 := (Array.getElem?_eq_some_iff.1 h8).1
  have hM8 : Mid PT bad T R base lt lr w0 (w8.alloc (.cells #[.int .i64 A1, .int .i64 B1, .int .i64 C1] 41)) := hm8.later HG.out (bel1 w8 _) (Nat.le_refl _)
  have HM8 : Hid (Mid PT bad T R base lt lr w0 (w8.alloc (.cells #[.int .i64 A1, .int .i64 B1, .int .i64 C1] 41))) := hM8
  have y1 : w8.cell? ⟨p, 1, none⟩ = some (.string (tx nm)) := by rw [cell_of_row _ _ _ _ _ _ h8]; rfl
  have HQ8 : Hid (w8.heap.size < (w8.alloc (.cells #[.int .i64 A1, .int .i64 B1, .int .i64 C1] 41)).heap.size) := by show _ < _; simp
  clear hm8 hk8 HMW h8 hM8
  go_wp2_with fail
  refine (HC.out _ HM8.out).mono ?_
  rintro e w9 ⟨rfl, hb9⟩
  have HM9 : Hid (Mid PT bad T R base lt lr w0 w9) := HM8.out.later HG.out hb9 (Nat.le_refl _)
  have h9 : w9.heap[w8.heap.size]? = some (.cells #[.int .i64 A1, .int .i64 B1, .int .i64 C1] 41 (0, 0)) := (hb9.block _ HQ8.out).trans (heap_alloc_new _ _)
  have z0 : w9.cell? ⟨w8.heap.size, 0, none⟩ = some (.int .i64 A1) := by rw [cell_of_row _ _ _ _ _ _ h9]; rfl
  have z1 : w9.cell? ⟨w8.heap.size, 1, none⟩ = some (.int .i64 B1) := by rw [cell_of_row _ _ _ _ _ _ h9]; rfl
  have z2 : w9.cell? ⟨w8.heap.size, 2, none⟩ = some (.int .i64 C1) := by rw [cell_of_row _ _ _ _ _ _ h9]; rfl
  have hq9 := (Array.getElem?_eq_some_iff.1 h9).1
  have HE9 : Hid (∀ o, Mid PT bad T R base lt lr w0 (w9.alloc o)) := fun o => HM9.out.later HG.out (bel1 w9 o) (Nat.le_refl _)
  clear hb9 h9 HM8 HQ8 y1 hp8
  generalize w8.heap.size = q at z0 z1 z2 hq9 ⊢
  by_cases ha : A1 = A2
  · subst ha
    by_cases hb : B1 = B2
    · subst hb
      by_cases hc : C1 = C2
      · subst hc
        have HB2 : Hid (stepB lt lr ⟨kind, nm, rate, burst, cost, now⟩ = (D1 == D2)) := by show _ = _; rw [HB.out]; simp
        go_wp2_with fail
        go_ret
        exact ⟨by rw [HB2.out]; rfl, by rw [HS.out, HS.out]; exact HE9.out _⟩
      · have hc' : (C1 == C2) = false := by simpa using hc
        have HB2 : Hid (stepB lt lr ⟨kind, nm, rate, burst, cost, now⟩ = false) := by show _ = _; rw [HB.out, hc']; simp
        clear hc
        go_wp2_with fail
        go_ret
        exact ⟨by rw [HB2.out]; rfl, by rw [HS.out, HS.out]; exact HE9.out _⟩
    · have hb' : (B1 == B2) = false := by simpa using hb
      have HB2 : Hid (stepB lt lr ⟨kind, nm, rate, burst, cost, now⟩ = false) := by show _ = _; rw [HB.out, hb']; simp
      clear hb
      go_wp2_with fail
      go_ret
      exact ⟨by rw [HB2.out]; rfl, by rw [HS.out, HS.out]; exact HE9.out _⟩
  · have ha' : (A1 == A2) = false := by simpa using ha
    have HB2 : Hid (stepB lt lr ⟨kind, nm, rate, burst, cost, now⟩ = false) := by show _ = _; rw [HB.out, ha']; simp
    clear ha
    go_wp2_with fail
    go_ret
    exact ⟨by rw [HB2.out]; rfl, by rw [HS.out, HS.out]; exact HE9.out _⟩
/-- One call of both, whatever its kind. -/
theorem step_any (G : Prg PT bad) (N : Int) (T R base : Nat) (lt lr : List Bk) (o : OpI) (w0 w : World) (h : Mid PT bad T R base lt lr w0 w) (ht : Tok N lt) (hr : Tok N lr) (hN : N ≤ 1000000) :
    Calls Try.prog 13 #[.pointer (some ⟨T, 0, none⟩), .pointer (some ⟨R, 0, none⟩), opV o] w fun e w' => e = .returned (.bool (stepB lt lr o)) ∧ Mid PT bad T R base (stepT lt o) (stepT lr o) w0 w' := by
  rcases (show (o.kind < 0 ∨ 8 < o.kind) ∨ o.kind = 0 ∨ o.kind = 1 ∨ o.kind = 2 ∨ o.kind = 3 ∨ o.kind = 4 ∨ o.kind = 5 ∨ o.kind = 6 ∨ o.kind = 7 ∨ o.kind = 8 by omega) with k | k | k | k | k | k | k | k | k | k
  · exact step9 G N T R base lt lr o w0 w h ht hr hN k
  · exact step0 G N T R base lt lr o w0 w h ht hr hN k
  · exact step1 G N T R base lt lr o w0 w h ht hr hN k
  · exact step2 G N T R base lt lr o w0 w h ht hr hN k
  · exact step3 G N T R base lt lr o w0 w h ht hr hN k
  · exact step4 G N T R base lt lr o w0 w h ht hr hN k
  · exact step5 G N T R base lt lr o w0 w h ht hr hN k
  · exact step6 G N T R base lt lr o w0 w h ht hr hN k
  · exact step7 G N T R base lt lr o w0 w h ht hr hN k
  · exact step8 G N T R base lt lr o w0 w h ht hr hN k
end Go.Proofs.Ytpobfcmbbabchaa
