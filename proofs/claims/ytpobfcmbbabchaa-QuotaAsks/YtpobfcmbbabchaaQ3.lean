/- The program's buckets: they are filled. -/
import Derived.Test.YtpobfcmbbabchaaQ2
namespace Go.Proofs.Ytpobfcmbbabchaa
open Go.RowKit
set_option linter.unusedVariables false
set_option linter.unusedSimpArgs false

theorem wrap64_id (x : Int) (h0 : -9223372036854775808 ≤ x) (h1 : x ≤ 9223372036854775807) : wrap64 x = x := by unfold wrap64; omega
theorem wrap64_small (x : Int) (h0 : -9223372036854775808 ≤ x) (h1 : x ≤ 9223372036854775807) : IntKind.i64.wrap x = x := by
  unfold IntKind.wrap
  simp only [IntKind.bits, IntKind.signed, Bool.true_and]
  split <;> rename_i h <;> simp at h <;> omega
set_option maxRecDepth 20000 in
set_option maxHeartbeats 4000000 in
theorem fill_any (N : Int) (p : Nat) (b : Bk) (now : Int) (w : World) (h : w.heap[p]? = some (pkO b)) (hb : Bok N b) (h1 : now ≤ 1125899906842624) (h0 : 0 ≤ now) :
    Calls Try.prog 42 #[.pointer (some ⟨p, 1, none⟩), .int .i64 now] w fun e w' => e = .returned (.tuple #[]) ∧ w'.heap[p]? = some (pkO (fillI b now)) ∧ Kp p w w' := by
  obtain ⟨c0, c1, c2, c3, c4, c5, c6, c7⟩ := row8_cells h
  have f4 := row8_frozen (i := 4) h
  have HH : Hid (w.heap[p]? = some (pkO b)) := h
  have HB : Hid (Bok N b) := hb
  have ht0 := hb.t0
  have ht1 := hb.t1
  by_cases hc : now ≤ b.tim
  · have HF : Hid (fillI b now = b) := fill_old b hc
    clear h hb
    go_enter Try.func42, Try.ntmps42
    go_wp2
    (try simp only [Exit.inBlock, Exit.then]); refine bodyPost_ret (results_none rfl _ _ _) rfl ?_
    exact ⟨rfl, by rw [HF.out]; exact HH.out, Kp.refl _ _⟩
  · have hc' : b.tim < now := by omega
    have hr := hb.r1
    have HF : Hid (fillI b now = wTot b now (upTo b (tot b + (now - b.tim) * b.rate))) := fill_eq hb hc'
    have HM : Hid (min (adI (tot b) (muI (ofI b.rate) (now - b.tim))) (b.burst * 1000000000) = upTo b (tot b + (now - b.tim) * b.rate)) := fill_holds hb hc' h1
    have HO : Hid (∀ W, Calls Try.prog 51 #[.int .i64 b.rate] W fun e w' => e = .returned (.int .i64 (ofI b.rate)) ∧ ∃ k, w' = W.drewN k) := fun W => of_any _ W (by omega)
    have hob : ofI b.rate ≤ 9223372036854775807 := by rw [of_rate hb.r0 hb.r1]; omega
    have HU : Hid (∀ W, Calls Try.prog 50 #[.int .i64 (ofI b.rate), .int .i64 (now - b.tim)] W fun e w' => e = .returned (.int .i64 (muI (ofI b.rate) (now - b.tim))) ∧ ∃ k, w' = W.drewN k) := fun W => mul_any _ _ W hob (by omega)
    have HA : Hid (∀ W : World, W.heap[p]? = some (pkO b) → Calls Try.prog 39 #[.pointer (some ⟨p, 1, none⟩), .int .i64 (muI (ofI b.rate) (now - b.tim))] W fun e w' => e = .returned (.tuple #[]) ∧ w'.heap[p]? = some (row8 b.nm b.rate (b.burst * 1000000000) (min (adI (tot b) (muI (ofI b.rate) (now - b.tim))) (b.burst * 1000000000)) b.tim b.tk b.rf b.cs) ∧ Kp p W w') := fun W hW => badd_any p _ _ _ _ _ _ _ _ _ W hW (by have := tot_cap HB.out; have := HB.out.b1; omega) (sg_hi _ _)
    rw [HM.out] at HA
    obtain ⟨A, hA⟩ : ∃ A, ofI b.rate = A := ⟨_, rfl⟩
    rw [hA] at HO HU HA
    obtain ⟨M, hM⟩ : ∃ M, muI A (now - b.tim) = M := ⟨_, rfl⟩
    rw [hM] at HU HA
    obtain ⟨D, HC⟩ : ∃ D : World → Prop, Hid (∀ V, D V ↔ ∃ k, V = w.drewN k) := ⟨fun V => ∃ k, V = w.drewN k, fun V => Iff.rfl⟩
    have HCX : Hid (∀ V, D V → V.cell? ⟨p, 1, none⟩ = some (.int .i64 b.rate) ∧ V.cell? ⟨p, 4, none⟩ = some (.int .i64 b.tim)) := fun V hV => by
      obtain ⟨k, rfl⟩ := (HC.out V).1 hV
      exact ⟨c1, c4⟩
    have K51 : Hid (∀ V, D V → Calls Try.prog 51 #[.int .i64 b.rate] V fun e w' => e = .returned (.int .i64 A) ∧ D w') := fun V hV => (HO.out V).mono fun e w' ⟨h1, k, h2⟩ => ⟨h1, by
      obtain ⟨j, rfl⟩ := (HC.out V).1 hV
      exact (HC.out _).2 ⟨j + k, by rw [h2]; simp [World.drewN, Nat.add_assoc]⟩⟩
    have K50 : Hid (∀ V, D V → Calls Try.prog 50 #[.int .i64 A, .int .i64 (now - b.tim)] V fun e w' => e = .returned (.int .i64 M) ∧ D w') := fun V hV => (HU.out V).mono fun e w' ⟨h1, k, h2⟩ => ⟨h1, by
      obtain ⟨j, rfl⟩ := (HC.out V).1 hV
      exact (HC.out _).2 ⟨j + k, by rw [h2]; simp [World.drewN, Nat.add_assoc]⟩⟩
    obtain ⟨Z, hZ⟩ : ∃ Z, upTo b (tot b + (now - b.tim) * b.rate) = Z := ⟨_, rfl⟩
    rw [hZ] at HF HA
    have K39 : Hid (∀ V, D V → Calls Try.prog 39 #[.pointer (some ⟨p, 1, none⟩), .int .i64 M] V fun e w' => e = .returned (.tuple #[]) ∧ w'.heap[p]? = some (row8 b.nm b.rate (b.burst * 1000000000) Z b.tim b.tk b.rf b.cs) ∧ Kp p w w') := fun V hV => by
      obtain ⟨j, rfl⟩ := (HC.out V).1 hV
      exact (HA.out (w.drewN j) HH.out).mono fun e w' ⟨g1, g2, g3⟩ => ⟨g1, g2, ((Kp.refl p w).drewN j).trans g3⟩
    have HD : Hid (D w.drew) := (HC.out _).2 ⟨1, rfl⟩
    have HE : Hid (pkO (fillI b now) = row8 b.nm b.rate (b.burst * 1000000000) Z now b.tk b.rf b.cs) := by
      show _ = _
      rw [HF.out]
      unfold pkO
      rw [tot_wTot]
      rfl
    clear h hb hA hM HM hob HO HU HA HF hZ HC HB c0 c2 c3 c5 c6 c7
    generalize b.rate = rate at *
    generalize b.tim = tim at *
    go_enter Try.func42, Try.ntmps42
    go_wp2_with fail
    obtain ⟨d1, d4⟩ := HCX.out _ HD.out
    have KD : w.drew.cell? ⟨p, 1, none⟩ = some (.int .i64 rate) ∧ w.drew.cell? ⟨p, 4, none⟩ = some (.int .i64 tim) := ⟨d1, d4⟩
    have hwr : IntKind.i64.wrap (now - tim) = now - tim := by
      exact wrap64_small _ (by omega) (by omega)
    clear hc
    go_region_held3 (fun w' => w'.cell? ⟨p, 1, none⟩ = some (.int .i64 rate) ∧ w'.cell? ⟨p, 4, none⟩ = some (.int .i64 tim)) (first | exact KD | exact KA | exact KB | exact KC | go_keep) (first | (go_at_call 51; refine (K51.out _ HD.out).mono ?_; rintro e x1 ⟨rfl, hb⟩; (have KA : x1.cell? ⟨p, 1, none⟩ = some (.int .i64 rate) ∧ x1.cell? ⟨p, 4, none⟩ = some (.int .i64 tim) := HCX.out x1 hb); (have HD1 : Hid (D x1) := hb); clear hb) | (go_at_call 50; refine (K50.out x1 HD1.out).mono ?_; rintro e x2 ⟨rfl, hb⟩; (have KB := HCX.out x2 hb); (have HD2 : Hid (D x2) := hb); clear hb) | (go_at_call 39; refine (K39.out x2 HD2.out).mono ?_; rintro e x3 ⟨rfl, hrow, hkp⟩; (have KC : x3.cell? ⟨p, 1, none⟩ = some (.int .i64 rate) ∧ x3.cell? ⟨p, 4, none⟩ = some (.int .i64 tim) := ⟨(row8_cells hrow).2.1, (row8_cells hrow).2.2.2.2.1⟩); (have HR3 : Hid (x3.heap[p]? = some (row8 b.nm rate (b.burst * 1000000000) Z tim b.tk b.rf b.cs) ∧ Kp p w x3) := ⟨hrow, hkp⟩); clear hrow hkp))
    have g4 : x3.frozen? ⟨p, 4, none⟩ = false := row8_frozen HR3.out.1
    have e4 := KC.2
    clear KC KD KA KB d1 d4
    go_wp2_with fail
    go_end0
    exact ⟨rfl, by rw [HE.out]; exact row8_ti HR3.out.1 _, HR3.out.2.setCell 4 _⟩
/-- When the program says that a bucket covers a cost, and whether it ever does. -/
def whI (b : Bk) (cost : Int) : Int × Bool :=
  if cost * 1000000000 ≤ tot b then (b.tim, true)
  else if b.burst * 1000000000 < cost * 1000000000 ∨ b.rate = 0 then (0, false)
  else (b.tim + (cost * 1000000000 - tot b + b.rate - 1) / b.rate, true)
set_option maxRecDepth 20000 in
set_option maxHeartbeats 4000000 in
theorem when_any (N : Int) (p : Nat) (b : Bk) (cost : Int) (w : World) (h : w.heap[p]? = some (pkO b)) (hb : Bok N b) (h0 : 0 ≤ cost) (h1 : cost ≤ 1000000000) :
    Calls Try.prog 37 #[.pointer (some ⟨p, 1, none⟩), .int .i64 cost] w fun e w' => e = .returned (.tuple #[.int .i64 (whI b cost).1, .bool (whI b cost).2]) ∧ ∃ k, w' = w.drewN k := by
  obtain ⟨c0, c1, c2, c3, c4, c5, c6, c7⟩ := row8_cells h
  have HCV : Hid (∀ W : World, W.heap[p]? = some (pkO b) → Calls Try.prog 35 #[.pointer (some ⟨p, 1, none⟩), .int .i64 cost] W fun e w' => e = .returned (.bool (decide (cost * 1000000000 ≤ tot b))) ∧ w' = W) := fun W hW => covers_any p _ _ _ _ _ _ _ _ _ W hW h0 h1
  have HH : Hid (w.heap[p]? = some (pkO b)) := h
  have t0 := hb.t0
  have t1 := hb.t1
  have r0 := hb.r0
  have r1 := hb.r1
  have y0 := tot_pos hb
  have y1 := tot_cap hb
  have b0 := hb.b0
  have b1 := hb.b1
  have HW : Hid (whI b cost = if cost * 1000000000 ≤ tot b then (b.tim, true) else if b.burst * 1000000000 < cost * 1000000000 ∨ b.rate = 0 then (0, false) else (b.tim + (cost * 1000000000 - tot b + b.rate - 1) / b.rate, true)) := rfl
  clear h hb
  generalize tot b = Y at *
  generalize b.tim = tim at *
  generalize b.rate = rate at *
  generalize b.burst = burst at *
  by_cases hc : cost * 1000000000 ≤ Y
  · have hd : decide (cost * 1000000000 ≤ Y) = true := decide_eq_true hc
    rw [hd] at HCV
    rw [if_pos hc] at HW
    clear hd hc
    go_enter Try.func37, Try.ntmps37
    go_wp2_with (go_at_call 35; refine (HCV.out _ HH.out).mono ?_; rintro e w' ⟨rfl, hw⟩; rw [hw]; clear hw)
    go_ret2
    exact ⟨by rw [HW.out]; rfl, 0, rfl⟩
  · have hd : decide (cost * 1000000000 ≤ Y) = false := decide_eq_false hc
    rw [hd] at HCV
    rw [if_neg hc] at HW
    have hc' : Y < cost * 1000000000 := by omega
    clear hd hc
    by_cases hq : burst * 1000000000 < cost * 1000000000
    · rw [if_pos (.inl hq)] at HW
      go_enter Try.func37, Try.ntmps37
      go_wp2_with (go_at_call 35; refine (HCV.out _ HH.out).mono ?_; rintro e w' ⟨rfl, hw⟩; rw [hw]; clear hw)
      go_ret2
      exact ⟨by rw [HW.out]; rfl, 0, rfl⟩
    · have hq' : ¬ burst * 1000000000 < cost * 1000000000 := hq
      by_cases hr : rate = 0
      · rw [if_pos (.inr hr)] at HW
        subst hr
        go_enter Try.func37, Try.ntmps37
        go_wp2_with (go_at_call 35; refine (HCV.out _ HH.out).mono ?_; rintro e w' ⟨rfl, hw⟩; rw [hw]; clear hw)
        go_ret2
        exact ⟨by rw [HW.out]; rfl, 0, rfl⟩
      · rw [if_neg (by omega)] at HW
        have hr' : (rate == 0) = false := by simpa using hr
        have hr2 : 1 ≤ rate := by omega
        go_enter Try.func37, Try.ntmps37
        go_wp2_with (go_at_call 35; refine (HCV.out _ HH.out).mono ?_; rintro e w' ⟨rfl, hw⟩; rw [hw]; clear hw)
        go_quiet (fail)
        go_wp2_with fail
        go_ret2
        have hq0 : 0 ≤ (cost * 1000000000 - Y + rate - 1) / rate := Int.ediv_nonneg (by omega) (by omega)
        have hq1 : (cost * 1000000000 - Y + rate - 1) / rate ≤ cost * 1000000000 - Y + rate - 1 := Int.ediv_le_self _ (by omega)
        refine ⟨?_, _, rfl⟩
        rw [HW.out]
        show Ending.returned (.tuple #[.int .i64 (wrap64 _), .bool true]) = _
        rw [wrap64_id _ (by omega) (by omega)]
end Go.Proofs.Ytpobfcmbbabchaa
