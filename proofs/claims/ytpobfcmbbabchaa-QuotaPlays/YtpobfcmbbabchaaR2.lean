/- The model's buckets: one is filled. -/
import Derived.Test.YtpobfcmbbabchaaR1
namespace Go.Proofs.Ytpobfcmbbabchaa
open Go.RowKit
set_option linter.unusedVariables false
set_option linter.unusedSimpArgs false

theorem size63 (b : Bk) : (Try.prog.info? 78).map (·.size) = some (#[.string (tx b.nm), .int .i64 b.rate, .int .i64 b.burst, .int .i64 b.has, .int .i64 b.part, .int .i64 b.tim, .int .i64 b.tk, .int .i64 b.rf, .int .i64 b.cs] : Array Value).size := by
  show _ = some 9
  kernel_rfl
/-- What Filled leaves: two new blocks, the second one told. -/
theorem fill_end {a : Act} {w : World} {o : Obj} {b c : Bk} {Q : Ending → World → Prop} (hp : a.tmps.getD 4 undef = .pointer (some ⟨w.heap.size + 1, 0, none⟩)) (hd : a.defers = []) (hc : c = b)
    (hQ : ∀ e w', e = .returned (bkV b) → Below w.heap.size w w' → Q e w') :
    bodyPost Try.prog Try.f52 Q Exit.ret a ((w.alloc o).alloc (.cells #[.string (tx c.nm), .int .i64 c.rate, .int .i64 c.burst, .int .i64 c.has, .int .i64 c.part, .int .i64 c.tim, .int .i64 c.tk, .int .i64 c.rf, .int .i64 c.cs] 78)) := by
  subst hc
  refine bodyPost_ret (v := bkV c) (results_cell_row Try.results52 _ _ (w.heap.size + 1) 78 _ (0, 0) _ hp (heap_alloc2_new _ _ _) Try.underlying78 rfl (size63 c)) hd ?_
  exact hQ _ _ rfl ((bel1 w o).trans ((bel1 (w.alloc o) _).mono (by simp)))
set_option maxRecDepth 20000 in
set_option maxHeartbeats 4000000 in
theorem rfill_any (N : Int) (b : Bk) (now : Int) (w : World) (hb : Bok N b) (h1 : now ≤ 1125899906842624) :
    Calls Try.prog 52 #[bkV b, .int .i64 now] w fun e w' => e = .returned (bkV (fillI b now)) ∧ Below w.heap.size w w' := by
  have HB : Hid (Bok N b) := hb
  obtain ⟨nm, rate, burst, has, part, tim, tk, rf, cs⟩ := b
  show Calls Try.prog 52 #[.agg #[.string (tx nm), .int .i64 rate, .int .i64 burst, .int .i64 has, .int .i64 part, .int .i64 tim, .int .i64 tk, .int .i64 rf, .int .i64 cs], .int .i64 now] w _
  by_cases c1 : now ≤ tim
  · have HF : Hid (fillI ⟨nm, rate, burst, has, part, tim, tk, rf, cs⟩ now = ⟨nm, rate, burst, has, part, tim, tk, rf, cs⟩) := by show _ = _; unfold fillI; rw [if_pos c1]
    clear hb
    go_enter Try.func52, Try.ntmps52
    go_wp2
    exact fill_end (c := ⟨nm, rate, burst, has, part, tim, tk, rf, cs⟩) rfl rfl HF.out.symm fun e w' he hw => ⟨he, hw⟩
  · have hn0 := need_pos hb
    have hn1 := need_top hb
    unfold need at hn0 hn1
    simp only at hn0 hn1
    obtain ⟨n, hn⟩ : ∃ n, now - tim = n := ⟨_, rfl⟩
    obtain ⟨D, hD⟩ : ∃ D, burst - has = D := ⟨_, rfl⟩
    obtain ⟨E, hE⟩ : ∃ E, D * 1000000000 = E := ⟨_, rfl⟩
    obtain ⟨F, hF⟩ : ∃ F, E - part = F := ⟨_, rfl⟩
    have q1 : 0 ≤ D := by have := hb.h1; simp only at this; omega
    have q2 : D ≤ 1000000000 := by have := hb.h0; have := hb.b1; simp only at *; omega
    have q3 : 0 ≤ n := by omega
    have q4 : n ≤ 1125899906842624 := by have := hb.t0; simp only at this; omega
    have HX : Hid (∀ v, fillI ⟨nm, rate, burst, has, part, tim, tk, rf, cs⟩ now = v ↔ (if 0 < rate ∧ F / rate < n then ⟨nm, rate, burst, burst, 0, now, tk, rf, cs⟩ else if rate = 0 then ⟨nm, rate, burst, has, part, now, tk, rf, cs⟩ else if burst ≤ has + (n * rate + part) / 1000000000 then ⟨nm, rate, burst, burst, 0, now, tk, rf, cs⟩ else ⟨nm, rate, burst, has + (n * rate + part) / 1000000000, (n * rate + part) % 1000000000, now, tk, rf, cs⟩ : Bk) = v) := by
      intro v
      unfold fillI
      rw [if_neg c1]
      simp only [hn, hD, hE, hF]
    rw [hD, hE, hF] at hn0 hn1
    have q5 : 0 ≤ E := by omega
    have q6 : E ≤ 1000000000000000000 := by omega
    have r0 := hb.r0
    have r1 := hb.r1
    have p0 := hb.p0
    have p1 := hb.p1
    have ha0 := hb.h0
    have ha1 := hb.h1
    have bu1 := hb.b1
    simp only at r0 r1 p0 p1 ha0 ha1 bu1
    have HC : Hid (¬ now ≤ tim) := c1
    clear hb
    have c1' : tim < now := by omega
    clear c1
    by_cases cr : rate = 0
    · subst cr
      have HF : Hid (fillI ⟨nm, 0, burst, has, part, tim, tk, rf, cs⟩ now = ⟨nm, 0, burst, has, part, now, tk, rf, cs⟩) := by show _ = _; rw [HX.out]; simp
      clear HX
      go_enter Try.func52, Try.ntmps52
      go_wp2
      exact fill_end (c := ⟨nm, 0, burst, has, part, now, tk, rf, cs⟩) rfl rfl HF.out.symm fun e w' he hw => ⟨he, hw⟩
    · have cr' : 0 < rate := by omega
      have hq0 : 0 ≤ F / rate := Int.ediv_nonneg hn0 (by omega)
      have hq1 : F / rate ≤ F := Int.ediv_le_self _ hn0
      have HQ : Hid (F / rate * rate ≤ F) := Int.ediv_mul_le _ (by omega)
      have hq : F.tdiv rate = F / rate := Int.tdiv_eq_ediv_of_nonneg hn0
      generalize F / rate = G at HX hq0 hq1 HQ hq
      have hq2 : G ≤ 1000000000000000000 := by omega
      by_cases cg : G < n
      · have HF : Hid (fillI ⟨nm, rate, burst, has, part, tim, tk, rf, cs⟩ now = ⟨nm, rate, burst, burst, 0, now, tk, rf, cs⟩) := by show _ = _; rw [HX.out]; simp [cr', cg]
        clear HX
        go_enter Try.func52, Try.ntmps52
        go_wp2
        exact fill_end (c := ⟨nm, rate, burst, burst, 0, now, tk, rf, cs⟩) rfl rfl HF.out.symm fun e w' he hw => ⟨he, hw⟩
      · have hm1 : n * rate ≤ F := Int.le_trans (Int.mul_le_mul_of_nonneg_right (by omega) (by omega)) HQ.out
        have hm0 : 0 ≤ n * rate := Int.mul_nonneg q3 r0
        have hX := HX.out
        rw [if_neg (by omega), if_neg cr] at hX
        obtain ⟨M, hM⟩ : ∃ M, n * rate = M := ⟨_, rfl⟩
        obtain ⟨S, hS⟩ : ∃ S, M + part = S := ⟨_, rfl⟩
        rw [hM, hS] at hX
        rw [hM] at hm0 hm1
        have s0 : 0 ≤ S := by omega
        have s1 : S ≤ 1000001000000000000 := by omega
        have hs2 : S.tdiv 1000000000 = S / 1000000000 := Int.tdiv_eq_ediv_of_nonneg s0
        have hs3 : S.tmod 1000000000 = S % 1000000000 := Int.tmod_eq_emod_of_nonneg s0
        have t0 : 0 ≤ S / 1000000000 := by omega
        have t1 : S / 1000000000 ≤ 1000001000 := by omega
        have t2 : 0 ≤ S % 1000000000 := by omega
        have t3 : S % 1000000000 < 1000000000 := by omega
        generalize S / 1000000000 = A at hX hs2 t0 t1
        generalize S % 1000000000 = B at hX hs3 t2 t3
        have HX2 : Hid _ := hX
        clear hX HX HQ hm1
        have cg' : n ≤ G := by omega
        obtain ⟨H, hH⟩ : ∃ H, has + A = H := ⟨_, rfl⟩
        have u0 : 0 ≤ H := by omega
        have u1 : H ≤ 3000000000 := by omega
        rw [hH] at HX2
        by_cases cb : burst ≤ H
        · have HF : Hid (fillI ⟨nm, rate, burst, has, part, tim, tk, rf, cs⟩ now = ⟨nm, rate, burst, burst, 0, now, tk, rf, cs⟩) := by show _ = _; rw [HX2.out]; simp [cb]
          clear HX2
          go_enter Try.func52, Try.ntmps52
          go_wp2
          exact fill_end (c := ⟨nm, rate, burst, burst, 0, now, tk, rf, cs⟩) rfl rfl HF.out.symm fun e w' he hw => ⟨he, hw⟩
        · have HF : Hid (fillI ⟨nm, rate, burst, has, part, tim, tk, rf, cs⟩ now = ⟨nm, rate, burst, H, B, now, tk, rf, cs⟩) := by show _ = _; rw [HX2.out]; simp [cb]
          clear HX2
          have cb' : H < burst := by omega
          clear cb
          go_enter Try.func52, Try.ntmps52
          go_wp2
          exact fill_end (c := ⟨nm, rate, burst, H, B, now, tk, rf, cs⟩) rfl rfl HF.out.symm fun e w' he hw => ⟨he, hw⟩
end Go.Proofs.Ytpobfcmbbabchaa
