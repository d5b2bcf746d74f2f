/- QuotaBounds' law, over any program's table. -/
import Derived.Test.YtpobfcmbbabchaaF2
namespace Go.Proofs.Ytpobfcmbbabchaa
open Go.RowKit
set_option linter.unusedVariables false
set_option linter.unusedSimpArgs false

variable {PF : World → Nat → (Nat → Prop) → List Bk → Prop} {bad : TypeId → Bool}
/-- The one bucket between calls. -/
structure Bst (N : Int) (b : Bk) (rate burst now taken : Int) : Prop where
  ok : Bok N b
  nm : b.nm = [97]
  r : b.rate = rate
  bu : b.burst = burst
  t : b.tim ≤ now
  v : Vt b taken
theorem fill_keeps (b : Bk) (now : Int) : (fillI b now).rate = b.rate ∧ (fillI b now).burst = b.burst ∧ (b.tim ≤ now → (fillI b now).tim ≤ now) := by
  unfold fillI
  split
  · exact ⟨rfl, rfl, fun h => h⟩
  · split
    · exact ⟨rfl, rfl, fun _ => Int.le_refl _⟩
    · split
      · exact ⟨rfl, rfl, fun _ => Int.le_refl _⟩
      · split <;> exact ⟨rfl, rfl, fun _ => Int.le_refl _⟩
theorem look_one {b : Bk} (h : b.nm = [97]) : lookB [b] [97] = some (0, b) := by
  unfold lookB
  simp [ixB, h]
theorem Bst.take {N : Int} {b : Bk} {rate burst now taken : Int} (h : Bst N b rate burst now taken) (cost : Int) (n1 : now ≤ 1125899906842624) :
    ∃ e b', takeI [b] [97] cost now = (e, [b']) ∧ ((e = 0 ∧ 0 ≤ cost ∧ cost ≤ 1000000000 ∧ Bst (N + 1) b' rate burst now (taken + cost)) ∨ (e ≠ 0 ∧ Bst (N + 1) b' rate burst now taken)) := by
  unfold takeI
  by_cases ha : okA cost now = false
  · rw [if_pos ha]
    exact ⟨1, b, rfl, .inr ⟨by simp, ⟨h.ok.more (by omega), h.nm, h.r, h.bu, h.t, h.v⟩⟩⟩
  · rw [if_neg ha, look_one h.nm]
    obtain ⟨a1, a2, a3, a4⟩ := okA_time (by simpa using ha : okA cost now = true)
    have hf := fill_ok h.ok n1
    have hv : Vt (fillI b now) taken := h.v.fill h.ok
    obtain ⟨k1, k2, k3⟩ := fill_keeps b now
    simp only
    split
    · exact ⟨190, _, rfl, .inr ⟨by simp, ⟨ref_ok hf, (fill_nm b now).trans h.nm, k1.trans h.r, k2.trans h.bu, k3 h.t, hv.refused⟩⟩⟩
    · exact ⟨0, _, rfl, .inl ⟨rfl, a1, a2, ⟨paid_ok hf a1 (by omega), (fill_nm b now).trans h.nm, k1.trans h.r, k2.trans h.bu, k3 h.t, hv.paid⟩⟩⟩
theorem Bst.on {N : Int} {b : Bk} {rate burst now taken : Int} (h : Bst N b rate burst now taken) {x : Int} (hx : now ≤ x) : Bst N b rate burst x taken := ⟨h.ok, h.nm, h.r, h.bu, Int.le_trans h.t hx, h.v⟩
theorem Bst.bound {N : Int} {b : Bk} {rate burst now taken : Int} (h : Bst N b rate burst now taken) : taken ≤ burst + now * rate / 1000000000 := by
  have := h.v.bound h.ok h.t
  rwa [h.r, h.bu] at this
/-- What came, in bounds. -/
theorem came_in {now rate : Int} (n0 : 0 ≤ now) (n1 : now ≤ 10000000000) (r0 : 0 ≤ rate) (r1 : rate ≤ 1000000000) :
    ∃ q2 q4 : Int, now / 1000000000 * rate = q2 ∧ 0 ≤ q2 ∧ q2 ≤ 10000000000 ∧ now % 1000000000 * rate = q4 ∧ 0 ≤ q4 ∧ q4 ≤ 1000000000000000000 ∧ q2 + q4 / 1000000000 = now * rate / 1000000000 := by
  refine ⟨_, _, rfl, Int.mul_nonneg (by omega) r0, ?_, rfl, Int.mul_nonneg (by omega) r0, ?_, came_eq n0 r0⟩
  · have h1 : now / 1000000000 * rate ≤ 10 * rate := Int.mul_le_mul_of_nonneg_right (by omega) r0
    omega
  · have h1 : now % 1000000000 * rate ≤ 1000000000 * rate := Int.mul_le_mul_of_nonneg_right (by omega) r0
    omega
theorem set_one (rate burst : Int) : (okS rate burst 0 = false ∧ setI [] [97] rate burst 0 = (1, [])) ∨ (okS rate burst 0 = true ∧ setI [] [97] rate burst 0 = (0, [newB [97] rate burst 0])) := by
  unfold setI
  cases h : okS rate burst 0
  · exact .inl ⟨rfl, rfl⟩
  · exact .inr ⟨rfl, rfl⟩
set_option maxRecDepth 20000 in
set_option maxHeartbeats 4000000 in
theorem bounds_law (G : PrgF PF bad) (rate burst : Int) (sa : Option Addr) (len cap : Nat) (os : List OpI) (w : World) (h : OpsAt w sa len cap os) (hl : (len : Int) ≤ 140737488351232) :
    Calls Try.prog 5 #[.int .i64 rate, .int .i64 burst, .slice sa len cap] w fun e w' => e = .returned (.bool true) ∧ Below w.heap.size w w' := by
  have HG : Hid (PrgF PF bad) := G
  have HO : Hid (OpsAt w sa len cap os) := h
  have hcap : (len : Int) ≤ (cap : Int) := by have := h.c; omega
  have ea : ({ data := #[97] } : ByteArray) = tx [97] := rfl
  clear G h
  go_enter Try.func5, Try.ntmps5
  go_wp2_with fail
  refine (HG.out.oneN.new w).mono ?_
  rintro e w1 ⟨T, rfl, hp1, hb1⟩
  have HM1 : Hid (P1 PF w1 T w.heap.size [] ∧ Below w.heap.size w w1) := ⟨hp1, hb1⟩
  clear hp1 hb1
  go_wp2_with fail
  refine (HG.out.one.set 0 T w.heap.size [] [97] rate burst 0 w1 HM1.out.1 (Tok.nil 0) (by decide) HM1.out.2.size).mono ?_
  rintro e w2 ⟨rfl, hp2, hb2, hk2⟩
  rcases set_one rate burst with ⟨ho, hs⟩ | ⟨ho, hs⟩
  · rw [hs] at hp2
    rw [hs]
    have HM2 : Hid (Below w.heap.size w w2) := HM1.out.2.trans hb2
    clear hp2 hb2 hk2 HM1 ho hs
    go_wp2_with (go_at_call 10; refine (known_any HG.out.oneN _).mono ?_; rintro e w3 ⟨rfl, hb3⟩)
    go_ret
    exact ⟨rfl, HM2.out.trans (hb3.mono HM2.out.size)⟩
  · rw [hs] at hp2
    rw [hs]
    have HM2 : Hid (P1 PF w2 T w.heap.size [newB [97] rate burst 0] ∧ Below w.heap.size w w2) := ⟨hp2, HM1.out.2.trans hb2⟩
    have HB0 : Hid (Bst 0 (newB [97] rate burst 0) rate burst 0 0) := ⟨new_ok (Int.le_refl _) ho, rfl, rfl, rfl, Int.le_refl _, Vt.new _ _ _⟩
    obtain ⟨⟨r0, r1, u0, u1, _, _⟩, _⟩ := okS_yes ho
    clear hp2 hb2 hk2 HM1 ho hs
    go_wp2_with fail
    go_loopw [8, 9, 10] (fun a b c wr => ∃ (now taken : Int) (k : Nat) (x : Bk), a = .int .i64 now ∧ b = .int .i64 taken ∧ c = .int .i64 (k : Int) ∧ k ≤ len ∧ k ≤ 200 ∧ 0 ≤ now ∧ now ≤ 9663676416 ∧ 0 ≤ taken ∧ taken ≤ 20000000000 ∧ Bst (k : Int) x rate burst now taken ∧ P1 PF wr T w.heap.size [x] ∧ Below w.heap.size w wr) (fun a b c wr => len - (intOf c).toNat)
    case atStart => exact ⟨0, 0, 0, _, rfl, rfl, rfl, by omega, by omega, by omega, by omega, by omega, by omega, HB0.out, HM2.out⟩
    case round =>
      obtain ⟨now, taken, k, x, rfl, rfl, rfl, k1, k2, n0, n1, t0, t1, hB, hP, hBl⟩ := hrel
      have HBx : Hid (Bst (k : Int) x rate burst now taken) := hB
      have HMr : Hid (P1 PF wr T w.heap.size [x] ∧ Below w.heap.size w wr) := ⟨hP, hBl⟩
      clear hB hP hBl
      by_cases c1 : k < len
      · have c1' : (k : Int) < (len : Int) := by omega
        by_cases c2 : k < 200
        · have c2' : (k : Int) < 200 := by omega
          obtain ⟨o, ho⟩ : ∃ o, os[k]? = some o := ⟨_, List.getElem?_eq_getElem (by have := HO.out.n; omega)⟩
          obtain ⟨bb, off, hsa, hlt, h0, h1, h2, h3, h4, h5⟩ := (HO.out.later HMr.out.2 (Nat.le_refl _)).l k o ho
          subst hsa
          have HOK : Hid (os[k]? = some o) := ho
          clear ho k1 k2 h0 h1 h2 h3
          obtain ⟨kind, onm, orate, oburst, cost, onow⟩ := o
          simp only at h4 h5
          by_cases d1 : onow < 0 ∨ 1073741824 < onow ∨ 8589934592 < now
          · rcases d1 with d1 | d1
            · go_wp2_with fail
              go_roundw
              case rel => exact ⟨now, taken, k + 1, x, rfl, rfl, by go_num, by omega, by omega, n0, n1, t0, t1, ⟨HBx.out.ok.more (by omega), HBx.out.nm, HBx.out.r, HBx.out.bu, HBx.out.t, HBx.out.v⟩, HMr.out⟩
              case measure => simp [intOf]; omega
            · by_cases d2 : onow < 0
              · go_wp2_with fail
                go_roundw
                case rel => exact ⟨now, taken, k + 1, x, rfl, rfl, by go_num, by omega, by omega, n0, n1, t0, t1, ⟨HBx.out.ok.more (by omega), HBx.out.nm, HBx.out.r, HBx.out.bu, HBx.out.t, HBx.out.v⟩, HMr.out⟩
                case measure => simp [intOf]; omega
              · have d2' : 0 ≤ onow := by omega
                by_cases d3 : 1073741824 < onow
                · clear d2 d1
                  go_wp2_with fail
                  go_roundw
                  case rel => exact ⟨now, taken, k + 1, x, rfl, rfl, by go_num, by omega, by omega, n0, n1, t0, t1, ⟨HBx.out.ok.more (by omega), HBx.out.nm, HBx.out.r, HBx.out.bu, HBx.out.t, HBx.out.v⟩, HMr.out⟩
                  case measure => simp [intOf]; omega
                · have d3' : onow ≤ 1073741824 := by omega
                  have d4 : 8589934592 < now := by omega
                  clear d2 d1 d3
                  go_wp2_with fail
                  go_roundw
                  case rel => exact ⟨now, taken, k + 1, x, rfl, rfl, by go_num, by omega, by omega, n0, n1, t0, t1, ⟨HBx.out.ok.more (by omega), HBx.out.nm, HBx.out.r, HBx.out.bu, HBx.out.t, HBx.out.v⟩, HMr.out⟩
                  case measure => simp [intOf]; omega
          · have d2 : 0 ≤ onow := by omega
            have d3 : onow ≤ 1073741824 := by omega
            have d4 : now ≤ 8589934592 := by omega
            obtain ⟨m, hm⟩ : ∃ m, now + onow = m := ⟨_, rfl⟩
            have m0 : 0 ≤ m := by omega
            have m1 : m ≤ 9663676416 := by omega
            obtain ⟨E, y, hT, hY⟩ := (HBx.out.on (show now ≤ m by omega)).take cost (by omega)
            have HT : Hid (takeI [x] [97] cost m = (E, [y])) := hT
            have HTK : Hid (Tok (k : Int) [x]) := ⟨by simp, fun b hb => by rw [List.mem_singleton.1 hb]; exact HBx.out.ok⟩
            obtain ⟨q2, q4, e2, s0, s1, e4, s2, s3, e6⟩ := came_in m0 (by omega) r0 r1
            have g1 : m.tdiv 1000000000 = m / 1000000000 := Int.tdiv_eq_ediv_of_nonneg m0
            have g2 : m.tmod 1000000000 = m % 1000000000 := Int.tmod_eq_emod_of_nonneg m0
            have g3 : q4.tdiv 1000000000 = q4 / 1000000000 := Int.tdiv_eq_ediv_of_nonneg s2
            have i0 : 0 ≤ m / 1000000000 := by omega
            have i1 : m / 1000000000 ≤ 10 := by omega
            have i2 : 0 ≤ m % 1000000000 := by omega
            have i3 : m % 1000000000 < 1000000000 := by omega
            have i4 : 0 ≤ q4 / 1000000000 := by omega
            have i5 : q4 / 1000000000 ≤ 1000000000 := by omega
            have HEQ : Hid (q2 + q4 / 1000000000 = m * rate / 1000000000) := e6
            generalize m / 1000000000 = j1 at e2 g1 i0 i1
            generalize m % 1000000000 = j2 at e4 g2 i2 i3
            generalize q4 / 1000000000 = j3 at g3 i4 i5 HEQ
            obtain ⟨q6, e6'⟩ : ∃ q6, q2 + j3 = q6 := ⟨_, rfl⟩
            have v0 : 0 ≤ q6 := by omega
            have v1 : q6 ≤ 11000000000 := by omega
            obtain ⟨q7, e7⟩ : ∃ q7, burst + q6 = q7 := ⟨_, rfl⟩
            have v2 : 0 ≤ q7 := by omega
            have v3 : q7 ≤ 12000000000 := by omega
            have HQ7 : Hid (burst + m * rate / 1000000000 = q7) := by show _ = _; rw [← HEQ.out, e6', e7]
            clear d1 e6 hT HEQ
            go_wp2_with fail
            refine (HG.out.one.take (k : Int) T w.heap.size [x] [97] cost m wr HMr.out.1 HTK.out (by omega) HMr.out.2.size).mono ?_
            rintro e w3 ⟨rfl, hp3, hb3, hk3⟩
            rw [HT.out] at hp3
            rw [HT.out]
            have HM3 : Hid (P1 PF w3 T w.heap.size [y] ∧ Below w.heap.size w w3) := ⟨hp3, HMr.out.2.trans hb3⟩
            obtain ⟨b2, off2, hsa2, hlt2, z0, z1, z2, z3, z4, z5⟩ := (HO.out.later HM3.out.2 (Nat.le_refl _)).l k _ HOK.out
            obtain ⟨rfl, rfl⟩ : b2 = bb ∧ off2 = off := by cases hsa2; exact ⟨rfl, rfl⟩
            simp only at z4
            clear hp3 hb3 hk3 hsa2 z0 z1 z2 z3 z5 h4 h5
            rcases hY with ⟨hE, y0, y1, hB2⟩ | ⟨hE, hB2⟩
            · subst hE
              have HB2 : Hid (Bst ((k : Int) + 1) y rate burst m (taken + cost)) := hB2
              have hbd : taken + cost ≤ q7 := by have := hB2.bound; rw [HQ7.out] at this; exact this
              have t2 : 0 ≤ taken + cost := by omega
              have t3 : taken + cost ≤ 20000000000 := by omega
              clear hB2
              go_wp2_with fail
              go_roundw
              case rel => exact ⟨m, taken + cost, k + 1, y, rfl, rfl, by go_num, by omega, by omega, m0, m1, t2, t3, HB2.out, HM3.out⟩
              case measure => simp [intOf]; omega
            · have HB2 : Hid (Bst ((k : Int) + 1) y rate burst m taken) := hB2
              have hbd : taken ≤ q7 := by have := hB2.bound; rw [HQ7.out] at this; exact this
              have hE' : (E == 0) = false := by simpa using hE
              clear hB2 hE
              go_wp2_with fail
              go_roundw
              case rel => exact ⟨m, taken, k + 1, y, rfl, rfl, by go_num, by omega, by omega, m0, m1, t0, t1, HB2.out, HM3.out⟩
              case measure => simp [intOf]; omega
        · have c2' : ¬ ((k : Int) < 200) := by omega
          clear c2 k1 k2
          go_wp2_with (go_at_call 10; refine (known_any HG.out.oneN _).mono ?_; rintro e w3 ⟨rfl, hb3⟩)
          go_ret
          exact ⟨rfl, HMr.out.2.trans (hb3.mono HMr.out.2.size)⟩
      · have c1' : ¬ ((k : Int) < (len : Int)) := by omega
        clear c1 k1 k2
        go_wp2_with (go_at_call 10; refine (known_any HG.out.oneN _).mono ?_; rintro e w3 ⟨rfl, hb3⟩)
        go_ret
        exact ⟨rfl, HMr.out.2.trans (hb3.mono HMr.out.2.size)⟩
end Go.Proofs.Ytpobfcmbbabchaa
