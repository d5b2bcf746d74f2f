/- The model's buckets: Set. -/
import Derived.Test.YtpobfcmbbabchaaR7
namespace Go.Proofs.Ytpobfcmbbabchaa
open Go.RowKit
set_option linter.unusedVariables false
set_option linter.unusedSimpArgs false

theorem okS_no {rate burst now : Int} (h : okS rate burst now = false) : rate < 0 ∨ (0 ≤ rate ∧ 1000000000 < rate) ∨ (0 ≤ rate ∧ rate ≤ 1000000000 ∧ burst < 1) ∨ (0 ≤ rate ∧ rate ≤ 1000000000 ∧ 1 ≤ burst ∧ 1000000000 < burst) ∨ (0 ≤ rate ∧ rate ≤ 1000000000 ∧ 1 ≤ burst ∧ burst ≤ 1000000000 ∧ timI now = false) := by
  unfold okS at h
  unfold timI
  simp only [decide_eq_false_iff_not] at h ⊢
  omega
theorem okS_yes {rate burst now : Int} (h : okS rate burst now = true) : (0 ≤ rate ∧ rate ≤ 1000000000 ∧ 1 ≤ burst ∧ burst ≤ 1000000000 ∧ 0 ≤ now ∧ now ≤ 1125899906842624) ∧ timI now = true := by
  have h' : 0 ≤ rate ∧ rate ≤ 1000000000 ∧ 1 ≤ burst ∧ burst ≤ 1000000000 ∧ 0 ≤ now ∧ now ≤ 1125899906842624 := of_decide_eq_true h
  refine ⟨h', ?_⟩
  unfold timI
  simp
  omega
set_option maxRecDepth 20000 in
set_option maxHeartbeats 4000000 in
theorem rset_any (T base : Nat) (sv : Value) (l : List Bk) (nm : List UInt8) (rate burst now : Int) (w : World) (h : RT w T base sv l) (hl : l.length ≤ 16) (hbs : base ≤ w.heap.size) :
    Calls Try.prog 24 #[.pointer (some ⟨T, 0, none⟩), .string (tx nm), .int .i64 rate, .int .i64 burst, .int .i64 now] w fun e w' => e = .returned (.int .i64 (setI l nm rate burst now).1) ∧ (∃ sv', RT w' T base sv' (setI l nm rate burst now).2) ∧ Below base w w' ∧ Kx badR w w' := by
  have HF : Hid (Calls Try.prog 44 #[.pointer (some ⟨T, 0, none⟩), .string (tx nm)] w fun e w' => e = .returned (.int .i64 (ixBI l nm)) ∧ w' = w) := rfind_any T base sv l nm w h hl
  have HTI : Hid (Calls Try.prog 43 #[.int .i64 now] w fun e w' => e = .returned (.bool (timI now)) ∧ w' = w) := rtime_any now w
  have HT : Hid (RT w T base sv l) := h
  have HBS : Hid (base ≤ w.heap.size) := hbs
  clear h hbs
  cases ha : okS rate burst now with
  | false =>
    have HR : Hid (setI l nm rate burst now = (1, l)) := by show _ = _; unfold setI; rw [if_pos ha]
    rcases okS_no ha with c | ⟨c1, c2⟩ | ⟨c1, c2, c3⟩ | ⟨c1, c2, c3, c4⟩ | ⟨c1, c2, c3, c4, c5⟩
    all_goals clear ha
    all_goals (try rw [c5] at HTI)
    all_goals (try clear c5)
    all_goals
      go_enter Try.func24, Try.ntmps24
      go_wp2_with (go_at_call 43; refine HTI.out.mono ?_; rintro e w1 ⟨rfl, hw1⟩; rw [hw1]; clear hw1)
      go_ret
      rw [HR.out]
      exact ⟨rfl, ⟨sv, HT.out⟩, Below.refl _ _, Kx.refl _ _⟩
  | true =>
    obtain ⟨⟨a1, a2, a3, a4, a5, a6⟩, a7⟩ := okS_yes ha
    rw [a7] at HTI
    clear a7
    cases hx : ixB l nm with
    | some k =>
      obtain ⟨b, hs, hid⟩ := ixB_some l nm k hx
      clear hid
      have hk : k < l.length := (List.getElem?_eq_some_iff.1 hs).1
      have e1 : ixBI l nm = (k : Int) := by unfold ixBI; rw [hx]
      have HR : Hid (setI l nm rate burst now = (0, l.set k (newB nm rate burst now))) := by show _ = _; unfold setI; rw [if_neg (by rw [ha]; decide), hx]
      rw [e1] at HF
      obtain ⟨g, cp, e⟩ := own_form HT.out.row (by omega)
      subst e
      obtain ⟨n, hn⟩ : ∃ n, l.length = n := ⟨_, rfl⟩
      have HN : Hid (l.length = n) := hn
      have hkn : (k : Int) < (n : Int) := by omega
      have hn16 : (n : Int) ≤ 16 := by omega
      have hcap : (n : Int) ≤ (cp : Int) := by have := own_cap HT.out.row; omega
      obtain ⟨d0, c0, c1, c2, c3, c4, c5, c6, c7, c8⟩ := HT.out.ten hs
      rw [HN.out] at d0
      have hgl := (own_lt HT.out.row).2
      have hTl := (Array.getElem?_eq_some_iff.1 HT.out.tab).1
      have fz : ∀ i, w.frozen? ⟨g, i, none⟩ = false := fun i => HT.out.row.frozenAt i
      have z0 := fz (k * 9)
      have z1 := fz (k * 9 + 1)
      have z2 := fz (k * 9 + 2)
      have z3 := fz (k * 9 + 3)
      have z4 := fz (k * 9 + 4)
      have z5 := fz (k * 9 + 5)
      have z6 := fz (k * 9 + 6)
      have z7 := fz (k * 9 + 7)
      have z8 := fz (k * 9 + 8)
      have HH9 : Hid (∀ o, RT ((w.setCells g (k * 9) (bk9 ⟨nm, rate, burst, burst, 0, now, 0, 0, 0⟩)).alloc o).drew T base (.slice (some ⟨g, 0, none⟩) (l.set k (newB nm rate burst now)).length cp) (l.set k (newB nm rate burst now)) ∧ Below base w ((w.setCells g (k * 9) (bk9 ⟨nm, rate, burst, burst, 0, now, 0, 0, 0⟩)).alloc o).drew ∧ Kx badR w ((w.setCells g (k * 9) (bk9 ⟨nm, rate, burst, burst, 0, now, 0, 0, 0⟩)).alloc o).drew) := HT.out.putBack hk HBS.out ⟨Below.refl _ _, Kx.refl _ _⟩ (newB nm rate burst now)
      clear hx e1 hs hk hn hl fz ha
      go_enter Try.func24, Try.ntmps24
      go_wp2_with fail
      refine HTI.out.mono ?_
      rintro e w1 ⟨rfl, hw1⟩
      rw [hw1]; clear hw1
      go_wp2_with fail
      refine HF.out.mono ?_
      rintro e w1 ⟨rfl, hw1⟩
      rw [hw1]; clear hw1
      go_wp2_with fail
      go_region
      go_wp2_with fail
      go_ret
      rw [HR.out]
      exact ⟨rfl, ⟨_, (HH9.out _).1⟩, (HH9.out _).2⟩
    | none =>
      have e1 : ixBI l nm = -1 := by unfold ixBI; rw [hx]
      rw [e1] at HF
      obtain ⟨sa, sc, hsv⟩ := own_slice HT.out.row
      subst hsv
      obtain ⟨n, hn⟩ : ∃ n, l.length = n := ⟨_, rfl⟩
      have HN : Hid (l.length = n) := hn
      have d0 : w.cell? ⟨T, 0, none⟩ = some (.slice sa n sc) := by rw [cell_of_row _ _ _ _ _ _ HT.out.tab, hn]; rfl
      have hTl := (Array.getElem?_eq_some_iff.1 HT.out.tab).1
      have hTn : T ≠ w.heap.size := by omega
      by_cases h16 : 16 ≤ l.length
      · have HR : Hid (setI l nm rate burst now = (7, l)) := by show _ = _; unfold setI; rw [if_neg (by rw [ha]; decide), hx]; simp only; rw [if_pos h16]
        have h16' : (16 : Int) ≤ (n : Int) := by omega
        clear hx e1 hn hl ha h16
        go_enter Try.func24, Try.ntmps24
        go_wp2_with fail
        refine HTI.out.mono ?_
        rintro e w1 ⟨rfl, hw1⟩
        rw [hw1]; clear hw1
        go_wp2_with fail
        refine HF.out.mono ?_
        rintro e w1 ⟨rfl, hw1⟩
        rw [hw1]; clear hw1
        go_wp2_with fail
        go_ret
        rw [HR.out]
        exact ⟨rfl, ⟨_, HT.out.later (bel1 w _) (Nat.le_refl _)⟩, (bel1 w _).mono HBS.out, Kx.of (bel1 w _) (Nat.le_refl _)⟩
      · have HR : Hid (setI l nm rate burst now = (0, l ++ [newB nm rate burst now])) := by show _ = _; unfold setI; rw [if_neg (by rw [ha]; decide), hx]; simp only; rw [if_neg h16]
        have h16' : (n : Int) < 16 := by omega
        have HLL : Hid (l.length < 16) := by show _ < _; omega
        clear hx e1 hn hl ha h16
        go_enter Try.func24, Try.ntmps24
        go_wp2_with fail
        refine HTI.out.mono ?_
        rintro e w1 ⟨rfl, hw1⟩
        rw [hw1]; clear hw1
        go_wp2_with fail
        refine HF.out.mono ?_
        rintro e w1 ⟨rfl, hw1⟩
        rw [hw1]; clear hw1
        go_wp2_with fail
        obtain ⟨W2, hW2⟩ : ∃ W2, w.alloc (.cells #[.string (tx nm), .int .i64 rate, .int .i64 burst, .int .i64 burst, .int .i64 0, .int .i64 now, .int .i64 0, .int .i64 0, .int .i64 0] 78) = W2 := ⟨_, rfl⟩
        have HB : Hid (Below w.heap.size w W2) := by show Below _ _ _; rw [← hW2]; exact bel1 w _
        have HI2 : Hid (W2.heap[w.heap.size]? = some (.cells #[.string (tx nm), .int .i64 rate, .int .i64 burst, .int .i64 burst, .int .i64 0, .int .i64 now, .int .i64 0, .int .i64 0, .int .i64 0] 78 (0, 0))) := by show _ = _; rw [← hW2]; exact Go.heap_alloc_new _ _
        have HT2 : Hid (RT W2 T base (.slice sa l.length sc) l) := HT.out.later HB.out (Nat.le_refl _)
        rw [hW2]
        clear hW2 d0 hTl hTn
        have HWS : Hid (w.heap.size < W2.heap.size) := (Array.getElem?_eq_some_iff.1 HI2.out).1
        generalize w.heap.size = i at HI2 ⊢
        have lT := (Array.getElem?_eq_some_iff.1 HT2.out.tab).1
        have tabA : ∀ o, (W2.alloc o).heap[T]? = some (.cells #[.slice sa l.length sc] 39 (0, 0)) := fun o => (Below.heap_alloc _ _ _ lT).trans HT2.out.tab
        have HTA : Hid (∀ o, (W2.alloc o).heap[T]? = some (.cells #[.slice sa l.length sc] 39 (0, 0))) := tabA
        rw [← HN.out] at h16'
        have d1 : W2.cell? ⟨T, 0, none⟩ = some (.slice sa l.length sc) := by rw [cell_of_row _ _ _ _ _ _ HT2.out.tab]; rfl
        have y0 : W2.cell? ⟨i, 0, none⟩ = some (.string (tx nm)) := by rw [cell_of_row _ _ _ _ _ _ HI2.out]; rfl
        have y1 : W2.cell? ⟨i, 1, none⟩ = some (.int .i64 rate) := by rw [cell_of_row _ _ _ _ _ _ HI2.out]; rfl
        have y2 : W2.cell? ⟨i, 2, none⟩ = some (.int .i64 burst) := by rw [cell_of_row _ _ _ _ _ _ HI2.out]; rfl
        have y3 : W2.cell? ⟨i, 3, none⟩ = some (.int .i64 burst) := by rw [cell_of_row _ _ _ _ _ _ HI2.out]; rfl
        have y4 : W2.cell? ⟨i, 4, none⟩ = some (.int .i64 0) := by rw [cell_of_row _ _ _ _ _ _ HI2.out]; rfl
        have y5 : W2.cell? ⟨i, 5, none⟩ = some (.int .i64 now) := by rw [cell_of_row _ _ _ _ _ _ HI2.out]; rfl
        have y6 : W2.cell? ⟨i, 6, none⟩ = some (.int .i64 0) := by rw [cell_of_row _ _ _ _ _ _ HI2.out]; rfl
        have y7 : W2.cell? ⟨i, 7, none⟩ = some (.int .i64 0) := by rw [cell_of_row _ _ _ _ _ _ HI2.out]; rfl
        have y8 : W2.cell? ⟨i, 8, none⟩ = some (.int .i64 0) := by rw [cell_of_row _ _ _ _ _ _ HI2.out]; rfl
        have d1a : ∀ o, (W2.alloc o).cell? ⟨T, 0, none⟩ = some (.slice sa l.length sc) := fun o => by rw [cell_of_row _ _ _ _ _ _ (tabA o)]; rfl
        have HB2S : Hid (base ≤ W2.heap.size) := by have := HWS.out; have := HBS.out; show _ ≤ _; omega
        obtain ⟨i0, hi, hz0, hz1, hz2⟩ := info_parts info63
        have HLT : Hid (T < W2.heap.size) := lT
        clear tabA lT
        go_region_law (first | (refine step_append_lies _ rfl (.tmp 60) (.tmp 62) 37 rfl base 78 i0 (.agg #[.string ⟨#[]⟩, .int .i64 0, .int .i64 0, .int .i64 0, .int .i64 0, .int .i64 0, .int .i64 0, .int .i64 0, .int .i64 0]) 9 80 Try.underlying37 hi hz0 hz1 hz2 rfl (by decide) (.slice sa l.length sc) l.length (fl bk9 l) (by simp [Act.eval, Act.put]) (HT2.out.row.alloc _) ⟨W2.heap.size, 0, none⟩ 1 1 (bk9 (newB nm rate burst now)) (by simp [Act.eval, Act.put]) rfl (World.news_of_block (Go.heap_alloc_new _ _)) (bk9_one _) (by decide) (by have := HLL.out; unfold maxLen; omega) (by have := HLL.out; omega) (by have := HB2S.out; simp; omega) (W2.heap.size + 1) (by simp) ?_; intro g' cp' w' ho' hg' hx' hy'; (have HX1 : Hid (w'.heap[T]? = some (.cells #[.slice sa l.length sc] 39 (0, 0))) := (hg'.block T (by have := HLT.out; simp; omega) (own_other HT2.out.row HT2.out.tab (by decide))).trans (HTA.out _)); (have d1 : w'.cell? ⟨T, 0, none⟩ = some (.slice sa l.length sc) := (by rw [cell_of_row _ _ _ _ _ _ HX1.out]; rfl)); (have f1 := frozen_of_row _ _ 0 _ _ HX1.out); (have HO1 : Hid (w'.ownsRow base 78 9 (.slice (some ⟨g', 0, none⟩) (l.length + 1) cp') (l.length + 1) (fl bk9 l ++ bk9 (newB nm rate burst now))) := ho'); (have HK1 : Hid (∀ q, q < W2.heap.size → (Value.slice sa l.length sc).ownBlock ≠ some q → w'.heap[q]? = W2.heap[q]?) := fun q h1 h2 => (hg'.block q (by simp; omega) (fun e => h2 e.symm)).trans (Below.heap_alloc _ _ _ h1)); (have HG1 : Hid (w'.os = W2.os ∧ w'.tape = W2.tape ∧ w'.output = W2.output ∧ W2.heap.size ≤ w'.heap.size) := ⟨hg'.os, hg'.tape, hg'.output, (by have h := hg'.size; simp at h; omega)⟩); clear ho' hg' hx' hy'))
        all_goals
          obtain ⟨W3, hW3⟩ : ∃ W3, w'.setCell ⟨T, 0, none⟩ (.slice (some ⟨g', 0, none⟩) (l.length + 1) cp') = W3 := ⟨_, rfl⟩
          have HE3 : Hid ((∃ sv', RT W3 T base sv' (l ++ [newB nm rate burst now])) ∧ Below base w W3 ∧ Kx badR w W3) := by
            refine ⟨⟨.slice (some ⟨g', 0, none⟩) (l.length + 1) cp', ⟨by rw [← hW3]; exact row_set _ HX1.out, ?_, HT2.out.low⟩⟩, ?_, ?_⟩
            · have h := own_at HO1.out (w' := W3) fun q hq => by
                obtain ⟨cur, hc⟩ := own_tag HO1.out hq
                rw [← hW3]
                exact Below.heap_setCell _ _ _ _ (ne_tag hc HX1.out (by decide))
              rw [List.length_append, fl_app]
              simpa [fl] using h
            · have hg := HG1.out
              refine (HB.out.mono HBS.out).trans ?_
              rw [← hW3]
              have hlo := HT2.out.low
              refine ⟨hg.1, hg.2.1, hg.2.2.1, by simp; exact hg.2.2.2, fun q hq => ?_⟩
              rw [Below.heap_setCell _ _ _ _ (by show q ≠ T; omega)]
              refine HK1.out q (by have := HB2S.out; omega) fun e => ?_
              have := (HT2.out.row.lt q e).1
              omega
            · refine (Kx.of HB.out (Nat.le_refl _)).trans ?_
              have hk1 : Kx badR W2 w' := fun p o hp ho => by
                refine (HK1.out p (Array.getElem?_eq_some_iff.1 hp).1 fun e => ?_).trans hp
                obtain ⟨cur, hc⟩ := own_tag HT2.out.row e
                rw [hc] at hp
                have := ho _ _ _ (Option.some.inj hp).symm
                cases this
              rw [← hW3]
              exact hk1.trans (Kx.setCell HX1.out rfl _)
          rw [hW3]
          clear hW3 d1 f1 HX1 HO1 HK1 HG1 y0 y1 y2 y3 y4 y5 y6 y7 y8 d1a
          go_wp2_with fail
          go_ret
          rw [HR.out]
          exact ⟨rfl, HE3.out⟩
end Go.Proofs.Ytpobfcmbbabchaa
