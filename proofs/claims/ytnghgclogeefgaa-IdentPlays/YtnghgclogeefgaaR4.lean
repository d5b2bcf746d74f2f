/- The model's table: a session is opened. -/
import Derived.Test.YtnghgclogeefgaaR3
namespace Go.Proofs.Ytnghgclogeefgaa
open Go.RowKit
set_option linter.unusedVariables false
set_option linter.unusedSimpArgs false

set_option maxRecDepth 20000 in
set_option maxHeartbeats 8000000 in
theorem ropen_kg (T base : Nat) (last : Int) (sv : Value) (ss : List Se) (peer : List UInt8) (now span : Int) (w : World) (h : RTb w T base last sv ss) (hl : ss.length ≤ 64) (hm : (peer.length : Int) ≤ 140737488351232) (l0 : 0 ≤ last) (l1 : last ≤ 1000000) (hbs : base ≤ w.heap.size) :
    Calls Try.prog 19 #[.pointer (some ⟨T, 0, none⟩), .string (tx peer), .int .i64 now, .int .i64 span] w fun e w' => ropP w' T base e (opI last ss peer now span) ∧ Below base w w' ∧ Kg 39 70 w w' := by
  have HT : Hid (RTb w T base last sv ss) := h
  have HPA : Hid (Calls Try.prog 9 #[.string (tx peer)] w fun e w' => e = .returned (resP (pI peer)) ∧ Below w.heap.size w w') := rparse_any peer w hm
  have HBS : Hid (base ≤ w.heap.size) := hbs
  clear h hbs
  cases hp : pI peer with
  | inr k =>
    have HR : Hid (opI last ss peer now span = (0, 100, last, ss)) := by show _ = _; unfold opI; rw [hp]
    rw [hp] at HPA
    simp only [resP, idV] at HPA
    clear hp
    go_enter Try.func19, Try.ntmps19
    go_wp2_with (go_at_call 9; refine HPA.out.mono ?_; rintro e w1 ⟨rfl, hb1⟩)
    go_ret2
    rw [HR.out]
    refine ⟨⟨rfl, sv, HT.out.later (hb1.trans ((bel1 _ _).mono hb1.size)) (Nat.le_refl _)⟩, (hb1.trans ((bel1 _ _).mono hb1.size)).mono HBS.out, Kg.of (hb1.trans ((bel1 _ _).mono hb1.size)) (Nat.le_refl _)⟩
  | inl x =>
    obtain ⟨x2, x3, x4⟩ := x
    rw [hp] at HPA
    simp only [resP, idV] at HPA
    have HRS : Hid (∀ W, Calls Try.prog 38 #[.int .i64 now, .int .i64 span] W fun e w' => e = .returned (.bool (!rsI now span)) ∧ w' = W) := fun W => wrong_any now span W
    go_enter Try.func19, Try.ntmps19
    go_wp2_with fail
    refine HPA.out.mono ?_
    rintro e w1 ⟨rfl, hb1⟩
    go_wp2_with fail
    obtain ⟨W, hW⟩ : ∃ W, w1.alloc (.cells #[.string (tx x2), .string (tx x3), .bool x4] 23) = W := ⟨_, rfl⟩
    have HB : Hid (Below w.heap.size w W) := by show Below _ _ _; rw [← hW]; exact hb1.trans ((bel1 _ _).mono hb1.size)
    have HI : Hid (W.heap[w1.heap.size]? = some (.cells #[.string (tx x2), .string (tx x3), .bool x4] 23 (0, 0)) ∧ w.heap.size ≤ w1.heap.size) := ⟨by rw [← hW]; exact Go.heap_alloc_new _ _, hb1.size⟩
    rw [hW]
    generalize w1.heap.size = i at HI ⊢
    clear hW hb1 HPA
    have HTW : Hid (RTb W T base last sv ss) := HT.out.later HB.out (Nat.le_refl _)
    refine (HRS.out W).mono ?_
    rintro e w2 ⟨rfl, hw2⟩
    rw [hw2]
    clear hw2 HRS
    cases hr : rsI now span with
    | false =>
      have HR : Hid (opI last ss peer now span = (0, 1, last, ss)) := by show _ = _; unfold opI; rw [hp]; simp only; rw [if_pos hr]
      clear hp hr
      go_wp2_with fail
      go_ret2
      rw [HR.out]
      exact ⟨⟨rfl, sv, HTW.out⟩, HB.out.mono HBS.out, Kg.of HB.out (Nat.le_refl _)⟩
    | true =>
      obtain ⟨sa, sc, hsv⟩ := own_slice HTW.out.row
      have d1 : W.cell? ⟨T, 0, none⟩ = some (.slice sa ss.length sc) := by rw [cell_of_row _ _ _ _ _ _ HTW.out.tab, hsv]; rfl
      by_cases h64 : ss.length = 64
      · have HR : Hid (opI last ss peer now span = (0, 7, last, ss)) := by show _ = _; unfold opI; rw [hp]; simp only; rw [if_neg (by rw [hr]; decide), if_pos h64]
        have h64' : (64 : Int) ≤ (ss.length : Int) := by omega
        clear hp hr h64
        go_wp2_with fail
        go_ret2
        rw [HR.out]
        exact ⟨⟨rfl, sv, HTW.out⟩, HB.out.mono HBS.out, Kg.of HB.out (Nat.le_refl _)⟩
      · have HR : Hid (opI last ss peer now span = (last + 1, 0, last + 1, ss ++ [⟨last + 1, x2, x3, x4, endI now span⟩])) := by show _ = _; unfold opI; rw [hp]; simp only; rw [if_neg (by rw [hr]; decide), if_neg h64]
        have h64' : (ss.length : Int) < 64 := by omega
        have HEN : Hid (∀ W, Calls Try.prog 39 #[.int .i64 now, .int .i64 span] W fun e w' => e = .returned (.int .i64 (endI now span)) ∧ w' = W) := fun W => rover_any now span W hr
        have d0 : W.cell? ⟨T, 1, none⟩ = some (.int .i64 last) := by rw [cell_of_row _ _ _ _ _ _ HTW.out.tab]; rfl
        have fT : W.frozen? ⟨T, 1, none⟩ = false := frozen_of_row _ _ 1 _ _ HTW.out.tab
        clear hp hr h64
        generalize endI now span = E at HEN HR
        go_upto_region 9 with fail
        obtain ⟨W2, hW2⟩ : ∃ W2, W.setCell ⟨T, 1, none⟩ (.int .i64 (last + 1)) = W2 := ⟨_, rfl⟩
        obtain ⟨L, hL⟩ : ∃ L, last + 1 = L := ⟨_, rfl⟩
        have HL : Hid (last + 1 = L) := hL
        have HTI : Hid (i ≠ T) := ne_tag HI.out.1 HTW.out.tab (by decide)
        have HB2 : Hid (Below base w W2) := by
          show Below _ _ _
          rw [← hW2]
          exact (HB.out.mono HBS.out).setCell HTW.out.low _
        have HT2 : Hid (RTb W2 T base L sv ss) := by
          refine ⟨?_, own_at HTW.out.row fun q hq => ?_, HTW.out.low⟩
          · rw [← hW2, ← hL]; exact row_set _ HTW.out.tab
          · obtain ⟨cur, hc⟩ := own_tag HTW.out.row hq
            rw [← hW2]
            exact Below.heap_setCell _ _ _ _ (ne_tag hc HTW.out.tab (by decide))
        have HI2 : Hid (W2.heap[i]? = some (.cells #[.string (tx x2), .string (tx x3), .bool x4] 23 (0, 0))) := by
          show _ = _
          rw [← hW2]
          exact (Below.heap_setCell _ _ _ _ HTI.out).trans HI.out.1
        have HS2 : Hid (W2.heap.size = W.heap.size) := by show _ = _; rw [← hW2]; simp
        have HKT2 : Hid (Kg 39 70 w W2) := by
          refine (Kg.of HB.out (Nat.le_refl _)).trans ?_
          intro p c t f hp n1 n2
          rw [← hW2]
          exact Below.heap_setCell _ _ _ _ (ne_tag hp HTW.out.tab n1)
        rw [hW2]
        have hR' := HR.out
        rw [hL] at hR'
        have HR' : Hid (opI last ss peer now span = (L, 0, L, ss ++ [⟨L, x2, x3, x4, E⟩])) := hR'
        clear hR' HR hL hW2 d0 d1 fT
        subst hsv
        have lT := (Array.getElem?_eq_some_iff.1 HT2.out.tab).1
        have li := (Array.getElem?_eq_some_iff.1 HI2.out).1
        have tabA : ∀ o, (W2.alloc o).heap[T]? = some (.cells #[.slice sa ss.length sc, .int .i64 L] 39 (0, 0)) := fun o => (Below.heap_alloc _ _ _ lT).trans HT2.out.tab
        have HTA : Hid (∀ o, (W2.alloc o).heap[T]? = some (.cells #[.slice sa ss.length sc, .int .i64 L] 39 (0, 0))) := tabA
        have d0 : W2.cell? ⟨T, 1, none⟩ = some (.int .i64 L) := by rw [cell_of_row _ _ _ _ _ _ HT2.out.tab]; rfl
        have d1 : W2.cell? ⟨T, 0, none⟩ = some (.slice sa ss.length sc) := by rw [cell_of_row _ _ _ _ _ _ HT2.out.tab]; rfl
        have y0 : W2.cell? ⟨i, 0, none⟩ = some (.string (tx x2)) := by rw [cell_of_row _ _ _ _ _ _ HI2.out]; rfl
        have y1 : W2.cell? ⟨i, 1, none⟩ = some (.string (tx x3)) := by rw [cell_of_row _ _ _ _ _ _ HI2.out]; rfl
        have y2 : W2.cell? ⟨i, 2, none⟩ = some (.bool x4) := by rw [cell_of_row _ _ _ _ _ _ HI2.out]; rfl
        have d0a : ∀ o, (W2.alloc o).cell? ⟨T, 1, none⟩ = some (.int .i64 L) := fun o => by rw [cell_of_row _ _ _ _ _ _ (tabA o)]; rfl
        have d1a : ∀ o, (W2.alloc o).cell? ⟨T, 0, none⟩ = some (.slice sa ss.length sc) := fun o => by rw [cell_of_row _ _ _ _ _ _ (tabA o)]; rfl
        have HLL : Hid (ss.length ≤ 64) := hl
        have HB2S : Hid (base ≤ W2.heap.size) := by have := HB.out.size; have := HBS.out; have := HS2.out; show _ ≤ _; omega
        obtain ⟨i0, hi, hz0, hz1, hz2⟩ := info_parts info70
        have HLT : Hid (T < W2.heap.size) := lT
        clear tabA lT li hl
        go_region_law (first | (refine step_append_lies _ rfl (.tmp 46) (.tmp 56) 37 rfl base 70 i0 (.agg #[.int .i64 0, .string ⟨#[]⟩, .string ⟨#[]⟩, .bool false, .int .i64 0]) 5 56 Try.underlying37 hi hz0 hz1 hz2 rfl (by decide) (.slice sa ss.length sc) ss.length (seL ss) (by simp [Act.eval, Act.put]) (HT2.out.row.alloc _) ⟨W2.heap.size, 0, none⟩ 1 1 (se5 ⟨L, x2, x3, x4, E⟩) (by simp [Act.eval, Act.put]) rfl (World.news_of_block (Go.heap_alloc_new _ _)) (se5_one _) (by decide) (by have := HLL.out; unfold maxLen; omega) (by have := HLL.out; omega) (by have := HB2S.out; simp; omega) (W2.heap.size + 1) (by simp) ?_; intro g' cp' w' ho' hg' hx' hy'; (have HX1 : Hid (w'.heap[T]? = some (.cells #[.slice sa ss.length sc, .int .i64 L] 39 (0, 0))) := (hg'.block T (by have := HLT.out; simp; omega) (own_other HT2.out.row HT2.out.tab (by decide))).trans (HTA.out _)); (have d1 : w'.cell? ⟨T, 0, none⟩ = some (.slice sa ss.length sc) := (by rw [cell_of_row _ _ _ _ _ _ HX1.out]; rfl)); (have f1 := frozen_of_row _ _ 0 _ _ HX1.out); (have HO1 : Hid (w'.ownsRow base 70 5 (.slice (some ⟨g', 0, none⟩) (ss.length + 1) cp') (ss.length + 1) (seL ss ++ se5 ⟨L, x2, x3, x4, E⟩)) := ho'); (have HK1 : Hid (∀ q, q < W2.heap.size → (Value.slice sa ss.length sc).ownBlock ≠ some q → w'.heap[q]? = W2.heap[q]?) := fun q h1 h2 => (hg'.block q (by simp; omega) (fun e => h2 e.symm)).trans (Below.heap_alloc _ _ _ h1)); (have HG1 : Hid (w'.os = W2.os ∧ w'.tape = W2.tape ∧ w'.output = W2.output ∧ W2.heap.size ≤ w'.heap.size) := ⟨hg'.os, hg'.tape, hg'.output, (by have h := hg'.size; simp at h; omega)⟩); clear ho' hg' hx' hy') | (refine step_call2 rfl 39 (.tmp 52) (.tmp 53) 2 2 rfl (.int .i64 now) (.int .i64 span) (by simp [Act.eval, Act.put]) (by simp [Act.eval, Act.put]) (enters_of Try.func39 (by kernel_rfl) rfl) ?_; refine (HEN.out _).mono ?_; rintro e w9 ⟨rfl, hw9⟩; rw [hw9]; clear hw9; refine ⟨_, rfl, ?_⟩))
        all_goals
          obtain ⟨W3, hW3⟩ : ∃ W3, w'.setCell ⟨T, 0, none⟩ (.slice (some ⟨g', 0, none⟩) (ss.length + 1) cp') = W3 := ⟨_, rfl⟩
          have HX3 : Hid (W3.heap[T]? = some (.cells #[.slice (some ⟨g', 0, none⟩) (ss.length + 1) cp', .int .i64 L] 39 (0, 0))) := by show _ = _; rw [← hW3]; exact row_set _ HX1.out
          have HE3 : Hid (ropP W3 T base (.returned (.tuple #[.int .i64 L, .int .i64 0])) (opI last ss peer now span) ∧ Below base w W3 ∧ Kg 39 70 w W3) := by
            rw [HR'.out]
            refine ⟨⟨rfl, .slice (some ⟨g', 0, none⟩) (ss.length + 1) cp', HX3.out, ?_, HT2.out.low⟩, ?_, ?_⟩
            · have h := own_at HO1.out (w' := W3) fun q hq => by
                obtain ⟨cur, hc⟩ := own_tag HO1.out hq
                rw [← hW3]
                exact Below.heap_setCell _ _ _ _ (ne_tag hc HX1.out (by decide))
              rw [List.length_append, seL_app]
              simpa [seL] using h
            · have hg := HG1.out
              refine HB2.out.trans ?_
              rw [← hW3]
              have hlo := HT2.out.low
              refine ⟨hg.1, hg.2.1, hg.2.2.1, by simp; exact hg.2.2.2, fun q hq => ?_⟩
              rw [Below.heap_setCell _ _ _ _ (by show q ≠ T; omega)]
              refine HK1.out q (by have := HB2S.out; omega) fun e => ?_
              have := (HT2.out.row.lt q e).1
              omega
            · refine HKT2.out.trans ?_
              intro p c t f hp n1 n2
              rw [← hW3, Below.heap_setCell _ _ _ _ (ne_tag hp HT2.out.tab n1)]
              refine HK1.out p (Array.getElem?_eq_some_iff.1 hp).1 fun e => ?_
              obtain ⟨cur, hc⟩ := own_tag HT2.out.row e
              exact ne_tag hp hc n2 rfl
          have c0 : W3.cell? ⟨T, 1, none⟩ = some (.int .i64 L) := by rw [cell_of_row _ _ _ _ _ _ HX3.out]; rfl
          rw [hW3]
          clear hW3 d1 f1 HX1 HO1 HK1 HG1 HX3 d0 y0 y1 y2 d0a d1a
          go_wp2_with fail
          go_ret2
          exact HE3.out
end Go.Proofs.Ytnghgclogeefgaa
