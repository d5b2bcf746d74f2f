/- Lists that are alike; new memory; what is wrong of a set; a key set. -/
import Derived.Test.YtnfocmoieofbpaaDoorR4
namespace Go.Proofs.YtnfocmoieofbpaaDoor
open Go.RowKit
set_option linter.unusedVariables false
set_option linter.unusedSimpArgs false

set_option maxHeartbeats 4000000 in
theorem equal_any (sa sb : Option Addr) (ca cb : Nat) (l m : List At) (w : World) (hl : Ats w sa ca l) (hm : Ats w sb cb m) (h1 : (l.length : Int) ≤ 140737488351232) (h2 : (m.length : Int) ≤ 140737488351232) :
    Calls Tryd.prog 31 #[.slice sa l.length ca, .slice sb m.length cb] w fun e w' => e = .returned (.bool (decide (l = m))) ∧ Below w.heap.size w w' := by
  by_cases hn : l.length = m.length
  · have hn' : (l.length : Int) = (m.length : Int) := by omega
    have hb : ((l.length : Int) != (m.length : Int)) = false := by simp [hn']
    have HL : Hid (Ats w sa ca l ∧ Ats w sb cb m ∧ l.length = m.length) := ⟨hl, hm, hn⟩
    have ca' : (l.length : Int) ≤ (ca : Int) := by have := hl.cap; omega
    have cb' : (m.length : Int) ≤ (cb : Int) := by have := hm.cap; omega
    obtain ⟨n, hnn⟩ : ∃ n, m.length = n := ⟨_, rfl⟩
    rw [hn] at h1 hb ca' ⊢
    rw [hnn] at h1 h2 hb ca' cb' ⊢
    have HN : Hid (m.length = n) := hnn
    clear hn hn' hnn hl hm
    go_enter Tryd.func31, Tryd.ntmps31
    go_wp2
    go_loopw [13] (fun i wr => ∃ (k : Nat), k ≤ n ∧ i = .int .i64 k ∧ (∀ j, j < k → l[j]? = m[j]?) ∧ Ats wr sa ca l ∧ Ats wr sb cb m ∧ Below w.heap.size w wr) (fun i _ => n - (intOf i).toNat)
    case atStart => exact ⟨0, Nat.zero_le _, rfl, fun j hj => by omega, HL.out.1, HL.out.2.1, Below.refl _ _⟩
    case round =>
      obtain ⟨k, hk, rfl, hD, a1, a2, a3⟩ := hrel
      have HD : Hid ((∀ j, j < k → l[j]? = m[j]?) ∧ Ats wr sa ca l ∧ Ats wr sb cb m ∧ Below w.heap.size w wr) := ⟨hD, a1, a2, a3⟩
      clear hD a1 a2 a3
      by_cases hlt : k < n
      · obtain ⟨x, hx⟩ : ∃ x, l[k]? = some x := ⟨_, List.getElem?_eq_getElem (by have := HL.out.2.2; have := HN.out; omega)⟩
        obtain ⟨y, hy⟩ : ∃ y, m[k]? = some y := ⟨_, List.getElem?_eq_getElem (by have := HN.out; omega)⟩
        obtain ⟨b, o, hsa, x0, x1⟩ := HD.out.2.1.cells k x hx
        obtain ⟨d, p, hsb, y0, y1⟩ := HD.out.2.2.1.cells k y hy
        subst hsa
        subst hsb
        have HX : Hid ((loadVar 45 ⟨b, o + k * 2, none⟩).run Tryd.prog wr.drew = .ok (.agg #[.string (tx x.1), .string (tx x.2)]) wr.drew) := load45 (w := wr.drew) x0 x1
        have HY : Hid ((loadVar 45 ⟨d, p + k * 2, none⟩).run Tryd.prog wr.drew = .ok (.agg #[.string (tx y.1), .string (tx y.2)]) wr.drew) := load45 (w := wr.drew) y0 y1
        have hq := eqAt x y (HL.out.1.can x (List.mem_of_getElem? hx)) (HL.out.2.1.can y (List.mem_of_getElem? hy))
        have HXY : Hid (l[k]? = some x ∧ m[k]? = some y) := ⟨hx, hy⟩
        have hlt' : (k : Int) < (n : Int) := by omega
        have k0 : (0 : Int) ≤ (k : Int) := by omega
        clear hx hy x0 x1 y0 y1
        go_upto_region 6 with fail
        refine wp_region_still_lit (by kernel_rfl) (by kernel_rfl) (still_of_quiet _ _ ?_)
        rw [show ({ wr with drawn := wr.drawn + 1 } : World) = wr.drew from rfl]
        repeat (first | go_big_quiet_skip | (go_big_quiet_want; go_big_quiet_op; go_big_quiet_on))
        (go_big_quiet_want; refine quiet_loadV 45 _ rfl ⟨b, o + k * 2, none⟩ rfl _ HX.out ?_; go_big_quiet_on)
        simp only [Act.put, List.setIfInBounds_toArray, List.set_cons_succ, List.set_cons_zero]
        repeat (first | go_big_quiet_skip | (go_big_quiet_want; go_big_quiet_op; go_big_quiet_on))
        (go_big_quiet_want; refine quiet_loadV 45 _ rfl ⟨d, p + k * 2, none⟩ rfl _ HY.out ?_; go_big_quiet_on)
        simp only [Act.put, List.setIfInBounds_toArray, List.set_cons_succ, List.set_cons_zero]
        (go_big_quiet_want; refine quiet_neqAt _ _ rfl _ _ rfl rfl (decide (x = y)) (hq _) ?_; go_big_quiet_on)
        simp only [Act.put, List.setIfInBounds_toArray, List.set_cons_succ, List.set_cons_zero]
        refine wpQuiet_nil ?_
        clear hq HX HY
        by_cases he : x = y
        · rw [decide_eq_true he]
          have HS : Hid (∀ j, j < k + 1 → l[j]? = m[j]?) := by
            intro j hj
            rcases (show j = k ∨ j < k from by omega) with rfl | h
            · rw [HXY.out.1, HXY.out.2, he]
            · exact HD.out.1 j h
          clear he
          go_wp2
          go_roundw
          case rel => exact ⟨k + 1, by omega, by go_num, HS.out, HD.out.2.1.drew, HD.out.2.2.1.drew, HD.out.2.2.2.drew⟩
          case measure => simp [intOf]; omega
        · rw [decide_eq_false he]
          have HN2 : Hid (decide (l = m) = false) := by
            refine decide_eq_false (fun h => he ?_)
            have h1 := HXY.out.1
            rw [h, HXY.out.2] at h1
            exact (Option.some.inj h1).symm
          clear he
          go_wp2
          go_ret
          exact ⟨by rw [HN2.out]; rfl, HD.out.2.2.2.drew⟩
      · have hkk : k = n := by omega
        have hge : ¬ ((k : Int) < (n : Int)) := by omega
        have HE : Hid (l = m) := by
          show _ = _
          apply List.ext_getElem?
          intro j
          by_cases hj : j < k
          · exact HD.out.1 j hj
          · rw [List.getElem?_eq_none (by have := HL.out.2.2; have := HN.out; omega), List.getElem?_eq_none (by have := HN.out; omega)]
        clear hkk hlt
        go_wp2
        go_ret
        exact ⟨by rw [decide_eq_true HE.out]; rfl, HD.out.2.2.2⟩
  · have e : decide (l = m) = false := decide_eq_false (fun h => hn (by rw [h]))
    have hb : ((l.length : Int) != (m.length : Int)) = true := by simpa using (by omega : ¬ (l.length : Int) = (m.length : Int))
    have hb2 : ¬ (l.length : Int) = (m.length : Int) := by omega
    rw [e]
    clear e hn hl hm
    go_enter Tryd.func31, Tryd.ntmps31
    go_wp2
    go_ret
    exact ⟨rfl, Below.refl _ _⟩


theorem lent_any (sa : Option Addr) (ca : Nat) (l : List At) (w : World) (hl : Ats w sa ca l) (h1 : (l.length + 1 : Int) * 32 ≤ 140737488355328) :
    Calls Tryd.prog 6 #[.slice sa l.length ca] w fun e w' => (∃ v, e = .returned v ∧ w'.ownsRow w.heap.size 45 2 v l.length (atL l)) ∧ Below w.heap.size w w' := by
  have HL : Hid (Lie w sa l) := hl.lie
  have HB : Hid ((0 + l.length) * 32 ≤ 140737488355328) := by show _ ≤ _; omega
  clear hl
  go_enter Tryd.func6, Tryd.ntmps6
  go_wp2_with (at_builtin; (refine wpList_append_ats rfl (.tmp 4) (.tmp 5) rfl w.heap.size (.slice none 0 0) 0 [] rfl (World.ownsRow_nil _ _ _ _) sa ca l.length l rfl rfl HL.out HB.out (Nat.le_refl _) ?_; intro v9 w9 ho9 hg9; (have HO9 : Hid (w9.ownsRow w.heap.size 45 2 v9 (0 + l.length) ([] ++ atL l) ∧ w.grownBy w9 (Value.slice none 0 0).ownBlock) := ⟨ho9, hg9⟩); clear ho9 hg9))
  go_ret
  have hg := HO9.out.2
  have ho := HO9.out.1
  rw [Nat.zero_add, List.nil_append] at ho
  exact ⟨⟨_, rfl, ho⟩, ⟨hg.os, hg.tape, hg.output, hg.size, fun q hq => hg.block q hq (by simp [Value.ownBlock])⟩⟩
theorem make_can (l : List At) (h : ∀ x ∈ l, Can x) : ∀ x ∈ (makeI l).1, Can x := by
  intro x hx
  unfold makeI at hx
  repeat' split at hx
  all_goals first | (simp at hx; done) | exact h x ((srt_perm l).mem_iff.1 hx)
theorem make_le (l : List At) : (makeI l).1.length ≤ 16 := by
  unfold makeI
  repeat' split
  all_goals first | (simp; done) | (rw [srt_len]; omega)
theorem right_any (sa : Option Addr) (ca : Nat) (l : List At) (w : World) (hl : Ats w sa ca l) (h1 : (l.length : Int) ≤ 140737488351232) (hT : Tabs w) :
    Calls Tryd.prog 10 #[.slice sa l.length ca] w fun e w' => e = .returned (.int .i64 (rightI l)) ∧ Below w.heap.size w w' := by
  have HM : Hid (Calls Tryd.prog 7 #[.slice sa l.length ca] w fun e w' => (∃ v, e = .returned (.tuple #[v, .int .i64 (makeI l).2]) ∧ w'.ownsRow w.heap.size 45 2 v (makeI l).1.length (atL (makeI l).1)) ∧ Below w.heap.size w w') := make_any sa ca l w hl h1 hT
  have HL : Hid (Ats w sa ca l) := hl
  have HQ : Hid (∀ v W, W.ownsRow w.heap.size 45 2 v (makeI l).1.length (atL (makeI l).1) → Below w.heap.size w W → Calls Tryd.prog 31 #[v, .slice sa l.length ca] W fun e w' => e = .returned (.bool (decide ((makeI l).1 = l))) ∧ Below w.heap.size w w') := by
    intro v W ho hb
    obtain ⟨so, co, e4, hA⟩ := own_ats ho (make_can l HL.out.can)
    rw [e4]
    exact (equal_any so sa co ca _ l W hA (HL.out.later hb) (by have := make_le l; omega) h1).mono fun e w' ⟨g1, g2⟩ => ⟨g1, hb.trans (g2.mono hb.size)⟩
  have HE : Hid (rightI l = if (makeI l).2 = 0 then (if (makeI l).1 = l then 0 else 3) else (makeI l).2) := rfl
  generalize makeI l = M at HM HQ HE
  obtain ⟨ml, me⟩ := M
  rw [HE.out]
  clear hl hT HE
  simp only at HM HQ ⊢
  by_cases he : me = 0
  · subst he
    by_cases hq : ml = l
    · rw [decide_eq_true hq] at HQ
      rw [if_pos rfl, if_pos hq]
      clear hq
      go_enter Tryd.func10, Tryd.ntmps10
      go_wp2_with (first | (go_at_call 7; refine HM.out.mono ?_; rintro e w1 ⟨⟨v1, rfl, ho⟩, hb⟩; (have HO : Hid (w1.ownsRow w.heap.size 45 2 v1 ml.length (atL ml) ∧ Below w.heap.size w w1) := ⟨ho, hb⟩); clear ho hb) | (go_at_call 31; refine (HQ.out v1 w1 HO.out.1 HO.out.2).mono ?_; rintro e w2 ⟨rfl, hb⟩; (have HB2 : Hid (Below w.heap.size w w2) := hb); clear hb))
      go_ret
      exact ⟨rfl, HB2.out⟩
    · rw [decide_eq_false hq] at HQ
      rw [if_pos rfl, if_neg hq]
      clear hq
      go_enter Tryd.func10, Tryd.ntmps10
      go_wp2_with (first | (go_at_call 7; refine HM.out.mono ?_; rintro e w1 ⟨⟨v1, rfl, ho⟩, hb⟩; (have HO : Hid (w1.ownsRow w.heap.size 45 2 v1 ml.length (atL ml) ∧ Below w.heap.size w w1) := ⟨ho, hb⟩); clear ho hb) | (go_at_call 31; refine (HQ.out v1 w1 HO.out.1 HO.out.2).mono ?_; rintro e w2 ⟨rfl, hb⟩; (have HB2 : Hid (Below w.heap.size w w2) := hb); clear hb))
      go_ret
      exact ⟨rfl, HB2.out⟩
  · rw [if_neg he]
    have hb0 : (me == 0) = false := by simpa using he
    clear hb0
    go_enter Tryd.func10, Tryd.ntmps10
    go_wp2_with (go_at_call 7; refine HM.out.mono ?_; rintro e w1 ⟨⟨v1, rfl, ho⟩, hb⟩; (have HO : Hid (w1.ownsRow w.heap.size 45 2 v1 ml.length (atL ml) ∧ Below w.heap.size w w1) := ⟨ho, hb⟩); clear ho hb)
    go_ret
    exact ⟨rfl, HO.out.2⟩
theorem rright_any (sa : Option Addr) (ca : Nat) (l : List At) (w : World) (hl : Ats w sa ca l) (h1 : (l.length : Int) ≤ 140737488351232) :
    Calls Tryd.prog 11 #[.slice sa l.length ca] w fun e w' => e = .returned (.int .i64 (rightI l)) ∧ Below w.heap.size w w' := by
  have HM : Hid (Calls Tryd.prog 8 #[.slice sa l.length ca] w fun e w' => (∃ v, e = .returned (.tuple #[v, .int .i64 (makeI l).2]) ∧ w'.ownsRow w.heap.size 45 2 v (makeI l).1.length (atL (makeI l).1)) ∧ Below w.heap.size w w') := rmake_any sa ca l w hl h1
  have HL : Hid (Ats w sa ca l) := hl
  have HQ : Hid (∀ v W, W.ownsRow w.heap.size 45 2 v (makeI l).1.length (atL (makeI l).1) → Below w.heap.size w W → Calls Tryd.prog 9 #[v, .slice sa l.length ca] W fun e w' => e = .returned (.bool (decide ((makeI l).1 = l))) ∧ Below w.heap.size w w') := by
    intro v W ho hb
    obtain ⟨so, co, e4, hA⟩ := own_ats ho (make_can l HL.out.can)
    rw [e4]
    exact (same_any so sa co ca _ l W hA (HL.out.later hb) (by have := make_le l; omega) h1).mono fun e w' ⟨g1, g2⟩ => ⟨g1, hb.trans (g2.mono hb.size)⟩
  have HE : Hid (rightI l = if (makeI l).2 = 0 then (if (makeI l).1 = l then 0 else 3) else (makeI l).2) := rfl
  generalize makeI l = M at HM HQ HE
  obtain ⟨ml, me⟩ := M
  rw [HE.out]
  clear hl HE
  simp only at HM HQ ⊢
  by_cases he : me = 0
  · subst he
    by_cases hq : ml = l
    · rw [decide_eq_true hq] at HQ
      rw [if_pos rfl, if_pos hq]
      clear hq
      go_enter Tryd.func11, Tryd.ntmps11
      go_wp2_with (first | (go_at_call 8; refine HM.out.mono ?_; rintro e w1 ⟨⟨v1, rfl, ho⟩, hb⟩; (have HO : Hid (w1.ownsRow w.heap.size 45 2 v1 ml.length (atL ml) ∧ Below w.heap.size w w1) := ⟨ho, hb⟩); clear ho hb) | (go_at_call 9; refine (HQ.out v1 w1 HO.out.1 HO.out.2).mono ?_; rintro e w2 ⟨rfl, hb⟩; (have HB2 : Hid (Below w.heap.size w w2) := hb); clear hb))
      go_ret
      exact ⟨rfl, HB2.out⟩
    · rw [decide_eq_false hq] at HQ
      rw [if_pos rfl, if_neg hq]
      clear hq
      go_enter Tryd.func11, Tryd.ntmps11
      go_wp2_with (first | (go_at_call 8; refine HM.out.mono ?_; rintro e w1 ⟨⟨v1, rfl, ho⟩, hb⟩; (have HO : Hid (w1.ownsRow w.heap.size 45 2 v1 ml.length (atL ml) ∧ Below w.heap.size w w1) := ⟨ho, hb⟩); clear ho hb) | (go_at_call 9; refine (HQ.out v1 w1 HO.out.1 HO.out.2).mono ?_; rintro e w2 ⟨rfl, hb⟩; (have HB2 : Hid (Below w.heap.size w w2) := hb); clear hb))
      go_ret
      exact ⟨rfl, HB2.out⟩
  · rw [if_neg he]
    have hb0 : (me == 0) = false := by simpa using he
    go_enter Tryd.func11, Tryd.ntmps11
    go_wp2_with (go_at_call 8; refine HM.out.mono ?_; rintro e w1 ⟨⟨v1, rfl, ho⟩, hb⟩; (have HO : Hid (w1.ownsRow w.heap.size 45 2 v1 ml.length (atL ml) ∧ Below w.heap.size w w1) := ⟨ho, hb⟩); clear ho hb)
    go_ret
    exact ⟨rfl, HO.out.2⟩
end Go.Proofs.YtnfocmoieofbpaaDoor
