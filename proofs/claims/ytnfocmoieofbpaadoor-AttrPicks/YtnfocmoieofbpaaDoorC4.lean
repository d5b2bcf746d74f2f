/- Lists of attributes compared: the model's walk. -/
import Derived.Test.YtnfocmoieofbpaaDoorC3
namespace Go.Proofs.YtnfocmoieofbpaaDoor
open Go.RowKit
set_option linter.unusedVariables false
set_option linter.unusedSimpArgs false

set_option maxRecDepth 20000 in
set_option maxHeartbeats 8000000 in
theorem rcmp_any (sa sb : Option Addr) (ca cb : Nat) (l m : List At) (w : World) (hl : Ats w sa ca l) (hm : Ats w sb cb m) (h1 : (l.length : Int) ≤ 140737488351232) (h2 : (m.length : Int) ≤ 140737488351232) :
    Calls Tryd.prog 25 #[.slice sa l.length ca, .slice sb m.length cb] w fun e w' => e = .returned (.int .i64 (cmpI l m)) ∧ Below w.heap.size w w' := by
  have HL : Hid (Ats w sa ca l ∧ Ats w sb cb m) := ⟨hl, hm⟩
  obtain ⟨n1, hn1⟩ : ∃ n, l.length = n := ⟨_, rfl⟩
  obtain ⟨n2, hn2⟩ : ∃ n, m.length = n := ⟨_, rfl⟩
  have ca' : (n1 : Int) ≤ (ca : Int) := by have := hl.cap; omega
  have cb' : (n2 : Int) ≤ (cb : Int) := by have := hm.cap; omega
  have HN : Hid (l.length = n1 ∧ m.length = n2) := ⟨hn1, hn2⟩
  rw [hn1] at h1 ⊢
  rw [hn2] at h2 ⊢
  clear hn1 hn2 hl hm
  have HF : Hid (∀ k, (∀ j, j < k → l[j]? = m[j]?) → k ≤ n1 → k ≤ n2 → (k = n1 ∨ k = n2) → cmpI l m = if n1 < n2 then -1 else if n2 < n1 then 1 else 0) := by
    intro k a1 a2 a3 a4
    have e1 := HN.out.1
    have e2 := HN.out.2
    rw [cmp_end l m k a1 (by omega) (by omega) (by omega), e1, e2]
  go_enter Tryd.func25, Tryd.ntmps25
  go_wp2
  go_loopw [5] (fun i wr => ∃ (k : Nat), k ≤ n1 ∧ k ≤ n2 ∧ i = .int .i64 k ∧ (∀ j, j < k → l[j]? = m[j]?) ∧ Ats wr sa ca l ∧ Ats wr sb cb m ∧ Below w.heap.size w wr) (fun i _ => n1 - (intOf i).toNat)
  case atStart => exact ⟨0, Nat.zero_le _, Nat.zero_le _, rfl, fun j hj => by omega, HL.out.1, HL.out.2, Below.refl _ _⟩
  case round =>
    obtain ⟨k, hk, hk2, rfl, hD, a1, a2, a3⟩ := hrel
    have HD : Hid ((∀ j, j < k → l[j]? = m[j]?) ∧ Ats wr sa ca l ∧ Ats wr sb cb m ∧ Below w.heap.size w wr) := ⟨hD, a1, a2, a3⟩
    clear hD a1 a2 a3
    by_cases hlt : k < n1 ∧ k < n2
    · obtain ⟨x, hx⟩ : ∃ x, l[k]? = some x := ⟨_, List.getElem?_eq_getElem (by have := HN.out.1; omega)⟩
      obtain ⟨y, hy⟩ : ∃ y, m[k]? = some y := ⟨_, List.getElem?_eq_getElem (by have := HN.out.2; omega)⟩
      obtain ⟨b, o, hsa, x0, x1⟩ := HD.out.2.1.cells k x hx
      obtain ⟨d, p, hsb, y0, y1⟩ := HD.out.2.2.1.cells k y hy
      subst hsa
      subst hsb
      have HXY : Hid (l[k]? = some x ∧ m[k]? = some y) := ⟨hx, hy⟩
      have hlt1 : (k : Int) < (n1 : Int) := by omega
      have hlt2 : (k : Int) < (n2 : Int) := by omega
      have k0 : (0 : Int) ≤ (k : Int) := by omega
      clear hx hy
      by_cases g1 : Op.bytesLess x.1 y.1 = true
      · have HE : Hid (cmpI l m = -1) := by
          show _ = _
          rw [cmp_at k l m x y HXY.out.1 HXY.out.2 HD.out.1 (fun e => by rw [e, bl_irrefl] at g1; cases g1)]
          have : csI x.1 y.1 = -1 := by unfold csI; rw [if_pos g1]
          rw [this]; rfl
        have f1 : Op.bytesLess (tx x.1).toList (tx y.1).toList = true := by rw [tx_list, tx_list]; exact g1
        clear g1
        have x0_4 : wr.drew.cell? ⟨b, o + k * 2, none⟩ = some (.string (tx x.1)) := x0
        have x1_4 : wr.drew.cell? ⟨b, o + k * 2 + 1, none⟩ = some (.string (tx x.2)) := x1
        have y0_4 : wr.drew.cell? ⟨d, p + k * 2, none⟩ = some (.string (tx y.1)) := y0
        have y1_4 : wr.drew.cell? ⟨d, p + k * 2 + 1, none⟩ = some (.string (tx y.2)) := y1
        go_upto_region 4 with fail
        refine wp_region_still_lit (by kernel_rfl) (by kernel_rfl) (still_of_quiet _ _ ?_)
        rw [show ({ wr with drawn := wr.drawn + 1 } : World) = wr.drew from rfl]
        repeat (first | go_big_quiet_skip | (go_big_quiet_want; go_big_quiet_op; go_big_quiet_on))
        refine wpQuiet_nil ?_
        clear x0_4 x1_4 y0_4 y1_4
        go_wp2
        go_ret
        exact ⟨by rw [HE.out]; rfl, HD.out.2.2.2.drew⟩
      · have f1 : Op.bytesLess (tx x.1).toList (tx y.1).toList = false := by rw [tx_list, tx_list]; simpa using g1
        by_cases g2 : x.1 = y.1
        · have f2 : ((tx x.1).toList == (tx y.1).toList) = true := by rw [tx_list, tx_list, g2]; simp
          have HX1 : Hid (csI x.1 y.1 = 0 ∧ x.1 = y.1) := ⟨by rw [g2, cs_self], g2⟩
          clear g1 g2
          by_cases g3 : Op.bytesLess x.2 y.2 = true
          · have HE : Hid (cmpI l m = -1) := by
              show _ = _
              rw [cmp_at k l m x y HXY.out.1 HXY.out.2 HD.out.1 (fun e => by rw [e, bl_irrefl] at g3; cases g3), if_pos HX1.out.1]
              unfold csI; rw [if_pos g3]
            have f3 : Op.bytesLess (tx x.2).toList (tx y.2).toList = true := by rw [tx_list, tx_list]; exact g3
            clear g3
            have x0_4 : wr.drew.cell? ⟨b, o + k * 2, none⟩ = some (.string (tx x.1)) := x0
            have x1_4 : wr.drew.cell? ⟨b, o + k * 2 + 1, none⟩ = some (.string (tx x.2)) := x1
            have y0_4 : wr.drew.cell? ⟨d, p + k * 2, none⟩ = some (.string (tx y.1)) := y0
            have y1_4 : wr.drew.cell? ⟨d, p + k * 2 + 1, none⟩ = some (.string (tx y.2)) := y1
            go_upto_region 4 with fail
            refine wp_region_still_lit (by kernel_rfl) (by kernel_rfl) (still_of_quiet _ _ ?_)
            rw [show ({ wr with drawn := wr.drawn + 1 } : World) = wr.drew from rfl]
            repeat (first | go_big_quiet_skip | (go_big_quiet_want; go_big_quiet_op; go_big_quiet_on))
            refine wpQuiet_nil ?_
            clear x0_4 x1_4 y0_4 y1_4
            have x0_6 : wr.drew.drew.cell? ⟨b, o + k * 2, none⟩ = some (.string (tx x.1)) := x0
            have x1_6 : wr.drew.drew.cell? ⟨b, o + k * 2 + 1, none⟩ = some (.string (tx x.2)) := x1
            have y0_6 : wr.drew.drew.cell? ⟨d, p + k * 2, none⟩ = some (.string (tx y.1)) := y0
            have y1_6 : wr.drew.drew.cell? ⟨d, p + k * 2 + 1, none⟩ = some (.string (tx y.2)) := y1
            go_upto_region 6 with fail
            refine wp_region_still_lit (by kernel_rfl) (by kernel_rfl) (still_of_quiet _ _ ?_)
            rw [show ({ wr.drew with drawn := wr.drew.drawn + 1 } : World) = wr.drew.drew from rfl]
            repeat (first | go_big_quiet_skip | (go_big_quiet_want; go_big_quiet_op; go_big_quiet_on))
            refine wpQuiet_nil ?_
            clear x0_6 x1_6 y0_6 y1_6
            have x0_8 : wr.drew.drew.drew.cell? ⟨b, o + k * 2, none⟩ = some (.string (tx x.1)) := x0
            have x1_8 : wr.drew.drew.drew.cell? ⟨b, o + k * 2 + 1, none⟩ = some (.string (tx x.2)) := x1
            have y0_8 : wr.drew.drew.drew.cell? ⟨d, p + k * 2, none⟩ = some (.string (tx y.1)) := y0
            have y1_8 : wr.drew.drew.drew.cell? ⟨d, p + k * 2 + 1, none⟩ = some (.string (tx y.2)) := y1
            go_upto_region 8 with fail
            refine wp_region_still_lit (by kernel_rfl) (by kernel_rfl) (still_of_quiet _ _ ?_)
            rw [show ({ wr.drew.drew with drawn := wr.drew.drew.drawn + 1 } : World) = wr.drew.drew.drew from rfl]
            repeat (first | go_big_quiet_skip | (go_big_quiet_want; go_big_quiet_op; go_big_quiet_on))
            refine wpQuiet_nil ?_
            clear x0_8 x1_8 y0_8 y1_8
            go_wp2
            go_ret
            exact ⟨by rw [HE.out]; rfl, HD.out.2.2.2.drew.drew.drew⟩
          · have f3 : Op.bytesLess (tx x.2).toList (tx y.2).toList = false := by rw [tx_list, tx_list]; simpa using g3
            by_cases g4 : x.2 = y.2
            · have f4 : ((tx x.2).toList == (tx y.2).toList) = true := by rw [tx_list, tx_list, g4]; simp
              have HS : Hid (∀ j, j < k + 1 → l[j]? = m[j]?) := by
                intro j hj
                rcases (show j = k ∨ j < k from by omega) with rfl | h
                · rw [HXY.out.1, HXY.out.2, Prod.ext HX1.out.2 g4]
                · exact HD.out.1 j h
              clear g3 g4
              have x0_4 : wr.drew.cell? ⟨b, o + k * 2, none⟩ = some (.string (tx x.1)) := x0
              have x1_4 : wr.drew.cell? ⟨b, o + k * 2 + 1, none⟩ = some (.string (tx x.2)) := x1
              have y0_4 : wr.drew.cell? ⟨d, p + k * 2, none⟩ = some (.string (tx y.1)) := y0
              have y1_4 : wr.drew.cell? ⟨d, p + k * 2 + 1, none⟩ = some (.string (tx y.2)) := y1
              go_upto_region 4 with fail
              refine wp_region_still_lit (by kernel_rfl) (by kernel_rfl) (still_of_quiet _ _ ?_)
              rw [show ({ wr with drawn := wr.drawn + 1 } : World) = wr.drew from rfl]
              repeat (first | go_big_quiet_skip | (go_big_quiet_want; go_big_quiet_op; go_big_quiet_on))
              refine wpQuiet_nil ?_
              clear x0_4 x1_4 y0_4 y1_4
              have x0_6 : wr.drew.drew.cell? ⟨b, o + k * 2, none⟩ = some (.string (tx x.1)) := x0
              have x1_6 : wr.drew.drew.cell? ⟨b, o + k * 2 + 1, none⟩ = some (.string (tx x.2)) := x1
              have y0_6 : wr.drew.drew.cell? ⟨d, p + k * 2, none⟩ = some (.string (tx y.1)) := y0
              have y1_6 : wr.drew.drew.cell? ⟨d, p + k * 2 + 1, none⟩ = some (.string (tx y.2)) := y1
              go_upto_region 6 with fail
              refine wp_region_still_lit (by kernel_rfl) (by kernel_rfl) (still_of_quiet _ _ ?_)
              rw [show ({ wr.drew with drawn := wr.drew.drawn + 1 } : World) = wr.drew.drew from rfl]
              repeat (first | go_big_quiet_skip | (go_big_quiet_want; go_big_quiet_op; go_big_quiet_on))
              refine wpQuiet_nil ?_
              clear x0_6 x1_6 y0_6 y1_6
              have x0_8 : wr.drew.drew.drew.cell? ⟨b, o + k * 2, none⟩ = some (.string (tx x.1)) := x0
              have x1_8 : wr.drew.drew.drew.cell? ⟨b, o + k * 2 + 1, none⟩ = some (.string (tx x.2)) := x1
              have y0_8 : wr.drew.drew.drew.cell? ⟨d, p + k * 2, none⟩ = some (.string (tx y.1)) := y0
              have y1_8 : wr.drew.drew.drew.cell? ⟨d, p + k * 2 + 1, none⟩ = some (.string (tx y.2)) := y1
              go_upto_region 8 with fail
              refine wp_region_still_lit (by kernel_rfl) (by kernel_rfl) (still_of_quiet _ _ ?_)
              rw [show ({ wr.drew.drew with drawn := wr.drew.drew.drawn + 1 } : World) = wr.drew.drew.drew from rfl]
              repeat (first | go_big_quiet_skip | (go_big_quiet_want; go_big_quiet_op; go_big_quiet_on))
              refine wpQuiet_nil ?_
              clear x0_8 x1_8 y0_8 y1_8
              have x0_10 : wr.drew.drew.drew.drew.cell? ⟨b, o + k * 2, none⟩ = some (.string (tx x.1)) := x0
              have x1_10 : wr.drew.drew.drew.drew.cell? ⟨b, o + k * 2 + 1, none⟩ = some (.string (tx x.2)) := x1
              have y0_10 : wr.drew.drew.drew.drew.cell? ⟨d, p + k * 2, none⟩ = some (.string (tx y.1)) := y0
              have y1_10 : wr.drew.drew.drew.drew.cell? ⟨d, p + k * 2 + 1, none⟩ = some (.string (tx y.2)) := y1
              go_upto_region 10 with fail
              refine wp_region_still_lit (by kernel_rfl) (by kernel_rfl) (still_of_quiet _ _ ?_)
              rw [show ({ wr.drew.drew.drew with drawn := wr.drew.drew.drew.drawn + 1 } : World) = wr.drew.drew.drew.drew from rfl]
              repeat (first | go_big_quiet_skip | (go_big_quiet_want; go_big_quiet_op; go_big_quiet_on))
              refine wpQuiet_nil ?_
              clear x0_10 x1_10 y0_10 y1_10
              go_wp2
              go_roundw
              case rel => exact ⟨k + 1, by omega, by omega, by go_num, HS.out, HD.out.2.1.drew.drew.drew.drew, HD.out.2.2.1.drew.drew.drew.drew, HD.out.2.2.2.drew.drew.drew.drew⟩
              case measure => simp [intOf]; omega
            · have f4 : ((tx x.2).toList == (tx y.2).toList) = false := by rw [tx_list, tx_list]; simpa using g4
              have HE : Hid (cmpI l m = 1) := by
                show _ = _
                rw [cmp_at k l m x y HXY.out.1 HXY.out.2 HD.out.1 (fun e => g4 (by rw [e])), if_pos HX1.out.1]
                unfold csI; rw [if_neg g3, if_neg g4]
              clear g3 g4
              have x0_4 : wr.drew.cell? ⟨b, o + k * 2, none⟩ = some (.string (tx x.1)) := x0
              have x1_4 : wr.drew.cell? ⟨b, o + k * 2 + 1, none⟩ = some (.string (tx x.2)) := x1
              have y0_4 : wr.drew.cell? ⟨d, p + k * 2, none⟩ = some (.string (tx y.1)) := y0
              have y1_4 : wr.drew.cell? ⟨d, p + k * 2 + 1, none⟩ = some (.string (tx y.2)) := y1
              go_upto_region 4 with fail
              refine wp_region_still_lit (by kernel_rfl) (by kernel_rfl) (still_of_quiet _ _ ?_)
              rw [show ({ wr with drawn := wr.drawn + 1 } : World) = wr.drew from rfl]
              repeat (first | go_big_quiet_skip | (go_big_quiet_want; go_big_quiet_op; go_big_quiet_on))
              refine wpQuiet_nil ?_
              clear x0_4 x1_4 y0_4 y1_4
              have x0_6 : wr.drew.drew.cell? ⟨b, o + k * 2, none⟩ = some (.string (tx x.1)) := x0
              have x1_6 : wr.drew.drew.cell? ⟨b, o + k * 2 + 1, none⟩ = some (.string (tx x.2)) := x1
              have y0_6 : wr.drew.drew.cell? ⟨d, p + k * 2, none⟩ = some (.string (tx y.1)) := y0
              have y1_6 : wr.drew.drew.cell? ⟨d, p + k * 2 + 1, none⟩ = some (.string (tx y.2)) := y1
              go_upto_region 6 with fail
              refine wp_region_still_lit (by kernel_rfl) (by kernel_rfl) (still_of_quiet _ _ ?_)
              rw [show ({ wr.drew with drawn := wr.drew.drawn + 1 } : World) = wr.drew.drew from rfl]
              repeat (first | go_big_quiet_skip | (go_big_quiet_want; go_big_quiet_op; go_big_quiet_on))
              refine wpQuiet_nil ?_
              clear x0_6 x1_6 y0_6 y1_6
              have x0_8 : wr.drew.drew.drew.cell? ⟨b, o + k * 2, none⟩ = some (.string (tx x.1)) := x0
              have x1_8 : wr.drew.drew.drew.cell? ⟨b, o + k * 2 + 1, none⟩ = some (.string (tx x.2)) := x1
              have y0_8 : wr.drew.drew.drew.cell? ⟨d, p + k * 2, none⟩ = some (.string (tx y.1)) := y0
              have y1_8 : wr.drew.drew.drew.cell? ⟨d, p + k * 2 + 1, none⟩ = some (.string (tx y.2)) := y1
              go_upto_region 8 with fail
              refine wp_region_still_lit (by kernel_rfl) (by kernel_rfl) (still_of_quiet _ _ ?_)
              rw [show ({ wr.drew.drew with drawn := wr.drew.drew.drawn + 1 } : World) = wr.drew.drew.drew from rfl]
              repeat (first | go_big_quiet_skip | (go_big_quiet_want; go_big_quiet_op; go_big_quiet_on))
              refine wpQuiet_nil ?_
              clear x0_8 x1_8 y0_8 y1_8
              have x0_10 : wr.drew.drew.drew.drew.cell? ⟨b, o + k * 2, none⟩ = some (.string (tx x.1)) := x0
              have x1_10 : wr.drew.drew.drew.drew.cell? ⟨b, o + k * 2 + 1, none⟩ = some (.string (tx x.2)) := x1
              have y0_10 : wr.drew.drew.drew.drew.cell? ⟨d, p + k * 2, none⟩ = some (.string (tx y.1)) := y0
              have y1_10 : wr.drew.drew.drew.drew.cell? ⟨d, p + k * 2 + 1, none⟩ = some (.string (tx y.2)) := y1
              go_upto_region 10 with fail
              refine wp_region_still_lit (by kernel_rfl) (by kernel_rfl) (still_of_quiet _ _ ?_)
              rw [show ({ wr.drew.drew.drew with drawn := wr.drew.drew.drew.drawn + 1 } : World) = wr.drew.drew.drew.drew from rfl]
              repeat (first | go_big_quiet_skip | (go_big_quiet_want; go_big_quiet_op; go_big_quiet_on))
              refine wpQuiet_nil ?_
              clear x0_10 x1_10 y0_10 y1_10
              go_wp2
              go_ret
              exact ⟨by rw [HE.out]; rfl, HD.out.2.2.2.drew.drew.drew.drew⟩
        · have f2 : ((tx x.1).toList == (tx y.1).toList) = false := by rw [tx_list, tx_list]; simpa using g2
          have HE : Hid (cmpI l m = 1) := by
            show _ = _
            have : csI x.1 y.1 = 1 := by unfold csI; rw [if_neg g1, if_neg g2]
            rw [cmp_at k l m x y HXY.out.1 HXY.out.2 HD.out.1 (fun e => g2 (by rw [e])), this]; rfl
          clear g1 g2
          have x0_4 : wr.drew.cell? ⟨b, o + k * 2, none⟩ = some (.string (tx x.1)) := x0
          have x1_4 : wr.drew.cell? ⟨b, o + k * 2 + 1, none⟩ = some (.string (tx x.2)) := x1
          have y0_4 : wr.drew.cell? ⟨d, p + k * 2, none⟩ = some (.string (tx y.1)) := y0
          have y1_4 : wr.drew.cell? ⟨d, p + k * 2 + 1, none⟩ = some (.string (tx y.2)) := y1
          go_upto_region 4 with fail
          refine wp_region_still_lit (by kernel_rfl) (by kernel_rfl) (still_of_quiet _ _ ?_)
          rw [show ({ wr with drawn := wr.drawn + 1 } : World) = wr.drew from rfl]
          repeat (first | go_big_quiet_skip | (go_big_quiet_want; go_big_quiet_op; go_big_quiet_on))
          refine wpQuiet_nil ?_
          clear x0_4 x1_4 y0_4 y1_4
          have x0_6 : wr.drew.drew.cell? ⟨b, o + k * 2, none⟩ = some (.string (tx x.1)) := x0
          have x1_6 : wr.drew.drew.cell? ⟨b, o + k * 2 + 1, none⟩ = some (.string (tx x.2)) := x1
          have y0_6 : wr.drew.drew.cell? ⟨d, p + k * 2, none⟩ = some (.string (tx y.1)) := y0
          have y1_6 : wr.drew.drew.cell? ⟨d, p + k * 2 + 1, none⟩ = some (.string (tx y.2)) := y1
          go_upto_region 6 with fail
          refine wp_region_still_lit (by kernel_rfl) (by kernel_rfl) (still_of_quiet _ _ ?_)
          rw [show ({ wr.drew with drawn := wr.drew.drawn + 1 } : World) = wr.drew.drew from rfl]
          repeat (first | go_big_quiet_skip | (go_big_quiet_want; go_big_quiet_op; go_big_quiet_on))
          refine wpQuiet_nil ?_
          clear x0_6 x1_6 y0_6 y1_6
          go_wp2
          go_ret
          exact ⟨by rw [HE.out]; rfl, HD.out.2.2.2.drew.drew⟩
    · have HE : Hid (cmpI l m = if n1 < n2 then -1 else if n2 < n1 then 1 else 0) := HF.out k HD.out.1 hk hk2 (by omega)
      rcases (show n1 < n2 ∨ n2 < n1 ∨ n1 = n2 from by omega) with c | c | c
      · rw [if_pos c] at HE
        have b1 : (n1 : Int) < (n2 : Int) := by omega
        have b2 : ¬ (k : Int) < (n1 : Int) := by omega
        clear hlt c
        go_wp2
        go_ret
        exact ⟨by rw [HE.out]; rfl, HD.out.2.2.2⟩
      · rw [if_neg (by omega), if_pos c] at HE
        have b1 : (n2 : Int) < (n1 : Int) := by omega
        have b3 : ¬ (n1 : Int) < (n2 : Int) := by omega
        have b2 : ¬ (k : Int) < (n2 : Int) := by omega
        have b4 : (k : Int) < (n1 : Int) := by omega
        clear hlt c
        go_wp2
        go_ret
        exact ⟨by rw [HE.out]; rfl, HD.out.2.2.2⟩
      · rw [if_neg (by omega), if_neg (by omega)] at HE
        subst c
        have b2 : ¬ (k : Int) < (n1 : Int) := by omega
        clear hlt
        go_wp2
        go_ret
        exact ⟨by rw [HE.out]; rfl, HD.out.2.2.2⟩
end Go.Proofs.YtnfocmoieofbpaaDoor
