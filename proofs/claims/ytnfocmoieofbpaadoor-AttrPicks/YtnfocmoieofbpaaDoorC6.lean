/- Lists of attributes compared: Cmp. -/
import Derived.Test.YtnfocmoieofbpaaDoorC5
namespace Go.Proofs.YtnfocmoieofbpaaDoor
open Go.RowKit
set_option linter.unusedVariables false
set_option linter.unusedSimpArgs false

set_option maxRecDepth 20000 in
set_option maxHeartbeats 8000000 in
theorem cmp_any (sa sb : Option Addr) (ca cb : Nat) (l m : List At) (w : World) (hl : Ats w sa ca l) (hm : Ats w sb cb m) (h1 : (l.length : Int) ≤ 140737488351232) (h2 : (m.length : Int) ≤ 140737488351232) :
    Calls Tryd.prog 24 #[.slice sa l.length ca, .slice sb m.length cb] w fun e w' => e = .returned (.int .i64 (cmpI l m)) ∧ Below w.heap.size w w' := by
  have HL : Hid (Ats w sa ca l ∧ Ats w sb cb m) := ⟨hl, hm⟩
  obtain ⟨n1, hn1⟩ : ∃ n, l.length = n := ⟨_, rfl⟩
  obtain ⟨n2, hn2⟩ : ∃ n, m.length = n := ⟨_, rfl⟩
  have ca' : (n1 : Int) ≤ (ca : Int) := by have := hl.cap; omega
  have cb' : (n2 : Int) ≤ (cb : Int) := by have := hm.cap; omega
  have HN : Hid (l.length = n1 ∧ m.length = n2) := ⟨hn1, hn2⟩
  rw [hn1] at h1 ⊢
  rw [hn2] at h2 ⊢
  clear hn1 hn2 hl hm
  have HF : Hid (∀ k, (∀ j, j < k → l[j]? = m[j]?) → k ≤ n1 → k ≤ n2 → (k = n1 ∨ k = n2) → cmpI l m = ciI (n1 : Int) (n2 : Int)) := by
    intro k a1 a2 a3 a4
    have e1 := HN.out.1
    have e2 := HN.out.2
    rw [cmp_end l m k a1 (by omega) (by omega) (by omega), e1, e2]
    unfold ciI
    rcases (show n1 < n2 ∨ n2 < n1 ∨ n1 = n2 from by omega) with c | c | c
    · rw [if_pos c, if_pos (by omega)]
    · rw [if_neg (by omega), if_pos c, if_neg (by omega), if_pos (by omega)]
    · rw [if_neg (by omega), if_neg (by omega), if_neg (by omega), if_neg (by omega)]
  have HCI : Hid (∀ W, Calls Tryd.prog 41 #[.int .i64 (n1 : Int), .int .i64 (n2 : Int)] W fun e w' => e = .returned (.int .i64 (ciI (n1 : Int) (n2 : Int))) ∧ w' = W) := fun W => comparei_any _ _ W
  obtain ⟨q, hq⟩ : ∃ q : Nat, min n1 n2 = q := ⟨_, rfl⟩
  have hqi : min (n1 : Int) (n2 : Int) = (q : Int) := by omega
  go_enter Tryd.func24, Tryd.ntmps24
  go_wp2
  have HQ : Hid (q ≤ n1 ∧ q ≤ n2 ∧ (q = n1 ∨ q = n2)) := by show _ ∧ _; omega
  clear hq hqi
  go_loopw [11] (fun i wr => ∃ (k : Nat), k ≤ q ∧ i = .int .i64 k ∧ (∀ j, j < k → l[j]? = m[j]?) ∧ Ats wr sa ca l ∧ Ats wr sb cb m ∧ Below w.heap.size w wr) (fun i _ => q - (intOf i).toNat)
  case atStart => exact ⟨0, Nat.zero_le _, rfl, fun j hj => by omega, HL.out.1, HL.out.2, Below.refl _ _⟩
  case round =>
    obtain ⟨k, hk, rfl, hD, a1, a2, a3⟩ := hrel
    have HD : Hid ((∀ j, j < k → l[j]? = m[j]?) ∧ Ats wr sa ca l ∧ Ats wr sb cb m ∧ Below w.heap.size w wr) := ⟨hD, a1, a2, a3⟩
    clear hD a1 a2 a3
    by_cases hlt : k < q
    · obtain ⟨x, hx⟩ : ∃ x, l[k]? = some x := ⟨_, List.getElem?_eq_getElem (by have := HN.out.1; have := HQ.out; omega)⟩
      obtain ⟨y, hy⟩ : ∃ y, m[k]? = some y := ⟨_, List.getElem?_eq_getElem (by have := HN.out.2; have := HQ.out; omega)⟩
      obtain ⟨b, o, hsa, x0, x1⟩ := HD.out.2.1.cells k x hx
      obtain ⟨d, p, hsb, y0, y1⟩ := HD.out.2.2.1.cells k y hy
      subst hsa
      subst hsb
      have HX : Hid ((loadVar 45 ⟨b, o + k * 2, none⟩).run Tryd.prog wr.drew = .ok (.agg #[.string (tx x.1), .string (tx x.2)]) wr.drew) := load45 (w := wr.drew) x0 x1
      have HY : Hid ((loadVar 45 ⟨d, p + k * 2, none⟩).run Tryd.prog wr.drew = .ok (.agg #[.string (tx y.1), .string (tx y.2)]) wr.drew) := load45 (w := wr.drew) y0 y1
      have hq := eqAt x y (HL.out.1.can x (List.mem_of_getElem? hx)) (HL.out.2.can y (List.mem_of_getElem? hy))
      have HXY : Hid (l[k]? = some x ∧ m[k]? = some y) := ⟨hx, hy⟩
      have hlt0 : (k : Int) < (q : Int) := by omega
      have hlt1 : (k : Int) < (n1 : Int) := by have := HQ.out; omega
      have hlt2 : (k : Int) < (n2 : Int) := by have := HQ.out; omega
      have k0 : (0 : Int) ≤ (k : Int) := by omega
      have HKS : Hid (wr.cell? ⟨b, o + k * 2, none⟩ = some (.string (tx x.1)) ∧ wr.cell? ⟨b, o + k * 2 + 1, none⟩ = some (.string (tx x.2)) ∧ wr.cell? ⟨d, p + k * 2, none⟩ = some (.string (tx y.1)) ∧ wr.cell? ⟨d, p + k * 2 + 1, none⟩ = some (.string (tx y.2))) := ⟨x0, x1, y0, y1⟩
      have HBB : Hid (b < wr.heap.size ∧ d < wr.heap.size) := ⟨World.block_lt_of_cell? wr _ x0, World.block_lt_of_cell? wr _ y0⟩
      clear hx hy x0 x1 y0 y1
      go_upto_region 4 with fail
      refine wp_region_still_lit (by kernel_rfl) (by kernel_rfl) (still_of_quiet _ _ ?_)
      rw [show ({ wr with drawn := wr.drawn + 1 } : World) = wr.drew from rfl]
      repeat (first | go_big_quiet_skip | (go_big_quiet_want; go_big_quiet_op; go_big_quiet_on))
      (go_big_quiet_want; refine quiet_loadV 45 _ rfl ⟨b, o + k * 2, none⟩ rfl _ HX.out ?_; go_big_quiet_on)
      simp only [Act.put, List.setIfInBounds_toArray, List.set_cons_succ, List.set_cons_zero]
      repeat (first | go_big_quiet_skip | (go_big_quiet_want; go_big_quiet_op; go_big_quiet_on))
      (go_big_quiet_want; refine quiet_loadV 45 _ rfl ⟨d, p + k * 2, none⟩ rfl _ HY.out ?_; go_big_quiet_on)
      simp only [Act.put, List.setIfInBounds_toArray, List.set_cons_succ, List.set_cons_zero]
      (go_big_quiet_want; refine quiet_neqAt _ _ rfl _ _ rfl rfl (decide (x = y)) (hq _) ?_; go_big_quiet_on)
      simp only [Act.put, List.setIfInBounds_toArray, List.set_cons_succ, List.set_cons_zero]
      refine wpQuiet_nil ?_
      clear hq HX HY
      by_cases he : x = y
      · rw [decide_eq_true he]
        have HS : Hid (∀ j, j < k + 1 → l[j]? = m[j]?) := by
          intro j hj
          rcases (show j = k ∨ j < k from by omega) with rfl | h
          · rw [HXY.out.1, HXY.out.2, he]
          · exact HD.out.1 j h
        clear he
        go_wp2
        go_roundw
        case rel => exact ⟨k + 1, by omega, by go_num, HS.out, HD.out.2.1.drew, HD.out.2.2.1.drew, HD.out.2.2.2.drew⟩
        case measure => simp [intOf]; omega
      · rw [decide_eq_false he]
        have HE : Hid (cmpI l m = orI (csI x.1 y.1) (csI x.2 y.2)) := cmp_at k l m x y HXY.out.1 HXY.out.2 HD.out.1 he
        clear he
        obtain ⟨W1, hW1⟩ : ∃ W1, wr.drew = W1 := ⟨_, rfl⟩
        have HK1 : Hid (W1.drew.cell? ⟨b, o + k * 2, none⟩ = some (.string (tx x.1)) ∧ W1.drew.cell? ⟨b, o + k * 2 + 1, none⟩ = some (.string (tx x.2)) ∧ W1.drew.cell? ⟨d, p + k * 2, none⟩ = some (.string (tx y.1)) ∧ W1.drew.cell? ⟨d, p + k * 2 + 1, none⟩ = some (.string (tx y.2))) := by rw [← hW1]; exact HKS.out
        have HB1 : Hid (Below w.heap.size w W1 ∧ b < W1.heap.size ∧ d < W1.heap.size) := by rw [← hW1]; exact ⟨HD.out.2.2.2.drew, HBB.out⟩
        have HBY : Hid (∀ W, Calls Tryd.prog 30 #[.agg #[.string (tx x.1), .string (tx x.2)], .agg #[.string (tx y.1), .string (tx y.2)]] W fun e w' => e = .returned (.int .i64 (csI x.1 y.1)) ∧ Below W.heap.size W w') := fun W => byKey_any _ _ _ _ W
        have HCM : Hid (∀ W, Calls Tryd.prog 40 #[.string (tx x.2), .string (tx y.2)] W fun e w' => e = .returned (.int .i64 (csI x.2 y.2)) ∧ w' = W) := fun W => compare_any _ _ W
        have HOR : Hid (∀ W g, W.cell? ⟨g, 0, none⟩ = some (.int .i64 (csI x.1 y.1)) → W.cell? ⟨g, 1, none⟩ = some (.int .i64 (csI x.2 y.2)) → Calls Tryd.prog 39 #[.slice (some ⟨g, 0, none⟩) 2 2] W fun e w' => e = .returned (.int .i64 (orI (csI x.1 y.1) (csI x.2 y.2))) ∧ w' = W) := fun W g a b => or_any g _ _ W a b
        rw [hW1]
        have z0 := HK1.out.1
        have z1 := HK1.out.2.1
        have z2 := HK1.out.2.2.1
        have z3 := HK1.out.2.2.2
        clear hW1
        go_upto_region 5 with fail
        go_region_held3 (fun w' => w'.cell? ⟨b, o + k * 2, none⟩ = some (.string (tx x.1)) ∧ w'.cell? ⟨b, o + k * 2 + 1, none⟩ = some (.string (tx x.2)) ∧ w'.cell? ⟨d, p + k * 2, none⟩ = some (.string (tx y.1)) ∧ w'.cell? ⟨d, p + k * 2 + 1, none⟩ = some (.string (tx y.2))) (first | go_keep | exact K8) (first | (go_at_call 30; refine (HBY.out _).mono ?_; rintro e w8 ⟨rfl, hb8⟩; (have K8 : w8.cell? ⟨b, o + k * 2, none⟩ = some (.string (tx x.1)) ∧ w8.cell? ⟨b, o + k * 2 + 1, none⟩ = some (.string (tx x.2)) ∧ w8.cell? ⟨d, p + k * 2, none⟩ = some (.string (tx y.1)) ∧ w8.cell? ⟨d, p + k * 2 + 1, none⟩ = some (.string (tx y.2)) := ⟨(hb8.cell (p := ⟨b, o + k * 2, none⟩) HB1.out.2.1).trans HK1.out.1, (hb8.cell (p := ⟨b, o + k * 2 + 1, none⟩) HB1.out.2.1).trans HK1.out.2.1, (hb8.cell (p := ⟨d, p + k * 2, none⟩) HB1.out.2.2).trans HK1.out.2.2.1, (hb8.cell (p := ⟨d, p + k * 2 + 1, none⟩) HB1.out.2.2).trans HK1.out.2.2.2⟩); (have HB8 : Hid (Below w.heap.size w w8) := HB1.out.1.drew.trans (hb8.mono (by have := HB1.out.1.size; exact this))); clear hb8) | (go_at_call 40; refine (HCM.out _).mono ?_; rintro e w9 ⟨rfl, hw9⟩; rw [hw9]; clear hw9) | (go_at_call 39; refine (HOR.out _ _ (by simp [cell_of_row _ _ _ _ _ _ (Go.heap_alloc_new _ _)]) (by simp [cell_of_row _ _ _ _ _ _ (Go.heap_alloc_new _ _)])).mono ?_; rintro e w9 ⟨rfl, hw9⟩; rw [hw9]; clear hw9))
        go_wp2
        go_ret
        exact ⟨by rw [HE.out]; rfl, HB8.out.alloc HB8.out.size _⟩
    · have hkk : k = q := by omega
      have hge : ¬ ((k : Int) < (q : Int)) := by omega
      have HE : Hid (cmpI l m = ciI (n1 : Int) (n2 : Int)) := HF.out k HD.out.1 (by have := HQ.out; omega) (by have := HQ.out; omega) (by have := HQ.out; omega)
      clear hkk hlt
      go_wp2_with (go_at_call 41; refine (HCI.out _).mono ?_; rintro e w9 ⟨rfl, hw9⟩; rw [hw9]; clear hw9)
      go_ret
      exact ⟨by rw [HE.out]; rfl, HD.out.2.2.2⟩
end Go.Proofs.YtnfocmoieofbpaaDoor
