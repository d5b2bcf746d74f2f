/- Attributes made a set. -/
import Derived.Test.YtgmpmpgfpchbcaaGreatDoorR3
namespace Go.Proofs.YtgmpmpgfpchbcaaGreatDoor
open Go.RowKit Go.Shelf
set_option linter.unusedVariables false
set_option linter.unusedSimpArgs false

theorem values_any (sa : Option Addr) (n ca : Nat) (w : World) : Calls Tryz.prog 33 #[.slice sa n ca] w fun e w' => e = .returned (.func (.func 58) #[] #[.pointer (some ⟨w.heap.size, 0, none⟩)]) ∧ w' = w.alloc (.cells #[.slice sa n ca] 22) := by
  go_enter Tryz.func33, Tryz.ntmps33
  go_wp2
  go_ret
  exact ⟨rfl, rfl⟩
theorem pairs_any (sa : Option Addr) (n ca : Nat) (w : World) : Calls Tryz.prog 20 #[.slice sa n ca] w fun e w' => e = .returned (.func (.func 39) #[] #[.pointer (some ⟨w.heap.size, 0, none⟩)]) ∧ w' = w.alloc (.cells #[.slice sa n ca] 22) := by
  go_enter Tryz.func20, Tryz.ntmps20
  go_wp2
  go_ret
  exact ⟨rfl, rfl⟩
theorem collect_any (Bs cap : Nat) (sa : Option Addr) (ds : List At) (w : World) (hsm : (ds.length + 1 : Int) * 32 ≤ 140737488355328) (hBs : Bs < w.heap.size) (hc : w.cell? ⟨Bs, 0, none⟩ = some (.slice sa ds.length cap)) (hcap : ds.length ≤ cap) (hl : Lie w sa ds) :
    Calls Tryz.prog 56 #[.func (.func 58) #[] #[.pointer (some ⟨Bs, 0, none⟩)]] w fun e w' => (∃ v, e = .returned v ∧ w'.ownsRow w.heap.size 44 2 v ds.length (atL ds)) ∧ Below w.heap.size w w' := by
  have HA : Hid (Calls Tryz.prog 71 #[.slice none 0 0, .func (.func 58) #[] #[.pointer (some ⟨Bs, 0, none⟩)]] w fun e w' => (∃ v, e = .returned v ∧ w'.ownsRow w.heap.size 44 2 v ds.length (atL ds)) ∧ Below w.heap.size w w') := appendSeq_any Bs cap sa ds w hsm hBs hc hcap hl
  clear hc hl
  go_enter Tryz.func56, Tryz.ntmps56
  go_wp2_with (go_at_call 71; refine HA.out.mono ?_; rintro e w1 ⟨⟨v1, rfl, ho⟩, hb⟩; (have HO : Hid (w1.ownsRow w.heap.size 44 2 v1 ds.length (atL ds) ∧ Below w.heap.size w w1) := ⟨ho, hb⟩); clear ho hb)
  go_ret
  exact ⟨⟨_, rfl, HO.out.1⟩, HO.out.2⟩
theorem sorted_any (Bs cap : Nat) (sa : Option Addr) (ds : List At) (w : World) (hsm : (ds.length + 1 : Int) * 32 ≤ 140737488355328) (hBs : Bs < w.heap.size) (hc : w.cell? ⟨Bs, 0, none⟩ = some (.slice sa ds.length cap)) (hcap : ds.length ≤ cap) (hl : Lie w sa ds) :
    Calls Tryz.prog 32 #[.func (.func 58) #[] #[.pointer (some ⟨Bs, 0, none⟩)], .func (.func 34) #[] #[]] w fun e w' => (∃ v d, e = .returned v ∧ List.Perm d ds ∧ Srt d ∧ w'.ownsRow w.heap.size 44 2 v d.length (atL d)) ∧ Below w.heap.size w w' := by
  have HA : Hid (Calls Tryz.prog 56 #[.func (.func 58) #[] #[.pointer (some ⟨Bs, 0, none⟩)]] w fun e w' => (∃ v, e = .returned v ∧ w'.ownsRow w.heap.size 44 2 v ds.length (atL ds)) ∧ Below w.heap.size w w') := collect_any Bs cap sa ds w hsm hBs hc hcap hl
  have HS : Hid (∀ v W, W.ownsRow w.heap.size 44 2 v ds.length (atL ds) → Calls Tryz.prog 57 #[v, .func (.func 34) #[] #[]] W fun e w' => e = .returned (.tuple #[]) ∧ ∃ d : List At, d.Perm ds ∧ Srt d ∧ w'.ownsRow w.heap.size 44 2 v d.length (atL d) ∧ W.grownBy w' v.ownBlock) := fun v W h => sort_any w.heap.size v ds W h (by omega)
  clear hc hl
  go_enter Tryz.func32, Tryz.ntmps32
  go_wp2_with (first | (go_at_call 56; refine HA.out.mono ?_; rintro e w1 ⟨⟨v1, rfl, ho⟩, hb⟩; (have HO : Hid (w1.ownsRow w.heap.size 44 2 v1 ds.length (atL ds) ∧ Below w.heap.size w w1) := ⟨ho, hb⟩); clear ho hb) | (go_at_call 57; refine (HS.out v1 w1 HO.out.1).mono ?_; rintro e w2 ⟨rfl, d, hp, hs, ho2, hg⟩; (have HO2 : Hid (List.Perm d ds ∧ Srt d ∧ w2.ownsRow w.heap.size 44 2 v1 d.length (atL d) ∧ w1.grownBy w2 v1.ownBlock) := ⟨hp, hs, ho2, hg⟩); clear hp hs ho2 hg))
  go_ret
  have hg := HO2.out.2.2.2
  exact ⟨⟨_, d, rfl, HO2.out.1, HO2.out.2.1, HO2.out.2.2.1⟩, HO.out.2.trans ⟨hg.os, hg.tape, hg.output, hg.size, fun q hq => hg.block q (Nat.lt_of_lt_of_le hq HO.out.2.size) (fun e => by have := (HO.out.1.lt q e.symm).1; omega)⟩⟩
set_option maxRecDepth 20000 in
set_option maxHeartbeats 8000000 in
theorem make_any (sa : Option Addr) (ca : Nat) (l : List At) (w : World) (hl : Ats w sa ca l) (h1 : (l.length : Int) ≤ 140737488351232) (hT : Tabs w) :
    Calls Tryz.prog 17 #[.slice sa l.length ca] w fun e w' => (∃ v, e = .returned (.tuple #[v, .int .i64 (makeI l).2]) ∧ w'.ownsRow w.heap.size 44 2 v (makeI l).1.length (atL (makeI l).1)) ∧ Below w.heap.size w w' := by
  have HL : Hid (Ats w sa ca l ∧ Tabs w) := ⟨hl, hT⟩
  obtain ⟨n, hn⟩ : ∃ n, l.length = n := ⟨_, rfl⟩
  have HN : Hid (l.length = n) := hn
  have ca' : (n : Int) ≤ (ca : Int) := by have := hl.cap; omega
  rw [hn] at h1 ⊢
  by_cases hb : 16 < n
  · have hbz : (16 : Int) < (n : Int) := by omega
    have HE : makeI l = ([], 7) := by unfold makeI; rw [if_pos (by rw [hn]; exact hb)]
    rw [HE]
    clear HE hl hn hb hT
    go_enter Tryz.func17, Tryz.ntmps17
    go_wp2_with fail
    go_ret2
    exact ⟨⟨_, rfl, World.ownsRow_nil _ _ _ _⟩, Below.refl _ _⟩
  · have hbz : ¬ (16 : Int) < (n : Int) := by omega
    have H16 : Hid (¬ 16 < l.length) := by show ¬ _; rw [hn]; exact hb
    have hn16 : (n : Int) ≤ 16 := by omega
    clear hl hn hb hT
    go_enter Tryz.func17, Tryz.ntmps17
    go_wp2_with fail
    go_loopw [14] (fun i wr => ∃ k : Nat, k ≤ n ∧ i = .int .i64 (k : Int) ∧ (∀ j x, j < k → l[j]? = some x → raI x = 0) ∧ Below w.heap.size w wr) (fun i wr => n - (intOf i).toNat)
    case atStart => exact ⟨0, by omega, rfl, fun j x h => by omega, Below.refl _ _⟩
    case round =>
      obtain ⟨k, hk, rfl, hgood, hbel⟩ := hrel
      obtain ⟨W1, rfl⟩ : ∃ W1, W1 = wr := ⟨_, rfl⟩
      have HR : Hid ((∀ j x, j < k → l[j]? = some x → raI x = 0) ∧ Below w.heap.size w W1) := ⟨hgood, hbel⟩
      clear hgood hbel
      by_cases hlt : k < n
      · obtain ⟨x, hx⟩ : ∃ x, l[k]? = some x := ⟨_, List.getElem?_eq_getElem (by have := HN.out; omega)⟩
        obtain ⟨b, o, hsa, x0, x1⟩ := (HL.out.1.later HR.out.2).cells k x hx
        subst hsa
        have HX : Hid (l[k]? = some x ∧ Can x) := ⟨hx, HL.out.1.can x (List.mem_of_getElem? hx)⟩
        have hlt' : (k : Int) < (n : Int) := by omega
        have k0 : (0 : Int) ≤ (k : Int) := by omega
        have hb2 : Below W1.heap.size W1 (W1.alloc (.cells #[.string (tx x.1), .string (tx x.2)] 44)) := bel1 _ _
        have HBB : Hid (Below w.heap.size w (W1.alloc (.cells #[.string (tx x.1), .string (tx x.2)] 44))) := HR.out.2.trans (hb2.mono HR.out.2.size)
        have HC : Hid (Calls Tryz.prog 31 #[.agg #[.string (tx x.1), .string (tx x.2)]] (W1.alloc (.cells #[.string (tx x.1), .string (tx x.2)] 44)) fun e w' => e = .returned (.int .i64 (raI x)) ∧ Below w.heap.size w w') := (right_at x _ HX.out.2 ((HL.out.2.later HR.out.2).later hb2)).mono fun e w' ⟨g1, g2⟩ => ⟨g1, HBB.out.trans (g2.mono HBB.out.size)⟩
        clear hx hb2
        by_cases hra : raI x = 0
        · rw [hra] at HC
          have HRA : Hid (raI x = 0) := hra
          clear hra
          go_wp2_with (go_at_call 31; refine HC.out.mono ?_; rintro e w9 ⟨rfl, hb9⟩; (have HB9 : Hid (Below w.heap.size w w9) := hb9); clear hb9)
          go_roundw
          case rel =>
            refine ⟨k + 1, by omega, by go_num, fun j z hj hz => ?_, HB9.out⟩
            rcases (show j = k ∨ j < k from by omega) with rfl | hj'
            · rw [HX.out.1] at hz; rw [← Option.some.inj hz]; exact HRA.out
            · exact HR.out.1 j z hj' hz
          case measure => simp [intOf]; omega
        · have HE : Hid (makeI l = ([], raI x)) := make_bad l k x H16.out HX.out.1 HR.out.1 hra
          have hrb : (raI x == 0) = false := by simpa using hra
          clear hrb
          go_wp2_with (go_at_call 31; refine HC.out.mono ?_; rintro e w9 ⟨rfl, hb9⟩; (have HB9 : Hid (Below w.heap.size w w9) := hb9); clear hb9)
          go_ret2
          exact ⟨⟨_, by rw [HE.out]; rfl, by rw [HE.out]; exact World.ownsRow_nil _ _ _ _⟩, HB9.out⟩
      · have hge : ¬ ((k : Int) < (n : Int)) := by omega
        have hkn : k = n := by omega
        subst hkn
        clear hlt
        have HGD : Hid (makeI l = if twI (srtI l) = true then ([], 6) else (srtI l, 0)) := make_good l H16.out (fun j x hj hx => HR.out.1 j x (by have := HN.out; omega) hx)
        have hbv : Below W1.heap.size W1 (W1.alloc (.cells #[.slice sa k ca] 22)) := bel1 _ _
        have HBV : Hid (Below w.heap.size w (W1.alloc (.cells #[.slice sa k ca] 22))) := HR.out.2.trans (hbv.mono HR.out.2.size)
        have HS : Hid (Calls Tryz.prog 32 #[.func (.func 58) #[] #[.pointer (some ⟨W1.heap.size, 0, none⟩)], .func (.func 34) #[] #[]] (W1.alloc (.cells #[.slice sa k ca] 22)) fun e w' => (∃ v d, e = .returned v ∧ List.Perm d l ∧ Srt d ∧ w'.ownsRow w.heap.size 44 2 v d.length (atL d)) ∧ Below w.heap.size w w') := by
          have hA := (HL.out.1.later HBV.out)
          refine (sorted_any W1.heap.size ca sa l _ (by have := HN.out; omega) (by simp) ?_ (by have := hA.cap; exact this) hA.lie).mono ?_
          · rw [HN.out]; exact (Boxed.new W1 22 (.slice sa k ca)).cell
          · rintro e w' ⟨⟨v, d, g1, g2, g3, g4⟩, g5⟩
            exact ⟨⟨v, d, g1, g2, g3, own_low g4 HBV.out.size⟩, HBV.out.trans (g5.mono HBV.out.size)⟩
        have HVL : Hid (Calls Tryz.prog 33 #[.slice sa k ca] W1 fun e w' => e = .returned (.func (.func 58) #[] #[.pointer (some ⟨W1.heap.size, 0, none⟩)]) ∧ w' = W1.alloc (.cells #[.slice sa k ca] 22)) := values_any _ _ _ _
        clear hbv
        go_wp2_with (first | (go_at_call 33; refine HVL.out.mono ?_; rintro e w9 ⟨rfl, hw9⟩; rw [hw9]; clear hw9) | (go_at_call 32; refine HS.out.mono ?_; rintro e w2 ⟨⟨v2, d, rfl, hp, hs, ho2⟩, hg⟩; (have HO2 : Hid (List.Perm d l ∧ Srt d ∧ w2.ownsRow w.heap.size 44 2 v2 d.length (atL d) ∧ Below w.heap.size w w2) := ⟨hp, hs, ho2, hg⟩); (obtain ⟨so, co, e4, hA⟩ := own_ats (l := d) ho2 (fun y hy => HL.out.1.can y (hp.mem_iff.1 hy))); subst e4; (have HA : Hid (Ats w2 so co d) := hA); (have hdl : d.length = k := hp.length_eq.trans HN.out); (have HDL : Hid (d.length = k) := hdl); rw [hdl]; (have hco : (k : Int) ≤ (co : Int) := by have := hA.cap; omega); clear hp hs ho2 hg hA hdl))
        obtain ⟨W2, rfl⟩ : ∃ W2, W2 = w2 := ⟨_, rfl⟩
        have HUN : Hid (twI d = twI (srtI l) ∧ (twI d = false → d = srtI l)) := srt_one l d HO2.out.1 HO2.out.2.1
        go_loopw [8] (fun v8 wr => ∃ p : Nat, (p + 1 ≤ k ∨ p = 0) ∧ v8 = .int .i64 ((p : Int) + 1) ∧ (∀ i x y, i < p → d[i]? = some x → d[i + 1]? = some y → y.1 ≠ x.1) ∧ Below W2.heap.size W2 wr) (fun v8 wr => k + 1 - (intOf v8).toNat)
        case atStart => exact ⟨0, .inr rfl, rfl, fun i x y h => by omega, Below.refl _ _⟩
        case round =>
          obtain ⟨p, hp, rfl, hne, hb2⟩ := hrel
          have HB2 : Hid ((∀ i x y, i < p → d[i]? = some x → d[i + 1]? = some y → y.1 ≠ x.1) ∧ Below W2.heap.size W2 wr) := ⟨hne, hb2⟩
          clear hne hb2
          by_cases hlt : p + 1 < k
          · obtain ⟨x, hx⟩ : ∃ x, d[p]? = some x := ⟨_, List.getElem?_eq_getElem (by have := HDL.out; omega)⟩
            obtain ⟨y, hy⟩ : ∃ y, d[p + 1]? = some y := ⟨_, List.getElem?_eq_getElem (by have := HDL.out; omega)⟩
            obtain ⟨g, o, hso, x0, _⟩ := HA.out.cells p x hx
            obtain ⟨g', o', hso', y0, _⟩ := HA.out.cells (p + 1) y hy
            subst hso
            cases hso'
            have HGW : Hid (g < W2.heap.size) := World.block_lt_of_cell? W2 _ x0
            have x0' : wr.drew.cell? ⟨g, o + p * 2, none⟩ = some (.string (tx x.1)) := (HB2.out.2.cell (p := ⟨g, o + p * 2, none⟩) HGW.out).trans x0
            have y0' : wr.drew.cell? ⟨g, o + (p + 1) * 2, none⟩ = some (.string (tx y.1)) := (HB2.out.2.cell (p := ⟨g, o + (p + 1) * 2, none⟩) HGW.out).trans y0
            have HXY : Hid (d[p]? = some x ∧ d[p + 1]? = some y) := ⟨hx, hy⟩
            have p1 : (p : Int) + 1 < (k : Int) := by omega
            have p2 : (p : Int) < (k : Int) := by omega
            have p3 : (0 : Int) ≤ (p : Int) := by omega
            have p4 : (0 : Int) ≤ (p : Int) + 1 := by omega
            clear hx hy x0 y0
            by_cases he : y.1 = x.1
            · have f2 : ((tx y.1).toList == (tx x.1).toList) = true := by rw [tx_list, tx_list, he]; simp
              have HE : Hid (makeI l = ([], 6)) := by show _ = _; rw [HGD.out, ← HUN.out.1, if_pos (tw_at d p x y HXY.out.1 HXY.out.2 he)]
              clear he
              go_upto_region 14 with fail
              refine wp_region_still_lit (by kernel_rfl) (by kernel_rfl) (still_of_quiet _ _ ?_)
              rw [show ({ wr with drawn := wr.drawn + 1 } : World) = wr.drew from rfl]
              repeat (first | go_big_quiet_skip | (go_big_quiet_want; go_big_quiet_op; go_big_quiet_on))
              refine wpQuiet_nil ?_
              go_wp2_with fail
              go_ret2
              exact ⟨⟨_, by rw [HE.out]; rfl, by rw [HE.out]; exact World.ownsRow_nil _ _ _ _⟩, HO2.out.2.2.2.trans ((HB2.out.2.drew).mono HO2.out.2.2.2.size)⟩
            · have f2 : ((tx y.1).toList == (tx x.1).toList) = false := by rw [tx_list, tx_list]; simpa using he
              have f3 : ¬ (tx y.1).toList = (tx x.1).toList := by rw [tx_list, tx_list]; exact he
              have HE : Hid (¬ y.1 = x.1) := he
              clear he
              go_upto_region 14 with fail
              refine wp_region_still_lit (by kernel_rfl) (by kernel_rfl) (still_of_quiet _ _ ?_)
              rw [show ({ wr with drawn := wr.drawn + 1 } : World) = wr.drew from rfl]
              repeat (first | go_big_quiet_skip | (go_big_quiet_want; go_big_quiet_op; go_big_quiet_on))
              refine wpQuiet_nil ?_
              go_wp2_with fail
              go_roundw
              case rel =>
                refine ⟨p + 1, by omega, by go_num, fun i a c hi ha hc => ?_, HB2.out.2.drew⟩
                rcases (show i = p ∨ i < p from by omega) with rfl | hi'
                · rw [HXY.out.1] at ha; rw [HXY.out.2] at hc; rw [← Option.some.inj ha, ← Option.some.inj hc]; exact HE.out
                · exact HB2.out.1 i a c hi' ha hc
              case measure => simp [intOf]; omega
          · have hge2 : ¬ ((p : Int) + 1 < (k : Int)) := by omega
            have HTW : Hid (twI d = false) := tw_no d (fun i a c ha hc => HB2.out.1 i a c (by have := (List.getElem?_eq_some_iff.1 hc).1; have := HDL.out; omega) ha hc)
            have HE : Hid (makeI l = (d, 0)) := by
              show _ = _
              rw [HGD.out, ← HUN.out.1, HTW.out, if_neg (by decide), HUN.out.2 HTW.out]
            clear hlt
            go_wp2_with fail
            go_ret2
            refine ⟨⟨_, by rw [HE.out]; rfl, ?_⟩, HO2.out.2.2.2.trans ((HB2.out.2).mono HO2.out.2.2.2.size)⟩
            rw [HE.out]
            show World.ownsRow _ _ _ _ _ d.length _
            have ho := HO2.out.2.2.1
            rw [HDL.out] at ho ⊢
            exact own_at ho fun z hz => HB2.out.2.block z (ho.lt z hz).2
end Go.Proofs.YtgmpmpgfpchbcaaGreatDoor
