/- CachePlays: the law. -/
import Derived.Test.YtbcdaddbcjagjaaVd
import Derived.Test.YtbcdaddbcjagjaaPc
import Derived.Deep.CutBlock
import Derived.BigQuiet
namespace Go.Proofs.Ytbcdaddbcjagjaa
open Go.RowKit
set_option linter.unusedVariables false
set_option linter.unusedSimpArgs false

theorem ps_new {w w1 : World} {C : Nat} {F : Nat → Prop} {most : Int} (hC : CR w1 C F most (fun _ => []) fun _ => (0, 0)) (hF : ∀ q, F q → w.heap.size ≤ q) (hb : Below w.heap.size w w1) (h1 : 1 ≤ most) (h2 : most ≤ 64) : Calls Try.prog 16 #[.int .i64 most] w1 fun e w2 => ∃ R, e = .returned (.pointer (some ⟨R, 0, none⟩)) ∧ Hid (PS w w2 C R most [] [] []) := by
  refine (newM_some most h1 h2 w1).mono ?_
  rintro e w2 ⟨rfl, hM, hb2⟩
  have := hb.size
  refine ⟨_, rfl, ⟨F, w1.heap.size, _, _, hC.newer hb2, hM, hF, this, fun q hq e => ?_, fun p hp => by simp at hp⟩, hb.trans (hb2.mono this)⟩
  have h9 := hC.lt q hq
  have h8 := hM.low q e
  omega
theorem cok_nil : Cok 0 [] := fun x => ⟨Int.le_refl _, Int.le_refl _, Int.le_refl _, Int.le_refl _⟩
theorem cok_add {n : Int} {cs : List Cn} (h : Cok n cs) (s : List UInt8) : Cok n (addN s cs) := fun x => by rw [addN_same]; exact h x
set_option maxRecDepth 100000 in
set_option maxHeartbeats 16000000 in
theorem plays_law (most : Int) (sa : Option Addr) (len cap : Nat) (os : List OpF) (w : World) (hx : OpsAt w sa len cap os) (hl : (len : Int) ≤ 140737488351232) :
    Calls Try.prog 4 #[.int .i64 most, .slice sa len cap] w fun e w' => e = .returned (.bool true) ∧ Below w.heap.size w w' := by
  by_cases hm : 1 ≤ most ∧ most ≤ 64
  · have HX : Hid (OpsAt w sa len cap os) := hx
    have HM : Hid (1 ≤ most ∧ most ≤ 64) := hm
    have HNEW : Hid (Calls Try.prog 15 #[.int .i64 most] w fun e w' => ∃ C, e = .returned (.pointer (some ⟨C, 0, none⟩)) ∧ Hid (Calls Try.prog 16 #[.int .i64 most] w' fun e w2 => ∃ R, e = .returned (.pointer (some ⟨R, 0, none⟩)) ∧ Hid (PS w w2 C R most [] [] []))) := by
      refine (cnew_some most hm.1 hm.2 w).mono ?_
      rintro e w1 ⟨C, rfl, F, k1, k2, k3⟩
      exact ⟨C, rfl, ps_new k1 k2 k3 hm.1 hm.2⟩
    clear hx hm
    go_enter Try.func4, Try.ntmps4
    go_wp2_with (first | (go_at_call 15; refine HNEW.out.mono ?_; rintro e w1 ⟨C, rfl, H1⟩) | (go_at_call 16; refine H1.out.mono ?_; rintro e w2 ⟨R, rfl, H2⟩))
    clear HNEW H1
    go_loopw [7] (fun b wx => ∃ (i : Nat) (l : List An) (cs : List Cn), b = .int .i64 (i : Int) ∧ i ≤ 200 ∧ i ≤ len ∧ l.length ≤ i ∧ cs.length ≤ 2 * i ∧ Hid (Cok (i : Int) cs) ∧ Hid (PS w wx C R most l cs [])) (fun b wx => 200 - (intOf b).toNat)
    case atStart => exact ⟨0, [], [], rfl, by omega, by omega, by simp, by simp, cok_nil, H2⟩
    case round =>
      obtain ⟨i, l, cs, rfl, hi, hil, hll, hcl, HCO, H⟩ := hrel
      by_cases cl : i < len ∧ i < 200
      · have cl' : (i : Int) < (len : Int) := by omega
        have c2' : (i : Int) < 200 := by omega
        obtain ⟨o, hxx⟩ : ∃ o, os[i]? = some o := ⟨_, List.getElem?_eq_getElem (by have := HX.out.n; omega)⟩
        obtain ⟨b, off, e, hlt, y0, y1, y2, y3, y4⟩ := (HX.out.later H.out.bel (Nat.le_refl _)).l i o hxx
        subst e
        have hcap : (len : Int) ≤ (cap : Int) := by have := HX.out.c; omega
        obtain ⟨kind, nm, key, st, te⟩ := o
        dsimp only at y0 y1 y2 y3 y4
        have HB1 : Hid (PS w (wr.alloc (.cells #[.int .i64 kind, .string (tx nm), .string (tx key), .string (tx st), .string (tx te)] 39)) C R most l cs [(wr.heap.size, opO kind nm key st te)]) := PP.box H.out _
        obtain ⟨W1, hW1⟩ : ∃ W1, wr.alloc (.cells #[.int .i64 kind, .string (tx nm), .string (tx key), .string (tx st), .string (tx te)] 39) = W1 := ⟨_, rfl⟩
        rw [hW1] at HB1
        obtain ⟨p, hp⟩ : ∃ p, wr.heap.size = p := ⟨_, rfl⟩
        rw [hp] at HB1
        have HI : Hid (i < 200 ∧ i < len ∧ l.length ≤ i ∧ cs.length ≤ 2 * i) := by show _ ∧ _; omega
        have HST : Hid (Calls Try.prog 17 #[.pointer (some ⟨C, 0, none⟩), .pointer (some ⟨R, 0, none⟩), .agg #[.int .i64 kind, .string (tx nm), .string (tx key), .string (tx st), .string (tx te)]] W1.drew fun e w2 => e = .returned (.bool true) ∧ Hid (PN w w2 C R most l cs [(p, opO kind nm key st te)] (i : Int))) := PS.step (PP.newer HB1.out (drew_below W1)) (by omega) (by omega) HCO.out (by omega) kind nm key st te
        have HOP : Hid (∀ (V : World) (l2 : List An) (cs2 : List Cn), PS w V C R most l2 cs2 [(p, opO kind nm key st te)] → V.cell? ⟨p, 0, none⟩ = some (.int .i64 kind) ∧ V.cell? ⟨p, 1, none⟩ = some (.string (tx nm)) ∧ V.cell? ⟨p, 2, none⟩ = some (.string (tx key)) ∧ V.cell? ⟨p, 3, none⟩ = some (.string (tx st)) ∧ V.cell? ⟨p, 4, none⟩ = some (.string (tx te))) := fun V l2 cs2 hV => opO_cells (PP.at' hV List.mem_cons_self)
        obtain ⟨x0, x1, x2, x3, x4⟩ := HOP.out W1 l cs HB1.out
        clear hll hcl hi hil cl hlt hxx
        go_upto_region 9 with (fail)
        try rw [hp]
        clear hW1 hp y0 y1 y2 y3 y4
        go_cut [59] from 59 to 59 (fun c wx => c = .bool false ∧ Hid (PN w wx C R most l cs [(p, opO kind nm key st te)] (i : Int)))
        case first =>
          have HLS : Hid (∀ (V : World), PN w V C R most l cs [(p, opO kind nm key st te)] (i : Int) → ∃ r : Int, Hid (Calls Try.prog 18 #[.pointer (some ⟨C, 0, none⟩), .string (tx nm)] V fun e w2 => e = .returned (.int .i64 r) ∧ w2 = V) ∧ Hid (Calls Try.prog 19 #[.pointer (some ⟨R, 0, none⟩), .string (tx nm)] V fun e w2 => e = .returned (.int .i64 r) ∧ w2 = V) ∧ (V.cell? ⟨p, 0, none⟩ = some (.int .i64 kind) ∧ V.cell? ⟨p, 1, none⟩ = some (.string (tx nm)) ∧ V.cell? ⟨p, 2, none⟩ = some (.string (tx key)) ∧ V.cell? ⟨p, 3, none⟩ = some (.string (tx st)) ∧ V.cell? ⟨p, 4, none⟩ = some (.string (tx te)))) := fun V ⟨l2, cs2, k1, k2, k3, k4⟩ => ⟨_, k1.len nm, PP.mlen k1 (by have := HI.out; omega) nm, HOP.out V l2 cs2 k1⟩
          go_region_held3 (fun w' => w'.cell? ⟨p, 0, none⟩ = some (.int .i64 kind) ∧ w'.cell? ⟨p, 1, none⟩ = some (.string (tx nm)) ∧ w'.cell? ⟨p, 2, none⟩ = some (.string (tx key)) ∧ w'.cell? ⟨p, 3, none⟩ = some (.string (tx st)) ∧ w'.cell? ⟨p, 4, none⟩ = some (.string (tx te))) (first | exact K8 | go_keep) (first | (go_at_call 17; refine HST.out.mono ?_; rintro e w8 ⟨rfl, HM8⟩; obtain ⟨r, HL18, HL19, K8⟩ := HLS.out w8 HM8.out; clear HST) | (go_at_call 18; refine HL18.out.mono ?_; rintro e w9 ⟨rfl, hw9⟩; rw [hw9]; clear hw9) | (go_at_call 19; refine HL19.out.mono ?_; rintro e w9 ⟨rfl, hw9⟩; rw [hw9]; clear hw9))
          all_goals
            go_wp2_with fail
            go_meet
            exact ⟨rfl, HM8⟩
        obtain ⟨rfl, HPN⟩ := hcut
        obtain ⟨w3, hw3⟩ : ∃ w3, wc = w3 := ⟨_, rfl⟩
        rw [hw3] at HPN ⊢
        clear hw3 HST HB1 H x0 x1 x2 x3 x4
        obtain ⟨l2, cs2, k1, k2, k3, k4⟩ := HPN.out
        have H3 : Hid (PS w w3 C R most l2 cs2 [(p, opO kind nm key st te)]) := k1
        have HB3 : Hid (l2.length ≤ i + 1 ∧ cs2.length ≤ 2 * i + 1 ∧ Cok ((i : Int) + 1) cs2) := ⟨by have := HI.out; omega, by have := HI.out; omega, k4⟩
        clear k1 k2 k3 k4 HPN HCO
        obtain ⟨x0, x1, x2, x3, x4⟩ := HOP.out w3 l2 cs2 H3.out
        obtain ⟨⟨Hh, Mm⟩, hlk⟩ : ∃ q, lkN nm cs2 = q := ⟨_, rfl⟩
        have HCN : Hid (Calls Try.prog 20 #[.pointer (some ⟨C, 0, none⟩), .string (tx nm)] w3 fun e w4 => e = .returned (.agg #[.int .i64 Hh, .int .i64 Mm]) ∧ Hid (PS w w4 C R most l2 cs2 [(p, opO kind nm key st te)])) := by
          have := PS.count H3.out nm
          rw [hlk] at this
          exact this
        have HLK : Hid (lkN nm cs2 = (Hh, Mm)) := hlk
        clear hlk
        go_upto_region 12 with (go_at_call 20; refine HCN.out.mono ?_; rintro e w4 ⟨rfl, H4⟩)
        have H5 : Hid (PS w (w4.alloc (.cells #[.int .i64 Hh, .int .i64 Mm] 43)) C R most l2 cs2 [(w4.heap.size, .cells #[.int .i64 Hh, .int .i64 Mm] 43 (0, 0)), (p, opO kind nm key st te)]) := PP.box H4.out _
        obtain ⟨W5, hW5⟩ : ∃ W5, w4.alloc (.cells #[.int .i64 Hh, .int .i64 Mm] 43) = W5 := ⟨_, rfl⟩
        rw [hW5] at H5 ⊢
        obtain ⟨g1, hg1⟩ : ∃ g1, w4.heap.size = g1 := ⟨_, rfl⟩
        rw [hg1] at H5 ⊢
        clear hW5 hg1 x0 x1 x2 x3 x4 HCN H4 H3
        obtain ⟨x0, x1, x2, x3, x4⟩ := opO_cells (PP.at' H5.out (p := (p, opO kind nm key st te)) (by simp))
        have HMC : Hid (Calls Try.prog 21 #[.pointer (some ⟨R, 0, none⟩), .string (tx nm)] W5 fun e w6 => e = .returned (.agg #[.string (tx nm), .int .i64 Hh, .int .i64 Mm]) ∧ Hid (PS w w6 C R most l2 (addN nm cs2) [(g1, .cells #[.int .i64 Hh, .int .i64 Mm] 43 (0, 0)), (p, opO kind nm key st te)])) := by
          have := PS.mcount H5.out (by have := HB3.out; have := HI.out; omega) nm
          rw [HLK.out] at this
          exact this
        go_upto_region 13 with (go_at_call 21; refine HMC.out.mono ?_; rintro e w6 ⟨rfl, H6⟩)
        have H7 : Hid (PS w (w6.alloc (.cells #[.string (tx nm), .int .i64 Hh, .int .i64 Mm] 46)) C R most l2 (addN nm cs2) [(w6.heap.size, .cells #[.string (tx nm), .int .i64 Hh, .int .i64 Mm] 46 (0, 0)), (g1, .cells #[.int .i64 Hh, .int .i64 Mm] 43 (0, 0)), (p, opO kind nm key st te)]) := PP.box H6.out _
        obtain ⟨W7, hW7⟩ : ∃ W7, w6.alloc (.cells #[.string (tx nm), .int .i64 Hh, .int .i64 Mm] 46) = W7 := ⟨_, rfl⟩
        rw [hW7] at H7 ⊢
        obtain ⟨g2, hg2⟩ : ∃ g2, w6.heap.size = g2 := ⟨_, rfl⟩
        rw [hg2] at H7 ⊢
        have r1 : W7.heap[g1]? = some (.cells #[.int .i64 Hh, .int .i64 Mm] 43 (0, 0)) := PP.at' H7.out (p := (g1, .cells #[.int .i64 Hh, .int .i64 Mm] 43 (0, 0))) (by simp)
        have r2 : W7.heap[g2]? = some (.cells #[.string (tx nm), .int .i64 Hh, .int .i64 Mm] 46 (0, 0)) := PP.at' H7.out (p := (g2, .cells #[.string (tx nm), .int .i64 Hh, .int .i64 Mm] 46 (0, 0))) (by simp)
        have z0 : W7.cell? ⟨g1, 0, none⟩ = some (.int .i64 Hh) := by rw [cell_of_row _ _ _ _ _ _ r1]; rfl
        have z1 : W7.cell? ⟨g1, 1, none⟩ = some (.int .i64 Mm) := by rw [cell_of_row _ _ _ _ _ _ r1]; rfl
        have v1 : W7.cell? ⟨g2, 1, none⟩ = some (.int .i64 Hh) := by rw [cell_of_row _ _ _ _ _ _ r2]; rfl
        have v2 : W7.cell? ⟨g2, 2, none⟩ = some (.int .i64 Mm) := by rw [cell_of_row _ _ _ _ _ _ r2]; rfl
        clear r1 r2 hW7 hg2 x0 x1 x2 x3 x4 HMC H6 H5
        go_wp2_with fail
        go_roundw
        case rel => exact ⟨i + 1, l2, addN nm cs2, by go_num, by have := HI.out; omega, by have := HI.out; omega, HB3.out.1, by have := addN_len nm cs2; have := HB3.out; omega, cok_add (by have := HB3.out.2.2; exact this) nm, PP.less H7.out fun q hq => by simp at hq⟩
        case measure => have := HI.out; simp [intOf]; omega
      · have HE : Hid (PS w wr C R most l cs []) := H
        by_cases c1 : i < len
        · obtain rfl : i = 200 := by omega
          have c1' : ((200 : Nat) : Int) < (len : Int) := by omega
          rw [show ((200 : Nat) : Int) = 200 from rfl] at c1' ⊢
          clear cl c1 hi hil hll hcl
          go_wp2_with (go_at_call 9; refine (known_any _).mono ?_; rintro e w7 ⟨rfl, hb7⟩; (have HB7 : Hid (Below wr.heap.size wr w7) := hb7); clear hb7)
          go_ret
          exact ⟨rfl, HE.out.bel.trans (HB7.out.mono HE.out.bel.size)⟩
        · obtain rfl : i = len := by omega
          clear cl c1 hi hil hll hcl
          go_wp2_with (go_at_call 9; refine (known_any _).mono ?_; rintro e w7 ⟨rfl, hb7⟩; (have HB7 : Hid (Below wr.heap.size wr w7) := hb7); clear hb7)
          go_ret
          exact ⟨rfl, HE.out.bel.trans (HB7.out.mono HE.out.bel.size)⟩
  · have hno : most < 1 ∨ 64 < most := by omega
    have HN1 : Hid (Calls Try.prog 15 #[.int .i64 most] w fun e w' => e = .returned (.pointer none) ∧ w' = w) := cnew_none most hno w
    have HN2 : Hid (Calls Try.prog 16 #[.int .i64 most] w fun e w' => e = .returned (.pointer none) ∧ w' = w) := newM_none most hno w
    clear hx hm hno
    go_enter Try.func4, Try.ntmps4
    go_wp2_with (first | (go_at_call 15; refine HN1.out.mono ?_; rintro e w1 ⟨rfl, hw1⟩; rw [hw1]; clear hw1) | (go_at_call 16; refine HN2.out.mono ?_; rintro e w1 ⟨rfl, hw1⟩; rw [hw1]; clear hw1) | (go_at_call 9; refine (known_any _).mono ?_; rintro e w7 ⟨rfl, hb7⟩; (have HB7 : Hid (Below w.heap.size w w7) := hb7); clear hb7))
    go_ret
    exact ⟨rfl, HB7.out⟩
end Go.Proofs.Ytbcdaddbcjagjaa
