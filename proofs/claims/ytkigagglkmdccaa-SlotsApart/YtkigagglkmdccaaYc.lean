/- SlotsApart: the law. -/
import Derived.Test.YtkigagglkmdccaaYb
import Derived.Deep.CutBlock
import Derived.BigQuiet
import Derived.Deep.RegionHeld3
namespace Go.Proofs.Ytkigagglkmdccaa
open Go.RowKit
set_option linter.unusedVariables false
set_option linter.unusedSimpArgs false

/-- The names' row. -/
def nmRow : Obj := .cells #[.string { data := #[97] }, .string { data := #[98] }, .string { data := #[99] }] 9 (0, 0)
theorem nm_cells {w : World} {q : Nat} (h : w.heap[q]? = some nmRow) : w.cell? ⟨q, 0, none⟩ = some (.string { data := #[97] }) ∧ w.cell? ⟨q, 1, none⟩ = some (.string { data := #[98] }) ∧ w.cell? ⟨q, 2, none⟩ = some (.string { data := #[99] }) :=
  ⟨by rw [cell_of_row _ _ _ _ _ _ h]; rfl, by rw [cell_of_row _ _ _ _ _ _ h]; rfl, by rw [cell_of_row _ _ _ _ _ _ h]; rfl⟩
theorem op_cells {w : World} {g : Nat} {c0 c1 c2 c3 c4 : Value} (e : w.heap[g]? = some (.cells #[c0, c1, c2, c3, c4] 32 (0, 0))) : w.cell? ⟨g, 0, none⟩ = some c0 ∧ w.cell? ⟨g, 1, none⟩ = some c1 ∧ w.cell? ⟨g, 3, none⟩ = some c3 ∧ w.cell? ⟨g, 4, none⟩ = some c4 :=
  ⟨by rw [cell_of_row _ _ _ _ _ _ e]; rfl, by rw [cell_of_row _ _ _ _ _ _ e]; rfl, by rw [cell_of_row _ _ _ _ _ _ e]; rfl, by rw [cell_of_row _ _ _ _ _ _ e]; rfl⟩
set_option maxRecDepth 100000 in
set_option maxHeartbeats 8000000 in
theorem apart_law (own : List UInt8) (sa : Option Addr) (len cap : Nat) (os : List OpF) (sb : Option Addr) (lenb capb : Nat) (ob : List OpF) (w : World) (hx : OpsAt w sa len cap os) (hl : (len : Int) ≤ 140737488351232) (hb : OpsAt w sb lenb capb ob) (hlb : (lenb : Int) ≤ 140737488351232) :
    Calls Try.prog 4 #[.string (tx own), .slice sa len cap, .slice sb lenb capb] w fun e w' => e = .returned (.bool true) ∧ Below w.heap.size w w' := by
  have HX : Hid (OpsAt w sa len cap os) := hx
  have HO : Hid (OpsAt w sb lenb capb ob) := hb
  have HNEW : Hid (Calls Try.prog 7 #[.int .i64 1] w fun e w' => ∃ T, e = .returned (.pointer (some ⟨T, 0, none⟩)) ∧ Hid (SM w w' T newX)) := (sm_new w).mono fun e w' ⟨T, h1, h2⟩ => ⟨T, h1, h2⟩
  clear hx hb
  go_enter Try.func4, Try.ntmps4
  go_upto_region 2 with (go_at_call 7; refine HNEW.out.mono ?_; rintro e w1 ⟨T, rfl, H1⟩)
  have HN2 : Hid (Calls Try.prog 7 #[.int .i64 1] w1 fun e w' => ∃ U, e = .returned (.pointer (some ⟨U, 0, none⟩)) ∧ Hid (S2 w w' T U newX newX [])) := s2_new H1.out
  clear HNEW H1
  go_upto_region 3 with (go_at_call 7; refine HN2.out.mono ?_; rintro e w2 ⟨U, rfl, H2⟩)
  clear HN2
  go_upto_region 6 with (fail)
  obtain ⟨W, hW⟩ : ∃ W, w2.alloc (.cells #[.string { data := #[97] }, .string { data := #[98] }, .string { data := #[99] }] 9) = W := ⟨_, rfl⟩
  have HA0 : Hid (A0 w W T U [(w2.heap.size, nmRow)]) := by
    show A0 w W T U [(w2.heap.size, nmRow)]
    rw [← hW]
    exact a0_new H2.out _
  rw [hW]
  clear hW H2
  generalize w2.heap.size = nb at *
  go_upto_block 0 with fail
  go_cut [10] from 24 to 39 (fun c10 wx => Hid (A0 w wx T U [(nb, nmRow)]))
  case first =>
    go_wp2_with fail
    go_loopw [10] (fun c10 wx => ((c10 = .int .i64 0 ∨ c10 = .int .i64 1) ∨ (c10 = .int .i64 2 ∨ c10 = .int .i64 3)) ∧ Hid (A0 w wx T U [(nb, nmRow)])) (fun c10 wx => 3 - (intOf c10).toNat)
    case atStart => exact ⟨.inl (.inl rfl), HA0⟩
    case round =>
      obtain ⟨(rfl | rfl) | (rfl | rfl), H⟩ := hrel
      · obtain ⟨y0, y1, y2⟩ := nm_cells (H.out.row (List.mem_singleton.2 rfl))
        have HS : Hid (Calls Try.prog 12 #[.pointer (some ⟨T, 0, none⟩), .string { data := #[97] }, .int .i64 1] wr fun e w2 => ∃ r, e = .returned (.int .i64 r) ∧ Hid (A1 w w2 T U [(nb, nmRow)] nA)) := H.out.set nA
        go_upto_region 10 with (go_at_call 12; refine HS.out.mono ?_; rintro e w3 ⟨r, rfl, H3⟩)
        obtain ⟨z0, z1, z2⟩ := nm_cells (H3.out.row (List.mem_singleton.2 rfl))
        have HS2 : Hid (Calls Try.prog 12 #[.pointer (some ⟨U, 0, none⟩), .string { data := #[97] }, .int .i64 1] w3 fun e w2 => ∃ r, e = .returned (.int .i64 r) ∧ Hid (A0 w w2 T U [(nb, nmRow)])) := H3.out.set
        go_wp2_with (go_at_call 12; refine HS2.out.mono ?_; rintro e w4 ⟨r4, rfl, H4⟩)
        go_roundw
        case rel => exact ⟨.inl (.inr (by go_num)), H4⟩
        case measure => first | decide | simp [intOf]
      · obtain ⟨y0, y1, y2⟩ := nm_cells (H.out.row (List.mem_singleton.2 rfl))
        have HS : Hid (Calls Try.prog 12 #[.pointer (some ⟨T, 0, none⟩), .string { data := #[98] }, .int .i64 1] wr fun e w2 => ∃ r, e = .returned (.int .i64 r) ∧ Hid (A1 w w2 T U [(nb, nmRow)] nB)) := H.out.set nB
        go_upto_region 10 with (go_at_call 12; refine HS.out.mono ?_; rintro e w3 ⟨r, rfl, H3⟩)
        obtain ⟨z0, z1, z2⟩ := nm_cells (H3.out.row (List.mem_singleton.2 rfl))
        have HS2 : Hid (Calls Try.prog 12 #[.pointer (some ⟨U, 0, none⟩), .string { data := #[98] }, .int .i64 1] w3 fun e w2 => ∃ r, e = .returned (.int .i64 r) ∧ Hid (A0 w w2 T U [(nb, nmRow)])) := H3.out.set
        go_wp2_with (go_at_call 12; refine HS2.out.mono ?_; rintro e w4 ⟨r4, rfl, H4⟩)
        go_roundw
        case rel => exact ⟨.inr (.inl (by go_num)), H4⟩
        case measure => first | decide | simp [intOf]
      · obtain ⟨y0, y1, y2⟩ := nm_cells (H.out.row (List.mem_singleton.2 rfl))
        have HS : Hid (Calls Try.prog 12 #[.pointer (some ⟨T, 0, none⟩), .string { data := #[99] }, .int .i64 1] wr fun e w2 => ∃ r, e = .returned (.int .i64 r) ∧ Hid (A1 w w2 T U [(nb, nmRow)] [99])) := H.out.set [99]
        go_upto_region 10 with (go_at_call 12; refine HS.out.mono ?_; rintro e w3 ⟨r, rfl, H3⟩)
        obtain ⟨z0, z1, z2⟩ := nm_cells (H3.out.row (List.mem_singleton.2 rfl))
        have HS2 : Hid (Calls Try.prog 12 #[.pointer (some ⟨U, 0, none⟩), .string { data := #[99] }, .int .i64 1] w3 fun e w2 => ∃ r, e = .returned (.int .i64 r) ∧ Hid (A0 w w2 T U [(nb, nmRow)])) := H3.out.set
        go_wp2_with (go_at_call 12; refine HS2.out.mono ?_; rintro e w4 ⟨r4, rfl, H4⟩)
        go_roundw
        case rel => exact ⟨.inr (.inr (by go_num)), H4⟩
        case measure => first | decide | simp [intOf]
      · go_wp2_with fail
        go_meet
        exact H
  case rest =>
    have HL : Hid (AP w wc T U own 0 []) := hcut.out.ap own
    clear hcut HA0
    go_upto_block 2 with fail
    go_wp2_with fail
    go_loopw [11, 12, 13, 14] (fun a b c d wx => ∃ k j : Nat, a = .int .i64 (k : Int) ∧ k ≤ 200 ∧ k ≤ len ∧ j ≤ k ∧ Hid (AP w wx T U own j [])) (fun a b c d wx => 200 - (intOf a).toNat)
    case atStart => exact ⟨0, 0, rfl, by omega, by omega, by omega, HL⟩
    case round =>
      obtain ⟨k, j, rfl, hk, hkl, hjk, H⟩ := hrel
      by_cases cl : k < len
      · have cl' : (k : Int) < (len : Int) := by omega
        by_cases c2 : k < 200
        · have c2' : (k : Int) < 200 := by omega
          obtain ⟨o, ho⟩ : ∃ o, os[k]? = some o := ⟨_, List.getElem?_eq_getElem (by have := HX.out.n; omega)⟩
          obtain ⟨b, off, e, hlt, y0, y1, y2, y3, y4⟩ := (HX.out.later H.out.below (Nat.le_refl _)).l k o ho
          subst e
          have hcap : (len : Int) ≤ (cap : Int) := by have := HX.out.c; omega
          obtain ⟨kind, nm, wt, id, cost⟩ := o
          dsimp only at y0 y1 y2 y3 y4
          have HJ : Hid (j ≤ 1000000 ∧ k + 1 ≤ 200 ∧ k + 1 ≤ len ∧ j ≤ k) := by show _ ∧ _; omega
          clear ho hlt cl c2 hk hkl hjk
          go_upto_region 15 with (fail)
          obtain ⟨W, hW⟩ : ∃ W, wr.alloc (.cells #[.int .i64 kind, .string (tx nm), .int .i64 wt, .int .i64 id, .int .i64 cost] 32) = W := ⟨_, rfl⟩
          have HW : Hid (AP w W T U own j [(wr.heap.size, .cells #[.int .i64 kind, .string (tx nm), .int .i64 wt, .int .i64 id, .int .i64 cost] 32 (0, 0))]) := by
            rw [← hW]
            exact H.out.box _
          rw [hW]
          clear hW H y0 y1 y2 y3 y4
          generalize wr.heap.size = p at *
          go_cut [66] from 40 to 152 (fun c wx => (c = .bool false ∨ (c = .bool true ∧ Hid (∃ o, ob[k]? = some o ∧ o.nm ≠ own))) ∧ wx = W)
          case first =>
            by_cases d : k < lenb
            · have d' : (k : Int) < (lenb : Int) := by omega
              obtain ⟨o, ho⟩ : ∃ o, ob[k]? = some o := ⟨_, List.getElem?_eq_getElem (by have := HO.out.n; omega)⟩
              have HOK : Hid (ob[k]? = some o) := ho
              obtain ⟨b2, off2, e, hlt, u0, u1, u2, u3, u4⟩ := (HO.out.later HW.out.below (Nat.le_refl _)).l k o ho
              subst e
              have hcapb : (lenb : Int) ≤ (capb : Int) := by have := HO.out.c; omega
              clear ho hlt d
              by_cases e : o.nm = own
              · rw [e] at u1
                clear e
                go_wp2_with fail
                go_meet
                exact ⟨.inl rfl, rfl⟩
              · have HNE : Hid (o.nm ≠ own) := e
                have hn' : ((tx o.nm).toList == (tx own).toList) = false := by rw [tx_list, tx_list]; simpa using e
                have hn2 : ((tx o.nm).toList != (tx own).toList) = true := by simp [bne, hn']
                clear e
                go_wp2_with fail
                go_meet
                exact ⟨.inr ⟨rfl, o, HOK.out, HNE.out⟩, rfl⟩
            · have d' : ¬ (k : Int) < (lenb : Int) := by omega
              clear d
              go_wp2_with fail
              go_meet
              exact ⟨.inl rfl, rfl⟩
          obtain ⟨hc, hwc⟩ := hcut
          have hwc3 := hwc.symm
          clear hwc
          subst hwc3
          go_upto_if 66 with (fail)
          go_cut [13] from 40 to 152 (fun c13 wx => Hid (AP w wx T U own j [(p, .cells #[.int .i64 kind, .string (tx nm), .int .i64 wt, .int .i64 id, .int .i64 cost] 32 (0, 0))]))
          case first =>
            rcases hc with rfl | ⟨rfl, HE⟩
            · go_wp2_with fail
              go_meet
              exact HW
            · obtain ⟨o, ho, hne⟩ := HE.out
              have d' : (k : Int) < (lenb : Int) := by
                have := (List.getElem?_eq_some_iff.1 ho).1
                have := HO.out.n
                omega
              obtain ⟨b2, off2, e, hlt, u0, u1, u2, u3, u4⟩ := (HO.out.later HW.out.below (Nat.le_refl _)).l k o ho
              subst e
              have hcapb : (lenb : Int) ≤ (capb : Int) := by have := HO.out.c; omega
              have HPU : Hid (Calls Try.prog 13 #[.pointer (some ⟨U, 0, none⟩), .string (tx o.nm), .agg #[.int .i64 o.id, .int .i64 o.cost]] W.drew fun e w2 => ∃ r, e = .returned (.int .i64 r) ∧ Hid (AP w w2 T U own j [(p, .cells #[.int .i64 kind, .string (tx nm), .int .i64 wt, .int .i64 id, .int .i64 cost] 32 (0, 0))])) := (HW.out.newer (Below.drew' (Below.refl _ W))).pushU hne o.id o.cost
              clear ho hlt hne HE u0 u2
              go_upto_region 16 with (fail)
              go_region_with (go_at_call 13; refine HPU.out.mono ?_; rintro e w3 ⟨r, rfl, H3⟩)
              all_goals
                go_wp2_with fail
                go_meet
                exact H3
          clear hc HW
          obtain ⟨W2, hW2⟩ : ∃ W2, W2 = wc := ⟨_, rfl⟩
          subst hW2
          have HR := hcut
          clear hcut
          obtain ⟨x0, x1, x3, x4⟩ := op_cells (HR.out.row (List.mem_singleton.2 rfl))
          obtain ⟨bb, hbb⟩ : ∃ bb : Bool, decide (1 ≤ kind ∧ kind ≤ 3) = bb := ⟨_, rfl⟩
          have HBB : Hid (decide (1 ≤ kind ∧ kind ≤ 3) = bb) := hbb
          clear hbb
          go_upto_region 17 with (fail)
          go_cut [86] from 40 to 152 (fun c wx => c = .bool bb ∧ wx = W2)
          case first =>
            by_cases d1 : 1 ≤ kind
            · by_cases d2 : kind ≤ 3
              · have e : bb = true := by rw [← HBB.out]; simp [d1, d2]
                go_wp2_with fail
                go_meet
                exact ⟨by rw [e], rfl⟩
              · have e : bb = false := by rw [← HBB.out]; simp [d2]
                go_wp2_with fail
                go_meet
                exact ⟨by rw [e], rfl⟩
            · have e : bb = false := by rw [← HBB.out]; simp [d1]
              go_wp2_with fail
              go_meet
              exact ⟨by rw [e], rfl⟩
          obtain ⟨rfl, hwc2⟩ := hcut
          have hwc4 := hwc2.symm
          clear hwc2
          subst hwc4
          clear x0 HBB
          cases bb with
          | true =>
            by_cases e : nm = own
            · obtain rfl : own = nm := e.symm
              clear e
              obtain ⟨r, hone⟩ := (HR.out.newer (Below.drew' (Below.refl _ W2))).one id cost
              have HA : Hid (Calls Try.prog 13 #[.pointer (some ⟨T, 0, none⟩), .string (tx own), .agg #[.int .i64 id, .int .i64 cost]] W2.drew fun e w2 => e = .returned (.int .i64 r) ∧ AQ w w2 T U own j [(p, .cells #[.int .i64 kind, .string (tx own), .int .i64 wt, .int .i64 id, .int .i64 cost] 32 (0, 0))] id cost r) := hone
              clear hone HR
              go_upto_region 19 with (fail)
              go_region_held3 (fun w' => w'.cell? ⟨p, 3, none⟩ = some (.int .i64 id) ∧ w'.cell? ⟨p, 4, none⟩ = some (.int .i64 cost)) (first | exact K9 | exact K8 | go_keep) (first | (go_at_call 13; refine HA.out.mono ?_; rintro e w8 ⟨rfl, hm8⟩; (have HM8 : Hid (AQ w w8 T U own j [(p, .cells #[.int .i64 kind, .string (tx own), .int .i64 wt, .int .i64 id, .int .i64 cost] 32 (0, 0))] id cost r) := hm8); (have K8 := (op_cells (hm8.row (List.mem_singleton.2 rfl))).2.2); clear hm8 HA) | (go_at_call 13; refine HM8.out.two.mono ?_; rintro e w9 ⟨rfl, hm9⟩; (have HM9 : Hid (AP w w9 T U own j [(p, .cells #[.int .i64 kind, .string (tx own), .int .i64 wt, .int .i64 id, .int .i64 cost] 32 (0, 0))]) := hm9); (have K9 := (op_cells (hm9.row (List.mem_singleton.2 rfl))).2.2); clear hm9))
              go_wp2_with fail
              go_roundw
              case rel => exact ⟨k + 1, j, by go_num, HJ.out.2.1, HJ.out.2.2.1, by have := HJ.out.2.2.2; omega, HM9.out.bare⟩
              case measure => have := HJ.out.2.1; simp [intOf]; omega
            · have HPT : Hid (Calls Try.prog 13 #[.pointer (some ⟨T, 0, none⟩), .string (tx nm), .agg #[.int .i64 id, .int .i64 cost]] W2 fun e w2 => ∃ r, e = .returned (.int .i64 r) ∧ Hid (AP w w2 T U own j [(p, .cells #[.int .i64 kind, .string (tx nm), .int .i64 wt, .int .i64 id, .int .i64 cost] 32 (0, 0))])) := HR.out.pushT e id cost
              have hn' : ((tx nm).toList == (tx own).toList) = false := by rw [tx_list, tx_list]; simpa using e
              clear e
              go_wp2_with (go_at_call 13; refine HPT.out.mono ?_; rintro e w3 ⟨r, rfl, H3⟩)
              go_roundw
              case rel => exact ⟨k + 1, j, by go_num, HJ.out.2.1, HJ.out.2.2.1, by have := HJ.out.2.2.2; omega, H3.out.bare⟩
              case measure => have := HJ.out.2.1; simp [intOf]; omega
          | false =>
            obtain ⟨tn, id1, cost1, dn, so, hs⟩ := HR.out.bare.slot HJ.out.1
            have HS : Hid (Calls Try.prog 14 #[.pointer (some ⟨T, 0, none⟩)] W2 fun e w2 => e = .returned (.agg #[.int .i64 j, .string (tx tn), .int .i64 id1, .int .i64 cost1, .bool dn, .bool so]) ∧ Hid (AS w w2 T U own j [] tn id1 cost1 dn so)) := hs
            clear hs x1 x3 x4
            go_upto_region 23 with (go_at_call 14; refine HS.out.mono ?_; rintro e w3 ⟨rfl, H3⟩)
            obtain ⟨W3, hW3⟩ : ∃ W3, w3.alloc (.cells #[.int .i64 j, .string (tx tn), .int .i64 id1, .int .i64 cost1, .bool dn, .bool so] 40) = W3 := ⟨_, rfl⟩
            have H3b : Hid (AS w W3 T U own j [(w3.heap.size, .cells #[.int .i64 j, .string (tx tn), .int .i64 id1, .int .i64 cost1, .bool dn, .bool so] 40 (0, 0))] tn id1 cost1 dn so) := by
              rw [← hW3]
              exact H3.out.box _
            rw [hW3]
            clear hW3 H3 HS HR
            generalize w3.heap.size = ga at *
            obtain ⟨id2, cost2, dn2, so2, hsame, hs2⟩ := H3b.out.slot HJ.out.1
            have HSM : Hid (tn = own → id2 = id1 ∧ cost2 = cost1 ∧ dn2 = dn ∧ so2 = so) := hsame
            have HS2 : Hid (Calls Try.prog 14 #[.pointer (some ⟨U, 0, none⟩)] W3 fun e w2 => e = .returned (.agg #[.int .i64 j, .string (tx tn), .int .i64 id2, .int .i64 cost2, .bool dn2, .bool so2]) ∧ Hid (AP w w2 T U own (j + 1) [(ga, .cells #[.int .i64 j, .string (tx tn), .int .i64 id1, .int .i64 cost1, .bool dn, .bool so] 40 (0, 0))])) := hs2
            clear hs2 hsame H3b
            go_upto_region 24 with (go_at_call 14; refine HS2.out.mono ?_; rintro e w4 ⟨rfl, H4⟩)
            obtain ⟨W4, hW4⟩ : ∃ W4, w4.alloc (.cells #[.int .i64 j, .string (tx tn), .int .i64 id2, .int .i64 cost2, .bool dn2, .bool so2] 40) = W4 := ⟨_, rfl⟩
            have H4b : Hid (AP w W4 T U own (j + 1) [(w4.heap.size, .cells #[.int .i64 j, .string (tx tn), .int .i64 id2, .int .i64 cost2, .bool dn2, .bool so2] 40 (0, 0)), (ga, .cells #[.int .i64 j, .string (tx tn), .int .i64 id1, .int .i64 cost1, .bool dn, .bool so] 40 (0, 0))]) := by
              rw [← hW4]
              exact H4.out.box _
            rw [hW4]
            clear hW4 H4 HS2
            generalize w4.heap.size = gb at *
            obtain ⟨⟨a0, a1, a2, a3, a4, a5⟩, -⟩ := served_cells (H4b.out.row (List.mem_cons_of_mem _ (List.mem_singleton.2 rfl)))
            obtain ⟨⟨b0, b1, b2, b3, b4, b5⟩, -⟩ := served_cells (H4b.out.row (List.mem_cons_self))
            obtain ⟨n, m, hah⟩ := H4b.out.bare.aheadT
            have HAH : Hid (Calls Try.prog 15 #[.pointer (some ⟨T, 0, none⟩), .string (tx own)] W4 fun e w2 => e = .returned (.int .i64 n) ∧ Hid (Calls Try.prog 15 #[.pointer (some ⟨U, 0, none⟩), .string (tx own)] w2 fun e w3 => e = .returned (.int .i64 n) ∧ Hid (AP w w3 T U own (j + 1) [] ∧ Calls Try.prog 16 #[.pointer (some ⟨T, 0, none⟩), .string (tx own)] w3 (fun e w' => e = .returned (.int .i64 m) ∧ w' = w3) ∧ Calls Try.prog 16 #[.pointer (some ⟨U, 0, none⟩), .string (tx own)] w3 (fun e w' => e = .returned (.int .i64 m) ∧ w' = w3)))) := hah
            clear hah H4b
            by_cases e : tn = own
            · obtain ⟨rfl, rfl, rfl, rfl⟩ := HSM.out e
              obtain rfl : own = tn := e.symm
              have HEQ := eqServed j id2 cost2 (tx own) dn2 so2 W4
              clear HSM e
              go_wp2_with (first | (go_at_call 15; refine HAH.out.mono ?_; rintro e w5 ⟨rfl, H5⟩; clear HAH) | (go_at_call 15; refine H5.out.mono ?_; rintro e w6 ⟨rfl, H6⟩; clear H5; (have HW1 : Hid (Calls Try.prog 16 #[.pointer (some ⟨T, 0, none⟩), .string (tx own)] w6 (fun e w' => e = .returned (.int .i64 m) ∧ w' = w6)) := H6.out.2.1)) | (go_at_call 16; refine HW1.out.mono ?_; rintro e w7 ⟨rfl, hw7⟩; rw [hw7]; clear hw7 HW1; (have HW2 : Hid (Calls Try.prog 16 #[.pointer (some ⟨U, 0, none⟩), .string (tx own)] w6 (fun e w' => e = .returned (.int .i64 m) ∧ w' = w6)) := H6.out.2.2)) | (go_at_call 16; refine HW2.out.mono ?_; rintro e w8 ⟨rfl, hw8⟩; rw [hw8]; clear hw8 HW2))
              go_roundw
              case rel => exact ⟨k + 1, j + 1, by go_num, HJ.out.2.1, HJ.out.2.2.1, by have := HJ.out.2.2.2; omega, H6.out.1⟩
              case measure => have := HJ.out.2.1; simp [intOf]; omega
            · have hn' : ((tx tn).toList == (tx own).toList) = false := by rw [tx_list, tx_list]; simpa using e
              clear HSM e
              go_wp2_with (first | (go_at_call 15; refine HAH.out.mono ?_; rintro e w5 ⟨rfl, H5⟩; clear HAH) | (go_at_call 15; refine H5.out.mono ?_; rintro e w6 ⟨rfl, H6⟩; clear H5; (have HW1 : Hid (Calls Try.prog 16 #[.pointer (some ⟨T, 0, none⟩), .string (tx own)] w6 (fun e w' => e = .returned (.int .i64 m) ∧ w' = w6)) := H6.out.2.1)) | (go_at_call 16; refine HW1.out.mono ?_; rintro e w7 ⟨rfl, hw7⟩; rw [hw7]; clear hw7 HW1; (have HW2 : Hid (Calls Try.prog 16 #[.pointer (some ⟨U, 0, none⟩), .string (tx own)] w6 (fun e w' => e = .returned (.int .i64 m) ∧ w' = w6)) := H6.out.2.2)) | (go_at_call 16; refine HW2.out.mono ?_; rintro e w8 ⟨rfl, hw8⟩; rw [hw8]; clear hw8 HW2))
              go_roundw
              case rel => exact ⟨k + 1, j + 1, by go_num, HJ.out.2.1, HJ.out.2.2.1, by have := HJ.out.2.2.2; omega, H6.out.1⟩
              case measure => have := HJ.out.2.1; simp [intOf]; omega
        · obtain rfl : k = 200 := by omega
          rw [show ((200 : Nat) : Int) = 200 from rfl] at cl' ⊢
          clear c2 cl hk hkl hjk
          go_wp2_with (go_at_call 9; refine (known_any _).mono ?_; rintro e w3 ⟨rfl, hb3⟩; (have HB3 : Hid (Below wr.heap.size wr w3) := hb3); clear hb3)
          go_ret
          exact ⟨rfl, H.out.below.trans (HB3.out.mono H.out.below.size)⟩
      · obtain rfl : k = len := by omega
        clear cl hk hkl hjk
        go_wp2_with (go_at_call 9; refine (known_any _).mono ?_; rintro e w3 ⟨rfl, hb3⟩; (have HB3 : Hid (Below wr.heap.size wr w3) := hb3); clear hb3)
        go_ret
        exact ⟨rfl, H.out.below.trans (HB3.out.mono H.out.below.size)⟩
end Go.Proofs.Ytkigagglkmdccaa
