/- SlotsTurns: the law. -/
import Derived.Test.YtkigagglkmdccaaXb
import Derived.Deep.CutBlock
import Derived.BigQuiet
import Derived.Laws.Cover1
namespace Go.Proofs.Ytkigagglkmdccaa
open Go.RowKit
set_option linter.unusedVariables false
set_option linter.unusedSimpArgs false

/-- Tenants are being set. -/
def L1 (w wr : World) (T : Nat) : Prop := ∃ x : Fx, Fok x ∧ x.slot = 0 ∧ x.J = (fun _ => []) ∧ SM w wr T x
theorem L1.set {w wr : World} {T : Nat} (h : L1 w wr T) (nm : List UInt8) : Calls Try.prog 12 #[.pointer (some ⟨T, 0, none⟩), .string (tx nm), .int .i64 1] wr fun e w2 => ∃ r, e = .returned (.int .i64 r) ∧ Hid (L1 w w2 T) := by
  obtain ⟨x, h1, h2, h3, h4⟩ := h
  refine (h4.set h1 nm 1).mono ?_
  rintro e w2 ⟨rfl, hz⟩
  exact ⟨_, rfl, _, h1.set _ _, (setX_slot _ _ _).1.trans h2, (setX_slot _ _ _).2.trans h3, hz⟩
theorem L1.below {w wr : World} {T : Nat} (h : L1 w wr T) : Below w.heap.size w wr := by
  obtain ⟨x, h1, h2, h3, h4⟩ := h
  exact h4.below
theorem L3.below {w wr : World} {T k : Nat} {lv : Value} {ls : List (List UInt8)} (h : L3 w wr T k lv ls) : Below w.heap.size w wr := by
  obtain ⟨x, h1, h2, h3, h4, h5⟩ := h
  exact h5.below
set_option maxRecDepth 100000 in
set_option maxHeartbeats 8000000 in
theorem turns_law (sa : Option Addr) (len cap : Nat) (xs : List (List UInt8)) (sb : Option Addr) (lenb capb : Nat) (os : List OpF) (w : World) (hx : NmsAt w sa len cap xs) (hl : (len : Int) ≤ 140737488351232) (hb : OpsAt w sb lenb capb os) (hlb : (lenb : Int) ≤ 140737488351232) :
    Calls Try.prog 5 #[.slice sa len cap, .slice sb lenb capb] w fun e w' => e = .returned (.bool true) ∧ Below w.heap.size w w' := by
  have HX : Hid (NmsAt w sa len cap xs) := hx
  have HO : Hid (OpsAt w sb lenb capb os) := hb
  have HNEW : Hid (Calls Try.prog 7 #[.int .i64 1] w fun e w' => ∃ T, e = .returned (.pointer (some ⟨T, 0, none⟩)) ∧ Hid (L1 w w' T)) := (sm_new w).mono fun e w' ⟨T, h1, h2⟩ => ⟨T, h1, _, Fok.new, rfl, rfl, h2⟩
  clear hx hb
  go_enter Try.func5, Try.ntmps5
  go_upto_block 0 with (go_at_call 7; refine HNEW.out.mono ?_; rintro e w1 ⟨T, rfl, H1⟩)
  clear HNEW
  go_cut [6] from 15 to 30 (fun c6 wx => Hid (L1 w wx T))
  case first =>
    go_wp2_with fail
    go_loopw [6] (fun c6 wx => ∃ k : Nat, c6 = .int .i64 (k : Int) ∧ k ≤ 20 ∧ k ≤ len ∧ Hid (L1 w wx T)) (fun c6 wx => 20 - (intOf c6).toNat)
    case atStart => exact ⟨0, rfl, by omega, by omega, H1⟩
    case round =>
      obtain ⟨k, rfl, hk, hkl, H⟩ := hrel
      by_cases cl : k < len
      · have cl' : (k : Int) < (len : Int) := by omega
        by_cases c2 : k < 20
        · have c2' : (k : Int) < 20 := by omega
          obtain ⟨nm, hnm⟩ : ∃ nm, xs[k]? = some nm := ⟨_, List.getElem?_eq_getElem (by have := HX.out.n; omega)⟩
          obtain ⟨b, off, e, hlt, y0⟩ := (HX.out.later H.out.below (Nat.le_refl _)).l k nm hnm
          subst e
          have hcap : (len : Int) ≤ (cap : Int) := by have := HX.out.c; omega
          have HSET : Hid (Calls Try.prog 12 #[.pointer (some ⟨T, 0, none⟩), .string (tx nm), .int .i64 1] wr fun e w2 => ∃ r, e = .returned (.int .i64 r) ∧ Hid (L1 w w2 T)) := H.out.set nm
          clear hnm hlt
          go_wp2_with (go_at_call 12; refine HSET.out.mono ?_; rintro e w2 ⟨r, rfl, H2⟩)
          go_roundw
          case rel => exact ⟨k + 1, by go_num, by omega, by omega, H2⟩
          case measure => simp [intOf]; omega
        · obtain rfl : k = 20 := by omega
          rw [show ((20 : Nat) : Int) = 20 from rfl] at cl' ⊢
          clear c2 cl hk hkl
          go_wp2_with fail
          go_meet
          exact H
      · obtain rfl : k = len := by omega
        clear cl hk hkl
        go_wp2_with fail
        go_meet
        exact H
  case rest =>
    obtain ⟨x, h1, h2, h3, h4⟩ := hcut.out
    have HT : Hid (Calls Try.prog 17 #[.pointer (some ⟨T, 0, none⟩)] wc fun e w2 => ∃ sv cap, e = .returned (.slice sv x.ns.length cap) ∧ Hid (SL w w2 T x (.slice sv x.ns.length cap) x.ns)) := h4.tens h1
    have HF : Hid (Fok x ∧ x.slot = 0 ∧ Jin x) := ⟨h1, h2, fun s hs => (hs (by rw [h3])).elim⟩
    have HU : Hid (Up x.ns) := h1.up
    have hn16 : x.ns.length ≤ 16 := h1.le
    clear h1 h2 h3 h4 hcut H1
    obtain ⟨n, hn⟩ : ∃ n, x.ns.length = n := ⟨_, rfl⟩
    have HN : Hid (x.ns.length = n) := hn
    rw [hn] at HT hn16
    clear hn
    go_upto_block 2 with (go_at_call 17; refine HT.out.mono ?_; rintro e w2 ⟨sv, cp, rfl, H2⟩)
    clear HT
    go_cut [8] from 33 to 48 (fun c8 wx => Hid (SL w wx T x (.slice sv n cp) x.ns))
    case first =>
      go_wp2_with fail
      go_loopw [8] (fun c8 wx => ∃ k : Nat, c8 = .int .i64 (k : Int) ∧ 1 ≤ k ∧ k ≤ n + 1 ∧ Hid (SL w wx T x (.slice sv n cp) x.ns)) (fun c8 wx => n + 1 - (intOf c8).toNat)
      case atStart => exact ⟨1, rfl, by omega, by omega, H2⟩
      case round =>
        obtain ⟨k, rfl, hk1, hkn, H⟩ := hrel
        by_cases cl : k < n
        · have cl' : (k : Int) < (n : Int) := by omega
          obtain ⟨j, hj⟩ : ∃ j, k = j + 1 := ⟨k - 1, by omega⟩
          obtain ⟨p, hp⟩ : ∃ p, x.ns[j]? = some p := ⟨_, List.getElem?_eq_getElem (by have := HN.out; omega)⟩
          obtain ⟨q, hq⟩ : ∃ q, x.ns[k]? = some q := ⟨_, List.getElem?_eq_getElem (by have := HN.out; omega)⟩
          have hlb : lb p q := by
            have e1 := List.getElem?_eq_some_iff.1 hp
            have e2 := List.getElem?_eq_some_iff.1 hq
            have := List.pairwise_iff_getElem.1 HU.out j k e1.1 e2.1 (by omega)
            rw [e1.2, e2.2] at this
            exact this
          have hless : Op.bytesLess (tx p).toList (tx q).toList = true := by rw [tx_list, tx_list, less_lb]; simpa using hlb
          obtain ⟨g, rfl, hcap, y1⟩ := H.out.cell HN.out hp
          obtain ⟨g2, e2, -, y2⟩ := H.out.cell HN.out hq
          obtain rfl : g = g2 := by simpa using e2
          have hjm : (k : Int) - 1 = (j : Int) := by omega
          have hjn : (j : Int) < (n : Int) := by omega
          have hk16 : (k : Int) ≤ 16 := by omega
          have hwj : IntKind.i64.wrap (j : Int) = (j : Int) := by first | (rw [IntKind.wrap_i64]; unfold wrap64; omega) | (rw [IntKind.wrap_i64]; omega) | (unfold IntKind.wrap; simp [IntKind.bits, IntKind.signed]; omega)
          have HK : Hid (k + 1 ≤ n + 1) := by show _ ≤ _; omega
          clear hp hq hlb e2 hj hk1 hkn cl
          go_wp2_with fail
          go_quiet (fail)
          go_wp2_with fail
          go_roundw
          case rel => exact ⟨k + 1, by go_num, by omega, HK.out, H.out.newer (belN (Below.refl _ wr) _)⟩
          case measure => have := HK.out; simp [intOf]; omega
        · have cl' : ¬ (k : Int) < (n : Int) := by omega
          clear cl
          go_wp2_with fail
          go_meet
          exact H
    case rest =>
      have HL : Hid (L3 w wc T 0 (.slice sv n cp) x.ns) := ⟨x, HF.out.1, HF.out.2.1, rfl, HF.out.2.2, hcut.out⟩
      clear hcut H2 HF
      go_upto_block 4 with fail
      go_wp2_with fail
      go_loopw [9, 10, 11] (fun a b c wx => ∃ k : Nat, a = .int .i64 (k : Int) ∧ k ≤ 200 ∧ k ≤ lenb ∧ Hid (L3 w wx T k (.slice sv n cp) x.ns)) (fun a b c wx => 200 - (intOf a).toNat)
      case atStart => exact ⟨0, rfl, by omega, by omega, HL⟩
      case round =>
        obtain ⟨k, rfl, hk, hkl, H⟩ := hrel
        by_cases cl : k < lenb
        · have cl' : (k : Int) < (lenb : Int) := by omega
          by_cases c2 : k < 200
          · have c2' : (k : Int) < 200 := by omega
            obtain ⟨o, ho⟩ : ∃ o, os[k]? = some o := ⟨_, List.getElem?_eq_getElem (by have := HO.out.n; omega)⟩
            obtain ⟨b, off, e, hlt, y0, y1, y2, y3, y4⟩ := (HO.out.later H.out.below (Nat.le_refl _)).l k o ho
            subst e
            have hcap : (lenb : Int) ≤ (capb : Int) := by have := HO.out.c; omega
            obtain ⟨kind, nm, wt, id, cost⟩ := o
            dsimp only at y0 y1 y2 y3 y4
            obtain ⟨bb, hbb⟩ : ∃ bb : Bool, decide (1 ≤ kind ∧ kind ≤ 3) = bb := ⟨_, rfl⟩
            have HBB : Hid (decide (1 ≤ kind ∧ kind ≤ 3) = bb) := hbb
            clear hbb ho hlt cl c2 hk hkl
            go_upto_region 17 with (fail)
            go_cut [72] from 49 to 125 (fun c wx => c = .bool bb ∧ wx = wr)
            case first =>
              by_cases d1 : 1 ≤ kind
              · by_cases d2 : kind ≤ 3
                · have e : bb = true := by rw [← HBB.out]; simp [d1, d2]
                  go_wp2_with fail
                  go_meet
                  exact ⟨by rw [e], rfl⟩
                · have e : bb = false := by rw [← HBB.out]; simp [d2]
                  go_wp2_with fail
                  go_meet
                  exact ⟨by rw [e], rfl⟩
              · have e : bb = false := by rw [← HBB.out]; simp [d1]
                go_wp2_with fail
                go_meet
                exact ⟨by rw [e], rfl⟩
            obtain ⟨rfl, hwc2⟩ := hcut
            have hwc3 := hwc2.symm
            clear hwc2
            subst hwc3
            go_upto_if 72 with (fail)
            go_cut [10] from 49 to 125 (fun c10 wx => Hid (L3 w wx T k (.slice sv n cp) x.ns))
            case first =>
              cases bb with
              | true =>
                have HPU : Hid (Calls Try.prog 13 #[.pointer (some ⟨T, 0, none⟩), .string (tx nm), .agg #[.int .i64 id, .int .i64 cost]] wr.drew fun e w2 => ∃ r, e = .returned (.int .i64 r) ∧ Hid (L3 w w2 T k (.slice sv n cp) x.ns)) := (H.out.newer (Below.drew' (Below.refl _ wr))).push nm id cost
                go_upto_region 18 with (fail)
                go_region_with (go_at_call 13; refine HPU.out.mono ?_; rintro e w3 ⟨r, rfl, H3⟩)
                all_goals
                  go_wp2_with fail
                  go_meet
                  exact H3
              | false =>
                go_wp2_with fail
                go_meet
                exact H
            clear HBB y0 y1 y2 y3 y4 H hcap
            obtain ⟨tn, ht0, ht1, hcall⟩ := hcut.out.slot (by omega)
            have HTN : Hid ((x.ns = [] → tn = []) ∧ (x.ns ≠ [] → x.ns[k % x.ns.length]? = some tn)) := ⟨ht0, ht1⟩
            have HTU : Hid (Calls Try.prog 18 #[.pointer (some ⟨T, 0, none⟩)] wc fun e w2 => e = .returned (.string (tx tn)) ∧ Hid (∃ (id cost : Int) (dn so : Bool), (x.ns = [] → so = false) ∧ Calls Try.prog 14 #[.pointer (some ⟨T, 0, none⟩)] w2 fun e w3 => e = .returned (.agg #[.int .i64 k, .string (tx tn), .int .i64 id, .int .i64 cost, .bool dn, .bool so]) ∧ Hid (L3 w w3 T (k + 1) (.slice sv n cp) x.ns))) := hcall
            clear hcall ht0 ht1 hcut
            go_upto_region 20 with (go_at_call 18; refine HTU.out.mono ?_; rintro e w4 ⟨rfl, H4⟩)
            obtain ⟨id2, cost2, dn, so, hso, hst⟩ := H4.out
            have HST : Hid (Calls Try.prog 14 #[.pointer (some ⟨T, 0, none⟩)] w4 fun e w3 => e = .returned (.agg #[.int .i64 k, .string (tx tn), .int .i64 id2, .int .i64 cost2, .bool dn, .bool so]) ∧ Hid (L3 w w3 T (k + 1) (.slice sv n cp) x.ns)) := hst
            have HSO : Hid (x.ns = [] → so = false) := hso
            clear hst hso H4 HTU
            go_upto_region 21 with (go_at_call 14; refine HST.out.mono ?_; rintro e w5 ⟨rfl, H5⟩)
            obtain ⟨W, hW⟩ : ∃ W, w5.alloc (.cells #[.int .i64 k, .string (tx tn), .int .i64 id2, .int .i64 cost2, .bool dn, .bool so] 40) = W := ⟨_, rfl⟩
            have HKW : Hid (L3 w W T (k + 1) (.slice sv n cp) x.ns) := by
              show L3 w W T (k + 1) (.slice sv n cp) x.ns
              rw [← hW]
              exact H5.out.newer (bel1' _ _)
            have e : W.heap[w5.heap.size]? = some (.cells #[.int .i64 k, .string (tx tn), .int .i64 id2, .int .i64 cost2, .bool dn, .bool so] 40 (0, 0)) := by rw [← hW]; exact heap_alloc_new _ _
            obtain ⟨⟨z0, z1, -, -, -, z5⟩, -⟩ := served_cells e
            rw [hW]
            clear hW e HST H5
            generalize w5.heap.size = gb at *
            by_cases hz : n = 0
            · have hnil : x.ns = [] := List.eq_nil_of_length_eq_zero (by rw [HN.out]; exact hz)
              obtain rfl := HTN.out.1 hnil
              obtain rfl := HSO.out hnil
              subst hz
              clear hnil
              have htx : (tx []).toList = [] := by rw [tx_list]
              go_wp2_with fail
              go_roundw
              case rel => exact ⟨k + 1, by go_num, by omega, by omega, HKW⟩
              case measure => simp [intOf]; omega
            · have hne : x.ns ≠ [] := fun e => hz (by rw [← HN.out, e]; rfl)
              have hget := HTN.out.2 hne
              rw [HN.out] at hget
              have hlt : k % n < n := Nat.mod_lt _ (by omega)
              obtain ⟨g, rfl, hcp, y1⟩ : ∃ g, sv = some ⟨g, 0, none⟩ ∧ (n : Int) ≤ cp ∧ W.cell? ⟨g, k % n, none⟩ = some (.string (tx tn)) := by
                obtain ⟨y, q1, q2, q3, q4, q5⟩ := HKW.out
                exact q5.cell HN.out hget
              have hmod := tmod_nat k n
              have hn0 : ¬ (n : Int) = 0 := by omega
              have hnp : (0 : Int) < (n : Int) := by omega
              clear hget hne hz
              generalize k % n = r at *
              have hr' : (r : Int) < (n : Int) := by omega
              go_wp2_with fail
              go_roundw
              case rel => exact ⟨k + 1, by go_num, by omega, by omega, HKW⟩
              case measure => simp [intOf]; omega
          · obtain rfl : k = 200 := by omega
            rw [show ((200 : Nat) : Int) = 200 from rfl] at cl' ⊢
            clear c2 cl hk hkl
            go_wp2_with (go_at_call 9; refine (known_any _).mono ?_; rintro e w3 ⟨rfl, hb3⟩; (have HB3 : Hid (Below wr.heap.size wr w3) := hb3); clear hb3)
            go_ret
            exact ⟨rfl, H.out.below.trans (HB3.out.mono H.out.below.size)⟩
        · obtain rfl : k = lenb := by omega
          clear cl hk hkl
          go_wp2_with (go_at_call 9; refine (known_any _).mono ?_; rintro e w3 ⟨rfl, hb3⟩; (have HB3 : Hid (Below wr.heap.size wr w3) := hb3); clear hb3)
          go_ret
          exact ⟨rfl, H.out.below.trans (HB3.out.mono H.out.below.size)⟩
end Go.Proofs.Ytkigagglkmdccaa
