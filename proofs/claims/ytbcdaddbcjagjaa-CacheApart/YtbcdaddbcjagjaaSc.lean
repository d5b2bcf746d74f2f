/- CacheApart: the law. -/
import Derived.Test.YtbcdaddbcjagjaaSb
import Derived.Deep.CutBlock
import Derived.BigQuiet
import Derived.Deep.RegionHeld3
namespace Go.Proofs.Ytbcdaddbcjagjaa
open Go.RowKit
set_option linter.unusedVariables false
set_option linter.unusedSimpArgs false

/-- The names' row. -/
def nmRow : Obj := .cells #[.string { data := #[97] }, .string { data := #[98] }, .string { data := #[99] }] 9 (0, 0)
theorem nm_cells {w : World} {q : Nat} (h : w.heap[q]? = some nmRow) : w.cell? ⟨q, 0, none⟩ = some (.string { data := #[97] }) ∧ w.cell? ⟨q, 1, none⟩ = some (.string { data := #[98] }) ∧ w.cell? ⟨q, 2, none⟩ = some (.string { data := #[99] }) :=
  ⟨by rw [cell_of_row _ _ _ _ _ _ h]; rfl, by rw [cell_of_row _ _ _ _ _ _ h]; rfl, by rw [cell_of_row _ _ _ _ _ _ h]; rfl⟩
theorem tmod3 (i : Nat) : Int.tmod (i : Int) 3 = 0 ∨ Int.tmod (i : Int) 3 = 1 ∨ Int.tmod (i : Int) 3 = 2 := by
  rw [Int.tmod_eq_emod_of_nonneg (by omega)]
  omega
set_option maxRecDepth 100000 in
set_option maxHeartbeats 16000000 in
theorem apart_law (most : Int) (own : List UInt8) (sa : Option Addr) (len cap : Nat) (os : List OpF) (sb : Option Addr) (lenb capb : Nat) (ob : List OpF) (w : World) (hx : OpsAt w sa len cap os) (hl : (len : Int) ≤ 140737488351232) (hb : OpsAt w sb lenb capb ob) (hlb : (lenb : Int) ≤ 140737488351232) :
    Calls Try.prog 6 #[.int .i64 most, .string (tx own), .slice sa len cap, .slice sb lenb capb] w fun e w' => e = .returned (.bool true) ∧ Below w.heap.size w w' := by
  by_cases hm : 1 ≤ most ∧ most ≤ 64
  · have HX : Hid (OpsAt w sa len cap os) := hx
    have HO : Hid (OpsAt w sb lenb capb ob) := hb
    have HNEW : Hid (Calls Try.prog 15 #[.int .i64 most] w fun e w' => ∃ C, e = .returned (.pointer (some ⟨C, 0, none⟩)) ∧ Hid (∃ F, CR w' C F most (fun _ => []) (fun _ => (0, 0)) ∧ (∀ q, F q → w.heap.size ≤ q) ∧ Below w.heap.size w w')) := cnew_some most hm.1 hm.2 w
    have HM : Hid (1 ≤ most ∧ most ≤ 64) := hm
    clear hx hb hm
    go_enter Try.func6, Try.ntmps6
    go_upto_region 2 with (go_at_call 15; refine HNEW.out.mono ?_; rintro e w1 ⟨C, rfl, H1⟩)
    obtain ⟨F0, f1, f2, f3⟩ := H1.out
    have HN2 : Hid (Calls Try.prog 15 #[.int .i64 most] w1 fun e w2 => ∃ D, e = .returned (.pointer (some ⟨D, 0, none⟩)) ∧ Hid (C2 w w2 C D most (fun _ => []) (fun _ => (0, 0)) (fun _ => []) (fun _ => (0, 0)) [])) := c2_new most HM.out.1 HM.out.2 f1 f2 f3
    clear HNEW H1 f1 f2 f3
    go_upto_region 6 with (go_at_call 15; refine HN2.out.mono ?_; rintro e w2 ⟨D, rfl, H2⟩)
    clear HN2
    obtain ⟨W, hW⟩ : ∃ W, w2.alloc (.cells #[.string { data := #[97] }, .string { data := #[98] }, .string { data := #[99] }] 9) = W := ⟨_, rfl⟩
    have HA0 : Hid (AI w W C D most own 0 [(w2.heap.size, nmRow)] [] (0, 0) [] (0, 0)) := by
      rw [← hW]
      exact ⟨_, _, _, _, H2.out.keep (bel1' _ _) (heap_alloc_new _ _) (Nat.le_refl _), rfl, rfl, rfl, rfl, fun _ _ => rfl, fun x hx => (hx rfl).elim, fun x => by simp, fun x => by simp⟩
    have HNB : Hid (w.heap.size ≤ w2.heap.size) := H2.out.below.size
    rw [hW]
    clear hW H2
    generalize w2.heap.size = nb at *
    go_wp2_with fail
    go_loopw [12, 13, 14, 15, 16, 17, 18] (fun a b c d e f g wx => ∃ (i : Nat) (es : List It) (p : Int × Int), a = .int .i64 (i : Int) ∧ i ≤ 200 ∧ i ≤ len ∧ Hid (AI w wx C D most own (3 * (i : Int)) [(nb, nmRow)] es p es p)) (fun a b c d e f g wx => 200 - (intOf a).toNat)
    case atStart => exact ⟨0, [], (0, 0), rfl, by omega, by omega, HA0⟩
    case round =>
      obtain ⟨i, es, p, rfl, hi, hil, H⟩ := hrel
      clear HA0
      by_cases cl : i < len
      · have cl' : (i : Int) < (len : Int) := by omega
        by_cases c2 : i < 200
        · have c2' : (i : Int) < 200 := by omega
          obtain ⟨o, ho⟩ : ∃ o, os[i]? = some o := ⟨_, List.getElem?_eq_getElem (by have := HX.out.n; omega)⟩
          obtain ⟨b, off, e, hlt, y0, y1, y2, y3, y4⟩ := (HX.out.later H.out.below (Nat.le_refl _)).l i o ho
          subst e
          have hcap : (len : Int) ≤ (cap : Int) := by have := HX.out.c; omega
          obtain ⟨kind, nm, key, st, te⟩ := o
          dsimp only at y0 y1 y2 y3 y4
          have HJ : Hid (i + 1 ≤ 200 ∧ i + 1 ≤ len) := ⟨by omega, by omega⟩
          clear ho hlt cl c2 hi hil
          go_upto_region 11 with (fail)
          obtain ⟨W1, hW1⟩ : ∃ W1, wr.alloc (.cells #[.int .i64 kind, .string (tx own), .string (tx key), .string (tx st), .string (tx te)] 39) = W1 := ⟨_, rfl⟩
          have HA1 : Hid (AI w W1 C D most own (3 * (i : Int)) [(wr.heap.size, .cells #[.int .i64 kind, .string (tx own), .string (tx key), .string (tx st), .string (tx te)] 39 (0, 0)), (nb, nmRow)] es p es p) := by
            rw [← hW1]
            exact H.out.box _
          have HPB : Hid (w.heap.size ≤ wr.heap.size ∧ nb < wr.heap.size) := ⟨H.out.below.size, (Array.getElem?_eq_some_iff.1 (H.out.row List.mem_cons_self)).1⟩
          rw [hW1]
          clear hW1 H y0 y1 y2 y3 y4
          generalize wr.heap.size = pb at *
          go_cut [58] from 31 to 170 (fun c wx => (c = .bool false ∨ (c = .bool true ∧ Hid (∃ o, ob[i]? = some o ∧ o.kind ≠ 5))) ∧ wx = W1)
          case first =>
            by_cases d : i < lenb
            · have d' : (i : Int) < (lenb : Int) := by omega
              obtain ⟨o, ho⟩ : ∃ o, ob[i]? = some o := ⟨_, List.getElem?_eq_getElem (by have := HO.out.n; omega)⟩
              have HOK : Hid (ob[i]? = some o) := ho
              obtain ⟨b2, off2, e, hlt, u0, u1, u2, u3, u4⟩ := (HO.out.later HA1.out.below (Nat.le_refl _)).l i o ho
              subst e
              have hcapb : (lenb : Int) ≤ (capb : Int) := by have := HO.out.c; omega
              clear ho hlt d
              by_cases e : o.kind = 5
              · rw [e] at u0
                clear e
                go_wp2_with fail
                go_meet
                exact ⟨.inl rfl, rfl⟩
              · have HNE : Hid (o.kind ≠ 5) := e
                have HB5 : Hid ((o.kind != 5) = true) := by show _ = _; simpa [bne] using e
                clear e
                go_wp2_with fail
                go_meet
                exact ⟨.inr ⟨by rw [HB5.out], o, HOK.out, HNE.out⟩, rfl⟩
            · have d' : ¬ (i : Int) < (lenb : Int) := by omega
              clear d
              go_wp2_with fail
              go_meet
              exact ⟨.inl rfl, rfl⟩
          obtain ⟨hc, hwc⟩ := hcut
          have hwc3 := hwc.symm
          clear hwc
          subst hwc3
          go_upto_if 58 with (fail)
          go_cut [14] from 31 to 170 (fun c14 wx => Hid (AI w wx C D most own (3 * (i : Int) + 1) [(pb, .cells #[.int .i64 kind, .string (tx own), .string (tx key), .string (tx st), .string (tx te)] 39 (0, 0)), (nb, nmRow)] es p es p))
          case first =>
            rcases hc with rfl | ⟨rfl, HE⟩
            · go_wp2_with fail
              go_meet
              exact HA1.out.more (by omega)
            · obtain ⟨o, ho, hne⟩ := HE.out
              have d' : (i : Int) < (lenb : Int) := by
                have := (List.getElem?_eq_some_iff.1 ho).1
                have := HO.out.n
                omega
              obtain ⟨b2, off2, e, hlt, u0, u1, u2, u3, u4⟩ := (HO.out.later HA1.out.below (Nat.le_refl _)).l i o ho
              subst e
              have hcapb : (lenb : Int) ≤ (capb : Int) := by have := HO.out.c; omega
              obtain ⟨k2, nm2, key2, st2, te2⟩ := o
              dsimp only at u0 u1 u2 u3 u4 hne
              have HNE : Hid (k2 ≠ 5) := hne
              clear ho hlt hne HE
              go_upto_region 13 with (fail)
              obtain ⟨W2, hW2⟩ : ∃ W2, W1.alloc (.cells #[.int .i64 k2, .string (tx nm2), .string (tx key2), .string (tx st2), .string (tx te2)] 39) = W2 := ⟨_, rfl⟩
              have HA2 : Hid (AI w W2 C D most own (3 * (i : Int)) [(W1.heap.size, .cells #[.int .i64 k2, .string (tx nm2), .string (tx key2), .string (tx st2), .string (tx te2)] 39 (0, 0)), (pb, .cells #[.int .i64 kind, .string (tx own), .string (tx key), .string (tx st), .string (tx te)] 39 (0, 0)), (nb, nmRow)] es p es p) := by
                rw [← hW2]
                exact HA1.out.box _
              have HPX : Hid (w.heap.size ≤ W1.heap.size ∧ pb < W1.heap.size ∧ nb < W1.heap.size) := ⟨HA1.out.below.size, (Array.getElem?_eq_some_iff.1 (HA1.out.row List.mem_cons_self)).1, (Array.getElem?_eq_some_iff.1 (HA1.out.row (List.mem_cons_of_mem _ List.mem_cons_self))).1⟩
              rw [hW2]
              clear hW2 u0 u1 u2 u3 u4
              generalize W1.heap.size = px at *
              obtain ⟨x0, x1, x2, x3, x4⟩ := op5 (HA2.out.row List.mem_cons_self)
              obtain ⟨n0, n1, n2⟩ := nm_cells (HA2.out.row (List.mem_cons_of_mem _ (List.mem_cons_of_mem _ List.mem_cons_self)))
              have xf : W2.frozen? ⟨px, 1, none⟩ = false := by simp [World.frozen?, HA2.out.row List.mem_cons_self]
              obtain ⟨L2, hL2⟩ : ∃ L2 : Nat, nm2.length = L2 := ⟨_, rfl⟩
              have lt2 : ((tx nm2).size : Int) = (L2 : Int) := by rw [tx_size, hL2]
              clear hL2
              have HI : Hid (3 * (i : Int) ≤ 1000000) := by show _ ≤ _; omega
              rcases tmod3 L2 with ht | ht | ht
              · go_upto_region 14 with (fail)
                obtain ⟨W3, hW3⟩ : ∃ W3, W2.setCell ⟨px, 1, none⟩ (.string { data := #[97] }) = W3 := ⟨_, rfl⟩
                have HA3 : Hid (AI w W3 C D most own (3 * (i : Int)) [(px, .cells #[.int .i64 k2, .string { data := #[97] }, .string (tx key2), .string (tx st2), .string (tx te2)] 39 (0, 0)), (pb, .cells #[.int .i64 kind, .string (tx own), .string (tx key), .string (tx st), .string (tx te)] 39 (0, 0)), (nb, nmRow)] es p es p) := by
                  rw [← hW3]
                  exact HA2.out.poke (i := 1) (fun q hq => by have := HPX.out; simp at hq; rcases hq with rfl | rfl <;> (dsimp only; omega)) _ HPX.out.1
                rw [hW3]
                clear hW3 x0 x1 x2 x3 x4 n0 n1 n2 xf HA2
                obtain ⟨z0, z1, z2, z3, z4⟩ := op5 (HA3.out.row List.mem_cons_self)
                by_cases hso : ([97] : List UInt8) = own
                · have hq : ({ data := #[97] } : ByteArray) = tx own := by rw [← hso]; rfl
                  have hq' : (({ data := #[97] } : ByteArray).toList == (tx own).toList) = true := by rw [hq]; simp
                  have hq2 : (([97] : List UInt8) == (tx own).toList) = true := by rw [tx_list]; simp [hso]
                  clear hso hq
                  go_wp2_with fail
                  go_meet
                  exact (HA3.out.less (fun q hq => by simp at hq ⊢; rcases hq with rfl | rfl <;> simp)).more (by omega)
                · have hq' : (({ data := #[97] } : ByteArray).toList == (tx own).toList) = false := by rw [show ({ data := #[97] } : ByteArray) = tx [97] from rfl, tx_list, tx_list]; simpa using hso
                  have hq2 : (([97] : List UInt8) == (tx own).toList) = false := by rw [tx_list]; simpa using hso
                  have HSO : Hid (([97] : List UInt8) ≠ own) := hso
                  obtain ⟨v0, v1, v2, v3, v4⟩ := op5 ((Below.heap_alloc W3 (.cells #[.int .i64 1, .slice none 0 0, .slice none 0 0] 58) _ (Array.getElem?_eq_some_iff.1 (HA3.out.row List.mem_cons_self)).1).trans (HA3.out.row List.mem_cons_self))
                  clear hso
                  have HST : Hid (Calls Try.prog 17 #[.pointer (some ⟨D, 0, none⟩), .pointer (some ⟨W3.heap.size, 0, none⟩), .agg #[.int .i64 k2, .string { data := #[97] }, .string (tx key2), .string (tx st2), .string (tx te2)]] (W3.alloc (.cells #[.int .i64 1, .slice none 0 0, .slice none 0 0] 58)) fun e w2 => ∃ b, e = .returned (.bool b) ∧ Hid (AI w w2 C D most own (3 * (i : Int) + 1) [(px, .cells #[.int .i64 k2, .string { data := #[97] }, .string (tx key2), .string (tx st2), .string (tx te2)] 39 (0, 0)), (pb, .cells #[.int .i64 kind, .string (tx own), .string (tx key), .string (tx st), .string (tx te)] 39 (0, 0)), (nb, nmRow)] es p es p)) := (HA3.out.box _).step HI.out (fun q hq => by have := (Array.getElem?_eq_some_iff.1 (HA3.out.row hq)).1; omega) (HA3.out.below.size) k2 (s := [97]) (by simp [abc]) HSO.out key2 st2 te2 HNE.out
                  go_wp2_with (go_at_call 17; refine HST.out.mono ?_; rintro e w5 ⟨b5, rfl, H5⟩)
                  go_meet
                  exact H5.out.less (fun q hq => by simp at hq ⊢; rcases hq with rfl | rfl <;> simp)
              · go_upto_region 14 with (fail)
                obtain ⟨W3, hW3⟩ : ∃ W3, W2.setCell ⟨px, 1, none⟩ (.string { data := #[98] }) = W3 := ⟨_, rfl⟩
                have HA3 : Hid (AI w W3 C D most own (3 * (i : Int)) [(px, .cells #[.int .i64 k2, .string { data := #[98] }, .string (tx key2), .string (tx st2), .string (tx te2)] 39 (0, 0)), (pb, .cells #[.int .i64 kind, .string (tx own), .string (tx key), .string (tx st), .string (tx te)] 39 (0, 0)), (nb, nmRow)] es p es p) := by
                  rw [← hW3]
                  exact HA2.out.poke (i := 1) (fun q hq => by have := HPX.out; simp at hq; rcases hq with rfl | rfl <;> (dsimp only; omega)) _ HPX.out.1
                rw [hW3]
                clear hW3 x0 x1 x2 x3 x4 n0 n1 n2 xf HA2
                obtain ⟨z0, z1, z2, z3, z4⟩ := op5 (HA3.out.row List.mem_cons_self)
                by_cases hso : ([98] : List UInt8) = own
                · have hq : ({ data := #[98] } : ByteArray) = tx own := by rw [← hso]; rfl
                  have hq' : (({ data := #[98] } : ByteArray).toList == (tx own).toList) = true := by rw [hq]; simp
                  have hq2 : (([98] : List UInt8) == (tx own).toList) = true := by rw [tx_list]; simp [hso]
                  clear hso hq
                  go_wp2_with fail
                  go_meet
                  exact (HA3.out.less (fun q hq => by simp at hq ⊢; rcases hq with rfl | rfl <;> simp)).more (by omega)
                · have hq' : (({ data := #[98] } : ByteArray).toList == (tx own).toList) = false := by rw [show ({ data := #[98] } : ByteArray) = tx [98] from rfl, tx_list, tx_list]; simpa using hso
                  have hq2 : (([98] : List UInt8) == (tx own).toList) = false := by rw [tx_list]; simpa using hso
                  have HSO : Hid (([98] : List UInt8) ≠ own) := hso
                  obtain ⟨v0, v1, v2, v3, v4⟩ := op5 ((Below.heap_alloc W3 (.cells #[.int .i64 1, .slice none 0 0, .slice none 0 0] 58) _ (Array.getElem?_eq_some_iff.1 (HA3.out.row List.mem_cons_self)).1).trans (HA3.out.row List.mem_cons_self))
                  clear hso
                  have HST : Hid (Calls Try.prog 17 #[.pointer (some ⟨D, 0, none⟩), .pointer (some ⟨W3.heap.size, 0, none⟩), .agg #[.int .i64 k2, .string { data := #[98] }, .string (tx key2), .string (tx st2), .string (tx te2)]] (W3.alloc (.cells #[.int .i64 1, .slice none 0 0, .slice none 0 0] 58)) fun e w2 => ∃ b, e = .returned (.bool b) ∧ Hid (AI w w2 C D most own (3 * (i : Int) + 1) [(px, .cells #[.int .i64 k2, .string { data := #[98] }, .string (tx key2), .string (tx st2), .string (tx te2)] 39 (0, 0)), (pb, .cells #[.int .i64 kind, .string (tx own), .string (tx key), .string (tx st), .string (tx te)] 39 (0, 0)), (nb, nmRow)] es p es p)) := (HA3.out.box _).step HI.out (fun q hq => by have := (Array.getElem?_eq_some_iff.1 (HA3.out.row hq)).1; omega) (HA3.out.below.size) k2 (s := [98]) (by simp [abc]) HSO.out key2 st2 te2 HNE.out
                  go_wp2_with (go_at_call 17; refine HST.out.mono ?_; rintro e w5 ⟨b5, rfl, H5⟩)
                  go_meet
                  exact H5.out.less (fun q hq => by simp at hq ⊢; rcases hq with rfl | rfl <;> simp)
              · go_upto_region 14 with (fail)
                obtain ⟨W3, hW3⟩ : ∃ W3, W2.setCell ⟨px, 1, none⟩ (.string { data := #[99] }) = W3 := ⟨_, rfl⟩
                have HA3 : Hid (AI w W3 C D most own (3 * (i : Int)) [(px, .cells #[.int .i64 k2, .string { data := #[99] }, .string (tx key2), .string (tx st2), .string (tx te2)] 39 (0, 0)), (pb, .cells #[.int .i64 kind, .string (tx own), .string (tx key), .string (tx st), .string (tx te)] 39 (0, 0)), (nb, nmRow)] es p es p) := by
                  rw [← hW3]
                  exact HA2.out.poke (i := 1) (fun q hq => by have := HPX.out; simp at hq; rcases hq with rfl | rfl <;> (dsimp only; omega)) _ HPX.out.1
                rw [hW3]
                clear hW3 x0 x1 x2 x3 x4 n0 n1 n2 xf HA2
                obtain ⟨z0, z1, z2, z3, z4⟩ := op5 (HA3.out.row List.mem_cons_self)
                by_cases hso : ([99] : List UInt8) = own
                · have hq : ({ data := #[99] } : ByteArray) = tx own := by rw [← hso]; rfl
                  have hq' : (({ data := #[99] } : ByteArray).toList == (tx own).toList) = true := by rw [hq]; simp
                  have hq2 : (([99] : List UInt8) == (tx own).toList) = true := by rw [tx_list]; simp [hso]
                  clear hso hq
                  go_wp2_with fail
                  go_meet
                  exact (HA3.out.less (fun q hq => by simp at hq ⊢; rcases hq with rfl | rfl <;> simp)).more (by omega)
                · have hq' : (({ data := #[99] } : ByteArray).toList == (tx own).toList) = false := by rw [show ({ data := #[99] } : ByteArray) = tx [99] from rfl, tx_list, tx_list]; simpa using hso
                  have hq2 : (([99] : List UInt8) == (tx own).toList) = false := by rw [tx_list]; simpa using hso
                  have HSO : Hid (([99] : List UInt8) ≠ own) := hso
                  obtain ⟨v0, v1, v2, v3, v4⟩ := op5 ((Below.heap_alloc W3 (.cells #[.int .i64 1, .slice none 0 0, .slice none 0 0] 58) _ (Array.getElem?_eq_some_iff.1 (HA3.out.row List.mem_cons_self)).1).trans (HA3.out.row List.mem_cons_self))
                  clear hso
                  have HST : Hid (Calls Try.prog 17 #[.pointer (some ⟨D, 0, none⟩), .pointer (some ⟨W3.heap.size, 0, none⟩), .agg #[.int .i64 k2, .string { data := #[99] }, .string (tx key2), .string (tx st2), .string (tx te2)]] (W3.alloc (.cells #[.int .i64 1, .slice none 0 0, .slice none 0 0] 58)) fun e w2 => ∃ b, e = .returned (.bool b) ∧ Hid (AI w w2 C D most own (3 * (i : Int) + 1) [(px, .cells #[.int .i64 k2, .string { data := #[99] }, .string (tx key2), .string (tx st2), .string (tx te2)] 39 (0, 0)), (pb, .cells #[.int .i64 kind, .string (tx own), .string (tx key), .string (tx st), .string (tx te)] 39 (0, 0)), (nb, nmRow)] es p es p)) := (HA3.out.box _).step HI.out (fun q hq => by have := (Array.getElem?_eq_some_iff.1 (HA3.out.row hq)).1; omega) (HA3.out.below.size) k2 (s := [99]) (by simp [abc]) HSO.out key2 st2 te2 HNE.out
                  go_wp2_with (go_at_call 17; refine HST.out.mono ?_; rintro e w5 ⟨b5, rfl, H5⟩)
                  go_meet
                  exact H5.out.less (fun q hq => by simp at hq ⊢; rcases hq with rfl | rfl <;> simp)
          obtain ⟨W5, hW5⟩ : ∃ W5, W5 = wc := ⟨_, rfl⟩
          subst hW5
          have HR := hcut
          clear hcut hc HA1
          obtain ⟨x0, x1, x2, x3, x4⟩ := op5 (HR.out.row List.mem_cons_self)
          have HI : Hid (3 * (i : Int) + 1 ≤ 1000 ∧ 3 * (i : Int) + 1 + 1 ≤ 1000) := ⟨by omega, by omega⟩
          have hkinds : (kind = 2 ∨ kind = 3) ∨ (kind = 0 ∨ kind = 1) ∨ kind = 4 ∨ (kind ≠ 0 ∧ kind ≠ 1 ∧ kind ≠ 2 ∧ kind ≠ 3 ∧ kind ≠ 4) := by omega
          rcases hkinds with (rfl | rfl) | (rfl | rfl) | rfl | ⟨g0, g1, g2, g3, g4⟩
          focus
            have G1 : Hid (Calls Try.prog 23 #[.pointer (some ⟨C, 0, none⟩), .string (tx own), .string (tx key), .string (tx st)] W5 fun e w2 => e = .returned (.tuple #[.string (tx (getT (lkE key es) st)), .bool (hitB (lkE key es) st)]) ∧ Hid (AI w w2 C D most own (3 * (i : Int) + 1 + 1) [(pb, .cells #[.int .i64 2, .string (tx own), .string (tx key), .string (tx st), .string (tx te)] 39 (0, 0)), (nb, nmRow)] (getEE key st es) (getN key st es p) es p)) := HR.out.get1 (by have := HI.out; omega) key st
            go_upto_region 18 with (go_at_call 23; refine G1.out.mono ?_; rintro e w6 ⟨rfl, H6⟩)
            clear x0 x1 x2 x3 x4 G1
            obtain ⟨z0, z1, z2, z3, z4⟩ := op5 (H6.out.row List.mem_cons_self)
            have G2 : Hid (Calls Try.prog 23 #[.pointer (some ⟨D, 0, none⟩), .string (tx own), .string (tx key), .string (tx st)] w6 fun e w2 => e = .returned (.tuple #[.string (tx (getT (lkE key es) st)), .bool (hitB (lkE key es) st)]) ∧ Hid (AI w w2 C D most own (3 * (i : Int) + 1 + 1 + 1) [(pb, .cells #[.int .i64 2, .string (tx own), .string (tx key), .string (tx st), .string (tx te)] 39 (0, 0)), (nb, nmRow)] (getEE key st es) (getN key st es p) (getEE key st es) (getN key st es p))) := H6.out.get2 (by have := HI.out; omega) key st
            go_upto_region 19 with (go_at_call 23; refine G2.out.mono ?_; rintro e wz ⟨rfl, H7⟩)
            clear z0 z1 z2 z3 z4 G2 H6
            obtain ⟨x0, x1, x2, x3, x4⟩ := op5 (H7.out.row List.mem_cons_self)
            have HZ0 : Hid (∃ e1 p1, AI w wz C D most own (3 * (i : Int) + 3) [(nb, nmRow)] e1 p1 e1 p1) := ⟨_, _, (H7.out.less (fun q hq => by simp at hq ⊢; exact .inr hq)).more (by omega)⟩
            clear H7
            generalize getT (lkE key es) st = T1
            generalize hitB (lkE key es) st = B1
            go_upto_region 26 with (fail)
          rotate_left 1
          focus
            have G1 : Hid (Calls Try.prog 23 #[.pointer (some ⟨C, 0, none⟩), .string (tx own), .string (tx key), .string (tx st)] W5 fun e w2 => e = .returned (.tuple #[.string (tx (getT (lkE key es) st)), .bool (hitB (lkE key es) st)]) ∧ Hid (AI w w2 C D most own (3 * (i : Int) + 1 + 1) [(pb, .cells #[.int .i64 3, .string (tx own), .string (tx key), .string (tx st), .string (tx te)] 39 (0, 0)), (nb, nmRow)] (getEE key st es) (getN key st es p) es p)) := HR.out.get1 (by have := HI.out; omega) key st
            go_upto_region 18 with (go_at_call 23; refine G1.out.mono ?_; rintro e w6 ⟨rfl, H6⟩)
            clear x0 x1 x2 x3 x4 G1
            obtain ⟨z0, z1, z2, z3, z4⟩ := op5 (H6.out.row List.mem_cons_self)
            have G2 : Hid (Calls Try.prog 23 #[.pointer (some ⟨D, 0, none⟩), .string (tx own), .string (tx key), .string (tx st)] w6 fun e w2 => e = .returned (.tuple #[.string (tx (getT (lkE key es) st)), .bool (hitB (lkE key es) st)]) ∧ Hid (AI w w2 C D most own (3 * (i : Int) + 1 + 1 + 1) [(pb, .cells #[.int .i64 3, .string (tx own), .string (tx key), .string (tx st), .string (tx te)] 39 (0, 0)), (nb, nmRow)] (getEE key st es) (getN key st es p) (getEE key st es) (getN key st es p))) := H6.out.get2 (by have := HI.out; omega) key st
            go_upto_region 19 with (go_at_call 23; refine G2.out.mono ?_; rintro e wz ⟨rfl, H7⟩)
            clear z0 z1 z2 z3 z4 G2 H6
            obtain ⟨x0, x1, x2, x3, x4⟩ := op5 (H7.out.row List.mem_cons_self)
            have HZ0 : Hid (∃ e1 p1, AI w wz C D most own (3 * (i : Int) + 3) [(nb, nmRow)] e1 p1 e1 p1) := ⟨_, _, (H7.out.less (fun q hq => by simp at hq ⊢; exact .inr hq)).more (by omega)⟩
            clear H7
            generalize getT (lkE key es) st = T1
            generalize hitB (lkE key es) st = B1
            go_upto_region 26 with (fail)
          rotate_left 1
          focus
            have HP1 : Hid (Calls Try.prog 22 #[.pointer (some ⟨C, 0, none⟩), .string (tx own), .string (tx key), .string (tx st), .string (tx te)] W5.drew fun e w2 => e = .returned (.int .i64 (putR key te)) ∧ AI w w2 C D most own (3 * (i : Int) + 1) [(pb, .cells #[.int .i64 0, .string (tx own), .string (tx key), .string (tx st), .string (tx te)] 39 (0, 0)), (nb, nmRow)] (putL most es key st te) p es p) := (HR.out.newer (drew_below W5)).put1 key st te
            go_upto_region 22 with (fail)
            clear x0 x1
            go_region_held3 (fun w' => w'.cell? ⟨pb, 2, none⟩ = some (.string (tx key)) ∧ w'.cell? ⟨pb, 3, none⟩ = some (.string (tx st)) ∧ w'.cell? ⟨pb, 4, none⟩ = some (.string (tx te))) (first | exact K9 | exact K8 | go_keep) (first | (go_at_call 22; refine HP1.out.mono ?_; rintro e w8 ⟨rfl, hm8⟩; (have HM8 : Hid (AI w w8 C D most own (3 * (i : Int) + 1) [(pb, .cells #[.int .i64 0, .string (tx own), .string (tx key), .string (tx st), .string (tx te)] 39 (0, 0)), (nb, nmRow)] (putL most es key st te) p es p) := hm8); (have K8 := (op5 (hm8.row List.mem_cons_self)).2.2); clear hm8 HP1) | (go_at_call 22; refine (HM8.out.put2 key st te).mono ?_; rintro e wz ⟨rfl, hm9⟩; (have HM9 : Hid (AI w wz C D most own (3 * (i : Int) + 1) [(pb, .cells #[.int .i64 0, .string (tx own), .string (tx key), .string (tx st), .string (tx te)] 39 (0, 0)), (nb, nmRow)] (putL most es key st te) p (putL most es key st te) p) := hm9); (have K9 := (op5 (hm9.row List.mem_cons_self)).2.2); clear hm9))
            have HZ0 : Hid (∃ e1 p1, AI w wz C D most own (3 * (i : Int) + 3) [(nb, nmRow)] e1 p1 e1 p1) := ⟨_, _, (HM9.out.less (fun q hq => by simp at hq ⊢; exact .inr hq)).more (by omega)⟩
            obtain ⟨x0, x1, x2', x3', x4'⟩ := op5 (HM9.out.row List.mem_cons_self)
            clear K8 K9 HM8 HM9
            go_upto_region 26 with (fail)
          rotate_left 1
          focus
            have HP1 : Hid (Calls Try.prog 22 #[.pointer (some ⟨C, 0, none⟩), .string (tx own), .string (tx key), .string (tx st), .string (tx te)] W5.drew fun e w2 => e = .returned (.int .i64 (putR key te)) ∧ AI w w2 C D most own (3 * (i : Int) + 1) [(pb, .cells #[.int .i64 1, .string (tx own), .string (tx key), .string (tx st), .string (tx te)] 39 (0, 0)), (nb, nmRow)] (putL most es key st te) p es p) := (HR.out.newer (drew_below W5)).put1 key st te
            go_upto_region 22 with (fail)
            clear x0 x1
            go_region_held3 (fun w' => w'.cell? ⟨pb, 2, none⟩ = some (.string (tx key)) ∧ w'.cell? ⟨pb, 3, none⟩ = some (.string (tx st)) ∧ w'.cell? ⟨pb, 4, none⟩ = some (.string (tx te))) (first | exact K9 | exact K8 | go_keep) (first | (go_at_call 22; refine HP1.out.mono ?_; rintro e w8 ⟨rfl, hm8⟩; (have HM8 : Hid (AI w w8 C D most own (3 * (i : Int) + 1) [(pb, .cells #[.int .i64 1, .string (tx own), .string (tx key), .string (tx st), .string (tx te)] 39 (0, 0)), (nb, nmRow)] (putL most es key st te) p es p) := hm8); (have K8 := (op5 (hm8.row List.mem_cons_self)).2.2); clear hm8 HP1) | (go_at_call 22; refine (HM8.out.put2 key st te).mono ?_; rintro e wz ⟨rfl, hm9⟩; (have HM9 : Hid (AI w wz C D most own (3 * (i : Int) + 1) [(pb, .cells #[.int .i64 1, .string (tx own), .string (tx key), .string (tx st), .string (tx te)] 39 (0, 0)), (nb, nmRow)] (putL most es key st te) p (putL most es key st te) p) := hm9); (have K9 := (op5 (hm9.row List.mem_cons_self)).2.2); clear hm9))
            have HZ0 : Hid (∃ e1 p1, AI w wz C D most own (3 * (i : Int) + 3) [(nb, nmRow)] e1 p1 e1 p1) := ⟨_, _, (HM9.out.less (fun q hq => by simp at hq ⊢; exact .inr hq)).more (by omega)⟩
            obtain ⟨x0, x1, x2', x3', x4'⟩ := op5 (HM9.out.row List.mem_cons_self)
            clear K8 K9 HM8 HM9
            go_upto_region 26 with (fail)
          rotate_left 1
          focus
            have HF1 : Hid (Calls Try.prog 24 #[.pointer (some ⟨C, 0, none⟩), .string (tx own)] W5 fun e w2 => e = .returned (.int .i64 (es.length : Int)) ∧ Hid (AI w w2 C D most own (3 * (i : Int) + 1) [(pb, .cells #[.int .i64 4, .string (tx own), .string (tx key), .string (tx st), .string (tx te)] 39 (0, 0)), (nb, nmRow)] [] p es p)) := HR.out.forget1
            generalize hel : (es.length : Int) = el at HF1
            have HEL : Hid ((es.length : Int) = el) := hel
            clear hel
            go_upto_region 26 with (first | (go_at_call 24; refine HF1.out.mono ?_; rintro e w6 ⟨rfl, H6⟩; clear HF1; (have HF2 : Hid (Calls Try.prog 24 #[.pointer (some ⟨D, 0, none⟩), .string (tx own)] w6 fun e w2 => e = .returned (.int .i64 el) ∧ Hid (AI w w2 C D most own (3 * (i : Int) + 1) [(pb, .cells #[.int .i64 4, .string (tx own), .string (tx key), .string (tx st), .string (tx te)] 39 (0, 0)), (nb, nmRow)] [] p [] p)) := (by have := H6.out.forget2; rw [HEL.out] at this; exact this))) | (go_at_call 24; refine HF2.out.mono ?_; rintro e wz ⟨rfl, H7⟩; clear HF2))
            have HZ0 : Hid (∃ e1 p1, AI w wz C D most own (3 * (i : Int) + 3) [(nb, nmRow)] e1 p1 e1 p1) := ⟨_, _, (H7.out.less (fun q hq => by simp at hq ⊢; exact .inr hq)).more (by omega)⟩
          rotate_left 1
          focus
            have q0 : (kind == 0) = false := by simpa using g0
            have q1 : (kind == 1) = false := by simpa using g1
            have q2 : (kind == 2) = false := by simpa using g2
            have q3 : (kind == 3) = false := by simpa using g3
            have q4 : (kind == 4) = false := by simpa using g4
            clear g0 g1 g2 g3 g4
            obtain ⟨wz, hwz⟩ : ∃ wz, wz = W5 := ⟨_, rfl⟩
            subst hwz
            have HZ0 : Hid (∃ e1 p1, AI w wz C D most own (3 * (i : Int) + 3) [(nb, nmRow)] e1 p1 e1 p1) := ⟨_, _, (HR.out.less (fun q hq => by simp at hq ⊢; exact .inr hq)).more (by omega)⟩
            go_upto_region 26 with (fail)
          rotate_left 1
          all_goals
            obtain ⟨e1, p1, hz⟩ := HZ0.out
            have HZ : Hid (AI w wz C D most own (3 * (i : Int) + 3) [(nb, nmRow)] e1 p1 e1 p1) := hz
            obtain ⟨l1, l2⟩ := hz.lens
            have HL1 : Hid (Calls Try.prog 18 #[.pointer (some ⟨C, 0, none⟩), .string (tx own)] wz (fun e w2 => e = .returned (.int .i64 (e1.length : Int)) ∧ w2 = wz)) := l1
            have HL2 : Hid (Calls Try.prog 18 #[.pointer (some ⟨D, 0, none⟩), .string (tx own)] wz (fun e w2 => e = .returned (.int .i64 (e1.length : Int)) ∧ w2 = wz)) := l2
            have HC1 : Hid (Calls Try.prog 20 #[.pointer (some ⟨C, 0, none⟩), .string (tx own)] wz fun e w2 => e = .returned (.agg #[.int .i64 p1.1, .int .i64 p1.2]) ∧ Hid (AI w w2 C D most own (3 * (i : Int) + 3) [(nb, nmRow)] e1 p1 e1 p1)) := hz.count1
            clear hz l1 l2 HZ0
            generalize (e1.length : Int) = el1 at HL1 HL2
            go_wp2_with (first | (go_at_call 18; refine HL1.out.mono ?_; rintro e w10 ⟨rfl, hw10⟩; rw [hw10]; clear hw10 HL1) | (go_at_call 18; refine HL2.out.mono ?_; rintro e w11 ⟨rfl, hw11⟩; rw [hw11]; clear hw11 HL2) | (go_at_call 20; refine HC1.out.mono ?_; rintro e w12 ⟨rfl, H12⟩; clear HC1; (have HC2 : Hid (Calls Try.prog 20 #[.pointer (some ⟨D, 0, none⟩), .string (tx own)] w12 fun e w2 => e = .returned (.agg #[.int .i64 p1.1, .int .i64 p1.2]) ∧ Hid (AI w w2 C D most own (3 * (i : Int) + 3) [(nb, nmRow)] e1 p1 e1 p1)) := H12.out.count2)) | (go_at_call 20; refine HC2.out.mono ?_; rintro e w13 ⟨rfl, H13⟩; clear HC2; (have heq := eqCnt p1.1 p1.2 w13)))
            go_roundw
            case rel => exact ⟨i + 1, e1, p1, by go_num, HJ.out.1, HJ.out.2, by have := H13.out; rwa [show 3 * (i : Int) + 3 = 3 * ((i + 1 : Nat) : Int) by omega] at this⟩
            case measure => have := HJ.out.1; simp [intOf]; omega
        · obtain rfl : i = 200 := by omega
          rw [show ((200 : Nat) : Int) = 200 from rfl] at cl' ⊢
          clear c2 cl hi hil
          go_wp2_with (go_at_call 9; refine (known_any _).mono ?_; rintro e w3 ⟨rfl, hb3⟩; (have HB3 : Hid (Below wr.heap.size wr w3) := hb3); clear hb3)
          go_ret
          exact ⟨rfl, H.out.below.trans (HB3.out.mono H.out.below.size)⟩
      · obtain rfl : i = len := by omega
        clear cl hi hil
        go_wp2_with (go_at_call 9; refine (known_any _).mono ?_; rintro e w3 ⟨rfl, hb3⟩; (have HB3 : Hid (Below wr.heap.size wr w3) := hb3); clear hb3)
        go_ret
        exact ⟨rfl, H.out.below.trans (HB3.out.mono H.out.below.size)⟩
  · have hno : most < 1 ∨ 64 < most := by omega
    have HNEW : Hid (Calls Try.prog 15 #[.int .i64 most] w fun e w' => e = .returned (.pointer none) ∧ w' = w) := cnew_none most hno w
    clear hx hb hm hno
    go_enter Try.func6, Try.ntmps6
    go_wp2_with (first | (go_at_call 15; refine HNEW.out.mono ?_; rintro e w1 ⟨rfl, hw1⟩; rw [hw1]; clear hw1) | (go_at_call 9; refine (known_any _).mono ?_; rintro e w4 ⟨rfl, hb4⟩; (have HB4 : Hid (Below w.heap.size w w4) := hb4); clear hb4))
    go_ret
    exact ⟨rfl, HB4.out⟩
end Go.Proofs.Ytbcdaddbcjagjaa
