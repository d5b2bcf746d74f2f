/- A text that is read: the next byte, a byte taken, blanks, signs. -/
import Derived.Test.YtgmpmpgfpchbcaaGreatDoorT1
import Derived.Laws.Rows
import Derived.Deep.LoopGhost
namespace Go.Proofs.YtgmpmpgfpchbcaaGreatDoor
open Go.RowKit
set_option linter.unusedVariables false
set_option linter.unusedSimpArgs false

/-- A text that is read, and where. -/
structure Sc (w : World) (C : Nat) (t : List UInt8) (i : Nat) : Prop where
  cells : w.heap[C]? = some (.cells #[.string (tx t), .int .i64 (i : Int)] 92 (0, 0))
  le : i ≤ t.length
  sm : (t.length : Int) ≤ 65536
theorem Sc.drewN {w : World} {C : Nat} {t : List UInt8} {i : Nat} (h : Sc w C t i) (q : Nat) : Sc (w.drewN q) C t i := ⟨h.cells, h.le, h.sm⟩
theorem Sc.c0 {w : World} {C : Nat} {t : List UInt8} {i : Nat} (h : Sc w C t i) : w.cell? ⟨C, 0, none⟩ = some (.string (tx t)) := by rw [cell_of_row _ _ _ _ _ _ h.cells]; rfl
theorem Sc.c1 {w : World} {C : Nat} {t : List UInt8} {i : Nat} (h : Sc w C t i) : w.cell? ⟨C, 1, none⟩ = some (.int .i64 (i : Int)) := by rw [cell_of_row _ _ _ _ _ _ h.cells]; rfl
theorem Sc.f1 {w : World} {C : Nat} {t : List UInt8} {i : Nat} (h : Sc w C t i) : w.frozen? ⟨C, 1, none⟩ = false := frozen_of_row _ _ _ _ _ h.cells
theorem Sc.set {w : World} {C : Nat} {t : List UInt8} {i : Nat} (h : Sc w C t i) (j : Nat) (hj : j ≤ t.length) : Sc (w.setCell ⟨C, 1, none⟩ (.int .i64 (j : Int))) C t j :=
  ⟨by rw [heap_setCell_same _ _ _ _ _ _ h.cells]; rfl, hj, h.sm⟩
theorem grown_refl (w : World) (r : Option Nat) : w.grownBy w r := ⟨rfl, rfl, rfl, Nat.le_refl _, fun _ _ _ => rfl⟩
theorem grown_drewN (w : World) (q : Nat) (r : Option Nat) : w.grownBy (w.drewN q) r := ⟨rfl, rfl, rfl, Nat.le_refl _, fun _ _ _ => rfl⟩
theorem grown_trans {a b c : World} {r : Option Nat} (h : a.grownBy b r) (k : b.grownBy c r) : a.grownBy c r :=
  ⟨k.os.trans h.os, k.tape.trans h.tape, k.output.trans h.output, Nat.le_trans h.size k.size, fun q hq hr => (k.block q (Nat.lt_of_lt_of_le hq h.size) hr).trans (h.block q hq hr)⟩
theorem grown_set (w : World) (C o : Nat) (v : Value) : w.grownBy (w.setCell ⟨C, o, none⟩ v) (some C) := ⟨rfl, rfl, rfl, by simp, fun q hq hr => Below.heap_setCell _ _ _ _ (fun e => hr (by rw [e]))⟩
set_option maxHeartbeats 2000000 in
theorem next_some (C : Nat) (t : List UInt8) (i : Nat) (c : UInt8) (w : World) (h : Sc w C t i) (hc : t[i]? = some c) : Calls Tryz.prog 74 #[.pointer (some ⟨C, 0, none⟩)] w fun e w' => e = .returned (.tuple #[.int .u8 (c.toNat : Int), .bool true]) ∧ ∃ q, w' = w.drewN q := by
  have hlt : i < t.length := (List.getElem?_eq_some_iff.1 hc).1
  have hsz : (tx t).size = t.length := tx_size t
  have hne : ((i : Int) == (t.length : Int)) = false := by simp; omega
  have hne' : ¬ (i : Int) = (t.length : Int) := by omega
  have c0 : w.drew.cell? ⟨C, 0, none⟩ = some (.string (tx t)) := h.c0
  have c1 : w.drew.cell? ⟨C, 1, none⟩ = some (.int .i64 (i : Int)) := h.c1
  have c2 : w.drew.drew.cell? ⟨C, 0, none⟩ = some (.string (tx t)) := h.c0
  have c3 : w.drew.drew.cell? ⟨C, 1, none⟩ = some (.int .i64 (i : Int)) := h.c1
  have hix := fun W => tx_at t i c hc .i64 W
  clear h hc
  go_enter Tryz.func74, Tryz.ntmps74
  go_upto_region 1 with fail
  refine wp_region_still_lit (by kernel_rfl) (by kernel_rfl) (still_of_quiet _ _ ?_)
  rw [show ({ w with drawn := w.drawn + 1 } : World) = w.drew from rfl]
  repeat (first | go_big_quiet_skip | (go_big_quiet_want; go_big_quiet_op; go_big_quiet_on))
  refine wpQuiet_nil ?_
  go_upto_region 3 with fail
  refine wp_region_still_lit (by kernel_rfl) (by kernel_rfl) (still_of_quiet _ _ ?_)
  rw [show ({ w.drew with drawn := w.drew.drawn + 1 } : World) = w.drew.drew from rfl]
  repeat (first | go_big_quiet_skip | (go_big_quiet_want; go_big_quiet_op; go_big_quiet_on))
  refine wpQuiet_nil ?_
  go_wp2_with fail
  go_ret2
  exact ⟨rfl, 2, rfl⟩
set_option maxHeartbeats 2000000 in
theorem next_none (C : Nat) (t : List UInt8) (w : World) (h : Sc w C t t.length) : Calls Tryz.prog 74 #[.pointer (some ⟨C, 0, none⟩)] w fun e w' => e = .returned (.tuple #[.int .u8 0, .bool false]) ∧ ∃ q, w' = w.drewN q := by
  have hsz : (tx t).size = t.length := tx_size t
  have c0 : w.drew.cell? ⟨C, 0, none⟩ = some (.string (tx t)) := h.c0
  have c1 : w.drew.cell? ⟨C, 1, none⟩ = some (.int .i64 (t.length : Int)) := h.c1
  clear h
  go_enter Tryz.func74, Tryz.ntmps74
  go_upto_region 1 with fail
  refine wp_region_still_lit (by kernel_rfl) (by kernel_rfl) (still_of_quiet _ _ ?_)
  rw [show ({ w with drawn := w.drawn + 1 } : World) = w.drew from rfl]
  repeat (first | go_big_quiet_skip | (go_big_quiet_want; go_big_quiet_op; go_big_quiet_on))
  refine wpQuiet_nil ?_
  go_wp2_with fail
  go_ret2
  exact ⟨rfl, 1, rfl⟩
set_option maxHeartbeats 2000000 in
theorem take_yes (C : Nat) (t : List UInt8) (i : Nat) (c : UInt8) (w : World) (h : Sc w C t i) (hc : t[i]? = some c) : Calls Tryz.prog 76 #[.pointer (some ⟨C, 0, none⟩), .int .u8 (c.toNat : Int)] w fun e w' => e = .returned (.bool true) ∧ Sc w' C t (i + 1) ∧ w.grownBy w' (some C) := by
  have HN : Hid (Calls Tryz.prog 74 #[.pointer (some ⟨C, 0, none⟩)] w fun e w' => e = .returned (.tuple #[.int .u8 (c.toNat : Int), .bool true]) ∧ ∃ q, w' = w.drewN q) := next_some C t i c w h hc
  have hlt : i < t.length := (List.getElem?_eq_some_iff.1 hc).1
  have hsm : (i : Int) ≤ 65536 := by have := h.sm; omega
  have HS : Hid (Sc w C t i) := h
  clear h hc
  go_enter Tryz.func76, Tryz.ntmps76
  go_upto_region 4 with (go_at_call 74; refine HN.out.mono ?_; rintro e w1 ⟨rfl, q, hw1⟩; (have HS1 : Hid (Sc w1 C t i ∧ w.grownBy w1 (some C)) := by rw [hw1]; exact ⟨HS.out.drewN q, grown_drewN w q _⟩); clear hw1)
  have c1 := HS1.out.1.c1
  have f1 := HS1.out.1.f1
  go_wp2_with fail
  go_ret
  exact ⟨rfl, HS1.out.1.set (i + 1) (by omega), grown_trans HS1.out.2 (grown_set _ _ _ _)⟩
theorem take_no (C : Nat) (t : List UInt8) (i : Nat) (x : UInt8) (w : World) (h : Sc w C t i) (hc : t[i]? ≠ some x) : Calls Tryz.prog 76 #[.pointer (some ⟨C, 0, none⟩), .int .u8 (x.toNat : Int)] w fun e w' => e = .returned (.bool false) ∧ Sc w' C t i ∧ w.grownBy w' (some C) := by
  have HS : Hid (Sc w C t i) := h
  cases hq : t[i]? with
  | none =>
    have hi : i = t.length := by have := h.le; have := List.getElem?_eq_none_iff.1 hq; omega
    subst hi
    have HN : Hid (Calls Tryz.prog 74 #[.pointer (some ⟨C, 0, none⟩)] w fun e w' => e = .returned (.tuple #[.int .u8 0, .bool false]) ∧ ∃ q, w' = w.drewN q) := next_none C t w h
    clear h hc hq
    go_enter Tryz.func76, Tryz.ntmps76
    go_wp2_with (go_at_call 74; refine HN.out.mono ?_; rintro e w1 ⟨rfl, q, hw1⟩; (have HS1 : Hid (Sc w1 C t t.length ∧ w.grownBy w1 (some C)) := by rw [hw1]; exact ⟨HS.out.drewN q, grown_drewN w q _⟩); clear hw1)
    go_ret
    exact ⟨rfl, HS1.out⟩
  | some c =>
    have HN : Hid (Calls Tryz.prog 74 #[.pointer (some ⟨C, 0, none⟩)] w fun e w' => e = .returned (.tuple #[.int .u8 (c.toNat : Int), .bool true]) ∧ ∃ q, w' = w.drewN q) := next_some C t i c w h hq
    have hne : ¬ (x.toNat : Int) = (c.toNat : Int) := fun e => hc (by rw [hq]; congr 1; exact UInt8.toNat_inj.1 (by omega))
    have hnb : ((x.toNat : Int) == (c.toNat : Int)) = false := by simpa using hne
    clear h hc hq
    go_enter Tryz.func76, Tryz.ntmps76
    go_wp2_with (go_at_call 74; refine HN.out.mono ?_; rintro e w1 ⟨rfl, q, hw1⟩; (have HS1 : Hid (Sc w1 C t i ∧ w.grownBy w1 (some C)) := by rw [hw1]; exact ⟨HS.out.drewN q, grown_drewN w q _⟩); clear hw1)
    go_ret
    exact ⟨rfl, HS1.out⟩
/-- Blanks, from one place on to another one. -/
def Bl (t : List UInt8) (i j : Nat) : Prop := i ≤ j ∧ (∀ m, i ≤ m → m < j → t[m]? = some 32 ∨ t[m]? = some 9) ∧ t[j]? ≠ some 32 ∧ t[j]? ≠ some 9
set_option maxHeartbeats 2000000 in
theorem blanks_any (C : Nat) (t : List UInt8) (i j : Nat) (w : World) (h : Sc w C t i) (hb : Bl t i j) : Calls Tryz.prog 75 #[.pointer (some ⟨C, 0, none⟩)] w fun e w' => e = .returned (.tuple #[]) ∧ Sc w' C t j ∧ w.grownBy w' (some C) := by
  have HB : Hid (Bl t i j) := hb
  have HS : Hid (Sc w C t i) := h
  clear h hb
  go_enter Tryz.func75, Tryz.ntmps75
  go_wp2_with fail
  go_loopg [2] (j - i + 1) (fun gk v wx => ∃ m, i ≤ m ∧ m ≤ j ∧ j - m < gk ∧ Sc wx C t m ∧ w.grownBy wx (some C))
  case atStart => exact ⟨i, Nat.le_refl _, HB.out.1, by omega, HS.out, grown_refl _ _⟩
  case round =>
    obtain ⟨m, h1, h2, h3, h4, h5⟩ := hrel
    obtain ⟨g', rfl⟩ : ∃ g', gk = g' + 1 := ⟨gk - 1, by omega⟩
    have HR : Hid (Sc wr C t m ∧ w.grownBy wr (some C)) := ⟨h4, h5⟩
    clear h4 h5
    by_cases hlt : m < j
    · rcases HB.out.2.1 m h1 hlt with hc | hc
      · have HT : Hid (Calls Tryz.prog 76 #[.pointer (some ⟨C, 0, none⟩), .int .u8 32] wr fun e w' => e = .returned (.bool true) ∧ Sc w' C t (m + 1) ∧ wr.grownBy w' (some C)) := take_yes C t m 32 wr HR.out.1 hc
        clear hc
        go_wp2_with (go_at_call 76; refine HT.out.mono ?_; rintro e w1 ⟨rfl, hs1, hg1⟩; (have HS1 : Hid (Sc w1 C t (m + 1) ∧ wr.grownBy w1 (some C)) := ⟨hs1, hg1⟩); clear hs1 hg1)
        go_roundg g'
        case measure => omega
        case rel => exact ⟨m + 1, by omega, by omega, by omega, HS1.out.1, grown_trans HR.out.2 HS1.out.2⟩
      · have HT : Hid (Calls Tryz.prog 76 #[.pointer (some ⟨C, 0, none⟩), .int .u8 32] wr fun e w' => e = .returned (.bool false) ∧ Sc w' C t m ∧ wr.grownBy w' (some C)) := take_no C t m 32 wr HR.out.1 (by rw [hc]; decide)
        have HT2 : Hid (∀ W, Sc W C t m → Calls Tryz.prog 76 #[.pointer (some ⟨C, 0, none⟩), .int .u8 9] W fun e w' => e = .returned (.bool true) ∧ Sc w' C t (m + 1) ∧ W.grownBy w' (some C)) := fun W hS => take_yes C t m 9 W hS hc
        clear hc
        go_wp2_with (first | (go_at_call 76; refine HT.out.mono ?_; rintro e w1 ⟨rfl, hs1, hg1⟩; (have HS1 : Hid (Sc w1 C t m ∧ wr.grownBy w1 (some C)) := ⟨hs1, hg1⟩); clear hs1 hg1 HT) | (go_at_call 76; refine (HT2.out w1 HS1.out.1).mono ?_; rintro e w2 ⟨rfl, hs1, hg1⟩; (have HS2 : Hid (Sc w2 C t (m + 1) ∧ w1.grownBy w2 (some C)) := ⟨hs1, hg1⟩); clear hs1 hg1))
        go_roundg g'
        case measure => omega
        case rel => exact ⟨m + 1, by omega, by omega, by omega, HS2.out.1, grown_trans HR.out.2 (grown_trans HS1.out.2 HS2.out.2)⟩
    · have hmj : m = j := by omega
      subst hmj
      have HT : Hid (Calls Tryz.prog 76 #[.pointer (some ⟨C, 0, none⟩), .int .u8 32] wr fun e w' => e = .returned (.bool false) ∧ Sc w' C t m ∧ wr.grownBy w' (some C)) := take_no C t m 32 wr HR.out.1 HB.out.2.2.1
      have HT2 : Hid (∀ W, Sc W C t m → Calls Tryz.prog 76 #[.pointer (some ⟨C, 0, none⟩), .int .u8 9] W fun e w' => e = .returned (.bool false) ∧ Sc w' C t m ∧ W.grownBy w' (some C)) := fun W hS => take_no C t m 9 W hS HB.out.2.2.2
      go_wp2_with (first | (go_at_call 76; refine HT.out.mono ?_; rintro e w1 ⟨rfl, hs1, hg1⟩; (have HS1 : Hid (Sc w1 C t m ∧ wr.grownBy w1 (some C)) := ⟨hs1, hg1⟩); clear hs1 hg1 HT) | (go_at_call 76; refine (HT2.out w1 HS1.out.1).mono ?_; rintro e w2 ⟨rfl, hs1, hg1⟩; (have HS2 : Hid (Sc w2 C t m ∧ w1.grownBy w2 (some C)) := ⟨hs1, hg1⟩); clear hs1 hg1))
      go_end0
      exact ⟨rfl, HS2.out.1, grown_trans HR.out.2 (grown_trans HS1.out.2 HS2.out.2)⟩
theorem sign_yes (C : Nat) (t : List UInt8) (i j k : Nat) (x : UInt8) (w : World) (h : Sc w C t i) (hb : Bl t i j) (hx : t[j]? = some x) (hb2 : Bl t (j + 1) k) : Calls Tryz.prog 73 #[.pointer (some ⟨C, 0, none⟩), .int .u8 (x.toNat : Int)] w fun e w' => e = .returned (.bool true) ∧ Sc w' C t k ∧ w.grownBy w' (some C) := by
  have H1 : Hid (Calls Tryz.prog 75 #[.pointer (some ⟨C, 0, none⟩)] w fun e w' => e = .returned (.tuple #[]) ∧ Sc w' C t j ∧ w.grownBy w' (some C)) := blanks_any C t i j w h hb
  have H2 : Hid (∀ W, Sc W C t j → Calls Tryz.prog 76 #[.pointer (some ⟨C, 0, none⟩), .int .u8 (x.toNat : Int)] W fun e w' => e = .returned (.bool true) ∧ Sc w' C t (j + 1) ∧ W.grownBy w' (some C)) := fun W hS => take_yes C t j x W hS hx
  have H3 : Hid (∀ W, Sc W C t (j + 1) → Calls Tryz.prog 75 #[.pointer (some ⟨C, 0, none⟩)] W fun e w' => e = .returned (.tuple #[]) ∧ Sc w' C t k ∧ W.grownBy w' (some C)) := fun W hS => blanks_any C t (j + 1) k W hS hb2
  clear h hb hx hb2
  go_enter Tryz.func73, Tryz.ntmps73
  go_wp2_with (first | (go_at_call 75; refine H1.out.mono ?_; rintro e w1 ⟨rfl, hs1, hg1⟩; (have HS1 : Hid (Sc w1 C t j ∧ w.grownBy w1 (some C)) := ⟨hs1, hg1⟩); clear hs1 hg1 H1) | (go_at_call 76; refine (H2.out w1 HS1.out.1).mono ?_; rintro e w2 ⟨rfl, hs1, hg1⟩; (have HS2 : Hid (Sc w2 C t (j + 1) ∧ w1.grownBy w2 (some C)) := ⟨hs1, hg1⟩); clear hs1 hg1) | (go_at_call 75; refine (H3.out w2 HS2.out.1).mono ?_; rintro e w3 ⟨rfl, hs1, hg1⟩; (have HS3 : Hid (Sc w3 C t k ∧ w2.grownBy w3 (some C)) := ⟨hs1, hg1⟩); clear hs1 hg1))
  go_ret
  exact ⟨rfl, HS3.out.1, grown_trans HS1.out.2 (grown_trans HS2.out.2 HS3.out.2)⟩
theorem sign_no (C : Nat) (t : List UInt8) (i j : Nat) (x : UInt8) (w : World) (h : Sc w C t i) (hb : Bl t i j) (hx : t[j]? ≠ some x) : Calls Tryz.prog 73 #[.pointer (some ⟨C, 0, none⟩), .int .u8 (x.toNat : Int)] w fun e w' => e = .returned (.bool false) ∧ Sc w' C t j ∧ w.grownBy w' (some C) := by
  have H1 : Hid (Calls Tryz.prog 75 #[.pointer (some ⟨C, 0, none⟩)] w fun e w' => e = .returned (.tuple #[]) ∧ Sc w' C t j ∧ w.grownBy w' (some C)) := blanks_any C t i j w h hb
  have H2 : Hid (∀ W, Sc W C t j → Calls Tryz.prog 76 #[.pointer (some ⟨C, 0, none⟩), .int .u8 (x.toNat : Int)] W fun e w' => e = .returned (.bool false) ∧ Sc w' C t j ∧ W.grownBy w' (some C)) := fun W hS => take_no C t j x W hS hx
  clear h hb hx
  go_enter Tryz.func73, Tryz.ntmps73
  go_wp2_with (first | (go_at_call 75; refine H1.out.mono ?_; rintro e w1 ⟨rfl, hs1, hg1⟩; (have HS1 : Hid (Sc w1 C t j ∧ w.grownBy w1 (some C)) := ⟨hs1, hg1⟩); clear hs1 hg1 H1) | (go_at_call 76; refine (H2.out w1 HS1.out.1).mono ?_; rintro e w2 ⟨rfl, hs1, hg1⟩; (have HS2 : Hid (Sc w2 C t j ∧ w1.grownBy w2 (some C)) := ⟨hs1, hg1⟩); clear hs1 hg1))
  go_ret
  exact ⟨rfl, HS2.out.1, grown_trans HS1.out.2 HS2.out.2⟩
end Go.Proofs.YtgmpmpgfpchbcaaGreatDoor
