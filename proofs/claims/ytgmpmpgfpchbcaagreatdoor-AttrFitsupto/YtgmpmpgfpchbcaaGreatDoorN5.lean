/- What stands in braces; the fixed texts. -/
import Derived.Test.YtgmpmpgfpchbcaaGreatDoorN4
namespace Go.Proofs.YtgmpmpgfpchbcaaGreatDoor
open Go.RowKit
set_option linter.unusedVariables false
set_option linter.unusedSimpArgs false

theorem own_kept45 {w w' : World} {base n C : Nat} {v : Value} {xs : List Value} (h : w.ownsRow base 44 2 v n xs) (hg : w.grownBy w' (some C)) (hC : C < base) : w'.ownsRow base 44 2 v n xs :=
  own_at h fun q hq => hg.block q (h.lt q hq).2 (fun e => by have := (h.lt q hq).1; cases e; omega)
theorem grown_alloc' {w w' : World} {C : Nat} (h : w.grownBy w' (some C)) (o : Obj) : w.grownBy (w'.alloc o) (some C) :=
  ⟨h.os, h.tape, h.output, Nat.le_trans h.size (by simp), fun q hq hr => (Below.heap_alloc _ _ _ (Nat.lt_of_lt_of_le hq h.size)).trans (h.block q hq hr)⟩
theorem grown_own45 {w w0 w' : World} {C n : Nat} {v : Value} {xs : List Value} (h0 : w.grownBy w0 (some C)) (ho : w0.ownsRow w.heap.size 44 2 v n xs) (hg : w0.grownBy w' v.ownBlock) : w.grownBy w' (some C) :=
  ⟨hg.os.trans h0.os, hg.tape.trans h0.tape, hg.output.trans h0.output, Nat.le_trans h0.size hg.size, fun q hq hr => (hg.block q (Nat.lt_of_lt_of_le hq h0.size) (fun e => by have := (ho.lt q e.symm).1; omega)).trans (h0.block q hq hr)⟩
/-- A sign that is asked for at a place. -/
def Sg (C : Nat) (t : List UInt8) (x : Int) (i j : Nat) (b : Bool) : Prop := ∀ W, Sc W C t i → Calls Tryz.prog 73 #[.pointer (some ⟨C, 0, none⟩), .int .u8 x] W fun e w' => e = .returned (.bool b) ∧ Sc w' C t j ∧ W.grownBy w' (some C)
/-- An attribute that is asked for at a place. -/
def Ar (C : Nat) (t : List UInt8) (x : At) (i j : Nat) (b : Bool) : Prop := ∀ W, Sc W C t i → Calls Tryz.prog 36 #[.pointer (some ⟨C, 0, none⟩)] W fun e w' => e = .returned (.tuple #[.agg #[.string (tx x.1), .string (tx x.2)], .bool b]) ∧ Sc w' C t j ∧ W.grownBy w' (some C)
set_option maxHeartbeats 4000000 in
theorem braces_no (C : Nat) (t : List UInt8) (p1 p2 p3 : Nat) (x : At) (w : World) (h : Sc w C t 0) (h1 : Sg C t 123 0 p1 true) (h2 : Sg C t 125 p1 p2 false) (h3 : Ar C t x p2 p3 false) :
    Calls Tryz.prog 59 #[.pointer (some ⟨C, 0, none⟩), .func (.func 36) #[] #[]] w fun e w' => e = .returned (.tuple #[.slice none 0 0, .bool false]) ∧ Sc w' C t p3 ∧ w.grownBy w' (some C) := by
  have H1 : Hid (Calls Tryz.prog 73 #[.pointer (some ⟨C, 0, none⟩), .int .u8 123] w fun e w' => e = .returned (.bool true) ∧ Sc w' C t p1 ∧ w.grownBy w' (some C)) := h1 w h
  have H2 : Hid (Sg C t 125 p1 p2 false) := h2
  have H3 : Hid (Ar C t x p2 p3 false) := h3
  clear h h1 h2 h3
  go_enter Tryz.func59, Tryz.ntmps59
  go_wp2_with (first | (go_at_call 73; refine H1.out.mono ?_; rintro e w1 ⟨rfl, hs1, hg1⟩; (have HS1 : Hid (Sc w1 C t p1 ∧ w.grownBy w1 (some C)) := ⟨hs1, hg1⟩); clear hs1 hg1 H1) | (go_at_call 73; refine (H2.out w1 HS1.out.1).mono ?_; rintro e w2 ⟨rfl, hs1, hg1⟩; (have HS2 : Hid (Sc w2 C t p2 ∧ w1.grownBy w2 (some C)) := ⟨hs1, hg1⟩); clear hs1 hg1))
  refine wp_loop_rounds 1 ?_
  rw [rounds_succ]
  go_wp2_with (go_at_call 36; refine (H3.out w2 HS2.out.1).mono ?_; rintro e w3 ⟨rfl, hs1, hg1⟩; (have HS3 : Hid (Sc w3 C t p3 ∧ w2.grownBy w3 (some C)) := ⟨hs1, hg1⟩); clear hs1 hg1)
  go_ret2
  exact ⟨rfl, HS3.out.1.alloc _, grown_alloc' (grown_trans HS1.out.2 (grown_trans HS2.out.2 HS3.out.2)) _⟩
set_option maxRecDepth 20000 in
set_option maxHeartbeats 4000000 in
theorem braces_yes (C : Nat) (t : List UInt8) (p1 p2 p3 p4 : Nat) (x : At) (w : World) (h : Sc w C t 0) (h1 : Sg C t 123 0 p1 true) (h2 : Sg C t 125 p1 p2 false) (h3 : Ar C t x p2 p3 true) (h4 : Sg C t 44 p3 p4 false) (h5 : Sg C t 125 p4 t.length true) :
    Calls Tryz.prog 59 #[.pointer (some ⟨C, 0, none⟩), .func (.func 36) #[] #[]] w fun e w' => (∃ v, e = .returned (.tuple #[v, .bool true]) ∧ w'.ownsRow w.heap.size 44 2 v 1 (atL [x])) ∧ w.grownBy w' (some C) := by
  have H1 : Hid (Calls Tryz.prog 73 #[.pointer (some ⟨C, 0, none⟩), .int .u8 123] w fun e w' => e = .returned (.bool true) ∧ Sc w' C t p1 ∧ w.grownBy w' (some C)) := h1 w h
  have H2 : Hid (Sg C t 125 p1 p2 false) := h2
  have H3 : Hid (Ar C t x p2 p3 true) := h3
  have H4 : Hid (Sg C t 44 p3 p4 false) := h4
  have H5 : Hid (Sg C t 125 p4 t.length true) := h5
  have HCW : Hid (C < w.heap.size) := (Array.getElem?_eq_some_iff.1 h.cells).1
  clear h h1 h2 h3 h4 h5
  go_enter Tryz.func59, Tryz.ntmps59
  go_wp2_with (first | (go_at_call 73; refine H1.out.mono ?_; rintro e w1 ⟨rfl, hs1, hg1⟩; (have HS1 : Hid (Sc w1 C t p1 ∧ w.grownBy w1 (some C)) := ⟨hs1, hg1⟩); clear hs1 hg1 H1) | (go_at_call 73; refine (H2.out w1 HS1.out.1).mono ?_; rintro e w2 ⟨rfl, hs1, hg1⟩; (have HS2 : Hid (Sc w2 C t p2 ∧ w.grownBy w2 (some C)) := ⟨hs1, grown_trans HS1.out.2 hg1⟩); clear hs1 hg1))
  go_loopg [6, 7, 8, 9] 3 (fun gk v6 v7 v8 v9 wx => (2 ≤ gk ∧ v6 = .slice none 0 0 ∧ v7 = .bool true ∧ Sc wx C t p2 ∧ w.grownBy wx (some C)) ∨ (1 ≤ gk ∧ v7 = .bool false ∧ Sc wx C t t.length ∧ w.grownBy wx (some C) ∧ wx.ownsRow w.heap.size 44 2 v6 1 (atL [x])))
  case atStart => exact .inl ⟨by omega, rfl, rfl, HS2.out.1, HS2.out.2⟩
  case round =>
    rcases hrel with ⟨hg, rfl, rfl, hs, hgr⟩ | ⟨hg, rfl, hs, hgr, ho⟩
    · obtain ⟨g', rfl⟩ : ∃ g', gk = g' + 1 := ⟨gk - 1, by omega⟩
      have HR : Hid (Sc wr C t p2 ∧ w.grownBy wr (some C)) := ⟨hs, hgr⟩
      clear hs hgr
      go_upto_region 9 with (go_at_call 36; refine (H3.out wr HR.out.1).mono ?_; rintro e w3 ⟨rfl, hs1, hg1⟩; (have HS3 : Hid (Sc w3 C t p3 ∧ w.grownBy w3 (some C)) := ⟨hs1, grown_trans HR.out.2 hg1⟩); clear hs1 hg1)
      obtain ⟨W4, hW4⟩ : ∃ W4, w3.alloc (.cells #[.string (tx x.1), .string (tx x.2)] 44) = W4 := ⟨_, rfl⟩
      have hr4 : W4.heap[w3.heap.size]? = some (.cells #[.string (tx x.1), .string (tx x.2)] 44 (0, 0)) := by rw [← hW4]; exact Go.heap_alloc_new _ _
      have z0 : W4.cell? ⟨w3.heap.size, 0, none⟩ = some (.string (tx x.1)) := by rw [cell_of_row _ _ _ _ _ _ hr4]; rfl
      have z1 : W4.cell? ⟨w3.heap.size, 1, none⟩ = some (.string (tx x.2)) := by rw [cell_of_row _ _ _ _ _ _ hr4]; rfl
      have HS4 : Hid (Sc W4 C t p3 ∧ w.grownBy W4 (some C)) := by rw [← hW4]; exact ⟨HS3.out.1.alloc _, grown_alloc' HS3.out.2 _⟩
      have HW4 : Hid (w.heap.size ≤ W4.heap.size) := HS4.out.2.size
      rw [hW4]
      clear hW4 hr4
      go_upto_region 10 with (at_builtin; (refine wpList_append_at rfl (.tmp 25) (.tmp 27) rfl w.heap.size (.slice none 0 0) 0 [] rfl W4 (World.ownsRow_nil _ _ _ _) x rfl rfl (by omega) HW4.out ?_; intro g9 c9 w9 ho9 hg9; (have HO9 : Hid (w9.ownsRow w.heap.size 44 2 (.slice (some ⟨g9, 0, none⟩) 1 c9) 1 (atL [x]) ∧ Sc w9 C t p3 ∧ w.grownBy w9 (some C)) := ⟨by simpa [atL] using ho9, ⟨(hg9.block C (Array.getElem?_eq_some_iff.1 HS4.out.1.cells).1 (by simp [Value.ownBlock])).trans HS4.out.1.cells, HS4.out.1.le, HS4.out.1.sm⟩, grown_own45 HS4.out.2 (World.ownsRow_nil W4 w.heap.size 44 2) hg9⟩); clear ho9 hg9))
      clear z0 z1
      go_wp2_with (first | (go_at_call 73; refine (H4.out w9 HO9.out.2.1).mono ?_; rintro e w5 ⟨rfl, hs1, hg1⟩; (have HS5 : Hid (Sc w5 C t p4 ∧ w.grownBy w5 (some C) ∧ w5.ownsRow w.heap.size 44 2 (.slice (some ⟨g9, 0, none⟩) 1 c9) 1 (atL [x])) := ⟨hs1, grown_trans HO9.out.2.2 hg1, own_kept45 HO9.out.1 hg1 HCW.out⟩); clear hs1 hg1 H4) | (go_at_call 73; refine (H5.out w5 HS5.out.1).mono ?_; rintro e w6 ⟨rfl, hs1, hg1⟩; (have HS6 : Hid (Sc w6 C t t.length ∧ w.grownBy w6 (some C) ∧ w6.ownsRow w.heap.size 44 2 (.slice (some ⟨g9, 0, none⟩) 1 c9) 1 (atL [x])) := ⟨hs1, grown_trans HS5.out.2.1 hg1, own_kept45 HS5.out.2.2 hg1 HCW.out⟩); clear hs1 hg1))
      go_roundg g'
      case measure => omega
      case rel => exact .inr ⟨by omega, rfl, HS6.out⟩
    · obtain ⟨a6, k6, e6⟩ := own_slice ho
      subst e6
      have HR : Hid (Sc wr C t t.length ∧ w.grownBy wr (some C) ∧ wr.ownsRow w.heap.size 44 2 (.slice a6 1 k6) 1 (atL [x])) := ⟨hs, hgr, ho⟩
      have hsz : (tx t).size = t.length := tx_size t
      have g0 : wr.drew.cell? ⟨C, 0, none⟩ = some (.string (tx t)) := hs.c0
      have g1 : wr.drew.cell? ⟨C, 1, none⟩ = some (.int .i64 (t.length : Int)) := hs.c1
      clear hs hgr ho
      go_upto_region 13 with fail
      refine wp_region_still_lit (by kernel_rfl) (by kernel_rfl) (still_of_quiet _ _ ?_)
      rw [show ({ wr with drawn := wr.drawn + 1 } : World) = wr.drew from rfl]
      repeat (first | go_big_quiet_skip | (go_big_quiet_want; go_big_quiet_op; go_big_quiet_on))
      refine wpQuiet_nil ?_
      go_wp2_with fail
      go_ret2
      exact ⟨⟨_, rfl, own_at HR.out.2.2 fun _ _ => rfl⟩, grown_trans HR.out.2.1 (grown_drewN _ 1 _)⟩
end Go.Proofs.YtgmpmpgfpchbcaaGreatDoor
