/- An attribute that is read. -/
import Derived.Test.YtgmpmpgfpchbcaaGreatDoorN3
namespace Go.Proofs.YtgmpmpgfpchbcaaGreatDoor
open Go.RowKit
set_option linter.unusedVariables false
set_option linter.unusedSimpArgs false

theorem value_yes (C : Nat) (t : List UInt8) (i j n : Nat) (V : List UInt8) (w : World) (h : Sc w C t i) (hb : Bl t i j) (hc : t[j]? = some 34) (hv : qI (t.drop (j + 1)) = some (V, n)) : Calls Tryz.prog 62 #[.pointer (some ⟨C, 0, none⟩)] w fun e w' => e = .returned (.tuple #[.string (tx V), .bool true]) ∧ Sc w' C t (j + 1 + n) ∧ w.grownBy w' (some C) := by
  have H1 : Hid (Calls Tryz.prog 75 #[.pointer (some ⟨C, 0, none⟩)] w fun e w' => e = .returned (.tuple #[]) ∧ Sc w' C t j ∧ w.grownBy w' (some C)) := blanks_any C t i j w h hb
  have H2 : Hid (∀ W, Sc W C t j → Calls Tryz.prog 78 #[.pointer (some ⟨C, 0, none⟩)] W fun e w' => e = .returned (.tuple #[.string (tx V), .bool true]) ∧ Sc w' C t (j + 1 + n) ∧ W.grownBy w' (some C)) := fun W hS => quoted_yes C t j n V W hS hc hv
  clear h hb hc hv
  go_enter Tryz.func62, Tryz.ntmps62
  go_wp2_with (first | (go_at_call 75; refine H1.out.mono ?_; rintro e w1 ⟨rfl, hs1, hg1⟩; (have HS1 : Hid (Sc w1 C t j ∧ w.grownBy w1 (some C)) := ⟨hs1, hg1⟩); clear hs1 hg1) | (go_at_call 78; refine (H2.out w1 HS1.out.1).mono ?_; rintro e w2 ⟨rfl, hs1, hg1⟩; (have HS2 : Hid (Sc w2 C t (j + 1 + n) ∧ w1.grownBy w2 (some C)) := ⟨hs1, hg1⟩); clear hs1 hg1))
  go_ret2
  exact ⟨rfl, HS2.out.1, grown_trans HS1.out.2 HS2.out.2⟩
theorem value_no (C : Nat) (t : List UInt8) (i j : Nat) (w : World) (h : Sc w C t i) (hb : Bl t i j) (hc : t[j]? ≠ some 34) : Calls Tryz.prog 62 #[.pointer (some ⟨C, 0, none⟩)] w fun e w' => e = .returned (.tuple #[.string ⟨#[]⟩, .bool false]) ∧ Sc w' C t j ∧ w.grownBy w' (some C) := by
  have H1 : Hid (Calls Tryz.prog 75 #[.pointer (some ⟨C, 0, none⟩)] w fun e w' => e = .returned (.tuple #[]) ∧ Sc w' C t j ∧ w.grownBy w' (some C)) := blanks_any C t i j w h hb
  have H2 : Hid (∀ W, Sc W C t j → Calls Tryz.prog 78 #[.pointer (some ⟨C, 0, none⟩)] W fun e w' => e = .returned (.tuple #[.string ⟨#[]⟩, .bool false]) ∧ Sc w' C t j ∧ W.grownBy w' (some C)) := fun W hS => quoted_no C t j W hS hc
  clear h hb hc
  go_enter Tryz.func62, Tryz.ntmps62
  go_wp2_with (first | (go_at_call 75; refine H1.out.mono ?_; rintro e w1 ⟨rfl, hs1, hg1⟩; (have HS1 : Hid (Sc w1 C t j ∧ w.grownBy w1 (some C)) := ⟨hs1, hg1⟩); clear hs1 hg1) | (go_at_call 78; refine (H2.out w1 HS1.out.1).mono ?_; rintro e w2 ⟨rfl, hs1, hg1⟩; (have HS2 : Hid (Sc w2 C t j ∧ w1.grownBy w2 (some C)) := ⟨hs1, hg1⟩); clear hs1 hg1))
  go_ret2
  exact ⟨rfl, HS2.out.1, grown_trans HS1.out.2 HS2.out.2⟩
theorem equals_yes (C : Nat) (t : List UInt8) (i j : Nat) (w : World) (h : Sc w C t i) (hb : Bl t i j) (hc : t[j]? = some 61) : Calls Tryz.prog 61 #[.pointer (some ⟨C, 0, none⟩)] w fun e w' => e = .returned (.bool true) ∧ Sc w' C t (j + 1) ∧ w.grownBy w' (some C) := by
  have H1 : Hid (Calls Tryz.prog 75 #[.pointer (some ⟨C, 0, none⟩)] w fun e w' => e = .returned (.tuple #[]) ∧ Sc w' C t j ∧ w.grownBy w' (some C)) := blanks_any C t i j w h hb
  have H2 : Hid (∀ W, Sc W C t j → Calls Tryz.prog 76 #[.pointer (some ⟨C, 0, none⟩), .int .u8 61] W fun e w' => e = .returned (.bool true) ∧ Sc w' C t (j + 1) ∧ W.grownBy w' (some C)) := fun W hS => take_yes C t j 61 W hS hc
  clear h hb hc
  go_enter Tryz.func61, Tryz.ntmps61
  go_wp2_with (first | (go_at_call 75; refine H1.out.mono ?_; rintro e w1 ⟨rfl, hs1, hg1⟩; (have HS1 : Hid (Sc w1 C t j ∧ w.grownBy w1 (some C)) := ⟨hs1, hg1⟩); clear hs1 hg1) | (go_at_call 76; refine (H2.out w1 HS1.out.1).mono ?_; rintro e w2 ⟨rfl, hs1, hg1⟩; (have HS2 : Hid (Sc w2 C t (j + 1) ∧ w1.grownBy w2 (some C)) := ⟨hs1, hg1⟩); clear hs1 hg1))
  go_ret
  exact ⟨rfl, HS2.out.1, grown_trans HS1.out.2 HS2.out.2⟩
theorem grown_new {w w' : World} {o : Obj} {C : Nat} (h : (w.alloc o).grownBy w' (some C)) (hC : C < w.heap.size) : w.grownBy w' (some C) ∧ w'.heap[w.heap.size]? = some o := by
  refine ⟨⟨h.os, h.tape, h.output, Nat.le_trans (by simp) h.size, fun q hq hr => (h.block q (by simp; omega) hr).trans (Below.heap_alloc _ _ _ hq)⟩, ?_⟩
  exact (h.block w.heap.size (by simp) (fun e => by cases e; omega)).trans (Go.heap_alloc_new _ _)
theorem Sc.alloc {w : World} {C : Nat} {t : List UInt8} {i : Nat} (h : Sc w C t i) (o : Obj) : Sc (w.alloc o) C t i := ⟨(Below.heap_alloc _ _ _ (Array.getElem?_eq_some_iff.1 h.cells).1).trans h.cells, h.le, h.sm⟩
theorem results_two {fn : Func} {p q : Tmp} {ty : TypeId} (h : fn.results = #[.cell p ty, .tmp q]) (tmps : Array Value) (w : World) (g : Nat) (cs : Array Value) (v : Value)
    (hp : tmps.getD p undef = .pointer (some ⟨g, 0, none⟩)) (hq : tmps.getD q undef = v) (hl : (loadVar ty ⟨g, 0, none⟩).run Tryz.prog w = .ok (.agg cs) w) :
    (results fn tmps).run Tryz.prog w = .ok (.tuple #[.agg cs, v]) w := by
  have hp' : tmps[p]?.getD undef = .pointer (some ⟨g, 0, none⟩) := by simpa using hp
  have hq' : tmps[q]?.getD undef = v := by simpa using hq
  simp [results, h, hp', hq', asAddr, hl]
set_option maxHeartbeats 4000000 in
theorem attr_read (C : Nat) (t : List UInt8) (i j k l e : Nat) (V : List UInt8) (ok : Bool) (w : World) (h : Sc w C t i) (hk : Ky t i j) (hij : i < j) (hb : Bl t j k) (hc : t[k]? = some 61)
    (hv : ∀ W, Sc W C t (k + 1) → Calls Tryz.prog 62 #[.pointer (some ⟨C, 0, none⟩)] W fun e' w' => e' = .returned (.tuple #[.string (tx V), .bool ok]) ∧ Sc w' C t e ∧ W.grownBy w' (some C)) :
    Calls Tryz.prog 36 #[.pointer (some ⟨C, 0, none⟩)] w fun e' w' => e' = .returned (.tuple #[.agg #[.string (tx ((t.drop i).take (j - i))), .string (tx V)], .bool ok]) ∧ Sc w' C t e ∧ w.grownBy w' (some C) := by
  have hCW : C < w.heap.size := (Array.getElem?_eq_some_iff.1 h.cells).1
  obtain ⟨K, hK⟩ : ∃ K, (t.drop i).take (j - i) = K := ⟨_, rfl⟩
  have H1 : Hid (Calls Tryz.prog 60 #[.pointer (some ⟨C, 0, none⟩)] (w.alloc (.cells #[.string ⟨#[]⟩, .string ⟨#[]⟩] 44)) fun e w' => e = .returned (.tuple #[.string (tx K), .bool true]) ∧ Sc w' C t j ∧ (w.alloc (.cells #[.string ⟨#[]⟩, .string ⟨#[]⟩] 44)).grownBy w' (some C)) := by
    have h := skey_any C t i j (w.alloc (.cells #[.string ⟨#[]⟩, .string ⟨#[]⟩] 44)) (h.alloc _) hk
    rw [hK, decide_eq_true hij] at h
    exact h
  have H2 : Hid (∀ W, Sc W C t j → Calls Tryz.prog 61 #[.pointer (some ⟨C, 0, none⟩)] W fun e w' => e = .returned (.bool true) ∧ Sc w' C t (k + 1) ∧ W.grownBy w' (some C)) := fun W hS => equals_yes C t j k W hS hb hc
  have H3 : Hid (∀ W, Sc W C t (k + 1) → Calls Tryz.prog 62 #[.pointer (some ⟨C, 0, none⟩)] W fun e' w' => e' = .returned (.tuple #[.string (tx V), .bool ok]) ∧ Sc w' C t e ∧ W.grownBy w' (some C)) := hv
  rw [hK]
  clear h hk hij hb hc hv hK
  go_enter Tryz.func36, Tryz.ntmps36
  go_upto_region 5 with (first | (go_at_call 60; refine H1.out.mono ?_; rintro e w1 ⟨rfl, hs1, hg1⟩; (have HS1 : Hid (Sc w1 C t j ∧ (w.alloc (.cells #[.string ⟨#[]⟩, .string ⟨#[]⟩] 44)).grownBy w1 (some C)) := ⟨hs1, hg1⟩); clear hs1 hg1) | (go_at_call 61; refine (H2.out w1 HS1.out.1).mono ?_; rintro e w2 ⟨rfl, hs1, hg1⟩; (have HS2 : Hid (Sc w2 C t (k + 1) ∧ w1.grownBy w2 (some C)) := ⟨hs1, hg1⟩); clear hs1 hg1) | (go_at_call 62; refine (H3.out w2 HS2.out.1).mono ?_; rintro e' w3 ⟨rfl, hs1, hg1⟩; (have HS3 : Hid (Sc w3 C t e ∧ w2.grownBy w3 (some C)) := ⟨hs1, hg1⟩); clear hs1 hg1))
  have hG := grown_new (grown_trans HS1.out.2 (grown_trans HS2.out.2 HS3.out.2)) hCW
  have HG : Hid (w.grownBy w3 (some C) ∧ w3.heap[w.heap.size]? = some (.cells #[.string ⟨#[]⟩, .string ⟨#[]⟩] 44 (0, 0))) := hG
  have r0 : w3.cell? ⟨w.heap.size, 0, none⟩ = some (.string ⟨#[]⟩) := by rw [cell_of_row _ _ _ _ _ _ hG.2]; rfl
  have r1 : w3.cell? ⟨w.heap.size, 1, none⟩ = some (.string ⟨#[]⟩) := by rw [cell_of_row _ _ _ _ _ _ hG.2]; rfl
  have f0 : w3.frozen? ⟨w.heap.size, 0, none⟩ = false := frozen_of_row _ _ _ _ _ hG.2
  have f1 : w3.frozen? ⟨w.heap.size, 1, none⟩ = false := frozen_of_row _ _ _ _ _ hG.2
  clear hG
  go_wp2_with fail
  have hr2 : ((w3.setCell ⟨w.heap.size, 0, none⟩ (.string (tx K))).setCell ⟨w.heap.size, 1, none⟩ (.string (tx V))).heap[w.heap.size]? = some (.cells #[.string (tx K), .string (tx V)] 44 (0, 0)) := by
    rw [heap_setCell_same _ _ _ _ _ _ (heap_setCell_same _ _ _ _ _ _ HG.out.2)]
    rfl
  refine bodyPost_ret (results_two Tryz.results36 _ _ w.heap.size #[.string (tx K), .string (tx V)] _ rfl rfl (load45 (x := (K, V)) (by rw [cell_of_row _ _ _ _ _ _ hr2]; rfl) (by rw [cell_of_row _ _ _ _ _ _ hr2]; rfl))) rfl ⟨rfl, ?_, ?_⟩
  · exact ⟨(Below.heap_setCell _ _ _ _ (by show C ≠ w.heap.size; omega)).trans ((Below.heap_setCell _ _ _ _ (by show C ≠ w.heap.size; omega)).trans HS3.out.1.cells), HS3.out.1.le, HS3.out.1.sm⟩
  · have hg := HG.out.1
    exact ⟨hg.os, hg.tape, hg.output, by simpa using hg.size, fun q hq hr => (Below.heap_setCell _ _ _ _ (by show q ≠ w.heap.size; omega)).trans ((Below.heap_setCell _ _ _ _ (by show q ≠ w.heap.size; omega)).trans (hg.block q hq hr))⟩
end Go.Proofs.YtgmpmpgfpchbcaaGreatDoor
