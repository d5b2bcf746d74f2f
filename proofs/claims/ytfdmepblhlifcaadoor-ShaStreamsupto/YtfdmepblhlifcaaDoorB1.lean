/- A digest as text. -/
import Derived.Test.YtfdmepblhlifcaaDoorA6
import Derived.Laws.IdiomStrings
import Derived.Deep.MidRow
namespace Go.Proofs.YtfdmepblhlifcaaDoor
open Go.RowKit
set_option linter.unusedVariables false
set_option linter.unusedSimpArgs false

def digI (x : Int) : Int := if x < 10 then 48 + x else 87 + x
def twoI (x : Int) : List Int := [digI (x / 16), digI (x % 16)]
def hexI (d : List Int) : List Int := d.flatMap twoI
theorem hex_len (s : List Int) : (hexI s).length = 2 * s.length := by
  induction s with
  | nil => rfl
  | cons x s ih => simp [hexI, twoI] at ih ⊢; omega
theorem hex_snoc (s : List Int) (x : Int) : hexI (s ++ [x]) = hexI s ++ twoI x := by simp [hexI]
theorem hex_byt (d : List Int) (h : Byt d) : Byt (hexI d) := by
  intro x hx
  obtain ⟨y, hy, hx⟩ := List.mem_flatMap.1 hx
  obtain ⟨y0, y1⟩ := h y hy
  simp only [twoI, List.mem_cons, List.not_mem_nil, or_false] at hx
  rcases hx with rfl | rfl <;> (unfold digI; split <;> omega)
theorem set2_row {w : World} {g j : Nat} {ty : TypeId} {P R : List Int} {a b A B : Int} (hj : P.length = j) (h : w.heap[g]? = some (.cells (u8s (P ++ a :: b :: R)) ty (0, 0))) :
    ((w.setCell ⟨g, j, none⟩ (.int .u8 A)).setCell ⟨g, j + 1, none⟩ (.int .u8 B)).heap[g]? = some (.cells (u8s (P ++ A :: B :: R)) ty (0, 0)) := by
  subst hj
  have h0 := heap_setCell_same _ _ P.length _ _ (.int .u8 A) h
  rw [set_u8s, List.set_append_right _ _ (by omega)] at h0
  simp only [Nat.sub_self, List.set_cons_zero] at h0
  have h1 := heap_setCell_same _ _ (P.length + 1) _ _ (.int .u8 B) h0
  rw [set_u8s, List.set_append_right _ _ (by omega)] at h1
  simp only [Nat.add_sub_cancel_left, List.set_cons_zero, List.set_cons_succ] at h1
  exact h1
theorem run_index_u8s (t : TypeId) (m : Nat) (l : List Int) (k : Nat) (ht : Tryd.prog.underlying t = some (.array m 5)) (h : k < l.length) (hm : k < m) (w : World) : (Instr.index t (.agg (u8s l)) (.int .i64 k)).run Tryd.prog w = .ok (.int .u8 (l.getD k 0)) w := by
  have hn : (0 ≤ (k : Int) ∧ (k : Int) < (m : Int)) := by omega
  have e := get_u8s l k h
  simp [Instr.index, run_underlying ht, asIntOf, hn, go_sem, e]
  intro hh
  omega
theorem run_index_dig (x : Int) (h0 : 0 ≤ x) (h1 : x < 16) (w : World) : (Instr.index 9 (.string { data := #[48, 49, 50, 51, 52, 53, 54, 55, 56, 57, 97, 98, 99, 100, 101, 102] }) (.int .u8 x)).run Tryd.prog w = .ok (.int .u8 (digI x)) w := by
  have hx : x = 0 ∨ x = 1 ∨ x = 2 ∨ x = 3 ∨ x = 4 ∨ x = 5 ∨ x = 6 ∨ x = 7 ∨ x = 8 ∨ x = 9 ∨ x = 10 ∨ x = 11 ∨ x = 12 ∨ x = 13 ∨ x = 14 ∨ x = 15 := by omega
  rcases hx with rfl | rfl | rfl | rfl | rfl | rfl | rfl | rfl | rfl | rfl | rfl | rfl | rfl | rfl | rfl | rfl <;> simp [Instr.index, run_underlying Tryd.underlying9, asIntOf, go_sem, digI] <;> rfl
theorem and15 (x : Int) (h0 : 0 ≤ x) (h1 : x ≤ 255) : bits .and .u8 x 15 = x % 16 := by
  have all : ∀ k : Fin 256, bits .and .u8 (k.val : Int) 15 = (k.val : Int) % 16 := by decide +kernel
  have := all ⟨x.toNat, by omega⟩
  simp only at this
  rwa [show (x.toNat : Int) = x by omega] at this

set_option maxRecDepth 20000 in
set_option maxHeartbeats 4000000 in
theorem hex_any (d : List Int) (w : World) (hd : d.length = 32) (hb : Byt d) :
    Calls Tryd.prog 15 #[.agg (u8s d)] w fun e w' => e = .returned (.string ⟨((hexI d).map (fun x => UInt8.ofNat x.toNat)).toArray⟩) ∧ Below w.heap.size w w' := by
  have HD : Hid (d.length = 32) := hd
  have HB : Hid (Byt d) := hb
  clear hd hb
  go_enter Tryd.func15, Tryd.ntmps15
  go_wp2_with (refine wpList_load_row rfl 23 _ rfl w.heap.size rfl 23 (u8s d) (0, 0) _ ?g1 Tryd.underlying23 rfl ?g2 ?_)
  case g1 => exact (Below.heap_alloc _ _ _ (by simp)).trans (Go.heap_alloc_new _ _)
  case g2 => rw [size_u8s, HD.out]; kernel_rfl
  go_loopw [4, 5, 7] (fun x y v wr => ∃ k : Nat, k ≤ 32 ∧ v = .int .i64 k ∧ wr.heap[w.heap.size + 1]? = some (.cells (u8s (hexI (d.take k) ++ List.replicate (64 - 2 * k) 0)) 64 (0, 0)) ∧ Below w.heap.size w wr) (fun x y v wr => 32 - (intOf v).toNat)
  case atStart =>
    refine ⟨0, by omega, rfl, ?_, ?_⟩
    · have h := Go.heap_alloc_new (w.alloc (.cells (u8s d) 23)) (.cells (u8s (List.replicate 64 0)) 64)
      simp only [World.size_alloc] at h
      exact h
    · exact ((Below.refl _ w).alloc (Nat.le_refl _) _).alloc (by simp) _
  case round =>
    obtain ⟨k, hk, rfl, q1, hbel⟩ := hrel
    have HQ1 : Hid (wr.heap[w.heap.size + 1]? = some (.cells (u8s (hexI (d.take k) ++ List.replicate (64 - 2 * k) 0)) 64 (0, 0))) := q1
    clear q1
    by_cases hlt : k < 32
    · have hlt' : (k : Int) < 32 := by omega
      have hx := run_index_u8s 23 32 d k Tryd.underlying23 (by rw [HD.out]; exact hlt) hlt wr
      obtain ⟨x0, x1⟩ := HB.out (d.getD k 0) (by rw [List.getD_eq_getElem?_getD, List.getElem?_eq_getElem (by rw [HD.out]; exact hlt)]; exact List.getElem_mem _)
      have HTK : Hid (hexI (d.take (k + 1)) = hexI (d.take k) ++ twoI (d.getD k 0)) := by
        show _ = _
        rw [← hex_snoc, List.take_succ_eq_append_getElem (by rw [HD.out]; exact hlt), List.getD_eq_getElem?_getD, List.getElem?_eq_getElem (by rw [HD.out]; exact hlt)]
        rfl
      generalize d.getD k 0 = x at hx x0 x1 HTK
      have d1 : ∀ w, (Instr.index 9 (.string { data := #[48, 49, 50, 51, 52, 53, 54, 55, 56, 57, 97, 98, 99, 100, 101, 102] }) (.int .u8 (x / 16))).run Tryd.prog w = .ok (.int .u8 (digI (x / 16))) w := run_index_dig (x / 16) (by omega) (by omega)
      have d2 : ∀ w, (Instr.index 9 (.string { data := #[48, 49, 50, 51, 52, 53, 54, 55, 56, 57, 97, 98, 99, 100, 101, 102] }) (.int .u8 (x % 16))).run Tryd.prog w = .ok (.int .u8 (digI (x % 16))) w := run_index_dig (x % 16) (by omega) (by omega)
      have d3 := and15 x x0 x1
      have hl64 : (hexI (d.take k) ++ List.replicate (64 - 2 * k) 0).length = 64 := by
        have := HD.out
        simp [hex_len]; omega
      obtain ⟨z0, c0⟩ : ∃ z, wr.cell? ⟨w.heap.size + 1, 2 * k, none⟩ = some (.int .u8 z) := ⟨_, by rw [cell_of_row _ _ _ _ _ _ HQ1.out, get_u8s _ _ (by omega)]⟩
      obtain ⟨z1, c1⟩ : ∃ z, wr.cell? ⟨w.heap.size + 1, 2 * k + 1, none⟩ = some (.int .u8 z) := ⟨_, by rw [cell_of_row _ _ _ _ _ _ HQ1.out, get_u8s _ _ (by omega)]⟩
      have f0 : wr.frozen? ⟨w.heap.size + 1, 2 * k, none⟩ = false := frozen_of_row _ _ _ _ _ HQ1.out
      have f1 : wr.frozen? ⟨w.heap.size + 1, 2 * k + 1, none⟩ = false := frozen_of_row _ _ _ _ _ HQ1.out
      have i0 : 2 * (k : Int) < 64 := by omega
      have i1 : 2 * (k : Int) + 1 < 64 := by omega
      clear hl64
      go_wp2_with fail
      go_roundw
      case rel =>
        refine ⟨k + 1, by omega, by go_num, ?_, ?_⟩
        · have h8 := HD.out
          have hq := HQ1.out
          rw [show 64 - 2 * k = (64 - 2 * (k + 1)) + 1 + 1 by omega, List.replicate_succ, List.replicate_succ] at hq
          have h := set2_row (A := digI (x / 16)) (B := digI (x % 16)) (j := 2 * k) (by rw [hex_len]; simp; omega) hq
          refine h.trans ?_
          rw [HTK.out, List.append_assoc, twoI]
          rfl
        · exact (hbel.setCell (by dsimp only; omega) _).setCell (by dsimp only; omega) _
      case measure => simp [intOf]; omega
    · have hk8 : k = 32 := by omega
      subst hk8
      rw [show ((32 : Nat) : Int) = 32 from rfl]
      have h8 := HD.out
      have HQ' : Hid (wr.heap[w.heap.size + 1]? = some (.cells (u8s (hexI d)) 64 (0, 0))) := by
        have h := HQ1.out
        rw [List.take_of_length_le (by omega)] at h
        show _ = _
        simpa using h
      have hl64 : (hexI d).length = 64 := by rw [hex_len]; omega
      have hcv : (convert 22 9 (.slice (some ⟨w.heap.size + 1, 0, none⟩) 64 64)).run Tryd.prog wr = .ok (.string ⟨((hexI d).map (fun x => UInt8.ofNat x.toNat)).toArray⟩) wr := by
        have h := run_convert_bytes_back (P := Tryd.prog) wr 22 9 5 ⟨w.heap.size + 1, 0, none⟩ 64 ((hexI d).map (fun x => UInt8.ofNat x.toNat)) Tryd.underlying22 Tryd.underlying5 Tryd.underlying9 (fun j hj => by
          rw [List.length_map] at hj
          rw [Addr.add_mid, Nat.zero_add, cell_of_row _ _ _ _ _ _ HQ'.out, get_u8s _ _ hj]
          have hb := hex_byt d HB.out ((hexI d).getD j 0) (by rw [List.getD_eq_getElem?_getD, List.getElem?_eq_getElem hj]; exact List.getElem_mem _)
          rw [List.getD_eq_getElem?_getD, List.getElem?_eq_getElem hj] at hb ⊢
          simp only [Option.getD_some] at hb ⊢
          rw [List.getElem_map, UInt8.toNat_ofNat_of_lt' (by show _ < 256; omega)]
          congr 2
          omega)
        rw [List.length_map, hl64] at h
        exact h
      clear hlt hk h8 hl64
      go_wp2_with fail
      go_ret
      exact ⟨rfl, hbel⟩
end Go.Proofs.YtfdmepblhlifcaaDoor
