/- A digest as text, by the definition. -/
import Derived.Test.YtfdmepblhlifcaaDoorA7
import Derived.Test.YtfdmepblhlifcaaDoorB1
import Derived.Deep.RegionLaw
import Derived.Deep.AppendLies
namespace Go.Proofs.YtfdmepblhlifcaaDoor
open Go.RowKit
set_option linter.unusedVariables false
set_option linter.unusedSimpArgs false

theorem dig_at (p : Nat) (hp : p < 16) (h : p < (⟨#[48, 49, 50, 51, 52, 53, 54, 55, 56, 57, 97, 98, 99, 100, 101, 102]⟩ : ByteArray).size) : (((⟨#[48, 49, 50, 51, 52, 53, 54, 55, 56, 57, 97, 98, 99, 100, 101, 102]⟩ : ByteArray)[p]'h).toNat : Int) = digI (p : Int) := by
  have hx : p = 0 ∨ p = 1 ∨ p = 2 ∨ p = 3 ∨ p = 4 ∨ p = 5 ∨ p = 6 ∨ p = 7 ∨ p = 8 ∨ p = 9 ∨ p = 10 ∨ p = 11 ∨ p = 12 ∨ p = 13 ∨ p = 14 ∨ p = 15 := by omega
  rcases hx with rfl | rfl | rfl | rfl | rfl | rfl | rfl | rfl | rfl | rfl | rfl | rfl | rfl | rfl | rfl | rfl <;> rfl
theorem u8_small (a : Int) (a0 : 0 ≤ a) (a1 : a < 256) : IntKind.u8.wrap a = a := by
  unfold IntKind.wrap
  simp only [IntKind.signed, IntKind.bits, Bool.false_and, Bool.false_eq_true, if_false]
  omega

set_option maxRecDepth 20000 in
set_option maxHeartbeats 4000000 in
theorem rhex_any (d : List Int) (w : World) (hd : d.length = 32) (hb : Byt d) :
    Calls Tryd.prog 18 #[.agg (u8s d)] w fun e w' => e = .returned (.string ⟨((hexI d).map (fun x => UInt8.ofNat x.toNat)).toArray⟩) ∧ Below w.heap.size w w' := by
  obtain ⟨i0, hi, hz0, hz1, hz2⟩ := info_parts info5
  have HD : Hid (d.length = 32) := hd
  have HB : Hid (Byt d) := hb
  clear hd hb
  go_enter Tryd.func18, Tryd.ntmps18
  go_wp2_with fail
  go_loopw [3, 4] (fun v i wr => ∃ k : Nat, k ≤ 32 ∧ i = .int .i64 k ∧ wr.ownsRow (w.heap.size + 1) 5 1 v (2 * k) (u8l (hexI (d.take k))) ∧ wr.heap[w.heap.size]? = some (.cells (u8s d) 23 (0, 0)) ∧ Below w.heap.size w wr) (fun v i wr => 32 - (intOf i).toNat)
  case atStart =>
    exact ⟨0, by omega, rfl, World.ownsRow_nil _ _ _ _, Go.heap_alloc_new _ _, (Below.refl _ w).alloc (Nat.le_refl _) _⟩
  case round =>
    obtain ⟨k, hk, rfl, hown, q1, hbel⟩ := hrel
    have HQ1 : Hid (wr.heap[w.heap.size]? = some (.cells (u8s d) 23 (0, 0))) := q1
    by_cases hlt : k < 32
    · have hlt' : (k : Int) < 32 := by omega
      obtain ⟨x0, x1⟩ := HB.out (d.getD k 0) (by rw [List.getD_eq_getElem?_getD, List.getElem?_eq_getElem (by rw [HD.out]; exact hlt)]; exact List.getElem_mem _)
      have HTK : Hid (hexI (d.take (k + 1)) = hexI (d.take k) ++ twoI (d.getD k 0)) := by
        show _ = _
        rw [← hex_snoc, List.take_succ_eq_append_getElem (by rw [HD.out]; exact hlt), List.getD_eq_getElem?_getD, List.getElem?_eq_getElem (by rw [HD.out]; exact hlt)]
        rfl
      have c0 : wr.cell? ⟨w.heap.size, k, none⟩ = some (.int .u8 (d.getD k 0)) := by rw [cell_of_row _ _ _ _ _ _ HQ1.out, get_u8s _ _ (by rw [HD.out]; exact hlt)]
      generalize d.getD k 0 = x at c0 x0 x1 HTK
      obtain ⟨p, hp, ep⟩ : ∃ p : Nat, p < 16 ∧ x / 16 = (p : Int) := ⟨(x / 16).toNat, by omega, by omega⟩
      obtain ⟨q, hq, eq⟩ : ∃ q : Nat, q < 16 ∧ x % 16 = (q : Int) := ⟨(x % 16).toNat, by omega, by omega⟩
      have HTW : Hid (twoI x = [digI (p : Int), digI (q : Int)]) := by show _ = _; unfold twoI; rw [ep, eq]
      have t1 : IntKind.u8.wrap (x.tdiv 16) = (p : Int) := by rw [Int.tdiv_eq_ediv_of_nonneg x0, ep]; exact u8_small _ (by omega) (by omega)
      have t2 : x.tmod 16 = (q : Int) := by rw [Int.tmod_eq_emod_of_nonneg x0, eq]
      have p1 : (p : Int) < 16 := by omega
      have q1' : (q : Int) < 16 := by omega
      have g1 := dig_at p hp
      have g2 := dig_at q hq
      generalize digI (p : Int) = P at g1 HTW
      generalize digI (q : Int) = Q at g2 HTW
      clear hp hq ep eq
      have HOWN : Hid (wr.ownsRow (w.heap.size + 1) 5 1 u3 (2 * k) (u8l (hexI (d.take k)))) := hown
      clear hown q1
      have HSZ : Hid (w.heap.size + 1 ≤ wr.heap.size) := by have h := (Array.getElem?_eq_some_iff.1 HQ1.out).1; exact h
      go_wp2_with fail
      go_region_law (refine step_append_lies _ rfl (.tmp 9) (.tmp 20) 22 rfl (w.heap.size + 1) 5 i0 (.int .u8 0) 1 1 Tryd.underlying22 hi hz0 hz1 hz2 rfl (by decide) u3 (2 * k) (u8l (hexI (d.take k))) (by simp [Act.eval, Act.put]) (HOWN.out.alloc _) ⟨wr.heap.size, 0, none⟩ 2 2 (u8l [P, Q]) (by simp [Act.eval, Act.put]) rfl (World.news_of_block (Go.heap_alloc_new _ _)) (u8l_one _) (by decide) (by unfold maxLen; omega) (by omega) (by have := HSZ.out; simp; omega) (wr.heap.size + 1) (by simp) ?_; intro g3 cp3 w3 hown3 hgrow3 _ _; (rw [u8l_app] at hown3); (have HB3 : Hid (Below (w.heap.size + 1) wr w3) := ((((Below.refl _ wr).drew).alloc HSZ.out _).grown hgrow3 (by have := HSZ.out; simp; omega) (ownBlock_ge HOWN.out))); (have HOWN3 : Hid (w3.ownsRow (w.heap.size + 1) 5 1 (.slice (some ⟨g3, 0, none⟩) (2 * k + 2) cp3) (2 * k + 2) (u8l (hexI (d.take k) ++ [P, Q]))) := hown3); clear hown3 hgrow3)
      all_goals (
        go_wp2_with fail
        go_roundw
        case rel =>
          refine ⟨k + 1, by omega, by go_num, ?_, (HB3.out.block _ (by omega)).trans HQ1.out, hbel.trans (HB3.out.mono (by omega))⟩
          rw [HTK.out, HTW.out]
          exact HOWN3.out
        case measure => simp [intOf]; omega)
    · have hk8 : k = 32 := by omega
      subst hk8
      rw [show ((32 : Nat) : Int) = 32 from rfl]
      have h8 := HD.out
      rw [List.take_of_length_le (by omega)] at hown
      obtain ⟨g, cp, hv⟩ := own_form hown (by omega)
      subst hv
      have hl64 : (hexI d).length = 64 := by rw [hex_len]; omega
      have hcv : (convert 22 9 (.slice (some ⟨g, 0, none⟩) 64 cp)).run Tryd.prog wr = .ok (.string ⟨((hexI d).map (fun x => UInt8.ofNat x.toNat)).toArray⟩) wr := by
        have h := run_convert_bytes_back (P := Tryd.prog) wr 22 9 5 ⟨g, 0, none⟩ cp ((hexI d).map (fun x => UInt8.ofNat x.toNat)) Tryd.underlying22 Tryd.underlying5 Tryd.underlying9 (fun j hj => by
          rw [List.length_map] at hj
          rw [Addr.add_mid, Nat.zero_add, hown.cellAt j (by omega)]
          have hb := hex_byt d HB.out ((hexI d).getD j 0) (by rw [List.getD_eq_getElem?_getD, List.getElem?_eq_getElem hj]; exact List.getElem_mem _)
          rw [List.getD_eq_getElem?_getD, List.getElem?_eq_getElem hj] at hb
          simp only [Option.getD_some] at hb
          unfold u8l
          rw [List.getElem?_map, List.getElem?_eq_getElem hj, List.getElem_map, UInt8.toNat_ofNat_of_lt' (by show _ < 256; omega)]
          simp only [Option.map_some, Option.some.injEq, Value.int.injEq, true_and]
          omega)
        rw [List.length_map, hl64] at h
        exact h
      clear hlt hk h8 hl64 hown q1
      go_wp2_with fail
      go_ret
      exact ⟨rfl, hbel⟩
end Go.Proofs.YtfdmepblhlifcaaDoor
