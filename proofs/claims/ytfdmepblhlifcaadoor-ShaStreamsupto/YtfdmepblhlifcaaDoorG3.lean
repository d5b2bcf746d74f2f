/- Two digests put together. -/
import Derived.Test.YtfdmepblhlifcaaDoorA7
import Derived.Lib.AppendZeros
namespace Go.Proofs.YtfdmepblhlifcaaDoor
open Go.RowKit
set_option linter.unusedVariables false
set_option linter.unusedSimpArgs false

set_option maxRecDepth 20000 in
set_option maxHeartbeats 2000000 in
theorem grow_any (w : World) : Calls Tryd.prog 45 #[.slice none 0 0, .int .i64 64] w fun e w' => (∃ v, e = .returned v ∧ w'.ownsRow w.heap.size 5 1 v 0 []) ∧ Below w.heap.size w w' := by
  obtain ⟨i0, hi, hz0, hz1, hz2⟩ := info_parts info5
  have hrz : ∀ ty, (Builtin.append_ #[22, 3] ty #[.slice none 0 0, .int .i64 64]).run Tryd.prog w = .ok (.slice (some ⟨w.heap.size, 0, none⟩) 64 (grownCap w 64 0 5)) (w.drew.alloc (.cells (Builtin.zeroCells (Value.int .u8 0).cells 64 ++ Builtin.zeroCells (Value.int .u8 0).cells (grownCap w 64 0 5 - 64)) 5)) := fun ty =>
    Lib.run_append_nil_zeros w 22 3 ty 5 i0 (.int .u8 0) .i64 .i64 Tryd.underlying22 Tryd.underlying3 hi hz0 64 (by decide) (by rw [hz1]; decide) (by decide) (by rw [hz2]; decide)
  have hG : 64 ≤ grownCap w 64 0 5 := grownCap_ge w _ _ _
  have hM : grownCap w 64 0 5 ≤ maxLen := grownCap_le_maxLen w 64 0 5 (by unfold maxLen; decide)
  obtain ⟨G, hGe⟩ : ∃ G, G = grownCap w 64 0 5 := ⟨_, rfl⟩
  rw [← hGe] at hrz hG hM
  have HM : Hid (64 ≤ G ∧ G ≤ maxLen) := ⟨hG, hM⟩
  have HRZ : Hid (∀ ty, (Builtin.append_ #[22, 3] ty #[.slice none 0 0, .int .i64 64]).run Tryd.prog w = .ok (.slice (some ⟨w.heap.size, 0, none⟩) 64 G) (w.drew.alloc (.cells (Builtin.zeroCells (Value.int .u8 0).cells 64 ++ Builtin.zeroCells (Value.int .u8 0).cells (G - 64)) 5))) := hrz
  clear hrz hGe hG hM
  go_enter Tryd.func45, Tryd.ntmps45
  go_wp2_with (at_builtin; refine Lib.wpList_append_run _ rfl _ _ _ _ rfl _ _ rfl rfl _ _ (HRZ.out _) ?_)
  go_ret
  obtain ⟨h1, h2⟩ := HM.out
  refine ⟨⟨_, rfl, rfl, .inr ⟨w.heap.size, G, _, rfl, Nat.le_refl _, Go.heap_alloc_new _ _, by omega, h2, ?_, by simp⟩⟩, ((Below.refl _ w).alloc (Nat.le_refl _) _).drew⟩
  simp [Builtin.zeroCells]
  omega

theorem own_row {w : World} {base g cp : Nat} {zs : List Int} (h : w.ownsRow base 5 1 (.slice (some ⟨g, 0, none⟩) zs.length cp) zs.length (u8l zs)) (hz : Byt zs) (hl : (zs.length : Int) ≤ 140737488351232) : BRow w g 0 zs := by
  refine ⟨fun i hi => ?_, hz, by omega⟩
  rw [Nat.zero_add, h.cellAt i (by simpa using hi)]
  unfold u8l
  rw [List.getElem?_map, List.getD_eq_getElem?_getD, List.getElem?_eq_getElem hi]
  rfl

set_option maxRecDepth 20000 in
set_option maxHeartbeats 2000000 in
theorem concat_any (pb ga gb : Nat) (a b : List Int) (w : World) (ha : a.length = 32) (hb : b.length = 32) (hp : pb < w.heap.size) (hga : ga < w.heap.size) (hgb : gb < w.heap.size)
    (p0 : w.cell? ⟨pb, 0, none⟩ = some (.slice (some ⟨ga, 0, none⟩) 32 32)) (p1 : w.cell? ⟨pb, 1, none⟩ = some (.slice (some ⟨gb, 0, none⟩) 32 32)) (Ra : BRow w ga 0 a) (Rb : BRow w gb 0 b) :
    Calls Tryd.prog 34 #[.slice (some ⟨pb, 0, none⟩) 2 2] w fun e w' => (∃ g cp, e = .returned (.slice (some ⟨g, 0, none⟩) 64 cp) ∧ BRow w' g 0 (a ++ b) ∧ 64 ≤ cp ∧ w.heap.size ≤ g ∧ g < w'.heap.size) ∧ Below w.heap.size w w' := by
  obtain ⟨i0, hi, hz0, hz1, hz2⟩ := info_parts info5
  have HA : Hid (BRow w ga 0 a) := Ra
  have HB : Hid (BRow w gb 0 b) := Rb
  have HLA : Hid (a.length = 32) := ha
  have HLB : Hid (b.length = 32) := hb
  have HPP : Hid (pb < w.heap.size ∧ ga < w.heap.size ∧ gb < w.heap.size) := ⟨hp, hga, hgb⟩
  clear Ra Rb ha hb hp hga hgb
  go_enter Tryd.func34, Tryd.ntmps34
  go_wp2_with fail
  go_loopw [3, 5, 11] (fun z s i wr => wr = w ∧ ∃ k : Nat, k ≤ 2 ∧ i = .int .i64 k ∧ z = .int .i64 (32 * (k : Int))) (fun z s i wr => 2 - (intOf i).toNat)
  case atStart => exact ⟨rfl, 0, by omega, rfl, rfl⟩
  case round =>
    obtain ⟨hw, k, hk, rfl, rfl⟩ := hrel
    rw [hw]
    clear hw
    have : k = 0 ∨ k = 1 ∨ k = 2 := by omega
    rcases this with rfl | rfl | rfl
    · go_wp2_with fail
      go_roundw
      case rel => exact ⟨trivial, 1, by omega, rfl, rfl⟩
      case measure => simp [intOf]
    · go_wp2_with fail
      go_roundw
      case rel => exact ⟨trivial, 2, by omega, rfl, rfl⟩
      case measure => simp [intOf]
    · go_wp2_with (go_at_call 45; refine (grow_any _).mono ?_; rintro e w1 ⟨⟨v1, rfl, hown1⟩, hb1⟩)
      go_loopw [6, 8, 27] (fun v s i wr => Below w.heap.size w wr ∧ ((i = .int .i64 0 ∧ wr.ownsRow w.heap.size 5 1 v 0 []) ∨ (i = .int .i64 1 ∧ wr.ownsRow w.heap.size 5 1 v 32 (u8l a)) ∨ (i = .int .i64 2 ∧ wr.ownsRow w.heap.size 5 1 v 64 (u8l a ++ u8l b)))) (fun v s i wr => 2 - (intOf i).toNat)
      case atStart => exact ⟨hb1, .inl ⟨rfl, hown1⟩⟩
      case round =>
        clear hown1 hb1
        obtain ⟨hbel, hcase⟩ := hrel
        have HBEL : Hid (Below w.heap.size w wr) := hbel
        have q0 : wr.cell? ⟨pb, 0, none⟩ = some (.slice (some ⟨ga, 0, none⟩) 32 32) := (hbel.cell HPP.out.1).trans p0
        have q1 : wr.cell? ⟨pb, 1, none⟩ = some (.slice (some ⟨gb, 0, none⟩) 32 32) := (hbel.cell HPP.out.1).trans p1
        clear hbel p0 p1
        rcases hcase with ⟨rfl, hown⟩ | ⟨rfl, hown⟩ | ⟨rfl, hown⟩
        · have HOWN : Hid (wr.ownsRow w.heap.size 5 1 u6 0 []) := hown
          clear hown
          go_wp2_with (at_builtin; (refine wpList_append_own _ rfl (.tmp 31) (.tmp 32) 22 rfl w.heap.size 5 i0 (.int .u8 0) 1 1 Tryd.underlying22 hi hz0 hz1 hz2 rfl (by decide) _ 0 [] rfl HOWN.out ⟨ga, 0, none⟩ 32 32 (u8l a) rfl (by rw [u8l_len, HLA.out]) (cells_u8l (HA.out.later HBEL.out HPP.out.2.1)) (u8l_one _) (by unfold maxLen; omega) (by omega) HBEL.out.size ?_; intro v3 w3 hown3 hgrow3 hx3; clear hx3; (have HB3 : Hid (Below w.heap.size wr w3) := (Below.refl _ _).grown hgrow3 HBEL.out.size (ownBlock_ge HOWN.out)); (have HOWN3 : Hid (w3.ownsRow w.heap.size 5 1 v3 (0 + 32) ([] ++ u8l a)) := hown3); clear hown3 hgrow3))
          go_roundw
          case rel => exact ⟨HBEL.out.trans HB3.out, .inr (.inl ⟨rfl, by simpa using HOWN3.out⟩)⟩
          case measure => simp [intOf]
        · have HOWN : Hid (wr.ownsRow w.heap.size 5 1 u6 32 (u8l a)) := hown
          clear hown
          go_wp2_with (at_builtin; (refine wpList_append_own _ rfl (.tmp 31) (.tmp 32) 22 rfl w.heap.size 5 i0 (.int .u8 0) 1 1 Tryd.underlying22 hi hz0 hz1 hz2 rfl (by decide) _ 32 (u8l a) rfl HOWN.out ⟨gb, 0, none⟩ 32 32 (u8l b) rfl (by rw [u8l_len, HLB.out]) (cells_u8l (HB.out.later HBEL.out HPP.out.2.2)) (u8l_one _) (by unfold maxLen; omega) (by omega) HBEL.out.size ?_; intro v3 w3 hown3 hgrow3 hx3; clear hx3; (have HB3 : Hid (Below w.heap.size wr w3) := (Below.refl _ _).grown hgrow3 HBEL.out.size (ownBlock_ge HOWN.out)); (have HOWN3 : Hid (w3.ownsRow w.heap.size 5 1 v3 (32 + 32) ((u8l a) ++ u8l b)) := hown3); clear hown3 hgrow3))
          go_roundw
          case rel => exact ⟨HBEL.out.trans HB3.out, .inr (.inr ⟨rfl, HOWN3.out⟩)⟩
          case measure => simp [intOf]
        · obtain ⟨g, cp, hv⟩ := own_form hown (by omega)
          subst hv
          have HOWN : Hid (wr.ownsRow w.heap.size 5 1 (.slice (some ⟨g, 0, none⟩) 64 cp) 64 (u8l (a ++ b))) := by show World.ownsRow _ _ _ _ _ _ _; rw [← u8l_app]; exact hown
          clear hown
          go_wp2_with fail
          go_ret
          have hab : (a ++ b).length = 64 := by rw [List.length_append, HLA.out, HLB.out]
          have h := HOWN.out
          have hrow : BRow wr g 0 (a ++ b) := own_row (base := w.heap.size) (cp := cp) (by rw [hab]; exact h) (byt_app HA.out.byt HB.out.byt) (by rw [hab]; decide)
          have hgb : g < wr.heap.size := World.block_lt_of_cell? wr _ (hrow.cell 0 (by rw [hab]; decide))
          have hge : w.heap.size ≤ g := ownBlock_ge h g rfl
          exact ⟨⟨g, cp, rfl, hrow, own_cap h, hge, hgb⟩, HBEL.out⟩
end Go.Proofs.YtfdmepblhlifcaaDoor
