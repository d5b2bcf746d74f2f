/- What must come of fixed calls. -/
import Derived.Test.YtgmpmpgfpchbcaaGreatDoorO2
namespace Go.Proofs.YtgmpmpgfpchbcaaGreatDoor
open Go.RowKit Go.Shelf
set_option linter.unusedVariables false
set_option linter.unusedSimpArgs false

def a1 : At := ([97], [49])
def b2 : At := ([98], [50])
def tAB : List UInt8 := [123, 97, 61, 34, 49, 34, 44, 32, 98, 61, 34, 50, 34, 125]
theorem pl_a1 : Pl a1 := ⟨by decide, by decide, by intro c hc; simp [a1] at hc; subst hc; decide⟩
theorem pl_b2 : Pl b2 := ⟨by decide, by decide, by intro c hc; simp [b2] at hc; subst hc; decide⟩
theorem join_two : (Lib.join ([tx (itI a1), tx (itI b2)].map (·.data.toList)) [44, 32]) = [97, 61, 34, 49, 34, 44, 32, 98, 61, 34, 50, 34] := by decide
set_option maxRecDepth 20000 in
set_option maxHeartbeats 4000000 in
theorem braced_two (base : Nat) (v : Value) (W : World) (h : W.ownsRow base 9 1 v 2 (itV [a1, b2])) : Calls Tryz.prog 38 #[v] W fun e w' => e = .returned (.string (tx tAB)) ∧ Below W.heap.size W w' := by
  rcases h.2 with ⟨h1, h2⟩ | ⟨g, cap, cur, h1, h2, h3, h4, h5, h6, h7⟩
  · cases h2
  · subst h1
    have hc : ∀ (j : Nat) (x : ByteArray), [tx (itI a1), tx (itI b2)][j]? = some x → W.cell? ⟨g, 0 + j, none⟩ = some (.string x) := by
      intro j x hx
      have := h.cells (g := g) rfl j (.string x) (by
        match j, hx with
        | 0, hx => simp at hx; subst hx; rfl
        | 1, hx => simp at hx; subst hx; rfl
        | j + 2, hx => simp at hx)
      rw [Addr.add_mid] at this
      exact this
    have hJ := Any.strings_Join Tryz.lays156 Tryz.Builder_Extra_156 g 0 cap [tx (itI a1), tx (itI b2)] ⟨#[44, 32]⟩ W hc (Array.getElem?_eq_some_iff.1 h3).1 (by decide) h4 (by rw [show (ByteArray.mk #[44, 32]).data.toList = [44, 32] from rfl, join_two]; decide)
    rw [show (ByteArray.mk #[44, 32]).data.toList = [44, 32] from rfl, join_two] at hJ
    have HJ : Hid (Calls Tryz.prog 63 #[.slice (some ⟨g, 0, none⟩) 2 cap, .string ⟨#[44, 32]⟩] W fun e w' => e = .returned (.string (tx [97, 61, 34, 49, 34, 44, 32, 98, 61, 34, 50, 34])) ∧ Below W.heap.size W w') := hJ
    have e1 : (⟨#[123]⟩ : ByteArray) ++ tx [97, 61, 34, 49, 34, 44, 32, 98, 61, 34, 50, 34] = tx [123, 97, 61, 34, 49, 34, 44, 32, 98, 61, 34, 50, 34] := tx_app [123] _
    have e2 : tx [123, 97, 61, 34, 49, 34, 44, 32, 98, 61, 34, 50, 34] ++ (⟨#[125]⟩ : ByteArray) = tx tAB := tx_app _ [125]
    have z1 : (tx [97, 61, 34, 49, 34, 44, 32, 98, 61, 34, 50, 34]).size = 12 := tx_size _
    have z2 : (tx [123, 97, 61, 34, 49, 34, 44, 32, 98, 61, 34, 50, 34]).size = 13 := tx_size _
    clear hJ hc
    go_enter Tryz.func38, Tryz.ntmps38
    go_wp2_with (go_at_call 63; refine HJ.out.mono ?_; rintro e w1 ⟨rfl, hb⟩; (have HB : Hid (Below W.heap.size W w1) := hb); clear hb)
    go_ret
    exact ⟨rfl, HB.out⟩
theorem textAB (v : Value) (w : World) (base : Nat) (h : w.ownsRow base 44 2 v 2 (atL [a1, b2])) : Calls Tryz.prog 19 #[v] w fun e w' => e = .returned (.string (tx tAB)) ∧ Below w.heap.size w w' := by
  obtain ⟨so, co, e4, hA⟩ := own_ats (l := [a1, b2]) h (fun x hx => by
    simp at hx
    rcases hx with rfl | rfl
    · exact can_small _ (by decide) (by decide)
    · exact can_small _ (by decide) (by decide))
  rw [e4]
  exact text_plain so co [⟨a1, pl_a1⟩, ⟨b2, pl_b2⟩] w tAB hA.lie hA.cap (by decide) (fun v W ho hb => braced_two _ v W ho)
set_option maxRecDepth 20000 in
set_option maxHeartbeats 8000000 in
theorem known_any (w : World) (hT : Tabs w) : Calls Tryz.prog 7 #[] w fun e w' => e = .returned (.bool true) ∧ Below w.heap.size w w' := by
  have hb0 : Below w.heap.size w (w.alloc (.cells #[.string ⟨#[98]⟩, .string ⟨#[50]⟩, .string ⟨#[97]⟩, .string ⟨#[49]⟩] 44)) := bel1 _ _
  have HM : Hid (Calls Tryz.prog 17 #[.slice (some ⟨w.heap.size, 0, none⟩) 2 2] (w.alloc (.cells #[.string ⟨#[98]⟩, .string ⟨#[50]⟩, .string ⟨#[97]⟩, .string ⟨#[49]⟩] 44)) fun e w' => (∃ q, e = .returned (.tuple #[q, .int .i64 0]) ∧ w'.ownsRow w.heap.size 44 2 q 2 (atL [a1, b2])) ∧ Below w.heap.size w w') := by
    have hA : Ats (w.alloc (.cells #[.string ⟨#[98]⟩, .string ⟨#[50]⟩, .string ⟨#[97]⟩, .string ⟨#[49]⟩] 44)) (some ⟨w.heap.size, 0, none⟩) 2 [b2, a1] := by
      have hr := Go.heap_alloc_new w (.cells #[.string ⟨#[98]⟩, .string ⟨#[50]⟩, .string ⟨#[97]⟩, .string ⟨#[49]⟩] 44)
      refine ⟨Nat.le_refl _, fun i x hx => ⟨w.heap.size, 0, rfl, ?_⟩, fun x hx => ?_⟩
      · match i, hx with
        | 0, hx => simp at hx; subst hx; exact ⟨by rw [cell_of_row _ _ _ _ _ _ hr]; rfl, by rw [cell_of_row _ _ _ _ _ _ hr]; rfl⟩
        | 1, hx => simp at hx; subst hx; exact ⟨by rw [cell_of_row _ _ _ _ _ _ hr]; rfl, by rw [cell_of_row _ _ _ _ _ _ hr]; rfl⟩
        | i + 2, hx => simp at hx
      · simp at hx
        rcases hx with rfl | rfl
        · exact can_small _ (by decide) (by decide)
        · exact can_small _ (by decide) (by decide)
    have h := make_any (some ⟨w.heap.size, 0, none⟩) 2 [b2, a1] _ hA (show ((2 : Nat) : Int) ≤ 140737488351232 by omega) (hT.later hb0)
    rw [show makeI [b2, a1] = ([a1, b2], 0) from mk2] at h
    exact h.mono fun e w' ⟨⟨q, g1, g2⟩, g3⟩ => ⟨⟨q, g1, own_low g2 hb0.size⟩, hb0.trans (g3.mono hb0.size)⟩
  have HPA : Hid (∀ W, Below w.heap.size w W → Calls Tryz.prog 18 #[.string ⟨#[123, 32, 97, 32, 61, 32, 34, 120, 92, 34, 121, 34, 32, 125]⟩] W fun e w' => (∃ v, e = .returned (.tuple #[v, .int .i64 0, .int .i64 0]) ∧ w'.ownsRow W.heap.size 44 2 v 1 (atL [([97], [120, 34, 121])])) ∧ Below W.heap.size W w') := fun W hb => parseA W (hT.later hb)
  have HPB : Hid (∀ W, Calls Tryz.prog 18 #[.string ⟨#[123, 97, 61, 49, 125]⟩] W fun e w' => e = .returned (.tuple #[.slice none 0 0, .int .i64 3, .int .i64 3]) ∧ Below W.heap.size W w') := fun W => parseB W
  clear hT hb0
  go_enter Tryz.func7, Tryz.ntmps7
  go_upto_region 4 with (first | (go_at_call 17; refine HM.out.mono ?_; rintro e w1 ⟨⟨q1, rfl, ho⟩, hb⟩; (obtain ⟨s1, k1, e1⟩ := own_slice ho); subst e1; (have HO1 : Hid (w1.ownsRow w.heap.size 44 2 (.slice s1 2 k1) 2 (atL [a1, b2]) ∧ Below w.heap.size w w1) := ⟨ho, hb⟩); clear ho hb HM) | (go_at_call 18; refine (HPA.out w1 HO1.out.2).mono ?_; rintro e w2 ⟨⟨q2, rfl, ho⟩, hb⟩; (obtain ⟨s2, k2, e2⟩ := own_slice ho); subst e2; (have HO2 : Hid (w2.ownsRow w1.heap.size 44 2 (.slice s2 1 k2) 1 (atL [([97], [120, 34, 121])]) ∧ Below w1.heap.size w1 w2) := ⟨ho, hb⟩); clear ho hb HPA) | (go_at_call 18; refine (HPB.out w2).mono ?_; rintro e w3 ⟨rfl, hb⟩; (have HO3 : Hid (Below w2.heap.size w2 w3) := hb); clear hb))
  have HR3 : Hid (w3.ownsRow w.heap.size 44 2 (.slice s1 2 k1) 2 (atL [a1, b2]) ∧ w3.ownsRow w1.heap.size 44 2 (.slice s2 1 k2) 1 (atL [([97], [120, 34, 121])]) ∧ Below w.heap.size w w3) :=
    ⟨own_at (own_at HO1.out.1 fun q hq => HO2.out.2.block q (HO1.out.1.lt q hq).2) fun q hq => HO3.out.block q (Nat.lt_of_lt_of_le (HO1.out.1.lt q hq).2 HO2.out.2.size), own_at HO2.out.1 fun q hq => HO3.out.block q (HO2.out.1.lt q hq).2, (HO1.out.2.trans (HO2.out.2.mono HO1.out.2.size)).trans (HO3.out.mono (HO1.out.2.trans (HO2.out.2.mono HO1.out.2.size)).size)⟩
  have HT3 : Hid (Calls Tryz.prog 19 #[.slice s1 2 k1] w3 fun e w' => e = .returned (.string (tx tAB)) ∧ Below w3.heap.size w3 w') := textAB _ w3 _ HR3.out.1
  obtain ⟨so, co, e4, hA⟩ := own_ats (l := [([97], [120, 34, 121])]) HR3.out.2.1 (fun x hx => by simp at hx; subst hx; exact can_small _ (by decide) (by decide))
  obtain ⟨b, off, hso, m0, m1⟩ := hA.cells 0 _ rfl
  have hs2 : s2 = some ⟨b, off, none⟩ := by have := (Value.slice.inj e4).1; rw [this, hso]
  subst hs2
  have hk2 : (1 : Int) ≤ (k2 : Int) := by have h1 : [(([97], [120, 34, 121]) : At)].length ≤ co := hA.cap; have h2 := (Value.slice.inj e4).2.2; simp at h1; omega
  have htl : (tx tAB).toList = [123, 97, 61, 34, 49, 34, 44, 32, 98, 61, 34, 50, 34, 125] := tx_list tAB
  have HM1 : Hid (∀ W, Below w3.heap.size w3 W → W.cell? ⟨b, off + 1, none⟩ = some (.string ⟨#[120, 34, 121]⟩)) := fun W hb => (hb.cell (p := ⟨b, off + 1, none⟩) (World.block_lt_of_cell? w3 _ m1)).trans m1
  clear m0 m1 hA e4 hso
  go_wp2_with (go_at_call 19; refine HT3.out.mono ?_; rintro e w4 ⟨rfl, hb⟩; (have HO4 : Hid (Below w3.heap.size w3 w4) := hb); (have mm := HM1.out w4 hb); clear hb)
  go_ret
  exact ⟨rfl, HR3.out.2.2.trans (HO4.out.mono HR3.out.2.2.size)⟩
end Go.Proofs.YtgmpmpgfpchbcaaGreatDoor
