/- SlotsNil: the law. -/
import Derived.Test.YtkigagglkmdccaaTn
namespace Go.Proofs.Ytkigagglkmdccaa
open Go.RowKit
set_option linter.unusedVariables false
set_option linter.unusedSimpArgs false

set_option maxRecDepth 100000 in
set_option maxHeartbeats 4000000 in
theorem nil_law (kind wt id cost : Int) (nm : List UInt8) (w : World) :
    Calls Try.prog 6 #[.agg #[.int .i64 kind, .string (tx nm), .int .i64 wt, .int .i64 id, .int .i64 cost]] w fun e w' => e = .returned (.bool true) ∧ Below w.heap.size w w' := by
  have es : ({ data := #[] } : ByteArray) = tx [] := rfl
  go_enter Try.func6, Try.ntmps6
  go_upto_region 2 with fail
  obtain ⟨W, hW⟩ : ∃ W, w.alloc (.cells #[.int .i64 kind, .string (tx nm), .int .i64 wt, .int .i64 id, .int .i64 cost] 32) = W := ⟨_, rfl⟩
  have HB : Hid (Below w.heap.size w W) := by
    show Below _ _ _
    rw [← hW]
    exact bel1' _ _
  have HP : Hid (∀ V, Below W.heap.size W V → V.cell? ⟨w.heap.size, 1, none⟩ = some (.string (tx nm)) ∧ V.cell? ⟨w.heap.size, 3, none⟩ = some (.int .i64 id) ∧ V.cell? ⟨w.heap.size, 4, none⟩ = some (.int .i64 cost)) := fun V hV => by
    have h0 : W.heap[w.heap.size]? = some (.cells #[.int .i64 kind, .string (tx nm), .int .i64 wt, .int .i64 id, .int .i64 cost] 32 (0, 0)) := by rw [← hW]; exact heap_alloc_new _ _
    have h := (hV.block _ (Array.getElem?_eq_some_iff.1 h0).1).trans h0
    exact ⟨by rw [cell_of_row _ _ _ _ _ _ h]; rfl, by rw [cell_of_row _ _ _ _ _ _ h]; rfl, by rw [cell_of_row _ _ _ _ _ _ h]; rfl⟩
  rw [hW]
  clear hW
  obtain ⟨p, hp⟩ : ∃ p, w.heap.size = p := ⟨_, rfl⟩
  rw [hp] at HP ⊢
  have HB0 : Hid (Below W.heap.size W W) := Below.refl _ _
  obtain ⟨y1, y3, y4⟩ := HP.out W HB0.out
  go_wp2_with fail
  refine (twithin_nil nm cost W).mono ?_
  rintro e w1 ⟨rfl, hb⟩
  have HB1 : Hid (Below W.heap.size W w1) := HB0.out.trans (hb.mono HB0.out.size)
  clear hb y1 y3 y4
  obtain ⟨y1, y3, y4⟩ := HP.out w1 HB1.out
  go_wp2_with fail
  refine (tset_nil nm 1 w1).mono ?_
  rintro e w2 ⟨rfl, hb⟩
  have HB2 : Hid (Below W.heap.size W w2) := HB1.out.trans (hb.mono HB1.out.size)
  clear hb y1 y3 y4
  obtain ⟨y1, y3, y4⟩ := HP.out w2 HB2.out
  go_wp2_with fail
  refine (tpush_nil nm id cost w2).mono ?_
  rintro e w3 ⟨rfl, hb⟩
  have HB3 : Hid (Below W.heap.size W w3) := HB2.out.trans (hb.mono HB2.out.size)
  clear hb y1 y3 y4
  obtain ⟨y1, y3, y4⟩ := HP.out w3 HB3.out
  go_wp2_with fail
  refine (tstep_nil w3).mono ?_
  rintro e w4 ⟨rfl, hb⟩
  have HB4 : Hid (Below W.heap.size W w4) := HB3.out.trans (hb.mono HB3.out.size)
  clear hb y1 y3 y4
  obtain ⟨y1, y3, y4⟩ := HP.out w4 HB4.out
  go_wp2_with fail
  refine (same_zero w4).mono ?_
  rintro e w5 ⟨rfl, hb⟩
  have HB5 : Hid (Below W.heap.size W w5) := HB4.out.trans (hb.mono HB4.out.size)
  clear hb y1 y3 y4
  obtain ⟨y1, y3, y4⟩ := HP.out w5 HB5.out
  go_wp2_with fail
  refine (tturn_nil w5).mono ?_
  rintro e w6 ⟨rfl, hb⟩
  have HB6 : Hid (Below W.heap.size W w6) := HB5.out.trans (hb.mono HB5.out.size)
  clear hb y1 y3 y4
  obtain ⟨y1, y3, y4⟩ := HP.out w6 HB6.out
  go_wp2_with fail
  refine (tslot_nil w6).mono ?_
  rintro e w7 ⟨rfl, hb⟩
  have HB7 : Hid (Below W.heap.size W w7) := HB6.out.trans (hb.mono HB6.out.size)
  clear hb y1 y3 y4
  obtain ⟨y1, y3, y4⟩ := HP.out w7 HB7.out
  go_wp2_with fail
  refine (twait_nil nm w7).mono ?_
  rintro e w8 ⟨rfl, hb⟩
  have HB8 : Hid (Below W.heap.size W w8) := HB7.out.trans (hb.mono HB7.out.size)
  clear hb y1 y3 y4
  obtain ⟨y1, y3, y4⟩ := HP.out w8 HB8.out
  go_wp2_with fail
  refine (tahead_nil nm w8).mono ?_
  rintro e w9 ⟨rfl, hb⟩
  have HB9 : Hid (Below W.heap.size W w9) := HB8.out.trans (hb.mono HB8.out.size)
  clear hb y1 y3 y4
  obtain ⟨y1, y3, y4⟩ := HP.out w9 HB9.out
  go_wp2_with fail
  refine (ttens_nil w9).mono ?_
  rintro e w10 ⟨rfl, hb⟩
  have HB10 : Hid (Below W.heap.size W w10) := HB9.out.trans (hb.mono HB9.out.size)
  clear hb y1 y3 y4
  obtain ⟨y1, y3, y4⟩ := HP.out w10 HB10.out
  go_wp2_with fail
  refine (tdrop_nil w10).mono ?_
  rintro e w11 ⟨rfl, hb⟩
  have HB11 : Hid (Below W.heap.size W w11) := HB10.out.trans (hb.mono HB10.out.size)
  clear hb y1 y3 y4
  obtain ⟨y1, y3, y4⟩ := HP.out w11 HB11.out
  go_wp2_with fail
  refine (known_any w11).mono ?_
  rintro e w12 ⟨rfl, hb⟩
  have HB12 : Hid (Below W.heap.size W w12) := HB11.out.trans (hb.mono HB11.out.size)
  clear hb y1 y3 y4
  obtain ⟨y1, y3, y4⟩ := HP.out w12 HB12.out
  go_wp2_with fail
  go_ret
  exact ⟨rfl, HB.out.trans (HB12.out.mono HB.out.size)⟩
end Go.Proofs.Ytkigagglkmdccaa
