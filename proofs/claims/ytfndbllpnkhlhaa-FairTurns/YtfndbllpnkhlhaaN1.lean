/- FairNil's law, over any program's queues and scheduler. -/
import Derived.Test.YtfndbllpnkhlhaaQ1
import Derived.DeepKeys
namespace Go.Proofs.Ytfndbllpnkhlhaa
open Go.RowKit
set_option linter.unusedVariables false
set_option linter.unusedSimpArgs false

variable {PF : World → Nat → (Nat → Prop) → Sc → Prop}
/-- What is asked of the program's calls of what there is not. -/
structure PrgNil : Prop where
  qpop : ∀  (w : World), Calls Try.prog 14 #[.pointer none] w fun e w' => e = .returned (.tuple #[.int .i64 0, .bool false]) ∧ Below w.heap.size w w'
  qpeek : ∀  (w : World), Calls Try.prog 13 #[.pointer none] w fun e w' => e = .returned (.tuple #[.int .i64 0, .bool false]) ∧ Below w.heap.size w w'
  sstep : ∀  (w : World), Calls Try.prog 22 #[.pointer none] w fun e w' => e = .returned (.tuple #[.string (tx []), .agg #[.int .i64 0, .int .i64 0], .bool false, .bool false]) ∧ Below w.heap.size w w'
  swts : ∀  (w : World), Calls Try.prog 24 #[.pointer none] w fun e w' => e = .returned (.tuple #[.int .i64 0, .int .i64 0]) ∧ Below w.heap.size w w'
  qpush : ∀ (x : Int) (w : World), Calls Try.prog 11 #[.pointer none, .int .i64 x] w fun e w' => e = .returned (.int .i64 2) ∧ Below w.heap.size w w'
  qlen : ∀  (w : World), Calls Try.prog 16 #[.pointer none] w fun e w' => e = .returned (.int .i64 0) ∧ Below w.heap.size w w'
  qall : ∀  (w : World), Calls Try.prog 15 #[.pointer none] w fun e w' => (∃ s c, e = .returned (.slice s 0 c)) ∧ Below w.heap.size w w'
  qdrop : ∀  (w : World), Calls Try.prog 12 #[.pointer none] w fun e w' => e = .returned (.int .i64 0) ∧ Below w.heap.size w w'
  sset : ∀ (nm : List UInt8) (wt : Int) (w : World), Calls Try.prog 20 #[.pointer none, .string (tx nm), .int .i64 wt] w fun e w' => e = .returned (.int .i64 2) ∧ Below w.heap.size w w'
  spush : ∀ (nm : List UInt8) (id cost : Int) (w : World), Calls Try.prog 21 #[.pointer none, .string (tx nm), .agg #[.int .i64 id, .int .i64 cost]] w fun e w' => e = .returned (.int .i64 2) ∧ Below w.heap.size w w'
  swait : ∀ (nm : List UInt8) (w : World), Calls Try.prog 29 #[.pointer none, .string (tx nm)] w fun e w' => e = .returned (.int .i64 0) ∧ Below w.heap.size w w'
  sahead : ∀ (nm : List UInt8) (w : World), Calls Try.prog 23 #[.pointer none, .string (tx nm)] w fun e w' => e = .returned (.int .i64 0) ∧ Below w.heap.size w w'
  sdrop : ∀  (w : World), Calls Try.prog 30 #[.pointer none] w fun e w' => e = .returned (.int .i64 0) ∧ Below w.heap.size w w'
theorem eqJob0 (w : World) : (Op.equalIn 10000 42 (.agg #[.int .i64 0, .int .i64 0]) (.agg #[.int .i64 0, .int .i64 0])).run Try.prog w = .ok true w := by kernel_rfl
set_option maxRecDepth 20000 in
set_option maxHeartbeats 8000000 in
theorem nil_law (GS : PrgS PF) (Z : PrgNil) (kind wt id cost : Int) (nm : List UInt8) (w : World) :
    Calls Try.prog 8 #[.agg #[.int .i64 kind, .string (tx nm), .int .i64 wt, .int .i64 id, .int .i64 cost]] w fun e w' => e = .returned (.bool true) ∧ Below w.heap.size w w' := by
  have HG : Hid (PrgS PF) := GS
  have HZ : Hid PrgNil := Z
  have es : ({ data := #[] } : ByteArray) = tx [] := rfl
  clear GS Z
  go_enter Try.func8, Try.ntmps8
  go_wp2_with fail
  obtain ⟨W, hW⟩ : ∃ W, w.alloc (.cells #[.int .i64 kind, .string (tx nm), .int .i64 wt, .int .i64 id, .int .i64 cost] 44) = W := ⟨_, rfl⟩
  have HB : Hid (Below w.heap.size w W) := by rw [← hW]; exact bel1 _ _
  have HSZ : Hid (w.heap.size ≤ W.heap.size) := HB.out.size
  have HP : Hid (∀ V, Below W.heap.size W V → V.cell? ⟨w.heap.size, 1, none⟩ = some (.string (tx nm)) ∧ V.cell? ⟨w.heap.size, 3, none⟩ = some (.int .i64 id) ∧ V.cell? ⟨w.heap.size, 4, none⟩ = some (.int .i64 cost)) := fun V hV => by
    have h0 : W.heap[w.heap.size]? = some (.cells #[.int .i64 kind, .string (tx nm), .int .i64 wt, .int .i64 id, .int .i64 cost] 44 (0, 0)) := by rw [← hW]; exact heap_alloc_new _ _
    have h := (hV.block _ (Array.getElem?_eq_some_iff.1 h0).1).trans h0
    exact ⟨by rw [cell_of_row _ _ _ _ _ _ h]; rfl, by rw [cell_of_row _ _ _ _ _ _ h]; rfl, by rw [cell_of_row _ _ _ _ _ _ h]; rfl⟩
  rw [hW]
  clear hW
  generalize w.heap.size = p at HP ⊢
  have HB0 : Hid (Below W.heap.size W W) := Below.refl _ _
  refine (HZ.out.qpop  W).mono ?_
  rintro e w1 ⟨rfl, hb⟩
  have HB1 : Hid (Below W.heap.size W w1) := HB0.out.trans (hb.mono HB0.out.size)
  clear hb
  try clear y1 y3 y4
  obtain ⟨y1, y3, y4⟩ := HP.out w1 HB1.out
  go_wp2_with fail
  refine (HZ.out.qpeek  w1).mono ?_
  rintro e w2 ⟨rfl, hb⟩
  have HB2 : Hid (Below W.heap.size W w2) := HB1.out.trans (hb.mono HB1.out.size)
  clear hb
  try clear y1 y3 y4
  obtain ⟨y1, y3, y4⟩ := HP.out w2 HB2.out
  go_wp2_with fail
  refine (HZ.out.sstep  w2).mono ?_
  rintro e w3 ⟨rfl, hb⟩
  have HB3 : Hid (Below W.heap.size W w3) := HB2.out.trans (hb.mono HB2.out.size)
  clear hb
  try clear y1 y3 y4
  obtain ⟨y1, y3, y4⟩ := HP.out w3 HB3.out
  go_wp2_with fail
  obtain ⟨V, hV⟩ : ∃ V, w3.alloc (.cells #[.int .i64 0, .int .i64 0] 42) = V := ⟨_, rfl⟩
  have HBV : Hid (Below W.heap.size W V ∧ ∀ X, Below V.heap.size V X → X.cell? ⟨w3.heap.size, 0, none⟩ = some (.int .i64 0) ∧ X.cell? ⟨w3.heap.size, 1, none⟩ = some (.int .i64 0)) := by
    refine ⟨by rw [← hV]; exact HB3.out.trans ((bel1 _ _).mono HB3.out.size), fun X hX => ?_⟩
    have h0 : V.heap[w3.heap.size]? = some (.cells #[.int .i64 0, .int .i64 0] 42 (0, 0)) := by rw [← hV]; exact heap_alloc_new _ _
    have h := (hX.block _ (Array.getElem?_eq_some_iff.1 h0).1).trans h0
    exact ⟨by rw [cell_of_row _ _ _ _ _ _ h]; rfl, by rw [cell_of_row _ _ _ _ _ _ h]; rfl⟩
  rw [hV]
  clear hV
  generalize w3.heap.size = jb at HBV ⊢
  have HJ0 : Hid (Below V.heap.size V V) := Below.refl _ _
  have HBVV : Hid (Below W.heap.size W V) := HBV.out.1
  refine (HZ.out.swts  V).mono ?_
  rintro e w4 ⟨rfl, hb⟩
  have HB4 : Hid (Below W.heap.size W w4) := HBVV.out.trans (hb.mono HBVV.out.size)
  have HJ4 : Hid (Below V.heap.size V w4) := HJ0.out.trans (hb.mono HJ0.out.size)
  clear hb
  try clear y1 y3 y4
  obtain ⟨y1, y3, y4⟩ := HP.out w4 HB4.out
  try clear z0 z1
  obtain ⟨z0, z1⟩ := HBV.out.2 w4 HJ4.out
  try clear hq
  have hq := eqJob0 w4
  go_wp2_with fail
  refine (HZ.out.qpush 1 w4).mono ?_
  rintro e w5 ⟨rfl, hb⟩
  have HB5 : Hid (Below W.heap.size W w5) := HB4.out.trans (hb.mono HB4.out.size)
  have HJ5 : Hid (Below V.heap.size V w5) := HJ4.out.trans (hb.mono HJ4.out.size)
  clear hb
  try clear y1 y3 y4
  obtain ⟨y1, y3, y4⟩ := HP.out w5 HB5.out
  try clear z0 z1
  obtain ⟨z0, z1⟩ := HBV.out.2 w5 HJ5.out
  try clear hq
  have hq := eqJob0 w5
  go_wp2_with fail
  refine (HZ.out.qlen  w5).mono ?_
  rintro e w6 ⟨rfl, hb⟩
  have HB6 : Hid (Below W.heap.size W w6) := HB5.out.trans (hb.mono HB5.out.size)
  have HJ6 : Hid (Below V.heap.size V w6) := HJ5.out.trans (hb.mono HJ5.out.size)
  clear hb
  try clear y1 y3 y4
  obtain ⟨y1, y3, y4⟩ := HP.out w6 HB6.out
  try clear z0 z1
  obtain ⟨z0, z1⟩ := HBV.out.2 w6 HJ6.out
  try clear hq
  have hq := eqJob0 w6
  go_wp2_with fail
  refine (HZ.out.qall  w6).mono ?_
  rintro e w7 ⟨⟨sl, sc, rfl⟩, hb⟩
  have HB7 : Hid (Below W.heap.size W w7) := HB6.out.trans (hb.mono HB6.out.size)
  have HJ7 : Hid (Below V.heap.size V w7) := HJ6.out.trans (hb.mono HJ6.out.size)
  clear hb
  try clear y1 y3 y4
  obtain ⟨y1, y3, y4⟩ := HP.out w7 HB7.out
  try clear z0 z1
  obtain ⟨z0, z1⟩ := HBV.out.2 w7 HJ7.out
  try clear hq
  have hq := eqJob0 w7
  go_wp2_with fail
  refine (HZ.out.qdrop  w7).mono ?_
  rintro e w8 ⟨rfl, hb⟩
  have HB8 : Hid (Below W.heap.size W w8) := HB7.out.trans (hb.mono HB7.out.size)
  have HJ8 : Hid (Below V.heap.size V w8) := HJ7.out.trans (hb.mono HJ7.out.size)
  clear hb
  try clear y1 y3 y4
  obtain ⟨y1, y3, y4⟩ := HP.out w8 HB8.out
  try clear z0 z1
  obtain ⟨z0, z1⟩ := HBV.out.2 w8 HJ8.out
  try clear hq
  have hq := eqJob0 w8
  go_wp2_with fail
  refine (HZ.out.sset nm 1 w8).mono ?_
  rintro e w9 ⟨rfl, hb⟩
  have HB9 : Hid (Below W.heap.size W w9) := HB8.out.trans (hb.mono HB8.out.size)
  have HJ9 : Hid (Below V.heap.size V w9) := HJ8.out.trans (hb.mono HJ8.out.size)
  clear hb
  try clear y1 y3 y4
  obtain ⟨y1, y3, y4⟩ := HP.out w9 HB9.out
  try clear z0 z1
  obtain ⟨z0, z1⟩ := HBV.out.2 w9 HJ9.out
  try clear hq
  have hq := eqJob0 w9
  go_wp2_with fail
  refine (HZ.out.spush nm id cost w9).mono ?_
  rintro e w10 ⟨rfl, hb⟩
  have HB10 : Hid (Below W.heap.size W w10) := HB9.out.trans (hb.mono HB9.out.size)
  have HJ10 : Hid (Below V.heap.size V w10) := HJ9.out.trans (hb.mono HJ9.out.size)
  clear hb
  try clear y1 y3 y4
  obtain ⟨y1, y3, y4⟩ := HP.out w10 HB10.out
  try clear z0 z1
  obtain ⟨z0, z1⟩ := HBV.out.2 w10 HJ10.out
  try clear hq
  have hq := eqJob0 w10
  go_wp2_with fail
  refine (HZ.out.swait nm w10).mono ?_
  rintro e w11 ⟨rfl, hb⟩
  have HB11 : Hid (Below W.heap.size W w11) := HB10.out.trans (hb.mono HB10.out.size)
  have HJ11 : Hid (Below V.heap.size V w11) := HJ10.out.trans (hb.mono HJ10.out.size)
  clear hb
  try clear y1 y3 y4
  obtain ⟨y1, y3, y4⟩ := HP.out w11 HB11.out
  try clear z0 z1
  obtain ⟨z0, z1⟩ := HBV.out.2 w11 HJ11.out
  try clear hq
  have hq := eqJob0 w11
  go_wp2_with fail
  refine (HZ.out.sahead nm w11).mono ?_
  rintro e w12 ⟨rfl, hb⟩
  have HB12 : Hid (Below W.heap.size W w12) := HB11.out.trans (hb.mono HB11.out.size)
  have HJ12 : Hid (Below V.heap.size V w12) := HJ11.out.trans (hb.mono HJ11.out.size)
  clear hb
  try clear y1 y3 y4
  obtain ⟨y1, y3, y4⟩ := HP.out w12 HB12.out
  try clear z0 z1
  obtain ⟨z0, z1⟩ := HBV.out.2 w12 HJ12.out
  try clear hq
  have hq := eqJob0 w12
  go_wp2_with fail
  refine (HZ.out.sdrop  w12).mono ?_
  rintro e w13 ⟨rfl, hb⟩
  have HB13 : Hid (Below W.heap.size W w13) := HB12.out.trans (hb.mono HB12.out.size)
  have HJ13 : Hid (Below V.heap.size V w13) := HJ12.out.trans (hb.mono HJ12.out.size)
  clear hb
  try clear y1 y3 y4
  obtain ⟨y1, y3, y4⟩ := HP.out w13 HB13.out
  try clear z0 z1
  obtain ⟨z0, z1⟩ := HBV.out.2 w13 HJ13.out
  try clear hq
  have hq := eqJob0 w13
  go_wp2_with (go_at_call 10; refine (known_any HG.out _).mono ?_; rintro e wz ⟨rfl, hbz⟩)
  go_ret
  have hbx := HB13.out.trans (hbz.mono HB13.out.size)
  exact ⟨rfl, HB.out.trans (hbx.mono HSZ.out)⟩
end Go.Proofs.Ytfndbllpnkhlhaa
