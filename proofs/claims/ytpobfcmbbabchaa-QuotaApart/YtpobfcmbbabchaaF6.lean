/- QuotaNil's law, over any program's table. -/
import Derived.Test.YtpobfcmbbabchaaF1
namespace Go.Proofs.Ytpobfcmbbabchaa
open Go.RowKit
set_option linter.unusedVariables false
set_option linter.unusedSimpArgs false

variable {PT : World → Nat → Nat → List Bk → Prop} {bad : TypeId → Bool}
/-- What is asked of the program's calls of a table that is not there. -/
structure PrgNil : Prop where
  tok : ∀ (nm : List UInt8) (now : Int) (w : World), Calls Try.prog 12 #[.pointer none, .string (tx nm), .int .i64 now] w fun e w' => e = .returned (.tuple #[.int .i64 0, .int .i64 2]) ∧ Below w.heap.size w w'
  next : ∀ (nm : List UInt8) (cost now : Int) (w : World), Calls Try.prog 17 #[.pointer none, .string (tx nm), .int .i64 cost, .int .i64 now] w fun e w' => e = .returned (.tuple #[.int .i64 0, .int .i64 2]) ∧ Below w.heap.size w w'
  cnt : ∀ (nm : List UInt8) (w : World), Calls Try.prog 14 #[.pointer none, .string (tx nm)] w fun e w' => e = .returned (.tuple #[.agg #[.int .i64 0, .int .i64 0, .int .i64 0], .int .i64 2]) ∧ Below w.heap.size w w'
  set : ∀ (nm : List UInt8) (rate burst now : Int) (w : World), Calls Try.prog 15 #[.pointer none, .string (tx nm), .int .i64 rate, .int .i64 burst, .int .i64 now] w fun e w' => e = .returned (.int .i64 2) ∧ Below w.heap.size w w'
  take : ∀ (nm : List UInt8) (cost now : Int) (w : World), Calls Try.prog 16 #[.pointer none, .string (tx nm), .int .i64 cost, .int .i64 now] w fun e w' => e = .returned (.int .i64 2) ∧ Below w.heap.size w w'
  give : ∀ (nm : List UInt8) (cost now : Int) (w : World), Calls Try.prog 19 #[.pointer none, .string (tx nm), .int .i64 cost, .int .i64 now] w fun e w' => e = .returned (.int .i64 2) ∧ Below w.heap.size w w'
  drop : ∀ (nm : List UInt8) (w : World), Calls Try.prog 20 #[.pointer none, .string (tx nm)] w fun e w' => e = .returned (.int .i64 2) ∧ Below w.heap.size w w'
  len : ∀ w : World, Calls Try.prog 21 #[.pointer none] w fun e w' => e = .returned (.int .i64 0) ∧ Below w.heap.size w w'
  copy : ∀ w : World, Calls Try.prog 18 #[.pointer none] w fun e w' => e = .returned (.pointer none) ∧ Below w.heap.size w w'
set_option maxRecDepth 20000 in
set_option maxHeartbeats 4000000 in
theorem nil_law (G : PrgN PT bad) (Z : PrgNil) (o : OpI) (w : World) :
    Calls Try.prog 8 #[opV o] w fun e w' => e = .returned (.bool true) ∧ Below w.heap.size w w' := by
  have HG : Hid (PrgN PT bad) := G
  have HZ : Hid PrgNil := Z
  obtain ⟨kind, nm, rate, burst, cost, now⟩ := o
  show Calls Try.prog 8 #[.agg #[.int .i64 kind, .string (tx nm), .int .i64 rate, .int .i64 burst, .int .i64 cost, .int .i64 now]] w _
  clear G Z
  go_enter Try.func8, Try.ntmps8
  go_wp2_with fail
  obtain ⟨W, hW⟩ : ∃ W, w.alloc (.cells #[.int .i64 kind, .string (tx nm), .int .i64 rate, .int .i64 burst, .int .i64 cost, .int .i64 now] 32) = W := ⟨_, rfl⟩
  have HB : Hid (Below w.heap.size w W) := by rw [← hW]; exact bel1 _ _
  have HP : Hid (∀ V, Below W.heap.size W V → V.cell? ⟨w.heap.size, 1, none⟩ = some (.string (tx nm)) ∧ V.cell? ⟨w.heap.size, 4, none⟩ = some (.int .i64 cost) ∧ V.cell? ⟨w.heap.size, 5, none⟩ = some (.int .i64 now)) := fun V hV => by
    have h0 : W.heap[w.heap.size]? = some (.cells #[.int .i64 kind, .string (tx nm), .int .i64 rate, .int .i64 burst, .int .i64 cost, .int .i64 now] 32 (0, 0)) := by rw [← hW]; exact heap_alloc_new _ _
    have h := (hV.block _ (Array.getElem?_eq_some_iff.1 h0).1).trans h0
    exact ⟨by rw [cell_of_row _ _ _ _ _ _ h]; rfl, by rw [cell_of_row _ _ _ _ _ _ h]; rfl, by rw [cell_of_row _ _ _ _ _ _ h]; rfl⟩
  have HSZ : Hid (w.heap.size ≤ W.heap.size) := HB.out.size
  rw [hW]
  clear hW
  generalize w.heap.size = p at HP ⊢
  refine (HZ.out.tok nm now W).mono ?_
  rintro e w1 ⟨rfl, hb1⟩
  have HB1 : Hid (Below W.heap.size W w1) := hb1
  obtain ⟨y1, y4, y5⟩ := HP.out w1 hb1
  clear hb1
  go_wp2_with fail
  refine (HZ.out.next nm cost now w1).mono ?_
  rintro e w2 ⟨rfl, hb2⟩
  have HB2 : Hid (Below W.heap.size W w2) := HB1.out.trans (hb2.mono HB1.out.size)
  clear hb2 y1 y4 y5 HB1
  obtain ⟨y1, y4, y5⟩ := HP.out w2 HB2.out
  go_wp2_with fail
  refine (HZ.out.cnt nm w2).mono ?_
  rintro e w3 ⟨rfl, hb3⟩
  have HB3 : Hid (Below W.heap.size W w3) := HB2.out.trans (hb3.mono HB2.out.size)
  clear hb3 y1 y4 y5 HB2
  obtain ⟨y1, y4, y5⟩ := HP.out w3 HB3.out
  have HB4 : Hid (∀ o, Below W.heap.size W (w3.alloc o)) := fun o => HB3.out.trans ((bel1 w3 o).mono HB3.out.size)
  have hpl : p < w3.heap.size := by
    rcases Nat.lt_or_ge p w3.heap.size with h | h
    · exact h
    · simp [World.cell?, Array.getElem?_eq_none h] at y1
  go_wp2_with fail
  obtain ⟨W4, hW4⟩ : ∃ W4, w3.alloc (.cells #[.int .i64 0, .int .i64 0, .int .i64 0] 41) = W4 := ⟨_, rfl⟩
  have HB5 : Hid (Below W.heap.size W W4) := by rw [← hW4]; exact HB4.out _
  rw [hW4]
  clear hW4 y1 y4 y5 hpl
  refine (HZ.out.set nm 1 1 1 W4).mono ?_
  rintro e w5 ⟨rfl, hb5⟩
  have HB6 : Hid (Below W.heap.size W w5) := HB5.out.trans (hb5.mono HB5.out.size)
  clear hb5
  obtain ⟨y1, y4, y5⟩ := HP.out w5 HB6.out
  go_wp2_with fail
  refine (HZ.out.take nm 1 1 w5).mono ?_
  rintro e w6 ⟨rfl, hb6⟩
  have HB7 : Hid (Below W.heap.size W w6) := HB6.out.trans (hb6.mono HB6.out.size)
  clear hb6 y1 y4 y5
  obtain ⟨y1, y4, y5⟩ := HP.out w6 HB7.out
  go_wp2_with fail
  refine (HZ.out.give nm 1 1 w6).mono ?_
  rintro e w7 ⟨rfl, hb7⟩
  have HB8 : Hid (Below W.heap.size W w7) := HB7.out.trans (hb7.mono HB7.out.size)
  clear hb7 y1 y4 y5
  obtain ⟨y1, y4, y5⟩ := HP.out w7 HB8.out
  go_wp2_with fail
  refine (HZ.out.drop nm w7).mono ?_
  rintro e w8 ⟨rfl, hb8⟩
  have HB9 : Hid (Below W.heap.size W w8) := HB8.out.trans (hb8.mono HB8.out.size)
  clear hb8 y1 y4 y5
  go_wp2_with fail
  refine (HZ.out.len w8).mono ?_
  rintro e w9 ⟨rfl, hb9⟩
  have HB10 : Hid (Below W.heap.size W w9) := HB9.out.trans (hb9.mono HB9.out.size)
  clear hb9
  go_wp2_with fail
  refine (HZ.out.copy w9).mono ?_
  rintro e w10 ⟨rfl, hb10⟩
  have HB11 : Hid (Below W.heap.size W w10) := HB10.out.trans (hb10.mono HB10.out.size)
  clear hb10
  go_wp2_with (go_at_call 10; refine (known_any HG.out _).mono ?_; rintro e w11 ⟨rfl, hb11⟩)
  go_ret
  have hb12 := HB11.out.trans (hb11.mono HB11.out.size)
  exact ⟨rfl, HB.out.trans (hb12.mono HSZ.out)⟩
end Go.Proofs.Ytpobfcmbbabchaa
