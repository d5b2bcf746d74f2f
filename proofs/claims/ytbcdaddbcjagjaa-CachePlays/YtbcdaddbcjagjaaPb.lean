/- What there is not: every call of no list and of no cache. -/
import Derived.Test.YtbcdaddbcjagjaaPa
namespace Go.Proofs.Ytbcdaddbcjagjaa
open Go.RowKit
set_option linter.unusedVariables false
set_option linter.unusedSimpArgs false

theorem inone_nil (w : World) : Calls Try.prog 30 #[.pointer none] w fun e w' => e = .returned (.bool true) ∧ w' = w := by
  go_enter Try.func30, Try.ntmps30
  go_wp2
  go_ret
  exact ⟨rfl, rfl⟩
theorem ifind_nil (k : Int) (w : World) : Calls Try.prog 26 #[.pointer none, .int .i64 k] w fun e w' => e = .returned (.pointer none) ∧ w' = w := by
  have HN : Hid (Calls Try.prog 30 #[.pointer none] w fun e w' => e = .returned (.bool true) ∧ w' = w) := inone_nil w
  go_enter Try.func26, Try.ntmps26
  go_wp2_with (go_at_call 30; refine HN.out.mono ?_; rintro e w1 ⟨rfl, hw1⟩; rw [hw1]; clear hw1)
  go_ret
  exact ⟨rfl, rfl⟩
theorem iget_nil (k : Int) (w : World) : Calls Try.prog 10 #[.pointer none, .int .i64 k] w fun e w' => e = .returned (.tuple #[.int .i64 0, .bool false]) ∧ w' = w := by
  have HN : Hid (Calls Try.prog 26 #[.pointer none, .int .i64 k] w fun e w' => e = .returned (.pointer none) ∧ w' = w) := ifind_nil k w
  go_enter Try.func10, Try.ntmps10
  go_wp2_with (go_at_call 26; refine HN.out.mono ?_; rintro e w1 ⟨rfl, hw1⟩; rw [hw1]; clear hw1)
  go_ret2
  exact ⟨rfl, rfl⟩
theorem iput_nil (k v : Int) (w : World) : Calls Try.prog 12 #[.pointer none, .int .i64 k, .int .i64 v] w fun e w' => e = .returned (.tuple #[.int .i64 0, .bool false]) ∧ w' = w := by
  have HN : Hid (Calls Try.prog 30 #[.pointer none] w fun e w' => e = .returned (.bool true) ∧ w' = w) := inone_nil w
  go_enter Try.func12, Try.ntmps12
  go_wp2_with (go_at_call 30; refine HN.out.mono ?_; rintro e w1 ⟨rfl, hw1⟩; rw [hw1]; clear hw1)
  go_ret2
  exact ⟨rfl, rfl⟩
theorem idel_nil (k : Int) (w : World) : Calls Try.prog 11 #[.pointer none, .int .i64 k] w fun e w' => e = .returned (.bool false) ∧ w' = w := by
  have HN : Hid (Calls Try.prog 26 #[.pointer none, .int .i64 k] w fun e w' => e = .returned (.pointer none) ∧ w' = w) := ifind_nil k w
  go_enter Try.func11, Try.ntmps11
  go_wp2_with (go_at_call 26; refine HN.out.mono ?_; rintro e w1 ⟨rfl, hw1⟩; rw [hw1]; clear hw1)
  go_ret
  exact ⟨rfl, rfl⟩
theorem ilen_nil (w : World) : Calls Try.prog 14 #[.pointer none] w fun e w' => e = .returned (.int .i64 0) ∧ w' = w := by
  go_enter Try.func14, Try.ntmps14
  go_wp2
  go_ret
  exact ⟨rfl, rfl⟩
theorem ikeys_nil (w : World) : Calls Try.prog 13 #[.pointer none] w fun e w' => e = .returned (.slice none 0 0) ∧ w' = w := by
  have HN : Hid (Calls Try.prog 30 #[.pointer none] w fun e w' => e = .returned (.bool true) ∧ w' = w) := inone_nil w
  go_enter Try.func13, Try.ntmps13
  go_wp2_with (go_at_call 30; refine HN.out.mono ?_; rintro e w1 ⟨rfl, hw1⟩; rw [hw1]; clear hw1)
  go_ret
  exact ⟨rfl, rfl⟩
theorem cclear_nil (w : World) : Calls Try.prog 25 #[.pointer none] w fun e w' => e = .returned (.int .i64 0) ∧ w' = w := by
  go_enter Try.func25, Try.ntmps25
  go_wp2
  go_ret
  exact ⟨rfl, rfl⟩
/-- A call that came in. -/
structure OpF where
  kind : Int
  nm : List UInt8
  key : List UInt8
  st : List UInt8
  te : List UInt8
theorem op5 {w : World} {g : Nat} {c0 c1 c2 c3 c4 : Value} (e : w.heap[g]? = some (.cells #[c0, c1, c2, c3, c4] 39 (0, 0))) : w.cell? ⟨g, 0, none⟩ = some c0 ∧ w.cell? ⟨g, 1, none⟩ = some c1 ∧ w.cell? ⟨g, 2, none⟩ = some c2 ∧ w.cell? ⟨g, 3, none⟩ = some c3 ∧ w.cell? ⟨g, 4, none⟩ = some c4 :=
  ⟨by rw [cell_of_row _ _ _ _ _ _ e]; rfl, by rw [cell_of_row _ _ _ _ _ _ e]; rfl, by rw [cell_of_row _ _ _ _ _ _ e]; rfl, by rw [cell_of_row _ _ _ _ _ _ e]; rfl, by rw [cell_of_row _ _ _ _ _ _ e]; rfl⟩
set_option maxRecDepth 20000 in
set_option maxHeartbeats 4000000 in
theorem nil_law (kind : Int) (nm key st te : List UInt8) (w : World) : Calls Try.prog 7 #[.agg #[.int .i64 kind, .string (tx nm), .string (tx key), .string (tx st), .string (tx te)]] w fun e w' => e = .returned (.bool true) ∧ Below w.heap.size w w' := by
  obtain ⟨W0, hW0⟩ : ∃ W, w.alloc (.cells #[.int .i64 kind, .string (tx nm), .string (tx key), .string (tx st), .string (tx te)] 39) = W := ⟨_, rfl⟩
  have hb0 : Below w.heap.size w W0 := by rw [← hW0]; exact bel1' _ _
  have hg0 : W0.heap[w.heap.size]? = some (.cells #[.int .i64 kind, .string (tx nm), .string (tx key), .string (tx st), .string (tx te)] 39 (0, 0)) := by rw [← hW0]; exact heap_alloc_new _ _
  have hs0 : W0.heap.size = w.heap.size + 1 := by rw [← hW0]; simp
  obtain ⟨y0, y1, y2, y3, y4⟩ := op5 hg0
  have HB : Hid (Below w.heap.size w W0 ∧ W0.heap[w.heap.size]? = some (.cells #[.int .i64 kind, .string (tx nm), .string (tx key), .string (tx st), .string (tx te)] 39 (0, 0)) ∧ W0.heap.size = w.heap.size + 1) := ⟨hb0, hg0, hs0⟩
  clear hb0 hg0 hs0
  have HCN : Hid (Calls Try.prog 20 #[.pointer none, .string (tx nm)] W0 fun e w' => e = .returned (.agg #[.int .i64 0, .int .i64 0]) ∧ Below W0.heap.size W0 w') := ccounts_nil nm W0
  go_enter Try.func7, Try.ntmps7
  go_upto_region 7 with (first | (go_at_call 10; refine (iget_nil _ _).mono ?_; rintro e w1 ⟨rfl, hw1⟩; rw [hw1]; clear hw1) | (go_at_call 12; refine (iput_nil _ _ _).mono ?_; rintro e w1 ⟨rfl, hw1⟩; rw [hw1]; clear hw1) | (go_at_call 23; refine (cget_nil _ _ _ _).mono ?_; rintro e w1 ⟨rfl, hw1⟩; rw [hw1]; clear hw1) | (go_at_call 20; refine HCN.out.mono ?_; rintro e w1 ⟨rfl, hb1⟩; (have HB1 : Hid (Below W0.heap.size W0 w1) := hb1); clear hb1))
  clear hW0 y0 y1 y2 y3 y4 HCN
  obtain ⟨W1, hW1⟩ : ∃ W1, w1.alloc (.cells #[.int .i64 0, .int .i64 0] 43) = W1 := ⟨_, rfl⟩
  have hr : w1.heap[w.heap.size]? = some (.cells #[.int .i64 kind, .string (tx nm), .string (tx key), .string (tx st), .string (tx te)] 39 (0, 0)) := (HB1.out.block _ (by have := HB.out.2.2; omega)).trans HB.out.2.1
  have hr1 : W1.heap[w.heap.size]? = some (.cells #[.int .i64 kind, .string (tx nm), .string (tx key), .string (tx st), .string (tx te)] 39 (0, 0)) := by rw [← hW1, Below.heap_alloc _ _ _ (Array.getElem?_eq_some_iff.1 hr).1]; exact hr
  have hn1 : W1.heap[w1.heap.size]? = some (.cells #[.int .i64 0, .int .i64 0] 43 (0, 0)) := by rw [← hW1]; exact heap_alloc_new _ _
  have HBW : Hid (Below w.heap.size w W1) := by
    have h1 : Below w.heap.size w w1 := HB.out.1.trans (HB1.out.mono HB.out.1.size)
    rw [← hW1]
    exact h1.alloc h1.size _
  obtain ⟨y0, y1, y2, y3, y4⟩ := op5 hr1
  obtain ⟨x0, x1, -, -⟩ := row43 hn1
  rw [hW1]
  clear hW1 hr hr1 hn1 HB HB1
  generalize w1.heap.size = g2 at *
  have HKN : Hid (Calls Try.prog 9 #[] W1 fun e w' => e = .returned (.bool true) ∧ Below W1.heap.size W1 w') := known_any W1
  obtain ⟨g1, hg1⟩ : ∃ g1, w.heap.size = g1 := ⟨_, rfl⟩
  rw [hg1] at y0 y1 y2 y3 y4 ⊢
  clear hg1
  go_wp2_with (first | (go_at_call 11; refine (idel_nil _ _).mono ?_; rintro e w2 ⟨rfl, hw2⟩; rw [hw2]; clear hw2) | (go_at_call 14; refine (ilen_nil _).mono ?_; rintro e w2 ⟨rfl, hw2⟩; rw [hw2]; clear hw2) | (go_at_call 13; refine (ikeys_nil _).mono ?_; rintro e w2 ⟨rfl, hw2⟩; rw [hw2]; clear hw2) | (go_at_call 22; refine (cput_nil _ _ _ _ _).mono ?_; rintro e w2 ⟨rfl, hw2⟩; rw [hw2]; clear hw2) | (go_at_call 24; refine (cforget_nil _ _).mono ?_; rintro e w2 ⟨rfl, hw2⟩; rw [hw2]; clear hw2) | (go_at_call 25; refine (cclear_nil _).mono ?_; rintro e w2 ⟨rfl, hw2⟩; rw [hw2]; clear hw2) | (go_at_call 18; refine (clen_nil _ _).mono ?_; rintro e w2 ⟨rfl, hw2⟩; rw [hw2]; clear hw2) | (go_at_call 9; refine HKN.out.mono ?_; rintro e w3 ⟨rfl, hb3⟩; (have HB3 : Hid (Below W1.heap.size W1 w3) := hb3); clear hb3))
  go_ret
  exact ⟨rfl, HBW.out.trans (HB3.out.mono HBW.out.size)⟩
end Go.Proofs.Ytbcdaddbcjagjaa
