/- A field's size, a field behind bytes. -/
import Derived.Test.YtlgkajellndhlaaLeaf3
import Derived.BigQuiet
import Derived.Deep.QuietTactic
namespace Go.Proofs.Ytlgkajellndhlaa
open Go.RowKit
set_option linter.unusedVariables false
set_option linter.unusedSimpArgs false

theorem encF_len (f : Fd) : (encF f).length = (vN (hdF f)).length + (bodyF f).length := by simp [encF]
theorem below_drewN {B : Nat} {a w : World} (h : Below B a w) : ∀ n, Below B a (w.drewN n) := fun n => ⟨h.os, h.tape, h.output, h.size, h.block⟩
theorem bcell {W w1 : World} (hb : Below W.heap.size W w1) : (∀ b o, b < W.heap.size → w1.cell? ⟨b, o, none⟩ = W.cell? ⟨b, o, none⟩) ∧ (∀ b o, b < W.heap.size → w1.frozen? ⟨b, o, none⟩ = W.frozen? ⟨b, o, none⟩) :=
  ⟨fun b o h => hb.cell (p := ⟨b, o, none⟩) h, fun b o h => hb.frozen (p := ⟨b, o, none⟩) h⟩
/-- A field's box, kept by a call. -/
theorem box4 {w w1 : World} {a b c d : Value} {t : TypeId} (hb : Below (w.alloc (.cells #[a, b, c, d] t)).heap.size (w.alloc (.cells #[a, b, c, d] t)) w1) :
    w1.cell? ⟨w.heap.size, 0, none⟩ = some a ∧ w1.cell? ⟨w.heap.size, 1, none⟩ = some b ∧ w1.cell? ⟨w.heap.size, 2, none⟩ = some c ∧ w1.cell? ⟨w.heap.size, 3, none⟩ = some d := by
  have h : w1.heap[w.heap.size]? = some (.cells #[a, b, c, d] t (0, 0)) := (hb.block _ (by simp)).trans (Go.heap_alloc_new _ _)
  exact ⟨cell_of_row _ _ _ _ _ _ h, cell_of_row _ _ _ _ _ _ h, cell_of_row _ _ _ _ _ _ h, cell_of_row _ _ _ _ _ _ h⟩
theorem box4b {base : Nat} {W w1 : World} {p : Nat} {a b c d : Value} {t : TypeId} (h : W.heap[p]? = some (.cells #[a, b, c, d] t (0, 0))) (hb : w1.heap[p]? = W.heap[p]?) :
    w1.cell? ⟨p, 0, none⟩ = some a ∧ w1.cell? ⟨p, 1, none⟩ = some b ∧ w1.cell? ⟨p, 2, none⟩ = some c ∧ w1.cell? ⟨p, 3, none⟩ = some d := by
  have h : w1.heap[p]? = some (.cells #[a, b, c, d] t (0, 0)) := hb.trans h
  exact ⟨cell_of_row _ _ _ _ _ _ h, cell_of_row _ _ _ _ _ _ h, cell_of_row _ _ _ _ _ _ h, cell_of_row _ _ _ _ _ _ h⟩

set_option maxRecDepth 20000 in
set_option maxHeartbeats 1000000 in
theorem size_1 (num x : Int) (sa : Option Addr) (l c : Nat) (w : World) (h1 : 1 ≤ num) (h2 : num ≤ 536870911) (x0 : 0 ≤ x) (x1 : x < 18446744073709551616) (hl : (l : Int) ≤ 100000000) :
    Calls Try.prog 23 #[.agg #[.int .i64 num, .int .i64 1, .int .u64 x, .slice sa l c]] w fun e w' => e = .returned (.int .i64 (((vN (num * 8 + 1).toNat).length : Int) + 8)) ∧ Below w.heap.size w w' := by
  obtain ⟨a, ha⟩ : ∃ a, (vN (num * 8 + 1).toNat).length = a := ⟨_, rfl⟩
  have la := vN_le10 (num * 8 + 1).toNat (by omega)
  have HA : Hid (∀ W, Calls Try.prog 33 #[.int .u64 (num * 8 + 1)] W fun e w' => e = .returned (.int .i64 (a : Int)) ∧ w' = W) := fun W => by have h := varintSize_any (num * 8 + 1) W (by omega) (by omega); rw [ha] at h; exact h
  have HH : Hid (∀ W, Calls Try.prog 34 #[.agg #[.int .i64 num, .int .i64 1, .int .u64 x, .slice sa l c]] W fun e w' => e = .returned (.int .u64 (num * 8 + 1)) ∧ Below W.heap.size W w') := fun W => head_any num 1 x sa l c W h1 h2 (by omega) (by omega)
  rw [ha]
  rw [ha] at la
  have a1 : (a : Int) ≤ 10 := by omega

  clear ha la h1 h2
  go_enter Try.func23, Try.ntmps23
  go_wp2_with fail
  refine (HH.out _).mono ?_
  rintro e w1 ⟨rfl, hb1⟩
  obtain ⟨b0, b1, b2, b3⟩ := box4 hb1
  have HB1 : Hid (Below w.heap.size w w1) := (bel1 _ _).trans (hb1.mono (by simp))
  clear hb1
  go_wp2_with fail
  refine (HA.out _).mono ?_
  rintro e w1' ⟨rfl, rfl⟩
  go_wp2_with fail
  go_ret
  exact ⟨rfl, HB1.out⟩

set_option maxRecDepth 20000 in
set_option maxHeartbeats 1000000 in
theorem size_5 (num x : Int) (sa : Option Addr) (l c : Nat) (w : World) (h1 : 1 ≤ num) (h2 : num ≤ 536870911) (x0 : 0 ≤ x) (x1 : x < 18446744073709551616) (hl : (l : Int) ≤ 100000000) :
    Calls Try.prog 23 #[.agg #[.int .i64 num, .int .i64 5, .int .u64 x, .slice sa l c]] w fun e w' => e = .returned (.int .i64 (((vN (num * 8 + 5).toNat).length : Int) + 4)) ∧ Below w.heap.size w w' := by
  obtain ⟨a, ha⟩ : ∃ a, (vN (num * 8 + 5).toNat).length = a := ⟨_, rfl⟩
  have la := vN_le10 (num * 8 + 5).toNat (by omega)
  have HA : Hid (∀ W, Calls Try.prog 33 #[.int .u64 (num * 8 + 5)] W fun e w' => e = .returned (.int .i64 (a : Int)) ∧ w' = W) := fun W => by have h := varintSize_any (num * 8 + 5) W (by omega) (by omega); rw [ha] at h; exact h
  have HH : Hid (∀ W, Calls Try.prog 34 #[.agg #[.int .i64 num, .int .i64 5, .int .u64 x, .slice sa l c]] W fun e w' => e = .returned (.int .u64 (num * 8 + 5)) ∧ Below W.heap.size W w') := fun W => head_any num 5 x sa l c W h1 h2 (by omega) (by omega)
  rw [ha]
  rw [ha] at la
  have a1 : (a : Int) ≤ 10 := by omega

  clear ha la h1 h2
  go_enter Try.func23, Try.ntmps23
  go_wp2_with fail
  refine (HH.out _).mono ?_
  rintro e w1 ⟨rfl, hb1⟩
  obtain ⟨b0, b1, b2, b3⟩ := box4 hb1
  have HB1 : Hid (Below w.heap.size w w1) := (bel1 _ _).trans (hb1.mono (by simp))
  clear hb1
  go_wp2_with fail
  refine (HA.out _).mono ?_
  rintro e w1' ⟨rfl, rfl⟩
  go_wp2_with fail
  go_ret
  exact ⟨rfl, HB1.out⟩

set_option maxRecDepth 20000 in
set_option maxHeartbeats 1000000 in
theorem size_0 (num x : Int) (sa : Option Addr) (l c : Nat) (w : World) (h1 : 1 ≤ num) (h2 : num ≤ 536870911) (x0 : 0 ≤ x) (x1 : x < 18446744073709551616) (hl : (l : Int) ≤ 100000000) :
    Calls Try.prog 23 #[.agg #[.int .i64 num, .int .i64 0, .int .u64 x, .slice sa l c]] w fun e w' => e = .returned (.int .i64 (((vN (num * 8).toNat).length : Int) + ((vN x.toNat).length : Int))) ∧ Below w.heap.size w w' := by
  obtain ⟨a, ha⟩ : ∃ a, (vN (num * 8).toNat).length = a := ⟨_, rfl⟩
  have la := vN_le10 (num * 8).toNat (by omega)
  have HA : Hid (∀ W, Calls Try.prog 33 #[.int .u64 (num * 8)] W fun e w' => e = .returned (.int .i64 (a : Int)) ∧ w' = W) := fun W => by have h := varintSize_any (num * 8) W (by omega) (by omega); rw [ha] at h; exact h
  have HH : Hid (∀ W, Calls Try.prog 34 #[.agg #[.int .i64 num, .int .i64 0, .int .u64 x, .slice sa l c]] W fun e w' => e = .returned (.int .u64 (num * 8)) ∧ Below W.heap.size W w') := fun W => by have h := head_any num 0 x sa l c W h1 h2 (by omega) (by omega); rw [Int.add_zero] at h; exact h
  rw [ha]
  rw [ha] at la
  have a1 : (a : Int) ≤ 10 := by omega
  obtain ⟨b, hb⟩ : ∃ b, (vN x.toNat).length = b := ⟨_, rfl⟩
  have lb := vN_le10 x.toNat (by omega)
  have HB : Hid (∀ W, Calls Try.prog 33 #[.int .u64 x] W fun e w' => e = .returned (.int .i64 (b : Int)) ∧ w' = W) := fun W => by have h := varintSize_any x W x0 x1; rw [hb] at h; exact h
  rw [hb]
  rw [hb] at lb
  have b1' : (b : Int) ≤ 10 := by omega
  clear hb lb x0 x1
  clear ha la h1 h2
  go_enter Try.func23, Try.ntmps23
  go_wp2_with fail
  refine (HH.out _).mono ?_
  rintro e w1 ⟨rfl, hb1⟩
  obtain ⟨b0, b1, b2, b3⟩ := box4 hb1
  have HB1 : Hid (Below w.heap.size w w1) := (bel1 _ _).trans (hb1.mono (by simp))
  clear hb1
  go_wp2_with fail
  refine (HA.out _).mono ?_
  rintro e w1' ⟨rfl, rfl⟩
  go_wp2_with fail
  refine (HB.out _).mono ?_
  rintro e w1'' ⟨rfl, rfl⟩
  go_wp2_with fail
  go_ret
  exact ⟨rfl, HB1.out⟩

set_option maxRecDepth 20000 in
set_option maxHeartbeats 1000000 in
theorem size_2 (num x : Int) (sa : Option Addr) (l c : Nat) (w : World) (h1 : 1 ≤ num) (h2 : num ≤ 536870911) (x0 : 0 ≤ x) (x1 : x < 18446744073709551616) (hl : (l : Int) ≤ 100000000) :
    Calls Try.prog 23 #[.agg #[.int .i64 num, .int .i64 2, .int .u64 x, .slice sa l c]] w fun e w' => e = .returned (.int .i64 (((vN (num * 8 + 2).toNat).length : Int) + (((vN l).length : Int) + (l : Int)))) ∧ Below w.heap.size w w' := by
  obtain ⟨a, ha⟩ : ∃ a, (vN (num * 8 + 2).toNat).length = a := ⟨_, rfl⟩
  have la := vN_le10 (num * 8 + 2).toNat (by omega)
  have HA : Hid (∀ W, Calls Try.prog 33 #[.int .u64 (num * 8 + 2)] W fun e w' => e = .returned (.int .i64 (a : Int)) ∧ w' = W) := fun W => by have h := varintSize_any (num * 8 + 2) W (by omega) (by omega); rw [ha] at h; exact h
  have HH : Hid (∀ W, Calls Try.prog 34 #[.agg #[.int .i64 num, .int .i64 2, .int .u64 x, .slice sa l c]] W fun e w' => e = .returned (.int .u64 (num * 8 + 2)) ∧ Below W.heap.size W w') := fun W => head_any num 2 x sa l c W h1 h2 (by omega) (by omega)
  rw [ha]
  rw [ha] at la
  have a1 : (a : Int) ≤ 10 := by omega
  obtain ⟨b, hb⟩ : ∃ b, (vN l).length = b := ⟨_, rfl⟩
  have lb := vN_le10 l (by omega)
  have HB : Hid (∀ W, Calls Try.prog 33 #[.int .u64 (l : Int)] W fun e w' => e = .returned (.int .i64 (b : Int)) ∧ w' = W) := fun W => by have h := varintSize_any (l : Int) W (by omega) (by omega); rw [Int.toNat_natCast, hb] at h; exact h
  rw [hb]
  rw [hb] at lb
  have b1' : (b : Int) ≤ 10 := by omega
  clear hb lb x0 x1
  clear ha la h1 h2
  go_enter Try.func23, Try.ntmps23
  go_wp2_with fail
  refine (HH.out _).mono ?_
  rintro e w1 ⟨rfl, hb1⟩
  obtain ⟨b0, b1, b2, b3⟩ := box4 hb1
  have HB1 : Hid (Below w.heap.size w w1) := (bel1 _ _).trans (hb1.mono (by simp))
  clear hb1
  go_wp2_with fail
  refine (HA.out _).mono ?_
  rintro e w1' ⟨rfl, rfl⟩
  go_wp2_with fail
  go_quiet ((go_at_call 33; exact Calls.quiet_of_same (HB.out _)))
  go_wp2_with fail
  go_ret
  exact ⟨ret_int (by omega), below_drewN HB1.out nq⟩

end Go.Proofs.Ytlgkajellndhlaa
