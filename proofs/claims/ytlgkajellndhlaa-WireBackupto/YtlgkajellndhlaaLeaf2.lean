/- The small functions of writing: a field. -/
import Derived.Test.YtlgkajellndhlaaLeaf
namespace Go.Proofs.Ytlgkajellndhlaa
open Go.RowKit
set_option linter.unusedVariables false
set_option linter.unusedSimpArgs false

theorem cast0 (l : Nat) : ((l : Int) == 0) = (l == 0) := by
  rw [Bool.eq_iff_iff]; simp
theorem bel1 (w : World) (o : Obj) : Below w.heap.size w (w.alloc o) := (Below.refl _ w).alloc (Nat.le_refl _) _
theorem ok_cases {num typ : Int} {n l : Nat} (h : okN num typ n l = true) : 1 ≤ num ∧ num ≤ 536870911 ∧ (typ = 0 ∧ l = 0 ∨ typ = 1 ∧ l = 0 ∨ typ = 2 ∧ n = 0 ∨ typ = 5 ∧ (n : Int) < 4294967296 ∧ l = 0) := by
  unfold okN at h
  simp only [Bool.and_eq_true, decide_eq_true_eq] at h
  obtain ⟨⟨h1, h2⟩, h3⟩ := h
  refine ⟨h1, h2, ?_⟩
  by_cases t2 : typ = 2
  · rw [if_pos t2] at h3
    exact .inr (.inr (.inl ⟨t2, by simpa using h3⟩))
  · rw [if_neg t2] at h3
    by_cases t5 : typ = 5
    · rw [if_pos t5] at h3
      simp at h3
      exact .inr (.inr (.inr ⟨t5, h3⟩))
    · rw [if_neg t5] at h3
      simp at h3
      rcases h3 with ⟨h | h, h'⟩
      · exact .inl ⟨h, h'⟩
      · exact .inr (.inl ⟨h, h'⟩)

set_option maxRecDepth 20000 in
theorem rf_no (num typ x : Int) (sa : Option Addr) (l c : Nat) (w : World)  (hC : ∀ W, Calls Try.prog 32 #[.int .i64 num, .int .i64 typ] W fun e w' => e = .returned (.bool false) ∧ w' = W) :
    Calls Try.prog 22 #[.agg #[.int .i64 num, .int .i64 typ, .int .u64 x, .slice sa l c]] w fun e w' => e = .returned (.bool false) ∧ Below w.heap.size w w' := by
  have HC : Hid (∀ W, Calls Try.prog 32 #[.int .i64 num, .int .i64 typ] W fun e w' => e = .returned (.bool false) ∧ w' = W) := hC
  clear hC
  go_enter Try.func22, Try.ntmps22
  go_wp2_with (go_at_call 32; refine (HC.out _).mono ?_; rintro e w' ⟨rfl, rfl⟩)
  go_ret
  exact ⟨rfl, bel1 _ _⟩
set_option maxRecDepth 20000 in
theorem rf_0 (num x : Int) (sa : Option Addr) (l c : Nat) (w : World)  (hC : ∀ W, Calls Try.prog 32 #[.int .i64 num, .int .i64 0] W fun e w' => e = .returned (.bool true) ∧ w' = W) :
    Calls Try.prog 22 #[.agg #[.int .i64 num, .int .i64 0, .int .u64 x, .slice sa l c]] w fun e w' => e = .returned (.bool ((l : Int) == 0)) ∧ Below w.heap.size w w' := by
  have HC : Hid (∀ W, Calls Try.prog 32 #[.int .i64 num, .int .i64 0] W fun e w' => e = .returned (.bool true) ∧ w' = W) := hC
  clear hC
  go_enter Try.func22, Try.ntmps22
  go_wp2_with (go_at_call 32; refine (HC.out _).mono ?_; rintro e w' ⟨rfl, rfl⟩)
  go_ret
  exact ⟨rfl, bel1 _ _⟩
set_option maxRecDepth 20000 in
theorem rf_1 (num x : Int) (sa : Option Addr) (l c : Nat) (w : World)  (hC : ∀ W, Calls Try.prog 32 #[.int .i64 num, .int .i64 1] W fun e w' => e = .returned (.bool true) ∧ w' = W) :
    Calls Try.prog 22 #[.agg #[.int .i64 num, .int .i64 1, .int .u64 x, .slice sa l c]] w fun e w' => e = .returned (.bool ((l : Int) == 0)) ∧ Below w.heap.size w w' := by
  have HC : Hid (∀ W, Calls Try.prog 32 #[.int .i64 num, .int .i64 1] W fun e w' => e = .returned (.bool true) ∧ w' = W) := hC
  clear hC
  go_enter Try.func22, Try.ntmps22
  go_wp2_with (go_at_call 32; refine (HC.out _).mono ?_; rintro e w' ⟨rfl, rfl⟩)
  go_ret
  exact ⟨rfl, bel1 _ _⟩
set_option maxRecDepth 20000 in
theorem rf_2 (num x : Int) (sa : Option Addr) (l c : Nat) (w : World)  (hC : ∀ W, Calls Try.prog 32 #[.int .i64 num, .int .i64 2] W fun e w' => e = .returned (.bool true) ∧ w' = W) :
    Calls Try.prog 22 #[.agg #[.int .i64 num, .int .i64 2, .int .u64 x, .slice sa l c]] w fun e w' => e = .returned (.bool (x == 0)) ∧ Below w.heap.size w w' := by
  have HC : Hid (∀ W, Calls Try.prog 32 #[.int .i64 num, .int .i64 2] W fun e w' => e = .returned (.bool true) ∧ w' = W) := hC
  clear hC
  go_enter Try.func22, Try.ntmps22
  go_wp2_with (go_at_call 32; refine (HC.out _).mono ?_; rintro e w' ⟨rfl, rfl⟩)
  go_ret
  exact ⟨rfl, bel1 _ _⟩
set_option maxRecDepth 20000 in
theorem rf_5 (num x : Int) (sa : Option Addr) (l c : Nat) (w : World) (h5 : x < 4294967296) (hC : ∀ W, Calls Try.prog 32 #[.int .i64 num, .int .i64 5] W fun e w' => e = .returned (.bool true) ∧ w' = W) :
    Calls Try.prog 22 #[.agg #[.int .i64 num, .int .i64 5, .int .u64 x, .slice sa l c]] w fun e w' => e = .returned (.bool ((l : Int) == 0)) ∧ Below w.heap.size w w' := by
  have HC : Hid (∀ W, Calls Try.prog 32 #[.int .i64 num, .int .i64 5] W fun e w' => e = .returned (.bool true) ∧ w' = W) := hC
  clear hC
  go_enter Try.func22, Try.ntmps22
  go_wp2_with (go_at_call 32; refine (HC.out _).mono ?_; rintro e w' ⟨rfl, rfl⟩)
  go_ret
  exact ⟨rfl, bel1 _ _⟩
set_option maxRecDepth 20000 in
theorem rf_5n (num x : Int) (sa : Option Addr) (l c : Nat) (w : World) (h5 : ¬ x < 4294967296) (hC : ∀ W, Calls Try.prog 32 #[.int .i64 num, .int .i64 5] W fun e w' => e = .returned (.bool true) ∧ w' = W) :
    Calls Try.prog 22 #[.agg #[.int .i64 num, .int .i64 5, .int .u64 x, .slice sa l c]] w fun e w' => e = .returned (.bool false) ∧ Below w.heap.size w w' := by
  have HC : Hid (∀ W, Calls Try.prog 32 #[.int .i64 num, .int .i64 5] W fun e w' => e = .returned (.bool true) ∧ w' = W) := hC
  clear hC
  go_enter Try.func22, Try.ntmps22
  go_wp2_with (go_at_call 32; refine (HC.out _).mono ?_; rintro e w' ⟨rfl, rfl⟩)
  go_ret
  exact ⟨rfl, bel1 _ _⟩
theorem rightField_any (num typ : Int) (n : Nat) (sa : Option Addr) (l c : Nat) (w : World) :
    Calls Try.prog 22 #[.agg #[.int .i64 num, .int .i64 typ, .int .u64 (n : Int), .slice sa l c]] w fun e w' => e = .returned (.bool (okN num typ n l)) ∧ Below w.heap.size w w' := by
  cases hr : rhB num typ with
  | false =>
    have hok : okN num typ n l = false := by
      by_cases hk : okN num typ n l = true
      · obtain ⟨h1, h2, h3⟩ := ok_cases hk
        have : rhB num typ = true := by
          unfold rhB
          have h12 : 1 ≤ num ∧ num ≤ 536870911 := ⟨h1, h2⟩
          rcases h3 with ⟨h, _⟩ | ⟨h, _⟩ | ⟨h, _⟩ | ⟨h, _⟩ <;> simp [h12, h]
        rw [this] at hr; cases hr
      · simpa using hk
    rw [hok]
    exact rf_no num typ n sa l c w fun W => by have h := rightHead_any num typ W; rw [hr] at h; exact h
  | true =>
    have hC : ∀ W, Calls Try.prog 32 #[.int .i64 num, .int .i64 typ] W fun e w' => e = .returned (.bool true) ∧ w' = W := fun W => by have h := rightHead_any num typ W; rw [hr] at h; exact h
    have h12 : 1 ≤ num ∧ num ≤ 536870911 := by unfold rhB at hr; simp at hr; exact hr.1
    have ht : typ = 0 ∨ typ = 1 ∨ typ = 2 ∨ typ = 5 := by
      unfold rhB at hr; simp at hr; have := hr.2; omega
    rcases ht with rfl | rfl | rfl | rfl
    · rw [show okN num 0 n l = ((l : Int) == 0) by rw [cast0]; unfold okN; simp [h12]]
      exact rf_0 num n sa l c w hC
    · rw [show okN num 1 n l = ((l : Int) == 0) by rw [cast0]; unfold okN; simp [h12]]
      exact rf_1 num n sa l c w hC
    · rw [show okN num 2 n l = ((n : Int) == 0) by rw [cast0]; unfold okN; simp [h12]]
      exact rf_2 num n sa l c w hC
    · by_cases h5 : (n : Int) < 4294967296
      · rw [show okN num 5 n l = ((l : Int) == 0) by rw [cast0]; unfold okN; rw [decide_eq_true h5, decide_eq_true h12]; rfl]
        exact rf_5 num n sa l c w h5 hC
      · rw [show okN num 5 n l = false by unfold okN; rw [decide_eq_false h5, decide_eq_true h12]; rfl]
        exact rf_5n num n sa l c w h5 hC
end Go.Proofs.Ytlgkajellndhlaa
