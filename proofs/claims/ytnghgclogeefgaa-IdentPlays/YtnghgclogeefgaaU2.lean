/- The fixed calls. -/
import Derived.Test.YtnghgclogeefgaaT3
import Derived.Test.YtnghgclogeefgaaS2
namespace Go.Proofs.Ytnghgclogeefgaa
open Go.RowKit
set_option linter.unusedVariables false
set_option linter.unusedSimpArgs false

def acme : List UInt8 := [97, 99, 109, 101]
def ann : List UInt8 := [97, 110, 110]
def peer1 : List UInt8 := [98, 101, 108, 102, 114, 121, 58, 97, 99, 109, 101, 47, 97, 110, 110]
def peer2 : List UInt8 := [98, 101, 108, 102, 114, 121, 58, 65, 99, 109, 101, 47, 120]
theorem p1 : pI peer1 = .inl (acme, ann, false) := by decide
theorem p2 : pI peer2 = .inr 7 := by decide
def se1 : Se := ⟨1, acme, ann, false, 15⟩
theorem op1 : opI 0 [] peer1 5 10 = (1, 0, 1, [se1]) := by
  unfold opI
  rw [p1]
  rfl
theorem th1 : thI [se1] 1 14 = some se1 := rfl
theorem th2 : thI [se1] 1 15 = none := rfl
set_option maxRecDepth 20000 in
set_option maxHeartbeats 8000000 in
theorem known_any (w : World) : Calls Try.prog 16 #[] w fun e w' => e = .returned (.bool true) ∧ Below w.heap.size w w' := by
  have H1 : Hid (∀ W, Calls Try.prog 8 #[.string ⟨#[98, 101, 108, 102, 114, 121, 58, 97, 99, 109, 101, 47, 97, 110, 110]⟩] W fun e w' => e = .returned (.tuple #[.agg #[.string ⟨#[97, 99, 109, 101]⟩, .string ⟨#[97, 110, 110]⟩, .bool false], .int .i64 0, .int .i64 0]) ∧ Below W.heap.size W w') := fun W => by
    have h := parse_any peer1 W (by decide)
    rw [p1] at h
    exact h
  have H2 : Hid (∀ W, Calls Try.prog 8 #[.string ⟨#[98, 101, 108, 102, 114, 121, 58, 65, 99, 109, 101, 47, 120]⟩] W fun e w' => e = .returned (.tuple #[.agg #[.string ⟨#[]⟩, .string ⟨#[]⟩, .bool false], .int .i64 100, .int .i64 7]) ∧ Below W.heap.size W w') := fun W => by
    have h := parse_any peer2 W (by decide)
    rw [p2] at h
    exact h
  have heq : ∀ w : World, (Op.equalIn 10000 23 (.agg #[.string ⟨#[97, 99, 109, 101]⟩, .string ⟨#[97, 110, 110]⟩, .bool false]) (.agg #[.string ⟨#[97, 99, 109, 101]⟩, .string ⟨#[97, 110, 110]⟩, .bool false])).run Try.prog w = .ok true w := eqId acme ann false (by decide) (by decide)
  go_enter Try.func16, Try.ntmps16
  go_wp2_with fail
  refine (H1.out w).mono ?_
  rintro e w1 ⟨rfl, hb1⟩
  go_wp2_with fail
  obtain ⟨W1, hW1⟩ : ∃ W1, w1.alloc (.cells #[.string ⟨#[97, 99, 109, 101]⟩, .string ⟨#[97, 110, 110]⟩, .bool false] 23) = W1 := ⟨_, rfl⟩
  have HI1 : Hid (W1.heap[w1.heap.size]? = some (.cells #[.string ⟨#[97, 99, 109, 101]⟩, .string ⟨#[97, 110, 110]⟩, .bool false] 23 (0, 0)) ∧ Below w.heap.size w W1) := by rw [← hW1]; exact ⟨Go.heap_alloc_new _ _, hb1.trans ((bel1 _ _).mono hb1.size)⟩
  try rw [hW1]
  generalize w1.heap.size = q1 at HI1 ⊢
  clear hW1 hb1
  refine (H2.out W1).mono ?_
  rintro e w2 ⟨rfl, hb2⟩
  go_wp2_with fail
  obtain ⟨W2, hW2⟩ : ∃ W2, w2.alloc (.cells #[.string ⟨#[]⟩, .string ⟨#[]⟩, .bool false] 23) = W2 := ⟨_, rfl⟩
  have h12 : Below W1.heap.size W1 W2 := by rw [← hW2]; exact hb2.trans ((bel1 _ _).mono hb2.size)
  have HI2 : Hid (W2.heap[q1]? = some (.cells #[.string ⟨#[97, 99, 109, 101]⟩, .string ⟨#[97, 110, 110]⟩, .bool false] 23 (0, 0)) ∧ Below w.heap.size w W2) := ⟨(h12.block _ (Array.getElem?_eq_some_iff.1 HI1.out.1).1).trans HI1.out.1, HI1.out.2.trans (h12.mono HI1.out.2.size)⟩
  try rw [hW2]
  generalize w2.heap.size = q2
  clear hW2 hb2 h12 HI1
  refine (new_any W2).mono ?_
  rintro e w3 ⟨rfl, hw3⟩
  have HI3 : Hid (w3.heap[q1]? = some (.cells #[.string ⟨#[97, 99, 109, 101]⟩, .string ⟨#[97, 110, 110]⟩, .bool false] 23 (0, 0)) ∧ Below w.heap.size w w3 ∧ Tb w3 W2.heap.size W2.heap.size 0 (.slice none 0 0) [] ∧ q1 < W2.heap.size ∧ w.heap.size ≤ W2.heap.size) := by
    have hq := (Array.getElem?_eq_some_iff.1 HI2.out.1).1
    rw [hw3]
    exact ⟨(Below.heap_alloc _ _ _ hq).trans HI2.out.1, HI2.out.2.trans ((bel1 _ _).mono HI2.out.2.size), tb_new W2, hq, HI2.out.2.size⟩
  generalize W2.heap.size = T at HI3 ⊢
  clear hw3 HI2
  go_wp2_with fail
  refine (open_any T T 0 (.slice none 0 0) [] peer1 5 10 w3 HI3.out.2.2.1 (by decide) (by decide) (by decide) (by decide) (by have := (Array.getElem?_eq_some_iff.1 HI3.out.2.2.1.tab).1; omega)).mono ?_
  rintro e w4 ⟨ho4, hb4⟩
  rw [op1] at ho4
  obtain ⟨rfl, sv, ht4⟩ := ho4
  have HI4 : Hid (w4.heap[q1]? = some (.cells #[.string ⟨#[97, 99, 109, 101]⟩, .string ⟨#[97, 110, 110]⟩, .bool false] 23 (0, 0)) ∧ Below w.heap.size w w4 ∧ Tb w4 T T 1 sv [se1]) := ⟨(hb4.block _ HI3.out.2.2.2.1).trans HI3.out.1, HI3.out.2.1.trans (hb4.mono HI3.out.2.2.2.2), ht4⟩
  clear hb4 ht4 HI3
  go_wp2_with fail
  refine (who_any T T 1 sv [se1] 1 14 w4 HI4.out.2.2 (by decide)).mono ?_
  rintro e w5 ⟨he5, hb5⟩
  rw [th1] at he5
  subst he5
  have HI5 : Hid (w5.heap[q1]? = some (.cells #[.string ⟨#[97, 99, 109, 101]⟩, .string ⟨#[97, 110, 110]⟩, .bool false] 23 (0, 0)) ∧ Below w.heap.size w w5 ∧ Tb w5 T T 1 sv [se1]) := ⟨(hb5.block _ (Array.getElem?_eq_some_iff.1 HI4.out.1).1).trans HI4.out.1, HI4.out.2.1.trans (hb5.mono HI4.out.2.1.size), HI4.out.2.2.later hb5 (Nat.le_refl _)⟩
  clear hb5 HI4
  rw [show whoV (some se1) = .tuple #[.agg #[.string ⟨#[97, 99, 109, 101]⟩, .string ⟨#[97, 110, 110]⟩, .bool false], .int .i64 0] from rfl]
  go_wp2_with fail
  obtain ⟨W5, hW5⟩ : ∃ W5, w5.alloc (.cells #[.string ⟨#[97, 99, 109, 101]⟩, .string ⟨#[97, 110, 110]⟩, .bool false] 23) = W5 := ⟨_, rfl⟩
  have h55 : Below w5.heap.size w5 W5 := by rw [← hW5]; exact bel1 _ _
  have HI6 : Hid (W5.heap[q1]? = some (.cells #[.string ⟨#[97, 99, 109, 101]⟩, .string ⟨#[97, 110, 110]⟩, .bool false] 23 (0, 0)) ∧ Below w.heap.size w W5 ∧ Tb W5 T T 1 sv [se1] ∧ W5.heap[w5.heap.size]? = some (.cells #[.string ⟨#[97, 99, 109, 101]⟩, .string ⟨#[97, 110, 110]⟩, .bool false] 23 (0, 0))) := ⟨(h55.block _ (Array.getElem?_eq_some_iff.1 HI5.out.1).1).trans HI5.out.1, HI5.out.2.1.trans (h55.mono HI5.out.2.1.size), HI5.out.2.2.later h55 (Nat.le_refl _), by rw [← hW5]; exact Go.heap_alloc_new _ _⟩
  try rw [hW5]
  generalize w5.heap.size = q5 at HI6 ⊢
  clear hW5 h55 HI5
  refine (who_any T T 1 sv [se1] 1 15 W5 HI6.out.2.2.1 (by decide)).mono ?_
  rintro e w6 ⟨he6, hb6⟩
  rw [th2] at he6
  subst he6
  rw [show whoV none = .tuple #[.agg #[.string ⟨#[]⟩, .string ⟨#[]⟩, .bool false], .int .i64 5] from rfl]
  have HI7 : Hid (w6.heap[q1]? = some (.cells #[.string ⟨#[97, 99, 109, 101]⟩, .string ⟨#[97, 110, 110]⟩, .bool false] 23 (0, 0)) ∧ Below w.heap.size w w6 ∧ w6.heap[q5]? = some (.cells #[.string ⟨#[97, 99, 109, 101]⟩, .string ⟨#[97, 110, 110]⟩, .bool false] 23 (0, 0))) := ⟨(hb6.block _ (Array.getElem?_eq_some_iff.1 HI6.out.1).1).trans HI6.out.1, HI6.out.2.1.trans (hb6.mono HI6.out.2.1.size), (hb6.block _ (Array.getElem?_eq_some_iff.1 HI6.out.2.2.2).1).trans HI6.out.2.2.2⟩
  clear hb6 HI6
  go_upto_region 9 with fail
  obtain ⟨W7, hW7⟩ : ∃ W7, w6.alloc (.cells #[.string ⟨#[]⟩, .string ⟨#[]⟩, .bool false] 23) = W7 := ⟨_, rfl⟩
  have h67 : Below w6.heap.size w6 W7 := by rw [← hW7]; exact bel1 _ _
  have r1 := (h67.block _ (Array.getElem?_eq_some_iff.1 HI7.out.1).1).trans HI7.out.1
  have r5 := (h67.block _ (Array.getElem?_eq_some_iff.1 HI7.out.2.2).1).trans HI7.out.2.2
  have HB : Hid (Below w.heap.size w W7) := HI7.out.2.1.trans (h67.mono HI7.out.2.1.size)
  have i0 : W7.cell? ⟨q1, 0, none⟩ = some (.string ⟨#[97, 99, 109, 101]⟩) := by rw [cell_of_row _ _ _ _ _ _ r1]; rfl
  have i1 : W7.cell? ⟨q1, 1, none⟩ = some (.string ⟨#[97, 110, 110]⟩) := by rw [cell_of_row _ _ _ _ _ _ r1]; rfl
  have i2 : W7.cell? ⟨q1, 2, none⟩ = some (.bool false) := by rw [cell_of_row _ _ _ _ _ _ r1]; rfl
  have j0 : W7.cell? ⟨q5, 0, none⟩ = some (.string ⟨#[97, 99, 109, 101]⟩) := by rw [cell_of_row _ _ _ _ _ _ r5]; rfl
  have j1 : W7.cell? ⟨q5, 1, none⟩ = some (.string ⟨#[97, 110, 110]⟩) := by rw [cell_of_row _ _ _ _ _ _ r5]; rfl
  have j2 : W7.cell? ⟨q5, 2, none⟩ = some (.bool false) := by rw [cell_of_row _ _ _ _ _ _ r5]; rfl
  try rw [hW7]
  clear hW7 h67 r1 r5
  go_wp2_with fail
  go_ret
  exact ⟨rfl, HB.out⟩
end Go.Proofs.Ytnghgclogeefgaa
