/- Both digests are one. -/
import Derived.Test.YtfdmepblhlifcaaDoorF5
import Derived.Test.YtfdmepblhlifcaaDoorA8
namespace Go.Proofs.YtfdmepblhlifcaaDoor
open Go.RowKit
set_option linter.unusedVariables false
set_option linter.unusedSimpArgs false

def stF (s zs : List Int) : Nat → List Int
  | 0 => s
  | k + 1 => afterI (stF s zs k) (blkAt zs k)
theorem stF_over (s zs : List Int) (hz : Byt zs) : ∀ k (h : 64 * k ≤ zs.length), overI s (blks zs hz k h) = stF s zs k
  | 0, _ => rfl
  | k + 1, h => by unfold blks; rw [over_snoc, stF_over s zs hz k]; rfl
theorem stB_stF (zs : List Int) : ∀ k, stB zs k = stF beginI zs k
  | 0 => rfl
  | k + 1 => by unfold stB stF; rw [stB_stF zs k]
theorem blk_left (A B : List Int) (k : Nat) (h : 64 * k + 64 ≤ A.length) : blkAt (A ++ B) k = blkAt A k := by
  unfold blkAt
  rw [List.drop_append_of_le_length (by omega), List.take_append_of_le_length (by simp; omega)]
theorem blk_right (A B : List Int) (q k : Nat) (h : A.length = 64 * q) : blkAt (A ++ B) (q + k) = blkAt B k := by
  unfold blkAt
  have e : List.drop (A.length + 64 * k) A = [] := List.drop_eq_nil_of_le (by omega)
  rw [show 64 * (q + k) = A.length + 64 * k by omega, List.drop_append, e]
  simp
theorem stF_left (s A B : List Int) : ∀ k, 64 * k ≤ A.length → stF s (A ++ B) k = stF s A k
  | 0, _ => rfl
  | k + 1, h => by unfold stF; rw [stF_left s A B k (by omega), blk_left A B k (by omega)]
theorem stF_right (s A B : List Int) (q : Nat) (h : A.length = 64 * q) : ∀ k, stF s (A ++ B) (q + k) = stF (stF s (A ++ B) q) B k
  | 0 => rfl
  | k + 1 => by
    rw [← Nat.add_assoc]
    unfold stF
    rw [stF_right s A B q h k, blk_right A B q k h]
theorem pad_parts (zs : List Int) : padI zs = zs.take (wholeN zs) ++ lastI (zs.drop (wholeN zs)) (((zs.take (wholeN zs)).length / 64 : Nat) : Int) := by
  have hW : (zs.take (wholeN zs)).length = wholeN zs := by simp [wholeN]
  have hR : (zs.drop (wholeN zs)).length = zs.length % 64 := by simp [wholeN]; omega
  have e1 : zg zs.length = zeros (zs.length % 64) := by unfold zg zeros; split <;> omega
  have e2 : (zs.length : Int) * 8 = 8 * (((wholeN zs / 64 : Nat) : Int) * 64 + ((zs.length % 64 : Nat) : Int)) := by unfold wholeN; omega
  unfold padI lastI
  rw [hW, hR, e1, e2]
  simp only [← List.append_assoc, List.take_append_drop]
theorem sums_one (zs : List Int) (hz : Byt zs) : sumI zs hz = rsumI zs := by
  unfold sumI rsumI sumS frontI
  congr 1
  rw [stF_over, stF_over, stB_stF]
  have hW : (zs.take (wholeN zs)).length = 64 * (wholeN zs / 64) := by simp [wholeN]; omega
  rw [pad_parts zs]
  generalize lastI (zs.drop (wholeN zs)) (((zs.take (wholeN zs)).length / 64 : Nat) : Int) = B
  generalize zs.take (wholeN zs) = A at hW
  rw [List.length_append, hW, Nat.mul_add_div (by decide), Nat.mul_div_cancel_left _ (by decide), stF_right _ A B _ hW, stF_left _ A B _ (by omega)]
end Go.Proofs.YtfdmepblhlifcaaDoor
