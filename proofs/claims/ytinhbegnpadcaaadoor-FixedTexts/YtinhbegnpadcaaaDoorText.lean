/- Numbers as text: the layer's Text and the model's, walked. -/
import Derived.Test.YtinhbegnpadcaaaDoorFmt
namespace Go.Proofs.YtinhbegnpadcaaaDoor
open Go.RowKit

/-- A text of bytes. -/
def tx (l : List UInt8) : ByteArray := ⟨l.toArray⟩
theorem tx_app (l m : List UInt8) : tx l ++ tx m = tx (l ++ m) := by
  apply ByteArray.ext
  simp [tx, ByteArray.data_append]
theorem tx_size (l : List UInt8) : (tx l).size = l.length := by simp [tx, ByteArray.size]
theorem tx_extract (l : List UInt8) (a b : Nat) : (tx l).extract a b = tx ((l.drop a).take (b - a)) := by
  apply ByteArray.ext
  simp [tx]
/-- A number's text: its sign, its whole part, its millionths without 0 at their end. -/
def tl (neg : Bool) (W P : Nat) : List UInt8 := (if neg then [45] else []) ++ Lib.decDigits W ++ (if P = 0 then [] else 46 :: Lib.trimRightB (Lib.decDigits (1000000 + P)).tail 48)

theorem below_two {w w1 w2 : World} (h : Below w.heap.size w w1) (k : Below w1.heap.size w1 w2) : Below w.heap.size w w2 := h.trans (k.mono h.size)

set_option maxHeartbeats 1000000 in
theorem text_nf (v : Int) (N W P Q : Nat) (w : World) (hv : v ≤ 9223372036854775807) (HN : Hid (szI v = N)) (hN : (N : Int) ≤ 9223372036854775807) (hW : (N : Int) / 1000000 = (W : Int)) (hP : (N : Int) % 1000000 = (P : Int)) (hs : v < 0) (hp : ((P : Int) == 0) = false) (ht : Pow w)
    (hQ : (1000000 : Int) + (P : Int) = (Q : Int)) (R : ByteArray) (HR : Hid (R = ((tx [45] ++ tx (Lib.decDigits W)) ++ tx [46]) ++ tx (Lib.trimRightB (Lib.decDigits Q).tail 48))) :
    Calls Tryd.prog 4 #[.int .i64 v] w fun e w' => e = .returned (.string R) ∧ Below w.heap.size w w' := by
  have HT : Hid _ := ht
  clear ht
  have HW : Hid (W < 18446744073709551616) := by show _ < _; omega
  have HQ : Hid (Q < 18446744073709551616) := by show _ < _; omega
  go_enter Tryd.func4, Tryd.ntmps4
  go_wp2_with fail
  refine (size_any v _ hv).mono ?_
  rintro e w1 ⟨rfl, rfl⟩
  rw [HN.out]
  go_wp2_with fail
  refine (fmtu_any W HW.out _ HT.out).mono ?_
  rintro e w2 ⟨rfl, hb2⟩
  rw [show (⟨(Lib.decDigits W).toArray⟩ : ByteArray) = tx (Lib.decDigits W) from rfl]
  have hA : (Lib.decDigits W).length ≤ 20 := by rw [Lib.decDigits_length]; exact Lib.nDigits_le20 W HW.out
  generalize Lib.decDigits W = A at hA HR ⊢
  have hA' : (tx A).size ≤ 20 := by rw [tx_size]; exact hA
  have HT2 : Hid _ := Pow.later HT.out hb2
  go_wp2_with fail
  refine (fmtu_any Q HQ.out _ HT2.out).mono ?_
  rintro e w3 ⟨rfl, hb3⟩
  rw [show (⟨(Lib.decDigits Q).toArray⟩ : ByteArray) = tx (Lib.decDigits Q) from rfl]
  have hB : (Lib.decDigits Q).length ≤ 20 := by rw [Lib.decDigits_length]; exact Lib.nDigits_le20 Q HQ.out
  have hB1 : 1 ≤ (Lib.decDigits Q).length := by rw [Lib.decDigits_length]; exact Lib.nDigits_pos Q
  generalize Lib.decDigits Q = B at hB hB1 HR ⊢
  have hB' : (tx B).size ≤ 20 := by rw [tx_size]; exact hB
  have hB2 : 1 ≤ (tx B).size := by rw [tx_size]; exact hB1
  go_wp2_with fail
  rw [show (tx B).extract 1 (tx B).size = tx B.tail from by rw [tx_extract, tx_size, List.drop_one, List.take_of_length_le (by simp)]]
  refine (Tryd.strings_TrimRight_one (tx B.tail) 48 (by decide) _ (by rw [tx_size]; simp; omega)).mono ?_
  rintro e w4 ⟨rfl, rfl⟩
  rw [show (⟨(Lib.trimRightB (tx B.tail).data.toList 48).toArray⟩ : ByteArray) = tx (Lib.trimRightB B.tail 48) from by simp [tx]]
  have hC : (Lib.trimRightB B.tail 48).length ≤ 20 := by
    unfold Lib.trimRightB
    have h := (List.dropWhile_sublist (fun x : UInt8 => x == 48) (l := B.tail.reverse)).length_le
    simp at h ⊢
    omega
  generalize Lib.trimRightB B.tail 48 = C at hC HR ⊢
  have hC' : (tx C).size ≤ 20 := by rw [tx_size]; exact hC
  go_wp2
  go_ret
  exact ⟨by rw [HR.out]; rfl, below_two hb2 hb3⟩

set_option maxHeartbeats 1000000 in
theorem text_nw (v : Int) (N W P Q : Nat) (w : World) (hv : v ≤ 9223372036854775807) (HN : Hid (szI v = N)) (hN : (N : Int) ≤ 9223372036854775807) (hW : (N : Int) / 1000000 = (W : Int)) (hP : (N : Int) % 1000000 = (P : Int)) (hs : v < 0) (hp : ((P : Int) == 0) = true) (ht : Pow w)
    (hQ : (1000000 : Int) + (P : Int) = (Q : Int)) (R : ByteArray) (HR : Hid (R = (tx [45] ++ tx (Lib.decDigits W)))) :
    Calls Tryd.prog 4 #[.int .i64 v] w fun e w' => e = .returned (.string R) ∧ Below w.heap.size w w' := by
  have HT : Hid _ := ht
  clear ht
  have HW : Hid (W < 18446744073709551616) := by show _ < _; omega
  have HQ : Hid (Q < 18446744073709551616) := by show _ < _; omega
  go_enter Tryd.func4, Tryd.ntmps4
  go_wp2_with fail
  refine (size_any v _ hv).mono ?_
  rintro e w1 ⟨rfl, rfl⟩
  rw [HN.out]
  go_wp2_with fail
  refine (fmtu_any W HW.out _ HT.out).mono ?_
  rintro e w2 ⟨rfl, hb2⟩
  rw [show (⟨(Lib.decDigits W).toArray⟩ : ByteArray) = tx (Lib.decDigits W) from rfl]
  have hA : (Lib.decDigits W).length ≤ 20 := by rw [Lib.decDigits_length]; exact Lib.nDigits_le20 W HW.out
  generalize Lib.decDigits W = A at hA HR ⊢
  have hA' : (tx A).size ≤ 20 := by rw [tx_size]; exact hA
  have HT2 : Hid _ := Pow.later HT.out hb2
  go_wp2
  go_ret
  exact ⟨by rw [HR.out]; rfl, hb2⟩

set_option maxHeartbeats 1000000 in
theorem text_pf (v : Int) (N W P Q : Nat) (w : World) (hv : v ≤ 9223372036854775807) (HN : Hid (szI v = N)) (hN : (N : Int) ≤ 9223372036854775807) (hW : (N : Int) / 1000000 = (W : Int)) (hP : (N : Int) % 1000000 = (P : Int)) (hs : ¬ v < 0) (hp : ((P : Int) == 0) = false) (ht : Pow w)
    (hQ : (1000000 : Int) + (P : Int) = (Q : Int)) (R : ByteArray) (HR : Hid (R = (tx (Lib.decDigits W) ++ tx [46]) ++ tx (Lib.trimRightB (Lib.decDigits Q).tail 48))) :
    Calls Tryd.prog 4 #[.int .i64 v] w fun e w' => e = .returned (.string R) ∧ Below w.heap.size w w' := by
  have HT : Hid _ := ht
  clear ht
  have HW : Hid (W < 18446744073709551616) := by show _ < _; omega
  have HQ : Hid (Q < 18446744073709551616) := by show _ < _; omega
  go_enter Tryd.func4, Tryd.ntmps4
  go_wp2_with fail
  refine (size_any v _ hv).mono ?_
  rintro e w1 ⟨rfl, rfl⟩
  rw [HN.out]
  go_wp2_with fail
  refine (fmtu_any W HW.out _ HT.out).mono ?_
  rintro e w2 ⟨rfl, hb2⟩
  rw [show (⟨(Lib.decDigits W).toArray⟩ : ByteArray) = tx (Lib.decDigits W) from rfl]
  have hA : (Lib.decDigits W).length ≤ 20 := by rw [Lib.decDigits_length]; exact Lib.nDigits_le20 W HW.out
  generalize Lib.decDigits W = A at hA HR ⊢
  have hA' : (tx A).size ≤ 20 := by rw [tx_size]; exact hA
  have HT2 : Hid _ := Pow.later HT.out hb2
  go_wp2_with fail
  refine (fmtu_any Q HQ.out _ HT2.out).mono ?_
  rintro e w3 ⟨rfl, hb3⟩
  rw [show (⟨(Lib.decDigits Q).toArray⟩ : ByteArray) = tx (Lib.decDigits Q) from rfl]
  have hB : (Lib.decDigits Q).length ≤ 20 := by rw [Lib.decDigits_length]; exact Lib.nDigits_le20 Q HQ.out
  have hB1 : 1 ≤ (Lib.decDigits Q).length := by rw [Lib.decDigits_length]; exact Lib.nDigits_pos Q
  generalize Lib.decDigits Q = B at hB hB1 HR ⊢
  have hB' : (tx B).size ≤ 20 := by rw [tx_size]; exact hB
  have hB2 : 1 ≤ (tx B).size := by rw [tx_size]; exact hB1
  go_wp2_with fail
  rw [show (tx B).extract 1 (tx B).size = tx B.tail from by rw [tx_extract, tx_size, List.drop_one, List.take_of_length_le (by simp)]]
  refine (Tryd.strings_TrimRight_one (tx B.tail) 48 (by decide) _ (by rw [tx_size]; simp; omega)).mono ?_
  rintro e w4 ⟨rfl, rfl⟩
  rw [show (⟨(Lib.trimRightB (tx B.tail).data.toList 48).toArray⟩ : ByteArray) = tx (Lib.trimRightB B.tail 48) from by simp [tx]]
  have hC : (Lib.trimRightB B.tail 48).length ≤ 20 := by
    unfold Lib.trimRightB
    have h := (List.dropWhile_sublist (fun x : UInt8 => x == 48) (l := B.tail.reverse)).length_le
    simp at h ⊢
    omega
  generalize Lib.trimRightB B.tail 48 = C at hC HR ⊢
  have hC' : (tx C).size ≤ 20 := by rw [tx_size]; exact hC
  go_wp2
  go_ret
  exact ⟨by rw [HR.out]; rfl, below_two hb2 hb3⟩

set_option maxHeartbeats 1000000 in
theorem text_pw (v : Int) (N W P Q : Nat) (w : World) (hv : v ≤ 9223372036854775807) (HN : Hid (szI v = N)) (hN : (N : Int) ≤ 9223372036854775807) (hW : (N : Int) / 1000000 = (W : Int)) (hP : (N : Int) % 1000000 = (P : Int)) (hs : ¬ v < 0) (hp : ((P : Int) == 0) = true) (ht : Pow w)
    (hQ : (1000000 : Int) + (P : Int) = (Q : Int)) (R : ByteArray) (HR : Hid (R = tx (Lib.decDigits W))) :
    Calls Tryd.prog 4 #[.int .i64 v] w fun e w' => e = .returned (.string R) ∧ Below w.heap.size w w' := by
  have HT : Hid _ := ht
  clear ht
  have HW : Hid (W < 18446744073709551616) := by show _ < _; omega
  have HQ : Hid (Q < 18446744073709551616) := by show _ < _; omega
  go_enter Tryd.func4, Tryd.ntmps4
  go_wp2_with fail
  refine (size_any v _ hv).mono ?_
  rintro e w1 ⟨rfl, rfl⟩
  rw [HN.out]
  go_wp2_with fail
  refine (fmtu_any W HW.out _ HT.out).mono ?_
  rintro e w2 ⟨rfl, hb2⟩
  rw [show (⟨(Lib.decDigits W).toArray⟩ : ByteArray) = tx (Lib.decDigits W) from rfl]
  have hA : (Lib.decDigits W).length ≤ 20 := by rw [Lib.decDigits_length]; exact Lib.nDigits_le20 W HW.out
  generalize Lib.decDigits W = A at hA HR ⊢
  have hA' : (tx A).size ≤ 20 := by rw [tx_size]; exact hA
  have HT2 : Hid _ := Pow.later HT.out hb2
  go_wp2
  go_ret
  exact ⟨by rw [HR.out]; rfl, hb2⟩

end Go.Proofs.YtinhbegnpadcaaaDoor
