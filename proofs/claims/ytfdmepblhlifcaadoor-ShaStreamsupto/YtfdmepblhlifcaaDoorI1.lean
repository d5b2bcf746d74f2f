/- What a stream holds. -/
import Derived.Test.YtfdmepblhlifcaaDoorH4
import Derived.Test.YtfdmepblhlifcaaDoorG1
namespace Go.Proofs.YtfdmepblhlifcaaDoor
open Go.RowKit
set_option linter.unusedVariables false
set_option linter.unusedSimpArgs false

/-- The states told so far. -/
def flatD (zs : List Int) : Nat → List Value
  | 0 => []
  | k + 1 => flatD zs k ++ u8l (bytesI (stB zs (k + 1)))
theorem stB_app (A B : List Int) (k : Nat) (h : 64 * k ≤ A.length) : stB (A ++ B) k = stB A k := by rw [stB_stF, stB_stF, stF_left _ _ _ _ h]
theorem flatD_app (A B : List Int) : ∀ k, 64 * k ≤ A.length → flatD (A ++ B) k = flatD A k
  | 0, _ => rfl
  | k + 1, h => by unfold flatD; rw [flatD_app A B k (by omega), stB_app A B (k + 1) (by omega)]

/-- A stream that holds these bytes. -/
def Holds (w : World) (p base : Nat) (zs : List Int) : Prop :=
  ∃ pv rest, Str w p (stB zs (zs.length / 64)) ((zs.length / 64 : Nat) : Int) pv rest ((zs.length % 64 : Nat) : Int) ∧ rest.length = 64 ∧ Byt rest ∧ rest.take (zs.length % 64) = zs.drop (64 * (zs.length / 64)) ∧ w.ownsRow base 23 32 pv (zs.length / 64) (flatD zs (zs.length / 64))
theorem Holds.later {w w' : World} {p base : Nat} {zs : List Int} (h : Holds w p base zs) (hp : w'.heap[p]? = w.heap[p]?) (hb : ∀ g, base ≤ g → g < w.heap.size → w'.heap[g]? = w.heap[g]?) : Holds w' p base zs := by
  obtain ⟨pv, rest, h1, h2, h3, h4, h5⟩ := h
  exact ⟨pv, rest, h1.later hp, h2, h3, h4, own_kept h5 hb⟩
theorem holds_new {w : World} {p base : Nat} (h : Str w p beginI 0 (.slice none 0 0) (List.replicate 64 0) 0) : Holds w p base [] :=
  ⟨_, _, h, rfl, byt_rep _ 0 (by decide) (by decide), rfl, World.ownsRow_nil _ _ _ _⟩

/-- The rest behind bytes that came. -/
def restI (rest c : List Int) (r : Nat) : List Int := rest.take r ++ c ++ rest.drop (r + c.length)
theorem rest_len (rest c : List Int) (r : Nat) (hr : rest.length = 64) (h : r + c.length ≤ 64) : (restI rest c r).length = 64 := by simp [restI]; omega
theorem rest_byt (rest c : List Int) (r : Nat) (h1 : Byt rest) (h2 : Byt c) : Byt (restI rest c r) :=
  byt_app (byt_app (fun x hx => h1 x (List.mem_of_mem_take hx)) h2) (fun x hx => h1 x (List.mem_of_mem_drop hx))
theorem rest_take (rest c : List Int) (r : Nat) (hr : rest.length = 64) (h : r + c.length ≤ 64) : (restI rest c r).take (r + c.length) = rest.take r ++ c := by
  unfold restI
  rw [List.take_append_of_le_length (by simp; omega)]
  exact List.take_of_length_le (by simp; omega)
theorem strC_copy (s : List Int) (n : Int) (pv : Value) (rest : List Int) (left : Int) (c : List Int) (r : Nat) (hs : s.length = 8) (hr : rest.length = 64) (h : r + c.length ≤ 64) :
    (strC s n pv rest left).take (10 + r) ++ u8l c ++ (strC s n pv rest left).drop (10 + r + (u8l c).length) = strC s n pv (restI rest c r) left := by
  have e0 : strC s n pv rest left = (u32l s ++ [.int .i64 n, pv]) ++ (u8l rest ++ [.int .i64 left]) := by simp [strC]
  have hl : (u32l s ++ [Value.int .i64 n, pv]).length = 10 := by simp [u32l_len, hs]
  rw [e0, List.take_append, List.drop_append, hl, u8l_len]
  rw [List.take_of_length_le (by rw [hl]; omega), List.drop_eq_nil_of_le (by rw [hl]; omega), List.nil_append]
  rw [show 10 + r - 10 = r by omega, show 10 + r + c.length - 10 = r + c.length by omega]
  rw [List.take_append_of_le_length (by rw [u8l_len]; omega), List.drop_append_of_le_length (by rw [u8l_len]; omega)]
  simp [strC, restI, u8l, List.map_append, List.map_take, List.map_drop]
/-- Bytes more that do not fill the block. -/
theorem holds_more {w : World} {p base : Nat} {zs c : List Int} {pv : Value} {rest : List Int} (h : Str w p (stB zs (zs.length / 64)) ((zs.length / 64 : Nat) : Int) pv (restI rest c (zs.length % 64)) (((zs ++ c).length % 64 : Nat) : Int)) (hr : rest.length = 64) (hb : Byt rest) (hc : Byt c)
    (ht : rest.take (zs.length % 64) = zs.drop (64 * (zs.length / 64))) (ho : w.ownsRow base 23 32 pv (zs.length / 64) (flatD zs (zs.length / 64))) (hlt : zs.length % 64 + c.length < 64) : Holds w p base (zs ++ c) := by
  have e1 : (zs ++ c).length / 64 = zs.length / 64 := by rw [List.length_append]; omega
  have e2 : (zs ++ c).length % 64 = zs.length % 64 + c.length := by rw [List.length_append]; omega
  refine ⟨pv, restI rest c (zs.length % 64), ?_, rest_len _ _ _ hr (by omega), rest_byt _ _ _ hb hc, ?_, ?_⟩
  · rw [e1, stB_app _ _ _ (by omega)]; exact h
  · rw [e1, e2, rest_take _ _ _ hr (by omega), ht, List.drop_append_of_le_length (by omega)]
  · rw [e1, flatD_app _ _ _ (by omega)]; exact ho
/-- Bytes that fill the block. -/
theorem holds_full {w : World} {p base : Nat} {zs c : List Int} {pv : Value} {rest : List Int} (hr : rest.length = 64) (hb : Byt rest) (hc : Byt c)
    (ht : rest.take (zs.length % 64) = zs.drop (64 * (zs.length / 64))) (heq : zs.length % 64 + c.length = 64)
    (h : Str w p (afterI (stB zs (zs.length / 64)) (restI rest c (zs.length % 64))) (((zs.length / 64 : Nat) : Int) + 1) pv (restI rest c (zs.length % 64)) 0)
    (ho : w.ownsRow base 23 32 pv (zs.length / 64 + 1) (flatD zs (zs.length / 64) ++ u8l (bytesI (afterI (stB zs (zs.length / 64)) (restI rest c (zs.length % 64)))))) : Holds w p base (zs ++ c) := by
  have e1 : (zs ++ c).length / 64 = zs.length / 64 + 1 := by rw [List.length_append]; omega
  have e2 : (zs ++ c).length % 64 = 0 := by rw [List.length_append]; omega
  have hl := rest_len rest c (zs.length % 64) hr (by omega)
  have hR : restI rest c (zs.length % 64) = blkAt (zs ++ c) (zs.length / 64) := by
    have h1 := rest_take rest c (zs.length % 64) hr (by omega)
    rw [heq, List.take_of_length_le (by omega), ht] at h1
    unfold blkAt
    rw [h1, List.drop_append_of_le_length (by omega), List.take_of_length_le (by simp; omega)]
  have hS : stB (zs ++ c) (zs.length / 64 + 1) = afterI (stB zs (zs.length / 64)) (restI rest c (zs.length % 64)) := by
    rw [hR]
    show afterI (stB (zs ++ c) (zs.length / 64)) _ = _
    rw [stB_app _ _ _ (by omega)]
  refine ⟨pv, restI rest c (zs.length % 64), ?_, hl, rest_byt _ _ _ hb hc, ?_, ?_⟩
  · rw [e1, e2, hS]; exact h
  · rw [e1, e2]
    have : (zs ++ c).drop (64 * (zs.length / 64 + 1)) = [] := List.drop_eq_nil_of_le (by rw [List.length_append]; omega)
    rw [this]; rfl
  · rw [e1]
    show w.ownsRow base 23 32 pv (zs.length / 64 + 1) (flatD (zs ++ c) (zs.length / 64) ++ u8l (bytesI (stB (zs ++ c) (zs.length / 64 + 1))))
    rw [hS, flatD_app _ _ _ (by omega)]
    exact ho
end Go.Proofs.YtfdmepblhlifcaaDoor
