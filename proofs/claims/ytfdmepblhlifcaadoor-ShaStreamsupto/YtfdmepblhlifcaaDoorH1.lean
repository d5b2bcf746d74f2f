/- A stream as it lies. -/
import Derived.Test.YtfdmepblhlifcaaDoorF4
import Derived.Deep.MidRow
import Derived.Laws.CopyOwn
namespace Go.Proofs.YtfdmepblhlifcaaDoor
open Go.RowKit
set_option linter.unusedVariables false
set_option linter.unusedSimpArgs false

/-- A stream's cells. -/
def strC (s : List Int) (n : Int) (pv : Value) (rest : List Int) (left : Int) : List Value := u32l s ++ (.int .i64 n :: pv :: (u8l rest ++ [.int .i64 left]))
/-- A stream lies at p. -/
def Str (w : World) (p : Nat) (s : List Int) (n : Int) (pv : Value) (rest : List Int) (left : Int) : Prop := w.heap[p]? = some (.cells (strC s n pv rest left).toArray 69 (0, 0))
section
variable {w : World} {p : Nat} {s : List Int} {n : Int} {pv : Value} {rest : List Int} {left : Int}
theorem u32l_len (l : List Int) : (u32l l).length = l.length := by simp [u32l]
theorem strC_len (hs : s.length = 8) (hr : rest.length = 64) : (strC s n pv rest left).length = 75 := by simp [strC, u32l_len, u8l_len, hs, hr]
theorem Str.cell (h : Str w p s n pv rest left) (k : Nat) : w.cell? ⟨p, k, none⟩ = (strC s n pv rest left)[k]? := by
  rw [cell_of_row _ _ _ _ _ _ h]
  simp
theorem Str.blocksAt (h : Str w p s n pv rest left) (hs : s.length = 8) : w.cell? ⟨p, 8, none⟩ = some (.int .i64 n) := by
  rw [h.cell]; unfold strC; rw [List.getElem?_append_right (by rw [u32l_len]; omega), u32l_len, hs]; rfl
theorem Str.pastAt (h : Str w p s n pv rest left) (hs : s.length = 8) : w.cell? ⟨p, 9, none⟩ = some pv := by
  rw [h.cell]; unfold strC; rw [List.getElem?_append_right (by rw [u32l_len]; omega), u32l_len, hs]; rfl
theorem Str.leftAt (h : Str w p s n pv rest left) (hs : s.length = 8) (hr : rest.length = 64) : w.cell? ⟨p, 74, none⟩ = some (.int .i64 left) := by
  rw [h.cell]; unfold strC
  rw [List.getElem?_append_right (by rw [u32l_len]; omega), u32l_len, hs]
  show (u8l rest ++ [.int .i64 left])[64]? = _
  rw [List.getElem?_append_right (by rw [u8l_len]; omega), u8l_len, hr]
  rfl
theorem Str.chainAt (h : Str w p s n pv rest left) (hs : s.length = 8) : (loadVar 54 ⟨p, 0, none⟩).run Tryd.prog w = .ok (.agg (chainV s n)) w := by
  have e : chainV s n = (u32l s ++ [Value.int .i64 n]).toArray := by simp [chainV, u32s, u32l]
  rw [e]
  refine run_loadVar_mid w p 0 54 (u32l s ++ [.int .i64 n]) _ (fun j v hv => ?_) Tryd.underlying54 rfl (by rw [List.length_append, u32l_len, hs]; kernel_rfl)
  rw [Nat.zero_add, h.cell]
  have : strC s n pv rest left = (u32l s ++ [.int .i64 n]) ++ (pv :: (u8l rest ++ [.int .i64 left])) := by simp [strC]
  rw [this, List.getElem?_append_left (List.getElem?_eq_some_iff.1 hv).1]
  exact hv
theorem Str.restAt (h : Str w p s n pv rest left) (hs : s.length = 8) (hr : rest.length = 64) : (loadVar 64 ⟨p, 10, none⟩).run Tryd.prog w = .ok (.agg (u8s rest)) w := by
  refine run_loadVar_mid w p 10 64 (u8l rest) _ (fun j v hv => ?_) Tryd.underlying64 rfl (by rw [u8l_len, hr]; kernel_rfl)
  rw [h.cell]
  unfold strC
  rw [List.getElem?_append_right (by rw [u32l_len]; omega), u32l_len, hs, show 10 + j - 8 = j + 1 + 1 by omega, List.getElem?_cons_succ, List.getElem?_cons_succ, List.getElem?_append_left (List.getElem?_eq_some_iff.1 hv).1]
  exact hv
theorem Str.frozen (h : Str w p s n pv rest left) (k : Nat) : w.frozen? ⟨p, k, none⟩ = false := frozen_of_row _ _ _ _ _ h
theorem Str.setLeft (h : Str w p s n pv rest left) (hs : s.length = 8) (hr : rest.length = 64) (l' : Int) : Str (w.setCell ⟨p, 74, none⟩ (.int .i64 l')) p s n pv rest l' := by
  have h0 := heap_setCell_same _ _ 74 _ _ (.int .i64 l') h
  unfold Str
  rw [h0]
  congr 2
  rw [List.setIfInBounds_toArray]
  congr 1
  unfold strC
  rw [List.set_append_right _ _ (by rw [u32l_len]; omega), u32l_len, hs]
  show _ ++ (_ :: _ :: (u8l rest ++ [_]).set 64 _) = _
  rw [List.set_append_right _ _ (by rw [u8l_len]; omega), u8l_len, hr]
  rfl
theorem Str.setPast (h : Str w p s n pv rest left) (hs : s.length = 8) (v : Value) : Str (w.setCell ⟨p, 9, none⟩ v) p s n v rest left := by
  have h0 := heap_setCell_same _ _ 9 _ _ v h
  unfold Str
  rw [h0]
  congr 2
  rw [List.setIfInBounds_toArray]
  congr 1
  unfold strC
  rw [List.set_append_right _ _ (by rw [u32l_len]; omega), u32l_len, hs]
  rfl
theorem Str.setChain (h : Str w p s n pv rest left) (hs : s.length = 8) (s' : List Int) (n' : Int) (hs' : s'.length = 8) :
    (storeVar 54 ⟨p, 0, none⟩ (.agg (chainV s' n'))).run Tryd.prog w = .ok () (w.setRow p (strC s' n' pv rest left).toArray) ∧ Str (w.setRow p (strC s' n' pv rest left).toArray) p s' n' pv rest left := by
  refine ⟨?_, setRow_heap _ _ _ _ _ _ h⟩
  have hl : (chainV s' n').toList.length = 9 := by simp [chainV, u32s, hs']
  have hsc := run_storeCells_at Tryd.prog p 0 69 (chainV s' n').toList 0 (strC s n pv rest left).toArray w h (by simp [strC, u32l_len, hs, hs', chainV, u32s]; omega) (fun v hv => (Array.all_eq_true_iff_forall_mem.1 (one_chain s' n')) v (by simpa using hv))
  have e : (strC s n pv rest left).toArray.toList.take (0 + 0) ++ (chainV s' n').toList ++ (strC s n pv rest left).toArray.toList.drop (0 + 0 + (chainV s' n').toList.length) = strC s' n' pv rest left := by
    rw [hl]
    simp only [Nat.add_zero, Nat.zero_add, List.take_zero, List.nil_append]
    have e1 : (strC s n pv rest left).drop 9 = pv :: (u8l rest ++ [.int .i64 left]) := by
      unfold strC
      rw [List.drop_append, List.drop_eq_nil_of_le (by rw [u32l_len]; omega), u32l_len, hs]
      rfl
    rw [e1]
    simp [strC, chainV, u32s, u32l]
  rw [e] at hsc
  have hi : (Tryd.prog.info? 54).map (·.size) = some 9 := by kernel_rfl
  cases hq : Tryd.prog.info? 54 with
  | none => simp [hq] at hi
  | some i =>
    have hz : 9 = i.size := by simp [hq] at hi; omega
    have hc : (chainV s' n').size = i.size := by rw [size_chain, hs']; omega
    simp [storeVar, sizeOf, typeInfo, hq, Value.cells, hc, hsc]
end
end Go.Proofs.YtfdmepblhlifcaaDoor
