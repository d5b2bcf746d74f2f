/- Where a stream is; a block is closed. -/
import Derived.Test.YtfdmepblhlifcaaDoorH2
import Derived.Test.YtfdmepblhlifcaaDoorF5
namespace Go.Proofs.YtfdmepblhlifcaaDoor
open Go.RowKit
set_option linter.unusedVariables false
set_option linter.unusedSimpArgs false

theorem Str.later {w w' : World} {p : Nat} {s : List Int} {n : Int} {pv : Value} {rest : List Int} {left : Int} (h : Str w p s n pv rest left) (hb : w'.heap[p]? = w.heap[p]?) : Str w' p s n pv rest left := hb.trans h
theorem Str.lt {w : World} {p : Nat} {s : List Int} {n : Int} {pv : Value} {rest : List Int} {left : Int} (h : Str w p s n pv rest left) : p < w.heap.size := (Array.getElem?_eq_some_iff.1 h).1

set_option maxRecDepth 20000 in
set_option maxHeartbeats 2000000 in
theorem chain_any (p : Nat) (s : List Int) (n : Int) (pv : Value) (rest : List Int) (left : Int) (w : World) (h : Str w p s n pv rest left) (hs : s.length = 8) (hw : W32 s) (n0 : 0 ≤ n) (n1 : n < 9223372036854775807) (hne : s = beginI ∨ n ≠ 0) :
    Calls Tryd.prog 40 #[.pointer (some ⟨p, 0, none⟩)] w fun e w' => e = .returned (.agg (chainV s n)) ∧ Below w.heap.size w w' := by
  have HN := chain_ne s n hs hw n0 n1 hne
  have HH : Hid (Str (w.alloc (.cells (chainV (List.replicate 8 0) 0) 54)) p s n pv rest left) := h.later (Below.heap_alloc _ _ _ h.lt)
  have HL : Hid ((loadVar 54 ⟨p, 0, none⟩).run Tryd.prog (w.alloc (.cells (chainV (List.replicate 8 0) 0) 54)) = .ok (.agg (chainV s n)) (w.alloc (.cells (chainV (List.replicate 8 0) 0) 54))) := HH.out.chainAt hs
  have HS9 : Hid ((chainV s n).size = 9) := by show _ = _; rw [size_chain, hs]
  have HON : Hid ((chainV s n).all (·.oneCell') = true) := one_chain _ _
  generalize chainV s n = V at *
  clear h hs hw n0 n1 hne
  go_enter Tryd.func40, Tryd.ntmps40
  go_wp2_with (first | (refine wpList_loadV 54 _ rfl rfl ⟨p, 0, none⟩ rfl _ HL.out ?_) | (refine wpList_store_row rfl 54 _ _ rfl w.heap.size V rfl rfl 54 (chainV (List.replicate 8 0) 0) (Go.heap_alloc_new _ _) ?h2 ?h3 HON.out ?_))
  case h2 => rw [HS9.out]; kernel_rfl
  case h3 => rw [HS9.out]; rfl
  refine bodyPost_ret (v := .agg V) (results_cell_row Tryd.results40 _ _ w.heap.size 54 V (0, 0) _ rfl (setRow_heap _ _ _ _ _ _ (Go.heap_alloc_new _ _)) Tryd.underlying54 rfl (by rw [HS9.out]; kernel_rfl)) rfl ⟨rfl, below_setRow ((Below.refl _ w).alloc (Nat.le_refl _) _) (Nat.le_refl _) _⟩
end Go.Proofs.YtfdmepblhlifcaaDoor
