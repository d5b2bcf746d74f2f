/- A slot's report of nothing; New. -/
import Derived.Test.YtkigagglkmdccaaKm
import Derived.Maps.Own
namespace Go.Proofs.Ytkigagglkmdccaa
open Go.RowKit Go.Shelf
set_option linter.unusedVariables false
set_option linter.unusedSimpArgs false

set_option maxRecDepth 100000 in
theorem new_fixed (w : World) : Calls Try.prog 7 #[.int .i64 1] w fun e w' => e = .returned (.pointer (some ⟨w.heap.size + 1, 0, none⟩)) ∧ w' = (w.alloc (.map #[] 0)).alloc (.cells #[.int .i64 1, .int .i64 0, .slice none 0 0, .slice none 0 0, .slice none 0 0, .int .i64 0, .pointer none, .int .i64 0, .map (some w.heap.size)] 65) := by
  have hmk : (Instr.makeMap 63 none).run Try.prog w = .ok (.map (some w.heap.size)) (w.alloc (.map #[] 0)) := run_makeMap 63 w
  go_enter Try.func7, Try.ntmps7
  go_wp2
  go_ret
  exact ⟨by simp, rfl⟩
theorem results_one {P : Program} {fn : Func} {p : Tmp} {ty : TypeId} (h : fn.results = #[.cell p ty]) (tmps : Array Value) (w : World) (g : Nat) (cs : Array Value)
    (hp : tmps.getD p undef = .pointer (some ⟨g, 0, none⟩)) (hl : (loadVar ty ⟨g, 0, none⟩).run P w = .ok (.agg cs) w) :
    (results fn tmps).run P w = .ok (.agg cs) w := by
  have hp' : tmps[p]?.getD undef = .pointer (some ⟨g, 0, none⟩) := by simpa using hp
  simp [results, h, hp', asAddr, hl]
theorem load40 {W : World} {g : Nat} {cs : Array Value} (h : W.heap[g]? = some (.cells cs 40 (0, 0))) (hs : cs.size = 6) : (loadVar 40 ⟨g, 0, none⟩).run Try.prog W = .ok (.agg cs) W :=
  run_loadVar_row W g 40 40 cs (0, 0) _ h Try.underlying40 rfl (by rw [hs]; kernel_rfl)
set_option maxRecDepth 100000 in
theorem tstep_nil (w : World) : Calls Try.prog 14 #[.pointer none] w fun e w' => e = .returned (.agg #[.int .i64 0, .string (tx []), .int .i64 0, .int .i64 0, .bool false, .bool false]) ∧ Below w.heap.size w w' := by
  go_enter Try.func14, Try.ntmps14
  go_wp2
  exact bodyPost_ret (results_one Try.results14 _ _ w.heap.size #[.int .i64 0, .string (tx []), .int .i64 0, .int .i64 0, .bool false, .bool false] rfl (load40 (heap_alloc_new _ _) rfl)) rfl ⟨rfl, bel1' _ _⟩
set_option maxRecDepth 100000 in
set_option maxHeartbeats 4000000 in
theorem same_zero (w : World) : Calls Try.prog 20 #[.agg #[.int .i64 0, .string (tx []), .int .i64 0, .int .i64 0, .bool false, .bool false], .agg #[.int .i64 0, .string (tx []), .int .i64 0, .int .i64 0, .bool false, .bool false]] w fun e w' => e = .returned (.bool true) ∧ Below w.heap.size w w' := by
  go_enter Try.func20, Try.ntmps20
  go_wp2
  go_ret
  exact ⟨rfl, (bel1' w _).alloc (by simp) _⟩
end Go.Proofs.Ytkigagglkmdccaa
