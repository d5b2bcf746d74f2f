/- New; the calls of what there is not. -/
import Derived.Test.YtfndbllpnkhlhabKs
namespace Go.Proofs.Ytfndbllpnkhlhab
open Go.RowKit Go.Shelf
set_option linter.unusedVariables false
set_option linter.unusedSimpArgs false

set_option maxRecDepth 100000 in
theorem new_any (w : World) : Calls Try.prog 4 #[] w fun e w' => ∃ T F, e = .returned (.pointer (some ⟨T, 0, none⟩)) ∧ PF w' T F newS ∧ (∀ q, F q → w.heap.size ≤ q) ∧ Below w.heap.size w w' := by
  go_enter Try.func4, Try.ntmps4
  go_wp2
  go_ret
  have hb : (w.alloc (.cells #[.slice none 0 0, .int .i64 0, .pointer none, .int .i64 0] 40)).heap[w.heap.size]? = some (.cells #[.slice none 0 0, .int .i64 0, .pointer none, .int .i64 0] 40 (0, 0)) := heap_alloc_new _ _
  refine ⟨w.heap.size, foot w.heap.size (.slice none 0 0) [], rfl, ⟨.slice none 0 0, [], .pointer none, 0, ⟨hb, World.ownsRow_nil _ _ _ _, fun r hr => (nomatch hr), fun r hr => (nomatch hr), ?_, List.nodup_nil, List.nodup_nil, fun i j q r r' hi => by simp at hi⟩, rfl, ⟨fun _ => ⟨rfl, rfl, fun r hr => (nomatch hr)⟩, fun h => by cases h⟩, fun q => Iff.rfl⟩, ?_, bel1' _ _⟩
  · simp [nms, Up]
  · rintro q (rfl | hq | ⟨r, hr, _⟩)
    · exact Nat.le_refl _
    · cases hq
    · cases hr
theorem results_four {P : Program} {fn : Func} {o p q r : Tmp} {ty : TypeId} (h : fn.results = #[.tmp o, .cell p ty, .tmp q, .tmp r]) (tmps : Array Value) (w : World) (g : Nat) (cs : Array Value) (u v x : Value)
    (ho : tmps.getD o undef = u) (hp : tmps.getD p undef = .pointer (some ⟨g, 0, none⟩)) (hq : tmps.getD q undef = v) (hr : tmps.getD r undef = x) (hl : (loadVar ty ⟨g, 0, none⟩).run P w = .ok (.agg cs) w) :
    (results fn tmps).run P w = .ok (.tuple #[u, .agg cs, v, x]) w := by
  have ho' : tmps[o]?.getD undef = u := by simpa using ho
  have hp' : tmps[p]?.getD undef = .pointer (some ⟨g, 0, none⟩) := by simpa using hp
  have hq' : tmps[q]?.getD undef = v := by simpa using hq
  have hr' : tmps[r]?.getD undef = x := by simpa using hr
  simp [results, h, ho', hp', hq', hr', asAddr, hl]
theorem load42 {W : World} {g : Nat} {cs : Array Value} (h : W.heap[g]? = some (.cells cs 31 (0, 0))) (hs : cs.size = 2) : (loadVar 31 ⟨g, 0, none⟩).run Try.prog W = .ok (.agg cs) W :=
  run_loadVar_row W g 31 31 cs (0, 0) _ h Try.underlying31 rfl (by rw [hs]; kernel_rfl)
end Go.Proofs.Ytfndbllpnkhlhab
