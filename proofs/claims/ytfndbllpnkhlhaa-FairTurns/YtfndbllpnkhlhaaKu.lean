/- New; the calls of what there is not. -/
import Derived.Test.YtfndbllpnkhlhaaKs
import Derived.Test.YtfndbllpnkhlhaaN1
namespace Go.Proofs.Ytfndbllpnkhlhaa
open Go.RowKit Go.Shelf
set_option linter.unusedVariables false
set_option linter.unusedSimpArgs false

set_option maxRecDepth 100000 in
theorem new_any (w : World) : Calls Try.prog 17 #[] w fun e w' => ∃ T F, e = .returned (.pointer (some ⟨T, 0, none⟩)) ∧ PF w' T F newS ∧ (∀ q, F q → w.heap.size ≤ q) ∧ Below w.heap.size w w' := by
  go_enter Try.func17, Try.ntmps17
  go_wp2
  go_ret
  have hb : (w.alloc (.cells #[.slice none 0 0, .int .i64 0, .pointer none, .int .i64 0] 73)).heap[w.heap.size]? = some (.cells #[.slice none 0 0, .int .i64 0, .pointer none, .int .i64 0] 73 (0, 0)) := heap_alloc_new _ _
  refine ⟨w.heap.size, foot w.heap.size (.slice none 0 0) [], rfl, ⟨.slice none 0 0, [], .pointer none, 0, ⟨hb, World.ownsRow_nil _ _ _ _, fun r hr => (nomatch hr), fun r hr => (nomatch hr), ?_, List.nodup_nil, List.nodup_nil, fun i j q r r' hi => by simp at hi⟩, rfl, ⟨fun _ => ⟨rfl, rfl, fun r hr => (nomatch hr)⟩, fun h => by cases h⟩, fun q => Iff.rfl⟩, ?_, bel1' _ _⟩
  · simp [nms, Up]
  · rintro q (rfl | hq | ⟨r, hr, _⟩)
    · exact Nat.le_refl _
    · cases hq
    · cases hr
theorem lenq_nil (w : World) : Calls Try.prog 16 #[.pointer none] w fun e w' => e = .returned (.int .i64 0) ∧ w' = w := by
  go_enter Try.func16, Try.ntmps16
  go_wp2
  go_ret
  exact ⟨rfl, rfl⟩
theorem sfind_nil (nm : List UInt8) (w : World) : Calls Try.prog 48 #[.pointer none, .string (tx nm)] w fun e w' => e = .returned (.pointer none) ∧ w' = w := by
  go_enter Try.func48, Try.ntmps48
  go_wp2
  go_ret
  exact ⟨rfl, rfl⟩
theorem sset_nil (nm : List UInt8) (wt : Int) (w : World) : Calls Try.prog 20 #[.pointer none, .string (tx nm), .int .i64 wt] w fun e w' => e = .returned (.int .i64 2) ∧ Below w.heap.size w w' := by
  go_enter Try.func20, Try.ntmps20
  go_wp2
  go_ret
  exact ⟨rfl, Below.refl _ _⟩
theorem qpush_nil (x : Int) (w : World) : Calls Try.prog 11 #[.pointer none, .int .i64 x] w fun e w' => e = .returned (.int .i64 2) ∧ Below w.heap.size w w' := by
  go_enter Try.func11, Try.ntmps11
  go_wp2
  go_ret
  exact ⟨rfl, Below.refl _ _⟩
theorem swait_nil (nm : List UInt8) (w : World) : Calls Try.prog 29 #[.pointer none, .string (tx nm)] w fun e w' => e = .returned (.int .i64 0) ∧ Below w.heap.size w w' := by
  go_enter Try.func29, Try.ntmps29
  go_wp2_with (go_at_call 48; refine (sfind_nil _ _).mono ?_; rintro e w1 ⟨rfl, hw1⟩; rw [hw1]; clear hw1)
  go_ret
  exact ⟨rfl, Below.refl _ _⟩
theorem sahead_nil (nm : List UInt8) (w : World) : Calls Try.prog 23 #[.pointer none, .string (tx nm)] w fun e w' => e = .returned (.int .i64 0) ∧ Below w.heap.size w w' := by
  go_enter Try.func23, Try.ntmps23
  go_wp2_with (go_at_call 48; refine (sfind_nil _ _).mono ?_; rintro e w1 ⟨rfl, hw1⟩; rw [hw1]; clear hw1)
  go_ret
  exact ⟨rfl, Below.refl _ _⟩
theorem sdrop_nil (w : World) : Calls Try.prog 30 #[.pointer none] w fun e w' => e = .returned (.int .i64 0) ∧ Below w.heap.size w w' := by
  go_enter Try.func30, Try.ntmps30
  go_wp2
  go_ret
  exact ⟨rfl, Below.refl _ _⟩
theorem spush_nil (nm : List UInt8) (id cost : Int) (w : World) : Calls Try.prog 21 #[.pointer none, .string (tx nm), .agg #[.int .i64 id, .int .i64 cost]] w fun e w' => e = .returned (.int .i64 2) ∧ Below w.heap.size w w' := by
  go_enter Try.func21, Try.ntmps21
  go_wp2
  go_ret
  exact ⟨rfl, by first | exact Below.refl _ _ | exact bel1' _ _⟩
theorem swts_nil (w : World) : Calls Try.prog 24 #[.pointer none] w fun e w' => e = .returned (.tuple #[.int .i64 0, .int .i64 0]) ∧ Below w.heap.size w w' := by
  go_enter Try.func24, Try.ntmps24
  go_wp2
  go_ret2
  exact ⟨rfl, Below.refl _ _⟩
theorem qdrop_nil (w : World) : Calls Try.prog 12 #[.pointer none] w fun e w' => e = .returned (.int .i64 0) ∧ Below w.heap.size w w' := by
  go_enter Try.func12, Try.ntmps12
  go_wp2_with (go_at_call 16; refine (lenq_nil _).mono ?_; rintro e w1 ⟨rfl, hw1⟩; rw [hw1]; clear hw1)
  go_ret
  exact ⟨rfl, Below.refl _ _⟩
theorem qpeek_nil (w : World) : Calls Try.prog 13 #[.pointer none] w fun e w' => e = .returned (.tuple #[.int .i64 0, .bool false]) ∧ Below w.heap.size w w' := by
  go_enter Try.func13, Try.ntmps13
  go_wp2_with (go_at_call 16; refine (lenq_nil _).mono ?_; rintro e w1 ⟨rfl, hw1⟩; rw [hw1]; clear hw1)
  go_ret2
  exact ⟨rfl, Below.refl _ _⟩
theorem qpop_nil (w : World) : Calls Try.prog 14 #[.pointer none] w fun e w' => e = .returned (.tuple #[.int .i64 0, .bool false]) ∧ Below w.heap.size w w' := by
  go_enter Try.func14, Try.ntmps14
  go_wp2_with (go_at_call 13; refine (qpeek_nil _).mono ?_; rintro e w1 ⟨rfl, hb1⟩)
  go_ret2
  exact ⟨rfl, hb1⟩
theorem qall_nil (w : World) : Calls Try.prog 15 #[.pointer none] w fun e w' => (∃ s c, e = .returned (.slice s 0 c)) ∧ Below w.heap.size w w' := by
  go_enter Try.func15, Try.ntmps15
  go_wp2
  go_ret
  exact ⟨⟨_, _, rfl⟩, Below.refl _ _⟩
theorem results_four {P : Program} {fn : Func} {o p q r : Tmp} {ty : TypeId} (h : fn.results = #[.tmp o, .cell p ty, .tmp q, .tmp r]) (tmps : Array Value) (w : World) (g : Nat) (cs : Array Value) (u v x : Value)
    (ho : tmps.getD o undef = u) (hp : tmps.getD p undef = .pointer (some ⟨g, 0, none⟩)) (hq : tmps.getD q undef = v) (hr : tmps.getD r undef = x) (hl : (loadVar ty ⟨g, 0, none⟩).run P w = .ok (.agg cs) w) :
    (results fn tmps).run P w = .ok (.tuple #[u, .agg cs, v, x]) w := by
  have ho' : tmps[o]?.getD undef = u := by simpa using ho
  have hp' : tmps[p]?.getD undef = .pointer (some ⟨g, 0, none⟩) := by simpa using hp
  have hq' : tmps[q]?.getD undef = v := by simpa using hq
  have hr' : tmps[r]?.getD undef = x := by simpa using hr
  simp [results, h, ho', hp', hq', hr', asAddr, hl]
theorem load42 {W : World} {g : Nat} {cs : Array Value} (h : W.heap[g]? = some (.cells cs 42 (0, 0))) (hs : cs.size = 2) : (loadVar 42 ⟨g, 0, none⟩).run Try.prog W = .ok (.agg cs) W :=
  run_loadVar_row W g 42 42 cs (0, 0) _ h Try.underlying42 rfl (by rw [hs]; kernel_rfl)
theorem sstep_nil (w : World) : Calls Try.prog 22 #[.pointer none] w fun e w' => e = .returned (.tuple #[.string (tx []), .agg #[.int .i64 0, .int .i64 0], .bool false, .bool false]) ∧ Below w.heap.size w w' := by
  go_enter Try.func22, Try.ntmps22
  go_wp2
  exact bodyPost_ret (results_four Try.results22 _ _ w.heap.size #[.int .i64 0, .int .i64 0] _ _ _ rfl rfl rfl rfl (load42 (heap_alloc_new _ _) rfl)) rfl ⟨rfl, bel1' _ _⟩
theorem prgNil : PrgNil where
  qpop := qpop_nil
  qpeek := qpeek_nil
  sstep := sstep_nil
  swts := swts_nil
  qpush := qpush_nil
  qlen := fun w => (lenq_nil w).mono fun e w' ⟨h1, h2⟩ => ⟨h1, by rw [h2]; exact Below.refl _ _⟩
  qall := qall_nil
  qdrop := qdrop_nil
  sset := sset_nil
  spush := spush_nil
  swait := swait_nil
  sahead := sahead_nil
  sdrop := sdrop_nil
end Go.Proofs.Ytfndbllpnkhlhaa
