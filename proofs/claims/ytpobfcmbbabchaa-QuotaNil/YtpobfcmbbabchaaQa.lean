/- The program's table against the plain list: Set. -/
import Derived.Test.YtpobfcmbbabchaaQ9
namespace Go.Proofs.Ytpobfcmbbabchaa
open Go.RowKit Go.Lib
set_option linter.unusedVariables false
set_option linter.unusedSimpArgs false

def bk7 (r bu ho ti tk rf cs : Int) : Value := .agg #[.int .i64 r, .int .i64 bu, .int .i64 ho, .int .i64 ti, .int .i64 tk, .int .i64 rf, .int .i64 cs]
theorem results_one {P : Program} {fn : Func} {p : Tmp} {ty : TypeId} (h : fn.results = #[.cell p ty]) (tmps : Array Value) (w : World) (g : Nat) (cs : Array Value)
    (hp : tmps.getD p undef = .pointer (some ⟨g, 0, none⟩)) (hl : (loadVar ty ⟨g, 0, none⟩).run P w = .ok (.agg cs) w) :
    (results fn tmps).run P w = .ok (.agg cs) w := by
  have hp' : tmps[p]?.getD undef = .pointer (some ⟨g, 0, none⟩) := by simpa using hp
  simp [results, h, hp', asAddr, hl]
theorem load68 {W : World} {g : Nat} {cs : Array Value} (h : W.heap[g]? = some (.cells cs 68 (0, 0))) (hs : cs.size = 7) : (loadVar 68 ⟨g, 0, none⟩).run Try.prog W = .ok (.agg cs) W :=
  run_loadVar_row W g 68 68 cs (0, 0) _ h Try.underlying68 rfl (by rw [hs]; kernel_rfl)
set_option maxRecDepth 20000 in
theorem full_any (r bu now : Int) (w : World) (h0 : 0 ≤ bu) (h1 : bu ≤ 1000000000) :
    Calls Try.prog 34 #[.int .i64 r, .int .i64 bu, .int .i64 now] w fun e w' => e = .returned (bk7 r (bu * 1000000000) (bu * 1000000000) now 0 0 0) ∧ Below w.heap.size w w' := by
  go_enter Try.func34, Try.ntmps34
  go_wp2_with fail
  refine bodyPost_ret (v := bk7 r (bu * 1000000000) (bu * 1000000000) now 0 0 0) (results_one Try.results34 _ _ w.heap.size _ rfl (load68 (heap_alloc_new _ _) rfl)) rfl ⟨rfl, bel1 w _⟩
set_option maxRecDepth 20000 in
set_option maxHeartbeats 4000000 in
theorem put_full (T : Nat) (sv : Value) (m : List (Nat × Bk)) (nm : List UInt8) (r bu ho ti tk rf cs : Int) (w : World) (h : PR w T sv m) (hl : m.length = 16) (hf : fnd m nm = none) :
    Calls Try.prog 33 #[.pointer (some ⟨T, 0, none⟩), .string (tx nm), bk7 r bu ho ti tk rf cs] w fun e w' => e = .returned (.int .i64 7) ∧ Below w.heap.size w w' := by
  have HP : Hid (∀ W : World, Below w.heap.size w W → W.cell? ⟨T, 0, none⟩ = some sv ∧ Calls Try.prog 46 #[.pointer (some ⟨T, 0, none⟩), .string (tx nm)] W fun e w' => e = .returned (.tuple #[.int .i64 (plI (nms m) nm : Nat), .bool false]) ∧ w' = W) := fun W hb => by
    have hW := h.at' fun q hq => hb.block q (h.lt q hq)
    have := place_any T sv (pts m) (nms m) nm W hW.cell hW.row hW.nam hW.up (by simp [pts, hl])
    rw [fnd_none hf] at this
    exact ⟨hW.cell, this⟩
  obtain ⟨sa, cap, hv⟩ := own_slice h.row
  have hlen : (pts m).length = 16 := by simp [pts, hl]
  rw [hlen] at hv
  subst hv
  clear h hl hf hlen
  unfold bk7
  go_enter Try.func33, Try.ntmps33
  have d0 := (HP.out _ (bel1 w (.cells #[.int .i64 r, .int .i64 bu, .int .i64 ho, .int .i64 ti, .int .i64 tk, .int .i64 rf, .int .i64 cs] 68))).1
  go_wp2_with (go_at_call 46; refine (HP.out _ (bel1 w _)).2.mono ?_; rintro e w1 ⟨rfl, hw1⟩; rw [hw1]; clear hw1)
  go_ret
  exact ⟨rfl, bel1 w _⟩
end Go.Proofs.Ytpobfcmbbabchaa
