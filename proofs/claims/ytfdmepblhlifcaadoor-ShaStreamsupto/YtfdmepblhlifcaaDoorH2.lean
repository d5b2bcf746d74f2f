/- A new stream; where it is. -/
import Derived.Test.YtfdmepblhlifcaaDoorH1
import Derived.Test.YtfdmepblhlifcaaDoorE5
namespace Go.Proofs.YtfdmepblhlifcaaDoor
open Go.RowKit
set_option linter.unusedVariables false
set_option linter.unusedSimpArgs false

/-- All blocks below B but one lie as they lay. -/
structure Bx (p B : Nat) (w w' : World) : Prop where
  os : w'.os = w.os
  tape : w'.tape = w.tape
  output : w'.output = w.output
  size : w.heap.size ≤ w'.heap.size
  block : ∀ k, k < B → k ≠ p → w'.heap[k]? = w.heap[k]?
theorem Bx.refl (p B : Nat) (w : World) : Bx p B w w := ⟨rfl, rfl, rfl, Nat.le_refl _, fun _ _ _ => rfl⟩
theorem Bx.trans {p B : Nat} {u v w : World} (h : Bx p B u v) (k : Bx p B v w) : Bx p B u w :=
  ⟨k.os.trans h.os, k.tape.trans h.tape, k.output.trans h.output, Nat.le_trans h.size k.size, fun i hi hp => (k.block i hi hp).trans (h.block i hi hp)⟩
theorem Bx.of {p B : Nat} {w w' : World} (h : Below B w w') : Bx p B w w' := ⟨h.os, h.tape, h.output, h.size, fun k hk _ => h.block k hk⟩
theorem Bx.below {p B C : Nat} {w w' : World} (h : Bx p B w w') (hp : C ≤ p) (hB : C ≤ B) : Below C w w' := ⟨h.os, h.tape, h.output, h.size, fun k hk => h.block k (by omega) (by omega)⟩
theorem Bx.setCell (p B : Nat) (w : World) (k : Nat) (v : Value) : Bx p B w (w.setCell ⟨p, k, none⟩ v) :=
  ⟨rfl, rfl, rfl, by simp, fun i _ hi => Below.heap_setCell _ _ _ _ (by exact hi)⟩
theorem Bx.setRow (p B : Nat) (w : World) (cs : Array Value) : Bx p B w (w.setRow p cs) :=
  ⟨rfl, rfl, rfl, by simp, fun i _ hi => setRow_other _ _ _ _ hi⟩
theorem Bx.drew (p B : Nat) (w : World) : Bx p B w w.drew := ⟨rfl, rfl, rfl, Nat.le_refl _, fun _ _ _ => rfl⟩

set_option maxRecDepth 20000 in
set_option maxHeartbeats 2000000 in
theorem new_any (w : World) : Calls Tryd.prog 19 #[] w fun e w' => (∃ p, e = .returned (.pointer (some ⟨p, 0, none⟩)) ∧ w.heap.size ≤ p ∧ Str w' p beginI 0 (.slice none 0 0) (List.replicate 64 0) 0) ∧ Below w.heap.size w w' := by
  have hz : ∀ w, (zeroValue 69).run Tryd.prog w = .ok (.agg #[.int .u32 0, .int .u32 0, .int .u32 0, .int .u32 0, .int .u32 0, .int .u32 0, .int .u32 0, .int .u32 0, .int .i64 0, .slice none 0 0, .int .u8 0, .int .u8 0, .int .u8 0, .int .u8 0, .int .u8 0, .int .u8 0, .int .u8 0, .int .u8 0, .int .u8 0, .int .u8 0, .int .u8 0, .int .u8 0, .int .u8 0, .int .u8 0, .int .u8 0, .int .u8 0, .int .u8 0, .int .u8 0, .int .u8 0, .int .u8 0, .int .u8 0, .int .u8 0, .int .u8 0, .int .u8 0, .int .u8 0, .int .u8 0, .int .u8 0, .int .u8 0, .int .u8 0, .int .u8 0, .int .u8 0, .int .u8 0, .int .u8 0, .int .u8 0, .int .u8 0, .int .u8 0, .int .u8 0, .int .u8 0, .int .u8 0, .int .u8 0, .int .u8 0, .int .u8 0, .int .u8 0, .int .u8 0, .int .u8 0, .int .u8 0, .int .u8 0, .int .u8 0, .int .u8 0, .int .u8 0, .int .u8 0, .int .u8 0, .int .u8 0, .int .u8 0, .int .u8 0, .int .u8 0, .int .u8 0, .int .u8 0, .int .u8 0, .int .u8 0, .int .u8 0, .int .u8 0, .int .u8 0, .int .u8 0, .int .i64 0]) w := fun _ => by kernel_rfl
  go_enter Tryd.func19, Tryd.ntmps19
  go_wp2_with (go_at_call 28; refine (begin_any _).mono ?_; rintro e w1 ⟨rfl, hb1⟩; rw [show chainV beginI 0 = #[.int .u32 1779033703, .int .u32 3144134277, .int .u32 1013904242, .int .u32 2773480762, .int .u32 1359893119, .int .u32 2600822924, .int .u32 528734635, .int .u32 1541459225, .int .i64 0] from rfl])
  go_ret
  refine ⟨⟨w1.heap.size, rfl, hb1.size, ?_⟩, hb1.alloc hb1.size _⟩
  exact Go.heap_alloc_new _ _

theorem wf_u32 (x : Int) (h0 : 0 ≤ x) (h1 : x < 4294967296) : (Lit.int .u32 x).wf = true := by
  simp [Lit.wf, IntKind.min, IntKind.max, IntKind.signed, IntKind.bits]
  omega
theorem wf_i64 (x : Int) (h0 : 0 ≤ x) (h1 : x < 9223372036854775807) : (Lit.int .i64 x).wf = true := by
  simp [Lit.wf, IntKind.min, IntKind.max, IntKind.signed, IntKind.bits]
  omega
theorem key_chain (s : List Int) (n : Int) (hs : s.length = 8) (hw : W32 s) (n0 : 0 ≤ n) (n1 : n < 9223372036854775807) : ∃ l, l.length = 8 ∧ Tryd.prog.keyLits 3 54 (chainV s n).toList = some (l ++ [Lit.int .i64 n]) := by
  obtain ⟨a, b, c, d, e, f, g, q, rfl⟩ := len8 hs
  have c51 : Tryd.prog.cellsOf 51 = 1 := by kernel_rfl
  have c52 : Tryd.prog.cellsOf 52 = 8 := by kernel_rfl
  have c54 : Tryd.prog.cellsOf 54 = 9 := by kernel_rfl
  have c2 : Tryd.prog.cellsOf 2 = 1 := by kernel_rfl
  have w0 := fun x hx => wf_u32 x (hw x hx).1 (hw x hx).2
  refine ⟨[.int .u32 a, .int .u32 b, .int .u32 c, .int .u32 d, .int .u32 e, .int .u32 f, .int .u32 g, .int .u32 q], rfl, ?_⟩
  have wa := w0 a (by simp)
  have wb := w0 b (by simp)
  have wc := w0 c (by simp)
  have wd := w0 d (by simp)
  have we := w0 e (by simp)
  have wf := w0 f (by simp)
  have wg := w0 g (by simp)
  have wq := w0 q (by simp)
  have wn := wf_i64 n n0 n1
  simp [Program.keyLits, Tryd.underlying54, Tryd.underlying52, Tryd.underlying51, Tryd.underlying2, c51, c52, c54, c2, chainV, u32s, List.range, List.range.loop, wa, wb, wc, wd, we, wf, wg, wq, wn]
/-- The chain is not the zero one. -/
theorem chain_ne (s : List Int) (n : Int) (hs : s.length = 8) (hw : W32 s) (n0 : 0 ≤ n) (n1 : n < 9223372036854775807) (h : s = beginI ∨ n ≠ 0) (w : World) :
    (Op.equalIn 10000 54 (.agg (chainV s n)) (.agg #[.int .u32 0, .int .u32 0, .int .u32 0, .int .u32 0, .int .u32 0, .int .u32 0, .int .u32 0, .int .u32 0, .int .i64 0])).run Tryd.prog w = .ok false w := by
  rcases h with rfl | h
  · kernel_rfl
  · obtain ⟨l, hl, hk⟩ := key_chain s n hs hw n0 n1
    have hk2 : Tryd.prog.keyLits 3 54 [.int .u32 0, .int .u32 0, .int .u32 0, .int .u32 0, .int .u32 0, .int .u32 0, .int .u32 0, .int .u32 0, .int .i64 0] = some (List.replicate 8 (.int .u32 0) ++ [.int .i64 0]) := by kernel_rfl
    have c54 : Tryd.prog.cellsOf 54 = 9 := by kernel_rfl
    have hf : Value.formed Tryd.prog 54 (.agg (chainV s n)) = true := by
      unfold Value.formed
      simp only [Tryd.underlying54, c54, size_chain, hs]
      rfl
    obtain ⟨r, hr, hiff⟩ := run_equalIn_deep (P := Tryd.prog) 9997 3 54 (by kernel_rfl) w 3 3 (.agg (chainV s n)) (.agg #[.int .u32 0, .int .u32 0, .int .u32 0, .int .u32 0, .int .u32 0, .int .u32 0, .int .u32 0, .int .u32 0, .int .i64 0]) _ _ hf (by kernel_rfl) hk hk2
    have hrf : r = false := by
      cases r with
      | false => rfl
      | true =>
        exfalso
        have e := hiff.1 rfl
        have e2 := List.append_inj' e rfl
        simp at e2
        exact h e2.2
    rw [hrf] at hr
    exact hr
end Go.Proofs.YtfdmepblhlifcaaDoor
