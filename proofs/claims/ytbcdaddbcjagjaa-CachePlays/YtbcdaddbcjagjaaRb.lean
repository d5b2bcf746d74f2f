/- The model's cache, empty: Get, Forget. -/
import Derived.Test.YtbcdaddbcjagjaaRa
namespace Go.Proofs.Ytbcdaddbcjagjaa
open Go.RowKit
set_option linter.unusedVariables false
set_option linter.unusedSimpArgs false

set_option maxRecDepth 20000 in
set_option maxHeartbeats 2000000 in
theorem rcount0 {w : World} {R : Nat} {lv : Value} (h : RB w R lv (.slice none 0 0)) (s : List UInt8) : Calls Try.prog 36 #[.pointer (some ⟨R, 0, none⟩), .string (tx s)] w fun e w' => e = .returned (.int .i64 0) ∧ ∃ g cap, RB w' R lv (.slice (some ⟨g, 0, none⟩) 1 cap) ∧ (1 : Int) ≤ (cap : Int) ∧ w.heap.size ≤ g ∧ w'.cell? ⟨g, 2, none⟩ = some (.int .i64 0) ∧ w'.frozen? ⟨g, 2, none⟩ = false ∧ FrR R w w' := by
  obtain ⟨-, -, c2, -⟩ := h.cells
  obtain ⟨W, hW⟩ : ∃ W, w.alloc (.cells #[.string (tx s), .int .i64 0, .int .i64 0] 46) = W := ⟨_, rfl⟩
  have hbW : Below w.heap.size w W := by rw [← hW]; exact bel1' _ _
  have hgW : W.heap[w.heap.size]? = some (.cells #[.string (tx s), .int .i64 0, .int .i64 0] 46 (0, 0)) := by rw [← hW]; exact heap_alloc_new _ _
  have hlt : R < w.heap.size := (Array.getElem?_eq_some_iff.1 h).1
  obtain ⟨i, hi⟩ : ∃ i, Try.prog.info? 46 = some i := Option.isSome_iff_exists.1 (by kernel_rfl)
  have hz : i.zero = some (.agg #[.string ⟨#[]⟩, .int .i64 0, .int .i64 0]) := by
    have : Try.prog.info? 46 = some i := hi
    have h2 : (Try.prog.info? 46).map (·.zero) = some (some (.agg #[.string ⟨#[]⟩, .int .i64 0, .int .i64 0])) := by kernel_rfl
    rw [this] at h2
    simpa using h2
  have hsz : i.size = 3 := by
    have h2 : (Try.prog.info? 46).map (·.size) = some 3 := by kernel_rfl
    rw [hi] at h2
    simpa using h2
  have hby : i.bytes = 32 := by
    have h2 : (Try.prog.info? 46).map (·.bytes) = some 32 := by kernel_rfl
    rw [hi] at h2
    simpa using h2
  have hlt2 : R < W.heap.size := by have := hbW.size; omega
  have e2 : W.cell? ⟨R, 2, none⟩ = some (.slice none 0 0) := by rw [cell_eq (hbW.block R hlt)]; exact c2
  have HW : Hid (RB W R lv (.slice none 0 0) ∧ Below w.heap.size w W ∧ R < w.heap.size) := ⟨(hbW.block R hlt).trans h, hbW, hlt⟩
  have HNW : Hid (∀ (j : Nat) (u : Value), [.string (tx s), .int .i64 0, .int .i64 0][j]? = some u → W.cell? ((⟨w.heap.size, 0, none⟩ : Addr).add j) = some u) := World.news_of_block hgW
  have HBS : Hid (w.heap.size ≤ W.heap.size) := hbW.size
  clear hbW hgW hlt hlt2 h
  go_enter Try.func36, Try.ntmps36
  go_wp2_with fail
  go_loopw [5] (fun a wx => a = .int .i64 0 ∧ wx = w) (fun a wx => 0)
  case atStart => exact ⟨rfl, rfl⟩
  case round =>
    obtain ⟨rfl, hw⟩ := hrel
    rw [hw]
    clear hw
    go_wp2_with (at_builtin; (refine wpList_append_own _ rfl (.tmp 30) (.tmp 33) 56 rfl w.heap.size 46 i (.agg #[.string ⟨#[]⟩, .int .i64 0, .int .i64 0]) 3 32 under56 hi hz hsz hby rfl (by decide) (.slice none 0 0) 0 [] rfl (World.ownsRow_nil _ _ _ _) ⟨w.heap.size, 0, none⟩ 1 1 [.string (tx s), .int .i64 0, .int .i64 0] rfl rfl HNW.out (by simp [Value.oneCell']) (by decide) (by decide) HBS.out ?_; intro v' w' ho' hg' _; (have HO : Hid (w'.ownsRow w.heap.size 46 3 v' 1 [.string (tx s), .int .i64 0, .int .i64 0]) := ho'); (have HG : Hid (W.grownBy w' none) := hg'); obtain ⟨g, cap, hvv⟩ := own_form ho' (by omega); subst hvv; (have d2 := (RB.cells (w := w') (R := R) (lv := lv) (cv := .slice none 0 0) (by have := hg'.block R (by have := HBS.out; have := HW.out.2.2; omega) (by simp [Value.ownBlock]); exact this.trans HW.out.1)).2.2.1); (have df := (RB.cells (w := w') (R := R) (lv := lv) (cv := .slice none 0 0) (by have := hg'.block R (by have := HBS.out; have := HW.out.2.2; omega) (by simp [Value.ownBlock]); exact this.trans HW.out.1)).2.2.2 2); clear ho' hg'))
    go_ret
    obtain ⟨q1, q2, q3⟩ := HW.out
    have hO : w'.ownsRow w.heap.size 46 3 (.slice (some ⟨g, 0, none⟩) 1 cap) 1 [.string (tx s), .int .i64 0, .int .i64 0] := HO.out
    have hbs := HBS.out
    obtain ⟨g1, g2⟩ := own_lt hO
    have hcp := own_cap hO
    have hRw : RB w' R lv (.slice none 0 0) := (HG.out.block R (by omega) (by simp)).trans q1
    have hbl : ∀ q, q < w.heap.size → w'.heap[q]? = w.heap[q]? := fun q hq => (HG.out.block q (by omega) (by simp)).trans (q2.block q hq)
    refine ⟨rfl, g, cap, row_set _ hRw, by omega, g1, ?_, ?_, ⟨HG.out.os.trans q2.os, HG.out.tape.trans q2.tape, HG.out.output.trans q2.output, by have := HG.out.size; simp; omega, fun q hq hn => (Below.heap_setCell _ _ _ _ hn).trans (hbl q hq), fun q hq => .inl hq⟩⟩
    · rw [set_off _ (fun e => by omega)]
      exact (hO.cellAt 2 (by omega)).trans rfl
    · rw [World.frozen?_setCell]
      exact hO.frozenAt 2
set_option maxRecDepth 20000 in
set_option maxHeartbeats 2000000 in
theorem rget0 {w : World} {R : Nat} (h : RB w R (.slice none 0 0) (.slice none 0 0)) (s k st : List UInt8) : Calls Try.prog 33 #[.pointer (some ⟨R, 0, none⟩), .string (tx s), .string (tx k), .string (tx st)] w fun e w' => ∃ t o, e = .returned (.tuple #[.string t, .bool o]) ∧ FrR R w w' := by
  have HF : Hid (Calls Try.prog 44 #[.pointer (some ⟨R, 0, none⟩), .string (tx s), .string (tx k)] w fun e w' => e = .returned (.int .i64 (-1)) ∧ w' = w) := rfind0 h s k
  have HC : Hid (Calls Try.prog 36 #[.pointer (some ⟨R, 0, none⟩), .string (tx s)] w fun e w' => e = .returned (.int .i64 0) ∧ Hid (∃ g cap, RB w' R (.slice none 0 0) (.slice (some ⟨g, 0, none⟩) 1 cap) ∧ (1 : Int) ≤ (cap : Int) ∧ w.heap.size ≤ g ∧ w'.cell? ⟨g, 2, none⟩ = some (.int .i64 0) ∧ w'.frozen? ⟨g, 2, none⟩ = false ∧ FrR R w w')) := rcount0 h s
  have hlt : R < w.heap.size := (Array.getElem?_eq_some_iff.1 h).1
  have HLT : Hid (R < w.heap.size) := hlt
  clear h hlt
  go_enter Try.func33, Try.ntmps33
  go_upto_region 4 with (first | (go_at_call 44; refine HF.out.mono ?_; rintro e w1 ⟨rfl, hw1⟩; rw [hw1]; clear hw1) | (go_at_call 36; refine HC.out.mono ?_; rintro e w2 ⟨rfl, H2⟩))
  obtain ⟨g, cap, r1, r2, r3, r4, r5, r6⟩ := H2.out
  obtain ⟨-, -, c2, -⟩ := r1.cells
  have HI : Hid (w.heap.size ≤ g ∧ FrR R w w2) := ⟨r3, r6⟩
  have hne : ¬ R = g := by have := HLT.out; omega
  have hne' : ¬ g = R := fun e => hne e.symm
  clear r1 r3 r6 H2 HF HC
  go_region
  all_goals
    go_wp2_with fail
    go_ret2
    obtain ⟨k1, k2⟩ := HI.out
    exact ⟨_, _, rfl, ⟨k2.os, k2.tape, k2.output, by have := k2.size; simpa using this, fun q hq hn => (Below.heap_setCell _ _ _ _ (show q ≠ g by omega)).trans (k2.block q hq hn), fun q hq => k2.grow q hq⟩⟩
theorem rforget0 {w : World} {R : Nat} {cv : Value} (h : RB w R (.slice none 0 0) cv) (s : List UInt8) : Calls Try.prog 34 #[.pointer (some ⟨R, 0, none⟩), .string (tx s)] w fun e w' => ∃ r, e = .returned (.int .i64 r) ∧ FrR R w w' := by
  obtain ⟨-, c1, -, cf⟩ := h.cells
  have cf1 := cf 1
  clear cf h
  go_enter Try.func34, Try.ntmps34
  go_wp2_with fail
  go_loopw [5, 6] (fun a b wx => a = .slice none 0 0 ∧ b = .int .i64 0 ∧ wx = w) (fun a b wx => 0)
  case atStart => exact ⟨rfl, rfl, rfl⟩
  case round =>
    obtain ⟨rfl, rfl, hw⟩ := hrel
    rw [hw]
    go_wp2_with fail
    go_ret
    exact ⟨_, rfl, ⟨rfl, rfl, rfl, by simp, fun q hq hn => Below.heap_setCell _ _ _ _ hn, fun q hq => .inl hq⟩⟩
end Go.Proofs.Ytbcdaddbcjagjaa
