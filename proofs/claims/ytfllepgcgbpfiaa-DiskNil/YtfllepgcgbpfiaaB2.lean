/- The file of the fixed run, crashed. -/
import Derived.Test.YtfllepgcgbpfiaaB1
import Derived.Laws.CopyOwn
import Derived.Laws.MakeOwn
import Derived.LoopN
namespace Go.Proofs.Ytfllepgcgbpfiaa
open Go.RowKit
set_option linter.unusedVariables false
set_option linter.unusedSimpArgs false

theorem size5 : (Try.prog.info? 5).map (·.size) = some 1 := by kernel_rfl
def z8 : Array Value := #[.int .u8 0, .int .u8 0, .int .u8 0, .int .u8 0, .int .u8 0, .int .u8 0, .int .u8 0, .int .u8 0]
def z8a : Array Value := #[.int .u8 97, .int .u8 98, .int .u8 99, .int .u8 0, .int .u8 0, .int .u8 0, .int .u8 0, .int .u8 0]
theorem make8 (w : World) : (Instr.makeSlice 31 (.int .i64 8) (.int .i64 8)).run Try.prog w = .ok (.slice (some ⟨w.heap.size, 0, none⟩) 8 8) (w.alloc (.cells z8 5)) := by
  obtain ⟨i0, hi, hz0, hz1, hz2⟩ := info_parts info5
  have h := run_make (P := Try.prog) w 31 5 i0 _ Try.underlying31 hi hz0 .i64 .i64 8 8 (by decide) (by decide) (by rw [hz2]; decide) (by decide)
  rw [h, hz1]
  have e : madeCells (Value.int .u8 0).cells (Int.toNat 8 * 1) = z8 := by kernel_rfl
  rw [e]
  rfl
set_option maxRecDepth 20000 in
set_option maxHeartbeats 4000000 in
theorem crash_known (F base : Nat) (dv bv : Value) (w : World) (hF : w.heap[F]? = some (.cells #[dv, bv] 80 (0, 0))) (hd : w.ownsRow base 5 1 dv 8 (u8l [97, 98, 99, 100, 101, 102, 103, 104])) (hb : w.ownsRow base 3 1 bv 2 (i64l [3, 5])) (g nc : Nat) (n0 : w.cell? ⟨g, 0, none⟩ = some (.int .i64 0)) (n1 : w.cell? ⟨g, 1, none⟩ = some (.int .i64 2)) (hnc : 2 ≤ nc) (hg : g < w.heap.size) (hbase : base ≤ w.heap.size) (hgF : g ≠ F) :
    Calls Try.prog 43 #[.pointer (some ⟨F, 0, none⟩), .slice (some ⟨g, 0, none⟩) 2 nc] w fun e w' => (∃ v, e = .returned v) ∧ (∃ dv', w'.heap[F]? = some (.cells #[dv', .slice none 0 0] 80 (0, 0)) ∧ w'.ownsRow base 5 1 dv' 7 (u8l [97, 98, 99, 0, 0, 102, 103])) ∧ Kep w w' (fun q => q = F) := by
  have hlt : F < w.heap.size := (Array.getElem?_eq_some_iff.1 hF).1
  obtain ⟨dg, dc, rfl⟩ := own_form hd (by decide)
  obtain ⟨bb, bc, rfl⟩ := own_form hb (by decide)
  obtain ⟨W, hW⟩ : ∃ W, w.alloc (.cells z8 5) = W := ⟨_, rfl⟩
  have hB : Below w.heap.size w W := by rw [← hW]; exact bel1 _ _
  have hWF : W.heap[F]? = some (.cells #[.slice (some ⟨dg, 0, none⟩) 8 dc, .slice (some ⟨bb, 0, none⟩) 2 bc] 80 (0, 0)) := (hB.block _ hlt).trans hF
  have hWd : W.ownsRow base 5 1 (.slice (some ⟨dg, 0, none⟩) 8 dc) 8 (u8l [97, 98, 99, 100, 101, 102, 103, 104]) := own_kept hd fun q _ hq => hB.block q hq
  have hWb : W.ownsRow base 3 1 (.slice (some ⟨bb, 0, none⟩) 2 bc) 2 (i64l [3, 5]) := own_kept hb fun q _ hq => hB.block q hq
  have hWk : W.heap[w.heap.size]? = some (.cells z8 5 (0, 0)) := by rw [← hW]; exact Go.heap_alloc_new _ _
  have f0 : w.cell? ⟨F, 0, none⟩ = some (.slice (some ⟨dg, 0, none⟩) 8 dc) := by rw [cell_of_row _ _ _ _ _ _ hF]; rfl
  have F0 : W.cell? ⟨F, 0, none⟩ = some (.slice (some ⟨dg, 0, none⟩) 8 dc) := by rw [cell_of_row _ _ _ _ _ _ hWF]; rfl
  have F1 : W.cell? ⟨F, 1, none⟩ = some (.slice (some ⟨bb, 0, none⟩) 2 bc) := by rw [cell_of_row _ _ _ _ _ _ hWF]; rfl
  have B0 : W.cell? ⟨bb, 0, none⟩ = some (.int .i64 3) := i64_at (bg := [3, 5]) hWb 0 (by decide)
  have B1 : W.cell? ⟨bb, 1, none⟩ = some (.int .i64 5) := i64_at (bg := [3, 5]) hWb 1 (by decide)
  have hmk := make8 w
  rw [hW] at hmk
  have hcap := own_cap hd
  have hcb := own_cap hb
  have HD : Hid (W.ownsRow base 5 1 (.slice (some ⟨dg, 0, none⟩) 8 dc) 8 (u8l [97, 98, 99, 100, 101, 102, 103, 104])) := hWd
  have HK : Hid (W.heap[w.heap.size]? = some (.cells z8 5 (0, 0))) := hWk
  have HF : Hid (W.heap[F]? = some (.cells #[.slice (some ⟨dg, 0, none⟩) 8 dc, .slice (some ⟨bb, 0, none⟩) 2 bc] 80 (0, 0))) := hWF
  have hc8 : (8 : Int) ≤ (dc : Int) := by omega
  have hc2 : (2 : Int) ≤ (bc : Int) := by omega
  have HBW : Hid (W.ownsRow base 3 1 (.slice (some ⟨bb, 0, none⟩) 2 bc) 2 (i64l [3, 5])) := hWb
  have HDw : Hid (w.ownsRow base 5 1 (.slice (some ⟨dg, 0, none⟩) 8 dc) 8 (u8l [97, 98, 99, 100, 101, 102, 103, 104])) := hd
  clear hW hF hd hb hWF hWd hWb hWk
  obtain ⟨k, hk⟩ : ∃ k, w.heap.size = k := ⟨_, rfl⟩
  rw [hk] at HK hmk hB
  have hsrc : ∀ j v, (u8l [97, 98, 99])[j]? = some v → W.cell? ((⟨dg, 0, none⟩ : Addr).add j) = some v := fun j v hv => by
    have hj : j < 3 := (List.getElem?_eq_some_iff.1 hv).1
    rw [Addr.add_mid, Nat.zero_add, HD.out.cellAt j (by omega), ← hv]
    match j, hj with
    | 0, _ => rfl
    | 1, _ => rfl
    | 2, _ => rfl
  have hcp := run_copy_row (P := Try.prog) W 31 31 3 5 k 0 8 8 ⟨dg, 0, none⟩ 3 dc z8 5 (u8l [97, 98, 99]) Try.underlying31 size5 HK.out (by decide) hsrc (by decide) (u8l_one _)
  obtain ⟨W2, hW2⟩ : ∃ W2, W.setRow k (z8.toList.take 0 ++ u8l [97, 98, 99] ++ z8.toList.drop (0 + (u8l [97, 98, 99]).length)).toArray = W2 := ⟨_, rfl⟩
  rw [hW2] at hcp
  have hcp' : (Builtin.copy_ #[31, 31] 3 #[.slice (some ⟨k, 0, none⟩) 8 8, .slice (some ⟨dg, 0, none⟩) 3 dc]).run Try.prog W = .ok (.int .i64 3) W2 := hcp
  have hK2 : W2.heap[k]? = some (.cells z8a 5 (0, 0)) := by rw [← hW2]; exact setRow_heap W k _ _ 5 _ HK.out
  have hO2 : ∀ q, q ≠ k → W2.heap[q]? = W.heap[q]? := fun q hq => by rw [← hW2]; exact setRow_other W k q _ hq
  have hS2 : W2.heap.size = W.heap.size ∧ W2.os = W.os ∧ W2.tape = W.tape ∧ W2.output = W.output := by rw [← hW2]; exact ⟨by simp [World.setRow], rfl, rfl, rfl⟩
  have hc2' : ∀ b i v, b ≠ k → W.cell? ⟨b, i, none⟩ = some v → W2.cell? ⟨b, i, none⟩ = some v := fun b i v hb hv => by
    have e : W2.cell? ⟨b, i, none⟩ = W.cell? ⟨b, i, none⟩ := by unfold World.cell?; rw [hO2 b hb]
    rw [e]; exact hv
  have hFk : F ≠ k := by omega
  have hbk : bb ≠ k := ne_tag (own_tag HBW.out rfl).choose_spec HK.out (by decide)
  have hdk : dg ≠ k := by have h1 := (HDw.out.lt dg rfl).2; omega
  have hgk : g ≠ k := by omega
  have G0 := hc2' F 0 _ hFk F0
  have G1 := hc2' F 1 _ hFk F1
  have G2 := hc2' bb 0 _ hbk B0
  have G3 := hc2' bb 1 _ hbk B1
  have N0 := hc2' g 0 _ hgk ((hB.cell (p := ⟨g, 0, none⟩) (show g < k by omega)).trans n0)
  have N1 := hc2' g 1 _ hgk ((hB.cell (p := ⟨g, 1, none⟩) (show g < k by omega)).trans n1)
  have HE : ∀ (V : World), V.heap = W2.heap → ∀ (i : Nat), i < 2 → Calls Try.prog 60 #[.pointer (some ⟨F, 0, none⟩), .int .i64 (i : Int)] V fun e w' => e = .returned (.int .i64 (endI 8 [3, 5] i)) ∧ ∃ n, w' = V.drewN n := fun V hV i hi => by
    refine (end_any F _ dc 8 base i _ [3, 5] V (by rw [hV]; exact (hO2 F hFk).trans HF.out) (own_at (w := W) HBW.out fun q hq => by
      have e : bb = q := by simpa [Value.ownBlock] using hq
      rw [hV]
      exact hO2 q (e ▸ hbk)) hi (by decide)).mono ?_
    rintro e w' ⟨rfl, rfl⟩
    exact ⟨rfl, 0, rfl⟩
  have HE0 : Hid (∀ (V : World), V.heap = W2.heap → Calls Try.prog 60 #[.pointer (some ⟨F, 0, none⟩), .int .i64 0] V fun e w' => e = .returned (.int .i64 5) ∧ ∃ n, w' = V.drewN n) := fun V hV => HE V hV 0 (by decide)
  have HE1 : Hid (∀ (V : World), V.heap = W2.heap → Calls Try.prog 60 #[.pointer (some ⟨F, 0, none⟩), .int .i64 1] V fun e w' => e = .returned (.int .i64 8) ∧ ∃ n, w' = V.drewN n) := fun V hV => HE V hV 1 (by decide)
  clear HE
  clear hcp hsrc hW2
  go_enter Try.func43, Try.ntmps43
  go_upto_region 5 with fail
  go_quiet (fail)
  go_wp2
  obtain ⟨W3, hW3⟩ : ∃ W3, W2.drewN nq = W3 := ⟨_, rfl⟩
  have g2 : W3.cell? ⟨bb, 0, none⟩ = some (.int .i64 3) := by rw [← hW3]; exact G2
  have g3 : W3.cell? ⟨bb, 1, none⟩ = some (.int .i64 5) := by rw [← hW3]; exact G3
  have g0 : W3.cell? ⟨F, 0, none⟩ = some (.slice (some ⟨dg, 0, none⟩) 8 dc) := by rw [← hW3]; exact G0
  have m0 : W3.cell? ⟨g, 0, none⟩ = some (.int .i64 0) := by rw [← hW3]; exact N0
  have m1 : W3.cell? ⟨g, 1, none⟩ = some (.int .i64 2) := by rw [← hW3]; exact N1
  have HH : Hid (W3.heap = W2.heap) := by show _ = _; rw [← hW3]; rfl
  have HQ3 : Hid (W3.os = W2.os ∧ W3.tape = W2.tape ∧ W3.output = W2.output) := by rw [← hW3]; exact ⟨rfl, rfl, rfl⟩
  rw [hW3]
  clear hW3 G0 G1 G2 G3 N0 N1 F0 F1 B0 B1 f0 n0 n1 hmk hcp' hc2'
  refine wp_loop_rounds 3 ?_
  rw [rounds_succ]
  go_wp2
  go_quiet (first | (go_at_call 60; refine Calls.quiet_of (HE0.out _ ?_); exact HH.out))
  go_wp2
  obtain ⟨W4, hW4⟩ : ∃ W4, W3.drewN nq = W4 := ⟨_, rfl⟩
  have r3 : W4.cell? ⟨bb, 1, none⟩ = some (.int .i64 5) := by rw [← hW4]; exact g3
  have r0 : W4.cell? ⟨F, 0, none⟩ = some (.slice (some ⟨dg, 0, none⟩) 8 dc) := by rw [← hW4]; exact g0
  have r1 : W4.cell? ⟨g, 1, none⟩ = some (.int .i64 2) := by rw [← hW4]; exact m1
  have HH4 : Hid (W4.heap = W2.heap) := by show _ = _; rw [← hW4]; exact HH.out
  have HQ4 : Hid (W4.os = W2.os ∧ W4.tape = W2.tape ∧ W4.output = W2.output) := by rw [← hW4]; exact HQ3.out
  rw [hW4]
  clear hW4 g2 g3 g0 m0 m1
  rw [rounds_succ]
  go_wp2
  go_quiet (first | (go_at_call 60; refine Calls.quiet_of (HE1.out _ ?_); exact HH4.out))
  go_upto_region 10 with fail
  obtain ⟨W5, hW5⟩ : ∃ W5, W4.drewN nq = W5 := ⟨_, rfl⟩
  have t0 : W5.cell? ⟨F, 0, none⟩ = some (.slice (some ⟨dg, 0, none⟩) 8 dc) := by rw [← hW5]; exact r0
  have HH5 : Hid (W5.heap = W2.heap) := by show _ = _; rw [← hW5]; exact HH4.out
  have HQ5 : Hid (W5.os = W2.os ∧ W5.tape = W2.tape ∧ W5.output = W2.output) := by rw [← hW5]; exact HQ4.out
  rw [hW5]
  clear hW5 r0 r1 r3
  have HK5 : Hid (W5.heap[k]? = some (.cells z8a.toList.toArray 5 (0, 0))) := by show _ = _; rw [HH5.out]; exact hK2
  have HD5 : Hid (W5.ownsRow base 5 1 (.slice (some ⟨dg, 0, none⟩) 8 dc) 8 (u8l [97, 98, 99, 100, 101, 102, 103, 104])) := own_at (w := W) HD.out fun q hq => by
    have e : dg = q := by simpa [Value.ownBlock] using hq
    rw [HH5.out]
    exact hO2 q (e ▸ hdk)
  have HSR : Hid (∀ j v, (u8l [102, 103])[j]? = some v → W5.cell? ((⟨dg, 5, none⟩ : Addr).add j) = some v) := fun j v hv => by
    have hj : j < 2 := (List.getElem?_eq_some_iff.1 hv).1
    rw [Addr.add_mid, HD5.out.cellAt (5 + j) (by omega), ← hv]
    match j, hj with
    | 0, _ => rfl
    | 1, _ => rfl
  have h7 : (7 : Int) ≤ (dc : Int) := by omega
  have h7' : ¬ ((dc : Int) < 7) := by omega
  have h7n : 7 ≤ dc := by omega
  have h5n : ¬ dc = 5 := by omega
  have hw7 : IntKind.i64.wrap 7 = 7 := by decide
  have h7d : decide ((dc : Int) < 7) = false := by simpa using h7
  go_region_law (refine step_copy_splice rfl (.tmp 74) (.tmp 83) 31 31 rfl 5 Try.underlying31 size5 (some ⟨k, 5, none⟩) (some ⟨dg, 5, none⟩) 3 3 2 (dc - 5) (by simp [Act.eval, Act.put]) (by simp [Act.eval, Act.put]) k 5 z8a.toList 5 HK5.out (u8l [102, 103]) (by decide) (fun _ => ⟨rfl, _, rfl, HSR.out⟩) (by decide) (u8l_one _) k W5 (by repeat (first | exact Below.refl _ _ | refine Below.drew ?_)) (Nat.le_refl _) ?_; intro w6 hg6 hb6)
  have hu2 : (u8l [102, 103]).length = 2 := rfl
  rw [hu2]
  have HX6 : Hid (w6.heap[F]? = some (.cells #[.slice (some ⟨dg, 0, none⟩) 8 dc, .slice (some ⟨bb, 0, none⟩) 2 bc] 80 (0, 0))) := (hb6.block F (by omega)).trans (by rw [HH5.out]; exact (hO2 F hFk).trans HF.out)
  have HK6 : Hid (w6.heap[k]? = some (.cells (u8l [97, 98, 99, 0, 0, 102, 103, 0]).toArray 5 (0, 0))) := hg6
  have HB6 : Hid (Below k W5 w6) := hb6
  have HS6 : Hid (Src w6 (.slice (some ⟨k, 0, none⟩) 7 8) [97, 98, 99, 0, 0, 102, 103]) := .inr ⟨⟨k, 0, none⟩, 8, rfl, by decide, fun j u hu => by
    have hj : j < 7 := (List.getElem?_eq_some_iff.1 hu).1
    rw [Addr.add_mid, Nat.zero_add, cell_of_row _ _ _ _ _ _ HK6.out, ← hu]
    match j, hj with
    | 0, _ => rfl
    | 1, _ => rfl
    | 2, _ => rfl
    | 3, _ => rfl
    | 4, _ => rfl
    | 5, _ => rfl
    | 6, _ => rfl⟩
  have hw72 : IntKind.i64.wrap (5 + ((2 : Nat) : Int)) = 7 := by decide
  rw [hw72]
  clear hg6 hb6 t0 h7 h7' h7n h5n h7d
  go_wp2
  rw [rounds_succ]
  go_wp2_with (go_at_call 49; refine (clone_any _ _ _ HS6.out (by decide)).mono ?_; rintro e w7 ⟨⟨v7, rfl, ho7⟩, hb7⟩; (obtain ⟨va, vc, hv7⟩ := own_slice ho7); subst hv7; (have HO7 : Hid (w7.ownsRow w6.heap.size 5 1 (.slice va 7 vc) 7 (u8l [97, 98, 99, 0, 0, 102, 103])) := ho7); (have HX7 : Hid (w7.heap[F]? = some (.cells #[.slice (some ⟨dg, 0, none⟩) 8 dc, .slice (some ⟨bb, 0, none⟩) 2 bc] 80 (0, 0))) := (hb7.block F (Array.getElem?_eq_some_iff.1 HX6.out).1).trans HX6.out); (have HB7 : Hid (Below w6.heap.size w6 w7) := hb7); (have s0 : w7.cell? ⟨F, 0, none⟩ = some (.slice (some ⟨dg, 0, none⟩) 8 dc) := (by rw [cell_of_row _ _ _ _ _ _ HX7.out]; rfl)); (have s1 : w7.frozen? ⟨F, 0, none⟩ = false := frozen_of_row _ _ 0 _ _ HX7.out); (have s2 : w7.cell? ⟨F, 1, none⟩ = some (.slice (some ⟨bb, 0, none⟩) 2 bc) := (by rw [cell_of_row _ _ _ _ _ _ HX7.out]; rfl)); (have s3 : w7.frozen? ⟨F, 1, none⟩ = false := frozen_of_row _ _ 1 _ _ HX7.out); clear ho7 hb7)
  go_end0
  obtain ⟨o1, o2, o3⟩ := HQ5.out
  have b6 := HB6.out
  have b7 := HB7.out
  have z5 : W5.heap.size = W2.heap.size := by rw [HH5.out]
  have z6 := b6.size
  have z7 := b7.size
  have z1 := hB.size
  have hkk : k < W.heap.size := (Array.getElem?_eq_some_iff.1 HK.out).1
  refine ⟨⟨_, rfl⟩, ⟨.slice va 7 vc, row_set _ (row_set _ HX7.out), ?_⟩, ⟨?_, ?_, ?_, ?_, ?_⟩⟩
  · refine own_low (base := w6.heap.size) ?_ (by omega)
    refine own_at HO7.out fun q hq => ?_
    obtain ⟨cur, hc⟩ := own_tag HO7.out hq
    have hqF : q ≠ F := ne_tag hc HX7.out (by decide)
    rw [Below.heap_setCell _ _ _ _ hqF, Below.heap_setCell _ _ _ _ hqF]
  · exact b7.os.trans (b6.os.trans (o1.trans (hS2.2.1.trans hB.os)))
  · exact b7.tape.trans (b6.tape.trans (o2.trans (hS2.2.2.1.trans hB.tape)))
  · exact b7.output.trans (b6.output.trans (o3.trans (hS2.2.2.2.trans hB.output)))
  · simp
    omega
  · intro q h1 h2
    have hqF : q ≠ F := h2
    have hqk : q < k := by omega
    rw [Below.heap_setCell _ _ _ _ hqF, Below.heap_setCell _ _ _ _ hqF, b7.block q (by omega), b6.block q hqk, HH5.out, hO2 q (by omega)]
    exact hB.block q hqk
end Go.Proofs.Ytfllepgcgbpfiaa
