/- A table of fixed turns: Step. -/
import Derived.Test.YtkigagglkmdccaaTg
namespace Go.Proofs.Ytkigagglkmdccaa
open Go.RowKit
set_option linter.unusedVariables false
set_option linter.unusedSimpArgs false

set_option maxRecDepth 20000 in
set_option maxHeartbeats 4000000 in
theorem tstep_any {w : World} {T : Nat} {a : Pa} {x : Fx} (h : TR w T a x) (k : Nat) (hk : x.slot = k) (hk2 : k ≤ 1000000) (hl : x.ns.length ≤ 16) (ho : Jok x.J) :
    Calls Try.prog 14 #[.pointer (some ⟨T, 0, none⟩)] w fun e w' => e = .returned (.agg #[.int .i64 k, .string (tx (turnF x k)), .int .i64 (srvJ x.J (turnF x k)).1.1, .int .i64 (srvJ x.J (turnF x k)).1.2.1, .bool (srvJ x.J (turnF x k)).1.2.2.1, .bool (srvJ x.J (turnF x k)).1.2.2.2]) ∧ ∃ a', TR w' T a' { x with slot := (k : Int) + 1, J := (srvJ x.J (turnF x k)).2 } ∧ Fr (TF a) (TF a') w w' := by
  obtain ⟨W0, hW0⟩ : ∃ W, w.alloc (.cells #[.int .i64 0, .string { data := #[] }, .int .i64 0, .int .i64 0, .bool false, .bool false] 40) = W := ⟨_, rfl⟩
  have hb0 : Below w.heap.size w W0 := by rw [← hW0]; exact bel1' _ _
  have hg0 : W0.heap[w.heap.size]? = some (.cells #[.int .i64 0, .string { data := #[] }, .int .i64 0, .int .i64 0, .bool false, .bool false] 40 (0, 0)) := by rw [← hW0]; exact heap_alloc_new _ _
  have hs0 : W0.heap.size = w.heap.size + 1 := by rw [← hW0]; simp
  have hT0 : TR W0 T a x := (h.newer hb0).1
  obtain ⟨c0, c1, -, -, -⟩ := hT0.cells
  rw [hk] at c1
  obtain ⟨tn, htn⟩ : ∃ tn, turnF x k = tn := ⟨_, rfl⟩
  rw [htn]
  obtain ⟨sj, hsj⟩ : ∃ sj, srvJ x.J tn = sj := ⟨_, rfl⟩
  rw [hsj]
  obtain ⟨⟨id, cost, dn, so⟩, J'⟩ := sj
  have HSB : Hid (∀ {w : World} {B : Nat} {F : Nat → Prop} (h : MP w B F x.J), Calls Try.prog 39 #[.map (some B), .string (tx tn)] w fun e w' => e = .returned (.tuple #[.agg #[.int .i64 id, .int .i64 cost], .bool dn, .bool so]) ∧ ∃ F', MP w' B F' J' ∧ Fr F F' w w') := fun h => by
    have := mserve_both h tn ho
    rw [hsj] at this
    exact this
  clear hsj
  go_enter Try.func14, Try.ntmps14
  go_upto_region 4 with fail
  clear hW0 c0 c1
  obtain ⟨W1, hW1⟩ : ∃ W, W0.alloc (.cells #[.int .i64 k, .string { data := #[] }, .int .i64 0, .int .i64 0, .bool false, .bool false] 40) = W := ⟨_, rfl⟩
  have hb1' : Below W0.heap.size W0 W1 := by rw [← hW1]; exact bel1' _ _
  have hb1 : Below w.heap.size w W1 := hb0.trans (hb1'.mono hb0.size)
  have hg1 : W1.heap[w.heap.size + 1]? = some (.cells #[.int .i64 k, .string { data := #[] }, .int .i64 0, .int .i64 0, .bool false, .bool false] 40 (0, 0)) := by rw [← hW1, ← hs0]; exact heap_alloc_new _ _
  have hr1 : W1.heap[w.heap.size]? = some (.cells #[.int .i64 0, .string { data := #[] }, .int .i64 0, .int .i64 0, .bool false, .bool false] 40 (0, 0)) := (hb1'.block _ (by omega)).trans hg0
  have hT1 : TR W1 T a x := (h.newer hb1).1
  have HT : Hid (Calls Try.prog 18 #[.pointer (some ⟨T, 0, none⟩)] W1 fun e w' => e = .returned (.string (tx (turnF x k))) ∧ Below W1.heap.size W1 w') := turn_any hT1 k hk hl
  obtain ⟨e0, -, -, -, -⟩ := hT1.cells
  have HH : Hid (TR w T a x ∧ Below w.heap.size w W1 ∧ W1.heap[w.heap.size + 1]? = some (.cells #[.int .i64 k, .string { data := #[] }, .int .i64 0, .int .i64 0, .bool false, .bool false] 40 (0, 0)) ∧ W1.heap[w.heap.size]? = some (.cells #[.int .i64 0, .string { data := #[] }, .int .i64 0, .int .i64 0, .bool false, .bool false] 40 (0, 0)) ∧ TR W1 T a x) := ⟨h, hb1, hg1, hr1, hT1⟩
  clear h hb0 hg0 hT0 hb1' hb1 hg1 hr1 hT1 hs0
  rw [htn] at HT
  rw [hW1]
  clear hW1
  go_upto_region 5 with fail
  have HF : Hid (∀ w2, Below W1.heap.size W1 w2 → w2.cell? ⟨w.heap.size + 1, 1, none⟩ = some (.string { data := #[] }) ∧ w2.frozen? ⟨w.heap.size + 1, 1, none⟩ = false) := fun w2 hb => by
    have e := (hb.block _ (Array.getElem?_eq_some_iff.1 HH.out.2.2.1).1).trans HH.out.2.2.1
    exact ⟨by rw [cell_of_row _ _ _ _ _ _ e]; rfl, by simp [World.frozen?, e]⟩
  go_upto_region 6 with (go_at_call 18; refine HT.out.mono ?_; rintro e w2 ⟨rfl, hb2⟩; obtain ⟨y1, y2⟩ := HF.out w2 hb2)
  clear y1 y2 HF HT e0
  obtain ⟨h, hb1, hg1, hr1, hT1⟩ := HH.out
  have hgw := (Array.getElem?_eq_some_iff.1 hg1).1
  have hg2 := (hb2.block _ hgw).trans hg1
  have hr2 := (hb2.block _ (Array.getElem?_eq_some_iff.1 hr1).1).trans hr1
  have hbw2 : Below w.heap.size w w2 := hb1.trans (hb2.mono hb1.size)
  obtain ⟨W3, hW3⟩ : ∃ W, w2.setCell ⟨w.heap.size + 1, 1, none⟩ (.string (tx tn)) = W := ⟨_, rfl⟩
  have ho3 : ∀ q, q ≠ w.heap.size + 1 → W3.heap[q]? = w2.heap[q]? := fun q hq => by rw [← hW3]; exact Below.heap_setCell _ _ _ _ hq
  have hg3 : W3.heap[w.heap.size + 1]? = some (.cells #[.int .i64 k, .string (tx tn), .int .i64 0, .int .i64 0, .bool false, .bool false] 40 (0, 0)) := by rw [← hW3]; exact row_set _ hg2
  have hr3 := (ho3 w.heap.size (by omega)).trans hr2
  have hbw3 : Below w.heap.size w W3 := ⟨by rw [← hW3]; exact hbw2.os, by rw [← hW3]; exact hbw2.tape, by rw [← hW3]; exact hbw2.output, by rw [← hW3]; simpa using hbw2.size, fun q hq => (ho3 q (by omega)).trans (hbw2.block q hq)⟩
  have hbD : Below w.heap.size w W3.drew := ⟨hbw3.os, hbw3.tape, hbw3.output, hbw3.size, hbw3.block⟩
  have hTD : TR W3 T a x := (h.newer hbw3).1
  obtain ⟨-, -, -, -, c8⟩ := hTD.cells
  have g1 : W3.cell? ⟨w.heap.size + 1, 1, none⟩ = some (.string (tx tn)) := by rw [cell_of_row _ _ _ _ _ _ hg3]; rfl
  have hTw : T < w.heap.size := h.lt T (.inl h.sched.self)
  have HTa : Hid (a.FS T) := h.sched.self
  have HS : Hid (Calls Try.prog 39 #[.map (some a.B), .string (tx tn)] W3.drew fun e w' => e = .returned (.tuple #[.agg #[.int .i64 id, .int .i64 cost], .bool dn, .bool so]) ∧ Hid (∃ a', TR w' T a' { x with J := J' } ∧ Fr (TF a) (TF a') w w') ∧ w'.heap[w.heap.size + 1]? = some (.cells #[.int .i64 k, .string (tx tn), .int .i64 0, .int .i64 0, .bool false, .bool false] 40 (0, 0)) ∧ w'.heap[w.heap.size]? = some (.cells #[.int .i64 0, .string { data := #[] }, .int .i64 0, .int .i64 0, .bool false, .bool false] 40 (0, 0))) := by
    refine (HSB.out (h.newer hbD).1.jobs).mono ?_
    rintro e w' ⟨rfl, F', k1, k2⟩
    have hnF : ∀ q, w.heap.size ≤ q → ¬ a.FM q := fun q hq k => by have := h.jobs.lt q k; omega
    exact ⟨rfl, ⟨_, h.turnJ k1 (Fr.from hbD k2)⟩, (k2.block _ (Array.getElem?_eq_some_iff.1 hg3).1 (hnF _ (by omega))).trans hg3, (k2.block _ (Array.getElem?_eq_some_iff.1 hr3).1 (hnF _ (Nat.le_refl _))).trans hr3⟩
  rw [hW3]
  clear hW3 h hb1 hg1 hr1 hT1 hgw hg2 hr2 hbw2 ho3 hg3 hr3 hbw3 hbD hTD hb2 HH
  have hTg : T ≠ w.heap.size + 1 := by omega
  have HC : Hid (∀ w' : World, w'.heap[w.heap.size + 1]? = some (.cells #[.int .i64 k, .string (tx tn), .int .i64 0, .int .i64 0, .bool false, .bool false] 40 (0, 0)) → w'.cell? ⟨w.heap.size + 1, 2, none⟩ = some (.int .i64 0) ∧ w'.cell? ⟨w.heap.size + 1, 3, none⟩ = some (.int .i64 0) ∧ w'.cell? ⟨w.heap.size + 1, 4, none⟩ = some (.bool false) ∧ w'.cell? ⟨w.heap.size + 1, 5, none⟩ = some (.bool false) ∧ w'.frozen? ⟨w.heap.size + 1, 2, none⟩ = false ∧ w'.frozen? ⟨w.heap.size + 1, 3, none⟩ = false ∧ w'.frozen? ⟨w.heap.size + 1, 4, none⟩ = false ∧ w'.frozen? ⟨w.heap.size + 1, 5, none⟩ = false) := fun w' e =>
    ⟨by rw [cell_of_row _ _ _ _ _ _ e]; rfl, by rw [cell_of_row _ _ _ _ _ _ e]; rfl, by rw [cell_of_row _ _ _ _ _ _ e]; rfl, by rw [cell_of_row _ _ _ _ _ _ e]; rfl, by simp [World.frozen?, e], by simp [World.frozen?, e], by simp [World.frozen?, e], by simp [World.frozen?, e]⟩
  go_region_with (go_at_call 39; refine HS.out.mono ?_; rintro e w4 ⟨rfl, HM, HG⟩; obtain ⟨z1, z2, z3, z4, z5, z6, z7, z8⟩ := HC.out w4 HG.1)
  all_goals
    obtain ⟨W5, hW5⟩ : ∃ W, (((w4.setCell ⟨w.heap.size + 1, 2, none⟩ (.int .i64 id)).setCell ⟨w.heap.size + 1, 3, none⟩ (.int .i64 cost)).setCell ⟨w.heap.size + 1, 4, none⟩ (.bool dn)).setCell ⟨w.heap.size + 1, 5, none⟩ (.bool so) = W := ⟨_, rfl⟩
    rw [hW5]
    obtain ⟨hG, hR⟩ := HG
    obtain ⟨a', hT4, hF4⟩ := HM.out
    have ho5 : ∀ q, q ≠ w.heap.size + 1 → W5.heap[q]? = w4.heap[q]? := fun q hq => by rw [← hW5, Below.heap_setCell _ _ _ _ hq, Below.heap_setCell _ _ _ _ hq, Below.heap_setCell _ _ _ _ hq, Below.heap_setCell _ _ _ _ hq]
    have hg5 : W5.heap[w.heap.size + 1]? = some (.cells #[.int .i64 k, .string (tx tn), .int .i64 id, .int .i64 cost, .bool dn, .bool so] 40 (0, 0)) := by rw [← hW5]; exact row_set _ (row_set _ (row_set _ (row_set _ hG)))
    have hr5 := (ho5 w.heap.size (by omega)).trans hR
    have hT5 : TR W5 T a' { x with J := J' } := hT4.at' fun q hq => ho5 q fun e => hT4.not40 hG (e ▸ hq)
    have hF5 : Fr (TF a) (TF a') w W5 := ⟨by rw [← hW5]; exact hF4.os, by rw [← hW5]; exact hF4.tape, by rw [← hW5]; exact hF4.output, by rw [← hW5]; simpa using hF4.size, fun q hq hn => (ho5 q (by omega)).trans (hF4.block q hq hn), hF4.grow⟩
    have q1 : W5.cell? ⟨T, 1, none⟩ = some (.int .i64 k) := by rw [← hk]; exact hT5.cells.2.1
    have q2 := hT5.frozen
    have H5 : Hid (TR W5 T a' { x with J := J' } ∧ Fr (TF a) (TF a') w W5 ∧ W5.heap[w.heap.size + 1]? = some (.cells #[.int .i64 k, .string (tx tn), .int .i64 id, .int .i64 cost, .bool dn, .bool so] 40 (0, 0)) ∧ W5.heap[w.heap.size]? = some (.cells #[.int .i64 0, .string { data := #[] }, .int .i64 0, .int .i64 0, .bool false, .bool false] 40 (0, 0))) := ⟨hT5, hF5, hg5, hr5⟩
    clear z1 z2 z3 z4 z5 z6 z7 z8 hG hR hT4 hF4 ho5 hg5 hr5 hT5 hF5 hW5 HM c8 g1 HS HC HSB
    go_upto_region 9 with fail
    clear q1 q2
    obtain ⟨W6, hW6⟩ : ∃ W, W5.setCell ⟨T, 1, none⟩ (.int .i64 (k + 1)) = W := ⟨_, rfl⟩
    rw [hW6]
    obtain ⟨hT5, hF5, hg5, hr5⟩ := H5.out
    have hT6 : TR W6 T a' { x with slot := (k : Int) + 1, J := J' } := by rw [← hW6]; exact hT5.turnS _
    have ho6 : ∀ q, q ≠ T → W6.heap[q]? = W5.heap[q]? := fun q hq => by rw [← hW6]; exact Below.heap_setCell _ _ _ _ hq
    have hg6 := (ho6 (w.heap.size + 1) (by omega)).trans hg5
    have hr6 := (ho6 w.heap.size (by omega)).trans hr5
    obtain ⟨⟨l0, l1, l2, l3, l4, l5⟩, -⟩ := served_cells hg6
    obtain ⟨⟨s0, s1, s2, s3, s4, s5⟩, f0, f1, f2, f3, f4, f5⟩ := served_cells hr6
    have H7 : Hid (((((((W6.setCell ⟨w.heap.size, 0, none⟩ (.int .i64 k)).setCell ⟨w.heap.size, 1, none⟩ (.string (tx tn))).setCell ⟨w.heap.size, 2, none⟩ (.int .i64 id)).setCell ⟨w.heap.size, 3, none⟩ (.int .i64 cost)).setCell ⟨w.heap.size, 4, none⟩ (.bool dn)).setCell ⟨w.heap.size, 5, none⟩ (.bool so)).heap[w.heap.size]? = some (.cells #[.int .i64 k, .string (tx tn), .int .i64 id, .int .i64 cost, .bool dn, .bool so] 40 (0, 0)) ∧ ∃ a', TR ((((((W6.setCell ⟨w.heap.size, 0, none⟩ (.int .i64 k)).setCell ⟨w.heap.size, 1, none⟩ (.string (tx tn))).setCell ⟨w.heap.size, 2, none⟩ (.int .i64 id)).setCell ⟨w.heap.size, 3, none⟩ (.int .i64 cost)).setCell ⟨w.heap.size, 4, none⟩ (.bool dn)).setCell ⟨w.heap.size, 5, none⟩ (.bool so)) T a' { x with slot := (k : Int) + 1, J := J' } ∧ Fr (TF a) (TF a') w ((((((W6.setCell ⟨w.heap.size, 0, none⟩ (.int .i64 k)).setCell ⟨w.heap.size, 1, none⟩ (.string (tx tn))).setCell ⟨w.heap.size, 2, none⟩ (.int .i64 id)).setCell ⟨w.heap.size, 3, none⟩ (.int .i64 cost)).setCell ⟨w.heap.size, 4, none⟩ (.bool dn)).setCell ⟨w.heap.size, 5, none⟩ (.bool so))) := by
      have ho7 : ∀ q, q ≠ w.heap.size → ((((((W6.setCell ⟨w.heap.size, 0, none⟩ (.int .i64 k)).setCell ⟨w.heap.size, 1, none⟩ (.string (tx tn))).setCell ⟨w.heap.size, 2, none⟩ (.int .i64 id)).setCell ⟨w.heap.size, 3, none⟩ (.int .i64 cost)).setCell ⟨w.heap.size, 4, none⟩ (.bool dn)).setCell ⟨w.heap.size, 5, none⟩ (.bool so)).heap[q]? = W6.heap[q]? := fun q hq => by rw [Below.heap_setCell _ _ _ _ hq, Below.heap_setCell _ _ _ _ hq, Below.heap_setCell _ _ _ _ hq, Below.heap_setCell _ _ _ _ hq, Below.heap_setCell _ _ _ _ hq, Below.heap_setCell _ _ _ _ hq]
      have hTa : TF a T := .inl HTa.out
      obtain ⟨r0, r1, r2, r3⟩ := set6_rest W6 w.heap.size (.int .i64 k) (.string (tx tn)) (.int .i64 id) (.int .i64 cost) (.bool dn) (.bool so)
      have h6s : W6.os = W5.os ∧ W6.tape = W5.tape ∧ W6.output = W5.output ∧ W6.heap.size = W5.heap.size := by rw [← hW6]; exact ⟨rfl, rfl, rfl, by simp⟩
      refine ⟨row6_set _ _ _ _ _ _ hr6, a', hT6.at' fun q hq => ho7 q fun e => hT6.not40 hr6 (e ▸ hq), ⟨r0.trans (h6s.1.trans hF5.os), r1.trans (h6s.2.1.trans hF5.tape), r2.trans (h6s.2.2.1.trans hF5.output), by rw [r3, h6s.2.2.2]; exact hF5.size, fun q hq hn => (ho7 q (by omega)).trans ((ho6 q fun e => hn (e ▸ hTa)).trans (hF5.block q hq hn)), hF5.grow⟩⟩
    clear H5 hT5 hF5 hg5 hr5 hT6 ho6 hg6 hr6 hW6 HTa
    go_wp2_with fail
    exact bodyPost_ret (results_one Try.results14 _ _ w.heap.size #[.int .i64 k, .string (tx tn), .int .i64 id, .int .i64 cost, .bool dn, .bool so] rfl (load40 H7.out.1 rfl)) rfl ⟨rfl, H7.out.2⟩
end Go.Proofs.Ytkigagglkmdccaa
