/- The model's cache: first. -/
import Derived.Test.YtbcdaddbcjagjaaTc
namespace Go.Proofs.Ytbcdaddbcjagjaa
open Go.RowKit
set_option linter.unusedVariables false
set_option linter.unusedSimpArgs false

variable {w w' w2 W : World} {R B : Nat} {most : Int} {lv cv lv' cv' : Value} {l l' : List An} {cs cs' : List Cn}
theorem app_none (W : World) (g : Nat) (ty : TypeId) : (Builtin.append_ #[55, 55] ty #[.slice (some ⟨g, 0, none⟩) 1 1, .slice none 0 0]).run Try.prog W = .ok (.slice (some ⟨g, 0, none⟩) 1 1) W := app_nothing W g ty
set_option maxRecDepth 20000 in
set_option maxHeartbeats 4000000 in
theorem MS.first (h : MS w R B most lv cv l cs) (hl : (l.length : Int) ≤ 100000) (a : An) : Calls Try.prog 46 #[.pointer (some ⟨R, 0, none⟩), .agg #[.string (tx a.tn), .string (tx a.key), .string (tx a.st), .string (tx a.te)]] w fun e w' => e = .returned (.tuple #[]) ∧ ∃ lv', MS w' R B most lv' cv (a :: l) cs ∧ Fr (GM R lv cv) (GM R lv' cv) w w' := by
  obtain ⟨s, k, st, te⟩ := a
  dsimp only
  obtain ⟨W0, hW0⟩ : ∃ W, w.alloc (.cells #[.string (tx s), .string (tx k), .string (tx st), .string (tx te)] 78) = W := ⟨_, rfl⟩
  have hb0 : Below w.heap.size w W0 := by rw [← hW0]; exact bel1' _ _
  have hs0 : W0.heap.size = w.heap.size + 1 := by rw [← hW0]; simp
  have hg0 : W0.heap[w.heap.size]? = some (.cells #[.string (tx s), .string (tx k), .string (tx st), .string (tx te)] 78 (0, 0)) := by rw [← hW0]; exact heap_alloc_new _ _
  obtain ⟨W1, hW1⟩ : ∃ W, W0.alloc (.cells #[.string (tx s), .string (tx k), .string (tx st), .string (tx te)] 78) = W := ⟨_, rfl⟩
  have hb1 : Below w.heap.size w W1 := by rw [← hW1]; exact hb0.alloc (by omega) _
  have hg1 : W1.heap[W0.heap.size]? = some (.cells #[.string (tx s), .string (tx k), .string (tx st), .string (tx te)] 78 (0, 0)) := by rw [← hW1]; exact heap_alloc_new _ _
  have HO : Hid (W1.ownsRow w.heap.size 78 4 (.slice (some ⟨W0.heap.size, 0, none⟩) 1 1) 1 (fA ⟨s, k, st, te⟩)) := ⟨rfl, .inr ⟨_, 1, _, rfl, by omega, hg1, by omega, by decide, rfl, rfl⟩⟩
  have hM := h.newer hb1
  obtain ⟨⟨sa, cap, rfl, hcap⟩, -⟩ := h.forms
  have HH : Hid (MS w R B most (.slice sa l.length cap) cv l cs) := h
  obtain ⟨-, c1, -, cf⟩ := hM.cells
  have cf1 := cf 1
  have a0 : W0.cell? ⟨w.heap.size, 0, none⟩ = some (.string (tx s)) := by rw [cell_of_row _ _ _ _ _ _ hg0]; rfl
  have a1 : W0.cell? ⟨w.heap.size, 1, none⟩ = some (.string (tx k)) := by rw [cell_of_row _ _ _ _ _ _ hg0]; rfl
  have a2 : W0.cell? ⟨w.heap.size, 2, none⟩ = some (.string (tx st)) := by rw [cell_of_row _ _ _ _ _ _ hg0]; rfl
  have a3 : W0.cell? ⟨w.heap.size, 3, none⟩ = some (.string (tx te)) := by rw [cell_of_row _ _ _ _ _ _ hg0]; rfl
  have HB1 : Hid (Below w.heap.size w W1) := hb1
  clear hb0 hb1 hs0 hg0 hg1 cf hM h
  rcases HH.out.rl.2 with ⟨e1, e2⟩ | ⟨g2, cp, cur, e1, -⟩
  · have hl0 : l = [] := List.eq_nil_of_length_eq_zero e2
    subst hl0
    cases e1
    have hap : ∀ ty, (Builtin.append_ #[55, 55] ty #[.slice (some ⟨W0.heap.size, 0, none⟩) 1 1, .slice none 0 0]).run Try.prog W1 = .ok (.slice (some ⟨W0.heap.size, 0, none⟩) 1 1) W1 := fun ty => app_nothing W1 _ ty
    go_enter Try.func46, Try.ntmps46
    go_upto_region 2 with (fail)
    clear hW0 hW1 a0 a1 a2 a3
    generalize W0.heap.size = g at *
    go_wp2_with fail
    go_end0
    exact ⟨rfl, _, HH.out.turnL (l' := [⟨s, k, st, te⟩]) HB1.out (by rw [fl, fl, List.append_nil]; exact HO.out)⟩
  · obtain ⟨d1, d2, d3⟩ := Value.slice.inj e1
    subst d1
    clear e1 d2 d3
    obtain ⟨i, hi, hz, hsz, hby⟩ := i78_ex
    have HP : Hid (∀ (j : Nat) (u : Value), (fl fA l)[j]? = some u → W1.cell? ((⟨g2, 0, none⟩ : Addr).add j) = some u) := by
      have := (HH.out.newer HB1.out).part 0 (l2 := l) (fun j x hx => by rw [Nat.zero_add]; exact hx)
      exact this
    have HL2 : Hid ((fl fA l).length = l.length * 4 ∧ ∀ u ∈ fl fA l, u.oneCell' = true) := ⟨fl_len fA_len _, fl_one fA_one _⟩
    obtain ⟨n, hn⟩ : ∃ n, l.length = n := ⟨_, rfl⟩
    have HN : Hid (l.length = n) := hn
    rw [hn] at hl hcap c1 HH HL2 ⊢
    clear hn
    have HKB : Hid (∀ (v2 : Value) (w2 : World), w2.ownsRow w.heap.size 78 4 v2 (1 + n) (fA ⟨s, k, st, te⟩ ++ fl fA l) → W1.grownBy w2 (some W0.heap.size) → (w2.cell? ⟨R, 1, none⟩ = some (.slice (some ⟨g2, 0, none⟩) n cap) ∧ w2.frozen? ⟨R, 1, none⟩ = false) ∧ MS (w2.setCell ⟨R, 1, none⟩ v2) R B most v2 cv (⟨s, k, st, te⟩ :: l) cs ∧ Fr (GM R (.slice (some ⟨g2, 0, none⟩) n cap) cv) (GM R v2 cv) w (w2.setCell ⟨R, 1, none⟩ v2)) := fun v2 w2 ho hg => by
      have hb2 : Below w.heap.size w w2 := HB1.out.trans (grown_below (v := .slice (some ⟨W0.heap.size, 0, none⟩) 1 1) hg HO.out HB1.out.size)
      have hM := HH.out.newer hb2
      refine ⟨⟨hM.cells.2.1, hM.cells.2.2.2 1⟩, ?_⟩
      refine HH.out.turnL hb2 ?_
      rw [fl, List.length_cons, HN.out, Nat.add_comm]
      exact ho
    go_enter Try.func46, Try.ntmps46
    go_upto_region 2 with (fail)
    clear hW0 hW1 a0 a1 a2 a3
    have HWS : Hid (w.heap.size ≤ W1.heap.size) := HB1.out.size
    generalize W0.heap.size = g at *
    go_wp2_with (at_builtin; (refine wpList_append_own _ rfl (.tmp 7) (.tmp 11) 55 rfl w.heap.size 78 i (.agg #[.string ⟨#[]⟩, .string ⟨#[]⟩, .string ⟨#[]⟩, .string ⟨#[]⟩]) 4 64 under55 hi hz hsz hby rfl (by decide) (.slice (some ⟨g, 0, none⟩) 1 1) 1 (fA ⟨s, k, st, te⟩) rfl HO.out ⟨g2, 0, none⟩ n cap (fl fA l) rfl HL2.out.1 HP.out HL2.out.2 (by unfold maxLen; omega) (by omega) HWS.out ?_; intro v2 w2 ho2 hg2 _; obtain ⟨⟨q1, q2⟩, q3⟩ := HKB.out v2 w2 ho2 hg2; (have H2 : Hid (MS (w2.setCell ⟨R, 1, none⟩ v2) R B most v2 cv (⟨s, k, st, te⟩ :: l) cs ∧ Fr (GM R (.slice (some ⟨g2, 0, none⟩) n cap) cv) (GM R v2 cv) w (w2.setCell ⟨R, 1, none⟩ v2)) := q3); obtain ⟨s2, cap2, hv2⟩ := own_slice ho2; subst hv2; clear q3 ho2 hg2))
    go_end0
    exact ⟨rfl, _, H2.out⟩
end Go.Proofs.Ytbcdaddbcjagjaa
