/- A new list by keys. -/
import Derived.Test.YtbcdaddbcjagjaaNk
namespace Go.Proofs.Ytbcdaddbcjagjaa
open Go.RowKit
set_option linter.unusedVariables false
set_option linter.unusedSimpArgs false

theorem MM.new (w : World) : MM (w.alloc (.map #[] 0)) w.heap.size [] := ⟨[], 0, heap_alloc_new _ _, List.Perm.refl _, Bok.nil⟩
set_option maxRecDepth 20000 in
set_option maxHeartbeats 4000000 in
theorem lru_new (most : Int) (h1 : 1 ≤ most) (h2 : most ≤ 1000) (w : World) : Calls Try.prog 38 #[.int .i64 most] w fun e w' => ∃ L, e = .returned (.pointer (some ⟨L, 0, none⟩)) ∧ ∃ M F, LR w' L M F most [] ∧ (∀ q, F q → w.heap.size ≤ q) ∧ Below w.heap.size w w' := by
  have h1' : ¬ most < 1 := by omega
  have HM : Hid (1 ≤ most ∧ most ≤ 1000) := ⟨h1, h2⟩
  clear h1 h2
  have hmk : ∀ V : World, (Instr.makeMap 87 none).run Try.prog V = .ok (.map (some V.heap.size)) (V.alloc (.map #[] 0)) := fun V => by first | rfl | simp [Instr.makeMap, run_underlying under87] | kernel_rfl
  go_enter Try.func38, Try.ntmps38
  go_upto_region 4 with (fail)
  obtain ⟨W0, hW0⟩ : ∃ W, w.alloc (.map #[] 0) = W := ⟨_, rfl⟩
  have hb0 : Below w.heap.size w W0 := by rw [← hW0]; exact bel1' _ _
  have hs0 : W0.heap.size = w.heap.size + 1 := by rw [← hW0]; simp
  have hm0 : MM W0 w.heap.size [] := by rw [← hW0]; exact MM.new w
  obtain ⟨W, hW⟩ : ∃ W, W0.alloc (.cells #[.int .i64 most, .int .i64 0, .map (some w.heap.size), .string { data := #[] }, .string { data := #[] }, .string { data := #[] }, .pointer none, .pointer none] 92) = W := ⟨_, rfl⟩
  have hb1 : Below w.heap.size w W := by rw [← hW]; exact hb0.alloc (by omega) _
  have hg : W.heap[W0.heap.size]? = some (.cells #[.int .i64 most, .int .i64 0, .map (some w.heap.size), .string { data := #[] }, .string { data := #[] }, .string { data := #[] }, .pointer none, .pointer none] 92 (0, 0)) := by rw [← hW]; exact heap_alloc_new _ _
  have hm1 : MM W w.heap.size [] := hm0.at' (by rw [← hW, Below.heap_alloc _ _ _ (by omega)])
  rw [hs0] at hg
  rw [hW0, hW]
  obtain ⟨M, hM⟩ : ∃ M, w.heap.size = M := ⟨_, rfl⟩
  obtain ⟨L, hL⟩ : ∃ L, w.heap.size + 1 = L := ⟨_, rfl⟩
  have HL : Hid (w.heap.size ≤ L ∧ w.heap.size ≤ M ∧ M ≠ L) := by show _ ∧ _; omega
  rw [hL, hM] at hg
  rw [hM] at hm1
  rw [hL, hM]
  have HG : Hid (W.heap[L]? = some (.cells #[.int .i64 most, .int .i64 0, .map (some M), .string { data := #[] }, .string { data := #[] }, .string { data := #[] }, .pointer none, .pointer none] 92 (0, 0)) ∧ MM W M [] ∧ Below w.heap.size w W) := ⟨hg, hm1, hb1⟩
  have y6 : W.cell? ⟨L, 6, none⟩ = some (.pointer none) := by rw [cell_of_row _ _ _ _ _ _ hg]; rfl
  have y7 : W.cell? ⟨L, 7, none⟩ = some (.pointer none) := by rw [cell_of_row _ _ _ _ _ _ hg]; rfl
  have z6 : W.frozen? ⟨L, 6, none⟩ = false := by simp [World.frozen?, hg]
  have z7 : W.frozen? ⟨L, 7, none⟩ = false := by simp [World.frozen?, hg]
  clear hW hW0 hb0 hb1 hs0 hm0 hm1 hg hM hL
  go_region
  all_goals
    go_wp2_with fail
    go_ret
    obtain ⟨k1, k2, k3⟩ := HG.out
    obtain ⟨l1, l2, l3⟩ := HL.out
    obtain ⟨V, hV⟩ : ∃ V, ((W.setCell ⟨L, 6, none⟩ (.pointer (some ⟨L, 3, none⟩))).setCell ⟨L, 7, none⟩ (.pointer (some ⟨L, 3, none⟩))).drew = V := ⟨_, rfl⟩
    have hr : V.heap[L]? = some (.cells #[.int .i64 most, .int .i64 0, .map (some M), .string { data := #[] }, .string { data := #[] }, .string { data := #[] }, .pointer (some ⟨L, 3, none⟩), .pointer (some ⟨L, 3, none⟩)] 92 (0, 0)) := by
      rw [← hV]
      exact row_set _ (row_set _ k1)
    have hoff : ∀ q, q ≠ L → V.heap[q]? = W.heap[q]? := fun q hq => by
      rw [← hV]
      show ((W.setCell ⟨L, 6, none⟩ _).setCell ⟨L, 7, none⟩ _).heap[q]? = _
      rw [Below.heap_setCell _ _ _ _ hq, Below.heap_setCell _ _ _ _ hq]
    have hbel : Below w.heap.size w V := by
      rw [← hV]
      exact Below.trans k3 ⟨rfl, rfl, rfl, by show W.heap.size ≤ ((W.setCell ⟨L, 6, none⟩ _).setCell ⟨L, 7, none⟩ _).heap.size; simp, fun q hq => by show ((W.setCell ⟨L, 6, none⟩ _).setCell ⟨L, 7, none⟩ _).heap[q]? = _; rw [Below.heap_setCell _ _ _ _ (by show q ≠ L; omega), Below.heap_setCell _ _ _ _ (by show q ≠ L; omega)]⟩
    rw [hV]
    refine ⟨L, rfl, M, LF L M [], ⟨⟨[], ⟨⟨_, hr, rfl⟩, by rw [cell_of_row _ _ _ _ _ _ hr]; rfl, by rw [cell_of_row _ _ _ _ _ _ hr]; rfl, by rw [cell_of_row _ _ _ _ _ _ hr]; rfl, fun n hn => (nomatch hn), ⟨by show V.cell? ⟨L, 7, none⟩ = _; rw [cell_of_row _ _ _ _ _ _ hr]; rfl, by show V.cell? ⟨L, 6, none⟩ = _; rw [cell_of_row _ _ _ _ _ _ hr]; rfl⟩, fun n hn => (nomatch hn), List.nodup_nil, k2.at' (hoff M l3)⟩, rfl, fun q => Iff.rfl⟩, List.nodup_nil, HM.out.1, HM.out.2, by have := HM.out.1; simp; omega⟩, ?_, hbel⟩
    rintro q (rfl | rfl | ⟨n, hn, -⟩)
    · exact l1
    · exact l2
    · exact (nomatch hn)
end Go.Proofs.Ytbcdaddbcjagjaa
