/- The fixed run's crash. -/
import Derived.Test.YtfllepgcgbpfiaaC1
namespace Go.Proofs.Ytfllepgcgbpfiaa
open Go.RowKit
set_option linter.unusedVariables false
set_option linter.unusedSimpArgs false

set_option maxRecDepth 20000 in
set_option maxHeartbeats 8000000 in
theorem crash_one (D base B F : Nat) (s : Int) (dv bv : Value) (w : World) (h : One w D base B F s dv bv [97, 98, 99, 100, 101, 102, 103, 104] [3, 5]) (k kc g nc : Nat)
    (hk0 : w.cell? ⟨k, 0, none⟩ = some (.string ⟨#[97]⟩)) (hk1 : w.cell? ⟨k, 1, none⟩ = some (.slice (some ⟨g, 0, none⟩) 2 nc)) (hkc : 1 ≤ kc) (n0 : w.cell? ⟨g, 0, none⟩ = some (.int .i64 0)) (n1 : w.cell? ⟨g, 1, none⟩ = some (.int .i64 2)) (hnc : 2 ≤ nc) :
    Calls Try.prog 16 #[.pointer (some ⟨D, 0, none⟩), .slice (some ⟨k, 0, none⟩) 1 kc] w fun e w' => e = .returned (.int .i64 0) ∧ (∃ dv', One w' D base B F s dv' (.slice none 0 0) [97, 98, 99, 0, 0, 102, 103] []) ∧ Below base w w' := by
  have H : Hid (One w D base B F s dv bv [97, 98, 99, 100, 101, 102, 103, 104] [3, 5]) := h
  have HN : Hid (w.cell? ⟨g, 0, none⟩ = some (.int .i64 0) ∧ w.cell? ⟨g, 1, none⟩ = some (.int .i64 2) ∧ 2 ≤ nc) := ⟨n0, n1, hnc⟩
  have HKC : Hid (w.cell? ⟨k, 0, none⟩ = some (.string ⟨#[97]⟩) ∧ w.cell? ⟨k, 1, none⟩ = some (.slice (some ⟨g, 0, none⟩) 2 nc)) := ⟨hk0, hk1⟩
  have hmk : (Instr.makeMap 74 none).run Try.prog w = .ok (.map (some w.heap.size)) (w.alloc (.map #[] 0)) := run_makeMap 74 w
  have hkc' : (1 : Int) ≤ (kc : Int) := by omega
  clear h hk0 hk1 n0 n1 hnc hkc
  go_enter Try.func16, Try.ntmps16
  go_upto_region 4 with fail
  obtain ⟨W1, hW1⟩ : ∃ W1, w.alloc (.map #[] 0) = W1 := ⟨_, rfl⟩
  have HB1 : Hid (Below w.heap.size w W1) := by show Below _ _ _; rw [← hW1]; exact bel1 _ _
  have HM1 : Hid (MapAt W1 w.heap.size [] 0) := by show _ = _; rw [← hW1]; exact Go.heap_alloc_new _ _
  try rw [hW1]
  clear hW1 hmk
  generalize hMM : w.heap.size = M at HM1 ⊢
  go_wp2_with fail
  refine wp_loop_rounds 2 ?_
  rw [rounds_succ]
  have k0 : W1.cell? ⟨k, 0, none⟩ = some (.string ⟨#[97]⟩) := (HB1.out.cell (p := ⟨k, 0, none⟩) (World.block_lt_of_cell? w _ HKC.out.1)).trans HKC.out.1
  have k1 : W1.cell? ⟨k, 1, none⟩ = some (.slice (some ⟨g, 0, none⟩) 2 nc) := (HB1.out.cell (p := ⟨k, 1, none⟩) (World.block_lt_of_cell? w _ HKC.out.2)).trans HKC.out.2
  go_upto_region 7 with fail
  obtain ⟨W2, hW2⟩ : ∃ W2, W1.alloc (.cells #[.string ⟨#[97]⟩, .slice (some ⟨g, 0, none⟩) 2 nc] 45) = W2 := ⟨_, rfl⟩
  have h12 : Below W1.heap.size W1 W2 := by rw [← hW2]; exact bel1 _ _
  have HB2 : Hid (Below w.heap.size w W2) := HB1.out.trans (h12.mono HB1.out.size)
  have HQ2 : Hid (W2.heap[W1.heap.size]? = some (.cells #[.string ⟨#[97]⟩, .slice (some ⟨g, 0, none⟩) 2 nc] 45 (0, 0))) := by show _ = _; rw [← hW2]; exact Go.heap_alloc_new _ _
  have HM2 : Hid (MapAt W2 M [] 0) := (h12.block _ (Array.getElem?_eq_some_iff.1 HM1.out).1).trans HM1.out
  have HW12 : Hid (W1.heap.size ≤ W2.heap.size) := h12.size
  try rw [hW2]
  generalize W1.heap.size = q at HQ2 ⊢
  clear hW2 h12 k0 k1 HM1
  have hlk : (Instr.lookup 74 (.map (some M)) (.string ⟨#[97]⟩) true).run Try.prog W2 = .ok (.tuple #[.int .i64 0, .bool false]) W2 := run_look_none under74 (by kernel_rfl) HM2.out rfl
  have q0 : W2.cell? ⟨q, 0, none⟩ = some (.string ⟨#[97]⟩) := by rw [cell_of_row _ _ _ _ _ _ HQ2.out]; rfl
  have q1 : W2.cell? ⟨q, 1, none⟩ = some (.slice (some ⟨g, 0, none⟩) 2 nc) := by rw [cell_of_row _ _ _ _ _ _ HQ2.out]; rfl
  have HO2 : Hid (One W2 D base B F s dv bv [97, 98, 99, 100, 101, 102, 103, 104] [3, 5]) := H.out.keep HB2.out
  have hgl : g < w.heap.size := World.block_lt_of_cell? w _ HN.out.1
  have HCK : Hid (Calls Try.prog 42 #[.pointer (some ⟨D, 0, none⟩), .agg #[.string ⟨#[97]⟩, .slice (some ⟨g, 0, none⟩) 2 nc]] W2 fun e w' => e = .returned (.int .i64 0) ∧ Below W2.heap.size W2 w') := by
    refine canKeep_one D base B F s dv bv _ [3, 5] W2 HO2.out g nc [0, 2] ?_ ?_ (by decide) (by decide) HN.out.2.2 (by have := HB2.out.size; omega)
    · intro i hi
      have hi2 : i < 2 := hi
      rcases (show i = 0 ∨ i = 1 from by omega) with rfl | rfl
      · exact (HB2.out.cell (p := ⟨g, 0, none⟩) hgl).trans HN.out.1
      · exact (HB2.out.cell (p := ⟨g, 1, none⟩) hgl).trans HN.out.2.1
    · intro i hi
      have hi2 : i < 2 := hi
      rcases (show i = 0 ∨ i = 1 from by omega) with rfl | rfl <;> decide
  go_wp2_with fail
  refine HCK.out.mono ?_
  rintro e W3 ⟨rfl, hb3⟩
  have HM3 : Hid (MapAt W3 M [] 0) := (hb3.block _ (Array.getElem?_eq_some_iff.1 HM2.out).1).trans HM2.out
  have HB3 : Hid (Below w.heap.size w W3) := HB2.out.trans (hb3.mono HB2.out.size)
  have hq3 : W3.heap[q]? = some (.cells #[.string ⟨#[97]⟩, .slice (some ⟨g, 0, none⟩) 2 nc] 45 (0, 0)) := (hb3.block _ (Array.getElem?_eq_some_iff.1 HQ2.out).1).trans HQ2.out
  have r0 : W3.cell? ⟨q, 0, none⟩ = some (.string ⟨#[97]⟩) := by rw [cell_of_row _ _ _ _ _ _ hq3]; rfl
  have hpu := run_put_new (T := 74) under74 HM3.out (s := ⟨#[97]⟩) rfl (.int .i64 0)
  rw [List.nil_append] at hpu
  obtain ⟨W4, hW4⟩ : ∃ W4 : World, ({ W3 with heap := W3.heap.setIfInBounds M (.map (ents [(⟨#[97]⟩, .int .i64 0, 0)]).toArray (0 + 1)) } : World) = W4 := ⟨_, rfl⟩
  rw [hW4] at hpu
  have hM3 := (Array.getElem?_eq_some_iff.1 HM3.out).1
  have HM4 : Hid (MapAt W4 M [(⟨#[97]⟩, .int .i64 0, 0)] 1) := by show _ = _; rw [← hW4]; exact put_same hM3
  have HB4 : Hid (Below w.heap.size w W4) := by
    show Below _ _ _
    rw [← hW4]
    exact ⟨HB3.out.os, HB3.out.tape, HB3.out.output, by rw [put_size]; exact HB3.out.size, fun i hi => (put_other (by omega)).trans (HB3.out.block i hi)⟩
  clear hW4 hM3 hb3 hlk q0 q1 HQ2 HM2 hq3
  go_upto_region 14 with fail
  have HO4 : Hid (One W4 D base B F s dv bv [97, 98, 99, 100, 101, 102, 103, 104] [3, 5]) := H.out.keep HB4.out
  have cD : W4.cell? ⟨D, 0, none⟩ = some (.map (some B)) := by rw [cell_of_row _ _ _ _ _ _ HO4.out.disk]; rfl
  have hrg : (Instr.range 68 (.map (some B))).run Try.prog W4 = .ok (.pointer (some ⟨W4.heap.size, 0, none⟩)) (W4.alloc (.mapIter (some B) 1 #[] 1)) := run_range_map W4 68 9 77 B _ 1 under68 HO4.out.map
  obtain ⟨W5, hW5⟩ : ∃ W5, W4.alloc (.mapIter (some B) 1 #[] 1) = W5 := ⟨_, rfl⟩
  have h45 : Below W4.heap.size W4 W5 := by rw [← hW5]; exact bel1 _ _
  have HB5 : Hid (Below w.heap.size w W5) := HB4.out.trans (h45.mono HB4.out.size)
  have HT5 : Hid (W5.heap[W4.heap.size]? = some (.mapIter (some B) 1 #[] 1)) := by show _ = _; rw [← hW5]; exact Go.heap_alloc_new _ _
  have HM5 : Hid (MapAt W5 M [(⟨#[97]⟩, .int .i64 0, 0)] 1) := (h45.block _ (Array.getElem?_eq_some_iff.1 HM4.out).1).trans HM4.out
  have HSZ : Hid (w.heap.size ≤ W4.heap.size) := HB4.out.size
  rw [hW5] at hrg
  generalize W4.heap.size = it at HT5 hrg HSZ
  clear hW5 h45
  go_wp2_with fail
  rw [rounds_succ]
  go_upto_region 16 with fail
  refine wp_loop_rounds 2 ?_
  rw [rounds_succ]
  have HO5 : Hid (One W5 D base B F s dv bv [97, 98, 99, 100, 101, 102, 103, 104] [3, 5]) := H.out.keep HB5.out
  have hnx := next_first 0 HT5.out HO5.out.map
  obtain ⟨W6, hW6⟩ : ∃ W6 : World, ({ W5 with heap := W5.heap.setIfInBounds it (.mapIter (some B) 1 #[0] 1) } : World) = W6 := ⟨_, rfl⟩
  rw [hW6] at hnx
  have hit5 := (Array.getElem?_eq_some_iff.1 HT5.out).1
  have HT6 : Hid (W6.heap[it]? = some (.mapIter (some B) 1 #[0] 1)) := by show _ = _; rw [← hW6]; exact put_same hit5
  have HB6 : Hid (Below w.heap.size w W6) := by
    show Below _ _ _
    rw [← hW6]
    have hz := HSZ.out
    exact ⟨HB5.out.os, HB5.out.tape, HB5.out.output, by rw [put_size]; exact HB5.out.size, fun i hi => (put_other (by omega)).trans (HB5.out.block i hi)⟩
  have HO6 : Hid (One W6 D base B F s dv bv [97, 98, 99, 100, 101, 102, 103, 104] [3, 5]) := H.out.keep HB6.out
  have hMit : M ≠ it := by
    intro e
    have h1 := HM5.out
    unfold MapAt at h1
    rw [e, HT5.out] at h1
    cases h1
  have HM6 : Hid (MapAt W6 M [(⟨#[97]⟩, .int .i64 0, 0)] 1) := by show _ = _; rw [← hW6]; exact (put_other hMit).trans HM5.out
  have hen := entry_one HT6.out HO6.out.map
  have hlk : (Instr.lookup 74 (.map (some M)) (.string ⟨#[97]⟩) true).run Try.prog W6 = .ok (.tuple #[.int .i64 0, .bool true]) W6 := run_look_some under74 HM6.out rfl
  have k1 : W6.cell? ⟨k, 1, none⟩ = some (.slice (some ⟨g, 0, none⟩) 2 nc) := (HB6.out.cell (p := ⟨k, 1, none⟩) (World.block_lt_of_cell? w _ HKC.out.2)).trans HKC.out.2
  have HCR : Hid (Calls Try.prog 43 #[.pointer (some ⟨F, 0, none⟩), .slice (some ⟨g, 0, none⟩) 2 nc] W6 fun e w' => (∃ v, e = .returned v) ∧ (∃ dv', w'.heap[F]? = some (.cells #[dv', .slice none 0 0] 80 (0, 0)) ∧ w'.ownsRow base 5 1 dv' 7 (u8l [97, 98, 99, 0, 0, 102, 103])) ∧ Kep W6 w' (fun q => q = F)) := by
    refine crash_known F base dv bv W6 HO6.out.file HO6.out.data HO6.out.begins g nc ((HB6.out.cell (p := ⟨g, 0, none⟩) hgl).trans HN.out.1) ((HB6.out.cell (p := ⟨g, 1, none⟩) hgl).trans HN.out.2.1) HN.out.2.2 (by have := HB6.out.size; omega) HO6.out.low.2.2.2 ?_
    intro e
    have h1 := H.out.file
    have h2 := HN.out.1
    rw [e, cell_of_row _ _ _ _ _ _ h1] at h2
    have h3 : dv = .int .i64 0 := by simpa using h2
    obtain ⟨a, c, h4⟩ := own_slice H.out.data
    rw [h3] at h4
    cases h4
  clear hW6 hit5 hMit HT5 HO5 hrg cD
  go_wp2_with fail
  refine HCR.out.mono ?_
  rintro e W7 ⟨⟨v7, rfl⟩, ⟨dv', hF7, hd7⟩, hk7⟩
  have hFit : it ≠ F := by
    intro e
    have h1 := HO6.out.file
    rw [← e, HT6.out] at h1
    cases h1
  have HT7 : Hid (W7.heap[it]? = some (.mapIter (some B) 1 #[0] 1)) := (hk7.block it (Array.getElem?_eq_some_iff.1 HT6.out).1 hFit).trans HT6.out
  have hBF : B ≠ F := by
    intro e
    have h1 := HO6.out.map
    unfold MapAt at h1
    rw [e, HO6.out.file] at h1
    cases h1
  have hDF : D ≠ F := ne_tag HO6.out.disk HO6.out.file (by decide)
  have HM7 : Hid (MapAt W7 B [(⟨#[97]⟩, .pointer (some ⟨F, 0, none⟩), 0)] 1) := (hk7.block B (Array.getElem?_eq_some_iff.1 HO6.out.map).1 hBF).trans HO6.out.map
  have HO7 : Hid (One W7 D base B F s dv' (.slice none 0 0) [97, 98, 99, 0, 0, 102, 103] []) := by
    have hl := HO6.out.low
    exact ⟨⟨hl.1, hl.2.1, hl.2.2.1, by have := hk7.size; omega⟩, (hk7.block D (Array.getElem?_eq_some_iff.1 HO6.out.disk).1 hDF).trans HO6.out.disk, HM7.out, hF7, hd7, World.ownsRow_nil _ _ _ _⟩
  have HB7 : Hid (Below base w W7) := (HB6.out.mono H.out.low.2.2.2).trans (hk7.below HO6.out.low.2.2.2 (fun q hq => by rw [hq]; exact HO6.out.low.2.2.1))
  have hnx7 := next_last 0 HT7.out HM7.out
  clear hF7 hd7 hk7 hFit hBF hDF hnx hen hlk k1
  go_wp2_with fail
  rw [rounds_succ]
  go_wp2_with fail
  go_ret
  exact ⟨rfl, ⟨dv', HO7.out⟩, HB7.out⟩
end Go.Proofs.Ytfllepgcgbpfiaa
