/- attr.Both: where it tells no error, its list has the elements of both. -/
import Derived.Test.YtgmpmpgfpchbcaaGreatDoorY3
namespace Go.Proofs.YtgmpmpgfpchbcaaGreatDoor
open Go.RowKit Go.Shelf
set_option linter.unusedVariables false
set_option linter.unusedSimpArgs false

/-- What Both tells. -/
def BothP (a b : List Mt) (e : Ending) (w' : World) : Prop :=
  ∃ (sv : Option Addr) (n cv : Nat) (E : Int), e = .returned (.tuple #[.slice sv n cv, .int .i64 E]) ∧ (E = 0 → ∃ d : List Mt, (∀ x, x ∈ d ↔ x ∈ a ∨ x ∈ b) ∧ d.length = n ∧ n ≤ 8 ∧ Mts w' sv cv d)
set_option maxRecDepth 20000 in
set_option maxHeartbeats 8000000 in
theorem both_any (sa sb : Option Addr) (ca cb : Nat) (a b : List Mt) (w : World) (ha : Mts w sa ca a) (hb : Mts w sb cb b) (h1 : ((a.length : Int) + b.length) * 40 ≤ 140737488351232) (hT : Tabs w) (hca : ∀ x ∈ a, CanM x) (hcb : ∀ x ∈ b, CanM x) :
    Calls Tryz.prog 6 #[.slice sa a.length ca, .slice sb b.length cb] w fun e w' => BothP a b e w' ∧ Below w.heap.size w w' := by
  obtain ⟨na, hna⟩ : ∃ n, a.length = n := ⟨_, rfl⟩
  obtain ⟨nb, hnb⟩ : ∃ n, b.length = n := ⟨_, rfl⟩
  obtain ⟨W0, hW0⟩ : ∃ W0, w.alloc (.cells #[.slice sa na ca, .slice sb nb cb] 23) = W0 := ⟨_, rfl⟩
  have hb0 : Below w.heap.size w W0 := by rw [← hW0]; exact bel1 _ _
  have hr0 : W0.heap[w.heap.size]? = some (.cells #[.slice sa na ca, .slice sb nb cb] 23 (0, 0)) := by rw [← hW0]; exact Go.heap_alloc_new _ _
  have hcan : ∀ x ∈ a ++ b, CanM x := fun x hx => (List.mem_append.1 hx).elim (hca x) (hcb x)
  have hle : ((a ++ b).length : Int) ≤ 140737488351232 := by rw [List.length_append]; omega
  have H12 : Hid (Calls Tryz.prog 12 #[.slice (some ⟨w.heap.size, 0, none⟩) 2 2] W0 fun e w' => (∃ v, e = .returned v ∧ w'.ownsRow W0.heap.size 30 3 v (a ++ b).length (mtL (a ++ b))) ∧ Below W0.heap.size W0 w') :=
    concatM_any w.heap.size sa sb ca cb a b W0 (ha.later hb0) (hb.later hb0) (by omega) (by rw [cell_of_row _ _ _ _ _ _ hr0, hna]; rfl) (by rw [cell_of_row _ _ _ _ _ _ hr0, hnb]; rfl)
  have HW : Hid (Below w.heap.size w W0 ∧ Tabs w ∧ (∀ x ∈ a ++ b, CanM x) ∧ ((a ++ b).length : Int) ≤ 140737488351232) := ⟨hb0, hT, hcan, hle⟩
  have HW0 : Hid (w.alloc (.cells #[.slice sa na ca, .slice sb nb cb] 23) = W0) := hW0
  rw [hna, hnb]
  clear ha hb h1 hT hca hcb hb0 hr0 hcan hle hna hnb hW0
  go_enter Tryz.func6, Tryz.ntmps6
  go_wp2_with fail
  rw [HW0.out]
  refine H12.out.mono ?_
  rintro e w1 ⟨⟨v1, rfl, hown1⟩, hb1⟩
  obtain ⟨l, hl⟩ : ∃ l, a ++ b = l := ⟨_, rfl⟩
  have HM : Hid (∀ x, x ∈ l ↔ x ∈ a ∨ x ∈ b) := fun x => by rw [← hl]; exact List.mem_append
  rw [hl] at hown1 HW
  obtain ⟨n, hn⟩ : ∃ n, l.length = n := ⟨_, rfl⟩
  have h13 : Calls Tryz.prog 13 #[v1] w1 fun e w' => e = .returned (.int .i64 (ffI l)) ∧ Below w1.heap.size w1 w' := by
    obtain ⟨s1, c1, e1, m1⟩ := own_mts hown1 (fun x hx => (HW.out.2.2.1 x hx).1)
    rw [e1]
    exact ff_any s1 c1 l w1 m1 HW.out.2.2.2 (HW.out.2.1.later (HW.out.1.trans (hb1.mono HW.out.1.size)))
  have H13 : Hid (Calls Tryz.prog 13 #[v1] w1 fun e w' => e = .returned (.int .i64 (ffI l)) ∧ Below w1.heap.size w1 w') := h13
  have HO1 : Hid (w1.ownsRow W0.heap.size 30 3 v1 l.length (mtL l) ∧ Below W0.heap.size W0 w1) := ⟨hown1, hb1⟩
  obtain ⟨s1, c1, e1⟩ := own_slice hown1
  rw [hn] at e1
  subst e1
  clear hown1 hb1 hl h13 H12
  obtain ⟨F, hF⟩ : ∃ F, ffI l = F := ⟨_, rfl⟩
  rw [hF] at H13
  clear hF
  go_wp2_with fail
  refine H13.out.mono ?_
  rintro e w2 ⟨rfl, hb2⟩
  have HO2 : Hid (w2.ownsRow W0.heap.size 30 3 (.slice s1 n c1) l.length (mtL l) ∧ Below W0.heap.size W0 w2) := ⟨own_at HO1.out.1 fun p hp => hb2.block p (HO1.out.1.lt p hp).2, HO1.out.2.trans (hb2.mono HO1.out.2.size)⟩
  have H14 : Hid (Calls Tryz.prog 14 #[.slice s1 n c1, .func (.func 15) #[] #[]] w2 fun e w' => e = .returned (.tuple #[]) ∧ ∃ d : List Mt, d.Perm l ∧ w'.ownsRow W0.heap.size 30 3 (.slice s1 n c1) d.length (mtL d) ∧ w2.grownBy w' (Value.slice s1 n c1).ownBlock) :=
    letI : Inhabited Mt := ⟨⟨0, [], []⟩⟩
    sort_anyM W0.heap.size (.slice s1 n c1) l w2 HO2.out.1 (by have := HW.out.2.2.2; omega)
  clear hb2 H13
  go_wp2_with fail
  refine H14.out.mono ?_
  rintro e w3 ⟨rfl, d, hd, hown3, hg3⟩
  have HO3 : Hid (w3.ownsRow W0.heap.size 30 3 (.slice s1 n c1) d.length (mtL d) ∧ Below W0.heap.size W0 w3 ∧ d.Perm l) := ⟨hown3, HO2.out.2.grown hg3 HO2.out.2.size (own_blockM HO2.out.1), hd⟩
  have H16 : Hid (Calls Tryz.prog 16 #[.slice s1 n c1] w3 fun e w' => (∃ v', e = .returned v' ∧ ∃ d' : List Mt, (∀ x, x ∈ d' ↔ x ∈ d) ∧ d'.length ≤ d.length ∧ w'.ownsRow W0.heap.size 30 3 v' d'.length (mtL d')) ∧ w3.grownBy w' (Value.slice s1 n c1).ownBlock) :=
    compact_any W0.heap.size (.slice s1 n c1) d w3 hown3 (fun x hx => HW.out.2.2.1 x (hd.mem_iff.1 hx)) (by have := HW.out.2.2.2; have := hd.length_eq; omega)
  clear hown3 hg3 hd H14
  go_wp2_with fail
  refine H16.out.mono ?_
  rintro e w4 ⟨⟨v4, rfl, d', hm4, hl4, hown4⟩, hg4⟩
  obtain ⟨s4, c4, e4, m4⟩ := own_mts hown4 (fun x hx => (HW.out.2.2.1 x (HO3.out.2.2.mem_iff.1 ((hm4 x).1 hx))).1)
  have hlen : (d'.length : Int) ≤ 140737488351232 := by have h1 := HW.out.2.2.2; have h2 := HO3.out.2.2.length_eq; omega
  have HB4 : Hid (Below w.heap.size w w4) := by
    have hb := HO3.out.2.1.grown hg4 HO3.out.2.1.size (own_blockM HO3.out.1)
    exact HW.out.1.trans (hb.mono HW.out.1.size)
  have HM4 : Hid (∀ x, x ∈ d' ↔ x ∈ a ∨ x ∈ b) := fun x => by rw [hm4 x, HO3.out.2.2.mem_iff, HM.out x]
  obtain ⟨n4, hn4⟩ : ∃ n4, d'.length = n4 := ⟨_, rfl⟩
  have HMT : Hid (Mts w4 s4 c4 d' ∧ d'.length = n4) := ⟨m4, hn4⟩
  rw [hn4] at e4 hlen
  subst e4
  clear hm4 hl4 hown4 hg4 m4 hn4 H16
  by_cases h8 : 8 < (n4 : Int)
  · go_wp2_with fail
    go_ret2
    exact ⟨⟨none, 0, 0, 7, rfl, fun h => by cases h⟩, HB4.out⟩
  · by_cases hF : F = 0
    · subst hF
      go_wp2_with fail
      go_ret2
      exact ⟨⟨s4, n4, c4, 0, rfl, fun _ => ⟨d', HM4.out, HMT.out.2, by omega, HMT.out.1⟩⟩, HB4.out⟩
    · have hF' : (F != 0) = true := by simpa using hF
      have HF : Hid (F ≠ 0) := hF
      clear hF
      go_wp2_with fail
      go_ret2
      exact ⟨⟨none, 0, 0, F, rfl, fun h => (HF.out h).elim⟩, HB4.out⟩
end Go.Proofs.YtgmpmpgfpchbcaaGreatDoor
