/- A Keep that can be. -/
import Derived.Test.YtfllepgcgbpfiaaA9
import Derived.Deep.CutRange
namespace Go.Proofs.Ytfllepgcgbpfiaa
open Go.RowKit
set_option linter.unusedVariables false
set_option linter.unusedSimpArgs false

set_option maxRecDepth 20000 in
set_option maxHeartbeats 4000000 in
theorem canKeep_one (D base B F : Nat) (s : Int) (dv bv : Value) (zs bg : List Int) (w : World) (h : One w D base B F s dv bv zs bg) (g nc : Nat) (ns : List Int) (hc : ∀ i, i < ns.length → w.cell? ⟨g, i, none⟩ = some (.int .i64 (ns.getD i 0))) (hns : ∀ i, i < ns.length → 0 ≤ ns.getD i 0) (hl : ns.length ≤ bg.length) (hm : bg.length ≤ 1000) (hcap : ns.length ≤ nc) (hgl : g < w.heap.size) :
    Calls Try.prog 42 #[.pointer (some ⟨D, 0, none⟩), .agg #[.string ⟨#[97]⟩, .slice (some ⟨g, 0, none⟩) ns.length nc]] w fun e w' => e = .returned (.int .i64 0) ∧ Below w.heap.size w w' := by
  obtain ⟨ba, bc, hbv⟩ := own_slice h.begins
  obtain ⟨W, hW⟩ : ∃ W, w.alloc (.cells #[.string ⟨#[97]⟩, .slice (some ⟨g, 0, none⟩) ns.length nc] 45) = W := ⟨_, rfl⟩
  have hB : Below w.heap.size w W := by rw [← hW]; exact bel1 _ _
  have h2 : One W D base B F s dv bv zs bg := h.keep hB
  have cD : W.cell? ⟨D, 0, none⟩ = some (.map (some B)) := by rw [cell_of_row _ _ _ _ _ _ h2.disk]; rfl
  have cF : W.cell? ⟨F, 1, none⟩ = some bv := by rw [cell_of_row _ _ _ _ _ _ h2.file]; rfl
  have hx : W.heap[w.heap.size]? = some (.cells #[.string ⟨#[97]⟩, .slice (some ⟨g, 0, none⟩) ns.length nc] 45 (0, 0)) := by rw [← hW]; exact Go.heap_alloc_new _ _
  have x0 : W.cell? ⟨w.heap.size, 0, none⟩ = some (.string ⟨#[97]⟩) := by rw [cell_of_row _ _ _ _ _ _ hx]; rfl
  have x1 : W.cell? ⟨w.heap.size, 1, none⟩ = some (.slice (some ⟨g, 0, none⟩) ns.length nc) := by rw [cell_of_row _ _ _ _ _ _ hx]; rfl
  have HFI : Hid (Calls Try.prog 48 #[.pointer (some ⟨D, 0, none⟩), .string ⟨#[97]⟩] W fun e w' => e = .returned (.tuple #[.pointer (some ⟨F, 0, none⟩), .int .i64 0]) ∧ w' = W) := find_some D _ B 1 0 _ _ W cD h2.map fnd_a
  have HC : Hid (∀ i, i < ns.length → W.cell? ⟨g, i, none⟩ = some (.int .i64 (ns.getD i 0)) ∧ 0 ≤ ns.getD i 0) := fun i hi => ⟨(hB.cell (p := ⟨g, i, none⟩) hgl).trans (hc i hi), hns i hi⟩
  have HB : Hid (Below w.heap.size w W) := hB
  have hll : (ns.length : Int) ≤ (bg.length : Int) := by omega
  have hmm : (bg.length : Int) ≤ 1000 := by omega
  have hcc : (ns.length : Int) ≤ (nc : Int) := by omega
  have hdd : decide ((bg.length : Int) < (ns.length : Int)) = false := by simpa using hll
  rw [hbv] at cF
  clear h h2 hB hx hc hns hl hm hcap hbv
  generalize bg.length = m at *
  generalize ns.length = N at *
  go_enter Try.func42, Try.ntmps42
  go_wp2_with (go_at_call 48; refine HFI.out.mono ?_; rintro e w1 ⟨rfl, hw1⟩; rw [hw1]; clear hw1)
  go_quiet (fail)
  go_wp2
  obtain ⟨W3, hW3⟩ : ∃ W3, W.drewN nq = W3 := ⟨_, rfl⟩
  have HC3 : Hid (∀ i, i < N → W3.cell? ⟨g, i, none⟩ = some (.int .i64 (ns.getD i 0)) ∧ 0 ≤ ns.getD i 0) := by rw [← hW3]; exact fun i hi => HC.out i hi
  have HB3 : Hid (Below w.heap.size w W3) := by rw [← hW3]; exact ⟨HB.out.os, HB.out.tape, HB.out.output, HB.out.size, HB.out.block⟩
  rw [hW3]
  clear hW3 cD cF x0 x1 HC HB HFI hW
  go_loopw [31, 8] (fun i x wr => ∃ k : Nat, k ≤ N ∧ i = .int .i64 (k : Int) ∧ wr = W3) (fun i x wr => N - (intOf i).toNat)
  case atStart => exact ⟨0, by omega, rfl, rfl⟩
  case round =>
    obtain ⟨k, hk, rfl, rfl⟩ := hrel
    by_cases hlt : k < N
    · obtain ⟨c1, c2⟩ := HC3.out k hlt
      generalize ns.getD k 0 = X at c1 c2
      have c3 : ¬ (X < 0) := by omega
      go_wp2
      go_roundw
      case rel => exact ⟨k + 1, by omega, by go_num, trivial⟩
      case measure => simp [intOf]; omega
    · have hge : ¬ ((k : Int) < (N : Int)) := by omega
      go_wp2
      go_ret
      exact ⟨rfl, HB3.out⟩
end Go.Proofs.Ytfllepgcgbpfiaa
