/- A text read as a digest. -/
import Derived.Test.YtfdmepblhlifcaaDoorE1
namespace Go.Proofs.YtfdmepblhlifcaaDoor
open Go.RowKit
set_option linter.unusedVariables false
set_option linter.unusedSimpArgs false

theorem shl4 (x : Int) (h0 : 0 ≤ x) (h1 : x ≤ 15) : x * 16 % 256 = 16 * x := by omega
theorem or_dig (a b : Int) (a0 : 0 ≤ a) (a1 : a ≤ 15) (b0 : 0 ≤ b) (b1 : b ≤ 15) : bits .or .u8 (a * 16) b = 16 * a + b := by
  have all : ∀ i j : Fin 16, bits .or .u8 ((i.val : Int) * 16) (j.val : Int) = 16 * (i.val : Int) + (j.val : Int) := by decide +kernel
  have := all ⟨a.toNat, by omega⟩ ⟨b.toNat, by omega⟩
  simp only at this
  rwa [show (a.toNat : Int) = a by omega, show (b.toNat : Int) = b by omega] at this
theorem read_short (l : List UInt8) (h : ¬ l.length = 64) : Read l (List.replicate 32 0) 3 := .inr ⟨fun hh => h hh.1, rfl, rfl⟩
theorem read_bad (l : List UInt8) (k : Nat) (hk : k < 32) (h : ¬ (0 ≤ hiI l k ∧ 0 ≤ loI l k)) : Read l (List.replicate 32 0) 3 := .inr ⟨fun hh => h (hh.2 k hk), rfl, rfl⟩
theorem set1_row {w : World} {g j : Nat} {ty : TypeId} {P R : List Int} {a A : Int} (hj : P.length = j) (h : w.heap[g]? = some (.cells (u8s (P ++ a :: R)) ty (0, 0))) :
    (w.setCell ⟨g, j, none⟩ (.int .u8 A)).heap[g]? = some (.cells (u8s (P ++ A :: R)) ty (0, 0)) := by
  subst hj
  have h0 := heap_setCell_same _ _ P.length _ _ (.int .u8 A) h
  rw [set_u8s, List.set_append_right _ _ (by omega)] at h0
  simp only [Nat.sub_self, List.set_cons_zero] at h0
  exact h0

theorem load23 {w : World} {g : Nat} {d : List Int} (h : w.heap[g]? = some (.cells (u8s d) 23 (0, 0))) (hd : d.length = 32) : (loadVar 23 ⟨g, 0, none⟩).run Tryd.prog w = .ok (.agg (u8s d)) w :=
  run_loadVar_row w g 23 23 (u8s d) (0, 0) _ h Tryd.underlying23 rfl (by rw [size_u8s, hd]; kernel_rfl)

set_option maxRecDepth 20000 in
set_option maxHeartbeats 4000000 in
theorem unhex_short (l : List UInt8) (w : World) (h64 : ¬ l.length = 64) :
    Calls Tryd.prog 16 #[.string ⟨l.toArray⟩] w fun e w' => (∃ d c, e = .returned (.tuple #[.agg (u8s d), .int .i64 c]) ∧ d.length = 32 ∧ Read l d c) ∧ Below w.heap.size w w' := by
  have HS : Hid (Read l (List.replicate 32 0) 3) := read_short l h64
  have hne : ((l.length : Int) != 64) = true := by simpa using (by omega : ¬ (l.length : Int) = 64)
  clear h64
  go_enter Tryd.func16, Tryd.ntmps16
  go_wp2_with (refine wpList_store_row rfl 23 _ _ rfl w.heap.size (u8s (List.replicate 32 0)) rfl rfl 23 (u8s (List.replicate 32 0)) ?h1 ?h2 ?h3 (one_u8s _) ?_)
  case h1 => exact (Below.heap_alloc _ _ _ (by simp)).trans (Go.heap_alloc_new _ _)
  case h2 => kernel_rfl
  case h3 => rfl
  refine bodyPost_ret (v := .tuple #[.agg (u8s (List.replicate 32 0)), .int .i64 3]) (results_pair Tryd.results16 _ _ w.heap.size (u8s (List.replicate 32 0)) _ rfl rfl (load23 (setRow_heap _ _ _ _ _ _ ((Below.heap_alloc _ _ _ (by simp)).trans (Go.heap_alloc_new _ _))) rfl)) rfl ⟨⟨_, _, rfl, rfl, HS.out⟩, below_setRow (((Below.refl _ w).alloc (Nat.le_refl _) _).alloc (by simp) _) (Nat.le_refl _) _⟩

set_option maxRecDepth 20000 in
set_option maxHeartbeats 4000000 in
theorem unhex_full (l : List UInt8) (w : World) (h64 : l.length = 64) :
    Calls Tryd.prog 16 #[.string ⟨l.toArray⟩] w fun e w' => (∃ d c, e = .returned (.tuple #[.agg (u8s d), .int .i64 c]) ∧ d.length = 32 ∧ Read l d c) ∧ Below w.heap.size w w' := by
  have HL : Hid (l.length = 64) := h64
  have hne : ((l.length : Int) != 64) = false := by simpa using (by omega : (l.length : Int) = 64)
  clear h64
  go_enter Tryd.func16, Tryd.ntmps16
  go_wp2_with fail
  go_loopw [5, 6, 7, 8, 9, 14] (fun x5 x6 x7 x8 x9 v wr => ∃ k : Nat, k ≤ 32 ∧ v = .int .i64 k ∧ RightI l k ∧ wr.heap[w.heap.size + 1]? = some (.cells (u8s (outI l k ++ List.replicate (32 - k) 0)) 23 (0, 0)) ∧ wr.heap[w.heap.size]? = some (.cells (u8s (List.replicate 32 0)) 23 (0, 0)) ∧ Below w.heap.size w wr) (fun x5 x6 x7 x8 x9 v wr => 32 - (intOf v).toNat)
  case atStart =>
    refine ⟨0, by omega, rfl, fun j hj => (Nat.not_lt_zero _ hj).elim, ?_, ?_, ?_⟩
    · have h := Go.heap_alloc_new (w.alloc (.cells (u8s (List.replicate 32 0)) 23)) (.cells (u8s (List.replicate 32 0)) 23)
      simp only [World.size_alloc] at h
      exact h
    · exact (Below.heap_alloc _ _ _ (by simp)).trans (Go.heap_alloc_new _ _)
    · exact ((Below.refl _ w).alloc (Nat.le_refl _) _).alloc (by simp) _
  case round =>
    obtain ⟨k, hk, rfl, hright, q1, q2, hbel⟩ := hrel
    have HQ1 : Hid (wr.heap[w.heap.size + 1]? = some (.cells (u8s (outI l k ++ List.replicate (32 - k) 0)) 23 (0, 0))) := q1
    have HQ2 : Hid (wr.heap[w.heap.size]? = some (.cells (u8s (List.replicate 32 0)) 23 (0, 0))) := q2
    have HR : Hid (RightI l k) := hright
    clear q1 q2 hright
    by_cases hlt : k < 32
    · have hlt' : (k : Int) < 32 := by omega
      have e2 : 2 * (k : Int) = ((2 * k : Nat) : Int) := by omega
      have e3 : 2 * (k : Int) + 1 = ((2 * k + 1 : Nat) : Int) := by omega
      have hx := run_index_str l (2 * k) (by rw [HL.out]; omega) wr
      have hy := run_index_str l (2 * k + 1) (by rw [HL.out]; omega) wr
      rw [← e2] at hx
      rw [← e3] at hy
      obtain ⟨x0, x1⟩ := at_bd l (2 * k)
      obtain ⟨y0, y1⟩ := at_bd l (2 * k + 1)
      have HHI : Hid (hiI l k = valI (atI l (2 * k))) := rfl
      have HLO : Hid (loI l k = valI (atI l (2 * k + 1))) := rfl
      generalize atI l (2 * k) = x at hx x0 x1 HHI
      generalize atI l (2 * k + 1) = y at hy y0 y1 HLO
      have hl32 : (outI l k ++ List.replicate (32 - k) 0).length = 32 := by simp [out_len]; omega
      obtain ⟨z0, c0⟩ : ∃ z, wr.cell? ⟨w.heap.size + 1, k, none⟩ = some (.int .u8 z) := ⟨_, by rw [cell_of_row _ _ _ _ _ _ HQ1.out, get_u8s _ _ (by omega)]⟩
      have f0 : wr.frozen? ⟨w.heap.size + 1, k, none⟩ = false := frozen_of_row _ _ _ _ _ HQ1.out
      clear hl32 e2 e3
      have bx := val_bd x
      have by' := val_bd y
      by_cases hgx : 0 ≤ valI x
      · have kx : dkI x = true := by unfold dkI; exact decide_eq_true hgx
        have vx : dvI x = valI x := by unfold dvI; rw [if_neg (by omega)]
        by_cases hgy : 0 ≤ valI y
        · have ky : dkI y = true := by unfold dkI; exact decide_eq_true hgy
          have vy : dvI y = valI y := by unfold dvI; rw [if_neg (by omega)]
          have s2 := or_dig (valI x) (valI y) hgx bx.2 hgy by'.2
          generalize valI x = vx' at *
          generalize valI y = vy' at *
          go_wp2_with fail
          refine (digit_any x wr x0 x1).mono ?_
          rintro e w1 ⟨rfl, hw1⟩
          rw [hw1, kx, vx]; clear hw1 w1 kx vx
          go_wp2_with fail
          refine (digit_any y wr y0 y1).mono ?_
          rintro e w1 ⟨rfl, hw1⟩
          rw [hw1, ky, vy]; clear hw1 w1 ky vy
          go_wp2_with fail
          go_roundw
          case rel =>
            refine ⟨k + 1, by omega, by go_num, ?_, ?_, ?_, ?_⟩
            · intro j hj
              rcases Nat.lt_succ_iff_lt_or_eq.1 hj with h | h
              · exact HR.out j h
              · subst h; rw [HHI.out, HLO.out]; exact ⟨hgx, hgy⟩
            · have hq := HQ1.out
              rw [show 32 - k = (32 - (k + 1)) + 1 by omega, List.replicate_succ] at hq
              have h := set1_row (A := 16 * vx' + vy') (j := k) (out_len l k) hq
              refine h.trans ?_
              rw [out_snoc, HHI.out, HLO.out, List.append_assoc]
              rfl
            · exact (Below.heap_setCell _ _ _ _ (by simp)).trans HQ2.out
            · exact hbel.setCell (by dsimp only; omega) _
          case measure => simp [intOf]; omega
        · have ky : dkI y = false := by unfold dkI; exact decide_eq_false hgy
          have HRD : Hid (Read l (List.replicate 32 0) 3) := read_bad l k hlt (by rw [HLO.out]; exact fun hh => hgy hh.2)
          generalize valI x = vx' at *
          generalize dvI y = vy' at *
          clear hgy by'
          go_wp2_with fail
          refine (digit_any x wr x0 x1).mono ?_
          rintro e w1 ⟨rfl, hw1⟩
          rw [hw1, kx, vx]; clear hw1 w1 kx vx
          go_wp2_with fail
          refine (digit_any y wr y0 y1).mono ?_
          rintro e w1 ⟨rfl, hw1⟩
          rw [hw1, ky]; clear hw1 w1 ky
          go_wp2_with (refine wpList_store_row rfl 23 _ _ rfl w.heap.size (u8s (List.replicate 32 0)) rfl rfl 23 (u8s (List.replicate 32 0)) HQ2.out ?h2 ?h3 (one_u8s _) ?_)
          case h2 => kernel_rfl
          case h3 => rfl
          refine bodyPost_ret (v := .tuple #[.agg (u8s (List.replicate 32 0)), .int .i64 3]) (results_pair Tryd.results16 _ _ w.heap.size (u8s (List.replicate 32 0)) _ rfl rfl (load23 (setRow_heap _ _ _ _ _ _ HQ2.out) rfl)) rfl ⟨⟨_, _, rfl, rfl, HRD.out⟩, below_setRow hbel (Nat.le_refl _) _⟩
      · have kx : dkI x = false := by unfold dkI; exact decide_eq_false hgx
        have HRD : Hid (Read l (List.replicate 32 0) 3) := read_bad l k hlt (by rw [HHI.out]; exact fun hh => hgx hh.1)
        generalize dvI x = vx' at *
        clear hgx bx
        go_wp2_with fail
        refine (digit_any x wr x0 x1).mono ?_
        rintro e w1 ⟨rfl, hw1⟩
        rw [hw1, kx]; clear hw1 w1 kx
        go_wp2_with fail
        refine (digit_any y wr y0 y1).mono ?_
        rintro e w1 ⟨rfl, hw1⟩
        rw [hw1]; clear hw1 w1
        go_wp2_with (refine wpList_store_row rfl 23 _ _ rfl w.heap.size (u8s (List.replicate 32 0)) rfl rfl 23 (u8s (List.replicate 32 0)) HQ2.out ?h2 ?h3 (one_u8s _) ?_)
        case h2 => kernel_rfl
        case h3 => rfl
        refine bodyPost_ret (v := .tuple #[.agg (u8s (List.replicate 32 0)), .int .i64 3]) (results_pair Tryd.results16 _ _ w.heap.size (u8s (List.replicate 32 0)) _ rfl rfl (load23 (setRow_heap _ _ _ _ _ _ HQ2.out) rfl)) rfl ⟨⟨_, _, rfl, rfl, HRD.out⟩, below_setRow hbel (Nat.le_refl _) _⟩
    · have hk8 : k = 32 := by omega
      subst hk8
      rw [show ((32 : Nat) : Int) = 32 from rfl]
      have HQ' : Hid (wr.heap[w.heap.size + 1]? = some (.cells (u8s (outI l 32)) 23 (0, 0))) := by
        have h := HQ1.out
        show _ = _
        simpa using h
      have HOL : Hid ((outI l 32).length = 32) := out_len l 32
      have HRD : Hid (Read l (outI l 32) 0) := .inl ⟨HL.out, HR.out, rfl, rfl⟩
      generalize outI l 32 = O at HQ' HOL HRD
      clear hlt hk
      go_wp2_with (first | (refine wpList_load_row rfl 23 _ rfl (w.heap.size + 1) rfl 23 (u8s O) (0, 0) _ HQ'.out Tryd.underlying23 rfl ?h1 ?_) | (refine wpList_store_row rfl 23 _ _ rfl w.heap.size (u8s O) rfl rfl 23 (u8s (List.replicate 32 0)) HQ2.out ?h2 ?h3 (one_u8s _) ?_))
      case h1 => rw [size_u8s, HOL.out]; kernel_rfl
      case h2 => rw [size_u8s, HOL.out]; kernel_rfl
      case h3 => simp [size_u8s, HOL.out]
      refine bodyPost_ret (v := .tuple #[.agg (u8s O), .int .i64 0]) (results_pair Tryd.results16 _ _ w.heap.size (u8s O) _ rfl rfl (load23 (setRow_heap _ _ _ _ _ _ HQ2.out) HOL.out)) rfl ⟨⟨_, _, rfl, HOL.out, HRD.out⟩, below_setRow hbel (Nat.le_refl _) _⟩
theorem unhex_any (l : List UInt8) (w : World) :
    Calls Tryd.prog 16 #[.string ⟨l.toArray⟩] w fun e w' => (∃ d c, e = .returned (.tuple #[.agg (u8s d), .int .i64 c]) ∧ d.length = 32 ∧ Read l d c) ∧ Below w.heap.size w w' := by
  by_cases h : l.length = 64
  · exact unhex_full l w h
  · exact unhex_short l w h
end Go.Proofs.YtfdmepblhlifcaaDoor
