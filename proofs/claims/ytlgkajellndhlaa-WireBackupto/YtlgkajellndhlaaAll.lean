/- Fields of a number. -/
import Derived.Test.YtlgkajellndhlaaGiven
import Derived.Laws.OwnMore
namespace Go.Proofs.Ytlgkajellndhlaa
open Go.RowKit
set_option linter.unusedVariables false
set_option linter.unusedSimpArgs false

set_option maxRecDepth 20000 in
set_option maxHeartbeats 1000000 in
theorem clone_any (v : Value) (bs : List Int) (w : World) (hS : Src w v bs) (hl : bs.length ≤ 9000000) : Calls Try.prog 37 #[v] w fun e w' => (∃ v', e = .returned v' ∧ w'.ownsRow w.heap.size 5 1 v' bs.length (u8l bs)) ∧ Below w.heap.size w w' := by
  rcases hS with ⟨rfl, rfl⟩ | ⟨ad, cap, rfl, hcap, hC⟩
  · have hq : ∀ w, (binOp .eql 25 (.slice none 0 0) (.slice none 0 0)).run Try.prog w = .ok (.bool true) w := fun w => by kernel_rfl
    go_enter Try.func37, Try.ntmps37
    go_wp2_with fail
    go_ret
    exact ⟨⟨_, rfl, World.ownsRow_nil _ _ _ _⟩, Below.refl _ _⟩
  · have HS : Hid (Src w (.slice (some ad) bs.length cap) bs ∧ bs.length ≤ 9000000) := ⟨.inr ⟨ad, cap, rfl, hcap, hC⟩, hl⟩
    obtain ⟨L, hL⟩ : ∃ L, bs.length = L := ⟨_, rfl⟩
    have HL : Hid (bs.length = L) := hL
    rw [hL] at HS ⊢
    have hq : ∀ w, (binOp .eql 25 (.slice (some ad) L cap) (.slice none 0 0)).run Try.prog w = .ok (.bool false) w := fun w => by kernel_rfl
    clear hcap hC hl hL
    go_enter Try.func37, Try.ntmps37
    go_wp2_with (at_builtin; (refine wpList_append_src rfl (.tmp 5) (.tmp 6) rfl w.heap.size (.slice (some ⟨w.heap.size, 0, none⟩) 0 0) 0 [] rfl (World.ownsRow_lit w #[] 0 (Nat.le_refl _) (by decide) rfl) (.slice (some ad) L cap) bs rfl (HS.out.1.later (bel1 _ _)) (by have h1 := HS.out.2; have h2 := HL.out; omega) (by simp) ?_; intro v' w' ho' hg'))
    go_ret
    refine ⟨⟨_, rfl, ?_⟩, (bel1 _ _).grown hg' (by simp) ?_⟩
    · have h := ho'
      rw [Nat.zero_add, List.nil_append, HL.out] at h
      exact h
    · intro q hq'
      simp [Value.ownBlock] at hq'
      omega

set_option maxRecDepth 20000 in
set_option maxHeartbeats 1000000 in
theorem ownField_any (A T X : Int) (sa : Option Addr) (l c : Nat) (bs : List Int) (w : World) (hS : Src w (.slice sa l c) bs) (hl : bs.length ≤ 9000000) :
    Calls Try.prog 27 #[.agg #[.int .i64 A, .int .i64 T, .int .u64 X, .slice sa l c]] w fun e w' => (∃ v', e = .returned (.agg #[.int .i64 A, .int .i64 T, .int .u64 X, v']) ∧ w'.ownsRow w.heap.size 5 1 v' bs.length (u8l bs)) ∧ Below w.heap.size w w' := by
  have HS : Hid (Src w (.slice sa l c) bs ∧ bs.length ≤ 9000000) := ⟨hS, hl⟩
  clear hS hl
  go_enter Try.func27, Try.ntmps27
  go_wp2_with fail
  obtain ⟨W, hW⟩ : ∃ W, (w.alloc (.cells #[.int .i64 A, .int .i64 T, .int .u64 X, .slice sa l c] 35)).alloc (.cells #[.int .i64 0, .int .i64 0, .int .u64 0, .slice none 0 0] 35) = W := ⟨_, rfl⟩
  have HBW : Hid (Below w.heap.size w W) := by show Below _ _ _; rw [← hW]; exact (bel1 _ _).alloc (by simp) _
  have HWS : Hid (W.heap.size = w.heap.size + 2) := by show _ = _; rw [← hW]; simp
  have HX0 : Hid (W.heap[w.heap.size]? = some (.cells #[.int .i64 A, .int .i64 T, .int .u64 X, .slice sa l c] 35 (0, 0))) := by show _ = _; rw [← hW, Below.heap_alloc _ _ _ (by simp)]; exact Go.heap_alloc_new _ _
  have HX1 : Hid (W.heap[w.heap.size + 1]? = some (.cells #[.int .i64 0, .int .i64 0, .int .u64 0, .slice none 0 0] 35 (0, 0))) := by
    show _ = _
    rw [← hW]
    have h := Go.heap_alloc_new (w.alloc (.cells #[.int .i64 A, .int .i64 T, .int .u64 X, .slice sa l c] 35)) (.cells #[.int .i64 0, .int .i64 0, .int .u64 0, .slice none 0 0] 35)
    simp only [World.size_alloc] at h
    exact h
  rw [hW]
  clear hW
  refine (clone_any (.slice sa l c) bs W (HS.out.1.later HBW.out) HS.out.2).mono ?_
  rintro e w1 ⟨⟨v1, rfl, ho1⟩, hb1⟩
  obtain ⟨va, vc, hv⟩ := own_slice ho1
  subst hv
  have HO1 : Hid (w1.ownsRow W.heap.size 5 1 (.slice va bs.length vc) bs.length (u8l bs)) := ho1
  have HB1 : Hid (Below W.heap.size W w1) := hb1
  have HY0 : Hid (w1.heap[w.heap.size]? = some (.cells #[.int .i64 A, .int .i64 T, .int .u64 X, .slice sa l c] 35 (0, 0))) := (hb1.block _ (by have := HWS.out; omega)).trans HX0.out
  have HY1 : Hid (w1.heap[w.heap.size + 1]? = some (.cells #[.int .i64 0, .int .i64 0, .int .u64 0, .slice none 0 0] 35 (0, 0))) := (hb1.block _ (by have := HWS.out; omega)).trans HX1.out
  obtain ⟨a0, a1, a2, a3⟩ := box4b (base := 0) HY0.out rfl
  obtain ⟨b0, b1, b2, b3⟩ := box4b (base := 0) HY1.out rfl
  have fa := fun k => frozen_of_row _ _ k _ _ HY0.out
  have fb := fun k => frozen_of_row _ _ k _ _ HY1.out
  obtain ⟨M, hM⟩ : ∃ M, bs.length = M := ⟨_, rfl⟩
  have HM : Hid (bs.length = M) := hM
  rw [hM] at HO1 ⊢
  clear ho1 hb1 hM
  go_wp2_with fail
  refine bodyPost_ret (v := .agg #[.int .i64 A, .int .i64 T, .int .u64 X, .slice va M vc]) (by simp [results, Try.results27, go_sem, b0, b1, b2, b3]) rfl ⟨⟨_, rfl, ?_⟩, ?_⟩
  · rw [HM.out]
    refine own_low (own_at HO1.out fun q hq => ?_) (by have := HWS.out; omega)
    have h1 := (HO1.out.lt q hq).1
    have h2 := HWS.out
    rw [Below.heap_setCell _ _ _ _ (by show q ≠ w.heap.size + 1; omega), Below.heap_setCell _ _ _ _ (by show q ≠ w.heap.size + 1; omega), Below.heap_setCell _ _ _ _ (by show q ≠ w.heap.size + 1; omega), Below.heap_setCell _ _ _ _ (by show q ≠ w.heap.size + 1; omega), Below.heap_setCell _ _ _ _ (by show q ≠ w.heap.size; omega)]
  · exact (((((HBW.out.trans (HB1.out.mono HBW.out.size)).setCell (Nat.le_refl _) _).setCell (by show w.heap.size ≤ w.heap.size + 1; omega) _).setCell (by show w.heap.size ≤ w.heap.size + 1; omega) _).setCell (by show w.heap.size ≤ w.heap.size + 1; omega) _).setCell (by show w.heap.size ≤ w.heap.size + 1; omega) _
end Go.Proofs.Ytlgkajellndhlaa
