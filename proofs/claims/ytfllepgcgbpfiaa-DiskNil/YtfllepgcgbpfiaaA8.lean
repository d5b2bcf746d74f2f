/- Bytes are cloned; a file is read; where a write ends. -/
import Derived.Test.YtfllepgcgbpfiaaA7
import Derived.Laws.OwnMore
namespace Go.Proofs.Ytfllepgcgbpfiaa
open Go.RowKit
set_option linter.unusedVariables false
set_option linter.unusedSimpArgs false

theorem bel1 (w : World) (o : Obj) : Below w.heap.size w (w.alloc o) := (Below.refl _ w).alloc (Nat.le_refl _) o
set_option maxRecDepth 20000 in
set_option maxHeartbeats 1000000 in
theorem clone_any (v : Value) (bs : List Int) (w : World) (hS : Src w v bs) (hl : bs.length ≤ 9000000) : Calls Try.prog 49 #[v] w fun e w' => (∃ v', e = .returned v' ∧ w'.ownsRow w.heap.size 5 1 v' bs.length (u8l bs)) ∧ Below w.heap.size w w' := by
  rcases hS with ⟨rfl, rfl⟩ | ⟨ad, cap, rfl, hcap, hC⟩
  · have hq : ∀ w, (binOp .eql 31 (.slice none 0 0) (.slice none 0 0)).run Try.prog w = .ok (.bool true) w := fun w => by kernel_rfl
    go_enter Try.func49, Try.ntmps49
    go_wp2_with fail
    go_ret
    exact ⟨⟨_, rfl, World.ownsRow_nil _ _ _ _⟩, Below.refl _ _⟩
  · have HS : Hid (Src w (.slice (some ad) bs.length cap) bs ∧ bs.length ≤ 9000000) := ⟨.inr ⟨ad, cap, rfl, hcap, hC⟩, hl⟩
    obtain ⟨L, hL⟩ : ∃ L, bs.length = L := ⟨_, rfl⟩
    have HL : Hid (bs.length = L) := hL
    rw [hL] at HS ⊢
    have hq : ∀ w, (binOp .eql 31 (.slice (some ad) L cap) (.slice none 0 0)).run Try.prog w = .ok (.bool false) w := fun w => by kernel_rfl
    clear hcap hC hl hL
    go_enter Try.func49, Try.ntmps49
    go_wp2_with (at_builtin; (refine wpList_append_src rfl (.tmp 5) (.tmp 6) rfl w.heap.size (.slice (some ⟨w.heap.size, 0, none⟩) 0 0) 0 [] rfl (World.ownsRow_lit w #[] 0 (Nat.le_refl _) (by decide) rfl) (.slice (some ad) L cap) bs rfl (HS.out.1.later (bel1 _ _)) (by have h1 := HS.out.2; have h2 := HL.out; omega) (by simp) ?_; intro v' w' ho' hg'))
    go_ret
    refine ⟨⟨_, rfl, ?_⟩, (bel1 _ _).grown hg' (by simp) ?_⟩
    · have h := ho'
      rw [Nat.zero_add, List.nil_append, HL.out] at h
      exact h
    · intro q hq'
      simp [Value.ownBlock] at hq'
      omega


set_option maxRecDepth 20000 in
set_option maxHeartbeats 4000000 in
theorem read_one (D base B F : Nat) (s : Int) (dv bv : Value) (zs bg : List Int) (w : World) (h : One w D base B F s dv bv zs bg) (hl : zs.length ≤ 9000000) :
    Calls Try.prog 20 #[.pointer (some ⟨D, 0, none⟩), .string ⟨#[97]⟩] w fun e w' => (∃ v', e = .returned (.tuple #[v', .int .i64 0]) ∧ w'.ownsRow w.heap.size 5 1 v' zs.length (u8l zs)) ∧ Below w.heap.size w w' := by
  obtain ⟨da, dc, hdv⟩ := own_slice h.data
  have cD : w.cell? ⟨D, 0, none⟩ = some (.map (some B)) := by rw [cell_of_row _ _ _ _ _ _ h.disk]; rfl
  have cF : w.cell? ⟨F, 0, none⟩ = some dv := by rw [cell_of_row _ _ _ _ _ _ h.file]; rfl
  have HFI : Hid (Calls Try.prog 48 #[.pointer (some ⟨D, 0, none⟩), .string ⟨#[97]⟩] w fun e w' => e = .returned (.tuple #[.pointer (some ⟨F, 0, none⟩), .int .i64 0]) ∧ w' = w) := find_some D _ B 1 0 _ _ w cD h.map fnd_a
  have HC : Hid (Calls Try.prog 49 #[dv] w fun e w' => (∃ v', e = .returned v' ∧ w'.ownsRow w.heap.size 5 1 v' zs.length (u8l zs)) ∧ Below w.heap.size w w') := clone_any dv zs w (own_src h.data) hl
  obtain ⟨M, hM⟩ : ∃ M, zs.length = M := ⟨_, rfl⟩
  rw [hM] at hdv HC ⊢
  rw [hdv] at cF HC
  clear h hl hdv hM
  go_enter Try.func20, Try.ntmps20
  go_wp2_with (first | (go_at_call 48; refine HFI.out.mono ?_; rintro e w1 ⟨rfl, hw1⟩; rw [hw1]; clear hw1) | (go_at_call 49; refine HC.out.mono ?_; rintro e w2 ⟨⟨v2, rfl, ho2⟩, hb2⟩; (have H2 : Hid (w2.ownsRow w.heap.size 5 1 v2 M (u8l zs) ∧ Below w.heap.size w w2) := ⟨ho2, hb2⟩); clear ho2 hb2))
  go_ret2
  exact ⟨⟨_, rfl, H2.out.1⟩, H2.out.2⟩
end Go.Proofs.Ytfllepgcgbpfiaa
