/- Clone, Each. -/
import Derived.Test.YtnfocmoieofbpaaDoorE1
import Derived.Test.YtnfocmoieofbpaaDoorG1
namespace Go.Proofs.YtnfocmoieofbpaaDoor
open Go.RowKit Go.Shelf
set_option linter.unusedVariables false
set_option linter.unusedSimpArgs false

set_option maxRecDepth 20000 in
set_option maxHeartbeats 4000000 in
theorem clone_any (sa : Option Addr) (ca : Nat) (l : List At) (w : World) (hl : Ats w sa ca l) (h1 : (l.length + 1 : Int) * 32 ≤ 140737488355328) :
    Calls Tryd.prog 42 #[.slice sa l.length ca] w fun e w' => (∃ v, e = .returned v ∧ w'.ownsRow w.heap.size 45 2 v l.length (atL l)) ∧ Below w.heap.size w w' := by
  cases sa with
  | none =>
    have e : l = [] := by
      cases l with
      | nil => rfl
      | cons x r => obtain ⟨b, o, hsa, _⟩ := hl.cells 0 x rfl; cases hsa
    subst e
    clear hl
    have hq : ∀ w, (binOp .eql 22 (.slice none 0 ca) (.slice none 0 0)).run Tryd.prog w = .ok (.bool true) w := fun w => by kernel_rfl
    show Calls Tryd.prog 42 #[.slice none 0 ca] w _
    go_enter Tryd.func42, Tryd.ntmps42
    go_wp2_with fail
    go_ret
    exact ⟨⟨_, rfl, World.ownsRow_nil _ _ _ _⟩, Below.refl _ _⟩
  | some p =>
    obtain ⟨L, hL⟩ : ∃ L, l.length = L := ⟨_, rfl⟩
    have HL : Hid (Lie (w.alloc (.cells #[] 45)) (some p) l ∧ l.length = L) := ⟨(hl.later (bel1 _ _)).lie, hL⟩
    have HB : Hid ((0 + L) * 32 ≤ 140737488355328) := by show _ ≤ _; omega
    rw [hL]
    clear hl hL h1
    have hq : ∀ w, (binOp .eql 22 (.slice (some p) L ca) (.slice none 0 0)).run Tryd.prog w = .ok (.bool false) w := fun w => by kernel_rfl
    go_enter Tryd.func42, Tryd.ntmps42
    go_wp2_with (at_builtin; (refine wpList_append_ats rfl (.tmp 5) (.tmp 6) rfl w.heap.size (.slice (some ⟨w.heap.size, 0, none⟩) 0 0) 0 [] rfl (World.ownsRow_lit w #[] 0 (Nat.le_refl _) (by decide) rfl) (some p) ca L l HL.out.2 rfl HL.out.1 HB.out (by simp) ?_; intro v9 w9 ho9 hg9; (have HO9 : Hid (w9.ownsRow w.heap.size 45 2 v9 (0 + L) ([] ++ atL l) ∧ (w.alloc (.cells #[] 45)).grownBy w9 (Value.slice (some ⟨w.heap.size, 0, none⟩) 0 0).ownBlock) := ⟨ho9, hg9⟩); clear ho9 hg9; (obtain ⟨a9, k9, e9⟩ := own_slice HO9.out.1); subst e9))
    go_ret
    have hg := HO9.out.2
    have ho := HO9.out.1
    rw [Nat.zero_add, List.nil_append] at ho
    refine ⟨⟨_, by first | rfl | (simp only [Nat.zero_add]; rfl), ho⟩, (bel1 _ _).grown hg (by simp) ?_⟩
    intro q hq'
    simp [Value.ownBlock] at hq'
    omega
theorem own_from {w : World} {base n c m : Nat} {so : Option Addr} {xs : List Value} (h : w.ownsRow base 45 2 (.slice so n c) m xs) : ∀ b off, so = some ⟨b, off, none⟩ → base ≤ b := by
  intro b off e
  rcases h.2 with ⟨h1, _⟩ | ⟨g, cap, cur, h1, h2, _⟩
  · rw [e] at h1; cases h1
  · rw [e] at h1; cases h1; exact h2
set_option maxRecDepth 20000 in
theorem each_any (sa : Option Addr) (ca : Nat) (l : List At) (w : World) (hl : Ats w sa ca l) (h1 : (l.length + 1 : Int) * 32 ≤ 140737488355328) :
    Calls Tryd.prog 26 #[.slice sa l.length ca] w fun e w' => (∃ B s c, e = .returned (.func (.func 52) #[] #[.pointer (some ⟨B, 0, none⟩)]) ∧ w.heap.size ≤ B ∧ B < w'.heap.size ∧ w'.cell? ⟨B, 0, none⟩ = some (.slice s l.length c) ∧ Ats w' s c l ∧ ∀ b off, s = some ⟨b, off, none⟩ → w.heap.size ≤ b) ∧ Below w.heap.size w w' := by
  have H1 : Hid (Calls Tryd.prog 42 #[.slice sa l.length ca] w fun e w' => (∃ v, e = .returned v ∧ w'.ownsRow w.heap.size 45 2 v l.length (atL l)) ∧ Below w.heap.size w w') := clone_any sa ca l w hl h1
  have HC : Hid (∀ x ∈ l, Can x) := hl.can
  have H2 : Hid (∀ s n c W, Calls Tryd.prog 37 #[.slice s n c] W fun e w' => e = .returned (.func (.func 52) #[] #[.pointer (some ⟨W.heap.size, 0, none⟩)]) ∧ w' = W.alloc (.cells #[.slice s n c] 22)) := fun s n c W => pairs_any s n c W
  clear hl h1
  go_enter Tryd.func26, Tryd.ntmps26
  go_wp2_with (first | (go_at_call 42; refine H1.out.mono ?_; rintro e w1 ⟨⟨v1, rfl, ho⟩, hb⟩; (have HO : Hid (w1.ownsRow w.heap.size 45 2 v1 l.length (atL l) ∧ Below w.heap.size w w1) := ⟨ho, hb⟩); clear ho hb; (obtain ⟨so, co, e4, hS⟩ := own_ats HO.out.1 HC.out); subst e4; (have HS : Hid (Ats w1 so co l ∧ ∀ b off, so = some ⟨b, off, none⟩ → w.heap.size ≤ b) := ⟨hS, own_from HO.out.1⟩); clear hS) | (go_at_call 37; refine (H2.out so l.length co w1).mono ?_; rintro e w2 ⟨rfl, hw⟩; rw [hw]; clear hw))
  go_ret
  refine ⟨⟨w1.heap.size, so, co, rfl, HO.out.2.size, by simp, ?_, HS.out.1.later (bel1 _ _), HS.out.2⟩, HO.out.2.trans ((bel1 _ _).mono HO.out.2.size)⟩
  exact (Boxed.new w1 22 (.slice so l.length co)).cell
end Go.Proofs.YtnfocmoieofbpaaDoor
