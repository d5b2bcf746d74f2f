/- Names in order, byte by byte: what is less, where a name stands in a list that rises. Nothing of a program. -/
import Derived.Lib.Bytealg
import Derived.Test.YtkigagglkmdccaaG0
namespace Go.Proofs.Ytkigagglkmdccaa
open Go.RowKit
set_option linter.unusedVariables false
set_option linter.unusedSimpArgs false

/-- One name is ahead of another one. -/
def lb (a b : List UInt8) : Prop := Lib.compareBytes a b < 0
instance (a b : List UInt8) : Decidable (lb a b) := inferInstanceAs (Decidable (Lib.compareBytes a b < 0))
theorem u8_or (x y : UInt8) : x < y ∨ y < x ∨ x = y := by
  rcases Nat.lt_trichotomy x.toNat y.toNat with h | h | h
  · exact .inl (UInt8.lt_iff_toNat_lt.2 h)
  · exact .inr (.inr (UInt8.toNat_inj.1 h))
  · exact .inr (.inl (UInt8.lt_iff_toNat_lt.2 h))
theorem u8_not {x y : UInt8} (h : x < y) : ¬ y < x := fun k => by
  have := UInt8.lt_iff_toNat_lt.1 h; have := UInt8.lt_iff_toNat_lt.1 k; omega
theorem u8_trans {x y z : UInt8} (h : x < y) (k : y < z) : x < z := by
  have := UInt8.lt_iff_toNat_lt.1 h; have := UInt8.lt_iff_toNat_lt.1 k
  exact UInt8.lt_iff_toNat_lt.2 (by omega)
theorem cb_anti : ∀ a b : List UInt8, Lib.compareBytes a b = - Lib.compareBytes b a
  | [], [] => rfl
  | [], _ :: _ => rfl
  | _ :: _, [] => rfl
  | x :: a, y :: b => by
    rcases u8_or x y with h | h | h
    · simp [Lib.compareBytes, h, u8_not h]
    · simp [Lib.compareBytes, h, u8_not h]
    · subst h
      have hx : ¬ x < x := fun k => u8_not k k
      simp [Lib.compareBytes, hx]
      exact cb_anti a b
theorem cb_zero : ∀ a b : List UInt8, Lib.compareBytes a b = 0 ↔ a = b
  | [], [] => by simp [Lib.compareBytes]
  | [], _ :: _ => by simp [Lib.compareBytes]
  | _ :: _, [] => by simp [Lib.compareBytes]
  | x :: a, y :: b => by
    rcases u8_or x y with h | h | h
    · have : x ≠ y := fun e => by subst e; exact u8_not h h
      simp [Lib.compareBytes, h, this]
    · have : x ≠ y := fun e => by subst e; exact u8_not h h
      simp [Lib.compareBytes, h, u8_not h, this]
    · subst h
      have hx : ¬ x < x := fun k => u8_not k k
      simp [Lib.compareBytes, hx]
      exact cb_zero a b
theorem lb_trans : ∀ a b c : List UInt8, lb a b → lb b c → lb a c
  | [], [], c, h, _ => by simp [lb, Lib.compareBytes] at h
  | [], y :: b, [], _, k => by simp [lb, Lib.compareBytes] at k
  | [], y :: b, z :: c, _, _ => by simp [lb, Lib.compareBytes]
  | x :: a, [], c, h, _ => by simp [lb, Lib.compareBytes] at h
  | x :: a, y :: b, [], _, k => by simp [lb, Lib.compareBytes] at k
  | x :: a, y :: b, z :: c, h, k => by
    simp only [lb, Lib.compareBytes] at h k ⊢
    rcases u8_or x y with h1 | h1 | h1
    · rcases u8_or y z with k1 | k1 | k1
      · simp [u8_trans h1 k1]
      · simp [k1, u8_not k1] at k
      · subst k1; simp [h1]
    · simp [h1, u8_not h1] at h
    · subst h1
      have hx : ¬ x < x := fun k => u8_not k k
      simp only [hx, if_false] at h
      rcases u8_or x z with k1 | k1 | k1
      · simp [k1]
      · simp [k1, u8_not k1] at k
      · subst k1
        simp only [hx, if_false] at k ⊢
        exact lb_trans a b c h k
theorem lb_irrefl (a : List UInt8) : ¬ lb a a := by
  have := (cb_zero a a).2 rfl
  unfold lb
  omega
theorem lb_ne {a b : List UInt8} (h : lb a b) : a ≠ b := fun e => by subst e; exact lb_irrefl a h
theorem lb_or (a b : List UInt8) : lb a b ∨ a = b ∨ lb b a := by
  have := cb_anti a b
  have := cb_zero a b
  unfold lb
  rcases Int.lt_trichotomy (Lib.compareBytes a b) 0 with h | h | h
  · exact .inl h
  · exact .inr (.inl ((cb_zero a b).1 h))
  · exact .inr (.inr (by omega))
/-- A list of names that rises. -/
def Up (ns : List (List UInt8)) : Prop := ns.Pairwise lb
/-- How many names are ahead of one. -/
def plI (ns : List (List UInt8)) (nm : List UInt8) : Nat := ns.countP (fun x => decide (lb x nm))
/-- Does it stand there? -/
def plB (ns : List (List UInt8)) (nm : List UInt8) : Bool := ns[plI ns nm]? == some nm
theorem plI_le (ns : List (List UInt8)) (nm : List UInt8) : plI ns nm ≤ ns.length := List.countP_le_length
/-- The place is where the first ones that are ahead of it end. -/
theorem plI_of : ∀ {ns : List (List UInt8)} {nm : List UInt8} (i : Nat), i ≤ ns.length → (∀ j x, j < i → ns[j]? = some x → lb x nm) → (∀ j x, i ≤ j → ns[j]? = some x → ¬ lb x nm) → plI ns nm = i
  | [], nm, i, hi, _, _ => by simp at hi; subst hi; rfl
  | y :: r, nm, 0, hi, _, h2 => by
    have h0 := h2 0 y (Nat.le_refl _) rfl
    have hr := plI_of (ns := r) (nm := nm) 0 (Nat.zero_le _) (fun j x hj => absurd hj (Nat.not_lt_zero _)) (fun j x _ hx => h2 (j + 1) x (Nat.zero_le _) (by simpa using hx))
    unfold plI at hr ⊢
    rw [List.countP_cons, hr]
    simp [h0]
  | y :: r, nm, i + 1, hi, h1, h2 => by
    have h0 := h1 0 y (by omega) rfl
    have hr := plI_of (ns := r) (nm := nm) i (by simpa using hi) (fun j x hj hx => h1 (j + 1) x (by omega) (by simpa using hx)) (fun j x hj hx => h2 (j + 1) x (by omega) (by simpa using hx))
    unfold plI at hr ⊢
    rw [List.countP_cons, hr]
    simp [h0]
/-- In a list that rises: what is ahead of the place is ahead of the name, and nothing from it on. -/
theorem pl_spec : ∀ {ns : List (List UInt8)}, Up ns → ∀ (nm : List UInt8), (∀ j x, j < plI ns nm → ns[j]? = some x → lb x nm) ∧ (∀ j x, plI ns nm ≤ j → ns[j]? = some x → ¬ lb x nm)
  | [], _, nm => ⟨fun j x _ h => by simp at h, fun j x _ h => by simp at h⟩
  | y :: r, h, nm => by
    have hr := List.pairwise_cons.1 h
    have ih := pl_spec (ns := r) hr.2 nm
    by_cases hy : lb y nm
    · have e : plI (y :: r) nm = plI r nm + 1 := by unfold plI; rw [List.countP_cons]; simp [hy]
      rw [e]
      refine ⟨fun j x hj hx => ?_, fun j x hj hx => ?_⟩
      · cases j with
        | zero => simp at hx; subst hx; exact hy
        | succ j => exact ih.1 j x (by omega) (by simpa using hx)
      · cases j with
        | zero => omega
        | succ j => exact ih.2 j x (by omega) (by simpa using hx)
    · have hno : ∀ x ∈ r, ¬ lb x nm := fun x hx k => hy (lb_trans _ _ _ (hr.1 x hx) k)
      have e : plI (y :: r) nm = 0 := by
        unfold plI
        rw [List.countP_eq_zero]
        intro x hx
        rcases List.mem_cons.1 hx with rfl | hx
        · simpa using hy
        · simpa using hno x hx
      rw [e]
      refine ⟨fun j x hj => absurd hj (Nat.not_lt_zero _), fun j x _ hx => ?_⟩
      rcases List.mem_cons.1 (List.mem_of_getElem? hx) with rfl | hx
      · exact hy
      · exact hno x hx
theorem plB_true {ns : List (List UInt8)} {nm : List UInt8} (h : plB ns nm = true) : ns[plI ns nm]? = some nm := by
  unfold plB at h
  simpa using h
theorem plB_false {ns : List (List UInt8)} (hu : Up ns) {nm : List UInt8} (h : plB ns nm = false) : ∀ x ∈ ns, x ≠ nm := by
  intro x hx e
  subst e
  obtain ⟨j, hj⟩ := List.getElem?_of_mem hx
  have hs := pl_spec hu x
  have h1 : ¬ j < plI ns x := fun k => lb_irrefl x (hs.1 j x k hj)
  have h2 : ¬ plI ns x < j := fun k => by
    obtain ⟨y, hy⟩ : ∃ y, ns[plI ns x]? = some y := ⟨_, List.getElem?_eq_getElem (by have := (List.getElem?_eq_some_iff.1 hj).1; omega)⟩
    refine hs.2 _ y (Nat.le_refl _) hy ?_
    have h3 := (List.getElem?_eq_some_iff.1 hy)
    have h4 := (List.getElem?_eq_some_iff.1 hj)
    have := List.pairwise_iff_getElem.1 hu (plI ns x) j h3.1 h4.1 k
    rw [h3.2, h4.2] at this
    exact this
  have e : plI ns x = j := by omega
  unfold plB at h
  rw [e, hj] at h
  simp at h
/-- Where it does not stand, what is from the place on is behind it. -/
theorem pl_behind {ns : List (List UInt8)} (hu : Up ns) {nm : List UInt8} (h : plB ns nm = false) : ∀ j x, plI ns nm ≤ j → ns[j]? = some x → lb nm x := by
  intro j x hj hx
  rcases lb_or x nm with k | k | k
  · exact absurd k ((pl_spec hu nm).2 j x hj hx)
  · exact absurd k (plB_false hu h x (List.mem_of_getElem? hx))
  · exact k
/-- A new name, put at its place. -/
def putN {β : Type} (l : List β) (i : Nat) (x : β) : List β := l.take i ++ x :: l.drop i
theorem Up.put {ns : List (List UInt8)} (hu : Up ns) {nm : List UInt8} (h : plB ns nm = false) : Up (putN ns (plI ns nm) nm) := by
  unfold Up putN
  rw [List.pairwise_append]
  refine ⟨hu.sublist (List.take_sublist _ _), ?_, ?_⟩
  · rw [List.pairwise_cons]
    refine ⟨fun x hx => ?_, hu.sublist (List.drop_sublist _ _)⟩
    obtain ⟨j, hj⟩ := List.getElem?_of_mem hx
    rw [List.getElem?_drop] at hj
    exact pl_behind hu h _ x (by omega) hj
  · intro x hx y hy
    obtain ⟨j, hj⟩ := List.getElem?_of_mem hx
    rw [List.getElem?_take] at hj
    split at hj
    · rename_i hlt
      have h1 := (pl_spec hu nm).1 j x hlt hj
      rcases List.mem_cons.1 hy with rfl | hy
      · exact h1
      · obtain ⟨k, hk⟩ := List.getElem?_of_mem hy
        rw [List.getElem?_drop] at hk
        exact lb_trans _ _ _ h1 (pl_behind hu h _ y (by omega) hk)
    · cases hj
theorem Up.take_out {ns : List (List UInt8)} (hu : Up ns) (i : Nat) : Up (ns.eraseIdx i) := hu.sublist (List.eraseIdx_sublist _ _)
end Go.Proofs.Ytkigagglkmdccaa
