/- The law of what fits: its parts. -/
import Derived.Test.YtgmpmpgfpchbcaaGreatDoorY4
import Derived.Deep.RegionHeld3
namespace Go.Proofs.YtgmpmpgfpchbcaaGreatDoor
open Go.RowKit Go.Shelf
set_option linter.unusedVariables false
set_option linter.unusedSimpArgs false

theorem fi_both (l : List At) (a b d : List Mt) (h : ∀ x, x ∈ d ↔ x ∈ a ∨ x ∈ b) : fiI l d = (fiI l a && fiI l b) := by
  unfold fiI
  rw [Bool.eq_iff_iff, Bool.and_eq_true, List.all_eq_true, List.all_eq_true, List.all_eq_true]
  exact ⟨fun g => ⟨fun x hx => g x ((h x).2 (.inl hx)), fun x hx => g x ((h x).2 (.inr hx))⟩, fun ⟨g1, g2⟩ x hx => ((h x).1 hx).elim (g1 x) (g2 x)⟩
theorem fi_one (l : List At) (x : Mt) : fiI l [x] = hoI x (vaI l x) := by simp [fiI]
theorem ho_other (l : List At) (x : Mt) (o : Int) (h : x.op = 1 ∧ o = 2 ∨ x.op = 2 ∧ o = 1 ∨ x.op = 3 ∧ o = 4 ∨ x.op = 4 ∧ o = 3) : fiI l [⟨o, x.key, x.val⟩] = !fiI l [x] := by
  rw [fi_one, fi_one, show vaI l ⟨o, x.key, x.val⟩ = vaI l x from rfl]
  generalize vaI l x = v
  obtain ⟨p, k, u⟩ := x
  simp only at h
  rcases h with ⟨rfl, rfl⟩ | ⟨rfl, rfl⟩ | ⟨rfl, rfl⟩ | ⟨rfl, rfl⟩ <;> simp [hoI]
theorem va_small (l : List At) (N : Nat) (hN : 0 < N) (hl : ∀ x ∈ l, x.2.length < N) (x : Mt) : (vaI l x).length < N := by
  unfold vaI
  cases hg : getI l x.key with
  | none => simpa using hN
  | some z =>
    have : ∀ (l : List At) (k v : List UInt8), getI l k = some v → ∃ y ∈ l, y.2 = v := by
      intro l
      induction l with
      | nil => intro k v h; simp [getI] at h
      | cons a r ih =>
        intro k v h
        unfold getI at h
        split at h
        · exact ⟨a, by simp, Option.some.inj h⟩
        · obtain ⟨y, hy, e⟩ := ih k v h; exact ⟨y, by simp [hy], e⟩
    obtain ⟨y, hy, e⟩ := this l x.key z hg
    show z.length < _
    rw [← e]
    exact hl y hy
theorem Mts.one {W : World} {b off cm c : Nat} {m : List Mt} (h : Mts W (some ⟨b, off, none⟩) cm m) (i : Nat) (x : Mt) (hx : m[i]? = some x) (hc : 1 ≤ c) : Mts W (some ⟨b, off + i * 3, none⟩) c [x] := by
  refine ⟨hc, fun j y hy => ?_, fun y hy => ?_⟩
  · cases j with
    | zero =>
      obtain ⟨b', off', e, h0, h1, h2⟩ := h.cells i x hx
      cases e
      simp at hy
      subst hy
      exact ⟨b, off + i * 3, rfl, by simpa using h0, by simpa using h1, by simpa using h2⟩
    | succ j => simp at hy
  · rw [List.mem_singleton] at hy
    rw [hy]
    exact h.can x (List.mem_of_getElem? hx)
theorem mts_row {W : World} {g : Nat} {x : Mt} (h : W.heap[g]? = some (.cells #[.int .i64 x.op, .string (tx x.key), .string (tx x.val)] 30 (0, 0))) (hc : (x.key.length : Int) ≤ 140737488351232 ∧ (x.val.length : Int) ≤ 140737488351232) : Mts W (some ⟨g, 0, none⟩) 1 [x] := by
  refine ⟨Nat.le_refl _, fun j y hy => ?_, fun y hy => ?_⟩
  · cases j with
    | zero =>
      simp at hy
      subst hy
      exact ⟨g, 0, rfl, by rw [cell_of_row _ _ _ _ _ _ h]; rfl, by rw [cell_of_row _ _ _ _ _ _ h]; rfl, by rw [cell_of_row _ _ _ _ _ _ h]; rfl⟩
    | succ j => simp at hy
  · rw [List.mem_singleton] at hy
    rw [hy]
    exact hc
/-- attr.Fits of any matchers, in any later world. -/
theorem fits_later (sl : Option Addr) (cl nl : Nat) (l : List At) (w : World) (hnl : l.length = nl) (hl : Ats w sl cl l) (h1 : (nl : Int) ≤ 140737488351232) (hv : ∀ x ∈ l, x.2.length < 4294967281) (hM : MaxL w) (W : World) (hb : Below w.heap.size w W) (s : Option Addr) (c : Nat) (z : List Mt) (k : Nat) (hz : z.length = k) (hm : Mts W s c z) (h2 : (k : Int) ≤ 140737488351232) :
    Calls Tryz.prog 4 #[.slice sl nl cl, .slice s k c] W fun e w' => e = .returned (.bool (fiI l z)) ∧ Below W.heap.size W w' := by
  subst hnl
  subst hz
  exact fits_any sl s cl c l z W (hl.later hb) hm h1 h2 fun x hx V hV => (con_any (vaI l x) x.val V (hM.later (hb.trans (hV.mono hb.size))) (va_small l _ (by decide) hv x)).mono fun e w' ⟨g1, g2⟩ => ⟨g1, by rw [g2]; exact Below.refl _ _⟩
end Go.Proofs.YtgmpmpgfpchbcaaGreatDoor
