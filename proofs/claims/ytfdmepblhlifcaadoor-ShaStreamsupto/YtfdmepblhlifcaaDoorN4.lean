/- The calls of the law of streams, each with what it keeps. -/
import Derived.Test.YtfdmepblhlifcaaDoorN2
import Derived.Test.YtfdmepblhlifcaaDoorN3
import Derived.Test.YtfdmepblhlifcaaDoorL2
import Derived.Test.YtfdmepblhlifcaaDoorM2
import Derived.Test.YtfdmepblhlifcaaDoorM3
import Derived.Test.YtfdmepblhlifcaaDoorF5
namespace Go.Proofs.YtfdmepblhlifcaaDoor
open Go.RowKit Go.Shelf
set_option linter.unusedVariables false
set_option linter.unusedSimpArgs false

theorem own_brow {w : World} {base g cap : Nat} {zs : List Int} (h : w.ownsRow base 5 1 (.slice (some ⟨g, 0, none⟩) zs.length cap) zs.length (u8l zs)) (hz : Byt zs) (hl : (zs.length : Int) ≤ 100000000) : BRow w g 0 zs := by
  refine ⟨fun i hi => ?_, hz, by omega⟩
  rw [Nat.zero_add, h.cellAt i (by omega)]
  unfold u8l
  rw [List.getElem?_map, List.getD_eq_getElem?_getD, List.getElem?_eq_getElem hi]
  rfl

theorem alike_own (p base b0 : Nat) (zs : List Int) (hz : Byt zs) (bv : Value) (w : World) (hH : Holds w p base zs) (R : Roots w) (h0 : 0 < w.heap.size) (hl : (zs.length : Int) ≤ 100000000) (ho : w.ownsRow b0 5 1 bv zs.length (u8l zs)) :
    Calls Tryd.prog 24 #[.pointer (some ⟨p, 0, none⟩), bv] w fun e w' => e = .returned (.bool true) ∧ Below w.heap.size w w' := by
  rcases ho.2 with ⟨rfl, h2⟩ | ⟨g, cap, cur, rfl, _, h3, h4, _⟩
  · obtain rfl : zs = [] := List.eq_nil_of_length_eq_zero h2
    exact alike_any p base [] hz none 0 0 w hH R h0 (by decide) rfl (fun V hV => rsum_none [] 0 V rfl rfl hz (by decide)) (fun V hV => states_none none 0 V)
  · have hg : g < w.heap.size := (Array.getElem?_eq_some_iff.1 h3).1
    have hk : ∀ V, Below w.heap.size w V → V.ownsRow b0 5 1 (.slice (some ⟨g, 0, none⟩) zs.length cap) zs.length (u8l zs) := fun V hV => own_kept ho fun k _ hk => hV.block k hk
    refine alike_any p base zs hz (some ⟨g, 0, none⟩) zs.length cap w hH R h0 (by omega) rfl (fun V hV => ?_) (fun V hV => ?_)
    · exact rsum_some zs ⟨g, 0, none⟩ zs.length cap V rfl hz (fun W hW j u hu => (hk W (hV.trans (hW.mono hV.size))).cells (g := g) rfl j u hu) (by omega)
    · exact states_any zs g 0 cap V (by have := hV.size; omega) (own_brow (hk V hV) hz hl) (by omega) h4

/-- All that is not the stream's lies as it lay. -/
def Apart (p : Nat) (w w' : World) : Prop := ∀ k cur t fr, w.heap[k]? = some (.cells cur t fr) → t ≠ 23 → k ≠ p → w'.heap[k]? = w.heap[k]?
theorem write_loan (p : Nat) (zs bs : List Int) (n₀ g cp : Nat) (w : World) (hH : Holds w p (p + 1) zs) (R : Roots w) (hp0 : 0 < p) (hL : Loan w n₀ g cp bs) (hz : Byt zs) (hl : (zs.length : Int) + (bs.length : Int) ≤ 100000000) :
    Calls Tryd.prog 20 #[.pointer (some ⟨p, 0, none⟩), .slice (some ⟨g, 0, none⟩) bs.length cp] w fun e w' => e = .returned (.int .i64 0) ∧ Holds w' p (p + 1) (zs ++ bs) ∧ Bx p (p + 1) w w' ∧ Apart p w w' := by
  obtain ⟨pv, rest, h1, h2, h3, h4, h5⟩ := hH
  have hplt := h1.lt
  obtain ⟨_, hglt, cur, hgc⟩ := hL.block
  have hgp : g ≠ p := by
    rintro rfl
    unfold Str at h1
    rw [h1] at hgc
    simp at hgc
  obtain ⟨o, ho1, ho2, ho3, ho4⟩ : ∃ o, Near o w.heap.size pv ∧ 0 ≠ o ∧ g ≠ o ∧ ∀ k cur t fr, w.heap[k]? = some (.cells cur t fr) → t ≠ 23 → k ≠ p → k ≠ o := by
    rcases h5.2 with ⟨e, _⟩ | ⟨q, cap, cur', e, hq, hc, _⟩
    · refine ⟨p, fun x hx => ?_, by omega, hgp, fun k _ _ _ _ _ hk => hk⟩
      rw [e] at hx; cases hx
    · refine ⟨q, fun x hx => .inl ?_, by omega, ?_, ?_⟩
      · rw [e] at hx
        simpa [Value.ownBlock] using hx.symm
      · rintro rfl
        rw [hc] at hgc
        simp at hgc
      · rintro k c2 t fr hk ht _ rfl
        rw [hc] at hk
        simp at hk
        exact ht hk.2.1.symm
  have hcap : bs.length ≤ cp := by have := own_cap hL.own; omega
  refine (write_o o w.heap.size zs bs p (p + 1) g 0 cp w ⟨pv, rest, h1, h2, h3, h4, h5, ho1⟩ R (by omega) (by omega) (by omega) (Nat.le_refl _) (by omega) ho2 (hL.row (by omega)) hglt hgp ho3 hcap hz (by omega)).mono ?_
  rintro e w' ⟨he, hH', hbx, hbo⟩
  exact ⟨he, hH'.holds, hbx, fun k c2 t fr hk ht hkp => hbo k (Array.getElem?_eq_some_iff.1 hk).1 hkp (ho4 k c2 t fr hk ht hkp)⟩

theorem flatD_one (zs : List Int) : ∀ k, ∀ u ∈ flatD zs k, u.oneCell' = true
  | 0, u, h => nomatch h
  | k + 1, u, h => by
    unfold flatD at h
    rcases List.mem_append.1 h with h | h
    · exact flatD_one zs k u h
    · exact u8l_one _ u h

theorem copy_holds (p base : Nat) (zs : List Int) (w : World) (hH : Holds w p base zs) (hl : (zs.length : Int) ≤ 100000000) :
    Calls Tryd.prog 23 #[.pointer (some ⟨p, 0, none⟩)] w fun e w' => e = .returned (.pointer (some ⟨w.heap.size, 0, none⟩)) ∧ Holds w' w.heap.size (w.heap.size + 1) zs ∧ Below w.heap.size w w' := by
  obtain ⟨pv, rest, h1, h2, h3, h4, h5⟩ := hH
  refine (copy_any p base (zs.length / 64) _ _ pv rest _ _ w h1 (stB_ok _ _).1 h2 (by omega) h5 (flatD_one _ _)).mono ?_
  rintro e w' ⟨he, ⟨pv', hs, ho⟩, hb⟩
  exact ⟨he, ⟨pv', rest, hs, h2, h3, h4, ho⟩, hb⟩

theorem reset_holds (p base : Nat) (zs : List Int) (w : World) (hH : Holds w p base zs) :
    Calls Tryd.prog 22 #[.pointer (some ⟨p, 0, none⟩)] w fun e w' => (∃ v, e = .returned v) ∧ Holds w' p base [] ∧ Bx p w.heap.size w w' := by
  obtain ⟨pv, rest, h1, h2, h3, h4, h5⟩ := hH
  refine (reset_any p _ _ pv rest _ w h1 (stB_ok _ _).1 h2).mono ?_
  rintro e w' ⟨he, hs, hb⟩
  exact ⟨he, holds_new hs, hb⟩
end Go.Proofs.YtfdmepblhlifcaaDoor
