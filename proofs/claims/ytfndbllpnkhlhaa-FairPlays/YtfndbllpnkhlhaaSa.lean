/- Both schedulers between calls. -/
import Derived.Test.YtfndbllpnkhlhaaRj
import Derived.Test.YtfndbllpnkhlhaaAa
namespace Go.Proofs.Ytfndbllpnkhlhaa
open Go.RowKit
set_option linter.unusedVariables false
set_option linter.unusedSimpArgs false

def badP (t : TypeId) : Bool := t == 73 || t == 109 || t == 108 || t == 112 || t == 80
def badB (t : TypeId) : Bool := badP t || badR t
theorem badB_p : ∀ t, badB t = false → badP t = false := fun t h => by unfold badB at h; simp at h; exact h.1
theorem badB_r : ∀ t, badB t = false → badR t = false := fun t h => by unfold badB at h; simp at h; exact h.2
theorem PF.tag {w : World} {T : Nat} {F : Nat → Prop} {s : Sc} (h : PF w T F s) : ∀ q, F q → ∃ c t, w.heap[q]? = some (.cells c t (0, 0)) ∧ badP t = true ∧ badR t = false := by
  obtain ⟨lv, m, srv, had, h1, h2, h3, h4⟩ := h
  intro q hq
  rcases (h4 q).1 hq with rfl | hq | ⟨r, hr, rfl | rfl | hq⟩
  · exact ⟨_, _, h1.box, by decide, by decide⟩
  · obtain ⟨cur, hc⟩ := own_tag h1.row hq
    exact ⟨_, _, hc, by decide, by decide⟩
  · exact ⟨_, 108, h1.each r hr, by decide, by decide⟩
  · exact ⟨_, _, (h1.que r hr).box, by decide, by decide⟩
  · obtain ⟨cur, hc⟩ := tl_tag (h1.que r hr).items hq
    exact ⟨_, _, hc, by decide, by decide⟩
theorem fr_kx {w w' : World} {T : Nat} {F F' : Nat → Prop} {s : Sc} (h : PF w T F s) (hf : Fr F F' w w') : Kx badP w w' := fun p o hp hn => by
  refine (hf.block p (Array.getElem?_eq_some_iff.1 hp).1 fun hF => ?_).trans hp
  obtain ⟨c, t, h1, h2, _⟩ := h.tag p hF
  rw [h1] at hp
  have := hn _ _ _ (Option.some.inj hp).symm
  rw [h2] at this
  cases this
theorem up_ne {ns : List (List UInt8)} (h : Up ns) {i j : Nat} {x y : List UInt8} (hij : i < j) (hi : ns[i]? = some x) (hj : ns[j]? = some y) : x ≠ y := fun e => by
  obtain ⟨h1, h2⟩ := List.getElem?_eq_some_iff.1 hi
  obtain ⟨h3, h4⟩ := List.getElem?_eq_some_iff.1 hj
  have := List.pairwise_iff_getElem.1 h i j h1 h3 hij
  rw [h2, h4, e] at this
  exact lb_irrefl y this
theorem PF.bok {w : World} {T : Nat} {F : Nat → Prop} {s : Sc} (h : PF w T F s) : Bok s := fun hb => by
  obtain ⟨lv, m, srv, had, h1, h2, h3, h4⟩ := h
  obtain ⟨k, r, x, l, g1, g2, g3, g4, _⟩ := h3.busy hb
  have hx : ixT (tns m) s.srv = some k := ixT_hit _ _ k r.t (fun j q hj hq e => by
    unfold tns at hq
    rw [List.getElem?_map] at hq
    cases hy : m[j]? with
    | none => rw [hy] at hq; cases hq
    | some y =>
      rw [hy] at hq
      have e2 : y.t = q := by simpa using hq
      have := h1.up
      have h9 : y.t.nm = r.t.nm := by rw [e2, e, g3]
      exact absurd h9 (up_ne h1.up hj (nms_at hy) (nms_at g1))) (tns_at g1) g3
  rw [h2] at hx
  refine ⟨k, r.t, x, l, ?_, g4⟩
  unfold lookT
  rw [hx]
  have := tns_at g1
  rw [h2] at this
  simp [this]
structure Mid (T R base : Nat) (a b : Sc) (w0 w : World) : Prop where
  pf : ∃ F, PF w T F a ∧ ∀ q, F q → base ≤ q
  rp : RP w R base b
  bel : Below base w0 w
theorem RP.bs {w : World} {R base : Nat} {b : Sc} (h : RP w R base b) : base ≤ w.heap.size := by
  obtain ⟨lv, m, h1, _⟩ := h
  exact h1.bs
variable {T R base : Nat} {a a' b b' : Sc} {w0 w w' : World}
theorem Mid.prog {F F' : Nat → Prop} (h : Mid T R base a b w0 w) (hF : PF w T F a) (hl : ∀ q, F q → base ≤ q) (h1 : PF w' T F' a') (h2 : Fr F F' w w') : Mid T R base a' b w0 w' ∧ Kx badB w w' := by
  have hk := fr_kx hF h2
  refine ⟨⟨⟨F', h1, h2.low hl h.rp.bs⟩, ?_, h.bel.trans (h2.below hl h.rp.bs)⟩, hk.mono badB_p⟩
  obtain ⟨lv, m, g1, g2⟩ := h.rp
  refine ⟨lv, m, g1.at' fun q hq => ?_, g2⟩
  refine h2.block q (g1.lt q hq).2 fun hf => ?_
  obtain ⟨c, t, k1, k2⟩ := g1.tag q hq
  obtain ⟨c', t', k3, _, k4⟩ := hF.tag q hf
  rw [k1] at k3
  cases k3
  rw [k2] at k4
  cases k4
theorem Mid.model (h : Mid T R base a b w0 w) (h1 : RP w' R base b') (h2 : Km base w w') : Mid T R base a b' w0 w' ∧ Kx badB w w' := by
  obtain ⟨F, g1, g2⟩ := h.pf
  refine ⟨⟨⟨F, g1.at' fun q hq => ?_, g2⟩, h1, h.bel.trans h2.bel⟩, h2.kx.mono badB_r⟩
  obtain ⟨c, t, k1, _, k2⟩ := g1.tag q hq
  rw [h2.kx.row k1 k2, k1]
theorem Mid.later {B : Nat} (h : Mid T R base a b w0 w) (hb : Below B w w') (hB : w.heap.size ≤ B) : Mid T R base a b w0 w' := by
  obtain ⟨F, g1, g2⟩ := h.pf
  obtain ⟨lv, m, g3, g4⟩ := h.rp
  exact ⟨⟨F, g1.at' fun q hq => hb.block q (by have := g1.lt q hq; omega), g2⟩, ⟨lv, m, g3.at' fun q hq => hb.block q (by have := (g3.lt q hq).2; omega), g4⟩, h.bel.trans (hb.mono (by have := g3.bs; omega))⟩
theorem Mid.same (h : Mid T R base a b w0 w) (he : w'.heap = w.heap) (ho : w'.os = w.os) (ht : w'.tape = w.tape) (hu : w'.output = w.output) : Mid T R base a b w0 w' :=
  h.later (B := w.heap.size) ⟨ho, ht, hu, by rw [he]; exact Nat.le_refl _, fun q _ => by rw [he]⟩ (Nat.le_refl _)
theorem Mid.drewN (h : Mid T R base a b w0 w) (n : Nat) : Mid T R base a b w0 (w.drewN n) := h.same rfl rfl rfl rfl
theorem Mid.drew (h : Mid T R base a b w0 w) : Mid T R base a b w0 w.drew := h.same rfl rfl rfl rfl
end Go.Proofs.Ytfndbllpnkhlhaa
