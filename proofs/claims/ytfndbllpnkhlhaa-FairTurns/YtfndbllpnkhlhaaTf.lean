/- Turns: names and weights; the program's scheduler between calls. -/
import Derived.Test.YtfndbllpnkhlhaaTe
import Derived.Test.YtfndbllpnkhlhaaLd
import Derived.Test.YtfndbllpnkhlhaaA1
import Derived.Deep.CutRange
namespace Go.Proofs.Ytfndbllpnkhlhaa
open Go.RowKit
set_option linter.unusedVariables false
set_option linter.unusedSimpArgs false

def nmz : List (List UInt8) := [[97], [98], [99], [100]]
def twS (vs : List Int) : Sc := ⟨(nmz.zip vs).map fun p => ⟨p.1, p.2, 0, []⟩, 0, [], false⟩
/-- Names and weights. -/
def nw (s : Sc) : List (List UInt8 × Int) := s.ts.map fun t => (t.nm, t.wt)
theorem nw_tw (vs : List Int) : nw (twS vs) = nmz.zip vs := by
  unfold nw twS
  rw [List.map_map]
  exact List.map_id _
theorem nw_set {l : List Tn} {k : Nat} {t t' : Tn} (hk : l[k]? = some t) (e : t'.nm = t.nm ∧ t'.wt = t.wt) : (l.set k t').map (fun t => (t.nm, t.wt)) = l.map fun t => (t.nm, t.wt) := by
  rw [List.map_set, e.1, e.2]
  have hl := (List.getElem?_eq_some_iff.1 hk).1
  have : (l.map fun t => (t.nm, t.wt))[k]'(by simpa using hl) = (t.nm, t.wt) := by simp [(List.getElem?_eq_some_iff.1 hk).2]
  rw [← this]
  exact List.set_getElem_self _
theorem nw_push (s : Sc) (nm : List UInt8) (id cost : Int) : nw (pushS s nm id cost).2 = nw s := by
  by_cases h0 : (pushS s nm id cost).1 = 0
  · obtain ⟨k, t, h1, h2, h3⟩ := push_ok0 h0
    rw [h3]
    exact nw_set (look_in h1).1 ⟨rfl, rfl⟩
  · rw [push_bad h0]
theorem nw_serve {s : Sc} {k : Nat} {t : Tn} {x : Wk} {l : List Wk} (hk : s.ts[k]? = some t) : nw (serveS s k t x l).2 = nw s := by
  unfold serveS
  split
  · exact nw_set hk ⟨rfl, rfl⟩
  · have h1 : nw ({ s with ts := s.ts.set k { t with ws := l }, busy := false } : Sc) = nw s := nw_set hk ⟨rfl, rfl⟩
    dsimp only
    split
    · rw [← h1]
      unfold nw restS
      rw [List.map_map]
      rfl
    · exact h1
theorem nw_step (s : Sc) : nw (stepS s).2 = nw s := by
  unfold stepS
  split
  · split
    · rename_i k t hk
      split
      · exact nw_serve (look_in hk).1
      · rfl
    · rfl
  · split
    · split
      · rename_i k st hk t ht
        split
        · rename_i w r hw
          exact nw_serve (s := { s with clk := w.start, srv := t.nm }) ht
        · rfl
      · rfl
    · rfl
theorem sumW_nw : ∀ l : List Tn, sumW l = ((l.map fun t => (t.nm, t.wt)).map fun p => p.2).sum
  | [] => rfl
  | p :: r => by
    have := sumW_nw r
    simp only [sumW, List.map_cons, List.sum_cons]
    rw [this]
/-- One more is set. -/
theorem tw_set {vs : List Int} {v : Int} {nm : List UInt8} (hn : nmz[vs.length]? = some nm) : setS (twS vs) nm v = if 1 ≤ v ∧ v ≤ 16 then (0, twS (vs ++ [v])) else (1, twS vs) := by
  have hl := (List.getElem?_eq_some_iff.1 hn).1
  match vs, hn, hl with
  | [], hn, _ =>
    have : nm = [97] := by simpa [nmz] using hn.symm
    subst this
    by_cases c : 1 ≤ v ∧ v ≤ 16
    · simp [setS, c, twS, nmz, lookT, ixT, insT]
    · simp [setS, c]
  | [a], hn, _ =>
    have : nm = [98] := by simpa [nmz] using hn.symm
    subst this
    by_cases c : 1 ≤ v ∧ v ≤ 16
    · simp [setS, c, twS, nmz, lookT, ixT, insT, ltB]
    · simp [setS, c]
  | [a, b], hn, _ =>
    have : nm = [99] := by simpa [nmz] using hn.symm
    subst this
    by_cases c : 1 ≤ v ∧ v ≤ 16
    · simp [setS, c, twS, nmz, lookT, ixT, insT, ltB]
    · simp [setS, c]
  | [a, b, d], hn, _ =>
    have : nm = [100] := by simpa [nmz] using hn.symm
    subst this
    by_cases c : 1 ≤ v ∧ v ≤ 16
    · simp [setS, c, twS, nmz, lookT, ixT, insT, ltB]
    · simp [setS, c]
  | a :: b :: d :: e :: r, _, hl => simp [nmz] at hl; omega
theorem tw_mem {vs : List Int} {t : Tn} (h : t ∈ (twS vs).ts) : t.ws = [] ∧ t.fin = 0 ∧ t.wt ∈ vs := by
  obtain ⟨p, hp, rfl⟩ := List.mem_map.1 h
  exact ⟨rfl, rfl, (List.of_mem_zip hp).2⟩
theorem zip_sub : ∀ (a : List (List UInt8)) (b : List Int), List.Sublist ((a.zip b).map fun p => p.1) a
  | [], b => by simp
  | x :: a, [] => by simp
  | x :: a, y :: b => by
    have := zip_sub a b
    simp only [List.zip_cons_cons, List.map_cons]
    exact this.cons_cons x
theorem tw_iv {vs : List Int} (h : ∀ v ∈ vs, 1 ≤ v ∧ v ≤ 16) : Iv 0 (twS vs) := by
  refine ⟨fun t ht => ?_, ?_, Int.le_refl _, fun e => (nomatch e), fun t ht _ x hx => ?_⟩
  · obtain ⟨h1, h2, h3⟩ := tw_mem ht
    have hv := h _ h3
    refine ⟨hv.1, hv.2, ⟨0, ?_, by show (0 : Int) ≤ 0 + 0 * un t; omega, fun hn => (hn h1).elim⟩, fun x hx => by rw [h1] at hx; cases hx⟩
    rw [h1, h2]
    exact rfl
  · have : ((twS vs).ts.map fun t => t.nm) = (nmz.zip vs).map fun p => p.1 := by unfold twS; rw [List.map_map]; rfl
    rw [this]
    exact (zip_sub nmz vs).nodup (by decide)
  · rw [(tw_mem ht).1] at hx
    cases hx
theorem tw_ok {vs : List Int} (h : ∀ v ∈ vs, 1 ≤ v ∧ v ≤ 16) : Sok 0 (twS vs) := by
  refine ⟨Int.le_refl _, Int.le_refl _, ?_, fun t ht => ?_⟩
  · show (List.map _ (nmz.zip vs)).length ≤ 16
    rw [List.length_map, List.length_zip]
    have : nmz.length = 4 := rfl
    omega
  · obtain ⟨h1, h2, h3⟩ := tw_mem ht
    have hv := h _ h3
    exact ⟨hv.1, hv.2, by omega, by omega, by rw [h1]; simp, fun x hx => by rw [h1] at hx; cases hx⟩
def badQ (t : TypeId) : Bool := t == 73 || t == 109 || t == 108 || t == 112 || t == 80
theorem PF.tagQ {w : World} {T : Nat} {F : Nat → Prop} {s : Sc} (h : PF w T F s) : ∀ q, F q → ∃ c t, w.heap[q]? = some (.cells c t (0, 0)) ∧ badQ t = true := by
  obtain ⟨lv, m, srv, had, h1, h2, h3, h4⟩ := h
  intro q hq
  rcases (h4 q).1 hq with rfl | hq | ⟨r, hr, rfl | rfl | hq⟩
  · exact ⟨_, _, h1.box, by decide⟩
  · obtain ⟨cur, hc⟩ := own_tag h1.row hq
    exact ⟨_, _, hc, by decide⟩
  · exact ⟨_, 108, h1.each r hr, by decide⟩
  · exact ⟨_, _, (h1.que r hr).box, by decide⟩
  · obtain ⟨cur, hc⟩ := tl_tag (h1.que r hr).items hq
    exact ⟨_, _, hc, by decide⟩
/-- The scheduler, between calls. -/
structure Sx (T base : Nat) (s : Sc) (w0 w : World) : Prop where
  pf : ∃ F, PF w T F s ∧ ∀ q, F q → base ≤ q
  bs : base ≤ w.heap.size
  bel : Below base w0 w
variable {T base : Nat} {s s' : Sc} {w0 w w' : World} {N : Int}
theorem Sx.prog {F F' : Nat → Prop} (h : Sx T base s w0 w) (hF : PF w T F s) (hl : ∀ q, F q → base ≤ q) (h1 : PF w' T F' s') (h2 : Fr F F' w w') : Sx T base s' w0 w' ∧ Kx badQ w w' := by
  refine ⟨⟨⟨F', h1, h2.low hl h.bs⟩, by have := h2.size; have := h.bs; omega, h.bel.trans (h2.below hl h.bs)⟩, fun p o hp hn => ?_⟩
  refine (h2.block p (Array.getElem?_eq_some_iff.1 hp).1 fun hf => ?_).trans hp
  obtain ⟨c, t, k1, k2⟩ := hF.tagQ p hf
  rw [k1] at hp
  have := hn _ _ _ (Option.some.inj hp).symm
  rw [k2] at this
  cases this
theorem Sx.later {B : Nat} (h : Sx T base s w0 w) (hb : Below B w w') (hB : w.heap.size ≤ B) : Sx T base s w0 w' := by
  obtain ⟨F, g1, g2⟩ := h.pf
  exact ⟨⟨F, g1.at' fun q hq => hb.block q (by have := g1.lt q hq; omega), g2⟩, by have := hb.size; have := h.bs; omega, h.bel.trans (hb.mono (by have := h.bs; omega))⟩
theorem Sx.drewN (h : Sx T base s w0 w) (n : Nat) : Sx T base s w0 (w.drewN n) := h.later (B := w.heap.size) ⟨rfl, rfl, rfl, Nat.le_refl _, fun _ _ => rfl⟩ (Nat.le_refl _)
theorem Sx.set (h : Sx T base s w0 w) (hs : Sok N s) (hN : N ≤ 100000) (nm : List UInt8) (wt : Int) : Calls Try.prog 20 #[.pointer (some ⟨T, 0, none⟩), .string (tx nm), .int .i64 wt] w fun e w' => e = .returned (.int .i64 (setS s nm wt).1) ∧ Sx T base (setS s nm wt).2 w0 w' ∧ Kx badQ w w' := by
  obtain ⟨F, f1, f2⟩ := h.pf
  exact (prgS.set N T F s nm wt w f1 hs hN).mono fun e w' ⟨h1, F', h2, h3⟩ => ⟨h1, h.prog f1 f2 h2 h3⟩
theorem Sx.push (h : Sx T base s w0 w) (hs : Sok N s) (hN : N ≤ 100000) (nm : List UInt8) (id cost : Int) : Calls Try.prog 21 #[.pointer (some ⟨T, 0, none⟩), .string (tx nm), .agg #[.int .i64 id, .int .i64 cost]] w fun e w' => e = .returned (.int .i64 (pushS s nm id cost).1) ∧ Sx T base (pushS s nm id cost).2 w0 w' ∧ Kx badQ w w' := by
  obtain ⟨F, f1, f2⟩ := h.pf
  exact (prgS.push N T F s nm id cost w f1 hs hN).mono fun e w' ⟨h1, F', h2, h3⟩ => ⟨h1, h.prog f1 f2 h2 h3⟩
theorem Sx.step (h : Sx T base s w0 w) (hs : Sok N s) (hN : N ≤ 100000) : Calls Try.prog 22 #[.pointer (some ⟨T, 0, none⟩)] w fun e w' => e = .returned (.tuple #[.string (tx (stepS s).1.nm), .agg #[.int .i64 (stepS s).1.id, .int .i64 (stepS s).1.cost], .bool (stepS s).1.don, .bool (stepS s).1.some]) ∧ Sx T base (stepS s).2 w0 w' ∧ Kx badQ w w' := by
  obtain ⟨F, f1, f2⟩ := h.pf
  exact (prgS.step N T F s w f1 hs hN).mono fun e w' ⟨h1, F', h2, h3⟩ => ⟨h1, h.prog f1 f2 h2 h3⟩
theorem Sx.ahead (h : Sx T base s w0 w) (hs : Sok N s) (hN : N ≤ 100000) (nm : List UInt8) : Calls Try.prog 23 #[.pointer (some ⟨T, 0, none⟩), .string (tx nm)] w fun e w' => e = .returned (.int .i64 (aheadS s nm)) ∧ Sx T base s w0 w' ∧ Kx badQ w w' := by
  obtain ⟨F, f1, f2⟩ := h.pf
  exact (prgSX.ahead N T F s nm w f1 hs hN).mono fun e w' ⟨h1, F', h2, h3⟩ => ⟨h1, h.prog f1 f2 h2 h3⟩
theorem Sx.weights (h : Sx T base s w0 w) (hs : Sok N s) (hN : N ≤ 100000) : Calls Try.prog 24 #[.pointer (some ⟨T, 0, none⟩)] w fun e w' => e = .returned (.tuple #[.int .i64 (sumW s.ts), .int .i64 (s.ts.length : Int)]) ∧ Sx T base s w0 w' ∧ Kx badQ w w' := by
  obtain ⟨F, f1, f2⟩ := h.pf
  exact (prgSX.weights N T F s w f1 hs hN).mono fun e w' ⟨h1, F', h2, h3⟩ => ⟨h1, h.prog f1 f2 h2 h3⟩
end Go.Proofs.Ytfndbllpnkhlhaa
