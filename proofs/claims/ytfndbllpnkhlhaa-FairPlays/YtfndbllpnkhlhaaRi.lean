/- The model's Step: what becomes of the scheduler. -/
import Derived.Test.YtfndbllpnkhlhaaRh
import Derived.Maps.AppendAt
namespace Go.Proofs.Ytfndbllpnkhlhaa
open Go.RowKit
set_option linter.unusedVariables false
set_option linter.unusedSimpArgs false

variable {T base : Nat} {lv : Value} {m : List Rt} {clk clk' : Int} {srv srv' : List UInt8} {busy busy' : Bool}
theorem fl_same {m : List Rt} {k : Nat} {r x : Rt} (hk : m[k]? = some r) (e : rt4 x = rt4 r) : fl rt4 (m.set k x) = fl rt4 m := by
  have hl := (List.getElem?_eq_some_iff.1 hk).1
  rw [← fl_set rt4_len m k x hl, e, fl_set rt4_len m k r hl]
  congr 1
  rw [← (List.getElem?_eq_some_iff.1 hk).2]
  exact List.set_getElem_self hl
/-- A tenant's first job is turned. -/
theorem RS.first {w : World} {k gq : Nat} {r : Rt} {x : Wk} {l : List Wk} (h : RS w T base lv m clk srv busy) (hk : m[k]? = some r) (hws : r.t.ws = x :: l) (ha : r.a = some ⟨gq, 0, none⟩) (y : Wk) : RS (w.setCells gq 0 (wk4 y)) T base lv (m.set k { r with t := { r.t with ws := y :: l } }) clk srv busy ∧ Km base w (w.setCells gq 0 (wk4 y)) := by
  have hrm := List.mem_of_getElem? hk
  have hv : r.v = .slice (some ⟨gq, 0, none⟩) (l.length + 1) r.c := by unfold Rt.v; rw [ha, hws]; rfl
  have hq : r.v.ownBlock = some gq := by rw [hv]; rfl
  have hne := h.ne
  have hgT := (hne.2 r hrm gq hq).1
  have hgl := (hne.2 r hrm gq hq).2
  have hlt := h.lt gq (.inr (.inr ⟨r, hrm, hq⟩))
  have hrow := h.que r hrm
  rw [hv, hws] at hrow
  have hput : (w.setCells gq (0 * 4) (wk4 y)).ownsRow base 104 4 (.slice (some ⟨gq, 0, none⟩) (y :: l).length r.c) (y :: l).length (fl wk4 (y :: l)) := own_put (l := x :: l) (k := 0) wk4_len hrow (by simp) y
  have e4 : rt4 { r with t := { r.t with ws := y :: l } } = rt4 r := by unfold rt4; rw [hws]; rfl
  obtain ⟨cur, hcur⟩ := own_tag (h.que r hrm) hq
  refine ⟨h.turn hk (by rw [setCs_other _ _ _ _ _ hgT.symm]; exact h.box) ?_ ?_ (fun j q r' hj hr' hq' => setCs_other _ _ _ _ _ fun e => hj (h.dis j k q r' r hr' hk hq' (by rw [e]; exact hq))) (.inl fun q hq' => ?_), ⟨⟨(setCs_rest _ _ _ _).1, (setCs_rest _ _ _ _).2.1, (setCs_rest _ _ _ _).2.2, by rw [setCs_size]; exact Nat.le_refl _, fun q hq' => setCs_other _ _ _ _ _ (by omega)⟩, Kx.but (fun q _ hq' => setCs_other _ _ _ _ _ hq') hcur (by decide)⟩⟩
  · rw [List.length_set, fl_same hk e4]
    exact own_at h.row fun q hq' => setCs_other _ _ _ _ _ fun e => hgl (by rw [← e]; exact hq')
  · unfold Rt.v
    rw [ha]
    exact hput
  · unfold Rt.v at hq'
    rw [ha] at hq'
    rw [hq]
    exact hq'
/-- A tenant's jobs lie in a new row. -/
theorem RS.newL {w w3 : World} {g n cap k : Nat} {r : Rt} {a3 : Option Addr} {c3 : Nat} {l : List Wk} (h : RS w T base (.slice (some ⟨g, 0, none⟩) n cap) m clk srv busy) (hn : n = m.length) (hk : m[k]? = some r) (hb : Below w.heap.size w w3) (ho : w3.ownsRow base 104 4 (.slice a3 l.length c3) l.length (fl wk4 l)) (hO : ∀ q, (Value.slice a3 l.length c3).ownBlock = some q → w.heap.size ≤ q) :
    RS (w3.setCell ⟨g, k * 4 + 3, none⟩ (.slice a3 l.length c3)) T base (.slice (some ⟨g, 0, none⟩) n cap) (m.set k ⟨{ r.t with ws := l }, a3, c3⟩) clk srv busy ∧ Km base w (w3.setCell ⟨g, k * 4 + 3, none⟩ (.slice a3 l.length c3)) := by
  subst hn
  have h3 : RS w3 T base (.slice (some ⟨g, 0, none⟩) m.length cap) m clk srv busy := h.at' fun q hq => hb.block q (h.lt q hq).2
  have hne := h3.ne
  have hgT : g ≠ T := hne.1 g rfl
  have hgl := h.lt g (.inr (.inl rfl))
  obtain ⟨cur, hcur⟩ := own_tag h3.row (q := g) rfl
  have hrow := own_set (i := k * 4 + 3) h3.row (by rw [fl_len rt4_len]; have := (List.getElem?_eq_some_iff.1 hk).1; omega) (.slice a3 l.length c3)
  rw [← fl_set1 rt4_len m k r ⟨{ r.t with ws := l }, a3, c3⟩ 3 (.slice a3 l.length c3) hk (by omega) rfl] at hrow
  refine ⟨?_, ⟨(hb.mono h.bs).setCell (p := ⟨g, k * 4 + 3, none⟩) hgl.1 _, (Kx.of hb (Nat.le_refl _)).trans (Kx.setCell hcur (by decide) _)⟩⟩
  have hblk : ∀ q, q ≠ g → (w3.setCell ⟨g, k * 4 + 3, none⟩ (.slice a3 l.length c3)).heap[q]? = w3.heap[q]? := fun q hq => Below.heap_setCell _ _ _ _ hq
  refine h.turn hk ((hblk T hgT.symm).trans h3.box) (by rw [List.length_set]; exact hrow) (own_at ho fun q hq => hblk q fun e => ?_) (fun j q r' hj hr' hq => ?_) (.inr hO)
  · have := hO q hq
    omega
  · have h1 := hne.2 r' (List.mem_of_getElem? hr') q hq
    rw [hblk q (fun e => h1.2 (by rw [e]; rfl))]
    exact hb.block q (h.lt q (.inr (.inr ⟨r', List.mem_of_getElem? hr', hq⟩))).2
end Go.Proofs.Ytfndbllpnkhlhaa
