/- General: rows of structs that a slice may begin within (behind l = l[1:]). Nothing of a program. -/
import Derived.Test.YtkigagglkmdccaaG0
import Derived.Deep.AppendSrc
namespace Go.Proofs.Ytkigagglkmdccaa
open Go.RowKit
set_option linter.unusedVariables false
set_option linter.unusedSimpArgs false

variable {α : Type} {f : α → List Value} {m : Nat}
/-- A list, told by a slice of a block of one's own that it may begin within. -/
def Tl (f : α → List Value) (m : Nat) (w : World) (base : Nat) (e : TypeId) (v : Value) (l : List α) : Prop :=
  (v = .slice none 0 0 ∧ l = []) ∨ ∃ g o cap cur, v = .slice (some ⟨g, o, none⟩) l.length cap ∧ base ≤ g ∧ w.heap[g]? = some (.cells cur e (0, 0)) ∧ l.length ≤ cap ∧ cap ≤ maxLen ∧ o + cap * m ≤ cur.size ∧ ∀ j u, (fl f l)[j]? = some u → cur[o + j]? = some u
theorem Tl.nil (w : World) (base : Nat) (e : TypeId) : Tl f m w base e (.slice none 0 0) [] := .inl ⟨rfl, rfl⟩
theorem Tl.slice {w : World} {base : Nat} {e : TypeId} {v : Value} {l : List α} (h : Tl f m w base e v l) : ∃ a cap, v = .slice a l.length cap ∧ l.length ≤ cap := by
  rcases h with ⟨h, rfl⟩ | ⟨g, o, cap, cur, h, _, _, hc, _⟩
  · exact ⟨none, 0, h, Nat.le_refl _⟩
  · exact ⟨_, cap, h, hc⟩
theorem Tl.form {w : World} {base : Nat} {e : TypeId} {v : Value} {l : List α} (h : Tl f m w base e v l) (hn : l ≠ []) : ∃ g o cap, v = .slice (some ⟨g, o, none⟩) l.length cap := by
  rcases h with ⟨h, rfl⟩ | ⟨g, o, cap, cur, h, _⟩
  · exact (hn rfl).elim
  · exact ⟨g, o, cap, h⟩
theorem Tl.cells {w : World} {base : Nat} {e : TypeId} {l : List α} {g o n cap : Nat} (h : Tl f m w base e (.slice (some ⟨g, o, none⟩) n cap) l) : n = l.length ∧ (base ≤ g ∧ g < w.heap.size) ∧ ∀ j u, (fl f l)[j]? = some u → w.cell? ⟨g, o + j, none⟩ = some u := by
  rcases h with ⟨h, _⟩ | ⟨g', o', cap', cur, h, hb, hg, _, _, _, hc⟩
  · cases h
  · cases h
    refine ⟨rfl, ⟨hb, (Array.getElem?_eq_some_iff.1 hg).1⟩, fun j u hu => ?_⟩
    simp [World.cell?, hg, hc j u hu]
theorem Tl.tag {w : World} {base q : Nat} {e : TypeId} {v : Value} {l : List α} (h : Tl f m w base e v l) (hq : v.ownBlock = some q) : ∃ cur, w.heap[q]? = some (.cells cur e (0, 0)) := by
  rcases h with ⟨h, _⟩ | ⟨g, o, cap, cur, h, _, hg, _⟩
  · rw [h] at hq; cases hq
  · rw [h] at hq
    have : g = q := by simpa [Value.ownBlock] using hq
    subst this
    exact ⟨cur, hg⟩
theorem Tl.lt {w : World} {base q : Nat} {e : TypeId} {v : Value} {l : List α} (h : Tl f m w base e v l) (hq : v.ownBlock = some q) : base ≤ q ∧ q < w.heap.size := by
  rcases h with ⟨h, _⟩ | ⟨g, o, cap, cur, h, hb, hg, _⟩
  · rw [h] at hq; cases hq
  · rw [h] at hq
    have : g = q := by simpa [Value.ownBlock] using hq
    subst this
    exact ⟨hb, (Array.getElem?_eq_some_iff.1 hg).1⟩
theorem Tl.at' {w w' : World} {base : Nat} {e : TypeId} {v : Value} {l : List α} (h : Tl f m w base e v l) (hk : ∀ q, v.ownBlock = some q → w'.heap[q]? = w.heap[q]?) : Tl f m w' base e v l := by
  rcases h with h | ⟨g, o, cap, cur, h, hb, hg, r⟩
  · exact .inl h
  · exact .inr ⟨g, o, cap, cur, h, hb, (hk g (by rw [h]; rfl)).trans hg, r⟩
theorem Tl.later {w w' : World} {base B : Nat} {e : TypeId} {v : Value} {l : List α} (h : Tl f m w base e v l) (hb : Below B w w') (hB : w.heap.size ≤ B) : Tl f m w' base e v l :=
  h.at' fun q hq => hb.block q (by have := (h.lt hq).2; omega)
theorem Tl.ofRow {w : World} {base : Nat} {e : TypeId} {v : Value} {l : List α} (hf : ∀ x, (f x).length = m) (h : w.ownsRow base e m v l.length (fl f l)) : Tl f m w base e v l := by
  rcases h.2 with ⟨h1, h2⟩ | ⟨g, cap, cur, h1, h2, h3, h4, h5, h6, h7⟩
  · exact .inl ⟨h1, List.eq_nil_of_length_eq_zero h2⟩
  · refine .inr ⟨g, 0, cap, cur, h1, h2, h3, h4, h5, by omega, fun j u hu => ?_⟩
    rw [← h7, List.getElem?_take] at hu
    split at hu
    · rw [Nat.zero_add, ← Array.getElem?_toList]; exact hu
    · cases hu
/-- The first one goes. -/
theorem Tl.behind {w : World} {base g o cap : Nat} {e : TypeId} {x : α} {l : List α} (hf : ∀ x, (f x).length = m) (h : Tl f m w base e (.slice (some ⟨g, o, none⟩) (l.length + 1) cap) (x :: l)) : Tl f m w base e (.slice (some ⟨g, if cap = 1 then o else o + m, none⟩) l.length (cap - 1)) l := by
  rcases h with ⟨h, _⟩ | ⟨g', o', cap', cur, h, hb, hg, h4, h5, h6, h7⟩
  · cases h
  · cases h
    simp at h4
    have hm : cap * m = (cap - 1) * m + m := by
      have : cap = (cap - 1) + 1 := by omega
      rw [this, Nat.add_mul, Nat.one_mul]
      simp
    refine .inr ⟨g, _, cap - 1, cur, rfl, hb, hg, by omega, by omega, ?_, fun j u hu => ?_⟩
    · split <;> omega
    · have h8 := h7 (m + j) u (by rw [fl, List.getElem?_append_right (by rw [hf]; omega), hf, show m + j - m = j by omega]; exact hu)
      by_cases hc : cap = 1
      · have : l = [] := List.eq_nil_of_length_eq_zero (by omega)
        subst this
        simp [fl] at hu
      · rw [if_neg hc, Nat.add_assoc]
        exact h8
/-- What cells that are stored leave of a block. -/
theorem setCs_cells : ∀ (vs : List Value) (w : World) (g i : Nat) (cur : Array Value) (e : TypeId) (fz : Nat × Nat), w.heap[g]? = some (.cells cur e fz) → i + vs.length ≤ cur.size →
    ∃ cur', (w.setCells g i vs).heap[g]? = some (.cells cur' e fz) ∧ cur'.size = cur.size ∧ (∀ j u, vs[j]? = some u → cur'[i + j]? = some u) ∧ ∀ k, (k < i ∨ i + vs.length ≤ k) → cur'[k]? = cur[k]?
  | [], w, g, i, cur, e, fz, h, hl => ⟨cur, h, rfl, fun j u hu => by simp at hu, fun k _ => rfl⟩
  | v :: r, w, g, i, cur, e, fz, h, hl => by
    simp at hl
    obtain ⟨c2, h1, h2, h3, h4⟩ := setCs_cells r (w.setCell ⟨g, i, none⟩ v) g (i + 1) (cur.setIfInBounds i v) e fz (row_set v h) (by simp; omega)
    refine ⟨c2, h1, by simpa using h2, fun j u hu => ?_, fun k hk => ?_⟩
    · cases j with
      | zero =>
        simp at hu
        subst hu
        rw [Nat.add_zero, h4 i (.inl (by omega))]
        simp [show i < cur.size by omega]
      | succ j =>
        have := h3 j u (by simpa using hu)
        rwa [show i + 1 + j = i + (j + 1) by omega] at this
    · simp at hk
      rw [h4 k (by omega), Array.getElem?_setIfInBounds_ne (by omega)]
/-- More are put behind. -/
theorem Tl.append (P : Program) {w : World} {base : Nat} {e t ty : TypeId} {v : Value} {l l2 : List α} (hf : ∀ x, (f x).length = m) (h1 : ∀ x, ∀ u ∈ f x, u.oneCell' = true) (i : TypeInfo) (z : Value) (bytes : Nat) (ht : P.underlying t = some (.slice e)) (hi : P.info? e = some i) (hz : i.zero = some z) (hsize : i.size = m) (hby : i.bytes = bytes) (hzs : z.cells.size = m)
    (h : Tl f m w base e v l) (ad : Addr) (c : Nat) (hnews : ∀ j u, (fl f l2)[j]? = some u → w.cell? (ad.add j) = some u) (h63 : l.length + l2.length ≤ maxLen) (hbytes : (l.length + l2.length) * bytes ≤ 140737488355328) (hbase : base ≤ w.heap.size) :
    ∃ v' w', (Builtin.append_ #[t, t] ty #[v, .slice (some ad) l2.length c]).run P w = .ok v' w' ∧ Tl f m w' base e v' (l ++ l2) ∧ w.grownBy w' v.ownBlock ∧ (v'.ownBlock = v.ownBlock ∨ v'.ownBlock = some w.heap.size) := by
  subst hsize
  subst hby
  have hsmall : l.length + l2.length ≤ 9223372036854775807 := by simp only [maxLen] at h63; omega
  have hl2 : (fl f l2).length = l2.length * i.size := fl_len hf l2
  have hl1 : (fl f l).length = l.length * i.size := fl_len hf l
  have grown : ∀ (old : Nat) (row : Option Nat),
      Tl f i.size (w.drew.alloc (.cells ((fl f l).toArray ++ (fl f l2).toArray ++ Builtin.zeroCells z.cells (grownCap w (l.length + l2.length) old e - (l.length + l2.length))) e)) base e (.slice (some ⟨w.heap.size, 0, none⟩) (l.length + l2.length) (grownCap w (l.length + l2.length) old e)) (l ++ l2) ∧
      w.grownBy (w.drew.alloc (.cells ((fl f l).toArray ++ (fl f l2).toArray ++ Builtin.zeroCells z.cells (grownCap w (l.length + l2.length) old e - (l.length + l2.length))) e)) row := by
    intro old row
    have hge := grownCap_ge w (l.length + l2.length) old e
    have hcm : grownCap w (l.length + l2.length) old e ≤ maxLen := grownCap_le_maxLen w (l.length + l2.length) old e h63
    refine ⟨.inr ⟨w.heap.size, 0, _, _, by rw [List.length_append], hbase, heap_alloc_new w.drew _, by rw [List.length_append]; exact hge, hcm, ?_, fun j u hu => ?_⟩, ⟨rfl, rfl, rfl, by simp, fun k hk _ => Below.heap_alloc w.drew _ _ hk⟩⟩
    · simp only [Array.size_append, List.size_toArray, size_zeroCells, hzs, hl1, hl2, ← Nat.add_mul]
      rw [show l.length + l2.length + (grownCap w (l.length + l2.length) old e - (l.length + l2.length)) = grownCap w (l.length + l2.length) old e by omega]
      omega
    · rw [fl_app] at hu
      have hj := (List.getElem?_eq_some_iff.1 hu).1
      rw [Nat.zero_add, ← Array.getElem?_toList]
      simp only [Array.toList_append, List.append_assoc]
      rw [← List.append_assoc, List.getElem?_append_left hj]
      exact hu
  rcases h with ⟨rfl, rfl⟩ | ⟨g, o, cap, cur, rfl, hb, hg, hnc, hcm, hcs, hcell⟩
  · by_cases hm : l2 = []
    · subst hm
      refine ⟨.slice none 0 0, w, ?_, Tl.nil _ _ _, ⟨rfl, rfl, rfl, Nat.le_refl _, fun _ _ _ => rfl⟩, Or.inl rfl⟩
      simp [Builtin.append_, run_underlying ht, sizeOf, typeInfo, hi, Builtin.lenOf, Builtin.firstCells, loadCells, loadCellsFrom]
    · have hm' : l2.length ≠ 0 := fun e => hm (List.eq_nil_of_length_eq_zero e)
      have hr := run_append_nil (P := P) w t ty e i z ht hi hz ad l2.length c (fl f l2) hl2 hnews (by omega) (by have := hsmall; simp at this; omega) (by have hb := hbytes; simp only [List.length_nil, Nat.zero_add] at hb; omega)
      have hgr := grown 0 (Value.ownBlock (.slice none 0 0))
      simp only [fl, List.length_nil, Nat.zero_add, List.nil_append, Array.empty_append] at hgr ⊢
      exact ⟨_, _, hr, hgr.1, hgr.2, Or.inr rfl⟩
  · have hcells : ∀ j u, (fl f l)[j]? = some u → w.cell? ((⟨g, o, none⟩ : Addr).add j) = some u := fun j u hu => by
      rw [Addr.add_mid]
      simp [World.cell?, hg, hcell j u hu]
    by_cases hroom : l.length + l2.length ≤ cap
    · have hfit : o + l.length * i.size + (fl f l2).length ≤ cur.size := by
        rw [hl2]
        have := Nat.mul_le_mul_right i.size hroom
        rw [Nat.add_mul] at this
        omega
      have hcl : ∀ j, j < (fl f l2).length → w.cell? ⟨g, o + l.length * i.size + j, none⟩ = cur[o + l.length * i.size + j]? := fun j hj => by simp [World.cell?, hg]
      have hst := run_storeCells_cells (P := P) g (o + l.length * i.size) (fl f l2) 0 w (fun j hj => by rw [Nat.add_zero, hcl j hj, Array.getElem?_eq_getElem (by omega)]; rfl) (fun j hj => by simp [World.frozen?, hg]) (fl_one h1 l2)
      simp only [Nat.add_zero] at hst
      have hfc := run_firstCells_some (P := P) w i.size l2.length ad l2.length c (fl f l2) hl2 hnews
      refine ⟨.slice (some ⟨g, o, none⟩) (l.length + l2.length) cap, w.setCells g (o + l.length * i.size) (fl f l2), ?_, ?_, ?_, Or.inl rfl⟩
      · simp [Builtin.append_, run_underlying ht, sizeOf, typeInfo, hi, Builtin.lenOf, hroom, hfc, Addr.add_lit, hst]
      · obtain ⟨cur', hg', hsz, hin, hout⟩ := setCs_cells (fl f l2) w g (o + l.length * i.size) cur e (0, 0) hg hfit
        refine .inr ⟨g, o, cap, cur', by rw [List.length_append], hb, hg', by rw [List.length_append]; exact hroom, hcm, by omega, fun j u hu => ?_⟩
        rw [fl_app] at hu
        by_cases hj : j < (fl f l).length
        · rw [List.getElem?_append_left hj] at hu
          rw [hout (o + j) (.inl (by omega))]
          exact hcell j u hu
        · rw [List.getElem?_append_right (by omega)] at hu
          have hj2 := (List.getElem?_eq_some_iff.1 hu).1
          have := hin (j - (fl f l).length) u hu
          rwa [show o + l.length * i.size + (j - (fl f l).length) = o + j by omega] at this
      · refine ⟨(setCs_rest _ _ _ _).1, (setCs_rest _ _ _ _).2.1, (setCs_rest _ _ _ _).2.2, by rw [setCs_size]; exact Nat.le_refl _, fun k hk hne => setCs_other _ _ _ _ _ (fun e => hne (by simp [Value.ownBlock, e]))⟩
    · have hr := run_append_grow (P := P) w t ty e i z ht hi hz ⟨g, o, none⟩ l.length cap (fl f l) hl1 hcells ad l2.length c (fl f l2) hl2 hnews (by omega) (by omega) (growslice_fits (by omega) hbytes)
      have hgr := grown cap (Value.ownBlock (.slice (some ⟨g, o, none⟩) l.length cap))
      exact ⟨_, _, hr, hgr.1, hgr.2, Or.inr rfl⟩
end Go.Proofs.Ytkigagglkmdccaa
