/- The program's table as it lies; a tenant is looked for; its bucket is filled up to a time. -/
import Derived.Test.YtpobfcmbbabchaaQ3
namespace Go.Proofs.Ytpobfcmbbabchaa
open Go.RowKit
set_option linter.unusedVariables false
set_option linter.unusedSimpArgs false

def nms (m : List (Nat × Bk)) : List (List UInt8) := m.map fun x => x.2.nm
def pts (m : List (Nat × Bk)) : List Nat := m.map fun x => x.1
def bks (m : List (Nat × Bk)) : List Bk := m.map fun x => x.2
/-- The program's table: its rows in the order of the names. -/
structure PR (w : World) (T : Nat) (sv : Value) (m : List (Nat × Bk)) : Prop where
  tab : w.heap[T]? = some (.cells #[sv] 58 (0, 0))
  row : Ptrs w sv (pts m)
  each : ∀ p b, (p, b) ∈ m → w.heap[p]? = some (pkO b)
  up : Up (nms m)
  nd : (pts m).Nodup
/-- Its blocks. -/
def foot (T : Nat) (sv : Value) (m : List (Nat × Bk)) (q : Nat) : Prop := q = T ∨ sv.ownBlock = some q ∨ q ∈ pts m
theorem PR.cell {w : World} {T : Nat} {sv : Value} {m : List (Nat × Bk)} (h : PR w T sv m) : w.cell? ⟨T, 0, none⟩ = some sv := by rw [cell_of_row _ _ _ _ _ _ h.tab]; rfl
theorem PR.nam {w : World} {T : Nat} {sv : Value} {m : List (Nat × Bk)} (h : PR w T sv m) : Nms w (pts m) (nms m) := by
  refine ⟨by simp [nms, pts], fun j p n hp hn => ?_⟩
  unfold pts at hp
  unfold nms at hn
  rw [List.getElem?_map] at hp hn
  cases hx : m[j]? with
  | none => rw [hx] at hp; cases hp
  | some x =>
    rw [hx] at hp hn
    simp at hp hn
    subst hp
    subst hn
    exact (row8_cells (h.each x.1 x.2 (List.mem_of_getElem? hx))).1
theorem PR.at' {w w' : World} {T : Nat} {sv : Value} {m : List (Nat × Bk)} (h : PR w T sv m) (hk : ∀ q, foot T sv m q → w'.heap[q]? = w.heap[q]?) : PR w' T sv m :=
  ⟨(hk T (.inl rfl)).trans h.tab, own_at h.row fun q hq => hk q (.inr (.inl hq)), fun p b hp => (hk p (.inr (.inr (List.mem_map.2 ⟨(p, b), hp, rfl⟩)))).trans (h.each p b hp), h.up, h.nd⟩
theorem PR.lt {w : World} {T : Nat} {sv : Value} {m : List (Nat × Bk)} (h : PR w T sv m) : ∀ q, foot T sv m q → q < w.heap.size := by
  rintro q (rfl | hq | hq)
  · exact (Array.getElem?_eq_some_iff.1 h.tab).1
  · exact (h.row.lt q hq).2
  · obtain ⟨⟨p, b⟩, hx, rfl⟩ := List.mem_map.1 hq
    exact (Array.getElem?_eq_some_iff.1 (h.each p b hx)).1
/-- The types of its blocks. -/
def badQ (t : TypeId) : Bool := t == 58 || t == 85 || t == 86
theorem PR.kind {w : World} {T : Nat} {sv : Value} {m : List (Nat × Bk)} (h : PR w T sv m) : ∀ q, foot T sv m q → ∃ o, w.heap[q]? = some o ∧ ∀ c t f, o = .cells c t f → badR t = false := by
  rintro q (rfl | hq | hq)
  · exact ⟨_, h.tab, fun c t f e => by cases e; rfl⟩
  · obtain ⟨cur, hc⟩ := own_tag h.row hq
    exact ⟨_, hc, fun c t f e => by cases e; rfl⟩
  · obtain ⟨⟨p, b⟩, hx, rfl⟩ := List.mem_map.1 hq
    exact ⟨_, h.each p b hx, fun c t f e => by unfold pkO row8 at e; cases e; rfl⟩
/-- The row of a tenant. -/
def fnd (m : List (Nat × Bk)) (nm : List UInt8) : Option (Nat × Nat × Bk) := if plB (nms m) nm then (m[plI (nms m) nm]?).map fun x => (plI (nms m) nm, x.1, x.2) else none
theorem nms_at {m : List (Nat × Bk)} {i : Nat} {x : Nat × Bk} (h : m[i]? = some x) : (nms m)[i]? = some x.2.nm := by unfold nms; rw [List.getElem?_map, h]; rfl
theorem pts_at {m : List (Nat × Bk)} {i : Nat} {x : Nat × Bk} (h : m[i]? = some x) : (pts m)[i]? = some x.1 := by unfold pts; rw [List.getElem?_map, h]; rfl
theorem bks_at {m : List (Nat × Bk)} {i : Nat} {x : Nat × Bk} (h : m[i]? = some x) : (bks m)[i]? = some x.2 := by unfold bks; rw [List.getElem?_map, h]; rfl
theorem fnd_some {m : List (Nat × Bk)} {nm : List UInt8} {i p : Nat} {b : Bk} (h : fnd m nm = some (i, p, b)) : plB (nms m) nm = true ∧ plI (nms m) nm = i ∧ m[i]? = some (p, b) ∧ b.nm = nm := by
  unfold fnd at h
  split at h
  · rename_i hb
    cases hx : m[plI (nms m) nm]? with
    | none => rw [hx] at h; cases h
    | some x =>
      rw [hx] at h
      simp at h
      obtain ⟨rfl, rfl, rfl⟩ := h
      refine ⟨hb, rfl, hx, ?_⟩
      have h1 := plB_true hb
      rw [nms_at hx] at h1
      exact Option.some.inj h1
  · cases h
theorem fnd_none {m : List (Nat × Bk)} {nm : List UInt8} (h : fnd m nm = none) : plB (nms m) nm = false := by
  unfold fnd at h
  split at h
  · rename_i hb
    have h1 := plB_true hb
    unfold nms at h1
    rw [List.getElem?_map] at h1
    cases hx : m[plI (nms m) nm]? with
    | none => unfold nms at hx; rw [hx] at h1; cases h1
    | some x => rw [hx] at h; cases h
  · rename_i hb
    simpa using hb
/-- The same tenant's bucket in the plain list. -/
theorem fnd_look {m : List (Nat × Bk)} {l : List Bk} {nm : List UInt8} (hu : Up (nms m)) (hp : (bks m).Perm l) :
    (∃ i p b k, fnd m nm = some (i, p, b) ∧ lookB l nm = some (k, b) ∧ ixB l nm = some k) ∨ (fnd m nm = none ∧ lookB l nm = none ∧ ixB l nm = none) := by
  cases hf : fnd m nm with
  | none =>
    have h1 := plB_false hu (fnd_none hf)
    have h2 : ixB l nm = none := ixB_miss l nm fun j q hq e => by
      have h3 := hp.symm.subset (List.mem_of_getElem? hq)
      obtain ⟨x, hx, rfl⟩ := List.mem_map.1 h3
      exact h1 x.2.nm (List.mem_map.2 ⟨x, hx, rfl⟩) e
    exact .inr ⟨rfl, by unfold lookB; rw [h2], h2⟩
  | some t =>
    obtain ⟨i, p, b⟩ := t
    obtain ⟨h1, h2, h3, h4⟩ := fnd_some hf
    have hb : b ∈ l := hp.subset (List.mem_map.2 ⟨(p, b), List.mem_of_getElem? h3, rfl⟩)
    cases hx : ixB l nm with
    | none =>
      exfalso
      obtain ⟨j, hj⟩ := List.getElem?_of_mem hb
      have : ∀ (l : List Bk) (j : Nat), l[j]? = some b → ixB l nm ≠ none := by
        intro l
        induction l with
        | nil => intro j hj; simp at hj
        | cons y r ih =>
          intro j hj
          simp only [ixB]
          split
          · simp
          · rename_i hy
            cases j with
            | zero => simp at hj; subst hj; exact absurd h4 hy
            | succ j =>
              have := ih j (by simpa using hj)
              cases hr : ixB r nm with
              | none => exact absurd hr this
              | some k => simp
      exact this l j hj hx
    | some k =>
      obtain ⟨c, hc, hcn⟩ := ixB_some l nm k hx
      obtain ⟨y, hy, e⟩ := List.mem_map.1 (hp.symm.subset (List.mem_of_getElem? hc))
      subst e
      obtain ⟨j, hj⟩ := List.getElem?_of_mem hy
      have hij : j = i := by
        have g1 := List.getElem?_eq_some_iff.1 (nms_at hj)
        have g2 := List.getElem?_eq_some_iff.1 (nms_at h3)
        rcases Nat.lt_trichotomy j i with h | h | h
        · have := List.pairwise_iff_getElem.1 hu j i g1.1 g2.1 h
          rw [g1.2, g2.2] at this
          exact absurd (hcn.trans h4.symm) (lb_ne this)
        · exact h
        · have := List.pairwise_iff_getElem.1 hu i j g2.1 g1.1 h
          rw [g1.2, g2.2] at this
          exact absurd (h4.trans hcn.symm) (lb_ne this)
      subst hij
      rw [h3] at hj
      have e := Option.some.inj hj
      refine .inl ⟨j, p, b, k, rfl, ?_, rfl⟩
      unfold lookB
      rw [hx]
      simp [hc, ← e]
theorem perm_set {α : Type} {l m : List α} {k i : Nat} {b c : α} (hp : m.Perm l) (hk : l[k]? = some b) (hi : m[i]? = some b) : (m.set i c).Perm (l.set k c) := by
  have key : ∀ (l : List α) (k : Nat) (b c : α), l[k]? = some b → l.Perm (b :: l.eraseIdx k) ∧ (l.set k c).Perm (c :: l.eraseIdx k) := by
    intro l
    induction l with
    | nil => intro k b c h; simp at h
    | cons y r ih =>
      intro k b c h
      cases k with
      | zero => simp at h; subst h; simp
      | succ k =>
        obtain ⟨h1, h2⟩ := ih k b c (by simpa using h)
        simp only [List.eraseIdx_cons_succ, List.set_cons_succ]
        exact ⟨(h1.cons y).trans (.swap _ _ _), (h2.cons y).trans (.swap _ _ _)⟩
  have h1 := key l k b c hk
  have h2 := key m i b c hi
  have h3 : (m.eraseIdx i).Perm (l.eraseIdx k) := List.Perm.cons_inv ((h2.1.symm.trans hp).trans h1.1)
  exact (h2.2.trans (h3.cons c)).trans h1.2.symm
theorem perm_erase {α : Type} {l m : List α} {k i : Nat} {b : α} (hp : m.Perm l) (hk : l[k]? = some b) (hi : m[i]? = some b) : (m.eraseIdx i).Perm (l.eraseIdx k) := by
  have key : ∀ (l : List α) (k : Nat) (b : α), l[k]? = some b → l.Perm (b :: l.eraseIdx k) := by
    intro l
    induction l with
    | nil => intro k b h; simp at h
    | cons y r ih =>
      intro k b h
      cases k with
      | zero => simp at h; subst h; simp
      | succ k =>
        have h1 := ih k b (by simpa using h)
        simp only [List.eraseIdx_cons_succ]
        exact (h1.cons y).trans (.swap _ _ _)
  exact List.Perm.cons_inv (((key m i b hi).symm.trans hp).trans (key l k b hk))
theorem nodup_at {α : Type} {l : List α} (h : l.Nodup) {i j : Nat} {x : α} (hi : l[i]? = some x) (hj : l[j]? = some x) : i = j := by
  have g1 := List.getElem?_eq_some_iff.1 hi
  have g2 := List.getElem?_eq_some_iff.1 hj
  rcases Nat.lt_trichotomy i j with k | k | k
  · exact absurd (g1.2.trans g2.2.symm) (List.pairwise_iff_getElem.1 h i j g1.1 g2.1 k)
  · exact k
  · exact absurd (g2.2.trans g1.2.symm) (List.pairwise_iff_getElem.1 h j i g2.1 g1.1 k)
/-- One row is turned. -/
theorem PR.put {w w' : World} {T p i : Nat} {sv : Value} {m : List (Nat × Bk)} {b c : Bk} (h : PR w T sv m) (hi : m[i]? = some (p, b)) (hc : c.nm = b.nm) (hr : w'.heap[p]? = some (pkO c)) (hk : ∀ q, q < w.heap.size → q ≠ p → w'.heap[q]? = w.heap[q]?) : PR w' T sv (m.set i (p, c)) := by
  have hp : w.heap[p]? = some (pkO b) := h.each p b (List.mem_of_getElem? hi)
  have hlt := (List.getElem?_eq_some_iff.1 hi).1
  have e1 : pts (m.set i (p, c)) = pts m := by
    unfold pts
    rw [List.map_set]
    exact List.ext_getElem? fun j => by
      by_cases e : i = j
      · subst e; rw [List.getElem?_set_self (by simpa using hlt), List.getElem?_map, hi]; rfl
      · rw [List.getElem?_set_ne e]
  have e2 : nms (m.set i (p, c)) = nms m := by
    unfold nms
    rw [List.map_set]
    exact List.ext_getElem? fun j => by
      by_cases e : i = j
      · subst e; rw [List.getElem?_set_self (by simpa using hlt), List.getElem?_map, hi]; simp [hc]
      · rw [List.getElem?_set_ne e]
  have hTp : T ≠ p := ne_tag h.tab (show w.heap[p]? = some (.cells _ 85 (0, 0)) from hp) (by decide)
  have hrow : Ptrs w' sv (pts m) := own_at h.row fun q hq => hk q (h.lt q (.inr (.inl hq))) fun e => by
    subst e
    obtain ⟨cur, hcu⟩ := own_tag h.row hq
    exact ne_tag hcu (show w.heap[q]? = some (.cells _ 85 (0, 0)) from hp) (by decide) rfl
  refine ⟨(hk T (h.lt T (.inl rfl)) hTp).trans h.tab, by rw [e1]; exact hrow, fun q x hx => ?_, by rw [e2]; exact h.up, by rw [e1]; exact h.nd⟩
  · obtain ⟨j, hj⟩ := List.getElem?_of_mem hx
    by_cases e : i = j
    · subst e
      rw [List.getElem?_set_self hlt] at hj
      obtain ⟨rfl, rfl⟩ := Prod.mk.inj (Option.some.inj hj)
      exact hr
    · rw [List.getElem?_set_ne e] at hj
      have hne : q ≠ p := by
        intro e2
        subst e2
        have g1 := List.getElem?_eq_some_iff.1 (pts_at hj)
        have g2 := List.getElem?_eq_some_iff.1 (pts_at hi)
        exact e (nodup_at (x := q) h.nd (pts_at hi) (pts_at hj))
      rw [hk q (h.lt q (.inr (.inr (List.mem_map.2 ⟨(q, x), List.mem_of_getElem? hj, rfl⟩)))) hne]
      exact h.each q x (List.mem_of_getElem? hj)
set_option maxRecDepth 20000 in
set_option maxHeartbeats 4000000 in
theorem find_any (T : Nat) (sv : Value) (m : List (Nat × Bk)) (nm : List UInt8) (w : World) (h : PR w T sv m) (hl : m.length ≤ 16) :
    Calls Try.prog 31 #[.pointer (some ⟨T, 0, none⟩), .string (tx nm)] w fun e w' => e = .returned (match fnd m nm with | some (_, p, _) => .tuple #[.pointer (some ⟨p, 1, none⟩), .int .i64 0] | none => .tuple #[.pointer none, .int .i64 5]) ∧ w' = w := by
  have HL : Hid (∀ W, W = w → Calls Try.prog 46 #[.pointer (some ⟨T, 0, none⟩), .string (tx nm)] W fun e w' => e = .returned (.tuple #[.int .i64 (plI (nms m) nm : Nat), .bool (plB (nms m) nm)]) ∧ w' = W) := fun W e => by
    subst e
    exact place_any T sv (pts m) (nms m) nm W h.cell h.row h.nam h.up (by simpa [pts] using hl)
  have c0 := h.cell
  cases hf : fnd m nm with
  | none =>
    rw [fnd_none hf] at HL
    clear h hl hf
    go_enter Try.func31, Try.ntmps31
    go_wp2_with (go_at_call 46; refine (HL.out _ rfl).mono ?_; rintro e w' ⟨rfl, hw⟩; rw [hw]; clear hw)
    go_ret2
    exact ⟨rfl, rfl⟩
  | some t =>
    obtain ⟨i, p, b⟩ := t
    obtain ⟨h1, h2, h3, h4⟩ := fnd_some hf
    rw [h1, h2] at HL
    have hlt := (List.getElem?_eq_some_iff.1 h3).1
    obtain ⟨g, cap, hv⟩ := own_form h.row (by simpa [pts] using Nat.lt_of_le_of_lt (Nat.zero_le _) hlt)
    have hlen : (pts m).length = m.length := by simp [pts]
    rw [hlen] at hv
    subst hv
    have hrow : Ptrs w (.slice (some ⟨g, 0, none⟩) (pts m).length cap) (pts m) := by rw [hlen]; exact h.row
    have c1 := hrow.cell (pts_at h3)
    have hcap : (m.length : Int) ≤ (cap : Int) := by have := own_cap hrow; omega
    have hi' : (i : Int) < (m.length : Int) := by omega
    have hl' : (m.length : Int) ≤ 16 := by omega
    generalize m.length = n at *
    clear h hl hf h1 h2 h3 h4 hlt hlen hrow
    go_enter Try.func31, Try.ntmps31
    go_wp2_with (go_at_call 46; refine (HL.out _ rfl).mono ?_; rintro e w' ⟨rfl, hw⟩; rw [hw]; clear hw)
    go_ret2
    exact ⟨rfl, rfl⟩
end Go.Proofs.Ytpobfcmbbabchaa
