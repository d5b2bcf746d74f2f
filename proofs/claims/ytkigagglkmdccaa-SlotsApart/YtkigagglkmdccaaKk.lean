/- The program's scheduler: one row is turned, or put in. -/
import Derived.Test.YtkigagglkmdccaaKj
namespace Go.Proofs.Ytkigagglkmdccaa
open Go.RowKit
set_option linter.unusedVariables false
set_option linter.unusedSimpArgs false
variable {X : Ext}

theorem nodup_at {α : Type} {l : List α} (h : l.Nodup) {i j : Nat} {x : α} (hi : l[i]? = some x) (hj : l[j]? = some x) : i = j := by
  have g1 := List.getElem?_eq_some_iff.1 hi
  have g2 := List.getElem?_eq_some_iff.1 hj
  rcases Nat.lt_trichotomy i j with k | k | k
  · exact absurd (g1.2.trans g2.2.symm) (List.pairwise_iff_getElem.1 h i j g1.1 g2.1 k)
  · exact k
  · exact absurd (g2.2.trans g1.2.symm) (List.pairwise_iff_getElem.1 h j i g2.1 g1.1 k)
theorem mem_set {α : Type} {l : List α} {i : Nat} {x y : α} (h : y ∈ l.set i x) : (y = x ∧ i < l.length) ∨ ∃ j, j ≠ i ∧ l[j]? = some y := by
  obtain ⟨j, hj⟩ := List.getElem?_of_mem h
  by_cases e : i = j
  · subst e
    have hl := (List.getElem?_eq_some_iff.1 hj).1
    rw [List.length_set] at hl
    rw [List.getElem?_set_self hl] at hj
    exact .inl ⟨(Option.some.inj hj).symm, hl⟩
  · rw [List.getElem?_set_ne e] at hj
    exact .inr ⟨j, fun k => e k.symm, hj⟩
theorem map_set_same {α β : Type} (f : α → β) {l : List α} {i : Nat} {x y : α} (hi : l[i]? = some x) (h : f y = f x) : (l.set i y).map f = l.map f := by
  rw [List.map_set]
  exact List.ext_getElem? fun j => by
    by_cases e : i = j
    · subst e
      rw [List.getElem?_set_self (by simpa using (List.getElem?_eq_some_iff.1 hi).1), List.getElem?_map, hi]
      simp [h]
    · rw [List.getElem?_set_ne e]
theorem nodup_set {α : Type} {l : List α} {i : Nat} {x : α} (h : l.Nodup) (hx : x ∉ l) : (l.set i x).Nodup := by
  rw [List.nodup_iff_pairwise_ne, List.pairwise_iff_getElem]
  intro a b ha hb hab e
  rw [List.length_set] at ha hb
  rw [List.getElem_set, List.getElem_set] at e
  split at e
  · rename_i e1
    split at e
    · omega
    · exact hx (e ▸ List.getElem_mem hb)
  · split at e
    · exact hx (e ▸ List.getElem_mem ha)
    · exact List.pairwise_iff_getElem.1 h a b ha hb hab e
/-- What kinds of blocks there are: none is two of them. -/
theorem SR.tagT {w : World} {T : Nat} {lv srv : Value} {m : List Rw} {clk had : Int} (h : SR X w T lv m clk srv had) {r : Rw} (hr : r ∈ m) : r.p ≠ T ∧ r.Q ≠ T ∧ r.p ≠ r.Q ∧ some T ≠ r.sv.ownBlock ∧ some r.p ≠ r.sv.ownBlock ∧ some r.Q ≠ r.sv.ownBlock ∧ some T ≠ lv.ownBlock ∧ some r.p ≠ lv.ownBlock ∧ some r.Q ≠ lv.ownBlock := by
  have h1 : w.heap[r.p]? = some (.cells _ 130 (0, 0)) := h.each r hr
  have h2 := (h.que r hr).box
  refine ⟨ne_tag h1 h.box (by decide), ne_tag h2 h.box (by decide), ne_tag h1 h2 (by decide), fun e => ?_, fun e => ?_, fun e => ?_, own_other h.row h.box (by decide), own_other h.row h1 (by decide), own_other h.row h2 (by decide)⟩
  · obtain ⟨cur, hc⟩ := tl_tag (h.que r hr).items e.symm
    exact ne_tag h.box hc (by decide) rfl
  · obtain ⟨cur, hc⟩ := tl_tag (h.que r hr).items e.symm
    exact ne_tag h1 hc (by decide) rfl
  · obtain ⟨cur, hc⟩ := tl_tag (h.que r hr).items e.symm
    exact ne_tag h2 hc (by decide) rfl
theorem SR.tag2 {w : World} {T : Nat} {lv srv : Value} {m : List Rw} {clk had : Int} (h : SR X w T lv m clk srv had) {r x : Rw} (hr : r ∈ m) (hx : x ∈ m) : x.p ≠ r.Q ∧ some x.p ≠ r.sv.ownBlock ∧ some x.Q ≠ r.sv.ownBlock ∧ x.Q ≠ r.p ∧ (∀ q, x.sv.ownBlock = some q → q ≠ r.p ∧ q ≠ r.Q ∧ q ≠ T) ∧ ∀ q, lv.ownBlock = some q → some q ≠ r.sv.ownBlock ∧ q ≠ r.p ∧ q ≠ r.Q ∧ q ≠ T := by
  have h1 : w.heap[x.p]? = some (.cells _ 130 (0, 0)) := h.each x hx
  have h2 := (h.que x hx).box
  have k1 : w.heap[r.p]? = some (.cells _ 130 (0, 0)) := h.each r hr
  have k2 := (h.que r hr).box
  refine ⟨ne_tag h1 k2 (by decide), fun e => ?_, fun e => ?_, ne_tag h2 k1 (by decide), fun q hq => ?_, fun q hq => ?_⟩
  · obtain ⟨cur, hc⟩ := tl_tag (h.que r hr).items e.symm
    exact ne_tag h1 hc (by decide) rfl
  · obtain ⟨cur, hc⟩ := tl_tag (h.que r hr).items e.symm
    exact ne_tag h2 hc (by decide) rfl
  · obtain ⟨cur, hc⟩ := tl_tag (h.que x hx).items hq
    exact ⟨ne_tag hc k1 (by decide), ne_tag hc k2 (by decide), ne_tag hc h.box (by decide)⟩
  · obtain ⟨cur, hc⟩ := own_tag h.row hq
    refine ⟨fun e => ?_, ne_tag hc k1 (by decide), ne_tag hc k2 (by decide), ne_tag hc h.box (by decide)⟩
    obtain ⟨cur', hc'⟩ := tl_tag (h.que r hr).items e.symm
    exact ne_tag hc hc' (by decide) rfl
/-- One row, its queue and the scheduler's own cells are turned. -/
theorem SR.set {w w' : World} {T i : Nat} {lv srv srv' : Value} {m : List Rw} {clk had clk' had' : Int} {r r' : Rw} (h : SR X w T lv m clk srv had) (hi : m[i]? = some r) (hp : r'.p = r.p) (hn : r'.t.nm = r.t.nm) (hr : w'.heap[r.p]? = some (rowO r'.t r'.Q)) (hq : QB w' r'.Q r'.sv r'.t.ws) (hbox : w'.heap[T]? = some (.cells (bx X lv clk' srv' had') 65 (0, 0)))
    (hk : ∀ q, q < w.heap.size → q ≠ T → q ≠ r.p → q ≠ r.Q → some q ≠ r.sv.ownBlock → w'.heap[q]? = w.heap[q]?) (hQ : r'.Q = r.Q ∨ w.heap.size ≤ r'.Q) (hO : r'.sv.ownBlock = r.sv.ownBlock ∨ ∀ q, r'.sv.ownBlock = some q → w.heap.size ≤ q) : SR X w' T lv (m.set i r') clk' srv' had' := by
  have hrm := List.mem_of_getElem? hi
  have hil := (List.getElem?_eq_some_iff.1 hi).1
  have e1 : pts (m.set i r') = pts m := map_set_same _ hi hp
  have e2 : nms (m.set i r') = nms m := map_set_same _ hi hn
  have other : ∀ j x, j ≠ i → m[j]? = some x → x.p ≠ r.p ∧ x.Q ≠ r.Q ∧ ∀ q, x.sv.ownBlock = some q → some q ≠ r.sv.ownBlock := fun j x hj hx => ⟨fun e => hj (nodup_at h.nd (pts_at hx) (by rw [pts_at hi, e])), fun e => hj (nodup_at (l := m.map fun r => r.Q) (x := r.Q) h.ndQ (by rw [List.getElem?_map, hx]; simp [e]) (by rw [List.getElem?_map, hi]; rfl)), fun q hq e => hj (h.ndO j i q x r hx hi hq e.symm)⟩
  have hrow : Ptrs w' lv (pts m) := own_at h.row fun q hq => by
    have t := (h.tag2 hrm hrm).2.2.2.2.2 q hq
    exact hk q (h.lt q (.inr (.inl hq))) t.2.2.2 t.2.1 t.2.2.1 t.1
  refine ⟨hbox, by rw [e1]; exact hrow, fun x hx => ?_, fun x hx => ?_, by rw [e2]; exact h.up, by rw [e1]; exact h.nd, ?_, ?_⟩
  · rcases mem_set hx with ⟨e, _⟩ | ⟨j, hj, hx⟩
    · rw [e, hp]; exact hr
    · have hxm := List.mem_of_getElem? hx
      have t := h.tag2 hrm hxm
      rw [hk x.p (h.lt _ (.inr (.inr ⟨x, hxm, .inl rfl⟩))) (h.tagT hxm).1 (other j x hj hx).1 t.1 t.2.1]
      exact h.each x hxm
  · rcases mem_set hx with ⟨e, _⟩ | ⟨j, hj, hx⟩
    · rw [e]; exact hq
    · have hxm := List.mem_of_getElem? hx
      have t := h.tag2 hrm hxm
      refine (h.que x hxm).at' fun q hqq => ?_
      rcases hqq with rfl | hqq
      · exact hk x.Q (h.lt _ (.inr (.inr ⟨x, hxm, .inr (.inl rfl)⟩))) (h.tagT hxm).2.1 t.2.2.2.1 (other j x hj hx).2.1 t.2.2.1
      · have t2 := t.2.2.2.2.1 q hqq
        exact hk q (h.lt _ (.inr (.inr ⟨x, hxm, .inr (.inr hqq)⟩))) t2.2.2 t2.1 t2.2.1 ((other j x hj hx).2.2 q hqq)
  · rcases hQ with e | e
    · rw [map_set_same (fun r : Rw => r.Q) hi e]
      exact h.ndQ
    · rw [List.map_set]
      refine nodup_set h.ndQ fun hm => ?_
      obtain ⟨x, hx, e3⟩ := List.mem_map.1 hm
      have := h.lt x.Q (.inr (.inr ⟨x, hx, .inr (.inl rfl)⟩))
      omega
  · intro a b q x y hx hy h1 h2
    by_cases ea : i = a
    · subst ea
      rw [List.getElem?_set_self hil] at hx
      have := Option.some.inj hx
      subst this
      by_cases eb : i = b
      · exact eb
      · rw [List.getElem?_set_ne eb] at hy
        rcases hO with e | e
        · rw [e] at h1
          exact h.ndO i b q r y hi hy h1 h2
        · have := e q h1
          have := h.lt q (.inr (.inr ⟨y, List.mem_of_getElem? hy, .inr (.inr h2)⟩))
          omega
    · rw [List.getElem?_set_ne ea] at hx
      by_cases eb : i = b
      · subst eb
        rw [List.getElem?_set_self hil] at hy
        have := Option.some.inj hy
        subst this
        rcases hO with e | e
        · rw [e] at h2
          exact h.ndO a i q x r hx hi h1 h2
        · have := e q h2
          have := h.lt q (.inr (.inr ⟨x, List.mem_of_getElem? hx, .inr (.inr h1)⟩))
          omega
      · rw [List.getElem?_set_ne eb] at hy
        exact h.ndO a b q x y hx hy h1 h2
/-- What comes of it, against the plain scheduler. -/
theorem PF.set {w w' : World} {T i : Nat} {F : Nat → Prop} {lv srv srv' : Value} {m : List Rw} {clk had had' : Int} {r r' : Rw} {s' : Sc} (h : SR X w T lv m clk srv had) (h4 : ∀ q, F q ↔ foot T lv m q) (hi : m[i]? = some r) (hp : r'.p = r.p) (hn : r'.t.nm = r.t.nm) (hr : w'.heap[r.p]? = some (rowO r'.t r'.Q)) (hq : QB w' r'.Q r'.sv r'.t.ws) (hbox : w'.heap[T]? = some (.cells (bx X lv (s'.clk) srv' had') 65 (0, 0)))
    (hk : ∀ q, q < w.heap.size → q ≠ T → q ≠ r.p → q ≠ r.Q → some q ≠ r.sv.ownBlock → w'.heap[q]? = w.heap[q]?) (hQ : r'.Q = r.Q ∨ w.heap.size ≤ r'.Q) (hO : r'.sv.ownBlock = r.sv.ownBlock ∨ ∀ q, r'.sv.ownBlock = some q → w.heap.size ≤ q)
    (hos : w'.os = w.os) (htp : w'.tape = w.tape) (hou : w'.output = w.output) (hsz : w.heap.size ≤ w'.heap.size) (hts : tns (m.set i r') = s'.ts) (hsv : Srv s' (m.set i r') srv' had') : ∃ F', PF X w' T F' s' ∧ Fr F F' w w' := by
  have hrm := List.mem_of_getElem? hi
  refine ⟨foot T lv (m.set i r'), ⟨lv, m.set i r', srv', had', h.set hi hp hn hr hq hbox hk hQ hO, hts, hsv, fun q => Iff.rfl⟩, ⟨hos, htp, hou, hsz, fun q hlt hnF => ?_, fun q hqq => ?_⟩⟩
  · rw [h4 q] at hnF
    exact hk q hlt (fun e => hnF (.inl e)) (fun e => hnF (.inr (.inr ⟨r, hrm, .inl e⟩))) (fun e => hnF (.inr (.inr ⟨r, hrm, .inr (.inl e)⟩))) (fun e => hnF (.inr (.inr ⟨r, hrm, .inr (.inr e.symm)⟩)))
  · rw [h4 q]
    rcases hqq with rfl | hqq | ⟨x, hx, hqq⟩
    · exact .inl (.inl rfl)
    · exact .inl (.inr (.inl hqq))
    · rcases mem_set hx with ⟨ex, _⟩ | ⟨j, hj, hx⟩
      · rw [ex] at hqq
        rcases hqq with e0 | e0 | hqq
        · exact .inl (.inr (.inr ⟨r, hrm, .inl (e0.trans hp)⟩))
        · rcases hQ with e | e
          · exact .inl (.inr (.inr ⟨r, hrm, .inr (.inl (e0.trans e))⟩))
          · exact .inr (by omega)
        · rcases hO with e | e
          · exact .inl (.inr (.inr ⟨r, hrm, .inr (.inr (e ▸ hqq))⟩))
          · exact .inr (e q hqq)
      · exact .inl (.inr (.inr ⟨x, List.mem_of_getElem? hx, hqq⟩))
end Go.Proofs.Ytkigagglkmdccaa
