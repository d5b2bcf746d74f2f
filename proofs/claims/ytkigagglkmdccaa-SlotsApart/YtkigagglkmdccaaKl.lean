/- The program's scheduler: a tenant is set. -/
import Derived.Test.YtkigagglkmdccaaKk
namespace Go.Proofs.Ytkigagglkmdccaa
open Go.RowKit
set_option linter.unusedVariables false
set_option linter.unusedSimpArgs false
variable {X : Ext}

theorem putN_gen {β : Type} {l : List β} {i j : Nat} {x y : β} (hi : i ≤ l.length) (h : (putN l i x)[j]? = some y) : (j < i ∧ l[j]? = some y) ∨ (j = i ∧ y = x) ∨ (i < j ∧ l[j - 1]? = some y) := by
  unfold putN at h
  have hl : (l.take i).length = i := by rw [List.length_take]; omega
  rcases Nat.lt_trichotomy j i with k | k | k
  · rw [List.getElem?_append_left (by omega), List.getElem?_take, if_pos k] at h
    exact .inl ⟨k, h⟩
  · rw [List.getElem?_append_right (by omega), hl, k, Nat.sub_self] at h
    simp at h
    exact .inr (.inl ⟨k, h.symm⟩)
  · rw [List.getElem?_append_right (by omega), hl] at h
    obtain ⟨d, hd⟩ : ∃ d, j - i = d + 1 := ⟨j - i - 1, by omega⟩
    rw [hd, List.getElem?_cons_succ, List.getElem?_drop] at h
    exact .inr (.inr ⟨k, by rw [show j - 1 = i + d by omega]; exact h⟩)
theorem putN_old {β : Type} {l : List β} {i k : Nat} {x y : β} (hi : i ≤ l.length) (h : l[k]? = some y) : (putN l i x)[if k < i then k else k + 1]? = some y := by
  unfold putN
  have hl : (l.take i).length = i := by rw [List.length_take]; omega
  split
  · rename_i c
    rw [List.getElem?_append_left (by omega), List.getElem?_take, if_pos c]
    exact h
  · rename_i c
    rw [List.getElem?_append_right (by omega), hl, show k + 1 - i = (k - i) + 1 by omega, List.getElem?_cons_succ, List.getElem?_drop, show i + (k - i) = k by omega]
    exact h
theorem putN_mem {β : Type} {l : List β} {i : Nat} {x y : β} (h : y ∈ putN l i x) : y = x ∨ y ∈ l := by
  unfold putN at h
  rcases List.mem_append.1 h with h | h
  · exact .inr (List.mem_of_mem_take h)
  · rcases List.mem_cons.1 h with h | h
    · exact .inl h
    · exact .inr (List.mem_of_mem_drop h)
theorem putN_map {β γ : Type} (f : β → γ) (l : List β) (i : Nat) (x : β) : (putN l i x).map f = putN (l.map f) i (f x) := by
  unfold putN
  simp [List.map_take, List.map_drop]
theorem putN_nodup {β : Type} {l : List β} {i : Nat} {x : β} (h : l.Nodup) (hx : x ∉ l) : (putN l i x).Nodup := by
  unfold putN
  refine (List.perm_middle).nodup_iff.2 ?_
  rw [List.take_append_drop]
  exact List.nodup_cons.2 ⟨hx, h⟩
theorem ltB_eq : ∀ a b : List UInt8, ltB a b = decide (lb a b)
  | [], [] => by simp [ltB, lb, Lib.compareBytes]
  | _ :: _, [] => by simp [ltB, lb, Lib.compareBytes]
  | [], _ :: _ => by simp [ltB, lb, Lib.compareBytes]
  | x :: a, y :: b => by
    have ih := ltB_eq a b
    rcases u8_or x y with h | h | h
    · simp [ltB, lb, Lib.compareBytes, h]
    · have hne : ¬ x = y := fun e => by subst e; exact u8_not h h
      simp [ltB, lb, Lib.compareBytes, h, u8_not h, hne]
    · subst h
      have hx : ¬ x < x := fun k => u8_not k k
      simp [ltB, lb, Lib.compareBytes, hx]
      rw [ih]
      rfl
theorem ins_put (t : Tn) : ∀ {l : List Tn}, Up (l.map fun t => t.nm) → insT t l = putN l (plI (l.map fun t => t.nm) t.nm) t
  | [], _ => rfl
  | p :: r, h => by
    have hr := List.pairwise_cons.1 h
    unfold insT
    rw [ltB_eq]
    by_cases hp : lb p.nm t.nm
    · have e : plI ((p :: r).map fun t => t.nm) t.nm = plI (r.map fun t => t.nm) t.nm + 1 := by unfold plI; rw [List.map_cons, List.countP_cons]; simp [hp]
      rw [if_pos (by simpa using hp), ins_put t hr.2, e]
      rfl
    · have e : plI ((p :: r).map fun t => t.nm) t.nm = 0 := by
        unfold plI
        rw [List.countP_eq_zero]
        intro x hx
        rcases List.mem_cons.1 hx with rfl | hx
        · simpa using hp
        · have := hr.1 x hx
          simp only [decide_eq_true_eq]
          exact fun k => hp (lb_trans _ _ _ this k)
      rw [if_neg (by simpa using hp), e]
      rfl
theorem PF.ins {w W1 w' : World} {T p Q : Nat} {F : Nat → Prop} {lv lv' srv : Value} {m : List Rw} {clk had : Int} {t : Tn} {s s' : Sc} (h : SR X w T lv m clk srv had) (hts : tns m = s.ts) (hsv : Srv s m srv had) (h4 : ∀ q, F q ↔ foot T lv m q) (hb : Below w.heap.size w W1) (hQ : QB W1 Q (.slice none 0 0) []) (hQn : w.heap.size ≤ Q) (hf : plB (nms m) t.nm = false) (hw : t.ws = [])
    (hn : Newly X W1 w' T clk srv had lv lv' (pts m) (plI (nms m) t.nm) p (rowO t Q)) (hclk : s'.clk = clk) (hs' : s'.ts = insT t s.ts) (hbu : s'.busy = s.busy) (hsr : s'.srv = s.srv) : ∃ F', PF X w' T F' s' ∧ Fr F F' w w' := by
  have h1 := h.at' (w' := W1) fun q hq => hb.block q (h.lt q hq)
  have hil : plI (nms m) t.nm ≤ m.length := by have := plI_le (nms m) t.nm; simpa [nms] using this
  have hT := h.lt T (.inl rfl)
  have hWs := hb.size
  have hown : ∀ q, lv.ownBlock = some q → q < w.heap.size := fun q hq => h.lt q (.inr (.inl hq))
  have hQl := hQ.lt Q (.inl rfl)
  have e1 : pts (putN m (plI (nms m) t.nm) ⟨p, Q, .slice none 0 0, t⟩) = putN (pts m) (plI (nms m) t.nm) p := by unfold pts; rw [putN_map]
  have e2 : nms (putN m (plI (nms m) t.nm) ⟨p, Q, .slice none 0 0, t⟩) = putN (nms m) (plI (nms m) t.nm) t.nm := by unfold nms; rw [putN_map]
  have keep : ∀ q, foot T lv m q → q ≠ T → some q ≠ lv.ownBlock → w'.heap[q]? = W1.heap[q]? := fun q hq k1 k2 => hn.block q (by have := h.lt q hq; omega) k1 k2
  have hnp := hn.new
  have hSR : SR X w' T lv' (putN m (plI (nms m) t.nm) ⟨p, Q, .slice none 0 0, t⟩) clk srv had := by
    refine ⟨hn.tab, by rw [e1]; exact hn.ptrs, fun x hx => ?_, fun x hx => ?_, by rw [e2]; exact h.up.put hf, ?_, ?_, ?_⟩
    · rcases putN_mem hx with rfl | hx
      · exact hn.row
      · have tg := h.tagT hx
        rw [keep x.p (.inr (.inr ⟨x, hx, .inl rfl⟩)) tg.1 tg.2.2.2.2.2.2.2.1]
        exact h1.each x hx
    · rcases putN_mem hx with rfl | hx
      · show QB w' Q (.slice none 0 0) t.ws
        rw [hw]
        refine hQ.at' fun q hq => ?_
        rcases hq with rfl | hq
        · exact hn.block q hQl (by omega) (fun e => by have := hown q e.symm; omega)
        · cases hq
      · have tg := h.tagT hx
        refine (h1.que x hx).at' fun q hq => ?_
        rcases hq with rfl | hq
        · exact keep x.Q (.inr (.inr ⟨x, hx, .inr (.inl rfl)⟩)) tg.2.1 tg.2.2.2.2.2.2.2.2
        · have tg2 := (h.tag2 hx hx).2.2.2.2
          refine keep q (.inr (.inr ⟨x, hx, .inr (.inr hq)⟩)) (tg2.1 q hq).2.2 fun e => ?_
          exact (tg2.2 q e.symm).1 hq.symm
    · rw [e1]
      refine putN_nodup h.nd fun hp => ?_
      obtain ⟨x, hx, e⟩ := List.mem_map.1 hp
      have := h.lt x.p (.inr (.inr ⟨x, hx, .inl rfl⟩))
      omega
    · rw [putN_map]
      refine putN_nodup h.ndQ fun hp => ?_
      obtain ⟨x, hx, e⟩ := List.mem_map.1 hp
      have := h.lt x.Q (.inr (.inr ⟨x, hx, .inr (.inl rfl)⟩))
      simp only at e
      omega
    · intro a b q x y hx hy k1 k2
      rcases putN_gen hil hx with ⟨c1, hx⟩ | ⟨c1, rfl⟩ | ⟨c1, hx⟩
      · rcases putN_gen hil hy with ⟨d1, hy⟩ | ⟨d1, rfl⟩ | ⟨d1, hy⟩
        · exact h.ndO a b q x y hx hy k1 k2
        · cases k2
        · have := h.ndO a (b - 1) q x y hx hy k1 k2
          omega
      · cases k1
      · rcases putN_gen hil hy with ⟨d1, hy⟩ | ⟨d1, rfl⟩ | ⟨d1, hy⟩
        · have := h.ndO (a - 1) b q x y hx hy k1 k2
          omega
        · cases k2
        · have := h.ndO (a - 1) (b - 1) q x y hx hy k1 k2
          omega
  have hS : Srv s' (putN m (plI (nms m) t.nm) ⟨p, Q, .slice none 0 0, t⟩) srv had := by
    refine ⟨fun hi => ?_, fun hi => ?_⟩
    · rw [hbu] at hi
      obtain ⟨k1, k2, k3⟩ := hsv.idle hi
      refine ⟨k1, k2, fun x hx y hy => ?_⟩
      rcases putN_mem hx with rfl | hx
      · rw [show (Rw.t ⟨p, Q, .slice none 0 0, t⟩).ws = [] from hw] at hy
        cases hy
      · exact k3 x hx y hy
    · rw [hbu] at hi
      obtain ⟨k, r, x, l, g1, g2, g3, g4, g5, g6, g7⟩ := hsv.busy hi
      refine ⟨_, r, x, l, putN_old hil g1, g2, by rw [hsr]; exact g3, g4, g5, g6, fun j y hj hy z hz => ?_⟩
      rcases putN_gen hil hy with ⟨c1, hy⟩ | ⟨c1, rfl⟩ | ⟨c1, hy⟩
      · refine g7 j y (fun e => hj ?_) hy z hz
        subst e
        rw [if_pos c1]
      · rw [show (Rw.t ⟨p, Q, .slice none 0 0, t⟩).ws = [] from hw] at hz
        cases hz
      · refine g7 (j - 1) y (fun e => hj ?_) hy z hz
        subst e
        rw [if_neg (by omega)]
        omega
  refine ⟨foot T lv' (putN m (plI (nms m) t.nm) ⟨p, Q, .slice none 0 0, t⟩), ⟨lv', _, srv, had, by rw [hclk]; exact hSR, ?_, hS, fun q => Iff.rfl⟩, ⟨hn.os.trans hb.os, hn.tape.trans hb.tape, hn.output.trans hb.output, by have := hn.size; omega, fun q hlt hnF => ?_, fun q hqq => ?_⟩⟩
  · rw [hs', ← hts, ins_put t (by have := h.up; unfold nms at this; unfold tns; rw [List.map_map]; exact this)]
    unfold tns
    rw [putN_map, List.map_map]
    rfl
  · rw [h4 q] at hnF
    rw [hn.block q (by omega) (fun e => hnF (.inl e)) (fun e => hnF (.inr (.inl e.symm)))]
    exact hb.block q hlt
  · rw [h4 q]
    rcases hqq with rfl | hqq | ⟨x, hx, hqq⟩
    · exact .inl (.inl rfl)
    · rcases hn.own with e | ⟨q', e, hle⟩
      · exact .inl (.inr (.inl (e ▸ hqq)))
      · rw [e] at hqq
        have := Option.some.inj hqq
        exact .inr (by omega)
    · rcases putN_mem hx with rfl | hx
      · rcases hqq with e | e | hqq
        · exact .inr (by simp only at e; omega)
        · exact .inr (by simp only at e; omega)
        · cases hqq
      · exact .inl (.inr (.inr ⟨x, hx, hqq⟩))
end Go.Proofs.Ytkigagglkmdccaa
