/- Rows of pointers: one is put in at a place. -/
import Derived.Test.YtkigagglkmdccaaNd
namespace Go.Proofs.Ytkigagglkmdccaa
open Go.RowKit Go.Lib
set_option linter.unusedVariables false
set_option linter.unusedSimpArgs false

theorem putN_atI {ps : List Int} {i j : Nat} {x p : Int} (hi : i ≤ ps.length) (h : (putN ps i x)[j]? = some p) : (j < i ∧ ps[j]? = some p) ∨ (j = i ∧ p = x) ∨ (i < j ∧ ps[j - 1]? = some p) := by
  unfold putN at h
  have hl : (ps.take i).length = i := by rw [List.length_take]; omega
  rcases Nat.lt_trichotomy j i with k | k | k
  · rw [List.getElem?_append_left (by omega), List.getElem?_take, if_pos k] at h
    exact .inl ⟨k, h⟩
  · rw [List.getElem?_append_right (by omega), hl, k, Nat.sub_self] at h
    simp at h
    exact .inr (.inl ⟨k, h.symm⟩)
  · rw [List.getElem?_append_right (by omega), hl] at h
    obtain ⟨d, hd⟩ : ∃ d, j - i = d + 1 := ⟨j - i - 1, by omega⟩
    rw [hd, List.getElem?_cons_succ, List.getElem?_drop] at h
    exact .inr (.inr ⟨k, by rw [show j - 1 = i + d by omega]; exact h⟩)
theorem putN_lenI {ps : List Int} {i : Nat} {x : Int} (hi : i ≤ ps.length) : (putN ps i x).length = ps.length + 1 := by
  unfold putN
  rw [List.length_append, List.length_take, List.length_cons, List.length_drop]
  omega
set_option maxHeartbeats 4000000 in
set_option maxRecDepth 100000 in
theorem insert_anyI (ps : List Int) (sv : Value) (i : Nat) (x : Int) (vb : Nat) (w : World) (h : RowI w sv ps) (hi : i ≤ ps.length) (hl : ps.length ≤ 15) (hv : w.heap[vb]? = some (.cells #[intV x] 3 (0, 0))) (hne : some vb ≠ sv.ownBlock) :
    Calls Try.prog 35 #[sv, .int .i64 i, .slice (some ⟨vb, 0, none⟩) 1 1] w fun e w' => ∃ sv', e = .returned sv' ∧ RowI w' sv' (putN ps i x) ∧ w.grownBy w' sv.ownBlock ∧ (sv'.ownBlock = sv.ownBlock ∨ sv'.ownBlock = some w.heap.size) := by
  have hvc : w.cell? ⟨vb, 0, none⟩ = some (intV x) := by rw [cell_of_row _ _ _ _ _ _ hv]; rfl
  rcases Nat.lt_or_ge i ps.length with hlt | hge
  · obtain ⟨g, cap, hsv⟩ := own_form h (by omega)
    subst hsv
    obtain ⟨cur, hg, _, hnc, hcm, hcs, hat⟩ := h.open
    have hcl : ∀ j v, (ps.map intV)[j]? = some v → w.cell? ⟨g, j, none⟩ = some v := fun j v hj => by
      rw [List.getElem?_map] at hj
      cases hq : ps[j]? with
      | none => rw [hq] at hj; cases hj
      | some q =>
        rw [hq] at hj
        have : intV q = v := by simpa using hj
        subst this
        simp [World.cell?, hg, hat j q hq]
    have hvg : vb ≠ g := fun e => hne (by rw [e]; rfl)
    by_cases hroom : ps.length + 1 ≤ cap
    · refine (insert_shiftI g ps.length cap i vb (ps.map intV) (intV x) w hlt hroom (by unfold maxLen at hcm; omega) hvg (by simp) hcl (fun j hj => by simp [World.cell?, hg]; omega) (fun j hj => by simp [World.frozen?, hg]) hvc one_ofI rfl 3 3 cur.size (by simp [World.shape?, hv]) (by simp [World.shape?, hg]) (by omega) (by simp [World.frozen?, hv]) (by simp [World.frozen?, hv])).mono ?_
      rintro e w' ⟨rfl, rfl⟩
      refine ⟨_, rfl, ?_, ?_, .inl rfl⟩
      · obtain ⟨c1, hg1, hs1, hin1, hout1⟩ := setCs_cells ((ps.map intV).drop i) w.drew g (i + 1) cur 3 (0, 0) hg (by simp; omega)
        obtain ⟨c2, hg2, hs2, hin2, hout2⟩ := setCs_cells [intV x] _ g i c1 3 (0, 0) hg1 (by simp; omega)
        refine ptrs_ofI hg2 (putN_lenI hi) hroom hcm (by omega) fun j p hp => ?_
        rcases putN_atI hi hp with ⟨k1, k2⟩ | ⟨rfl, rfl⟩ | ⟨k1, k2⟩
        · rw [hout2 j (.inl k1), hout1 j (.inl (by omega))]
          exact hat j p k2
        · exact hin2 0 _ rfl
        · rw [hout2 j (.inr (by simp; omega))]
          have := hin1 (j - 1 - i) (intV p) (by rw [List.getElem?_drop, show i + (j - 1 - i) = j - 1 by omega, List.getElem?_map, k2]; rfl)
          rwa [show i + 1 + (j - 1 - i) = j by omega] at this
      · have e1 := setCs_rest ((ps.map intV).drop i) w.drew g (i + 1)
        have e2 := setCs_rest [intV x] (w.drew.setCells g (i + 1) ((ps.map intV).drop i)) g i
        refine ⟨e2.1.trans e1.1, e2.2.1.trans e1.2.1, e2.2.2.trans e1.2.2, by rw [setCs_size, setCs_size]; exact Nat.le_refl _, fun k hk hn => ?_⟩
        have hkg : k ≠ g := fun e => hn (by rw [e]; rfl)
        rw [setCs_other _ _ _ _ _ hkg, setCs_other _ _ _ _ _ hkg]
        rfl
    · refine (insert_growI g ps.length cap i vb (ps.map intV) (intV x) w hlt hnc (by omega) (by omega) (by simp) hcl hvc one_ofI rfl).mono ?_
      rintro e w' ⟨rfl, rfl⟩
      have hge := grownCap_ge w (ps.length + 1) cap 3
      have hcm2 : grownCap w (ps.length + 1) cap 3 ≤ maxLen := grownCap_le_maxLen w (ps.length + 1) cap 3 (by unfold maxLen; omega)
      generalize grownCap w (ps.length + 1) cap 3 = G at hge hcm2
      obtain ⟨ROW, hROW⟩ : ∃ ROW : Array Value, ((ps.map intV).take i).toArray ++ Builtin.zeroCells (Value.int .i64 0).cells (ps.length + 1 - i) ++ Builtin.zeroCells (Value.int .i64 0).cells (G - (ps.length + 1)) = ROW := ⟨_, rfl⟩
      have hRs : ROW.size = G := by
        rw [← hROW]
        simp [Builtin.zeroCells, Value.cells]
        omega
      have hR0 : ∀ j p, j < i → ps[j]? = some p → ROW[j]? = some (intV p) := fun j p hj hp => by
        rw [← hROW, ← Array.getElem?_toList]
        simp only [Array.toList_append, List.append_assoc]
        rw [List.getElem?_append_left (by simp; omega)]
        simp [List.getElem?_take, hj, hp]
      rw [hROW]
      refine ⟨_, rfl, ?_, ?_, .inr rfl⟩
      · have hg0 : (w.alloc (.cells ROW 3)).drew.heap[w.heap.size]? = some (.cells ROW 3 (0, 0)) := heap_alloc_new _ _
        obtain ⟨c1, hg1, hs1, hin1, hout1⟩ := setCs_cells [intV x] (w.alloc (.cells ROW 3)).drew w.heap.size i ROW 3 (0, 0) hg0 (by simp; omega)
        obtain ⟨c2, hg2, hs2, hin2, hout2⟩ := setCs_cells ((ps.map intV).drop i) ((w.alloc (.cells ROW 3)).drew.setCells w.heap.size i [intV x]).drew w.heap.size (i + 1) c1 3 (0, 0) hg1 (by simp; omega)
        refine ptrs_ofI hg2 (putN_lenI hi) hge hcm2 (by omega) fun j p hp => ?_
        rcases putN_atI hi hp with ⟨k1, k2⟩ | ⟨rfl, rfl⟩ | ⟨k1, k2⟩
        · rw [hout2 j (.inl (by omega)), hout1 j (.inl k1)]
          exact hR0 j p k1 k2
        · rw [hout2 j (.inl (by omega))]
          exact hin1 0 _ rfl
        · have := hin2 (j - 1 - i) (intV p) (by rw [List.getElem?_drop, show i + (j - 1 - i) = j - 1 by omega, List.getElem?_map, k2]; rfl)
          rwa [show i + 1 + (j - 1 - i) = j by omega] at this
      · have e1 := setCs_rest [intV x] (w.alloc (.cells ROW 3)).drew w.heap.size i
        have e2 := setCs_rest ((ps.map intV).drop i) ((w.alloc (.cells ROW 3)).drew.setCells w.heap.size i [intV x]).drew w.heap.size (i + 1)
        refine ⟨e2.1.trans e1.1, e2.2.1.trans e1.2.1, e2.2.2.trans e1.2.2, ?_, fun k hk hn => ?_⟩
        · rw [setCs_size]
          show _ ≤ ((w.alloc (.cells ROW 3)).drew.setCells w.heap.size i [intV x]).heap.size
          rw [setCs_size]
          show _ ≤ (w.alloc (.cells ROW 3)).heap.size
          simp
        · rw [setCs_other _ _ _ _ _ (by omega)]
          show ((w.alloc (.cells ROW 3)).drew.setCells w.heap.size i [intV x]).heap[k]? = _
          rw [setCs_other _ _ _ _ _ (by omega)]
          exact Below.heap_alloc w _ _ hk
  · have hie : i = ps.length := by omega
    subst hie
    have hput : putN ps ps.length x = ps ++ [x] := by unfold putN; simp
    rw [hput]
    have HA : Hid (∀ ty, ∃ v' w', (Builtin.append_ #[55, 55] ty #[sv, .slice (some ⟨vb, 0, none⟩) 1 1]).run Try.prog w = .ok v' w' ∧ RowI w' v' (ps ++ [x]) ∧ w.grownBy w' sv.ownBlock ∧ (v'.ownBlock = sv.ownBlock ∨ v'.ownBlock = some w.heap.size)) := fun ty => ptrs_appendI h (by omega) ty vb x hvc
    obtain ⟨sa, cap, hsv⟩ := own_slice h
    subst hsv
    have hnil : sa = none → cap = 0 ∧ ps.length = 0 := fun e => by
      subst e
      rcases h.2 with ⟨h', h''⟩ | ⟨g', cp', cur, hv', _⟩
      · exact ⟨(Value.slice.inj h').2.2, h''⟩
      · cases hv'
    have hcap : (ps.length : Int) ≤ (cap : Int) := by
      rcases h.2 with ⟨h', h''⟩ | ⟨g', cp', cur, hv', _, _, h3, _⟩
      · omega
      · cases hv'; omega
    have hl' : (ps.length : Int) ≤ 15 := by omega
    obtain ⟨v', w', hr, hp, hgr, hb⟩ := HA.out 55
    have HR : Hid (RowI w' v' (ps ++ [x]) ∧ w.grownBy w' (Value.slice sa ps.length cap).ownBlock ∧ (v'.ownBlock = (Value.slice sa ps.length cap).ownBlock ∨ v'.ownBlock = some w.heap.size)) := ⟨hp, hgr, hb⟩
    have HRR : Hid ((Builtin.append_ #[55, 55] 55 #[.slice sa ps.length cap, .slice (some ⟨vb, 0, none⟩) 1 1]).run Try.prog w = .ok v' w') := hr
    clear HA hr hp hgr hb h hi hl hne hput hge hv hvc
    cases sa with
    | none =>
      obtain ⟨rfl, h0⟩ := hnil rfl
      rw [h0] at HR HRR ⊢
      clear hnil hcap hl' h0
      go_enter Try.func35, Try.ntmps35
      go_wp2_with (at_builtin; refine Lib.wpList_append_run _ rfl _ _ _ _ rfl _ _ rfl rfl _ _ HRR.out ?_)
      go_ret
      exact ⟨_, rfl, HR.out⟩
    | some a =>
      clear hnil
      generalize ps.length = n at *
      obtain ⟨ab, ao, asp⟩ := a
      go_enter Try.func35, Try.ntmps35
      go_wp2_with (at_builtin; refine Lib.wpList_append_run _ rfl _ _ _ _ rfl _ _ rfl rfl _ _ HRR.out ?_)
      all_goals (go_ret; exact ⟨_, rfl, HR.out⟩)
end Go.Proofs.Ytkigagglkmdccaa
