import Derived.Test.YtflhgphjkhplmaaML13
import Derived.Laws.Rows
/- The model's crash of a file. -/
namespace Go.Proofs.Ytflhgphjkhplmaa.D
open Go.RowKit
set_option linter.unusedVariables false
set_option linter.unusedSimpArgs false

variable {w w' w2 wx : World} {t : Mt} {ns : List Int}
theorem splice_more {α : Type} (L : List α) (off : Nat) (cs : List α) (x : α) (h : off + cs.length < L.length) : (splice L off cs).set (off + cs.length) x = splice L off (cs ++ [x]) := by
  have h1 : (L.take off).length = off := by rw [List.length_take]; omega
  unfold splice
  rw [List.set_append_right _ _ (by omega), h1, show off + cs.length - off = cs.length by omega, List.set_append_right _ _ (by omega), Nat.sub_self, List.length_append]
  rw [List.drop_eq_getElem_cons h, List.set_cons_zero, List.append_assoc]
  rfl
theorem splice_none {α : Type} (L : List α) (off : Nat) : splice L off [] = L := by simp [splice]
theorem drop_more {b : List Int} {p i : Nat} (h : p + i < b.length) : (b.drop p).take (i + 1) = (b.drop p).take i ++ [b.getD (p + i) 0] := by
  have h1 : (b.drop p)[i]? = some (b.getD (p + i) 0) := by rw [List.getElem?_drop]; exact getD_at h
  exact (drop_at h1).2
/-- One byte more is kept. -/
theorem crStep_more {b : List Int} {p i : Nat} {st : List Int × Nat} (h : p + i < b.length) (hs : st.1.length = b.length) : ((crStep b p (i : Int) st).1.set (p + i) (b.getD (p + i) 0), p + i + 1) = crStep b p ((i + 1 : Nat) : Int) st := by
  have h1 : (crStep b p (i : Int) st).1 = splice st.1 p ((b.drop p).take i) := by
    unfold crStep
    split
    · rw [Int.toNat_natCast]
    · have : i = 0 := by omega
      subst this
      rw [List.take_zero, splice_none]
  have h2 : ((b.drop p).take i).length = i := by rw [List.length_take, List.length_drop]; omega
  rw [h1]
  have h3 := splice_more st.1 p ((b.drop p).take i) (b.getD (p + i) 0) (by rw [h2]; omega)
  rw [h2, ← drop_more h] at h3
  rw [h3]
  unfold crStep
  rw [if_pos (by omega), Int.toNat_natCast]
  rfl
/-- What a crash's loops keep. -/
structure C2 (w wx : World) (p r k : Nat) (t : Mt) (cur : List Int) : Prop where
  bx : wx.heap[p]? = some (.cells (mt4 t).toArray 121 (0, 0))
  rx : wx.heap[r]? = some (.cells #[.string ⟨#[]⟩, .slice none 0 0, .int .i64 0, .slice none 0 0] 121 (0, 0))
  row : wx.heap[k]? = some (.cells (u8l cur).toArray 5 (0, 0))
  be : Below w.heap.size w wx
  lo : w.heap.size ≤ p ∧ w.heap.size ≤ r ∧ w.heap.size ≤ k
theorem C2.set {p r k : Nat} {cur : List Int} (h : C2 w wx p r k t cur) (i : Nat) (x : Int) : C2 w (wx.setCell ⟨k, i, none⟩ (.int .u8 x)) p r k t (cur.set i x) := by
  have h1 : p ≠ k := ne_tag h.bx h.row (by decide)
  have h2 : r ≠ k := ne_tag h.rx h.row (by decide)
  refine ⟨(Below.heap_setCell _ _ _ _ h1).trans h.bx, (Below.heap_setCell _ _ _ _ h2).trans h.rx, ?_, ?_, h.lo⟩
  · rw [row_set _ h.row]
    congr 2
    apply Array.toList_inj.1
    simp [u8l, List.map_set]
  · have := h.lo
    exact h.be.setCell (show w.heap.size ≤ k by omega) _
theorem C2.cells {p r k : Nat} {cur : List Int} (h : C2 w wx p r k t cur) : wx.cell? ⟨p, 0, none⟩ = some (.string (tx t.x.nm)) ∧ wx.cell? ⟨p, 1, none⟩ = some (.slice t.da t.x.b.length t.dc) ∧ wx.cell? ⟨p, 2, none⟩ = some (.int .i64 (safeN t.x.b t.x.ws)) ∧ wx.cell? ⟨p, 3, none⟩ = some (.slice t.ba t.x.ws.length t.bc) :=
  ⟨by rw [cell_of_row _ _ _ _ _ _ h.bx]; rfl, by rw [cell_of_row _ _ _ _ _ _ h.bx]; rfl, by rw [cell_of_row _ _ _ _ _ _ h.bx]; rfl, by rw [cell_of_row _ _ _ _ _ _ h.bx]; rfl⟩
theorem C2.at {p r k : Nat} {cur : List Int} (h : C2 w wx p r k t cur) {i : Nat} (hi : i < cur.length) : ∃ u, wx.cell? ⟨k, i, none⟩ = some u ∧ wx.frozen? ⟨k, i, none⟩ = false := by
  refine ⟨.int .u8 (cur.getD i 0), ?_, frozen_of_row _ _ _ _ _ h.row⟩
  rw [cell_of_row _ _ _ _ _ _ h.row]
  simp [u8l, List.getD_eq_getElem?_getD, List.getElem?_eq_getElem hi]
set_option maxRecDepth 20000 in
set_option maxHeartbeats 8000000 in
theorem rcrash_any (h : ML w t) (hl : t.x.b.length ≤ 2000000) (hm : t.x.ws.length ≤ 2000000) (hok : WsOk t.x.b.length t.x.ws) {nv : Value} (hn : NumsAt w nv ns) (hnl : (ns.length : Int) ≤ 140737488351232) (hn0 : ∀ x ∈ ns, 0 ≤ x) :
    Calls Try.prog 80 #[.agg #[.string (tx t.x.nm), .slice t.da t.x.b.length t.dc, .int .i64 (safeN t.x.b t.x.ws), .slice t.ba t.x.ws.length t.bc], nv] w fun e w' => ∃ a c, e = .returned (.agg #[.string (tx t.x.nm), .slice a (crB t.x.b t.x.ws ns).length c, .int .i64 ((crB t.x.b t.x.ws ns).length : Int), .slice none 0 0]) ∧ Hid (w'.ownsRow w.heap.size 5 1 (.slice a (crB t.x.b t.x.ws ns).length c) (crB t.x.b t.x.ws ns).length (u8l (crB t.x.b t.x.ws ns)) ∧ Below w.heap.size w w') := by
  have HML : Hid (ML w t) := h
  have HNS : Hid (NumsAt w nv ns) := hn
  have HN0 : Hid (∀ j, 0 ≤ ns.getD j 0) := fun j => by
    rcases Nat.lt_or_ge j ns.length with c | c
    · exact hn0 _ (List.mem_of_getElem? (getD_at c))
    · rw [List.getD_eq_getElem?_getD, List.getElem?_eq_none c]; exact Int.le_refl _
  clear hn0
  obtain ⟨na, nc, rfl, hnc, hcells⟩ := hn
  have hdc := own_capv h.rd
  have hbc := own_capv h.rw
  obtain ⟨W1, hW1⟩ : ∃ W, w.alloc (.cells #[.string (tx t.x.nm), .slice t.da t.x.b.length t.dc, .int .i64 (safeN t.x.b t.x.ws), .slice t.ba t.x.ws.length t.bc] 121) = W := ⟨_, rfl⟩
  obtain ⟨W2, hW2⟩ : ∃ W, W1.alloc (.cells #[.string ⟨#[]⟩, .slice none 0 0, .int .i64 0, .slice none 0 0] 121) = W := ⟨_, rfl⟩
  obtain ⟨W3, hW3⟩ : ∃ W, W2.alloc (.cells (u8l (List.replicate t.x.b.length 0)).toArray 5) = W := ⟨_, rfl⟩
  have hmk := make_any t.x.b.length hl W2
  rw [hW3] at hmk
  have hb1 : Below w.heap.size w W1 := by rw [← hW1]; exact bel1 _ _
  have hb2 : Below W1.heap.size W1 W2 := by rw [← hW2]; exact bel1 _ _
  have hb3 : Below W2.heap.size W2 W3 := by rw [← hW3]; exact bel1 _ _
  have z1 : W1.heap.size = w.heap.size + 1 := by rw [← hW1]; simp
  have z2 : W2.heap.size = W1.heap.size + 1 := by rw [← hW2]; simp
  have r1 : W1.heap[w.heap.size]? = some (.cells (mt4 t).toArray 121 (0, 0)) := by rw [← hW1]; exact Go.heap_alloc_new _ _
  have r2 : W2.heap[W1.heap.size]? = some (.cells #[.string ⟨#[]⟩, .slice none 0 0, .int .i64 0, .slice none 0 0] 121 (0, 0)) := by rw [← hW2]; exact Go.heap_alloc_new _ _
  have r3 : W3.heap[W2.heap.size]? = some (.cells (u8l (List.replicate t.x.b.length 0)).toArray 5 (0, 0)) := by rw [← hW3]; exact Go.heap_alloc_new _ _
  have hb12 : Below w.heap.size w W2 := hb1.trans (hb2.mono (by omega))
  have HC0 : Hid (C2 w W3 w.heap.size W1.heap.size W2.heap.size t (List.replicate t.x.b.length 0)) := by
    refine ⟨?_, ?_, r3, hb12.trans (hb3.mono (by omega)), by omega, by omega, by omega⟩
    · rw [hb3.block _ (by omega), hb2.block _ (by omega)]
      exact r1
    · rw [hb3.block _ (by omega)]
      exact r2
  have r1' := (hb2.block w.heap.size (by omega)).trans r1
  have d1 : W2.cell? ⟨w.heap.size, 1, none⟩ = some (.slice t.da t.x.b.length t.dc) := by rw [cell_of_row _ _ _ _ _ _ r1']; rfl
  obtain ⟨y0, y1, y2, y3⟩ := HC0.out.cells
  have HKW : Hid (∀ V, Below w.heap.size w V → ML V t ∧ NumsAt V (.slice na ns.length nc) ns) := fun V hV => ⟨HML.out.at' fun q hq => hV.block q (HML.out.lt q hq), HNS.out.later hV (Nat.le_refl _)⟩
  have HOK : Hid (WsOk t.x.b.length t.x.ws ∧ 0 ≤ safeN t.x.b t.x.ws ∧ safeN t.x.b t.x.ws ≤ (t.x.b.length : Int)) := ⟨hok, safe_ok hok⟩
  have hs0 := (safe_ok hok).1
  have hs1 := (safe_ok hok).2
  obtain ⟨s0, hs⟩ : ∃ s0 : Nat, (safeN t.x.b t.x.ws).toNat = s0 := ⟨_, rfl⟩
  have hsi : safeN t.x.b t.x.ws = (s0 : Int) := by omega
  have HS : Hid (safeN t.x.b t.x.ws = (s0 : Int)) := hsi
  obtain ⟨n, hnn⟩ : ∃ n, t.x.b.length = n := ⟨_, rfl⟩
  obtain ⟨m, hmm⟩ : ∃ m, t.x.ws.length = m := ⟨_, rfl⟩
  obtain ⟨N, hNN⟩ : ∃ N, ns.length = N := ⟨_, rfl⟩
  have HN : Hid (t.x.b.length = n ∧ t.x.ws.length = m ∧ ns.length = N) := ⟨hnn, hmm, hNN⟩
  have hmi : (m : Int) ≤ (t.bc : Int) := by omega
  have hni : (n : Int) ≤ (t.dc : Int) := by omega
  have hl' : (n : Int) ≤ 2000000 := by omega
  have hm' : (m : Int) ≤ 2000000 := by omega
  have hnl' : (N : Int) ≤ 140737488351232 := by omega
  have hnci : (N : Int) ≤ (nc : Int) := by omega
  have hsn : (s0 : Int) ≤ (n : Int) := by omega
  rw [hnn] at hW1 hmk d1 y1 hs1
  rw [hmm] at hW1 y3
  rw [hsi] at hW1 y2
  rw [hNN] at HNS HKW ⊢
  rw [hnn, hmm, hsi]
  generalize hP : w.heap.size = p at *
  have HPP : Hid (w.heap.size = p) := hP
  clear h hl hm hok hcells hdc hbc hb1 hb2 hb3 z1 z2 r1 r2 r3 hb12 r1' hs0 hs1 hsi hs hnn hmm hNN hnl hnc
  go_enter Try.func80, Try.ntmps80
  go_upto_region 1 with (fail)
  clear hW1 hW2 hW3
  generalize hR : W1.heap.size = r at *
  generalize hK : W2.heap.size = k at *
  clear hR hK
  have HCL : Hid (∀ V cur, C2 w V p r k t cur → V.cell? ⟨p, 0, none⟩ = some (.string (tx t.x.nm)) ∧ V.cell? ⟨p, 1, none⟩ = some (.slice t.da n t.dc) ∧ V.cell? ⟨p, 2, none⟩ = some (.int .i64 (s0 : Int)) ∧ V.cell? ⟨p, 3, none⟩ = some (.slice t.ba m t.bc)) := fun V cur hV => by
    obtain ⟨a0, a1, a2, a3⟩ := hV.cells
    rw [HN.out.1] at a1
    rw [HN.out.2.1] at a3
    rw [HS.out] at a2
    exact ⟨a0, a1, a2, a3⟩
  have HBY : Hid (∀ V, Below p w V → ∀ i, i < n → ∃ g, t.da = some ⟨g, 0, none⟩ ∧ V.cell? ⟨g, i, none⟩ = some (.int .u8 (t.x.b.getD i 0))) := fun V hV i hi => by
    have h1 := (HKW.out V hV).1.rd
    obtain ⟨g, cp, hv⟩ := own_form h1 (by have := HN.out.1; omega)
    have hda : t.da = some ⟨g, 0, none⟩ := (Value.slice.inj hv).1
    refine ⟨g, hda, ?_⟩
    unfold Mt.dv at h1
    rw [hda] at h1
    exact row_at (f := uV) (by rw [u8l_uV] at h1; exact h1) i _ (getD_at (by have := HN.out.1; omega))
  have HWB : Hid (∀ V, Below p w V → ∀ i, i < m → ∃ g, t.ba = some ⟨g, 0, none⟩ ∧ V.cell? ⟨g, i, none⟩ = some (.int .i64 (t.x.ws.getD i 0))) := fun V hV i hi => by
    have h1 := (HKW.out V hV).1.rw
    obtain ⟨g, cp, hv⟩ := own_form h1 (by have := HN.out.2.1; omega)
    have hda : t.ba = some ⟨g, 0, none⟩ := (Value.slice.inj hv).1
    refine ⟨g, hda, ?_⟩
    unfold Mt.bv at h1
    rw [hda] at h1
    exact row_at (f := iV) h1 i _ (getD_at (by have := HN.out.2.1; omega))
  have HCR0 : Hid (crS t.x.b t.x.ws ns 0 = (splice (List.replicate n 0) 0 (t.x.b.take s0), s0)) := by
    show _ = _
    unfold crS
    rw [HN.out.1, HS.out]
    rfl
  have HZR : Hid (splice (List.replicate n (0 : Int)) 0 [] = List.replicate t.x.b.length 0) := by show _ = _; rw [splice_none, HN.out.1]
  clear y0 y1 y3
  go_wp2_with fail
  go_loopw [7] (fun a wx => ∃ i : Nat, i ≤ s0 ∧ a = .int .i64 (i : Int) ∧ Hid (C2 w wx p r k t (splice (List.replicate n 0) 0 (t.x.b.take i)))) (fun a wx => s0 - (intOf a).toNat)
  case atStart => exact ⟨0, Nat.zero_le _, rfl, by (show C2 _ _ _ _ _ _ _); rw [List.take_zero, HZR.out]; exact HC0.out⟩
  case round =>
    obtain ⟨i, hi, rfl, HI⟩ := hrel
    obtain ⟨u0, u1, u2, u3⟩ := HCL.out _ _ HI.out
    by_cases hlt : i < s0
    · have hlt' : (i : Int) < (s0 : Int) := by omega
      have hin : (i : Int) < (n : Int) := by omega
      obtain ⟨g, hda, cb⟩ := HBY.out wr (HPP.out ▸ HI.out.be) i (by omega)
      have hlen : (splice (List.replicate n (0 : Int)) 0 (t.x.b.take i)).length = n := by
        rw [length_splice] <;> simp <;> omega
      obtain ⟨u, ck, fk⟩ := HI.out.at (i := i) (by rw [hlen]; omega)
      have HST : Hid (C2 w (wr.setCell ⟨k, i, none⟩ (.int .u8 (t.x.b.getD i 0))) p r k t (splice (List.replicate n 0) 0 (t.x.b.take (i + 1)))) := by
        have h1 := HI.out.set i (t.x.b.getD i 0)
        have h2 : (t.x.b.take i).length = i := by rw [List.length_take]; have := HN.out.1; omega
        have h3 := splice_more (List.replicate n (0 : Int)) 0 (t.x.b.take i) (t.x.b.getD i 0) (by rw [h2]; simp; omega)
        rw [h2, Nat.zero_add, ← (drop_at (getD_at (by have := HN.out.1; omega))).2] at h3
        rw [h3] at h1
        exact h1
      have HII : Hid (i < s0) := hlt
      rw [hda] at u1
      generalize t.x.b.getD i 0 = bb at *
      clear hlt hi hlen hda
      go_wp2_with fail
      go_roundw
      case rel => exact ⟨i + 1, HII.out, by go_num, HST.out⟩
      case measure => have := HII.out; simp [intOf]; omega
    · obtain rfl : i = s0 := by omega
      have hge : ¬ ((i : Int) < (i : Int)) := by omega
      have HC1 : Hid (C2 w wr p r k t (crS t.x.b t.x.ws ns 0).1) := by
        have := HI.out
        show C2 _ _ _ _ _ _ _
        rw [HCR0.out]
        exact this
      have HE0 : Hid ((crS t.x.b t.x.ws ns 0).2 = i) := by show _ = _; rw [HCR0.out]
      clear hlt hi HI
      go_upto_region 7 with (fail)
      clear u0 u1 u2 u3
      go_wp2_with fail
      go_loopw [8, 6, 9, 10, 11] (fun a e _ _ _ wx => ∃ j : Nat, j ≤ m ∧ a = .int .i64 (j : Int) ∧ e = .int .i64 ((crS t.x.b t.x.ws ns j).2 : Int) ∧ Hid (C2 w wx p r k t (crS t.x.b t.x.ws ns j).1)) (fun a e _ _ _ wx => m - (intOf a).toNat)
      case atStart => exact ⟨0, Nat.zero_le _, rfl, by rw [HE0.out], HC1⟩
      case round =>
        obtain ⟨j, hj, rfl, rfl, HI⟩ := hrel
        obtain ⟨u0, u1, u2, u3⟩ := HCL.out _ _ HI.out
        by_cases hlt : j < m
        · have hlt' : (j : Int) < (m : Int) := by omega
          have HJ : Hid (j < m) := hlt
          obtain ⟨ok0, ok1, ok2⟩ := HOK.out.1 j (by have := HN.out; omega)
          obtain ⟨P, hP⟩ : ∃ P : Nat, wAt t.x.ws j = P := ⟨_, rfl⟩
          have hpi : t.x.ws.getD j 0 = (P : Int) := by unfold wAt at hP; omega
          obtain ⟨E, hE⟩ : ∃ E, endI t.x.b.length t.x.ws j = E := ⟨_, rfl⟩
          obtain ⟨x, hx⟩ : ∃ x, ns.getD j 0 = x := ⟨_, rfl⟩
          have HPE : Hid (wAt t.x.ws j = P ∧ t.x.ws.getD j 0 = (P : Int) ∧ endI t.x.b.length t.x.ws j = E ∧ ns.getD j 0 = x ∧ E ≤ (n : Int) ∧ (P : Int) ≤ E) := ⟨hP, hpi, hE, hx, by rw [hE, HN.out.1] at ok2; exact ok2, by rw [hpi, hE] at ok1; exact ok1⟩
          obtain ⟨K, hK⟩ : ∃ K, cwN t.x.b t.x.ws ns j = K := ⟨_, rfl⟩
          have hKe : (if E - (P : Int) < x then E - (P : Int) else x) = K := by
            rw [← hK]
            unfold cwN
            rw [hpi, hE, hx, Int.min_def]
            split <;> split <;> omega
          have HKE : Hid ((if E - (P : Int) < x then E - (P : Int) else x) = K ∧ cwN t.x.b t.x.ws ns j = K ∧ K ≤ E - (P : Int)) := ⟨hKe, hK, by split at hKe <;> omega⟩
          obtain ⟨gw, hba, cw⟩ := HWB.out wr (HPP.out ▸ HI.out.be) j hlt
          rw [hpi] at cw
          rw [hba] at u3
          have HBA : Hid (t.ba = some ⟨gw, 0, none⟩) := hba
          clear hlt hj ok0 ok1 ok2 hP hpi hE hx hK hKe hba
          -- where the write ends
          go_upto_if 47 with (fail)
          go_cut [9] from 42 to 53 (fun c wx => c = .int .i64 E ∧ wx = wr)
          case first =>
            by_cases hl2 : j + 1 < m
            · have hl2' : (j : Int) + 1 < (m : Int) := by omega
              have hE2 : t.x.ws.getD (j + 1) 0 = E := by
                rw [← HPE.out.2.2.1]
                unfold endI
                rw [if_pos (by rw [HN.out.2.1]; exact hl2)]
              obtain ⟨gw2, hba2, cw2⟩ := HWB.out wr (HPP.out ▸ HI.out.be) (j + 1) hl2
              rw [HBA.out] at hba2
              injection hba2 with hba2
              injection hba2 with hba2
              subst hba2
              rw [hE2] at cw2
              obtain ⟨j1, hj1⟩ : ∃ j1 : Nat, j + 1 = j1 := ⟨_, rfl⟩
              have hj1i : (j : Int) + 1 = (j1 : Int) := by omega
              rw [hj1] at cw2
              rw [hj1i] at hl2'
              clear hl2 hE2
              go_wp2_with fail
              go_meet
              exact ⟨rfl, rfl⟩
            · have hl2' : ¬ (j : Int) + 1 < (m : Int) := by omega
              have HE2 : Hid ((n : Int) = E) := by
                show _ = _
                rw [← HPE.out.2.2.1]
                unfold endI
                rw [if_neg (by rw [HN.out.2.1]; exact hl2), HN.out.1]
              clear hl2
              go_wp2_with fail
              go_meet
              exact ⟨by rw [HE2.out], rfl⟩
          obtain ⟨rfl, hwc⟩ := hcut
          rw [hwc]
          clear hwc
          -- its number
          go_upto_if 57 with (fail)
          go_cut [10] from 54 to 61 (fun c wx => c = .int .i64 x ∧ wx = wr)
          case first =>
            by_cases hl3 : j < N
            · have hl3' : (j : Int) < (N : Int) := by omega
              have hjc : (j : Int) < (nc : Int) := by omega
              obtain ⟨na', nc', hnv, -, hcl⟩ := (HKW.out wr (HPP.out ▸ HI.out.be)).2
              obtain ⟨hna, -, hnc⟩ := Value.slice.inj hnv
              subst hna
              subst hnc
              obtain ⟨nb, no, hnb, -, n0⟩ := hcl j x (by rw [← HPE.out.2.2.2.1]; exact getD_at (by have := HN.out; omega))
              subst hnb
              have n0' : wr.cell? ⟨nb, no + j, none⟩ = some (.int .i64 x) := n0
              clear hl3 hnv hcl n0
              go_wp2_with fail
              go_meet
              exact ⟨rfl, rfl⟩
            · have hl3' : ¬ (j : Int) < (N : Int) := by omega
              have HX0 : Hid (x = 0) := by
                show _ = _
                rw [← HPE.out.2.2.2.1, List.getD_eq_getElem?_getD, List.getElem?_eq_none (by have := HN.out; omega)]
                rfl
              clear hl3
              go_wp2_with fail
              go_meet
              exact ⟨by rw [HX0.out], rfl⟩
          obtain ⟨rfl, hwc⟩ := hcut
          rw [hwc]
          clear hwc
          have hw1 : IntKind.i64.wrap (E - (P : Int)) = E - (P : Int) := by rw [IntKind.wrap_i64]; have := HPE.out; omega
          have hjbc : (j : Int) < (t.bc : Int) := by omega
          go_upto_if 70 with (fail)
          go_cut [10] from 62 to 77 (fun c wx => c = .int .i64 K ∧ wx = wr)
          case first =>
            by_cases hl4 : E - (P : Int) < x
            · have HKK : Hid (E - (P : Int) = K) := by have := HKE.out.1; rw [if_pos hl4] at this; exact this
              go_wp2_with fail
              go_meet
              exact ⟨by rw [HKK.out], rfl⟩
            · have HKK : Hid (x = K) := by have := HKE.out.1; rw [if_neg hl4] at this; exact this
              go_wp2_with fail
              go_meet
              exact ⟨by rw [HKK.out], rfl⟩
          obtain ⟨rfl, hwc⟩ := hcut
          rw [hwc]
          clear hwc hw1
          obtain ⟨hsl1, hsl2⟩ := crS_len (ns := ns) HOK.out.1 j (by have := HN.out; have := HJ.out; omega)
          have HSL : Hid ((crS t.x.b t.x.ws ns j).1.length = t.x.b.length) := hsl1
          have HNX : Hid (crS t.x.b t.x.ws ns (j + 1) = crStep t.x.b P K (crS t.x.b t.x.ws ns j)) := by
            show _ = _
            rw [crS, HKE.out.2.1, HPE.out.1]
          have HST0 : Hid (crStep t.x.b P ((0 : Nat) : Int) (crS t.x.b t.x.ws ns j) = crS t.x.b t.x.ws ns j) := by
            show _ = _
            unfold crStep
            rw [if_neg (by omega)]
          obtain ⟨st, hst⟩ : ∃ st, crS t.x.b t.x.ws ns j = st := ⟨_, rfl⟩
          rw [hst] at HI HSL HNX HST0 ⊢
          have hK0 : 0 ≤ K := by
            have h1 := HN0.out j
            have h2 := HPE.out
            have h3 := HKE.out.1
            rw [h2.2.2.2.1] at h1
            split at h3 <;> omega
          have hPK : IntKind.i64.wrap ((P : Int) + K) = (P : Int) + K := by
            rw [IntKind.wrap_i64]
            have h1 := HPE.out
            have h2 := HKE.out
            omega
          clear hst hsl1 hsl2
          obtain ⟨κ, rfl⟩ : ∃ κ : Nat, K = (κ : Int) := ⟨K.toNat, by omega⟩
          obtain ⟨Q, hQ⟩ : ∃ Q : Nat, P + κ = Q := ⟨_, rfl⟩
          have hQi : (P : Int) + (κ : Int) = (Q : Int) := by omega
          rw [hQi] at hPK
          have HQ : Hid (P + κ = Q ∧ Q ≤ n) := ⟨hQ, by have h1 := HPE.out; have h2 := HKE.out; omega⟩
          clear hK0 hQ
          go_wp2_with fail
          go_loopw [11, 6] (fun a e wx => ∃ i : Nat, i ≤ κ ∧ a = .int .i64 ((P + i : Nat) : Int) ∧ e = .int .i64 ((crStep t.x.b P (i : Int) st).2 : Int) ∧ Hid (C2 w wx p r k t (crStep t.x.b P (i : Int) st).1)) (fun a e wx => Q - (intOf a).toNat)
          case atStart => exact ⟨0, Nat.zero_le _, rfl, by rw [HST0.out], by (show C2 _ _ _ _ _ _ _); rw [HST0.out]; exact HI.out⟩
          case round =>
            obtain ⟨i2, hi2, rfl, rfl, HI2⟩ := hrel
            obtain ⟨v0, v1, v2, v3⟩ := HCL.out _ _ HI2.out
            obtain ⟨gw2, hba2, cw2⟩ := HWB.out wr (HPP.out ▸ HI2.out.be) j HJ.out
            rw [HBA.out] at hba2 v3
            injection hba2 with hba2
            injection hba2 with hba2
            subst hba2
            rw [HPE.out.2.1] at cw2
            obtain ⟨q, hq⟩ : ∃ q, P + i2 = q := ⟨_, rfl⟩
            have HQ2 : Hid (P + i2 = q ∧ i2 ≤ κ) := ⟨hq, hi2⟩
            rw [hq]
            by_cases hl5 : q < Q
            · have hl5' : (q : Int) < (Q : Int) := by omega
              have HLQ : Hid (q < Q) := hl5
              have hqn : (q : Int) < (n : Int) := by have := HQ.out; omega
              obtain ⟨gb, hda, cb⟩ := HBY.out wr (HPP.out ▸ HI2.out.be) q (by have := HQ.out; omega)
              have hlen : (crStep t.x.b P (i2 : Int) st).1.length = t.x.b.length := by
                unfold crStep
                split
                · dsimp only
                  rw [length_splice]
                  · exact HSL.out
                  · rw [HSL.out, List.length_take, List.length_drop, Int.toNat_natCast]
                    have := HQ.out
                    have := HN.out
                    omega
                · exact HSL.out
              obtain ⟨u, ck, fk⟩ := HI2.out.at (i := q) (by rw [hlen]; have := HN.out; have := HQ.out; omega)
              have hmore := crStep_more (b := t.x.b) (p := P) (i := i2) (st := st) (by have := HN.out; have := HQ.out; omega) HSL.out
              have HST : Hid (C2 w (wr.setCell ⟨k, q, none⟩ (.int .u8 (t.x.b.getD q 0))) p r k t (crStep t.x.b P ((i2 + 1 : Nat) : Int) st).1 ∧ (crStep t.x.b P ((i2 + 1 : Nat) : Int) st).2 = q + 1) := by
                rw [hq] at hmore
                have h1 := HI2.out.set q (t.x.b.getD q 0)
                refine ⟨?_, by rw [← hmore]⟩
                rw [← hmore]
                exact h1
              rw [hda] at v1
              generalize t.x.b.getD q 0 = bb at *
              generalize (crStep t.x.b P (i2 : Int) st).2 = e9 at *
              clear hl5 hda hlen hmore hq hi2
              go_wp2_with fail
              go_roundw
              case rel => exact ⟨i2 + 1, by have h1 := HQ2.out; have h2 := HQ.out; have h3 := HLQ.out; omega, by have h1 := HQ2.out; rw [← h1.1]; go_num, by rw [HST.out.2]; go_num, HST.out.1⟩
              case measure => have := HLQ.out; simp [intOf]; omega
            · have hl5' : ¬ (q : Int) < (Q : Int) := by omega
              have HEQ : Hid (i2 = κ) := by have h1 := HQ2.out; have h2 := HQ.out; show _ = _; omega
              obtain rfl := HEQ.out
              rw [← HNX.out] at HI2 ⊢
              clear hl5 hq hi2
              go_wp2_with fail
              go_roundw
              case rel => exact ⟨j + 1, by have := HJ.out; omega, by go_num, rfl, HI2⟩
              case measure => have := HJ.out; simp [intOf]; omega
        · obtain rfl : j = m := by omega
          have hge2 : ¬ ((j : Int) < (j : Int)) := by omega
          obtain ⟨hsl1, hsl2⟩ := crS_len (ns := ns) HOK.out.1 j (by have := HN.out; omega)
          have hBL : (crB t.x.b t.x.ws ns).length = (crS t.x.b t.x.ws ns j).2 := by rw [crB_len HOK.out.1, HN.out.2.1]
          have hBE : crB t.x.b t.x.ws ns = (crS t.x.b t.x.ws ns j).1.take (crS t.x.b t.x.ws ns j).2 := by unfold crB; rw [HN.out.2.1]
          obtain ⟨e, he⟩ : ∃ e, (crS t.x.b t.x.ws ns j).2 = e := ⟨_, rfl⟩
          rw [he] at hBL hBE hsl2 ⊢
          have hen : (e : Int) ≤ (n : Int) := by have := HN.out; omega
          have f0 : wr.frozen? ⟨r, 0, none⟩ = false := frozen_of_row _ _ _ _ _ HI.out.rx
          have f1 : wr.frozen? ⟨r, 1, none⟩ = false := frozen_of_row _ _ _ _ _ HI.out.rx
          have f2 : wr.frozen? ⟨r, 2, none⟩ = false := frozen_of_row _ _ _ _ _ HI.out.rx
          have f3 : wr.frozen? ⟨r, 3, none⟩ = false := frozen_of_row _ _ _ _ _ HI.out.rx
          have x0 : wr.cell? ⟨r, 0, none⟩ = some (.string ⟨#[]⟩) := by rw [cell_of_row _ _ _ _ _ _ HI.out.rx]; rfl
          have x1 : wr.cell? ⟨r, 1, none⟩ = some (.slice none 0 0) := by rw [cell_of_row _ _ _ _ _ _ HI.out.rx]; rfl
          have x2 : wr.cell? ⟨r, 2, none⟩ = some (.int .i64 0) := by rw [cell_of_row _ _ _ _ _ _ HI.out.rx]; rfl
          have x3 : wr.cell? ⟨r, 3, none⟩ = some (.slice none 0 0) := by rw [cell_of_row _ _ _ _ _ _ HI.out.rx]; rfl
          have hkr : k ≠ r := (ne_tag HI.out.rx HI.out.row (by decide)).symm
          have HFIN : Hid (∀ V : World, (∀ q, q ≠ r → V.heap[q]? = wr.heap[q]?) → V.os = wr.os ∧ V.tape = wr.tape ∧ V.output = wr.output ∧ wr.heap.size ≤ V.heap.size → V.ownsRow w.heap.size 5 1 (.slice (some ⟨k, 0, none⟩) e n) e (u8l (crB t.x.b t.x.ws ns)) ∧ Below w.heap.size w V) := fun V hV hos => by
            have hk2 := (hV k hkr).trans HI.out.row
            have hlo := HI.out.lo
            refine ⟨⟨by rw [← hBL]; simp [u8l], .inr ⟨k, n, _, rfl, hlo.2.2, hk2, by omega, ?_, ?_, ?_⟩⟩, ⟨hos.1.trans HI.out.be.os, hos.2.1.trans HI.out.be.tape, hos.2.2.1.trans HI.out.be.output, by have := HI.out.be.size; omega, fun q hq => ?_⟩⟩
            · have := HN.out.1
              unfold maxLen
              omega
            · simp [u8l, hsl1, HN.out.1]
            · rw [hBE]
              simp [u8l, List.map_take]
            · rw [hV q (by omega)]
              exact HI.out.be.block q hq
          have HBL : Hid ((crB t.x.b t.x.ws ns).length = e) := hBL
          clear hlt hj hsl1 hsl2 hBL hBE he
          go_wp2_with fail
          go_region
          all_goals
            go_wp2_with fail
            obtain ⟨V, hV⟩ : ∃ V, ((((wr.setCell ⟨r, 0, none⟩ (.string (tx t.x.nm))).setCell ⟨r, 1, none⟩ (.slice (some ⟨k, 0, none⟩) e n)).setCell ⟨r, 2, none⟩ (.int .i64 (e : Int))).setCell ⟨r, 3, none⟩ (.slice none 0 0)).drew = V := ⟨_, rfl⟩
            have hr : V.heap[r]? = some (.cells #[.string (tx t.x.nm), .slice (some ⟨k, 0, none⟩) e n, .int .i64 (e : Int), .slice none 0 0] 121 (0, 0)) := by
              rw [← hV]
              exact row_set _ (row_set _ (row_set _ (row_set _ HI.out.rx)))
            have hoff : ∀ q, q ≠ r → V.heap[q]? = wr.heap[q]? := fun q hq => by
              rw [← hV]
              show ((((wr.setCell ⟨r, 0, none⟩ (.string (tx t.x.nm))).setCell ⟨r, 1, none⟩ (.slice (some ⟨k, 0, none⟩) e n)).setCell ⟨r, 2, none⟩ (.int .i64 (e : Int))).setCell ⟨r, 3, none⟩ (.slice none 0 0)).heap[q]? = _
              rw [Below.heap_setCell _ _ _ _ hq, Below.heap_setCell _ _ _ _ hq, Below.heap_setCell _ _ _ _ hq, Below.heap_setCell _ _ _ _ hq]
            have hos : V.os = wr.os ∧ V.tape = wr.tape ∧ V.output = wr.output ∧ wr.heap.size ≤ V.heap.size := by rw [← hV]; exact ⟨rfl, rfl, rfl, by simp⟩
            rw [hV]
            refine bodyPost_ret (v := .agg #[.string (tx t.x.nm), .slice (some ⟨k, 0, none⟩) e n, .int .i64 (e : Int), .slice none 0 0]) (results_cell_row Try.results80 _ _ r 121 #[.string (tx t.x.nm), .slice (some ⟨k, 0, none⟩) e n, .int .i64 (e : Int), .slice none 0 0] (0, 0) _ rfl hr Try.underlying121 rfl (by kernel_rfl)) rfl ⟨some ⟨k, 0, none⟩, n, by rw [HBL.out], ?_⟩
            rw [HBL.out]
            rw [← HPP.out]
            exact HFIN.out V hoff hos
end Go.Proofs.Ytflhgphjkhplmaa.D

/- The model's Wrong: what is wrong of Keeps. -/
namespace Go.Proofs.Ytflhgphjkhplmaa.D
open Go.RowKit
set_option linter.unusedVariables false
set_option linter.unusedSimpArgs false

variable {w w' w2 wx : World} {R : Nat} {sy : Int} {G P : Nat → Prop} {dl : List Fd} {lv : Value} {m : List Mt} {ks : List Kn} {kv : Value}
/-- What the loop over the Keeps keeps. -/
structure WO (w wx : World) (dl : List Fd) (ks : List Kn) (i : Nat) : Prop where
  dq : DwQ w wx
  ok : ∀ (j : Nat) (k : Kn), j < i → ks[j]? = some k → ∃ x, lkF k.1 dl = some x
  eq : wrE dl (ks.take i) (ks.drop i) = wrE dl [] ks
theorem DwQ.trans {a b c : World} (h : DwQ a b) (k : DwQ b c) : DwQ a c := by
  obtain ⟨n, rfl⟩ := k
  exact h.drewN n
theorem in_take {i : Nat} {s : List UInt8} (h : s ∈ (ks.take i).map Prod.fst) : ∃ j k, j < i ∧ ks[j]? = some k ∧ k.1 = s := by
  obtain ⟨k, hk, e⟩ := List.mem_map.1 h
  obtain ⟨j, hj⟩ := List.getElem?_of_mem hk
  rw [List.getElem?_take] at hj
  split at hj
  · exact ⟨j, k, by assumption, hj, e⟩
  · cases hj
set_option maxRecDepth 20000 in
set_option maxHeartbeats 8000000 in
theorem rwrong_any (h : MS w R lv m sy) (hm : m.length ≤ 1000000) (hw : ∀ t ∈ m, t.x.ws.length ≤ 2000000) (hk : KeepsAt P w kv ks) (hkl : (ks.length : Int) ≤ 140737488351232) :
    Calls Try.prog 79 #[.pointer (some ⟨R, 0, none⟩), kv] w fun e w' => e = .returned (.int .i64 (wrE (xsM m) [] ks)) ∧ DwQ w w' := by
  have HMS : Hid (∀ V, DwQ w V → MS V R lv m sy) := fun V hV => h.at' fun q _ => hV.heap q
  have HKA : Hid (∀ V, DwQ w V → KeepsAt P V kv ks) := fun V hV => hk.at' fun q _ => hV.heap q
  have HM : Hid (m.length ≤ 1000000 ∧ ∀ t ∈ m, t.x.ws.length ≤ 2000000) := ⟨hm, hw⟩
  obtain ⟨ka, kc, rfl, hkc, -⟩ := hk
  obtain ⟨n, hn⟩ : ∃ n, ks.length = n := ⟨_, rfl⟩
  have HN : Hid (ks.length = n) := hn
  rw [hn] at hkl hkc HKA ⊢
  have hkci : (n : Int) ≤ (kc : Int) := by omega
  obtain ⟨e0, he0⟩ : ∃ e0, wrE (xsM m) [] ks = e0 := ⟨_, rfl⟩
  have HE0 : Hid (wrE (xsM m) [] ks = e0) := he0
  rw [he0]
  clear h hm hw hn hkc he0
  go_enter Try.func79, Try.ntmps79
  go_wp2_with fail
  go_loopw [5, 6, 7, 8] (fun a _ _ _ wx => ∃ i : Nat, i ≤ n ∧ a = .int .i64 (i : Int) ∧ Hid (WO w wx (xsM m) ks i)) (fun a _ _ _ wx => n - (intOf a).toNat)
  case atStart => exact ⟨0, Nat.zero_le _, rfl, DwQ.refl _, fun j k hj => (Nat.not_lt_zero _ hj).elim, rfl⟩
  case round =>
    obtain ⟨i, hi, rfl, HI⟩ := hrel
    by_cases hlt : i < n
    · have hlt' : (i : Int) < (n : Int) := by omega
      have HII : Hid (i < n) := hlt
      obtain ⟨k, hki⟩ : ∃ k, ks[i]? = some k := ⟨_, List.getElem?_eq_getElem (by have := HN.out; omega)⟩
      have HK : Hid (ks[i]? = some k) := hki
      obtain ⟨ka', kc', hkv, -, hcl⟩ := HKA.out wr HI.out.dq
      obtain ⟨hna, -, hnc⟩ := Value.slice.inj hkv
      subst hna
      subst hnc
      obtain ⟨nl, kb, ko, nv, hkb, -, k0, k1, knv⟩ := hcl i k hki
      subst hkb
      have HKC : Hid (∀ V, DwQ w V → ∀ (j : Nat) (x : Kn), ks[j]? = some x → (x.2.length : Int) ≤ 140737488351232 ∧ ∃ nv, V.cell? ⟨kb, ko + j * 2, none⟩ = some (.string (tx x.1)) ∧ V.cell? ⟨kb, ko + j * 2 + 1, none⟩ = some nv ∧ NumsP P V nv x.2) := fun V hV j x hj => by
        obtain ⟨a2, c2, hv2, -, hcl2⟩ := HKA.out V hV
        obtain ⟨e2, -, -⟩ := Value.slice.inj hv2
        obtain ⟨l1, b2, o2, nv2, f1, -, f2, f3, f4⟩ := hcl2 j x hj
        rw [← e2] at f1
        injection f1 with f1
        injection f1 with f1 f1'
        subst f1
        subst f1'
        exact ⟨l1, nv2, f2, f3, f4⟩
      have hst := HI.out.eq
      rw [wrE_step hki] at hst
      have HST : Hid ((if k.1 ∈ (ks.take i).map Prod.fst then 6 else if ckE (xsM m) k.1 k.2 = 0 then wrE (xsM m) (ks.take (i + 1)) (ks.drop (i + 1)) else ckE (xsM m) k.1 k.2) = e0) := hst.trans HE0.out
      have HF : Hid (Calls Try.prog 76 #[.pointer (some ⟨R, 0, none⟩), .string (tx k.1)] wr fun e w' => e = .returned (.int .i64 (posV (ixM k.1 m 0))) ∧ w' = wr) := (HMS.out wr HI.out.dq).find (by have := HM.out.1; omega) k.1
      obtain ⟨na, nc, rfl, -⟩ := knv
      clear hkv hcl hki hst hlt hi
      cases hx : lkF k.1 (xsM m) with
      | none =>
        have HR : Hid (e0 = 5) := by
          have h1 := HST.out
          rw [if_neg fun hin => ?_] at h1
          · have h2 : ckE (xsM m) k.1 k.2 = 5 := by unfold ckE; rw [hx]
            rw [h2, if_neg (by decide)] at h1
            exact h1.symm
          · obtain ⟨j, k', hj, hk', e⟩ := in_take hin
            obtain ⟨y, hy⟩ := HI.out.ok j k' hj hk'
            rw [e, hx] at hy
            cases hy
        have hp : posV (ixM k.1 m 0) = -1 := by rw [ixM_no hx]; rfl
        rw [hp] at HF
        clear hx hp
        go_wp2_with (go_at_call 76; refine HF.out.mono ?_; rintro e w1 ⟨rfl, hw1⟩; rw [hw1]; clear hw1)
        go_ret
        exact ⟨by rw [HR.out]; rfl, HI.out.dq⟩
      | some x =>
        obtain ⟨q, t, i1, i2, i3, -⟩ := ixM_lk hx
        have hp : posV (ixM k.1 m 0) = (q : Int) := by rw [i1]; rfl
        rw [hp] at HF
        have HX : Hid (lkF k.1 (xsM m) = some x ∧ m[q]? = some t ∧ t.x = x) := ⟨hx, i2, i3⟩
        have hq0 : ¬ (q : Int) < 0 := by omega
        clear hx hp i1 i2 i3
        go_upto_region 7 with (go_at_call 76; refine HF.out.mono ?_; rintro e w1 ⟨rfl, hw1⟩; rw [hw1]; clear hw1)
        clear k0 k1 HF
        go_wp2_with fail
        go_loopw [7] (fun a wx => ∃ j : Nat, j ≤ i ∧ a = .int .i64 (j : Int) ∧ Hid (DwQ w wx ∧ ∀ (j' : Nat) (y : Kn), j' < j → ks[j']? = some y → y.1 ≠ k.1)) (fun a wx => i - (intOf a).toNat)
        case atStart => exact ⟨0, Nat.zero_le _, rfl, HI.out.dq, fun j' y hj => (Nat.not_lt_zero _ hj).elim⟩
        case round =>
          obtain ⟨j, hj, rfl, HJ⟩ := hrel
          by_cases hlj : j < i
          · have hlj' : (j : Int) < (i : Int) := by omega
            have hljn : (j : Int) < (n : Int) := by have := HII.out; omega
            obtain ⟨y, hy⟩ : ∃ y, ks[j]? = some y := ⟨_, List.getElem?_eq_getElem (by have := HN.out; have := HII.out; omega)⟩
            have HY : Hid (ks[j]? = some y ∧ j < i) := ⟨hy, hlj⟩
            obtain ⟨-, nv1, c0, -, -⟩ := HKC.out wr HJ.out.1 j y hy
            obtain ⟨-, nv2, c1, -, -⟩ := HKC.out wr HJ.out.1 i k HK.out
            have HQD : Hid (∀ m, DwQ w (wr.drewN m)) := fun m => HJ.out.1.drewN m
            clear hlj hy hj
            by_cases hye : y.1 = k.1
            · have hb : ((tx y.1).toList == (tx k.1).toList) = true := by rw [tx_list, tx_list]; simpa using hye
              have HR : Hid (e0 = 6) := by
                have h1 := HST.out
                rw [if_pos (List.mem_map.2 ⟨y, by
                  refine List.mem_of_getElem? (i := j) ?_
                  rw [List.getElem?_take, if_pos HY.out.2]
                  exact HY.out.1, hye⟩)] at h1
                exact h1.symm
              clear hye
              go_upto_region 10 with (fail)
              go_quiet (fail)
              go_wp2_with fail
              go_ret
              exact ⟨by rw [HR.out]; rfl, HQD.out _⟩
            · have hb : ((tx y.1).toList == (tx k.1).toList) = false := by rw [tx_list, tx_list]; simpa using hye
              have HN2 : Hid (∀ (j' : Nat) (z : Kn), j' < j + 1 → ks[j']? = some z → z.1 ≠ k.1) := fun j' z h1 h2 => by
                rcases (show j' = j ∨ j' < j from by omega) with rfl | h3
                · rw [HY.out.1] at h2
                  rw [← Option.some.inj h2]
                  exact hye
                · exact HJ.out.2 j' z h3 h2
              clear hye
              go_upto_region 10 with (fail)
              go_quiet (fail)
              go_wp2_with fail
              go_roundw
              case rel => exact ⟨j + 1, HY.out.2, by go_num, HQD.out _, HN2.out⟩
              case measure => have := HY.out.2; simp [intOf]; omega
          · obtain rfl : j = i := by omega
            have hgej : ¬ (j : Int) < (j : Int) := by omega
            have HNI : Hid (¬ k.1 ∈ (ks.take j).map Prod.fst) := fun hin => by
              obtain ⟨j', k', h1, h2, h3⟩ := in_take hin
              exact HJ.out.2 j' k' h1 h2 h3
            have HS2 : Hid ((if ckE (xsM m) k.1 k.2 = 0 then wrE (xsM m) (ks.take (j + 1)) (ks.drop (j + 1)) else ckE (xsM m) k.1 k.2) = e0) := by
              have h1 := HST.out
              rw [if_neg HNI.out] at h1
              exact h1
            obtain ⟨-, nv1, -, c1, hnu⟩ := HKC.out wr HJ.out.1 j k HK.out
            obtain ⟨nl2, nv2, -, -, -⟩ := HKC.out wr HJ.out.1 j k HK.out
            have HNU : Hid (NumsP P wr nv1 k.2) := hnu
            obtain ⟨na1, nc1, rfl, hnc1, -⟩ := hnu
            obtain ⟨g, cap, hlv, q1, q2, q3, -, -, -, e3, -⟩ := (HMS.out wr HJ.out.1).openK HX.out.2.1
            have hwl := HM.out.2 t (List.mem_of_getElem? HX.out.2.1)
            obtain ⟨wl, hwl2⟩ : ∃ wl, t.x.ws.length = wl := ⟨_, rfl⟩
            have HWL : Hid (x.ws.length = wl) := by show _ = _; rw [← HX.out.2.2]; exact hwl2
            obtain ⟨N, hN⟩ : ∃ N, k.2.length = N := ⟨_, rfl⟩
            have HNN : Hid (k.2.length = N) := hN
            rw [hwl2] at e3 hwl
            rw [hN] at c1 nl2 hnc1 HNU
            have hwli : (wl : Int) ≤ 2000000 := by omega
            have hnci : (N : Int) ≤ (nc1 : Int) := by omega
            have HQD : Hid (∀ m, DwQ w (wr.drewN m)) := fun m => HJ.out.1.drewN m
            generalize m.length = ml at *
            clear hlj hj hwl2 hN hwl hnc1
            have HCK : Hid (ckE (xsM m) k.1 k.2 = if wl < N then 1 else if k.2.any (fun k => decide (k < 0)) then 1 else 0) := by
              show _ = _
              unfold ckE
              rw [HX.out.1]
              dsimp only
              rw [HWL.out, HNN.out]
            by_cases hwn : wl < N
            · have hwn' : (wl : Int) < (N : Int) := by omega
              have HR : Hid (e0 = 1) := by
                have h1 := HS2.out
                rw [HCK.out, if_pos hwn, if_neg (by decide)] at h1
                exact h1.symm
              clear hwn
              go_upto_region 12 with (fail)
              go_quiet (fail)
              go_wp2_with fail
              go_ret
              exact ⟨by rw [HR.out]; rfl, HQD.out _⟩
            · have hwn' : ¬ (wl : Int) < (N : Int) := by omega
              have HCK2 : Hid (ckE (xsM m) k.1 k.2 = if k.2.any (fun k => decide (k < 0)) then 1 else 0) := by
                show _ = _
                rw [HCK.out, if_neg hwn]
              clear hwn
              go_upto_region 12 with (fail)
              go_quiet (fail)
              obtain ⟨W3, hW3⟩ : ∃ W3, wr.drewN nq = W3 := ⟨_, rfl⟩
              have HN3 : Hid (NumsP P W3 (.slice na1 N nc1) k.2) := by rw [← hW3]; exact HNU.out
              have HD3 : Hid (DwQ w W3) := by rw [← hW3]; exact HQD.out _
              have c1' : W3.cell? ⟨kb, ko + j * 2 + 1, none⟩ = some (.slice na1 N nc1) := by rw [← hW3]; exact c1
              rw [hW3]
              clear hW3 c1 q3 e3
              go_wp2_with fail
              go_loopw [8] (fun a wx => ∃ u : Nat, u ≤ N ∧ a = .int .i64 (u : Int) ∧ wx = W3 ∧ Hid (∀ (v : Nat) (x : Int), v < u → k.2[v]? = some x → 0 ≤ x)) (fun a wx => N - (intOf a).toNat)
              case atStart => exact ⟨0, Nat.zero_le _, rfl, rfl, (fun v x hv => (Nat.not_lt_zero _ hv).elim : ∀ (v : Nat) (x : Int), v < 0 → k.2[v]? = some x → 0 ≤ x)⟩
              case round =>
                obtain ⟨u, hu, rfl, hwr, HU⟩ := hrel
                rw [hwr]
                clear hwr
                by_cases hlu : u < N
                · have hlu' : (u : Int) < (N : Int) := by omega
                  obtain ⟨v, hv⟩ : ∃ v, k.2[u]? = some v := ⟨_, List.getElem?_eq_getElem (by have := HNN.out; omega)⟩
                  obtain ⟨na', nc', hnv, -, hcl⟩ := HN3.out
                  obtain ⟨hna, -, hnc⟩ := Value.slice.inj hnv
                  subst hna
                  subst hnc
                  obtain ⟨nb, no, hnb, -, n0⟩ := hcl u v hv
                  subst hnb
                  have n0' : W3.cell? ⟨nb, no + u, none⟩ = some (.int .i64 v) := n0
                  have HV : Hid (k.2[u]? = some v ∧ u < N) := ⟨hv, hlu⟩
                  clear hnv hcl n0 hv hlu hu
                  by_cases hneg : v < 0
                  · have HR : Hid (e0 = 1) := by
                      have h1 := HS2.out
                      rw [HCK2.out, any_yes HV.out.1 hneg] at h1
                      exact h1.symm
                    have hn1 : decide (v < 0) = true := decide_eq_true hneg
                    clear hneg
                    go_wp2_with fail
                    go_ret
                    exact ⟨by rw [HR.out]; rfl, HD3.out⟩
                  · have HU2 : Hid (∀ (v : Nat) (x : Int), v < u + 1 → k.2[v]? = some x → 0 ≤ x) := fun v' x' h1 h2 => by
                      rcases (show v' = u ∨ v' < u from by omega) with rfl | h
                      · rw [HV.out.1] at h2
                        rw [← Option.some.inj h2]
                        omega
                      · exact HU.out v' x' h h2
                    go_wp2_with fail
                    go_roundw
                    case rel => exact ⟨u + 1, HV.out.2, by go_num, trivial, HU2.out⟩
                    case measure => have := HV.out.2; simp [intOf]; omega
                · have hge : ¬ ((u : Int) < (N : Int)) := by omega
                  have HOKN : Hid (WO w W3 (xsM m) ks (j + 1)) := by
                    have hany := any_no (ns := k.2) fun v x hv => HU.out v x (by have := (List.getElem?_eq_some_iff.1 hv).1; have := HNN.out; omega) hv
                    have h1 := HS2.out
                    have h2 := HCK2.out
                    rw [hany] at h2
                    rw [h2] at h1
                    refine ⟨HD3.out, fun j' k' hj' hk' => ?_, ?_⟩
                    · rcases (show j' = j ∨ j' < j from by omega) with rfl | h
                      · rw [HK.out] at hk'
                        rw [← Option.some.inj hk']
                        exact ⟨_, HX.out.1⟩
                      · exact HI.out.ok j' k' h hk'
                    · rw [HE0.out]
                      exact h1
                  clear hu hlu
                  go_wp2_with fail
                  go_roundw
                  case rel => exact ⟨j + 1, HII.out, by go_num, HOKN.out⟩
                  case measure => have := HII.out; simp [intOf]; omega
    · obtain rfl : i = n := by omega
      have hge : ¬ ((i : Int) < (i : Int)) := by omega
      have HR : Hid (e0 = 0) := by
        have h1 := HI.out.eq
        rw [List.drop_of_length_le (by have := HN.out; omega), HE0.out] at h1
        exact h1.symm
      clear hlt hi
      go_wp2_with fail
      go_ret
      exact ⟨by rw [HR.out]; rfl, HI.out.dq⟩
end Go.Proofs.Ytflhgphjkhplmaa.D

/- The model's Crash. -/
namespace Go.Proofs.Ytflhgphjkhplmaa.D
open Go.RowKit
set_option linter.unusedVariables false
set_option linter.unusedSimpArgs false

variable {w w' w2 wx : World} {R : Nat} {sy : Int} {G P : Nat → Prop} {dl : List Fd} {lv : Value} {m : List Mt} {ks : List Kn} {kv : Value}
theorem wrE_zero : ∀ {ks seen : List Kn}, wrE dl seen ks = 0 → (∀ k ∈ ks, k.1 ∉ seen.map Prod.fst ∧ ckE dl k.1 k.2 = 0) ∧ (ks.map Prod.fst).Nodup
  | [], seen, _ => ⟨fun k hk => (nomatch hk), List.nodup_nil⟩
  | k :: r, seen, h => by
    unfold wrE at h
    split at h
    · cases h
    · rename_i h1
      split at h
      · rename_i h2
        obtain ⟨i1, i2⟩ := wrE_zero h
        refine ⟨fun k' hk' => ?_, ?_⟩
        · rcases List.mem_cons.1 hk' with rfl | hk'
          · exact ⟨h1, h2⟩
          · obtain ⟨j1, j2⟩ := i1 k' hk'
            exact ⟨fun e => j1 (by rw [List.map_append]; exact List.mem_append.2 (.inl e)), j2⟩
        · rw [List.map_cons, List.nodup_cons]
          refine ⟨fun e => ?_, i2⟩
          obtain ⟨k', hk', e'⟩ := List.mem_map.1 e
          exact (i1 k' hk').1 (by rw [List.map_append]; exact List.mem_append.2 (.inr (by simp [e'])))
      · rename_i h2
        exact (h2 h).elim
theorem ckE_zero {s : List UInt8} {ns : List Int} (h : ckE dl s ns = 0) : ∀ x ∈ ns, 0 ≤ x := by
  unfold ckE at h
  cases hl : lkF s dl with
  | none => rw [hl] at h; cases h
  | some y =>
    rw [hl] at h
    dsimp only at h
    split at h
    · cases h
    · split at h
      · cases h
      · rename_i h2
        intro x hx
        rcases Int.lt_or_le x 0 with c | c
        · exact (h2 (List.any_eq_true.2 ⟨x, hx, by simpa using c⟩)).elim
        · exact c
def kNs' (s : List UInt8) : List Kn → List Int
  | [] => []
  | k :: r => if s = k.1 then k.2 else kNs' s r
theorem kNs_eq (s : List UInt8) (ks : List Kn) : kNs s ks = kNs' s ks := by
  have : ∀ (l : List Kn) (i : Nat) (pre : List Kn), pre.length = i → (match kIx s l i with | some q => ((pre ++ l).getD q ([], [])).2 | none => []) = kNs' s l := fun l => by
    induction l with
    | nil => intro i pre _; rfl
    | cons k r ih =>
      intro i pre hp
      unfold kIx kNs'
      by_cases h : s = k.1
      · rw [if_pos h, if_pos h]
        dsimp only
        rw [List.getD_eq_getElem?_getD, List.getElem?_append_right (by omega), hp, Nat.sub_self]
        rfl
      · rw [if_neg h, if_neg h]
        have := ih (i + 1) (pre ++ [k]) (by simp; omega)
        rw [List.append_assoc] at this
        exact this
  have := this ks 0 [] rfl
  unfold kNs
  exact this
theorem kNs'_not {s : List UInt8} : ∀ {a : List Kn}, s ∉ a.map Prod.fst → kNs' s a = []
  | [], _ => rfl
  | k :: r, h => by
    rw [List.map_cons, List.mem_cons] at h
    unfold kNs'
    rw [if_neg fun e => h (.inl e), kNs'_not fun e => h (.inr e)]
theorem kNs'_app {s : List UInt8} {k : Kn} : ∀ {a : List Kn}, (k.1 ∉ a.map Prod.fst) → kNs' s (a ++ [k]) = if s = k.1 then k.2 else kNs' s a
  | [], _ => rfl
  | x :: r, h => by
    rw [List.map_cons, List.mem_cons] at h
    rw [List.cons_append, kNs', kNs', kNs'_app fun e => h (.inr e)]
    by_cases c : s = x.1
    · rw [if_pos c, if_pos c, if_neg fun e => h (.inl (by rw [← e, c]))]
    · rw [if_neg c, if_neg c]
theorem kNs_step {s : List UInt8} {k : Kn} {j : Nat} (hn : (ks.map Prod.fst).Nodup) (hk : ks[j]? = some k) : kNs s (ks.take (j + 1)) = if s = k.1 then k.2 else kNs s (ks.take j) := by
  rw [kNs_eq, kNs_eq, (drop_at hk).2, kNs'_app]
  intro e
  have h1 : ks = ks.take j ++ k :: ks.drop (j + 1) := by rw [← (drop_at hk).1, List.take_append_drop]
  rw [h1, List.map_append, List.map_cons, List.nodup_append] at hn
  exact hn.2.2 k.1 e k.1 (by simp) rfl
theorem kNs_all {s : List UInt8} (hz : wrE dl [] ks = 0) (j : Nat) : ∀ x ∈ kNs s (ks.take j), 0 ≤ x := by
  rw [kNs_eq]
  have h1 := (wrE_zero hz).1
  have : ∀ (l : List Kn), (∀ k ∈ l, ckE dl k.1 k.2 = 0) → ∀ x ∈ kNs' s l, 0 ≤ x := fun l => by
    induction l with
    | nil => intro _ x hx; simp [kNs'] at hx
    | cons k r ih =>
      intro h x hx
      unfold kNs' at hx
      split at hx
      · exact ckE_zero (h k (by simp)) x hx
      · exact ih (fun k' hk' => h k' (by simp [hk'])) x hx
  exact this _ fun k hk => (h1 k (List.mem_of_mem_take hk)).2
def crT (t : Mt) (ns : List Int) (a : Option Addr) (c : Nat) : Mt := ⟨⟨t.x.nm, crB t.x.b t.x.ws ns, []⟩, a, c, none, 0⟩
theorem crT_mt (t : Mt) (ns : List Int) (a : Option Addr) (c : Nat) : mt4 (crT t ns a c) = [.string (tx t.x.nm), .slice a (crB t.x.b t.x.ws ns).length c, .int .i64 ((crB t.x.b t.x.ws ns).length : Int), .slice none 0 0] := rfl
/-- What the loop over the files keeps. -/
structure RO (w wx : World) (G : Nat → Prop) (R : Nat) (sy : Int) (dl : List Fd) (ks : List Kn) (j : Nat) : Prop where
  ex : ∃ lv m, MS wx R lv m sy ∧ xsM m = crD ks (dl.take j) ++ dl.drop j ∧ Fr G (GM R lv m) w wx
theorem RO.len {j : Nat} (hj : j ≤ dl.length) (h : xsM m = crD ks (dl.take j) ++ dl.drop j) : m.length = dl.length := by
  have := congrArg List.length h
  rw [xsM_len] at this
  simp [crD] at this
  omega
theorem RO.next {j : Nat} {x : Fd} {t : Mt} {t' : Mt} (hx : dl[j]? = some x) (h : xsM m = crD ks (dl.take j) ++ dl.drop j) (ht : t'.x = crF ks x) : m[j]? = some t → xsM (m.set j t') = crD ks (dl.take (j + 1)) ++ dl.drop (j + 1) := fun hm => by
  have hj := (List.getElem?_eq_some_iff.1 hx).1
  have hl : (crD ks (dl.take j)).length = j := by simp [crD]; omega
  have e : xsM (m.set j t') = (xsM m).set j t'.x := by unfold xsM; rw [List.map_set]
  rw [e, h, List.set_append_right _ _ (by omega), hl, Nat.sub_self, (drop_at hx).1, List.set_cons_zero, ht, (drop_at hx).2]
  unfold crD
  rw [List.map_append, List.append_assoc]
  rfl
theorem RO.at' {j : Nat} {x : Fd} (hx : dl[j]? = some x) (h : xsM m = crD ks (dl.take j) ++ dl.drop j) : ∃ t, m[j]? = some t ∧ t.x = x := by
  have hj := (List.getElem?_eq_some_iff.1 hx).1
  have hl : (crD ks (dl.take j)).length = j := by simp [crD]; omega
  have h1 : (xsM m)[j]? = some x := by
    rw [h, List.getElem?_append_right (by omega), hl, Nat.sub_self, (drop_at hx).1]
    rfl
  unfold xsM at h1
  rw [List.getElem?_map] at h1
  exact Option.map_eq_some_iff.1 h1
end Go.Proofs.Ytflhgphjkhplmaa.D
