/- The program's queues of numbers: one is pushed, one is popped. -/
import Derived.Test.YtfndbllpnkhlhaaJa
import Derived.Test.YtfndbllpnkhlhaaKd
namespace Go.Proofs.Ytfndbllpnkhlhaa
open Go.RowKit
set_option linter.unusedVariables false
set_option linter.unusedSimpArgs false

theorem info3 : (Try.prog.info? 3).map (fun i => (i.zero, i.size, i.bytes)) = some (some (.int .i64 0), 1, 8) := by kernel_rfl
/-- A queue's items are others now. -/
theorem PQ.turn {w w' : World} {Q : Nat} {F : Nat → Prop} {most : Int} {sv sv' : Value} {l l' : List Int} (h : QI w Q most sv l) (h2 : ∀ q, F q ↔ (q = Q ∨ sv.ownBlock = some q)) (hq : QI w' Q most sv' l') (hos : w'.os = w.os) (htp : w'.tape = w.tape) (hou : w'.output = w.output) (hsz : w.heap.size ≤ w'.heap.size) (hk : ∀ q, q < w.heap.size → q ≠ Q → some q ≠ sv.ownBlock → w'.heap[q]? = w.heap[q]?) (hO : sv'.ownBlock = sv.ownBlock ∨ ∃ q, sv'.ownBlock = some q ∧ w.heap.size ≤ q) : ∃ F', PQ w' Q F' most l' ∧ Fr F F' w w' := by
  refine ⟨fun q => q = Q ∨ sv'.ownBlock = some q, ⟨sv', hq, fun q => Iff.rfl⟩, ⟨hos, htp, hou, hsz, fun q hlt hn => hk q hlt (fun e => hn ((h2 q).2 (.inl e))) (fun e => hn ((h2 q).2 (.inr e.symm))), fun q hqq => ?_⟩⟩
  rcases hqq with e | e
  · exact .inl ((h2 q).2 (.inl e))
  · rcases hO with h' | ⟨q', h', hle⟩
    · exact .inl ((h2 q).2 (.inr (h'.symm.trans e)))
    · rw [h'] at e
      have := Option.some.inj e
      exact .inr (by omega)
set_option maxRecDepth 20000 in
set_option maxHeartbeats 4000000 in
theorem ipush_full (Q : Nat) (F : Nat → Prop) (most : Int) (l : List Int) (x : Int) (w : World) (h : PQ w Q F most l) (hl : l.length ≤ 1000) (hm : most ≤ (l.length : Int)) : Calls Try.prog 11 #[.pointer (some ⟨Q, 0, none⟩), .int .i64 x] w fun e w' => e = .returned (.int .i64 200) ∧ ∃ F', PQ w' Q F' most l ∧ Fr F F' w w' := by
  have HS : Hid (PQ w Q F most l) := h
  obtain ⟨sv, h1, h2⟩ := h
  obtain ⟨a, cap, rfl, _, _⟩ := tl_slice h1.items
  obtain ⟨c0, c1, _⟩ := h1.cells
  have hl' : (l.length : Int) ≤ 1000 := by omega
  clear h1 h2 hl
  go_enter Try.func11, Try.ntmps11
  go_wp2_with fail
  go_quiet (fail)
  go_wp2_with fail
  go_ret
  exact ⟨rfl, HS.out.newer (belN (Below.refl _ w) _)⟩
set_option maxRecDepth 20000 in
set_option maxHeartbeats 4000000 in
theorem ipush_any (Q : Nat) (F : Nat → Prop) (most : Int) (l : List Int) (x : Int) (w : World) (h : PQ w Q F most l) (hl : l.length ≤ 1000) (hm : ¬ most ≤ (l.length : Int)) : Calls Try.prog 11 #[.pointer (some ⟨Q, 0, none⟩), .int .i64 x] w fun e w' => e = .returned (.int .i64 0) ∧ ∃ F', PQ w' Q F' most (l ++ [x]) ∧ Fr F F' w w' := by
  obtain ⟨sv, h1, h2⟩ := h
  have HQ : Hid (QI w Q most sv l ∧ ∀ q, F q ↔ (q = Q ∨ sv.ownBlock = some q)) := ⟨h1, h2⟩
  obtain ⟨a, cap, hsv, _, _⟩ := tl_slice h1.items
  obtain ⟨k0, k1, k2⟩ := h1.cells
  rw [hsv] at k1
  have hQl := h1.lt Q (.inl rfl)
  have hl' : (l.length : Int) ≤ 1000 := by omega
  have hm' : (l.length : Int) < most := by omega
  have HTL : Hid (l.length ≤ 1000) := hl
  have HSV : Hid (sv = .slice a l.length cap) := hsv
  obtain ⟨n, hnn⟩ : ∃ n, l.length = n := ⟨_, rfl⟩
  rw [hnn] at k1 hl' hm' HSV
  have HAP : Hid (∀ (V : World) (vb : Nat), Below w.heap.size w V → V.cell? ⟨vb, 0, none⟩ = some (.int .i64 x) → ∃ v' w', (Builtin.append_ #[22, 22] 22 #[.slice a n cap, .slice (some ⟨vb, 0, none⟩) 1 1]).run Try.prog V = .ok v' w' ∧ Tl iv 1 w' 0 3 v' (l ++ [x]) ∧ V.grownBy w' sv.ownBlock ∧ (v'.ownBlock = sv.ownBlock ∨ v'.ownBlock = some V.heap.size)) := fun V vb hb hc => by
    obtain ⟨i0, hi0, hz0, hzs, hzb⟩ := info_parts info3
    have hT : Tl iv 1 V 0 3 sv l := tl_at HQ.out.1.items fun q hq => hb.block q (HQ.out.1.lt q (.inr hq))
    have := Tl.append Try.prog (t := 22) (ty := 22) (l2 := [x]) iv_len iv_one i0 (.int .i64 0) 8 Try.underlying22 hi0 hz0 hzs hzb rfl hT ⟨vb, 0, none⟩ 1 (fun j u hu => by
      rw [Addr.add_lit, Nat.zero_add]
      match j, hu with
      | 0, hu => simp [fl, iv] at hu; rw [hc, hu]
      | j + 1, hu => simp [fl, iv] at hu) (by unfold maxLen; simp; omega) (by simp; omega) (Nat.zero_le _)
    rw [HSV.out] at this
    rw [HSV.out]
    exact this
  clear h1 h2 hsv hl hm hnn
  go_enter Try.func11, Try.ntmps11
  go_wp2_with fail
  go_quiet (fail)
  obtain ⟨V0, hV0⟩ : ∃ V0, w.drewN nq = V0 := ⟨_, rfl⟩
  have HB0 : Hid (Below w.heap.size w V0) := by rw [← hV0]; exact belN (Below.refl _ w) nq
  have m0 : V0.cell? ⟨Q, 1, none⟩ = some (.slice a n cap) := by rw [← hV0]; exact k1
  have m5 : Q < V0.heap.size := by rw [← hV0]; exact hQl
  rw [hV0]
  obtain ⟨v', w2, hr, hi, hgr, hown⟩ := HAP.out (V0.alloc (.cells #[.int .i64 x] 3)) V0.heap.size (HB0.out.trans ((bel1' V0 _).mono HB0.out.size)) (by
    rw [cell_of_row _ _ _ _ _ _ (heap_alloc_new V0 (.cells #[.int .i64 x] 3))]
    rfl)
  obtain ⟨a', cap', hv', _, _⟩ := tl_slice hi
  have hb2 := bel1' V0 (.cells #[.int .i64 x] 3)
  have hsz : (V0.alloc (.cells #[.int .i64 x] 3)).heap.size = V0.heap.size + 1 := by simp
  have hQne : some Q ≠ sv.ownBlock := fun e => by
    obtain ⟨cur, hc⟩ := tl_tag HQ.out.1.items e.symm
    exact ne_tag HQ.out.1.box hc (by decide) rfl
  have hW2 : w2.heap[Q]? = some (.cells #[.int .i64 most, sv] 66 (0, 0)) := ((hgr.block Q (by omega) hQne).trans ((hb2.block Q m5).trans (HB0.out.block Q hQl))).trans HQ.out.1.box
  have hQs : some Q ≠ v'.ownBlock := fun e => by
    rcases hown with h | h
    · exact hQne (e.trans h)
    · rw [h] at e
      have := Option.some.inj e
      omega
  have HX : Hid (∃ F', PQ (w2.setCell ⟨Q, 1, none⟩ v') Q F' most (l ++ [x]) ∧ Fr F F' w (w2.setCell ⟨Q, 1, none⟩ v')) := by
    have hs0 := HB0.out.size
    have hgs := hgr.size
    refine PQ.turn HQ.out.1 HQ.out.2 (sv' := v') ⟨row_set _ hW2, tl_at hi fun q hq => Below.heap_setCell _ _ _ _ (fun e => hQs (by rw [e] at hq; exact hq.symm))⟩ (hgr.os.trans (hb2.os.trans HB0.out.os)) (hgr.tape.trans (hb2.tape.trans HB0.out.tape)) (hgr.output.trans (hb2.output.trans HB0.out.output)) (by simp; omega) (fun q hq h2 h3 => ?_) (hown.imp id fun h => ⟨_, h, by omega⟩)
    rw [Below.heap_setCell _ _ _ _ h2, hgr.block q (by omega) h3, hb2.block q (by omega), HB0.out.block q hq]
  have j1 : w2.cell? ⟨Q, 1, none⟩ = some (.slice a n cap) := by rw [cell_of_row _ _ _ _ _ _ hW2, ← HSV.out]; rfl
  have j2 : w2.frozen? ⟨Q, 1, none⟩ = false := by simp [World.frozen?, hW2]
  rw [hv'] at hr HX
  clear hV0 HAP hi hgr hown hv' k0 k1 k2 hW2 hQs hQne hb2 hsz
  generalize (l ++ [x]).length = n2 at *
  have HRR : Hid _ := hr
  clear hr
  go_wp2_with (at_builtin; refine Lib.wpList_append_run _ rfl _ _ _ _ rfl _ _ rfl rfl _ _ HRR.out ?_)
  go_ret
  exact ⟨rfl, HX.out⟩
theorem run_clearI (w : World) (g o c : Nat) (cur : Array Value) (hg : w.heap[g]? = some (.cells cur 3 (0, 0))) (hfit : o + 1 ≤ cur.size) (ty : TypeId) :
    (Builtin.clear_ #[22] ty #[.slice (some ⟨g, o, none⟩) 1 c]).run Try.prog w = .ok (.tuple #[]) (w.setCells g o [.int .i64 0]) := by
  have hst := run_storeCells_cells (P := Try.prog) g o [.int .i64 0] 0 w (fun j hj => by simp at hj; simp [World.cell?, hg]; omega) (fun j hj => by simp [World.frozen?, hg]) (by intro u hu; simp at hu; subst hu; rfl)
  simp only [Nat.add_zero] at hst
  have hz : (Builtin.zeroCells (Value.int .i64 0).cells 1).toList = [.int .i64 0] := by kernel_rfl
  have zero3 : (zeroValue 3).run Try.prog w = .ok (.int .i64 0) w := by kernel_rfl
  simp [Builtin.clear_, run_underlying Try.underlying22, zero3, hz, hst]
set_option maxRecDepth 20000 in
set_option maxHeartbeats 4000000 in
theorem ipop_any (Q : Nat) (F : Nat → Prop) (most : Int) (x : Int) (l : List Int) (w : World) (h : PQ w Q F most (x :: l)) (hl : (x :: l).length ≤ 1000) : Calls Try.prog 14 #[.pointer (some ⟨Q, 0, none⟩)] w fun e w' => e = .returned (.tuple #[.int .i64 x, .bool true]) ∧ ∃ F', PQ w' Q F' most l ∧ Fr F F' w w' := by
  obtain ⟨sv, hQ, hF⟩ := h
  have HPK : Hid (∀ W : World, W = w → Calls Try.prog 13 #[.pointer (some ⟨Q, 0, none⟩)] W fun e w' => e = .returned (.tuple #[.int .i64 x, .bool true]) ∧ w' = W) := fun W e => by subst e; exact ipeek_any Q most sv (x :: l) W hQ hl
  have HF : Hid (∀ q, F q ↔ (q = Q ∨ sv.ownBlock = some q)) := hF
  rcases hQ.items with ⟨_, hn⟩ | ⟨g, o, cap, cur, hv, _, hg, h1, h2, h3, h4⟩
  · cases hn
  · subst hv
    simp only [List.length_cons] at *
    have HQ : Hid (QI w Q most (.slice (some ⟨g, o, none⟩) (l.length + 1) cap) (x :: l)) := hQ
    have hQl := hQ.lt Q (.inl rfl)
    have hgl := hQ.lt g (.inr rfl)
    have hne : Q ≠ g := ne_tag hQ.box hg (by decide)
    have HG : Hid (w.heap[g]? = some (.cells cur 3 (0, 0)) ∧ o + 1 ≤ cur.size) := ⟨hg, by omega⟩
    have hcap : (1 : Int) ≤ (cap : Int) := by omega
    have hcap63 : (cap : Int) ≤ 9223372036854775807 := by unfold maxLen at h2; omega
    have hwl : (l.length : Int) ≤ 999 := by omega
    have hnc : (l.length : Int) + 1 ≤ (cap : Int) := by omega
    obtain ⟨c2, hg2, hs2, hin2, hout2⟩ := setCs_cells [.int .i64 0] w g o cur 3 (0, 0) hg (by simpa using HG.out.2)
    have hQ2 : (w.setCells g o [.int .i64 0]).heap[Q]? = some (.cells #[.int .i64 most, .slice (some ⟨g, o, none⟩) (l.length + 1) cap] 66 (0, 0)) := (setCs_other _ _ _ _ _ hne).trans HQ.out.box
    have HX : Hid (∃ F', PQ ((w.setCells g o [.int .i64 0]).setCell ⟨Q, 1, none⟩ (.slice (some ⟨g, if cap = 1 then o else o + 1, none⟩) l.length (cap - 1))) Q F' most l ∧ Fr F F' w ((w.setCells g o [.int .i64 0]).setCell ⟨Q, 1, none⟩ (.slice (some ⟨g, if cap = 1 then o else o + 1, none⟩) l.length (cap - 1)))) := by
      have hb2 := Tl.behind (w := w) iv_len (x := x) (l := l) (.inr ⟨g, o, cap, cur, rfl, Nat.zero_le _, hg, by simpa using h1, h2, h3, h4⟩)
      refine PQ.turn HQ.out HF.out (sv' := .slice (some ⟨g, if cap = 1 then o else o + 1, none⟩) l.length (cap - 1)) ⟨row_set _ hQ2, ?_⟩ (setCs_rest _ w g o).1 (setCs_rest _ w g o).2.1 (setCs_rest _ w g o).2.2 (by simp [setCs_size]) (fun q hq k1 k2 => ?_) (.inl rfl)
      · rcases hb2 with ⟨k, _⟩ | ⟨g', o', cap', cur', hv', _, hg', k1, k2, k3, k4⟩
        · cases k
        · have e := Value.slice.inj hv'
          have e1 := e.1
          simp only [Option.some.injEq, Addr.mk.injEq] at e1
          obtain ⟨rfl, rfl, _⟩ := e1
          have e3 := e.2.2
          subst e3
          rw [hg] at hg'
          have e4 : cur = cur' := by cases hg'; rfl
          subst e4
          refine .inr ⟨g, _, cap - 1, c2, rfl, Nat.zero_le _, (Below.heap_setCell _ _ _ _ hne.symm).trans hg2, k1, k2, by omega, fun j u hu => ?_⟩
          have hwn : l ≠ [] := fun e => by subst e; simp [fl] at hu
          have hwl : 0 < l.length := List.length_pos_iff.2 hwn
          have hc1 : ¬ cap = 1 := by omega
          have h5 := k4 j u hu
          rw [if_neg hc1] at h5 ⊢
          rw [hout2 (o + 1 + j) (.inr (by simp))]
          exact h5
      · rw [Below.heap_setCell _ _ _ _ k1, setCs_other _ _ _ _ _ (fun e => k2 (by rw [e]; rfl))]
    obtain ⟨c0, c1, _⟩ := hQ.cells
    have hcl := run_clearI w g o
    have d2 : (w.setCells g o [.int .i64 0]).cell? ⟨Q, 1, none⟩ = some (.slice (some ⟨g, o, none⟩) (l.length + 1) cap) := by rw [cell_of_row _ _ _ _ _ _ hQ2]; rfl
    have d3 : (w.setCells g o [.int .i64 0]).frozen? ⟨Q, 1, none⟩ = false := by simp [World.frozen?, hQ2]
    have hcl : ∀ ty c, (Builtin.clear_ #[22] ty #[.slice (some ⟨g, o, none⟩) 1 c]).run Try.prog w = .ok (.tuple #[]) (w.setCells g o [.int .i64 0]) := fun ty c => run_clearI w g o c cur HG.out.1 HG.out.2 ty
    generalize l.length = n at *
    generalize w.setCells g o [.int .i64 0] = W3 at *
    clear hQ h1 h2 h3 h4 hg hg2 hs2 hin2 hout2 hQ2 HQ HG
    by_cases hc1 : cap = 1
    · subst hc1
      obtain rfl : n = 0 := by omega
      rw [if_pos rfl] at HX
      go_enter Try.func14, Try.ntmps14
      go_wp2_with (go_at_call 13; refine (HPK.out _ rfl).mono ?_; rintro e w1 ⟨rfl, hw1⟩; rw [hw1]; clear hw1)
      go_ret2
      exact ⟨rfl, HX.out⟩
    · rw [if_neg hc1] at HX
      go_enter Try.func14, Try.ntmps14
      go_wp2_with (go_at_call 13; refine (HPK.out _ rfl).mono ?_; rintro e w1 ⟨rfl, hw1⟩; rw [hw1]; clear hw1)
      go_ret2
      exact ⟨rfl, HX.out⟩
theorem ipop_none (Q : Nat) (F : Nat → Prop) (most : Int) (w : World) (h : PQ w Q F most []) : Calls Try.prog 14 #[.pointer (some ⟨Q, 0, none⟩)] w fun e w' => e = .returned (.tuple #[.int .i64 0, .bool false]) ∧ ∃ F', PQ w' Q F' most [] ∧ Fr F F' w w' := by
  have HS : Hid (PQ w Q F most []) := h
  obtain ⟨sv, hQ, hF⟩ := h
  have HPK : Hid (∀ W : World, W = w → Calls Try.prog 13 #[.pointer (some ⟨Q, 0, none⟩)] W fun e w' => e = .returned (.tuple #[.int .i64 0, .bool false]) ∧ w' = W) := fun W e => by subst e; exact ipeek_any Q most sv [] W hQ (by simp)
  clear hQ hF
  go_enter Try.func14, Try.ntmps14
  go_wp2_with (go_at_call 13; refine (HPK.out _ rfl).mono ?_; rintro e w1 ⟨rfl, hw1⟩; rw [hw1]; clear hw1)
  go_ret2
  exact ⟨rfl, HS.out.same⟩
end Go.Proofs.Ytfndbllpnkhlhaa
