/- The program's queues of tasks. -/
import Derived.Test.YtkigagglkmdccaaKf
import Derived.Test.YtkigagglkmdccaaKd
import Derived.Laws.OwnMore
namespace Go.Proofs.Ytkigagglkmdccaa
open Go.RowKit
set_option linter.unusedVariables false
set_option linter.unusedSimpArgs false

def pv (p : Nat) : List Value := [.pointer (some ⟨p, 0, none⟩)]
theorem pv_len (p : Nat) : (pv p).length = 1 := rfl
theorem pv_one (p : Nat) : ∀ u ∈ pv p, u.oneCell' = true := by
  intro u hu
  rw [List.mem_singleton.1 hu]
  rfl
theorem pv_at : ∀ (l : List Nat) (j : Nat), (fl pv l)[j]? = (l[j]?).map fun p => Value.pointer (some ⟨p, 0, none⟩)
  | [], j => by simp [fl]
  | p :: r, 0 => by simp [fl, pv]
  | p :: r, j + 1 => by
    have := pv_at r j
    simp only [fl, pv, List.cons_append, List.nil_append, List.getElem?_cons_succ]
    exact this
def hdV : List Nat → Value
  | [] => .pointer none
  | p :: _ => .pointer (some ⟨p, 0, none⟩)

/-- A queue of numbers as it lies. -/
structure QI (w : World) (Q : Nat) (most : Int) (sv : Value) (l : List Nat) : Prop where
  box : w.heap[Q]? = some (.cells #[.int .i64 most, sv] 136 (0, 0))
  items : Tl pv 1 w 0 111 sv l
theorem QI.at' {w w' : World} {Q : Nat} {most : Int} {sv : Value} {l : List Nat} (h : QI w Q most sv l) (hk : ∀ q, q = Q ∨ sv.ownBlock = some q → w'.heap[q]? = w.heap[q]?) : QI w' Q most sv l :=
  ⟨(hk Q (.inl rfl)).trans h.box, tl_at h.items fun q hq => hk q (.inr hq)⟩
theorem QI.lt {w : World} {Q : Nat} {most : Int} {sv : Value} {l : List Nat} (h : QI w Q most sv l) : ∀ q, q = Q ∨ sv.ownBlock = some q → q < w.heap.size := by
  rintro q (rfl | hq)
  · exact (Array.getElem?_eq_some_iff.1 h.box).1
  · obtain ⟨cur, hc⟩ := tl_tag h.items hq
    exact (Array.getElem?_eq_some_iff.1 hc).1
theorem QI.cells {w : World} {Q : Nat} {most : Int} {sv : Value} {l : List Nat} (h : QI w Q most sv l) : w.cell? ⟨Q, 0, none⟩ = some (.int .i64 most) ∧ w.cell? ⟨Q, 1, none⟩ = some sv ∧ w.frozen? ⟨Q, 1, none⟩ = false :=
  ⟨by rw [cell_of_row _ _ _ _ _ _ h.box]; rfl, by rw [cell_of_row _ _ _ _ _ _ h.box]; rfl, by simp [World.frozen?, h.box]⟩
def PQ (w : World) (Q : Nat) (F : Nat → Prop) (most : Int) (l : List Nat) : Prop := ∃ sv, QI w Q most sv l ∧ ∀ q, F q ↔ (q = Q ∨ sv.ownBlock = some q)
theorem PQ.at' {w w' : World} {Q : Nat} {F : Nat → Prop} {most : Int} {l : List Nat} (h : PQ w Q F most l) (hk : ∀ q, F q → w'.heap[q]? = w.heap[q]?) : PQ w' Q F most l := by
  obtain ⟨sv, h1, h2⟩ := h
  exact ⟨sv, h1.at' fun q hq => hk q ((h2 q).2 hq), h2⟩
theorem PQ.lt {w : World} {Q : Nat} {F : Nat → Prop} {most : Int} {l : List Nat} (h : PQ w Q F most l) : ∀ q, F q → q < w.heap.size := by
  obtain ⟨sv, h1, h2⟩ := h
  exact fun q hq => h1.lt q ((h2 q).1 hq)
theorem PQ.same {w : World} {Q : Nat} {F : Nat → Prop} {most : Int} {l : List Nat} (h : PQ w Q F most l) : ∃ F', PQ w Q F' most l ∧ Fr F F' w w := ⟨F, h, ⟨rfl, rfl, rfl, Nat.le_refl _, fun _ _ _ => rfl, fun _ h => .inl h⟩⟩
theorem PQ.newer {w w' : World} {Q : Nat} {F : Nat → Prop} {most : Int} {l : List Nat} (h : PQ w Q F most l) (hb : Below w.heap.size w w') : ∃ F', PQ w' Q F' most l ∧ Fr F F' w w' :=
  ⟨F, h.at' fun q hq => hb.block q (h.lt q hq), ⟨hb.os, hb.tape, hb.output, hb.size, fun q hq _ => hb.block q hq, fun q hq => .inl hq⟩⟩
theorem inothing (most : Int) (w : World) (h : most < 1) : Calls Try.prog 67 #[.int .i64 most] w fun e w' => e = .returned (.pointer none) ∧ Below w.heap.size w w' := by
  go_enter Try.func67, Try.ntmps67
  go_wp2
  go_ret
  exact ⟨rfl, Below.refl _ _⟩
theorem inew (most : Int) (w : World) (h : 1 ≤ most) : Calls Try.prog 67 #[.int .i64 most] w fun e w' => ∃ Q F, e = .returned (.pointer (some ⟨Q, 0, none⟩)) ∧ PQ w' Q F most [] ∧ (∀ q, F q → w.heap.size ≤ q) ∧ Below w.heap.size w w' := by
  have h' : ¬ most < 1 := by omega
  go_enter Try.func67, Try.ntmps67
  go_wp2
  go_ret
  refine ⟨w.heap.size, rfl, fun q => q = w.heap.size ∨ (Value.slice none 0 0).ownBlock = some q, ⟨.slice none 0 0, ⟨heap_alloc_new _ _, Tl.nil _ _ _⟩, fun q => Iff.rfl⟩, ?_, bel1' _ _⟩
  rintro q (rfl | hq)
  · exact Nat.le_refl _
  · cases hq
theorem ilen_any (Q : Nat) (most : Int) (sv : Value) (l : List Nat) (w : World) (h : QI w Q most sv l) : Calls Try.prog 80 #[.pointer (some ⟨Q, 0, none⟩)] w fun e w' => e = .returned (.int .i64 (l.length : Int)) ∧ w' = w := by
  obtain ⟨a, cap, rfl, _, _⟩ := tl_slice h.items
  obtain ⟨c0, c1, _⟩ := h.cells
  clear h
  go_enter Try.func80, Try.ntmps80
  go_wp2
  go_ret
  exact ⟨rfl, rfl⟩
set_option maxRecDepth 20000 in
set_option maxHeartbeats 4000000 in
theorem ipeek_any (Q : Nat) (most : Int) (sv : Value) (l : List Nat) (w : World) (h : QI w Q most sv l) (hl : l.length ≤ 1000) : Calls Try.prog 69 #[.pointer (some ⟨Q, 0, none⟩)] w fun e w' => e = .returned (.tuple #[hdV l, .bool (!l.isEmpty)]) ∧ w' = w := by
  have HL : Hid (∀ W : World, W = w → Calls Try.prog 80 #[.pointer (some ⟨Q, 0, none⟩)] W fun e w' => e = .returned (.int .i64 (l.length : Int)) ∧ w' = W) := fun W e => by subst e; exact ilen_any Q most sv l W h
  cases l with
  | nil =>
    clear h hl
    go_enter Try.func69, Try.ntmps69
    go_wp2_with (go_at_call 80; refine (HL.out _ rfl).mono ?_; rintro e w1 ⟨rfl, hw1⟩; rw [hw1]; clear hw1)
    go_ret2
    exact ⟨rfl, rfl⟩
  | cons x r =>
    rcases h.items with ⟨_, hn⟩ | ⟨g, o, cap, cur, hv, _, hg, h1, h2, h3, h4⟩
    · cases hn
    · subst hv
      obtain ⟨c0, c1, _⟩ := h.cells
      have e0 : w.cell? ⟨g, o, none⟩ = some (.pointer (some ⟨x, 0, none⟩)) := by
        rw [cell_of_row _ _ _ _ _ _ hg]
        exact h4 0 _ rfl
      have hcap : (1 : Int) ≤ (cap : Int) := by simp at h1; omega
      have hz : ¬ ((r.length : Int) + 1 = 0) := by omega
      have hz2 : (0 : Int) < (r.length : Int) + 1 := by omega
      simp only [List.length_cons] at HL c1 hl
      have hl' : (r.length : Int) + 1 ≤ 1000 := by omega
      rw [show ((r.length + 1 : Nat) : Int) = (r.length : Int) + 1 by omega] at HL
      clear h h1 h2 h3 h4 hl
      go_enter Try.func69, Try.ntmps69
      go_wp2_with (go_at_call 80; refine (HL.out _ rfl).mono ?_; rintro e w1 ⟨rfl, hw1⟩; rw [hw1]; clear hw1)
      go_ret2
      exact ⟨rfl, rfl⟩

theorem info111 : (Try.prog.info? 111).map (fun i => (i.zero, i.size, i.bytes)) = some (some (.pointer none), 1, 8) := by kernel_rfl
/-- A queue's items are others now. -/
theorem PQ.turn {w w' : World} {Q : Nat} {F : Nat → Prop} {most : Int} {sv sv' : Value} {l l' : List Nat} (h : QI w Q most sv l) (h2 : ∀ q, F q ↔ (q = Q ∨ sv.ownBlock = some q)) (hq : QI w' Q most sv' l') (hos : w'.os = w.os) (htp : w'.tape = w.tape) (hou : w'.output = w.output) (hsz : w.heap.size ≤ w'.heap.size) (hk : ∀ q, q < w.heap.size → q ≠ Q → some q ≠ sv.ownBlock → w'.heap[q]? = w.heap[q]?) (hO : sv'.ownBlock = sv.ownBlock ∨ ∃ q, sv'.ownBlock = some q ∧ w.heap.size ≤ q) : ∃ F', PQ w' Q F' most l' ∧ Fr F F' w w' := by
  refine ⟨fun q => q = Q ∨ sv'.ownBlock = some q, ⟨sv', hq, fun q => Iff.rfl⟩, ⟨hos, htp, hou, hsz, fun q hlt hn => hk q hlt (fun e => hn ((h2 q).2 (.inl e))) (fun e => hn ((h2 q).2 (.inr e.symm))), fun q hqq => ?_⟩⟩
  rcases hqq with e | e
  · exact .inl ((h2 q).2 (.inl e))
  · rcases hO with h' | ⟨q', h', hle⟩
    · exact .inl ((h2 q).2 (.inr (h'.symm.trans e)))
    · rw [h'] at e
      have := Option.some.inj e
      exact .inr (by omega)
set_option maxRecDepth 20000 in
set_option maxHeartbeats 4000000 in
theorem ipush_full (Q : Nat) (F : Nat → Prop) (most : Int) (l : List Nat) (x : Nat) (w : World) (h : PQ w Q F most l) (hl : l.length ≤ 1000) (hm : most ≤ (l.length : Int)) : Calls Try.prog 68 #[.pointer (some ⟨Q, 0, none⟩), .pointer (some ⟨x, 0, none⟩)] w fun e w' => e = .returned (.int .i64 200) ∧ ∃ F', PQ w' Q F' most l ∧ Fr F F' w w' := by
  have HS : Hid (PQ w Q F most l) := h
  obtain ⟨sv, h1, h2⟩ := h
  obtain ⟨a, cap, rfl, _, _⟩ := tl_slice h1.items
  obtain ⟨c0, c1, _⟩ := h1.cells
  have hl' : (l.length : Int) ≤ 1000 := by omega
  clear h1 h2 hl
  go_enter Try.func68, Try.ntmps68
  go_wp2_with fail
  go_quiet (fail)
  go_wp2_with fail
  go_ret
  exact ⟨rfl, HS.out.newer (belN (Below.refl _ w) _)⟩
set_option maxRecDepth 20000 in
set_option maxHeartbeats 4000000 in
theorem ipush_any (Q : Nat) (F : Nat → Prop) (most : Int) (l : List Nat) (x : Nat) (w : World) (h : PQ w Q F most l) (hl : l.length ≤ 1000) (hm : ¬ most ≤ (l.length : Int)) : Calls Try.prog 68 #[.pointer (some ⟨Q, 0, none⟩), .pointer (some ⟨x, 0, none⟩)] w fun e w' => e = .returned (.int .i64 0) ∧ ∃ F', PQ w' Q F' most (l ++ [x]) ∧ Fr F F' w w' := by
  obtain ⟨sv, h1, h2⟩ := h
  have HQ : Hid (QI w Q most sv l ∧ ∀ q, F q ↔ (q = Q ∨ sv.ownBlock = some q)) := ⟨h1, h2⟩
  obtain ⟨a, cap, hsv, _, _⟩ := tl_slice h1.items
  obtain ⟨k0, k1, k2⟩ := h1.cells
  rw [hsv] at k1
  have hQl := h1.lt Q (.inl rfl)
  have hl' : (l.length : Int) ≤ 1000 := by omega
  have hm' : (l.length : Int) < most := by omega
  have HTL : Hid (l.length ≤ 1000) := hl
  have HSV : Hid (sv = .slice a l.length cap) := hsv
  obtain ⟨n, hnn⟩ : ∃ n, l.length = n := ⟨_, rfl⟩
  rw [hnn] at k1 hl' hm' HSV
  have HAP : Hid (∀ (V : World) (vb : Nat), Below w.heap.size w V → V.cell? ⟨vb, 0, none⟩ = some (.pointer (some ⟨x, 0, none⟩)) → ∃ v' w', (Builtin.append_ #[122, 122] 122 #[.slice a n cap, .slice (some ⟨vb, 0, none⟩) 1 1]).run Try.prog V = .ok v' w' ∧ Tl pv 1 w' 0 111 v' (l ++ [x]) ∧ V.grownBy w' sv.ownBlock ∧ (v'.ownBlock = sv.ownBlock ∨ v'.ownBlock = some V.heap.size)) := fun V vb hb hc => by
    obtain ⟨i0, hi0, hz0, hzs, hzb⟩ := info_parts info111
    have hT : Tl pv 1 V 0 111 sv l := tl_at HQ.out.1.items fun q hq => hb.block q (HQ.out.1.lt q (.inr hq))
    have := Tl.append Try.prog (t := 122) (ty := 122) (l2 := [x]) pv_len pv_one i0 (.pointer none) 8 Try.underlying122 hi0 hz0 hzs hzb rfl hT ⟨vb, 0, none⟩ 1 (fun j u hu => by
      rw [Addr.add_lit, Nat.zero_add]
      match j, hu with
      | 0, hu => simp [fl, pv] at hu; rw [hc, hu]
      | j + 1, hu => simp [fl, pv] at hu) (by unfold maxLen; simp; omega) (by simp; omega) (Nat.zero_le _)
    rw [HSV.out] at this
    rw [HSV.out]
    exact this
  clear h1 h2 hsv hl hm hnn
  go_enter Try.func68, Try.ntmps68
  go_wp2_with fail
  go_quiet (fail)
  obtain ⟨V0, hV0⟩ : ∃ V0, w.drewN nq = V0 := ⟨_, rfl⟩
  have HB0 : Hid (Below w.heap.size w V0) := by rw [← hV0]; exact belN (Below.refl _ w) nq
  have m0 : V0.cell? ⟨Q, 1, none⟩ = some (.slice a n cap) := by rw [← hV0]; exact k1
  have m5 : Q < V0.heap.size := by rw [← hV0]; exact hQl
  rw [hV0]
  obtain ⟨v', w2, hr, hi, hgr, hown⟩ := HAP.out (V0.alloc (.cells #[.pointer (some ⟨x, 0, none⟩)] 111)) V0.heap.size (HB0.out.trans ((bel1' V0 _).mono HB0.out.size)) (by
    rw [cell_of_row _ _ _ _ _ _ (heap_alloc_new V0 (.cells #[.pointer (some ⟨x, 0, none⟩)] 111))]
    rfl)
  obtain ⟨a', cap', hv', _, _⟩ := tl_slice hi
  have hb2 := bel1' V0 (.cells #[.pointer (some ⟨x, 0, none⟩)] 111)
  have hsz : (V0.alloc (.cells #[.pointer (some ⟨x, 0, none⟩)] 111)).heap.size = V0.heap.size + 1 := by simp
  have hQne : some Q ≠ sv.ownBlock := fun e => by
    obtain ⟨cur, hc⟩ := tl_tag HQ.out.1.items e.symm
    exact ne_tag HQ.out.1.box hc (by decide) rfl
  have hW2 : w2.heap[Q]? = some (.cells #[.int .i64 most, sv] 136 (0, 0)) := ((hgr.block Q (by omega) hQne).trans ((hb2.block Q m5).trans (HB0.out.block Q hQl))).trans HQ.out.1.box
  have hQs : some Q ≠ v'.ownBlock := fun e => by
    rcases hown with h | h
    · exact hQne (e.trans h)
    · rw [h] at e
      have := Option.some.inj e
      omega
  have HX : Hid (∃ F', PQ (w2.setCell ⟨Q, 1, none⟩ v') Q F' most (l ++ [x]) ∧ Fr F F' w (w2.setCell ⟨Q, 1, none⟩ v')) := by
    have hs0 := HB0.out.size
    have hgs := hgr.size
    refine PQ.turn HQ.out.1 HQ.out.2 (sv' := v') ⟨row_set _ hW2, tl_at hi fun q hq => Below.heap_setCell _ _ _ _ (fun e => hQs (by rw [e] at hq; exact hq.symm))⟩ (hgr.os.trans (hb2.os.trans HB0.out.os)) (hgr.tape.trans (hb2.tape.trans HB0.out.tape)) (hgr.output.trans (hb2.output.trans HB0.out.output)) (by simp; omega) (fun q hq h2 h3 => ?_) (hown.imp id fun h => ⟨_, h, by omega⟩)
    rw [Below.heap_setCell _ _ _ _ h2, hgr.block q (by omega) h3, hb2.block q (by omega), HB0.out.block q hq]
  have j1 : w2.cell? ⟨Q, 1, none⟩ = some (.slice a n cap) := by rw [cell_of_row _ _ _ _ _ _ hW2, ← HSV.out]; rfl
  have j2 : w2.frozen? ⟨Q, 1, none⟩ = false := by simp [World.frozen?, hW2]
  rw [hv'] at hr HX
  clear hV0 HAP hi hgr hown hv' k0 k1 k2 hW2 hQs hQne hb2 hsz
  generalize (l ++ [x]).length = n2 at *
  have HRR : Hid _ := hr
  clear hr
  go_wp2_with (at_builtin; refine Lib.wpList_append_run _ rfl _ _ _ _ rfl _ _ rfl rfl _ _ HRR.out ?_)
  go_ret
  exact ⟨rfl, HX.out⟩
theorem run_clearI (w : World) (g o c : Nat) (cur : Array Value) (hg : w.heap[g]? = some (.cells cur 111 (0, 0))) (hfit : o + 1 ≤ cur.size) (ty : TypeId) :
    (Builtin.clear_ #[122] ty #[.slice (some ⟨g, o, none⟩) 1 c]).run Try.prog w = .ok (.tuple #[]) (w.setCells g o [.pointer none]) := by
  have hst := run_storeCells_cells (P := Try.prog) g o [.pointer none] 0 w (fun j hj => by simp at hj; simp [World.cell?, hg]; omega) (fun j hj => by simp [World.frozen?, hg]) (by intro u hu; simp at hu; subst hu; rfl)
  simp only [Nat.add_zero] at hst
  have hz : (Builtin.zeroCells (Value.pointer none).cells 1).toList = [.pointer none] := by kernel_rfl
  have zero111 : (zeroValue 111).run Try.prog w = .ok (.pointer none) w := by kernel_rfl
  simp [Builtin.clear_, run_underlying Try.underlying122, zero111, hz, hst]
set_option maxRecDepth 20000 in
set_option maxHeartbeats 4000000 in
theorem ipop_any (Q : Nat) (F : Nat → Prop) (most : Int) (x : Nat) (l : List Nat) (w : World) (h : PQ w Q F most (x :: l)) (hl : (x :: l).length ≤ 1000) : Calls Try.prog 70 #[.pointer (some ⟨Q, 0, none⟩)] w fun e w' => e = .returned (.tuple #[.pointer (some ⟨x, 0, none⟩), .bool true]) ∧ ∃ F', PQ w' Q F' most l ∧ Fr F F' w w' := by
  obtain ⟨sv, hQ, hF⟩ := h
  have HPK : Hid (∀ W : World, W = w → Calls Try.prog 69 #[.pointer (some ⟨Q, 0, none⟩)] W fun e w' => e = .returned (.tuple #[.pointer (some ⟨x, 0, none⟩), .bool true]) ∧ w' = W) := fun W e => by subst e; exact ipeek_any Q most sv (x :: l) W hQ hl
  have HF : Hid (∀ q, F q ↔ (q = Q ∨ sv.ownBlock = some q)) := hF
  rcases hQ.items with ⟨_, hn⟩ | ⟨g, o, cap, cur, hv, _, hg, h1, h2, h3, h4⟩
  · cases hn
  · subst hv
    simp only [List.length_cons] at *
    have HQ : Hid (QI w Q most (.slice (some ⟨g, o, none⟩) (l.length + 1) cap) (x :: l)) := hQ
    have hQl := hQ.lt Q (.inl rfl)
    have hgl := hQ.lt g (.inr rfl)
    have hne : Q ≠ g := ne_tag hQ.box hg (by decide)
    have HG : Hid (w.heap[g]? = some (.cells cur 111 (0, 0)) ∧ o + 1 ≤ cur.size) := ⟨hg, by omega⟩
    have hcap : (1 : Int) ≤ (cap : Int) := by omega
    have hcap63 : (cap : Int) ≤ 9223372036854775807 := by unfold maxLen at h2; omega
    have hwl : (l.length : Int) ≤ 999 := by omega
    have hnc : (l.length : Int) + 1 ≤ (cap : Int) := by omega
    obtain ⟨c2, hg2, hs2, hin2, hout2⟩ := setCs_cells [.pointer none] w g o cur 111 (0, 0) hg (by simpa using HG.out.2)
    have hQ2 : (w.setCells g o [.pointer none]).heap[Q]? = some (.cells #[.int .i64 most, .slice (some ⟨g, o, none⟩) (l.length + 1) cap] 136 (0, 0)) := (setCs_other _ _ _ _ _ hne).trans HQ.out.box
    have HX : Hid (∃ F', PQ ((w.setCells g o [.pointer none]).setCell ⟨Q, 1, none⟩ (.slice (some ⟨g, if cap = 1 then o else o + 1, none⟩) l.length (cap - 1))) Q F' most l ∧ Fr F F' w ((w.setCells g o [.pointer none]).setCell ⟨Q, 1, none⟩ (.slice (some ⟨g, if cap = 1 then o else o + 1, none⟩) l.length (cap - 1)))) := by
      have hb2 := Tl.behind (w := w) pv_len (x := x) (l := l) (.inr ⟨g, o, cap, cur, rfl, Nat.zero_le _, hg, by simpa using h1, h2, h3, h4⟩)
      refine PQ.turn HQ.out HF.out (sv' := .slice (some ⟨g, if cap = 1 then o else o + 1, none⟩) l.length (cap - 1)) ⟨row_set _ hQ2, ?_⟩ (setCs_rest _ w g o).1 (setCs_rest _ w g o).2.1 (setCs_rest _ w g o).2.2 (by simp [setCs_size]) (fun q hq k1 k2 => ?_) (.inl rfl)
      · rcases hb2 with ⟨k, _⟩ | ⟨g', o', cap', cur', hv', _, hg', k1, k2, k3, k4⟩
        · cases k
        · have e := Value.slice.inj hv'
          have e1 := e.1
          simp only [Option.some.injEq, Addr.mk.injEq] at e1
          obtain ⟨rfl, rfl, _⟩ := e1
          have e3 := e.2.2
          subst e3
          rw [hg] at hg'
          have e4 : cur = cur' := by cases hg'; rfl
          subst e4
          refine .inr ⟨g, _, cap - 1, c2, rfl, Nat.zero_le _, (Below.heap_setCell _ _ _ _ hne.symm).trans hg2, k1, k2, by omega, fun j u hu => ?_⟩
          have hwn : l ≠ [] := fun e => by subst e; simp [fl] at hu
          have hwl : 0 < l.length := List.length_pos_iff.2 hwn
          have hc1 : ¬ cap = 1 := by omega
          have h5 := k4 j u hu
          rw [if_neg hc1] at h5 ⊢
          rw [hout2 (o + 1 + j) (.inr (by simp))]
          exact h5
      · rw [Below.heap_setCell _ _ _ _ k1, setCs_other _ _ _ _ _ (fun e => k2 (by rw [e]; rfl))]
    obtain ⟨c0, c1, _⟩ := hQ.cells
    have hcl := run_clearI w g o
    have d2 : (w.setCells g o [.pointer none]).cell? ⟨Q, 1, none⟩ = some (.slice (some ⟨g, o, none⟩) (l.length + 1) cap) := by rw [cell_of_row _ _ _ _ _ _ hQ2]; rfl
    have d3 : (w.setCells g o [.pointer none]).frozen? ⟨Q, 1, none⟩ = false := by simp [World.frozen?, hQ2]
    have hcl : ∀ ty c, (Builtin.clear_ #[122] ty #[.slice (some ⟨g, o, none⟩) 1 c]).run Try.prog w = .ok (.tuple #[]) (w.setCells g o [.pointer none]) := fun ty c => run_clearI w g o c cur HG.out.1 HG.out.2 ty
    generalize l.length = n at *
    generalize w.setCells g o [.pointer none] = W3 at *
    clear hQ h1 h2 h3 h4 hg hg2 hs2 hin2 hout2 hQ2 HQ HG
    by_cases hc1 : cap = 1
    · subst hc1
      obtain rfl : n = 0 := by omega
      rw [if_pos rfl] at HX
      go_enter Try.func70, Try.ntmps70
      go_wp2_with (go_at_call 69; refine (HPK.out _ rfl).mono ?_; rintro e w1 ⟨rfl, hw1⟩; rw [hw1]; clear hw1)
      go_ret2
      exact ⟨rfl, HX.out⟩
    · rw [if_neg hc1] at HX
      go_enter Try.func70, Try.ntmps70
      go_wp2_with (go_at_call 69; refine (HPK.out _ rfl).mono ?_; rintro e w1 ⟨rfl, hw1⟩; rw [hw1]; clear hw1)
      go_ret2
      exact ⟨rfl, HX.out⟩
theorem ipop_none (Q : Nat) (F : Nat → Prop) (most : Int) (w : World) (h : PQ w Q F most []) : Calls Try.prog 70 #[.pointer (some ⟨Q, 0, none⟩)] w fun e w' => e = .returned (.tuple #[.pointer none, .bool false]) ∧ ∃ F', PQ w' Q F' most [] ∧ Fr F F' w w' := by
  have HS : Hid (PQ w Q F most []) := h
  obtain ⟨sv, hQ, hF⟩ := h
  have HPK : Hid (∀ W : World, W = w → Calls Try.prog 69 #[.pointer (some ⟨Q, 0, none⟩)] W fun e w' => e = .returned (.tuple #[.pointer none, .bool false]) ∧ w' = W) := fun W e => by subst e; exact ipeek_any Q most sv [] W hQ (by simp)
  clear hQ hF
  go_enter Try.func70, Try.ntmps70
  go_wp2_with (go_at_call 69; refine (HPK.out _ rfl).mono ?_; rintro e w1 ⟨rfl, hw1⟩; rw [hw1]; clear hw1)
  go_ret2
  exact ⟨rfl, HS.out.same⟩

theorem ifl_len (l : List Nat) : (fl pv l).length = l.length := by rw [fl_len pv_len, Nat.mul_one]
set_option maxRecDepth 20000 in
set_option maxHeartbeats 4000000 in
theorem iclone_any (sv : Value) (l : List Nat) (w : World) (h : Tl pv 1 w 0 111 sv l) (hl : l.length ≤ 1000) : Calls Try.prog 91 #[sv] w fun e w' => (∃ v', e = .returned v' ∧ w'.ownsRow w.heap.size 111 1 v' l.length (fl pv l)) ∧ Below w.heap.size w w' := by
  rcases h with ⟨rfl, rfl⟩ | ⟨g, o, cap, cur, rfl, _, hg, h1, h2, h3, h4⟩
  · have hq : ∀ w, (binOp .eql 122 (.slice none 0 0) (.slice none 0 0)).run Try.prog w = .ok (.bool true) w := fun w => by kernel_rfl
    go_enter Try.func91, Try.ntmps91
    go_wp2_with fail
    go_ret
    exact ⟨⟨_, rfl, World.ownsRow_nil _ _ _ _⟩, Below.refl _ _⟩
  · have HC : Hid (∀ j u, (fl pv l)[j]? = some u → (w.alloc (.cells #[] 111)).cell? ((⟨g, o, none⟩ : Addr).add j) = some u) := fun j u hu => by
      rw [Addr.add_lit]
      have : (w.alloc (.cells #[] 111)).heap[g]? = some (.cells cur 111 (0, 0)) := (Below.heap_alloc _ _ _ (Array.getElem?_eq_some_iff.1 hg).1).trans hg
      rw [cell_of_row _ _ _ _ _ _ this]
      exact h4 j u hu
    obtain ⟨L, hL⟩ : ∃ L, l.length = L := ⟨_, rfl⟩
    have HL : Hid (l.length = L) := hL
    rw [hL] at hl ⊢
    have hq : ∀ w, (binOp .eql 122 (.slice (some ⟨g, o, none⟩) L cap) (.slice none 0 0)).run Try.prog w = .ok (.bool false) w := fun w => by kernel_rfl
    have HI : Hid _ := info_parts info111
    have h1O : ∀ u ∈ fl pv l, u.oneCell' = true := fun u hu => by
      obtain ⟨j, hj⟩ := List.getElem?_of_mem hu
      rw [pv_at] at hj
      obtain ⟨y, _, rfl⟩ := Option.map_eq_some_iff.1 hj
      rfl
    have H1 : Hid (∀ u ∈ fl pv l, u.oneCell' = true) := h1O
    clear h1 h2 h3 h4 hg hL h1O
    obtain ⟨i0, hi, hz0, hz1, hz2⟩ := HI.out
    go_enter Try.func91, Try.ntmps91
    go_wp2_with (at_builtin; (refine wpList_append_own _ rfl (.tmp 5) (.tmp 6) 122 rfl w.heap.size 111 i0 (.pointer none) 1 8 Try.underlying122 hi hz0 hz1 hz2 rfl (by decide) (.slice (some ⟨w.heap.size, 0, none⟩) 0 0) 0 [] rfl (World.ownsRow_lit w #[] 0 (Nat.le_refl _) (by decide) rfl) ⟨g, o, none⟩ L cap (fl pv l) rfl (by rw [ifl_len, HL.out, Nat.mul_one]) HC.out H1.out (by unfold maxLen; omega) (by omega) (by simp) ?_; intro v' w' ho' hg' _))
    go_ret
    refine ⟨⟨_, rfl, ?_⟩, (bel1' _ _).grown hg' (by simp) ?_⟩
    · have h := ho'
      rw [Nat.zero_add, List.nil_append] at h
      exact h
    · intro q hq'
      simp [Value.ownBlock] at hq'
      omega
end Go.Proofs.Ytkigagglkmdccaa
