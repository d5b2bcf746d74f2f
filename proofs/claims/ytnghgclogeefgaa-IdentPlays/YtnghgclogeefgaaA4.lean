/- Two tables are told to be alike. -/
import Derived.Test.YtnghgclogeefgaaA3
import Derived.Deep.LoopGhost
namespace Go.Proofs.Ytnghgclogeefgaa
open Go.RowKit Go.Shelf
set_option linter.unusedVariables false
set_option linter.unusedSimpArgs false
attribute [local go_sem] Oper.semAt_some

/-- The numbers of sessions rise, from above 0. -/
def Rise (ss : List Se) : Prop := (ss.map (·.num)).Pairwise (· < ·) ∧ ∀ s ∈ ss, 0 < s.num
theorem not_bad (ss : List Se) (tn : List UInt8) (h : Rise ss) (m : Nat) : ¬ Bad ((ofI ss tn).take m) := by
  rintro ⟨p, x, he, hx⟩
  have hsub : List.Sublist (ofI ss tn) (ss.map (·.num)) := by unfold ofI; exact List.Sublist.map _ List.filter_sublist
  have hp : (ofI ss tn).Pairwise (· < ·) := h.1.sublist hsub
  have hp2 : (p ++ [x]).Pairwise (· < ·) := by rw [← he]; exact hp.sublist (List.take_sublist _ _)
  have hxm : x ∈ ofI ss tn := (List.take_sublist m _).subset (by rw [he]; simp)
  have hx0 : 0 < x := by
    unfold ofI at hxm
    obtain ⟨s, hs, rfl⟩ := List.mem_map.1 hxm
    exact h.2 s (List.mem_filter.1 hs).1
  rcases List.eq_nil_or_concat p with rfl | ⟨p', y, rfl⟩
  · simp at hx; omega
  · have hy : y < x := (List.pairwise_append.1 hp2).2.2 y (by simp) x (by simp)
    simp at hx
    omega
theorem mem_ofI (ss : List Se) (i : Nat) (s : Se) (h : ss[i]? = some s) : s.num ∈ ofI ss s.t := by
  unfold ofI
  exact List.mem_map.2 ⟨s, List.mem_filter.2 ⟨List.mem_of_getElem? h, by simp⟩, rfl⟩
theorem results_bool28 {tmps : Array Value} {w : World} {g : Nat} {b : Bool} (hp : tmps.getD 4 undef = .pointer (some ⟨g, 0, none⟩)) (hc : w.cell? ⟨g, 0, none⟩ = some (.bool b)) : (results Try.f28 tmps).run Try.prog w = .ok (.bool b) w := by
  have hp' : tmps[4]?.getD undef = .pointer (some ⟨g, 0, none⟩) := by simpa using hp
  have u4 := run_underlying (P := Try.prog) Try.underlying4
  simp [results, Try.results28, hp', asAddr, loadVar, isAgg, u4, go_sem, hc]
theorem both4 {Q' : Exit → Act → World → Prop} {a : Act} {W : World} (h : Q' .normal a W) : Exit.inBlock 4 Q' .normal a W ∧ Exit.inBlock 4 Q' (.exit 4) a W := ⟨h, h⟩

theorem list_lit (l : List Value) (n : Nat) (h : l.length = n) : l = (List.range n).map (fun k => l.getD k undef) := by
  apply List.ext_getElem
  · simp [h]
  · intro k h1 h2
    simp [List.getD_eq_getElem?_getD, List.getElem?_eq_getElem h1]
structure FrL (T Bx Br Bi : Nat) (t : Array Value) : Prop where
  sz : t.size = 102
  a0 : t.getD 0 undef = Value.pointer (some { block := T, off := 0 })
  a3 : t.getD 3 undef = Value.pointer (some { block := Bx, off := 0 })
  a4 : t.getD 4 undef = Value.pointer (some { block := Br, off := 0 })
  a5 : t.getD 5 undef = Value.pointer (some { block := Bi, off := 0 })
set_option maxRecDepth 10000 in
theorem FrL.lit {T Bx Br Bi : Nat} {t : Array Value} (h : FrL T Bx Br Bi t) : ∃ v : Nat → Value, t = #[Value.pointer (some { block := T, off := 0 }), v 1, v 2, Value.pointer (some { block := Bx, off := 0 }), Value.pointer (some { block := Br, off := 0 }), Value.pointer (some { block := Bi, off := 0 }), v 6, v 7, v 8, v 9, v 10, v 11, v 12, v 13, v 14, v 15, v 16, v 17, v 18, v 19, v 20, v 21, v 22, v 23, v 24, v 25, v 26, v 27, v 28, v 29, v 30, v 31, v 32, v 33, v 34, v 35, v 36, v 37, v 38, v 39, v 40, v 41, v 42, v 43, v 44, v 45, v 46, v 47, v 48, v 49, v 50, v 51, v 52, v 53, v 54, v 55, v 56, v 57, v 58, v 59, v 60, v 61, v 62, v 63, v 64, v 65, v 66, v 67, v 68, v 69, v 70, v 71, v 72, v 73, v 74, v 75, v 76, v 77, v 78, v 79, v 80, v 81, v 82, v 83, v 84, v 85, v 86, v 87, v 88, v 89, v 90, v 91, v 92, v 93, v 94, v 95, v 96, v 97, v 98, v 99, v 100, v 101] := by
  refine ⟨fun k => t.toList.getD k undef, ?_⟩
  have e := list_lit t.toList 102 (by have := h.sz; simpa using this)
  have g : ∀ k, t.toList.getD k undef = t.getD k undef := fun k => by simp [Array.getD_eq_getD_getElem?, List.getD_eq_getElem?_getD]
  have e' : t.toList = [(fun k => t.toList.getD k undef) 0, (fun k => t.toList.getD k undef) 1, (fun k => t.toList.getD k undef) 2, (fun k => t.toList.getD k undef) 3, (fun k => t.toList.getD k undef) 4, (fun k => t.toList.getD k undef) 5, (fun k => t.toList.getD k undef) 6, (fun k => t.toList.getD k undef) 7, (fun k => t.toList.getD k undef) 8, (fun k => t.toList.getD k undef) 9, (fun k => t.toList.getD k undef) 10, (fun k => t.toList.getD k undef) 11, (fun k => t.toList.getD k undef) 12, (fun k => t.toList.getD k undef) 13, (fun k => t.toList.getD k undef) 14, (fun k => t.toList.getD k undef) 15, (fun k => t.toList.getD k undef) 16, (fun k => t.toList.getD k undef) 17, (fun k => t.toList.getD k undef) 18, (fun k => t.toList.getD k undef) 19, (fun k => t.toList.getD k undef) 20, (fun k => t.toList.getD k undef) 21, (fun k => t.toList.getD k undef) 22, (fun k => t.toList.getD k undef) 23, (fun k => t.toList.getD k undef) 24, (fun k => t.toList.getD k undef) 25, (fun k => t.toList.getD k undef) 26, (fun k => t.toList.getD k undef) 27, (fun k => t.toList.getD k undef) 28, (fun k => t.toList.getD k undef) 29, (fun k => t.toList.getD k undef) 30, (fun k => t.toList.getD k undef) 31, (fun k => t.toList.getD k undef) 32, (fun k => t.toList.getD k undef) 33, (fun k => t.toList.getD k undef) 34, (fun k => t.toList.getD k undef) 35, (fun k => t.toList.getD k undef) 36, (fun k => t.toList.getD k undef) 37, (fun k => t.toList.getD k undef) 38, (fun k => t.toList.getD k undef) 39, (fun k => t.toList.getD k undef) 40, (fun k => t.toList.getD k undef) 41, (fun k => t.toList.getD k undef) 42, (fun k => t.toList.getD k undef) 43, (fun k => t.toList.getD k undef) 44, (fun k => t.toList.getD k undef) 45, (fun k => t.toList.getD k undef) 46, (fun k => t.toList.getD k undef) 47, (fun k => t.toList.getD k undef) 48, (fun k => t.toList.getD k undef) 49, (fun k => t.toList.getD k undef) 50, (fun k => t.toList.getD k undef) 51, (fun k => t.toList.getD k undef) 52, (fun k => t.toList.getD k undef) 53, (fun k => t.toList.getD k undef) 54, (fun k => t.toList.getD k undef) 55, (fun k => t.toList.getD k undef) 56, (fun k => t.toList.getD k undef) 57, (fun k => t.toList.getD k undef) 58, (fun k => t.toList.getD k undef) 59, (fun k => t.toList.getD k undef) 60, (fun k => t.toList.getD k undef) 61, (fun k => t.toList.getD k undef) 62, (fun k => t.toList.getD k undef) 63, (fun k => t.toList.getD k undef) 64, (fun k => t.toList.getD k undef) 65, (fun k => t.toList.getD k undef) 66, (fun k => t.toList.getD k undef) 67, (fun k => t.toList.getD k undef) 68, (fun k => t.toList.getD k undef) 69, (fun k => t.toList.getD k undef) 70, (fun k => t.toList.getD k undef) 71, (fun k => t.toList.getD k undef) 72, (fun k => t.toList.getD k undef) 73, (fun k => t.toList.getD k undef) 74, (fun k => t.toList.getD k undef) 75, (fun k => t.toList.getD k undef) 76, (fun k => t.toList.getD k undef) 77, (fun k => t.toList.getD k undef) 78, (fun k => t.toList.getD k undef) 79, (fun k => t.toList.getD k undef) 80, (fun k => t.toList.getD k undef) 81, (fun k => t.toList.getD k undef) 82, (fun k => t.toList.getD k undef) 83, (fun k => t.toList.getD k undef) 84, (fun k => t.toList.getD k undef) 85, (fun k => t.toList.getD k undef) 86, (fun k => t.toList.getD k undef) 87, (fun k => t.toList.getD k undef) 88, (fun k => t.toList.getD k undef) 89, (fun k => t.toList.getD k undef) 90, (fun k => t.toList.getD k undef) 91, (fun k => t.toList.getD k undef) 92, (fun k => t.toList.getD k undef) 93, (fun k => t.toList.getD k undef) 94, (fun k => t.toList.getD k undef) 95, (fun k => t.toList.getD k undef) 96, (fun k => t.toList.getD k undef) 97, (fun k => t.toList.getD k undef) 98, (fun k => t.toList.getD k undef) 99, (fun k => t.toList.getD k undef) 100, (fun k => t.toList.getD k undef) 101] := e
  have h0 := (g 0).trans h.a0
  have h3 := (g 3).trans h.a3
  have h4 := (g 4).trans h.a4
  have h5 := (g 5).trans h.a5
  generalize hv : (fun k => t.toList.getD k undef) = v at *
  have hv' : ∀ k, t.toList.getD k undef = v k := fun k => congrFun hv k
  apply Array.ext'
  rw [e']
  simp only [hv'] at h0 h3 h4 h5
  rw [h0, h3, h4, h5]
/-- As it lies at a round's beginning. -/
structure AtL (w : World) (T R i Bi : Nat) (Ds : List Nat) (a : Act) (wr : World) : Prop where
  fr : FrL T w.heap.size (w.heap.size + 1) Bi a.tmps
  df : a.defers = Ds.map mk
  nd : Ds.Nodup
  dd : ∀ D ∈ Ds, w.heap.size + 2 ≤ D ∧ wr.heap[D]? = some (.deferred (some []))
  bel : Below w.heap.size w wr
  bx : Boxed wr w.heap.size 36 (.pointer (some ⟨R, 0, none⟩))
  br : Boxed wr (w.heap.size + 1) 4 (.bool false)
  bi : Boxed wr Bi 3 (.int .i64 (i : Int))
  lo : w.heap.size + 2 ≤ Bi

set_option maxRecDepth 100000 in
set_option maxHeartbeats 8000000 in
theorem alike_any (T R base baseR : Nat) (last lastR : Int) (sv svR : Value) (ss : List Se) (w : World) (h : Tb w T base last sv ss) (hr : RTb w R baseR lastR svR ss) (hl : ss.length ≤ 64) (hris : Rise ss) :
    Calls Try.prog 28 #[.pointer (some ⟨T, 0, none⟩), .pointer (some ⟨R, 0, none⟩)] w fun e w' => e = .returned (.bool true) ∧ Below w.heap.size w w' := by
  obtain ⟨n, hn⟩ : ∃ n, ss.length = n := ⟨_, rfl⟩
  obtain ⟨ra, rc, e⟩ := own_slice hr.row
  subst e
  have HT : Hid (Tb w T base last sv ss) := h
  have HR : Hid (RTb w R baseR lastR (.slice ra ss.length rc) ss) := hr
  have HN : Hid (ss.length = n) := hn
  have HRI : Hid (Rise ss) := hris
  obtain ⟨W0, hW0⟩ : ∃ W0, (w.alloc (.cells #[.pointer (some ⟨R, 0, none⟩)] 36)).alloc (.cells #[.bool false] 4) = W0 := ⟨_, rfl⟩
  have hB0 : Below w.heap.size w W0 := by rw [← hW0]; exact ((Below.refl _ w).alloc (Nat.le_refl _) _).alloc (by simp) _
  have hr0 : RTb W0 R baseR lastR (.slice ra ss.length rc) ss := hr.later hB0 (Nat.le_refl _)
  have c0 : W0.drew.cell? ⟨R, 0, none⟩ = some (.slice ra n rc) := by
    have h : W0.cell? ⟨R, 0, none⟩ = some (.slice ra ss.length rc) := by rw [cell_of_row _ _ _ _ _ _ hr0.tab]; rfl
    rw [← hn]; exact h
  have bX : Boxed W0 w.heap.size 36 (.pointer (some ⟨R, 0, none⟩)) := by rw [← hW0]; exact (Boxed.new _ _ _).alloc _
  have bB : Boxed W0 (w.heap.size + 1) 4 (.bool false) := by
    rw [← hW0]
    have h := Boxed.new (w.alloc (.cells #[.pointer (some ⟨R, 0, none⟩)] 36)) 4 (.bool false)
    rwa [World.size_alloc] at h
  have hs0 : W0.heap.size = w.heap.size + 2 := by rw [← hW0]; simp
  have cX : W0.drew.cell? ⟨w.heap.size, 0, none⟩ = some (.pointer (some ⟨R, 0, none⟩)) := bX.cell
  have HL0 : Hid (Calls Try.prog 29 #[.pointer (some ⟨T, 0, none⟩)] W0.drew fun e w' => e = .returned (.int .i64 (n : Int)) ∧ w' = W0.drew) := by
    rw [← hn]
    exact len_any T base last sv ss _ ((h.later hB0 (Nat.le_refl _)).drew)
  have HW0 : Hid ((w.alloc (.cells #[.pointer (some ⟨R, 0, none⟩)] 36)).alloc (.cells #[.bool false] 4) = W0) := hW0
  have H0 : Hid (Below w.heap.size w W0 ∧ Boxed W0 w.heap.size 36 (.pointer (some ⟨R, 0, none⟩)) ∧ Boxed W0 (w.heap.size + 1) 4 (.bool false) ∧ W0.heap.size = w.heap.size + 2) := ⟨hB0, bX, bB, hs0⟩
  have h64 : (n : Int) ≤ 64 := by omega
  clear h hr hl hn hW0 hB0 hr0 bX bB hs0 hris
  refine (callsIn_wide (n := 5)).1 ?_
  refine callsIn_of_wp_marks Try.func28 rfl trivial ?_ rfl
  refine wpIn_wide.2 ?_
  simp only [Try.ntmps28, List.size_toArray, List.length_cons, List.length_nil, Nat.reduceAdd, Nat.reduceSub, Array.replicate_succ, Array.replicate_zero, List.push_toArray, List.append_toArray, List.nil_append, List.cons_append]
  go_upto_region 1 with fail
  rw [HW0.out]
  refine wp_region_still_lit (by kernel_rfl) (by kernel_rfl) (still_of_quiet _ _ ?_)
  rw [show ({ W0 with drawn := W0.drawn + 1 } : World) = W0.drew from rfl]
  repeat (first | go_big_quiet_skip | (go_big_quiet_want; go_big_quiet_op; go_big_quiet_on))
  (go_big_quiet_want; go_big_quiet_op; refine ⟨_, HL0.out, ?_⟩; go_big_quiet_on)
  repeat (first | go_big_quiet_skip | (go_big_quiet_want; go_big_quiet_op; go_big_quiet_on))
  refine wpQuiet_nil ?_
  obtain ⟨W1, hW1⟩ : ∃ W1, W0.drew = W1 := ⟨_, rfl⟩
  have H1 : Hid (Below w.heap.size w W1 ∧ Boxed W1 w.heap.size 36 (.pointer (some ⟨R, 0, none⟩)) ∧ Boxed W1 (w.heap.size + 1) 4 (.bool false) ∧ W1.heap.size = w.heap.size + 2) := by rw [← hW1]; exact ⟨H0.out.1.drew, H0.out.2.1, H0.out.2.2.1, H0.out.2.2.2⟩
  rw [hW1]
  clear H0 HL0 HW0 c0 cX hW1
  go_wp2_with fail
  refine wp_loop_ghost_k (fun m a wr => ∃ i Bi Ds, m = n - i ∧ i ≤ n ∧ AtL w T R i Bi Ds a wr) n ?start ?round
  case start =>
    refine ⟨0, W1.heap.size, [], by omega, by omega, ⟨⟨rfl, rfl, rfl, rfl, rfl⟩, rfl, List.nodup_nil, by simp, ?_, ?_, ?_, ?_, ?_⟩⟩
    · exact H1.out.1.alloc H1.out.1.size _
    · exact H1.out.2.1.alloc _
    · exact H1.out.2.2.1.alloc _
    · exact Boxed.new _ _ _
    · have := H1.out.2.2.2; omega
  case round =>
    rintro m a wr ⟨i, Bi, Ds, hm, hi, hA⟩ J K hJ hK
    have HJ : Hid (∀ k a' w', (∃ i Bi Ds, k = n - i ∧ i ≤ n ∧ AtL w T R i Bi Ds a' w') → J k a' w') := hJ
    have HK : Hid (∀ a' w', Handed J m a' w' → K a' w') := hK
    clear hJ hK
    have HA : Hid (AtL w T R i Bi Ds a wr) := hA
    obtain ⟨a1, a2⟩ := a
    obtain ⟨v, hfr⟩ := hA.fr.lit
    have hdf := hA.df
    dsimp only at hfr hdf
    subst hfr
    subst hdf
    have HM : Hid (m = n - i) := hm
    have hxR : RTb wr R baseR lastR (.slice ra ss.length rc) ss := HR.out.later hA.bel (Nat.le_refl _)
    have cR : wr.cell? ⟨R, 0, none⟩ = some (.slice ra n rc) := by rw [cell_of_row _ _ _ _ _ _ hxR.tab, ← HN.out]; rfl
    have e1 : wr.drew.cell? ⟨w.heap.size, 0, none⟩ = some (.pointer (some ⟨R, 0, none⟩)) := hA.bx.cell
    have e2 : wr.drew.cell? ⟨Bi, 0, none⟩ = some (.int .i64 (i : Int)) := hA.bi.cell
    have e3 : wr.drew.cell? ⟨R, 0, none⟩ = some (.slice ra n rc) := cR
    clear hA hm cR
    by_cases hlt : i < n
    · have hlt' : (i : Int) < (n : Int) := by omega
      obtain ⟨s, hs⟩ : ∃ s, ss[i]? = some s := ⟨_, List.getElem?_eq_getElem (by have := HN.out; omega)⟩
      have HS : Hid (ss[i]? = some s) := hs
      obtain ⟨g, cp, hv⟩ := own_form hxR.row (by have := HN.out; omega)
      have hra : ra = some ⟨g, 0, none⟩ := (Value.slice.inj hv).1
      subst hra
      have hrc : (n : Int) ≤ (rc : Int) := by have := own_cap hxR.row; have := HN.out; omega
      obtain ⟨W1, hW1⟩ : ∃ W1, wr.drew.drew = W1 := ⟨_, rfl⟩
      have HA1 : Hid (Below w.heap.size w W1 ∧ Boxed W1 w.heap.size 36 (.pointer (some ⟨R, 0, none⟩)) ∧ Boxed W1 (w.heap.size + 1) 4 (.bool false) ∧ Boxed W1 Bi 3 (.int .i64 (i : Int)) ∧ RTb W1 R baseR lastR (.slice (some ⟨g, 0, none⟩) ss.length rc) ss ∧ W1.heap = wr.heap) := by
        rw [← hW1]; exact ⟨HA.out.bel.drew.drew, HA.out.bx, HA.out.br, HA.out.bi, hxR.drew.drew, rfl⟩
      have HOF := of_any T base last sv ss s.t W1 (by rw [← hW1]; exact ((HT.out.later HA.out.bel (Nat.le_refl _)).drew).drew) (by have := HN.out; omega)
      have HOF' : Hid _ := HOF
      have x1 : W1.cell? ⟨w.heap.size, 0, none⟩ = some (.pointer (some ⟨R, 0, none⟩)) := HA1.out.2.1.cell
      have x2 : W1.cell? ⟨Bi, 0, none⟩ = some (.int .i64 (i : Int)) := HA1.out.2.2.2.1.cell
      have x3 : W1.cell? ⟨R, 0, none⟩ = some (.slice (some ⟨g, 0, none⟩) n rc) := by rw [cell_of_row _ _ _ _ _ _ HA1.out.2.2.2.2.1.tab, ← HN.out]; rfl
      have x4 : W1.cell? ⟨g, i * 5 + 1, none⟩ = some (.string (tx s.t)) := (rown_sc HA1.out.2.2.2.2.1.row hs).c1
      have i0 : (0 : Int) ≤ (i : Int) := by omega
      have hfq : ∀ b w, (binOp .eql 54 (.func (.func 51) #[] #[.pointer (some ⟨b, 0, none⟩)]) .nilFunc).run Try.prog w = .ok (.bool false) w := fun b w => by kernel_rfl
      clear hv hs hxR HOF
      go_upto_region 4 with fail
      refine wp_region_still_lit (by kernel_rfl) (by kernel_rfl) (still_of_quiet _ _ ?_)
      rw [show ({ wr with drawn := wr.drawn + 1 } : World) = wr.drew from rfl]
      repeat (first | go_big_quiet_skip | (go_big_quiet_want; go_big_quiet_op; go_big_quiet_on))
      refine wpQuiet_nil ?_
      go_upto_region 6 with fail
      refine wp_region_still_tail 10 (by kernel_rfl) (by kernel_rfl) (still_of_quiet _ _ ?_)
      simp only [List.take_succ_cons, List.take_zero, List.drop_succ_cons, List.drop_zero]
      rw [show ({ wr.drew with drawn := wr.drew.drawn + 1 } : World) = wr.drew.drew from rfl, hW1]
      clear hW1 e1 e2 e3
      repeat (first | go_big_quiet_skip | (go_big_quiet_want; go_big_quiet_op; go_big_quiet_on))
      refine wpQuiet_nil ?_
      go_wp2_with fail
      refine Calls.mono HOF'.out ?_
      rintro e W2 ⟨B, pv, rfl, k1, k2, k3, k4, k5⟩
      have HO : Hid (Boxed W2 B 78 pv ∧ W2.ownsRow W1.heap.size 2 1 pv (ofI ss s.t).length (i64l (ofI ss s.t)) ∧ Below W1.heap.size W1 W2 ∧ W1.heap.size ≤ B ∧ W2.heap.size = B + 1) := ⟨k1, k2, k3, k4, k5⟩
      clear k1 k2 k3 k4 k5
      go_wp2_with fail
      rw [show W2.heap.size + 1 + 1 = W2.heap.size + 2 from rfl]
      obtain ⟨V0, hV0⟩ : ∃ V0, ((W2.alloc (.cells #[.bool false] 4)).alloc (.cells #[.int .i64 0] 2)).alloc (.cells #[.int .i64 0] 3) = V0 := ⟨_, rfl⟩
      have HV : Hid (V0.heap.size = W2.heap.size + 3 ∧ Below W2.heap.size W2 V0 ∧ Boxed V0 W2.heap.size 4 (.bool false) ∧ Boxed V0 (W2.heap.size + 1) 2 (.int .i64 0) ∧ Boxed V0 (W2.heap.size + 2) 3 (.int .i64 0)) := by
        show _ ∧ _
        rw [← hV0]
        refine ⟨by simp, ((bel1 _ _).alloc (by simp) _).alloc (by simp; omega) _, ((Boxed.new _ _ _).alloc _).alloc _, ?_, ?_⟩
        · have h := Boxed.new (W2.alloc (.cells #[.bool false] 4)) 2 (.int .i64 0)
          rw [World.size_alloc] at h
          exact h.alloc _
        · have h := Boxed.new ((W2.alloc (.cells #[.bool false] 4)).alloc (.cells #[.int .i64 0] 2)) 3 (.int .i64 0)
          rw [World.size_alloc, World.size_alloc] at h
          exact h
      rw [hV0]
      have HOV : Hid (Boxed V0 B 78 pv ∧ V0.ownsRow W1.heap.size 2 1 pv (ofI ss s.t).length (i64l (ofI ss s.t)) ∧ B < W2.heap.size ∧ ∀ q, pv.ownBlock = some q → q < W2.heap.size) := by
        refine ⟨(HV.out.2.1.block _ HO.out.1.lt).trans HO.out.1, own_at HO.out.2.1 fun q hq => HV.out.2.1.block q (HO.out.2.1.lt q hq).2, by have := HO.out.2.2.2.2; omega, fun q hq => (HO.out.2.1.lt q hq).2⟩
      have HP : Hid (∀ W, Below W2.heap.size V0 W → Below W1.heap.size W1 W) := fun W hW => HO.out.2.2.1.trans ((HV.out.2.1.trans hW).mono HO.out.2.2.1.size)
      have HPX : Hid (∀ W, Below W2.heap.size V0 W → Boxed W w.heap.size 36 (.pointer (some ⟨R, 0, none⟩))) := fun W hW => ((HP.out W hW).block _ HA1.out.2.1.lt).trans HA1.out.2.1
      have HPR : Hid (∀ W, Below W2.heap.size V0 W → Boxed W (w.heap.size + 1) 4 (.bool false)) := fun W hW => ((HP.out W hW).block _ HA1.out.2.2.1.lt).trans HA1.out.2.2.1
      have HPI : Hid (∀ W, Below W2.heap.size V0 W → Boxed W Bi 3 (.int .i64 (i : Int))) := fun W hW => ((HP.out W hW).block _ HA1.out.2.2.2.1.lt).trans HA1.out.2.2.2.1
      have HPT : Hid (∀ W, Below W2.heap.size V0 W → RTb W R baseR lastR (.slice (some ⟨g, 0, none⟩) ss.length rc) ss) := fun W hW => HA1.out.2.2.2.2.1.later (HP.out W hW) (Nat.le_refl _)
      have HPC : Hid (∀ W, Below W2.heap.size V0 W → W.cell? ⟨R, 0, none⟩ = some (.slice (some ⟨g, 0, none⟩) n rc)) := fun W hW => by rw [cell_of_row _ _ _ _ _ _ (HPT.out W hW).tab, ← HN.out]; rfl
      have hds : ((ofI ss s.t).length : Int) ≤ 64 := by have := ofI_len ss s.t; have := HN.out; omega
      clear hV0 x1 x2 x3 x4
      refine (wpIn_wide (n := 5)).1 ?_
      refine rng1 R w.heap.size (w.heap.size + 1) Bi W2.heap.size B g n rc W1.heap.size i s.num pv (ofI ss s.t) V0 _ HV.out.1 hds hlt' h64 hrc (fun W hW => (HPX.out W hW).cell) (fun W hW => (HPI.out W hW).cell) HPC.out (fun W hW => (rown_sc (HPT.out W hW).row HS.out).c0) HPR.out HV.out.2.2.1 HV.out.2.2.2.1 HV.out.2.2.2.2 HOV.out.2.2.1 HOV.out.1 HOV.out.2.1 HOV.out.2.2.2 (not_bad ss s.t HRI.out) ?_
      rintro D1 W3 hD1 jH jN hB3 hK1
      rw [decide_eq_true (mem_ofI ss i s HS.out)] at jH
      have H3 : Hid (V0.heap.size ≤ D1 ∧ Boxed W3 W2.heap.size 4 (.bool true) ∧ Boxed W3 (W2.heap.size + 2) 3 (.int .i64 ((ofI ss s.t).length : Int)) ∧ Below W2.heap.size V0 W3 ∧ W3.heap[D1]? = some (.deferred (some []))) := ⟨hD1, jH, jN, hB3, hK1⟩
      have HO3 : Hid (Boxed W3 B 78 pv ∧ W3.ownsRow W1.heap.size 2 1 pv (ofI ss s.t).length (i64l (ofI ss s.t)) ∧ ∀ q, pv.ownBlock = some q → q < W3.heap.size) := by
        have hs1 := HV.out.1
        have hs2 := hB3.size
        exact ⟨(hB3.block _ HOV.out.2.2.1).trans HOV.out.1, own_at HOV.out.2.1 fun q hq => hB3.block q (HOV.out.2.2.2 q hq), fun q hq => by have := HOV.out.2.2.2 q hq; omega⟩
      clear hD1 jH jN hB3 hK1
      go_wp2_with fail
      refine (wpIn_wide (n := 5)).1 ?_
      refine rng2 B W1.heap.size pv (ofI ss s.t) W3 _ hds HO3.out.1 HO3.out.2.1 HO3.out.2.2 ?_
      rintro D2 W4 hD2 hB4 hK2
      have H4 : Hid (W3.heap.size ≤ D2 ∧ Below W3.heap.size W3 W4 ∧ W4.heap[D2]? = some (.deferred (some []))) := ⟨hD2, hB4, hK2⟩
      have H4B : Hid (Below W2.heap.size V0 W4) := H3.out.2.2.2.1.trans (hB4.mono (by have h1 := HV.out.1; have h2 := H3.out.2.2.2.1.size; omega))
      clear hD2 hB4 hK2
      refine both4 ?_
      go_wp2_with fail
      have hs4 : W2.heap.size + 3 ≤ W4.heap.size := by have h1 := HV.out.1; have h2 := H4B.out.size; omega
      refine inl R w.heap.size Bi W2.heap.size g n rc i ss s W4 _ hs4 HN.out h64 hlt' hrc HS.out (fun W hW => (HPX.out W (H4B.out.trans hW)).cell) (fun W hW => (HPI.out W (H4B.out.trans hW)).cell) (fun W hW => HPC.out W (H4B.out.trans hW)) (fun W hW k z hz => (rown_sc (HPT.out W (H4B.out.trans hW)).row hz).c1) ((H4.out.2.1.block _ H3.out.2.2.1.lt).trans H3.out.2.2.1) ?_
      rintro v11 v65 v66 v67 v68 v69 v70 v71 v72 v73 v74 v75 v76 v77 v78 v79 v80 v81 v82 v83 v84 v85 v86 v87 v88 v89 v90 v91 v92 v93 v94 W5 hB5 bN5 hr5
      have H5 : Hid (Below W2.heap.size V0 W5 ∧ ∀ q, q < W4.heap.size → q ≠ W2.heap.size + 2 → W5.heap[q]? = W4.heap[q]?) := ⟨H4B.out.trans hB5, hr5⟩
      have y1 : W5.cell? ⟨W2.heap.size + 2, 0, none⟩ = some (.int .i64 0) := bN5.cell
      have y2 : W5.cell? ⟨W2.heap.size, 0, none⟩ = some (.bool true) := Boxed.cell (t := 4) ((hr5 _ (by omega) (by omega)).trans ((H4.out.2.1.block _ H3.out.2.1.lt).trans H3.out.2.1))
      have y3 : W5.cell? ⟨Bi, 0, none⟩ = some (.int .i64 (i : Int)) := (HPI.out W5 H5.out.1).cell
      clear hB5 bN5 hr5
      go_wp2_with fail
      have q1 := HV.out.1
      have q2 := H3.out.2.2.2.1.size
      have q3 := H4.out.2.1.size
      have q4 := (Array.getElem?_eq_some_iff.1 H3.out.2.2.2.2).1
      have q5 := (Array.getElem?_eq_some_iff.1 H4.out.2.2).1
      have q6 := H3.out.1
      have q7 := H4.out.1
      have q8 := HO.out.2.2.1.size
      have hW15 := HP.out W5 H5.out.1
      have q9 := hW15.size
      have hwr : W1.heap.size = wr.heap.size := by rw [HA1.out.2.2.2.2.2]
      have qw := HA.out.bel.size
      have qx := HA.out.br.lt
      have hdl : ∀ D ∈ Ds, D < W1.heap.size := fun D hD => by have := (Array.getElem?_eq_some_iff.1 (HA.out.dd D hD).2).1; omega
      refine HK.out _ _ (Handed.intro (n - (i + 1)) (by have := HM.out; omega) (HJ.out _ _ _ ⟨i + 1, W5.heap.size, D2 :: D1 :: Ds, rfl, by omega, ⟨⟨rfl, rfl, rfl, rfl, rfl⟩, rfl, ?_, ?_, ?_, ?_, ?_, ?_, ?_⟩⟩))
      · refine List.nodup_cons.2 ⟨?_, List.nodup_cons.2 ⟨?_, HA.out.nd⟩⟩
        · simp only [List.mem_cons, not_or]
          exact ⟨by omega, fun hD => by have := hdl _ hD; omega⟩
        · exact fun hD => by have := hdl _ hD; omega
      · intro D hD
        have hlater : ∀ q, q < W5.heap.size → (W5.alloc (.cells #[.int .i64 ((i : Int) + 1)] 3)).heap[q]? = W5.heap[q]? := fun q hq => Below.heap_alloc _ _ _ hq
        have h5 := H5.out.1.size
        rcases List.mem_cons.1 hD with rfl | hD
        · have e := (H5.out.2 D (by omega) (by omega)).trans H4.out.2.2
          exact ⟨by omega, (hlater _ (Array.getElem?_eq_some_iff.1 e).1).trans e⟩
        · rcases List.mem_cons.1 hD with rfl | hD
          · have e := (H5.out.2 D (by omega) (by omega)).trans ((H4.out.2.1.block _ q4).trans H3.out.2.2.2.2)
            exact ⟨by omega, (hlater _ (Array.getElem?_eq_some_iff.1 e).1).trans e⟩
          · have hd := HA.out.dd D hD
            have e : W5.heap[D]? = some (.deferred (some [])) := (hW15.block D (hdl D hD)).trans (by rw [HA1.out.2.2.2.2.2]; exact hd.2)
            exact ⟨hd.1, (hlater _ (Array.getElem?_eq_some_iff.1 e).1).trans e⟩
      · exact (HA1.out.1.trans (hW15.mono HA1.out.1.size)).alloc (by omega) _
      · exact (HPX.out W5 H5.out.1).alloc _
      · exact (HPR.out W5 H5.out.1).alloc _
      · have h := Boxed.new W5 3 (.int .i64 ((i : Int) + 1))
        exact h
      · omega
    · have hge : ¬ ((i : Int) < (n : Int)) := by omega
      go_upto_region 4 with fail
      refine wp_region_still_lit (by kernel_rfl) (by kernel_rfl) (still_of_quiet _ _ ?_)
      rw [show ({ wr with drawn := wr.drawn + 1 } : World) = wr.drew from rfl]
      repeat (first | go_big_quiet_skip | (go_big_quiet_want; go_big_quiet_op; go_big_quiet_on))
      refine wpQuiet_nil ?_
      have b4 : Boxed wr.drew (w.heap.size + 1) 4 (.bool false) := HA.out.br
      have c4 := b4.cell
      have f4 := b4.frozen
      have HB4 : Hid (Boxed wr.drew (w.heap.size + 1) 4 (.bool false)) := b4
      clear b4
      go_wp2_with fail
      have bY := HB4.out.set (.bool true)
      have hbY : Below w.heap.size w (wr.setCell ⟨w.heap.size + 1, 0, none⟩ (.bool true)).drew := (HA.out.bel.setCell (p := ⟨w.heap.size + 1, 0, none⟩) (by show w.heap.size ≤ w.heap.size + 1; omega) _).drew
      refine leave_marks Ds _ HA.out.nd (fun D hD => ?_) (fun w' g1 g2 g3 g4 g5 => ?_)
      · have h := HA.out.dd D hD
        exact (Below.heap_setCell _ _ _ _ (by show D ≠ w.heap.size + 1; omega)).trans h.2
      · have b5 : Boxed w' (w.heap.size + 1) 4 (.bool true) := (g5 _ (fun hD => by have := (HA.out.dd _ hD).1; omega)).trans bY
        refine ⟨_, results_bool28 rfl b5.cell, rfl, hbY.trans ⟨g1, g2, g3, by omega, fun q hq => g5 q (fun hD => by have := (HA.out.dd _ hD).1; omega)⟩⟩
end Go.Proofs.Ytnghgclogeefgaa
