/- A key's value. -/
import Derived.Test.YtgmpmpgfpchbcaaGreatDoorO3
namespace Go.Proofs.YtgmpmpgfpchbcaaGreatDoor
open Go.RowKit Go.Shelf
set_option linter.unusedVariables false
set_option linter.unusedSimpArgs false
attribute [local go_sem] Oper.semAt_some

theorem results_get {tmps : Array Value} {w : World} {g h : Nat} {s : ByteArray} {b : Bool} (hp : tmps.getD 4 undef = .pointer (some ⟨g, 0, none⟩)) (hq : tmps.getD 5 undef = .pointer (some ⟨h, 0, none⟩)) (hc : w.cell? ⟨g, 0, none⟩ = some (.string s)) (hd : w.cell? ⟨h, 0, none⟩ = some (.bool b)) :
    (results Tryz.f8 tmps).run Tryz.prog w = .ok (.tuple #[.string s, .bool b]) w := by
  have hp' : tmps[4]?.getD undef = .pointer (some ⟨g, 0, none⟩) := by simpa using hp
  have hq' : tmps[5]?.getD undef = .pointer (some ⟨h, 0, none⟩) := by simpa using hq
  have l1 : (loadVar 9 ⟨g, 0, none⟩).run Tryz.prog w = .ok (.string s) w := by simp [loadVar, go_sem, Tryz.isAgg9, hc]
  have l2 : (loadVar 4 ⟨h, 0, none⟩).run Tryz.prog w = .ok (.bool b) w := by simp [loadVar, go_sem, Tryz.isAgg4, hd]
  simp [results, Tryz.results8, hp', hq', asAddr, l1, l2]
theorem leave_one {F : Fence} {n : Nat} {fn : Func} {tmps : Array Value} {R : Ending → World → Prop} {D : Nat} {w : World} (hK : w.heap[D]? = some (.deferred (some []))) (h : LeavesIn F n Tryz.prog fn tmps R [] .returning (w.putObj D (.deferred none))) :
    LeavesInM F n Tryz.prog fn tmps R [{ target := .collected D, args := #[] }] .returning w := ⟨by simp, .inl ⟨_, _, rfl, run_takeDeferred hK, h⟩⟩
/-- What was found, behind what was passed. -/
def Fd (key : List UInt8) (pre : List At) (v : List UInt8) : Prop := ∃ p x, pre = p ++ [x] ∧ x.1 = key ∧ x.2 = v ∧ ∀ y ∈ p, y.1 ≠ key
theorem fd_get (key : List UInt8) (ds : List At) (m : Nat) (v : List UInt8) (h : Fd key (ds.take m) v) : getI ds key = some v := by
  obtain ⟨p, x, hp, hx, hv, hn⟩ := h
  have hpl : ds[p.length]? = some x := by
    have h1 : (ds.take m)[p.length]? = some x := by rw [hp]; simp
    rw [List.getElem?_take] at h1
    split at h1
    · exact h1
    · cases h1
  rw [← hv]
  refine get_at p.length ds key x hpl (fun j y hj hy => ?_) hx
  have h2 : (ds.take m)[j]? = some y := by
    have hjm : j < m := by
      have : p.length < m := by
        have h3 : p.length < (ds.take m).length := by rw [hp]; simp
        rw [List.length_take] at h3
        omega
      omega
    rw [List.getElem?_take, if_pos hjm]
    exact hy
  rw [hp, List.getElem?_append_left hj] at h2
  exact hn y (List.mem_of_getElem? h2)
set_option maxRecDepth 100000 in
set_option maxHeartbeats 8000000 in
theorem get_any (sa : Option Addr) (ca : Nat) (ds : List At) (key : List UInt8) (w : World) (hl : Lie w sa ds) (hcap : ds.length ≤ ca) (hsm : (ds.length : Int) ≤ 140737488351232) :
    Calls Tryz.prog 8 #[.slice sa ds.length ca, .string (tx key)] w fun e w' => e = .returned (getV (getI ds key)) ∧ Below w.heap.size w w' := by
  refine (callsIn_wide (n := 5)).1 ?_
  refine callsIn_of_wp_marks Tryz.func8 rfl trivial ?_ rfl
  simp only [Tryz.ntmps8, List.size_toArray, List.length_cons, List.length_nil, Nat.reduceAdd, Nat.reduceSub, Array.replicate_succ, Array.replicate_zero, List.push_toArray, List.append_toArray, List.nil_append, List.cons_append]
  have HPR : Hid (∀ W, Calls Tryz.prog 20 #[.slice sa ds.length ca] W fun e w' => e = .returned (.func (.func 39) #[] #[.pointer (some ⟨W.heap.size, 0, none⟩)]) ∧ w' = W.alloc (.cells #[.slice sa ds.length ca] 22)) := fun W => pairs_any sa ds.length ca W
  gi_wp2_with (refine ⟨trivial, ?_⟩; gi_at_call 20; refine (callsIn_wide.2 (HPR.out _)).mono ?_; rintro e w' ⟨rfl, rfl⟩)
  obtain ⟨X, hX⟩ : ∃ X, w.heap.size = X := ⟨_, rfl⟩
  obtain ⟨W0, hW0⟩ : ∃ W0, (((w.alloc (.cells #[.string (tx key)] 9)).alloc (.cells #[.string ⟨#[]⟩] 9)).alloc (.cells #[.bool false] 4)).alloc (.cells #[.slice sa ds.length ca] 22) = W0 := ⟨_, rfl⟩
  have q0 : Boxed W0 w.heap.size 9 (.string (tx key)) := by
    rw [← hW0]
    exact (Below.heap_alloc _ _ _ (by simp <;> omega)).trans ((Below.heap_alloc _ _ _ (by simp <;> omega)).trans ((Below.heap_alloc _ _ _ (by simp)).trans (Go.heap_alloc_new _ _)))
  have q1 : Boxed W0 (w.heap.size + 1) 9 (.string ⟨#[]⟩) := by
    rw [← hW0]
    have h := Go.heap_alloc_new (w.alloc (.cells #[.string (tx key)] 9)) (.cells #[.string ⟨#[]⟩] 9)
    simp only [World.size_alloc] at h
    exact (Below.heap_alloc _ _ _ (by simp <;> omega)).trans ((Below.heap_alloc _ _ _ (by simp)).trans h)
  have q2 : Boxed W0 (w.heap.size + 2) 4 (.bool false) := by
    rw [← hW0]
    have h := Go.heap_alloc_new ((w.alloc (.cells #[.string (tx key)] 9)).alloc (.cells #[.string ⟨#[]⟩] 9)) (.cells #[.bool false] 4)
    simp only [World.size_alloc] at h
    exact (Below.heap_alloc _ _ _ (by simp)).trans h
  have q3 : W0.cell? ⟨w.heap.size + 3, 0, none⟩ = some (.slice sa ds.length ca) := by
    rw [← hW0]
    have h := (Boxed.new (((w.alloc (.cells #[.string (tx key)] 9)).alloc (.cells #[.string ⟨#[]⟩] 9)).alloc (.cells #[.bool false] 4)) 22 (.slice sa ds.length ca)).cell
    simp only [World.size_alloc] at h
    exact h
  have hB0 : Below w.heap.size w W0 := by
    rw [← hW0]
    exact ((((Below.refl _ w).alloc (Nat.le_refl _) _).alloc (by simp) _).alloc (by simp <;> omega) _).alloc (by simp <;> omega) _
  have hsz : W0.heap.size = w.heap.size + 4 := by rw [← hW0]; simp
  show Code.wpIn _ _ _ _ _ _ ((((w.alloc (.cells #[.string (tx key)] 9)).alloc (.cells #[.string ⟨#[]⟩] 9)).alloc (.cells #[.bool false] 4)).alloc (.cells #[.slice sa ds.length ca] 22))
  rw [hW0]
  clear hW0 HPR
  have hgd : ∀ b off, sa = some ⟨b, off, none⟩ → ds ≠ [] → b < w.heap.size := fun b off e hne => by
    obtain ⟨z, hz⟩ := (nil_or ds).resolve_left hne
    obtain ⟨b', o', e1, e2, _⟩ := hl 0 z hz
    rw [e] at e1
    cases e1
    exact World.block_lt_of_cell? w _ e2
  have hl0 : Lie W0 sa ds := fun i x hx => by
    obtain ⟨b, off, h1, h2, h3⟩ := hl i x hx
    have hb : b < w.heap.size := World.block_lt_of_cell? w _ h2
    exact ⟨b, off, h1, (hB0.cell (p := ⟨b, off + i * 2, none⟩) hb).trans h2, (hB0.cell (p := ⟨b, off + i * 2 + 1, none⟩) hb).trans h3⟩
  clear hX X
  refine wpIn_rangeFunc_ownH rfl (by omega) (gf := 39) (lb := #[.pointer (some ⟨w.heap.size + 3, 0, none⟩)]) rfl trivial (enters_of Tryz.func39 (by kernel_rfl) rfl)
    (prs_seq _ (w.heap.size + 3) w.heap.size ca sa ds W0 hsm (by omega) (by omega) q3 hcap hl0 hgd) belowK_t (belowK_b (by omega)) (Below.refl _ _) (fun _ => rfl)
    (fun pre W => (((Boxed W w.heap.size 9 (.string (tx key)) ∧ Boxed W (w.heap.size + 1) 9 (.string ⟨#[]⟩)) ∧ Boxed W (w.heap.size + 2) 4 (.bool false)) ∧ Below w.heap.size w W) ∧ ∀ y ∈ pre, y.1 ≠ key)
    (fun c pre W => ∃ v, ((c = .ret ∧ Fd key pre v) ∧ Boxed W (w.heap.size + 1) 9 (.string (tx v)) ∧ Boxed W (w.heap.size + 2) 4 (.bool true)) ∧ Below w.heap.size w W)
    (OwnFrom.and (OwnFrom.and (OwnFrom.and (OwnFrom.and (Own.from (boxed_own _ 9 (fun _ : List At => .string (tx key))) _) (Own.from (boxed_own _ 9 (fun _ : List At => .string ⟨#[]⟩)) _)) (Own.from (boxed_own _ 4 (fun _ : List At => .bool false)) _)) (ownFrom_below (Nat.le_refl _) (by omega))) (ownFrom_pure _ (fun pre : List At => ∀ y ∈ pre, y.1 ≠ key)))
    (fun c pre X Y row hs hg hr => by
      obtain ⟨v, ⟨h1, h2, h3⟩, h4⟩ := hs
      exact ⟨v, ⟨h1, boxed_own _ 9 (fun _ : Unit => .string (tx v)) () X Y row h2 hg (fun r e => (hr r e).2), boxed_own _ 4 (fun _ : Unit => .bool true) () X Y row h3 hg (fun r e => (hr r e).2)⟩, ownFrom_below (β := Unit) (Nat.le_refl _) (by omega : w.heap.size ≤ W0.heap.size) () X Y row h4 hg hr⟩)
    ⟨⟨⟨⟨q0, q1⟩, q2⟩, hB0⟩, fun y hy => by simp at hy⟩
    (fun x a' W => a' = { tmps := #[.slice sa ds.length ca, .string (tx key), undef, .pointer (some ⟨w.heap.size, 0, none⟩), .pointer (some ⟨w.heap.size + 1, 0, none⟩), .pointer (some ⟨w.heap.size + 2, 0, none⟩), .string (tx x.1), .string (tx x.2), .slice sa ds.length ca, .func (.func 39) #[] #[.pointer (some ⟨w.heap.size + 3, 0, none⟩)], .string (tx x.1), .string (tx x.2), undef, undef, undef, undef], defers := [] })
    (fun x a' _ X Y row hs hg hr => hs)
    ?assign ?body ?done ?stop
  case assign =>
    rintro l pre x W K hI hK
    have HK := hK
    clear hK q3 hgd hl0 hl
    gi_wp2_with fail
    exact HK _ _ (KeepsFrom.refl _ _) (Below.refl _ _) hI rfl
  case body =>
    rintro l pre x a' W hl' ⟨r, hr⟩ ⟨⟨⟨⟨b0, b1⟩, b2⟩, hB1⟩, hn⟩ rfl hlt
    have HI : Hid (((Boxed W w.heap.size 9 (.string (tx key)) ∧ Boxed W (w.heap.size + 1) 9 (.string ⟨#[]⟩)) ∧ Boxed W (w.heap.size + 2) 4 (.bool false)) ∧ Below w.heap.size w W) := ⟨⟨⟨b0, b1⟩, b2⟩, hB1⟩
    have c0 := b0.cell
    have c1 := b1.cell
    have f1 := b1.frozen
    have c2 := b2.cell
    have f2 := b2.frozen
    have HN : Hid (∀ y ∈ pre, y.1 ≠ key) := hn
    clear b0 b1 b2 hB1 hn hr hl' q0 q1 q2 q3 hB0 hgd hl0 hl hcap hlt
    by_cases he : x.1 = key
    · have g1 : ((tx x.1).toList == (tx key).toList) = true := by rw [tx_list, tx_list, he]; simp
      have g2 : (tx x.1).toList = (tx key).toList := by rw [tx_list, tx_list, he]
      have HE : Hid (x.1 = key) := he
      clear he
      gi_wp2_with fail
      have k1 := HI.out.1.1.2.set (.string (tx x.2))
      have k2 : Boxed ((W.setCell ⟨w.heap.size + 1, 0, none⟩ (.string (tx x.2))).setCell ⟨w.heap.size + 2, 0, none⟩ (.bool true)) (w.heap.size + 2) 4 (.bool true) := by
        have b : Boxed (W.setCell ⟨w.heap.size + 1, 0, none⟩ (.string (tx x.2))) (w.heap.size + 2) 4 (.bool false) := (Below.heap_setCell _ _ _ _ (by show w.heap.size + 2 ≠ w.heap.size + 1; omega)).trans HI.out.1.2
        exact b.set _
      have k3 : Boxed ((W.setCell ⟨w.heap.size + 1, 0, none⟩ (.string (tx x.2))).setCell ⟨w.heap.size + 2, 0, none⟩ (.bool true)) (w.heap.size + 1) 9 (.string (tx x.2)) := (Below.heap_setCell _ _ _ _ (by show w.heap.size + 1 ≠ w.heap.size + 2; omega)).trans k1
      exact ⟨((KeepsOthers.setCell _ _ _).trans (KeepsOthers.setCell _ _ _)).from _, x.2, ⟨⟨rfl, pre, x, rfl, HE.out, rfl, HN.out⟩, k3, k2⟩, (HI.out.2.setCell (p := ⟨w.heap.size + 1, 0, none⟩) (by show w.heap.size ≤ w.heap.size + 1; omega) _).setCell (p := ⟨w.heap.size + 2, 0, none⟩) (by show w.heap.size ≤ w.heap.size + 2; omega) _⟩
    · have g1 : ((tx x.1).toList == (tx key).toList) = false := by rw [tx_list, tx_list]; simpa using he
      have g2 : ¬ (tx x.1).toList = (tx key).toList := by rw [tx_list, tx_list]; exact he
      have HE : Hid (¬ x.1 = key) := he
      clear he
      gi_wp2_with fail
      refine ⟨KeepsFrom.refl _ _, Below.refl _ _, HI.out, fun y hy => ?_⟩
      rcases List.mem_append.1 hy with h | h
      · exact HN.out y h
      · simp at h; subst h; exact HE.out
  case done =>
    rintro D xs W hD rfl ⟨⟨⟨⟨b0, b1⟩, b2⟩, hB1⟩, hn⟩ hK
    have HE : Hid (getI xs key = none) := get_none xs key (fun j y hy => hn y (List.mem_of_getElem? hy))
    have HI : Hid (Boxed W (w.heap.size + 1) 9 (.string ⟨#[]⟩) ∧ Boxed W (w.heap.size + 2) 4 (.bool false) ∧ Below w.heap.size w W ∧ W.heap[D]? = some (.deferred (some [])) ∧ w.heap.size + 4 ≤ D) := ⟨b1, b2, hB1, hK, by omega⟩
    have c1 := b1.cell
    have f1 := b1.frozen
    have c2 := b2.cell
    have f2 := b2.frozen
    clear b0 b1 b2 hB1 hn hK q0 q1 q2 q3 hB0 hgd hl0 hl hcap
    gi_wp2_with fail
    have k1 := HI.out.1.set (.string ⟨#[]⟩)
    have k2 : Boxed ((W.setCell ⟨w.heap.size + 1, 0, none⟩ (.string ⟨#[]⟩)).setCell ⟨w.heap.size + 2, 0, none⟩ (.bool false)) (w.heap.size + 2) 4 (.bool false) := by
      have b : Boxed (W.setCell ⟨w.heap.size + 1, 0, none⟩ (.string ⟨#[]⟩)) (w.heap.size + 2) 4 (.bool false) := (Below.heap_setCell _ _ _ _ (by show w.heap.size + 2 ≠ w.heap.size + 1; omega)).trans HI.out.2.1
      exact b.set _
    have k3 : Boxed ((W.setCell ⟨w.heap.size + 1, 0, none⟩ (.string ⟨#[]⟩)).setCell ⟨w.heap.size + 2, 0, none⟩ (.bool false)) (w.heap.size + 1) 9 (.string ⟨#[]⟩) := (Below.heap_setCell _ _ _ _ (by show w.heap.size + 1 ≠ w.heap.size + 2; omega)).trans k1
    have hD4 := HI.out.2.2.2.2
    have hKD : ((W.setCell ⟨w.heap.size + 1, 0, none⟩ (.string ⟨#[]⟩)).setCell ⟨w.heap.size + 2, 0, none⟩ (.bool false)).heap[D]? = some (.deferred (some [])) := (Below.heap_setCell _ _ _ _ (by show D ≠ w.heap.size + 2; omega)).trans ((Below.heap_setCell _ _ _ _ (by show D ≠ w.heap.size + 1; omega)).trans HI.out.2.2.2.1)
    have hbb := (HI.out.2.2.1.setCell (p := ⟨w.heap.size + 1, 0, none⟩) (by show w.heap.size ≤ w.heap.size + 1; omega) (.string ⟨#[]⟩)).setCell (p := ⟨w.heap.size + 2, 0, none⟩) (by show w.heap.size ≤ w.heap.size + 2; omega) (.bool false)
    generalize (W.setCell ⟨w.heap.size + 1, 0, none⟩ (.string ⟨#[]⟩)).setCell ⟨w.heap.size + 2, 0, none⟩ (.bool false) = Y at k2 k3 hKD hbb ⊢
    refine ⟨by simp, .inl ⟨_, _, rfl, run_takeDeferred hKD, ?_⟩⟩
    have m1 := (k3.kept (grownBy_putObj' Y D (.deferred none)) (by intro e; cases e; omega)).cell
    have m2 := (k2.kept (grownBy_putObj' Y D (.deferred none)) (by intro e; cases e; omega)).cell
    refine ⟨_, results_get rfl rfl m1 m2, by rw [HE.out]; rfl, hbb.trans (belowK_b (w := w) (Nat.le_refl _) _ D _ _ (by omega) hKD rfl rfl)⟩
  case stop =>
    rintro D c pre W hD ⟨m, rfl⟩ ⟨v, ⟨⟨rfl, hf⟩, b1, b2⟩, hB1⟩ hK
    have HE : Hid (getI ds key = some v) := fd_get key ds m v hf
    have hD4 : w.heap.size + 4 ≤ D := by omega
    clear q0 q1 q2 q3 hB0 hgd hl0 hl hcap hf
    gi_wp2_with fail
    refine ⟨by simp, .inl ⟨_, _, rfl, run_takeDeferred hK, ?_⟩⟩
    have m1 := (b1.kept (grownBy_putObj' W D (.deferred none)) (by intro e; cases e; omega)).cell
    have m2 := (b2.kept (grownBy_putObj' W D (.deferred none)) (by intro e; cases e; omega)).cell
    refine ⟨_, results_get rfl rfl m1 m2, by rw [HE.out]; rfl, hB1.trans (belowK_b (w := w) (Nat.le_refl _) _ D _ _ (by omega) hK rfl rfl)⟩
end Go.Proofs.YtgmpmpgfpchbcaaGreatDoor
