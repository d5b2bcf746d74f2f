/- The law of sums. -/
import Derived.Test.YtfdmepblhlifcaaDoorG4
import Derived.Test.YtfdmepblhlifcaaDoorG2
import Derived.Test.YtfdmepblhlifcaaDoorE5
import Derived.Test.YtfdmepblhlifcaaDoorB3
namespace Go.Proofs.YtfdmepblhlifcaaDoor
open Go.RowKit
set_option linter.unusedVariables false
set_option linter.unusedSimpArgs false

theorem region_quietC {P : Program} {id : Nat} {Q : Exit → Act → World → Prop} {a : Act} {w : World} {l : List Oper} (C : World → Prop) (hm : P.follows .mixedOrders = true) (hB : Region.lexB .any l.toArray = true) (hC : C w.drew)
    (h : wpQuiet P l.toArray C (fun a' => ∀ w', C w' → Q .normal a' w') l a) : (Code.region id l.toArray true).wp P Q a w :=
  wp_region_quiet (C := C) hm hB hC (by simpa using h)
theorem quiet_loadC {P : Program} {C : World → Prop} {a : Act} {o : Oper} {K : Act → Prop} (ty : TypeId) (x : Operand) (ho : o.op = .load ty x) (p : Addr) (hx : a.eval x = .pointer (some p)) (v : Value) (hl : ∀ W, C W → (loadVar ty p).run P W = .ok v W)
    (hk : K (a.put o.dst v)) : o.quiet P a C K := by
  refine ⟨v, fun w hw => ?_, hk⟩
  unfold Oper.quietAt
  simp only [execOp, ho, hx, Instr.loadAt, Instr.sureAddr, Sem.run_bind, Sem.run_pure, Result.andThen_ok, hl w hw]
  exact ⟨rfl, rfl⟩
theorem rsum_byt (zs : List Int) : Byt (rsumI zs) := bytes_byt _

set_option maxRecDepth 20000 in
set_option maxHeartbeats 4000000 in
theorem sums_law (zs : List Int) (sa : Option Addr) (sl sc : Nat) (a c : List Int) (w : World) (R : Roots w) (h0 : 0 < w.heap.size) (hz : Byt zs) (hl : (zs.length : Int) ≤ 140737488351232) (ha : a.length = 32) (hc : c.length = 32) (ba : Byt a) (bc : Byt c)
    (hLent : ∀ V, Below w.heap.size w V → Calls Tryd.prog 8 #[.slice sa sl sc] V fun e w' => (∃ g cp, e = .returned (.slice (some ⟨g, 0, none⟩) zs.length cp) ∧ Lends w' V.heap.size g cp zs) ∧ Below V.heap.size V w')
    (hRS : ∀ V, Below w.heap.size w V → Calls Tryd.prog 10 #[.slice sa sl sc] V fun e w' => e = .returned (.agg (u8s (rsumI zs))) ∧ Below V.heap.size V w')
    (hKe : ∀ g cp V, Below w.heap.size w V → (∃ n₀, Lends V n₀ g cp zs) → Calls Tryd.prog 11 #[.slice (some ⟨g, 0, none⟩) zs.length cp, .slice sa sl sc] V fun e w' => e = .returned (.bool true) ∧ w' = V) :
    Calls Tryd.prog 3 #[.slice sa sl sc, .agg (u8s a), .agg (u8s c)] w fun e w' => e = .returned (.bool true) ∧ Below w.heap.size w w' := by
  have HLE : Hid (∀ V, Below w.heap.size w V → Calls Tryd.prog 8 #[.slice sa sl sc] V fun e w' => (∃ g cp, e = .returned (.slice (some ⟨g, 0, none⟩) zs.length cp) ∧ Lends w' V.heap.size g cp zs) ∧ Below V.heap.size V w') := hLent
  have HRS : Hid (∀ V, Below w.heap.size w V → Calls Tryd.prog 10 #[.slice sa sl sc] V fun e w' => e = .returned (.agg (u8s (rsumI zs))) ∧ Below V.heap.size V w') := hRS
  have HKE : Hid (∀ g cp V, Below w.heap.size w V → (∃ n₀, Lends V n₀ g cp zs) → Calls Tryd.prog 11 #[.slice (some ⟨g, 0, none⟩) zs.length cp, .slice sa sl sc] V fun e w' => e = .returned (.bool true) ∧ w' = V) := hKe
  have HR : Hid (Roots w) := R
  have HAC : Hid (a.length = 32 ∧ c.length = 32 ∧ Byt a ∧ Byt c) := ⟨ha, hc, ba, bc⟩
  have HZ : Hid (Byt zs ∧ (zs.length : Int) ≤ 140737488351232) := ⟨hz, hl⟩
  clear hLent hRS hKe R ha hc ba bc hz hl
  go_enter Tryd.func3, Tryd.ntmps3
  go_upto_region 1 with fail
  obtain ⟨W, hW⟩ : ∃ W, (w.alloc (.cells (u8s a) 23)).alloc (.cells (u8s c) 23) = W := ⟨_, rfl⟩
  have HQ0 : Hid (W.heap[w.heap.size]? = some (.cells (u8s a) 23 (0, 0))) := by
    show _ = _
    rw [← hW, Below.heap_alloc _ _ _ (by simp), Go.heap_alloc_new]
  have HQ1 : Hid (W.heap[w.heap.size + 1]? = some (.cells (u8s c) 23 (0, 0))) := by
    show _ = _
    rw [← hW]
    have h := Go.heap_alloc_new (w.alloc (.cells (u8s a) 23)) (.cells (u8s c) 23)
    simp only [World.size_alloc] at h
    exact h
  have HBW : Hid (Below w.heap.size w W) := by
    show Below _ _ _
    rw [← hW]
    exact ((Below.refl _ w).alloc (Nat.le_refl _) _).alloc (by simp) _
  have HSZ : Hid (W.heap.size = w.heap.size + 2) := by show _ = _; rw [← hW]; simp
  rw [hW]
  clear hW
  go_wp2_with (go_at_call 8; refine (HLE.out W HBW.out).mono ?_; rintro e w1 ⟨⟨g, cp, rfl, hL1⟩, hb1⟩)
  have hb1w : Below w.heap.size w w1 := HBW.out.trans (hb1.mono HBW.out.size)
  obtain ⟨hg0, hcp, hrow1⟩ := hL1
  have hg1 : g < w1.heap.size := World.block_lt_of_cell? w1 _ (hrow1.cell 0 (by simp))
  have hsz := HSZ.out
  have hs1 := hb1.size
  obtain ⟨C, hC⟩ : ∃ C : World → Prop, C = Below w1.heap.size w1 := ⟨_, rfl⟩
  have cb : ∀ V, C V → Below w.heap.size w V := fun V hV => by rw [hC] at hV; exact hb1w.trans (hV.mono hb1w.size)
  have ct : ∀ V V', C V → Below V.heap.size V V' → C V' := fun V V' hV hb => by rw [hC] at hV ⊢; exact hV.trans (hb.mono hV.size)
  have HCd : Hid (C w1.drew) := by show C _; rw [hC]; exact (Below.refl _ w1).drew
  have HCB : Hid (∀ V, C V → Below w.heap.size w V) := cb
  have HLD : Hid (∀ V, C V → Lends V W.heap.size g cp zs) := fun V hV => ⟨hg0, hcp, by rw [hC] at hV; exact hrow1.later hV hg1⟩
  have HC9 : Hid (∀ V, C V → Calls Tryd.prog 9 #[.slice (some ⟨g, 0, none⟩) zs.length cp] V fun e w' => e = .returned (.agg (u8s (rsumI zs))) ∧ C w') := fun V hV => by
    have hr : BRow V g 0 (zs ++ [77]) := (HLD.out V hV).2.2
    have hb := cb V hV
    have hr' : BRow V g 0 zs := ⟨fun i hi => by
      have h := hr.cell i (by simp; omega)
      rw [h]
      simp [List.getElem?_append_left hi], HZ.out.1, by have := HZ.out.2; omega⟩
    have h := sum_any zs g 0 cp V (roots_later HR.out h0 hb) (by have := hb.size; omega) HZ.out.1 (by rw [hC] at hV; have := hV.size; omega) hr' (by have := HZ.out.2; omega) (by omega)
    rw [sums_one] at h
    exact h.mono fun e w' ⟨h1, h2⟩ => ⟨h1, ct V w' hV h2⟩
  have HC10 : Hid (∀ V, C V → Calls Tryd.prog 10 #[.slice sa sl sc] V fun e w' => e = .returned (.agg (u8s (rsumI zs))) ∧ C w') := fun V hV => (HRS.out V (cb V hV)).mono fun e w' ⟨h1, h2⟩ => ⟨h1, ct V w' hV h2⟩
  have HC11 : Hid (∀ V, C V → Calls Tryd.prog 11 #[.slice (some ⟨g, 0, none⟩) zs.length cp, .slice sa sl sc] V fun e w' => e = .returned (.bool true) ∧ C w') := fun V hV => (HKE.out g cp V (cb V hV) ⟨_, HLD.out V hV⟩).mono fun e w' ⟨h1, h2⟩ => ⟨h1, by rw [h2]; exact hV⟩
  have HC12 : Hid (∀ V, C V → Calls Tryd.prog 12 #[.agg (u8s a), .agg (u8s c)] V fun e w' => e = .returned (.agg (u8s (rsumI (a ++ c)))) ∧ C w') := fun V hV => by
    obtain ⟨h1, h2, h3, h4⟩ := HAC.out
    have hb := cb V hV
    have h := pair_any a c V (roots_later HR.out h0 hb) (by have := hb.size; omega) h1 h2 h3 h4
    rw [sums_one] at h
    exact h.mono fun e w' ⟨h1, h2⟩ => ⟨h1, ct V w' hV h2⟩
  have HC13 : Hid (∀ V, C V → Calls Tryd.prog 13 #[.agg (u8s a), .agg (u8s c)] V fun e w' => e = .returned (.agg (u8s (rsumI (a ++ c)))) ∧ C w') := fun V hV => by
    obtain ⟨h1, h2, h3, h4⟩ := HAC.out
    exact (rpair_any a c V h1 h2 h3 h4).mono fun e w' ⟨h1, h2⟩ => ⟨h1, ct V w' hV h2⟩
  have HC14 : Hid (∀ V, C V → Calls Tryd.prog 14 #[] V fun e w' => e = .returned (.bool true) ∧ C w') := fun V hV => by
    have hb := cb V hV
    exact (known_any V (roots_later HR.out h0 hb) (by have := hb.size; omega)).mono fun e w' ⟨h1, h2⟩ => ⟨h1, ct V w' hV h2⟩
  have HL4 : Hid (∀ V, C V → (loadVar 23 ⟨w.heap.size, 0, none⟩).run Tryd.prog V = .ok (.agg (u8s a)) V) := fun V hV => by
    rw [hC] at hV
    exact load23 ((hV.block _ (by omega)).trans ((hb1.block _ (by omega)).trans HQ0.out)) HAC.out.1
  have HL5 : Hid (∀ V, C V → (loadVar 23 ⟨w.heap.size + 1, 0, none⟩).run Tryd.prog V = .ok (.agg (u8s c)) V) := fun V hV => by
    rw [hC] at hV
    exact load23 ((hV.block _ (by omega)).trans ((hb1.block _ (by omega)).trans HQ1.out)) HAC.out.2.1
  have EQ1 := eq32 (rsumI zs) (rsumI_len zs) (rsum_byt zs)
  have EQ2 := eq32 (rsumI (a ++ c)) (rsumI_len (a ++ c)) (rsum_byt (a ++ c))
  generalize rsumI zs = D1 at *
  generalize rsumI (a ++ c) = D2 at *
  clear cb ct hC hg0 hcp hrow1 hg1 hsz hs1 hb1 hb1w HLD
  refine region_quietC C (by kernel_rfl) (by kernel_rfl) HCd.out ?_
  (first | (go_big_quiet_want; go_big_quiet_op; go_big_quiet_on) | (go_big_quiet_want; go_big_quiet_op; refine ⟨_, fun _ _ => rfl, ?_⟩; go_big_quiet_on))
  (go_big_quiet_want; go_big_quiet_op; refine ⟨_, HC9.out, ?_⟩; go_big_quiet_on)
  (first | (go_big_quiet_want; go_big_quiet_op; go_big_quiet_on) | (go_big_quiet_want; go_big_quiet_op; refine ⟨_, fun _ _ => rfl, ?_⟩; go_big_quiet_on))
  (go_big_quiet_want; go_big_quiet_op; refine ⟨_, HC10.out, ?_⟩; go_big_quiet_on)
  (first | (go_big_quiet_want; go_big_quiet_op; go_big_quiet_on) | (go_big_quiet_want; go_big_quiet_op; refine ⟨_, fun _ _ => rfl, ?_⟩; go_big_quiet_on))
  (first | (go_big_quiet_want; go_big_quiet_op; go_big_quiet_on) | (go_big_quiet_want; go_big_quiet_op; refine ⟨_, fun _ _ => rfl, ?_⟩; go_big_quiet_on))
  (first | (go_big_quiet_want; go_big_quiet_op; go_big_quiet_on) | (go_big_quiet_want; go_big_quiet_op; refine ⟨_, fun _ _ => rfl, ?_⟩; go_big_quiet_on))
  (first | (go_big_quiet_want; go_big_quiet_op; go_big_quiet_on) | (go_big_quiet_want; go_big_quiet_op; refine ⟨_, fun _ _ => rfl, ?_⟩; go_big_quiet_on))
  (go_big_quiet_want; go_big_quiet_op; refine ⟨_, HC11.out, ?_⟩; go_big_quiet_on)
  (first | (go_big_quiet_want; go_big_quiet_op; go_big_quiet_on) | (go_big_quiet_want; go_big_quiet_op; refine ⟨_, fun _ _ => rfl, ?_⟩; go_big_quiet_on))
  (first | (go_big_quiet_want; go_big_quiet_op; go_big_quiet_on) | (go_big_quiet_want; go_big_quiet_op; refine ⟨_, fun _ _ => rfl, ?_⟩; go_big_quiet_on))
  (go_big_quiet_want; refine quiet_loadC 23 _ rfl ⟨w.heap.size, 0, none⟩ rfl _ HL4.out ?_; go_big_quiet_on)
  simp only [Act.put, List.setIfInBounds_toArray, List.set_cons_succ, List.set_cons_zero]
  (go_big_quiet_want; refine quiet_loadC 23 _ rfl ⟨w.heap.size + 1, 0, none⟩ rfl _ HL5.out ?_; go_big_quiet_on)
  simp only [Act.put, List.setIfInBounds_toArray, List.set_cons_succ, List.set_cons_zero]
  (go_big_quiet_want; go_big_quiet_op; refine ⟨_, HC12.out, ?_⟩; go_big_quiet_on)
  (go_big_quiet_want; refine quiet_loadC 23 _ rfl ⟨w.heap.size, 0, none⟩ rfl _ HL4.out ?_; go_big_quiet_on)
  simp only [Act.put, List.setIfInBounds_toArray, List.set_cons_succ, List.set_cons_zero]
  (go_big_quiet_want; refine quiet_loadC 23 _ rfl ⟨w.heap.size + 1, 0, none⟩ rfl _ HL5.out ?_; go_big_quiet_on)
  simp only [Act.put, List.setIfInBounds_toArray, List.set_cons_succ, List.set_cons_zero]
  (go_big_quiet_want; go_big_quiet_op; refine ⟨_, HC13.out, ?_⟩; go_big_quiet_on)
  (first | (go_big_quiet_want; go_big_quiet_op; go_big_quiet_on) | (go_big_quiet_want; go_big_quiet_op; refine ⟨_, fun _ _ => rfl, ?_⟩; go_big_quiet_on))
  (first | (go_big_quiet_want; go_big_quiet_op; go_big_quiet_on) | (go_big_quiet_want; go_big_quiet_op; refine ⟨_, fun _ _ => rfl, ?_⟩; go_big_quiet_on))
  (first | (go_big_quiet_want; go_big_quiet_op; go_big_quiet_on) | (go_big_quiet_want; go_big_quiet_op; refine ⟨_, fun _ _ => rfl, ?_⟩; go_big_quiet_on))
  (go_big_quiet_want; go_big_quiet_op; refine ⟨_, HC14.out, ?_⟩; go_big_quiet_on)
  (first | (go_big_quiet_want; go_big_quiet_op; go_big_quiet_on) | (go_big_quiet_want; go_big_quiet_op; refine ⟨_, fun _ _ => rfl, ?_⟩; go_big_quiet_on))
  (first | (go_big_quiet_want; go_big_quiet_op; go_big_quiet_on) | (go_big_quiet_want; go_big_quiet_op; refine ⟨_, fun _ _ => rfl, ?_⟩; go_big_quiet_on))
  refine wpQuiet_nil ?_
  intro V hV
  go_wp2_with fail
  go_ret
  exact ⟨rfl, HCB.out V hV⟩
end Go.Proofs.YtfdmepblhlifcaaDoor
