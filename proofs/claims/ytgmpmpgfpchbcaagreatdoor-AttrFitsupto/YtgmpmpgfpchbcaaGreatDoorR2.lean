/- Attributes gathered: Collect. -/
import Derived.Test.YtgmpmpgfpchbcaaGreatDoorR1
namespace Go.Proofs.YtgmpmpgfpchbcaaGreatDoor
open Go.RowKit Go.Shelf
set_option linter.unusedVariables false
set_option linter.unusedSimpArgs false
attribute [local go_sem] Oper.semAt_some

theorem row_own {β : Type} (B : Nat) (t : TypeId) (f : β → Array Value) : Own (fun s W => W.heap[B]? = some (.cells (f s) t (0, 0))) := fun s X Y row hs hg hrow =>
  (hg.block B (Array.getElem?_eq_some_iff.1 hs).1 (fun e' => by obtain ⟨o, ho, hc⟩ := hrow B e'.symm; rw [hs] at ho; cases ho; cases hc)).trans hs
theorem keeps_below {W W' : World} (h : Below W.heap.size W W') : KeepsOthers W W' :=
  ⟨h.size, fun k o hk _ => (h.block k (Array.getElem?_eq_some_iff.1 hk).1).trans hk⟩
theorem keeps_grown {W W' : World} {row : Option Nat} (h : W.grownBy W' row) (hr : ∀ r, row = some r → W.heap.size ≤ r ∨ ∃ cs t f, W.heap[r]? = some (.cells cs t f)) : KeepsOthers W W' := by
  refine ⟨h.size, fun k o hk ho => ?_⟩
  have hlt := (Array.getElem?_eq_some_iff.1 hk).1
  refine (h.block k hlt (fun e => ?_)).trans hk
  rcases hr k e.symm with g | ⟨cs, t, f, g⟩
  · omega
  · rw [g] at hk; cases hk; cases ho
/-- A box with attributes of our own. -/
def BoxOwn (B base : Nat) (pre : List At) (W : World) : Prop := ∃ v, Boxed W B 22 v ∧ W.ownsRow base 44 2 v pre.length (atL pre)
theorem boxOwn_own (B base : Nat) : Own (fun (pre : List At) W => BoxOwn B base pre W) := fun s X Y row hs hg hrow => by
  obtain ⟨v, h1, h2⟩ := hs
  refine ⟨v, boxed_own B 22 (fun (_ : Unit) => v) () X Y row h1 hg hrow, own_at h2 fun q hq => ?_⟩
  have hlt := (h2.lt q hq).2
  refine hg.block q hlt (fun e => ?_)
  obtain ⟨o, ho, hc⟩ := hrow q e.symm
  rcases h2.2 with ⟨rfl, _⟩ | ⟨g, cap, cur, rfl, _, hcell, _⟩
  · simp [Value.ownBlock] at hq
  · simp [Value.ownBlock] at hq
    subst hq
    rw [hcell] at ho
    cases ho
    cases hc
set_option maxRecDepth 100000 in
set_option maxHeartbeats 4000000 in
theorem appendSeq_any (Bs cap : Nat) (sa : Option Addr) (ds : List At) (w : World) (hsm : (ds.length + 1 : Int) * 32 ≤ 140737488355328) (hBs : Bs < w.heap.size) (hc : w.cell? ⟨Bs, 0, none⟩ = some (.slice sa ds.length cap)) (hcap : ds.length ≤ cap) (hl : Lie w sa ds) :
    Calls Tryz.prog 71 #[.slice none 0 0, .func (.func 58) #[] #[.pointer (some ⟨Bs, 0, none⟩)]] w fun e w' => (∃ v, e = .returned v ∧ w'.ownsRow w.heap.size 44 2 v ds.length (atL ds)) ∧ Below w.heap.size w w' := by
  obtain ⟨i0, hi, hz0, hz1, hz2⟩ := info_parts info44
  refine (callsIn_wide (n := 5)).1 ?_
  refine callsIn_of_wp_marks Tryz.func71 rfl trivial ?_ rfl
  simp only [Tryz.ntmps71, List.size_toArray, List.length_cons, List.length_nil, Nat.reduceAdd, Nat.reduceSub, Array.replicate_succ, Array.replicate_zero, List.push_toArray, List.append_toArray, List.nil_append, List.cons_append]
  gi_wp2_with fail
  obtain ⟨W0, hW0⟩ : ∃ W0, w.alloc (.cells #[.slice none 0 0] 22) = W0 := ⟨_, rfl⟩
  have q0 : Boxed W0 w.heap.size 22 (.slice none 0 0) := by rw [← hW0]; exact Go.heap_alloc_new _ _
  have hB0 : Below w.heap.size w W0 := by rw [← hW0]; exact (Below.refl _ w).alloc (Nat.le_refl _) _
  have hsz : W0.heap.size = w.heap.size + 1 := by rw [← hW0]; simp
  show Code.wpIn _ _ _ _ _ _ (w.alloc (.cells #[.slice none 0 0] 22))
  rw [hW0]
  clear hW0
  have hgd : ∀ b off, sa = some ⟨b, off, none⟩ → ds ≠ [] → b < w.heap.size := fun b off e hne => by
    obtain ⟨z, hz⟩ := (nil_or ds).resolve_left hne
    obtain ⟨b', o', e1, e2, _⟩ := hl 0 z hz
    rw [e] at e1
    cases e1
    exact World.block_lt_of_cell? w _ e2
  have hl0 : Lie W0 sa ds := fun i x hx => by
    obtain ⟨b, off, h1, h2, h3⟩ := hl i x hx
    have hb : b < w.heap.size := World.block_lt_of_cell? w _ h2
    exact ⟨b, off, h1, (hB0.cell (p := ⟨b, off + i * 2, none⟩) hb).trans h2, (hB0.cell (p := ⟨b, off + i * 2 + 1, none⟩) hb).trans h3⟩
  refine wpIn_rangeFunc_ownH rfl (by omega) (gf := 58) (lb := #[.pointer (some ⟨Bs, 0, none⟩)]) rfl trivial (enters_of Tryz.func58 (by kernel_rfl) rfl)
    (vals_seq _ Bs w.heap.size cap sa ds W0 (by omega) (by omega) (by omega) ((hB0.cell (p := ⟨Bs, 0, none⟩) hBs).trans hc) hcap hl0 hgd) belowK_t (belowK_b (by omega)) (Below.refl _ _) (fun _ => rfl)
    (fun pre W => BoxOwn w.heap.size (w.heap.size + 1) pre W ∧ Below w.heap.size w W)
    (fun _ _ _ => False)
    (OwnFrom.and (Own.from (boxOwn_own _ _) _) (ownFrom_below (Nat.le_refl _) (by omega)))
    (fun _ _ _ _ _ hs _ _ => hs)
    ⟨⟨_, q0, World.ownsRow_nil _ _ _ _⟩, hB0⟩
    (fun x a' W => ∃ Bx, w.heap.size < Bx ∧ W.heap[Bx]? = some (.cells #[.string (tx x.1), .string (tx x.2)] 44 (0, 0)) ∧ a' = { tmps := #[.slice none 0 0, .func (.func 58) #[] #[.pointer (some ⟨Bs, 0, none⟩)], .pointer (some ⟨w.heap.size, 0, none⟩), undef, .slice none 0 0, .pointer (some ⟨Bx, 0, none⟩), .func (.func 58) #[] #[.pointer (some ⟨Bs, 0, none⟩)], .agg #[.string (tx x.1), .string (tx x.2)], undef, undef, undef, undef, undef], defers := [] })
    (fun x a' _ X Y row hs hg hr => by obtain ⟨Bx, h1, h2, h3⟩ := hs; exact ⟨Bx, h1, row_own Bx 44 (fun (_ : Unit) => #[.string (tx x.1), .string (tx x.2)]) () X Y row h2 hg (fun r e => (hr r e).2), h3⟩)
    ?assign ?body ?done ?stop
  case assign =>
    rintro l pre x W K ⟨hBO, hB1⟩ hK
    have hsz1 := hB1.size
    have hBlt : w.heap.size < W.heap.size := by obtain ⟨v, h1, _⟩ := hBO; exact (Array.getElem?_eq_some_iff.1 h1).1
    have HK : Hid (∀ a' W', KeepsFrom W0.heap.size W W' → Below w.heap.size W W' → (BoxOwn w.heap.size (w.heap.size + 1) pre W' ∧ Below w.heap.size w W') → (∃ Bx, w.heap.size < Bx ∧ W'.heap[Bx]? = some (.cells #[.string (tx x.1), .string (tx x.2)] 44 (0, 0)) ∧ a' = { tmps := #[.slice none 0 0, .func (.func 58) #[] #[.pointer (some ⟨Bs, 0, none⟩)], .pointer (some ⟨w.heap.size, 0, none⟩), undef, .slice none 0 0, .pointer (some ⟨Bx, 0, none⟩), .func (.func 58) #[] #[.pointer (some ⟨Bs, 0, none⟩)], .agg #[.string (tx x.1), .string (tx x.2)], undef, undef, undef, undef, undef], defers := [] }) → K a' W') := hK
    have HI : Hid (BoxOwn w.heap.size (w.heap.size + 1) pre W ∧ Below w.heap.size w W) := ⟨hBO, hB1⟩
    clear hK hBO hB1
    gi_wp2_with fail
    refine HK.out _ _ ((KeepsOthers.alloc _ _).from _) ((Below.refl _ W).alloc hsz1 _) ⟨Own.from (boxOwn_own _ _) 0 _ _ _ none HI.out.1 (grown_alloc W _) (fun r e => by cases e), HI.out.2.alloc hsz1 _⟩ ⟨W.heap.size, hBlt, Go.heap_alloc_new _ _, rfl⟩
  case body =>
    rintro l pre x a' W hl ⟨r, hr⟩ ⟨⟨v, hbx, hown⟩, hB1⟩ ⟨Bx, hBx, bX, rfl⟩ hlt
    have hsz1 := hB1.size
    have hBlt : w.heap.size < W.heap.size := (Array.getElem?_eq_some_iff.1 hbx).1
    have x0 : W.cell? ⟨Bx, 0, none⟩ = some (.string (tx x.1)) := by rw [cell_of_row _ _ _ _ _ _ bX]; rfl
    have x1 : W.cell? ⟨Bx, 1, none⟩ = some (.string (tx x.2)) := by rw [cell_of_row _ _ _ _ _ _ bX]; rfl
    have c0 := hbx.cell
    have HI : Hid (Boxed W w.heap.size 22 v ∧ W.ownsRow (w.heap.size + 1) 44 2 v pre.length (atL pre) ∧ Below w.heap.size w W ∧ W.heap[Bx]? = some (.cells #[.string (tx x.1), .string (tx x.2)] 44 (0, 0))) := ⟨hbx, hown, hB1, bX⟩
    have HLT : Hid ((pre.length + 1) * 32 ≤ 140737488355328) := by show _ ≤ _; omega
    clear hbx hown hB1 bX hr hl hgd hl0 hc hcap q0 hB0 hlt hBs
    gi_wp2_with (gi_at_builtin; (refine wpListIn_append_own _ rfl (.tmp 8) (.tmp 10) 22 rfl (w.heap.size + 1) 44 i0 (.agg #[.string ⟨#[]⟩, .string ⟨#[]⟩]) 2 32 Tryz.underlying22 hi hz0 hz1 hz2 rfl (by decide) v pre.length (atL pre) rfl (HI.out.2.1.alloc _) ⟨W.heap.size, 0, none⟩ 1 1 (at2 x) rfl rfl (World.news_of_block (Go.heap_alloc_new _ _)) (by intro u hu; simp [at2] at hu; rcases hu with rfl | rfl <;> rfl) (by have := HLT.out; unfold maxLen; omega) HLT.out (by simp; omega) ?_; intro v9 w9 ho9 hg9 h9x; clear h9x; obtain ⟨a9, k9, e9⟩ := own_slice ho9; subst e9; (have HO9 : Hid (w9.ownsRow (w.heap.size + 1) 44 2 (.slice a9 (pre.length + 1) k9) (pre.length + 1) (atL pre ++ at2 x) ∧ (W.alloc (.cells #[.string (tx x.1), .string (tx x.2)] 44)).grownBy w9 v.ownBlock) := ⟨ho9, hg9⟩); (have hb9 : Boxed w9 w.heap.size 22 v := (hg9.block w.heap.size (by simp; omega) (fun e => by have := (HI.out.2.1.lt _ e.symm).1; omega)).trans ((Below.heap_alloc _ _ _ hBlt).trans HI.out.1)); (have HB9 : Hid (Boxed w9 w.heap.size 22 v) := hb9); (have c9 := hb9.cell); (have f9 := hb9.frozen); clear ho9 hg9 hb9))
    have ho := HO9.out.1
    have hg := HO9.out.2
    have hbg : Below w.heap.size W w9 := ((Below.refl _ W).alloc hsz1 _).trans ⟨hg.os, hg.tape, hg.output, hg.size, fun q hq => hg.block q (by simp; omega) (fun e => by have := (HI.out.2.1.lt _ e.symm).1; omega)⟩
    have hbs : Below w.heap.size W (w9.setCell ⟨w.heap.size, 0, none⟩ (.slice a9 (pre.length + 1) k9)) := hbg.setCell (p := ⟨w.heap.size, 0, none⟩) (Nat.le_refl _) _
    refine ⟨(((KeepsOthers.alloc _ _).trans (keeps_grown hg (fun r e => ?_))).trans (KeepsOthers.setCell _ _ _)).from _, hbs, ⟨_, HB9.out.set (.slice a9 (pre.length + 1) k9), ?_⟩, HI.out.2.2.1.trans hbs⟩
    · right
      rcases HI.out.2.1.2 with ⟨h, _⟩ | ⟨g, cap, cur, h, _, hcell, _⟩
      · rw [h] at e; cases e
      · rw [h] at e
        cases e
        exact ⟨cur, 44, (0, 0), (Below.heap_alloc _ _ _ (Array.getElem?_eq_some_iff.1 hcell).1).trans hcell⟩
    · rw [List.length_append, atL_app, show atL [x] = at2 x by simp [atL]]
      exact own_at ho fun q hq => Below.heap_setCell _ _ _ _ (by show q ≠ w.heap.size; have := (ho.lt q hq).1; omega)
  case done =>
    rintro D xs W hD rfl ⟨⟨v, hbx, hown⟩, hB1⟩ hK
    have c0 := hbx.cell
    gi_wp2_with fail
    refine ⟨by simp, .inl ⟨_, _, rfl, run_takeDeferred hK, ?_⟩⟩
    refine ⟨_, results_tmp rfl _ _ _, ⟨_, rfl, ?_⟩, hB1.trans (belowK_b (w := w) (Nat.le_refl _) _ D _ _ (by omega) hK rfl rfl)⟩
    refine own_low (own_at hown fun q hq => ?_) (Nat.le_succ _)
    have hne : q ≠ D := fun e => by
      rcases hown.2 with ⟨h, _⟩ | ⟨g, cap, cur, h, _, hcell, _⟩
      · rw [h] at hq; cases hq
      · rw [h] at hq
        cases hq
        rw [← e] at hK
        have : W.heap[g]? = some (.deferred (some [])) := hK
        rw [hcell] at this
        cases this
    exact (grownBy_putObj' _ D (.deferred none)).block q (hown.lt q hq).2 (fun e => hne (Option.some.inj e))
  case stop =>
    rintro D c pre W _ _ h _
    exact h.elim
end Go.Proofs.YtgmpmpgfpchbcaaGreatDoor
