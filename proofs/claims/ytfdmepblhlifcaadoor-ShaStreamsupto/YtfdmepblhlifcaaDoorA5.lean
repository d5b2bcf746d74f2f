/- The state behind all whole blocks. -/
import Derived.Test.YtfdmepblhlifcaaDoorA4
namespace Go.Proofs.YtfdmepblhlifcaaDoor
open Go.RowKit Go.Shelf
set_option linter.unusedVariables false
set_option linter.unusedSimpArgs false
attribute [local go_sem] Oper.semAt_some

theorem after_ok (s bl : List Int) (h : s.length = 8) (hw : W32 s) : (afterI s bl).length = 8 ∧ W32 (afterI s bl) := by
  refine ⟨addK_len _ _ _, ?_⟩
  intro x hx
  unfold afterI addK at hx
  obtain ⟨j, hj, rfl⟩ := List.mem_map.1 hx
  rw [if_pos (List.mem_range.1 hj)]
  exact ⟨Int.emod_nonneg _ (by decide), Int.emod_lt_of_pos _ (by decide)⟩
def overI (s : List Int) (bs : List Blk) : List Int := bs.foldl (fun s x => afterI s x.1) s
theorem over_snoc (s : List Int) (bs : List Blk) (x : Blk) : overI s (bs ++ [x]) = afterI (overI s bs) x.1 := by simp [overI]
theorem over_ok (s : List Int) (h : s.length = 8) (hw : W32 s) : ∀ bs : List Blk, (overI s bs).length = 8 ∧ W32 (overI s bs) := by
  intro bs
  induction bs generalizing s with
  | nil => exact ⟨h, hw⟩
  | cons x bs ih => exact ih (afterI s x.1) (after_ok s x.1 h hw).1 (after_ok s x.1 h hw).2

theorem row_own {β : Type} (B : Nat) (t : TypeId) (f : β → Array Value) : Own (fun s W => W.heap[B]? = some (.cells (f s) t (0, 0))) := fun s X Y row hs hg hrow =>
  (hg.block B (Array.getElem?_eq_some_iff.1 hs).1 (fun e' => by obtain ⟨o, ho, hc⟩ := hrow B e'.symm; rw [hs] at ho; cases ho; cases hc)).trans hs
theorem keeps_below {W W' : World} (h : Below W.heap.size W W') : KeepsOthers W W' :=
  ⟨h.size, fun k o hk _ => (h.block k (Array.getElem?_eq_some_iff.1 hk).1).trans hk⟩
theorem keeps_setRow (W : World) (g : Nat) (cs old : Array Value) (t : TypeId) (hg : W.heap[g]? = some (.cells old t (0, 0))) : KeepsOthers W (W.setRow g cs) := by
  refine ⟨by simp, fun k o hk ho => ?_⟩
  by_cases e : k = g
  · subst e; rw [hg] at hk; cases hk; cases ho
  · rw [setRow_other _ _ _ _ e]; exact hk
theorem roots_later {w w' : World} (R : Roots w) (h0 : 0 < w.heap.size) (h : Below w.heap.size w w') : Roots w' := fun j hj => (h.cell (p := ⟨0, j, none⟩) h0).trans (R j hj)

set_option maxRecDepth 100000 in
set_option maxHeartbeats 4000000 in
theorem over_any (s zs : List Int) (n : Int) (sv : Value) (w : World) (R : Roots w) (h0 : 0 < w.heap.size) (hs : s.length = 8) (hw : W32 s) (hz : Byt zs) (hS : Sl w w.heap.size sv zs) (n0 : 0 ≤ n) (n1 : n + (zs.length : Int) < 9223372036854775800) (asl : ∃ a l c, sv = .slice a l c) :
    Calls Tryd.prog 29 #[.agg (chainV s n), sv] w fun e w' => e = .returned (.agg (chainV (overI s (blks zs hz (zs.length / 64) (Nat.mul_div_le _ _))) (n + (zs.length / 64 : Nat)))) ∧ Below w.heap.size w w' := by
  obtain ⟨sa, sl, sc, rfl⟩ := asl
  refine (callsIn_wide (n := 5)).1 ?_
  refine callsIn_of_wp_marks Tryd.func29 rfl trivial ?_ rfl
  simp only [Tryd.ntmps29, List.size_toArray, List.length_cons, List.length_nil, Nat.reduceAdd, Nat.reduceSub, Array.replicate_succ, Array.replicate_zero, List.push_toArray, List.append_toArray, List.nil_append, List.cons_append]
  gi_wp2_with (refine ⟨trivial, ?_⟩; gi_at_call 41; refine (blocksOf_in _ _ _ _ _).mono ?_; rintro e w' ⟨rfl, rfl⟩)
  obtain ⟨W0, hW0⟩ : ∃ W0, ((w.alloc (.cells (chainV s n) 54)).alloc (.cells (chainV (List.replicate 8 0) 0) 54)).alloc (.cells #[.slice sa sl sc] 22) = W0 := ⟨_, rfl⟩
  have q0 : W0.heap[w.heap.size]? = some (.cells (chainV s n) 54 (0, 0)) := by
    rw [← hW0]
    exact (Below.heap_alloc _ _ _ (by simp <;> omega)).trans ((Below.heap_alloc _ _ _ (by simp)).trans (Go.heap_alloc_new _ _))
  have q1 : W0.heap[w.heap.size + 1]? = some (.cells (chainV (List.replicate 8 0) 0) 54 (0, 0)) := by
    rw [← hW0]
    have h := Go.heap_alloc_new (w.alloc (.cells (chainV s n) 54)) (.cells (chainV (List.replicate 8 0) 0) 54)
    rw [World.size_alloc] at h
    exact (Below.heap_alloc _ _ _ (by simp)).trans h
  have q2 : W0.cell? ⟨w.heap.size + 1 + 1, 0, none⟩ = some (.slice sa sl sc) := by
    rw [← hW0]
    have h := (Boxed.new ((w.alloc (.cells (chainV s n) 54)).alloc (.cells (chainV (List.replicate 8 0) 0) 54)) 22 (.slice sa sl sc)).cell
    simp only [World.size_alloc] at h
    exact h
  have hB0 : Below w.heap.size w W0 := by
    rw [← hW0]
    exact (((Below.refl _ w).alloc (Nat.le_refl _) _).alloc (by simp) _).alloc (by simp <;> omega) _
  have hsz : W0.heap.size = w.heap.size + 3 := by rw [← hW0]; simp
  show Code.wpIn _ _ _ _ _ _ (((w.alloc (.cells (chainV s n) 54)).alloc (.cells (chainV (List.replicate 8 0) 0) 54)).alloc (.cells #[.slice sa sl sc] 22))
  rw [hW0]
  clear hW0
  refine wpIn_rangeFunc_ownH rfl (by omega) (gf := 47) (lb := #[.pointer (some ⟨w.heap.size + 1 + 1, 0, none⟩)]) rfl trivial (enters_of Tryd.func47 (by kernel_rfl) rfl)
    (blocks_stops _ (w.heap.size + 1 + 1) w.heap.size (.slice sa sl sc) zs hz W0 (by omega) (by omega) q2 (hS.later hB0)) belowK_t (belowK_b (by omega)) (Below.refl _ _) (fun _ => rfl)
    (fun pre W => (W.heap[w.heap.size]? = some (.cells (chainV (overI s pre) (n + (pre.length : Int))) 54 (0, 0)) ∧ W.heap[w.heap.size + 1]? = some (.cells (chainV (List.replicate 8 0) 0) 54 (0, 0))) ∧ Below w.heap.size w W)
    (fun _ _ _ => False)
    (OwnFrom.and (OwnFrom.and (Own.from (row_own _ _ (fun pre : List Blk => chainV (overI s pre) (n + (pre.length : Int)))) _) (Own.from (row_own _ _ (fun _ : List Blk => chainV (List.replicate 8 0) 0)) _)) (ownFrom_below (Nat.le_refl _) (by omega)))
    (fun _ _ _ _ _ hs _ _ => hs)
    ⟨⟨by simpa [overI] using q0, q1⟩, hB0⟩
    (fun x a' W => ∃ Bx, w.heap.size + 1 < Bx ∧ W.heap[Bx]? = some (.cells (u8s x.1) 64 (0, 0)) ∧ a' = { tmps := #[.agg (chainV s n), .slice sa sl sc, .pointer (some ⟨w.heap.size, 0, none⟩), undef, .pointer (some ⟨w.heap.size + 1, 0, none⟩), .pointer (some ⟨Bx, 0, none⟩), .slice sa sl sc, .func (.func 47) #[] #[.pointer (some ⟨w.heap.size + 1 + 1, 0, none⟩)], .agg (u8s x.1), undef, undef, undef, undef], defers := [] })
    (fun x a' _ X Y row hs hg hr => by obtain ⟨Bx, h1, h2, h3⟩ := hs; exact ⟨Bx, h1, row_own Bx 64 (fun (_ : Unit) => u8s x.1) () X Y row h2 hg (fun r e => (hr r e).2), h3⟩)
    ?assign ?body ?done ?stop
  case assign =>
    rintro l pre x W K ⟨⟨i0, i1⟩, hB1⟩ hK
    have hsz1 := hB1.size
    have hlt1 := (Array.getElem?_eq_some_iff.1 i1).1
    gi_wp2_with (refine wpListIn_storeV rfl 64 _ _ rfl ⟨W.heap.size, 0, none⟩ rfl (.agg (u8s x.1)) rfl (run_storeVar_row _ W.heap.size 64 64 _ (u8s x.1) (Go.heap_alloc_new _ _) ?s1 ?s2 (one_u8s _)) ?_)
    case s1 => rw [size_u8s, x.2.1]; kernel_rfl
    case s2 => rw [size_u8s, x.2.1]; rfl
    refine hK _ _ (((KeepsOthers.alloc _ _).trans (keeps_setRow _ _ _ _ _ (Go.heap_alloc_new _ _))).from _) (below_setRow ((Below.refl _ W).alloc hsz1 _) hsz1 _) ⟨⟨?_, ?_⟩, below_setRow (hB1.alloc hsz1 _) hsz1 _⟩ ⟨W.heap.size, by omega, setRow_heap _ _ _ _ _ _ (Go.heap_alloc_new _ _), rfl⟩
    · exact (setRow_other _ _ _ _ (by omega)).trans ((Below.heap_alloc _ _ _ (by omega)).trans i0)
    · exact (setRow_other _ _ _ _ (by omega)).trans ((Below.heap_alloc _ _ _ hlt1).trans i1)
  case body =>
    rintro l pre x a' W hl ⟨r, hr⟩ ⟨⟨i0, i1⟩, hB1⟩ ⟨Bx, hBx, bX, rfl⟩ hlt
    have hsz1 := hB1.size
    have hlt1 := (Array.getElem?_eq_some_iff.1 i1).1
    have hltX := (Array.getElem?_eq_some_iff.1 bX).1
    obtain ⟨o8, ow⟩ := over_ok s hs hw pre
    have hlen : (pre.length : Int) < 9223372036854775000 := by
      rcases hS with ⟨_, _, _, rfl⟩ | ⟨_, _, _, _, _, _, Rr⟩
      · simp at hlt
      · have := Rr.small; omega
    have hn1 : n + (pre.length : Int) < 9223372036854775807 := by omega
    gi_wp2_with (first | (refine wpListIn_loadV rfl 54 _ rfl ⟨w.heap.size, 0, none⟩ rfl _ (run_loadVar_row _ _ 54 54 _ (0, 0) _ i0 Tryd.underlying54 rfl ?s1) ?_) | (refine wpListIn_loadV rfl 64 _ rfl ⟨Bx, 0, none⟩ rfl _ (run_loadVar_row _ _ 64 64 _ (0, 0) _ bX Tryd.underlying64 rfl ?s2) ?_) | (refine ⟨trivial, ?_⟩; gi_at_call 42; refine (CallsIn.inRound l (callsIn_wide.2 (after_any (overI s pre) x.1 (n + (pre.length : Int)) W (roots_later R h0 hB1) (by omega) o8 ow x.2.1 x.2.2 (by omega) hn1))).mono ?_; rintro e w1 ⟨rfl, hb1⟩) | (refine wpListIn_storeV rfl 54 _ _ rfl ⟨w.heap.size, 0, none⟩ rfl (.agg (chainV (afterI (overI s pre) x.1) (n + (pre.length : Int) + 1))) rfl (run_storeVar_row _ w.heap.size 54 54 _ _ ((hb1.block _ (by omega)).trans i0) ?s3 ?s4 (one_chain _ _)) ?_))
    case s1 => rw [size_chain, o8]; kernel_rfl
    case s2 => rw [size_u8s, x.2.1]; kernel_rfl
    case s3 => rw [size_chain, (after_ok _ _ o8 ow).1]; kernel_rfl
    case s4 => rw [size_chain, size_chain, (after_ok _ _ o8 ow).1, o8]
    refine ⟨((keeps_below hb1).trans (keeps_setRow _ _ _ _ _ ((hb1.block _ (by omega)).trans i0))).from _, below_setRow (hb1.mono (by omega)) (Nat.le_refl _) _, ⟨⟨?_, ?_⟩, below_setRow (hB1.trans (hb1.mono (by omega))) (Nat.le_refl _) _⟩⟩
    · rw [setRow_heap _ _ _ _ _ _ ((hb1.block _ (by omega)).trans i0), over_snoc, List.length_append]
      simp [Int.add_assoc]
    · exact (setRow_other _ _ _ _ (by omega)).trans ((hb1.block _ hlt1).trans i1)
  case done =>
    rintro D zs' W hD rfl ⟨⟨i0, i1⟩, hB1⟩ hK
    have hsz1 := hB1.size
    have hlt1 := (Array.getElem?_eq_some_iff.1 i1).1
    obtain ⟨o8, ow⟩ := over_ok s hs hw (blks zs hz (zs.length / 64) (Nat.mul_div_le _ _))
    rw [blks_len] at i0
    gi_wp2_with (first | (refine wpListIn_loadV rfl 54 _ rfl ⟨w.heap.size, 0, none⟩ rfl _ (run_loadVar_row _ _ 54 54 _ (0, 0) _ i0 Tryd.underlying54 rfl ?s1) ?_) | (refine wpListIn_storeV rfl 54 _ _ rfl ⟨w.heap.size + 1, 0, none⟩ rfl _ rfl (run_storeVar_row _ (w.heap.size + 1) 54 54 _ _ i1 ?s3 ?s4 (one_chain _ _)) ?_))
    case s1 => rw [size_chain, o8]; kernel_rfl
    case s3 => rw [size_chain, o8]; kernel_rfl
    case s4 => rw [size_chain, size_chain, o8]; rfl
    have hD2 : D ≠ w.heap.size + 1 := by omega
    have hK2 : (W.setRow (w.heap.size + 1) (chainV (overI s (blks zs hz (zs.length / 64) (Nat.mul_div_le _ _))) (n + ((zs.length / 64 : Nat) : Int)))).heap[D]? = some (.deferred (some [])) := (setRow_other _ _ _ _ hD2).trans hK
    have hrow : (W.setRow (w.heap.size + 1) (chainV (overI s (blks zs hz (zs.length / 64) (Nat.mul_div_le _ _))) (n + ((zs.length / 64 : Nat) : Int)))).heap[w.heap.size + 1]? = _ := setRow_heap _ _ _ _ _ _ i1
    refine ⟨by simp, .inl ⟨_, _, rfl, run_takeDeferred hK2, ?_⟩⟩
    refine ⟨_, results_cell_row Tryd.results29 _ _ (w.heap.size + 1) 54 _ (0, 0) _ rfl (((grownBy_putObj' _ D (.deferred none)).block _ (by simp; exact hlt1) (by intro e; cases e; exact hD2 rfl)).trans hrow) Tryd.underlying54 rfl (by rw [size_chain, o8]; kernel_rfl), rfl, ?_⟩
    exact (below_setRow hB1 (by omega) _).trans (belowK_b (w := w) (Nat.le_refl _) _ D _ _ (by omega) hK2 rfl rfl)
  case stop =>
    rintro D c pre W _ _ h _
    exact h.elim
end Go.Proofs.YtfdmepblhlifcaaDoor
