/- The states behind whole blocks, by the definition. -/
import Derived.Test.YtfdmepblhlifcaaDoorF1
import Derived.Test.YtfdmepblhlifcaaDoorF2
import Derived.Test.YtfdmepblhlifcaaDoorA7
import Derived.Deep.AppendLies
namespace Go.Proofs.YtfdmepblhlifcaaDoor
open Go.RowKit
set_option linter.unusedVariables false
set_option linter.unusedSimpArgs false

/-- The state behind k blocks. -/
def stB (zs : List Int) : Nat → List Int
  | 0 => beginI
  | k + 1 => afterI (stB zs k) (blkAt zs k)
theorem stB_ok (zs : List Int) : ∀ k, (stB zs k).length = 8 ∧ W32 (stB zs k)
  | 0 => ⟨rfl, begin_w32⟩
  | k + 1 => after_ok _ _ (stB_ok zs k).1 (stB_ok zs k).2
theorem stB_over (zs : List Int) (hz : Byt zs) : ∀ k (h : 64 * k ≤ zs.length), overI beginI (blks zs hz k h) = stB zs k
  | 0, _ => rfl
  | k + 1, h => by unfold blks; rw [over_snoc, stB_over zs hz k]; rfl
def u32l (l : List Int) : List Value := l.map (Value.int .u32)
def flatS (zs : List Int) : Nat → List Value
  | 0 => []
  | k + 1 => flatS zs k ++ u32l (stB zs (k + 1))
theorem flatS_len (zs : List Int) : ∀ k, (flatS zs k).length = k * 8
  | 0 => rfl
  | k + 1 => by simp [flatS, flatS_len zs k, u32l, (stB_ok zs (k + 1)).1]; omega

theorem quiet_loadV {P : Program} {W : World} {a : Act} {o : Oper} {K : Act → Prop} (ty : TypeId) (x : Operand) (ho : o.op = .load ty x) (p : Addr) (hx : a.eval x = .pointer (some p)) (v : Value) (hl : (loadVar ty p).run P W = .ok v W)
    (hk : K (a.put o.dst v)) : o.quiet P a (fun w' => w' = W) K := by
  refine ⟨v, fun w hw => ?_, hk⟩
  subst hw
  unfold Oper.quietAt
  simp only [execOp, ho, hx, Instr.loadAt, Instr.sureAddr, Sem.run_bind, Sem.run_pure, Result.andThen_ok, hl]
  exact ⟨rfl, rfl⟩
theorem info62 : (Tryd.prog.info? 62).map (fun i => (i.zero, i.size, i.bytes)) = some (some (.agg (u32s (List.replicate 8 0))), 8, 32) := by kernel_rfl

structure SL (w : World) (g5 : Nat) (wr : World) (S : List Int) : Prop where
  bel : Below w.heap.size w wr
  st : wr.heap[w.heap.size]? = some (.cells (u32s S) 62 (0, 0))
  ks : wr.heap[g5]? = some (.cells (u32s rootsI) 76 (0, 0))
theorem SL.lt {w wr : World} {g5 : Nat} {S : List Int} (h : SL w g5 wr S) : g5 < wr.heap.size := (Array.getElem?_eq_some_iff.1 h.ks).1
theorem SL.later {w wr wr' : World} {g5 : Nat} {S : List Int} (h : SL w g5 wr S) (hg : w.heap.size < g5) (hb : Below (g5 + 1) wr wr') : SL w g5 wr' S :=
  ⟨h.bel.trans (hb.mono (by omega)), (hb.block _ (by omega)).trans h.st, (hb.block _ (by omega)).trans h.ks⟩
theorem SL.put {w wr : World} {g5 : Nat} {S T : List Int} (h : SL w g5 wr S) (hg : w.heap.size < g5) : SL w g5 (wr.setRow w.heap.size (u32s T)) T :=
  ⟨below_setRow h.bel (Nat.le_refl _) _, setRow_heap _ _ _ _ _ _ h.st, (setRow_other _ _ _ _ (by omega)).trans h.ks⟩
theorem own_mono {w : World} {base base' : Nat} {e : TypeId} {size : Nat} {v : Value} {n : Nat} {xs : List Value} (h : w.ownsRow base e size v n xs) (hb : base' ≤ base) : w.ownsRow base' e size v n xs :=
  ⟨h.1, h.2.imp id fun ⟨g, cap, cur, hv, hg, r⟩ => ⟨g, cap, cur, hv, Nat.le_trans hb hg, r⟩⟩
theorem own_kept {w w' : World} {base : Nat} {e : TypeId} {size : Nat} {v : Value} {n : Nat} {xs : List Value} (h : w.ownsRow base e size v n xs) (hb : ∀ g, base ≤ g → g < w.heap.size → w'.heap[g]? = w.heap[g]?) : w'.ownsRow base e size v n xs :=
  ⟨h.1, h.2.imp id fun ⟨g, cap, cur, hv, hg, hc, r⟩ => ⟨g, cap, cur, hv, hg, (hb g hg (Array.getElem?_eq_some_iff.1 hc).1).trans hc, r⟩⟩
theorem u32l_one (zs : List Int) : ∀ u ∈ u32l zs, u.oneCell' = true := by
  intro u h
  obtain ⟨z, _, rfl⟩ := List.mem_map.1 h
  rfl
theorem brow_blk {w : World} {b off : Nat} {zs : List Int} (R : BRow w b off zs) (k : Nat) (h : 64 * k + 64 ≤ zs.length) : BRow w b (off + 64 * k) (blkAt zs k) := by
  have hl : (blkAt zs k).length = 64 := (blk_ok zs k R.byt h).1
  refine ⟨fun i hi => ?_, (blk_ok zs k R.byt h).2, by rw [hl]; decide⟩
  rw [hl] at hi
  rw [Nat.add_assoc, R.cell (64 * k + i) (by omega)]
  simp [blkAt, List.getElem?_take, hi]

set_option maxRecDepth 20000 in
set_option maxHeartbeats 4000000 in
theorem states_any (zs : List Int) (bb off cap : Nat) (w : World) (hb : bb < w.heap.size) (hB : BRow w bb off zs) (hl : (zs.length : Int) ≤ 140737488355328) (hc : zs.length ≤ cap) :
    Calls Tryd.prog 32 #[.slice (some ⟨bb, off, none⟩) zs.length cap] w fun e w' => (∃ v, e = .returned v ∧ w'.ownsRow w.heap.size 62 8 v (zs.length / 64) (flatS zs (zs.length / 64))) ∧ Below w.heap.size w w' := by
  obtain ⟨i0, hi, hz0, hz1, hz2⟩ := info_parts info62
  have HB : Hid (BRow w bb off zs) := hB
  have HBB : Hid (bb < w.heap.size) := hb
  clear hB
  go_enter Tryd.func32, Tryd.ntmps32
  go_wp2_with (first | (refine wpList_store_row rfl 62 _ _ rfl w.heap.size (u32s beginI) rfl rfl 62 (u32s (List.replicate 8 0)) (Go.heap_alloc_new _ _) ?h1 ?h2 (one_u32s _) ?_) | (go_at_call 43; refine (ks_any _).mono ?_; rintro e w1 ⟨rfl, hb1⟩) | (refine wpList_store_row rfl 76 _ _ rfl w1.heap.size (u32s rootsI) rfl rfl 76 (u32s (List.replicate 64 0)) (Go.heap_alloc_new _ _) ?h3 ?h4 (one_u32s _) ?_))
  case h1 => kernel_rfl
  case h2 => rfl
  case h3 => kernel_rfl
  case h4 => rfl
  obtain ⟨W1, hW1⟩ : ∃ W1, (w1.alloc (.cells (u32s (List.replicate 64 0)) 76)).setRow w1.heap.size (u32s rootsI) = W1 := ⟨_, rfl⟩
  have hb1' : Below (w.heap.size + 1) ((w.alloc (.cells (u32s (List.replicate 8 0)) 62)).setRow w.heap.size (u32s beginI)) w1 := hb1.mono (by simp)
  have hSL : SL w w1.heap.size W1 beginI := by
    rw [← hW1]
    have h0 : ((w.alloc (.cells (u32s (List.replicate 8 0)) 62)).setRow w.heap.size (u32s beginI)).heap[w.heap.size]? = some (.cells (u32s beginI) 62 (0, 0)) := setRow_heap _ _ _ _ _ _ (Go.heap_alloc_new _ _)
    have h1 := (hb1'.block _ (by omega)).trans h0
    have hlt := (Array.getElem?_eq_some_iff.1 h1).1
    refine ⟨?_, ?_, setRow_heap _ _ _ _ _ _ (Go.heap_alloc_new _ _)⟩
    · have h2 : Below w.heap.size w w1 := (below_setRow ((Below.refl _ w).alloc (Nat.le_refl _) _) (Nat.le_refl _) _).trans (hb1'.mono (by omega))
      exact below_setRow (h2.alloc h2.size _) h2.size _
    · exact (setRow_other _ _ _ _ (by omega)).trans ((Below.heap_alloc _ _ _ hlt).trans h1)
  have hg5 : w.heap.size < w1.heap.size := by have := hb1'.size; simp at this; omega
  have HSL : Hid (SL w w1.heap.size W1 beginI) := hSL
  show Code.wp _ _ _ _ ((w1.alloc (.cells (u32s (List.replicate 64 0)) 76)).setRow w1.heap.size (u32s rootsI))
  rw [hW1]
  clear hW1 hb1 hb1' hSL
  generalize w1.heap.size = g5 at *
  have HG5 : Hid (w.heap.size < g5) := hg5
  have HLN : Hid ((zs.length : Int) ≤ 140737488355328) := hl
  have HC : Hid (zs.length ≤ cap) := hc
  clear hl hc hg5 hb
  go_loopw [3, 6] (fun v a wr => ∃ k : Nat, 64 * k ≤ zs.length ∧ a = .int .i64 ((64 * k : Nat) : Int) ∧ wr.ownsRow (g5 + 1) 62 8 v k (flatS zs k) ∧ SL w g5 wr (stB zs k)) (fun v a wr => zs.length + 64 - (intOf a).toNat)
  case atStart => exact ⟨0, by omega, rfl, World.ownsRow_nil _ _ _ _, HSL.out⟩
  case round =>
    clear HSL
    obtain ⟨k, hk, rfl, hown, hsl⟩ := hrel
    have HOWN : Hid (wr.ownsRow (g5 + 1) 62 8 u3 k (flatS zs k)) := hown
    have HSL : Hid (SL w g5 wr (stB zs k)) := hsl
    have hln := HLN.out
    clear hown hsl
    by_cases hlt : 64 * k + 64 ≤ zs.length
    · have m1 : ((64 * k : Nat) : Int) + 64 ≤ (zs.length : Int) := by omega
      obtain ⟨n0, hn0⟩ : ∃ n0 : Nat, n0 = 64 * k := ⟨_, rfl⟩
      have HN0 : Hid (n0 = 64 * k) := hn0
      have hcc := HC.out
      have m2 : (n0 : Int) + 64 ≤ (cap : Int) := by omega
      have m3 : ¬ cap = n0 := by omega
      have m4 : (n0 : Int) + 64 ≤ 140737488355328 := by omega
      have hblk : Hid (∀ W : World, SL w g5 W (stB zs k) → Calls Tryd.prog 44 #[.agg (u32s (stB zs k)), .slice (some ⟨bb, off + n0, none⟩) 64 (cap - n0), .agg (u32s rootsI)] W fun e w' => e = .returned (.agg (u32s (stB zs (k + 1)))) ∧ Below W.heap.size W w') := by
        intro W hW
        rw [hn0]
        exact rblock_any (stB zs k) (blkAt zs k) bb (off + 64 * k) (cap - 64 * k) W (stB_ok zs k).1 (stB_ok zs k).2 (blk_ok zs k HB.out.byt hlt).1 (by have := hW.bel.size; have := HBB.out; omega) (brow_blk (HB.out.later hW.bel HBB.out) k hlt)
      have HS8 : Hid ((stB zs k).length = 8) := (stB_ok zs k).1
      have HS9 : Hid ((stB zs (k + 1)).length = 8) := (stB_ok zs (k + 1)).1
      have HL1 : Hid ((loadVar 62 ⟨w.heap.size, 0, none⟩).run Tryd.prog wr.drew = .ok (.agg (u32s (stB zs k))) wr.drew) := run_loadVar_row _ _ 62 62 _ (0, 0) _ HSL.out.st Tryd.underlying62 rfl (by rw [size_u32s, HS8.out]; kernel_rfl)
      have HL2 : Hid ((loadVar 76 ⟨g5, 0, none⟩).run Tryd.prog wr.drew = .ok (.agg (u32s rootsI)) wr.drew) := run_loadVar_row _ _ 76 76 _ (0, 0) _ HSL.out.ks Tryd.underlying76 rfl (by kernel_rfl)
      rw [← hn0] at m1 ⊢
      clear hn0 hcc hlt hk hln
      go_wp2_with fail
      refine wp_region_still_tail 7 (by kernel_rfl) (by kernel_rfl) (still_of_quiet _ _ ?_)
      simp only [List.take_succ_cons, List.take_zero, List.drop_succ_cons, List.drop_zero]
      rw [show ({ wr with drawn := wr.drawn + 1 } : World) = wr.drew from rfl]
      (go_big_quiet_want; refine quiet_loadV 62 _ rfl ⟨w.heap.size, 0, none⟩ rfl _ HL1.out ?_; go_big_quiet_on)
      simp only [Act.put, List.setIfInBounds_toArray, List.set_cons_succ, List.set_cons_zero]
      repeat (first | go_big_quiet_skip | (go_big_quiet_want; go_big_quiet_op; go_big_quiet_on))
      (go_big_quiet_want; refine quiet_loadV 76 _ rfl ⟨g5, 0, none⟩ rfl _ HL2.out ?_; go_big_quiet_on)
      simp only [Act.put, List.setIfInBounds_toArray, List.set_cons_succ, List.set_cons_zero]
      refine wpQuiet_nil ?_
      rw [Nat.add_sub_cancel_left]
      go_wp2_with fail
      refine (hblk.out wr.drew ⟨HSL.out.bel.drew, HSL.out.st, HSL.out.ks⟩).mono ?_
      rintro e w2 ⟨rfl, hb2⟩
      have hb2' : Below wr.heap.size wr w2 := ((Below.refl _ wr).drew).trans hb2
      have HSL2 : Hid (SL w g5 w2 (stB zs k)) := HSL.out.later HG5.out (hb2'.mono (by have := HSL.out.lt; omega))
      have HB2 : Hid (Below wr.heap.size wr w2) := hb2'
      have HFL : Hid (flatS zs (k + 1) = flatS zs k ++ u32l (stB zs (k + 1))) := rfl
      have HNL : Hid ((n0 : Int) + 64 ≤ (zs.length : Int)) := m1
      clear hb2 hb2' hblk HL1 HL2 m1 m2 m3 m4
      obtain ⟨T, hTT⟩ : ∃ T, stB zs (k + 1) = T := ⟨_, rfl⟩
      have HTT : Hid (stB zs (k + 1) = T) := hTT
      rw [hTT] at HFL HS9
      rw [hTT]
      clear hTT
      generalize stB zs k = S at *
      obtain ⟨A, B, C, D, E, F, G, Q, hT⟩ := len8 HS9.out
      subst hT
      have HST : Hid (SL w g5 (w2.setRow w.heap.size (u32s [A, B, C, D, E, F, G, Q])) [A, B, C, D, E, F, G, Q]) := HSL2.out.put HG5.out
      have HROW : Hid ((w2.setRow w.heap.size (u32s [A, B, C, D, E, F, G, Q])).heap[w.heap.size]? = some (.cells #[.int .u32 A, .int .u32 B, .int .u32 C, .int .u32 D, .int .u32 E, .int .u32 F, .int .u32 G, .int .u32 Q] 62 (0, 0))) := HST.out.st
      have hwlt : w.heap.size < g5 := HG5.out
      have hglt := HSL.out.lt
      have HOWN2 : Hid ((w2.setRow w.heap.size (u32s [A, B, C, D, E, F, G, Q])).ownsRow (g5 + 1) 62 8 u3 k (flatS zs k)) := own_kept HOWN.out fun g hg hlt => (setRow_other _ _ _ _ (by omega)).trans (HB2.out.block g hlt)
      have HSZ : Hid (g5 + 1 ≤ (w2.setRow w.heap.size (u32s [A, B, C, D, E, F, G, Q])).heap.size) := HST.out.lt
      have HKN : Hid ((k : Int) ≤ 2199023255552) := by have h1 := HN0.out; have h2 := HLN.out; have h3 := HNL.out; show (k : Int) ≤ _; omega
      obtain ⟨W2, hW2⟩ : ∃ W2, w2.setRow w.heap.size (u32s [A, B, C, D, E, F, G, Q]) = W2 := ⟨_, rfl⟩
      rw [hW2] at HST HROW HOWN2 HSZ
      clear hwlt hglt
      go_wp2_with (first | (refine wpList_store_row rfl 62 _ _ rfl w.heap.size (u32s [A, B, C, D, E, F, G, Q]) rfl rfl 62 (u32s S) HSL2.out.st (by kernel_rfl) (by rw [size_u32s, size_u32s, HS8.out]; rfl) (one_u32s _) ?_; rw [hW2]) | (refine wpList_load_row rfl 62 _ rfl w.heap.size rfl 62 #[.int .u32 A, .int .u32 B, .int .u32 C, .int .u32 D, .int .u32 E, .int .u32 F, .int .u32 G, .int .u32 Q] (0, 0) _ HROW.out Tryd.underlying62 rfl (by kernel_rfl) ?_) | (at_builtin; refine wpList_append_own _ rfl (.tmp 24) (.tmp 26) 59 rfl (g5 + 1) 62 i0 (.agg (u32s (List.replicate 8 0))) 8 32 Tryd.underlying59 hi hz0 hz1 hz2 rfl (by decide) _ k (flatS zs k) rfl (HOWN2.out.alloc _) ⟨W2.heap.size, 0, none⟩ 1 1 (u32l [A, B, C, D, E, F, G, Q]) rfl rfl (World.news_of_block (Go.heap_alloc_new _ _)) (u32l_one _) (by have := HKN.out; unfold maxLen; omega) (by have := HKN.out; omega) (by have := HSZ.out; simp; omega) ?_; intro v3 w3 hown3 hgrow3 _; (rw [← HFL.out] at hown3); (have HB3 : Hid (Below (g5 + 1) W2 w3) := ((Below.refl _ _).alloc HSZ.out _).grown hgrow3 (by have := HSZ.out; simp; omega) (ownBlock_ge HOWN2.out)); (have HOWN3 : Hid (w3.ownsRow (g5 + 1) 62 8 v3 (k + 1) (flatS zs (k + 1))) := hown3); clear hown3 hgrow3))
      have h1 := HN0.out
      have h2 := HNL.out
      have h3 := HLN.out
      have hwr : wrap64 ((n0 : Int) + 64) = ((64 * (k + 1) : Nat) : Int) := by unfold wrap64; omega
      rw [hwr]
      refine ⟨⟨k + 1, by omega, rfl, HOWN3.out, ?_⟩, by simp [intOf]; omega⟩
      rw [HTT.out]
      exact HST.out.later HG5.out HB3.out
    · have hkk : k = zs.length / 64 := by omega
      have hw : wrap64 (((64 * k : Nat) : Int) + 64) = ((64 * k + 64 : Nat) : Int) := by unfold wrap64; omega
      have hx : ¬ (((64 * k + 64 : Nat) : Int) ≤ (zs.length : Int)) := by omega
      have HKK : Hid (k = zs.length / 64) := hkk
      obtain ⟨n0, hn0⟩ : ∃ n0 : Nat, n0 = 64 * k := ⟨_, rfl⟩
      have m4 : (n0 : Int) + 64 ≤ 140737488355400 := by omega
      have m5 : ¬ ((n0 : Int) + 64 ≤ (zs.length : Int)) := by omega
      rw [← hn0]
      clear hkk hw hx hn0 hlt hk hln
      go_wp2_with fail
      go_ret
      refine ⟨⟨_, rfl, ?_⟩, HSL.out.bel⟩
      rw [← HKK.out]
      exact own_mono HOWN.out (by have := HG5.out; omega)
end Go.Proofs.YtfdmepblhlifcaaDoor
