/- The digest of bytes. -/
import Derived.Test.YtfdmepblhlifcaaDoorA7
import Derived.Deep.RegionWith
import Derived.BigRegion
import Derived.Deep.CutRange
namespace Go.Proofs.YtfdmepblhlifcaaDoor
open Go.RowKit
set_option linter.unusedVariables false
set_option linter.unusedSimpArgs false

theorem byt_take {zs : List Int} (h : Byt zs) (k : Nat) : Byt (zs.take k) := fun c hc => h c (List.mem_of_mem_take hc)
theorem byt_drop {zs : List Int} (h : Byt zs) (k : Nat) : Byt (zs.drop k) := fun c hc => h c (List.mem_of_mem_drop hc)
def wholeN (zs : List Int) : Nat := zs.length - zs.length % 64
/-- The state behind the whole blocks. -/
def frontI (s zs : List Int) (hz : Byt zs) : List Int := overI s (blks zs hz (zs.length / 64) (Nat.mul_div_le _ _))
def sumS (zs : List Int) (hz : Byt zs) : List Int :=
  frontI (frontI beginI (zs.take (wholeN zs)) (byt_take hz _)) (lastI (zs.drop (wholeN zs)) ((zs.take (wholeN zs)).length / 64 : Nat)) (last_byt _ _ (byt_drop hz _))
def sumI (zs : List Int) (hz : Byt zs) : List Int := bytesI (sumS zs hz)
theorem front_ok (s zs : List Int) (hz : Byt zs) (h : s.length = 8) (hw : W32 s) : (frontI s zs hz).length = 8 ∧ W32 (frontI s zs hz) := over_ok s h hw _
theorem sumS_ok (zs : List Int) (hz : Byt zs) : (sumS zs hz).length = 8 ∧ W32 (sumS zs hz) := by
  unfold sumS
  obtain ⟨h1, h2⟩ := front_ok beginI (zs.take (wholeN zs)) (byt_take hz _) rfl begin_w32
  exact front_ok _ _ _ h1 h2
theorem brow_take {w : World} {b off : Nat} {zs : List Int} (R : BRow w b off zs) (k : Nat) : BRow w b off (zs.take k) := by
  have h := R.small
  refine ⟨fun i hi => ?_, byt_take R.byt k, by simp; omega⟩
  rw [List.length_take] at hi
  rw [R.cell i (by omega)]
  simp [List.getElem?_take, show i < k by omega]
theorem brow_drop {w : World} {b off : Nat} {zs : List Int} (R : BRow w b off zs) (k : Nat) : BRow w b (off + k) (zs.drop k) := by
  have h := R.small
  refine ⟨fun i hi => ?_, byt_drop R.byt k, by simp; omega⟩
  simp at hi
  rw [Nat.add_assoc, R.cell (k + i) (by omega)]
  simp
theorem brow_nil (w : World) (b off : Nat) : BRow w b off [] := ⟨fun i hi => (Nat.not_lt_zero _ hi).elim, (fun x hx => nomatch hx), by decide⟩
theorem chain_lit (a b c d e f g q n : Int) : chainV [a, b, c, d, e, f, g, q] n = #[.int .u32 a, .int .u32 b, .int .u32 c, .int .u32 d, .int .u32 e, .int .u32 f, .int .u32 g, .int .u32 q, .int .i64 n] := rfl

theorem set9_row {w : World} {gg : Nat} {ty : TypeId} {a b c d e f g q n A B C D E F G Q N : Int} (h : w.heap[gg]? = some (.cells (chainV [a, b, c, d, e, f, g, q] n) ty (0, 0))) :
    (((((((((w.setCell ⟨gg, 0, none⟩ (.int .u32 A)).setCell ⟨gg, 1, none⟩ (.int .u32 B)).setCell ⟨gg, 2, none⟩ (.int .u32 C)).setCell ⟨gg, 3, none⟩ (.int .u32 D)).setCell ⟨gg, 4, none⟩ (.int .u32 E)).setCell ⟨gg, 5, none⟩ (.int .u32 F)).setCell ⟨gg, 6, none⟩ (.int .u32 G)).setCell ⟨gg, 7, none⟩ (.int .u32 Q)).setCell ⟨gg, 8, none⟩ (.int .i64 N)).heap[gg]? = some (.cells (chainV [A, B, C, D, E, F, G, Q] N) ty (0, 0)) := by
  have h0 := heap_setCell_same _ _ 0 _ _ (.int .u32 A) h
  rw [set_chain _ _ _ _ (by simp)] at h0
  have h1 := heap_setCell_same _ _ 1 _ _ (.int .u32 B) h0
  rw [set_chain _ _ _ _ (by simp)] at h1
  have h2 := heap_setCell_same _ _ 2 _ _ (.int .u32 C) h1
  rw [set_chain _ _ _ _ (by simp)] at h2
  have h3 := heap_setCell_same _ _ 3 _ _ (.int .u32 D) h2
  rw [set_chain _ _ _ _ (by simp)] at h3
  have h4 := heap_setCell_same _ _ 4 _ _ (.int .u32 E) h3
  rw [set_chain _ _ _ _ (by simp)] at h4
  have h5 := heap_setCell_same _ _ 5 _ _ (.int .u32 F) h4
  rw [set_chain _ _ _ _ (by simp)] at h5
  have h6 := heap_setCell_same _ _ 6 _ _ (.int .u32 G) h5
  rw [set_chain _ _ _ _ (by simp)] at h6
  have h7 := heap_setCell_same _ _ 7 _ _ (.int .u32 Q) h6
  rw [set_chain _ _ _ _ (by simp)] at h7
  have h8 := heap_setCell_same _ _ 8 _ _ (.int .i64 N) h7
  rw [set_blocks _ _ _ (by simp)] at h8
  simpa using h8
theorem set9_other (w : World) (gg : Nat) (A B C D E F G Q N : Int) (k : Nat) (hk : k ≠ gg) :
    (((((((((w.setCell ⟨gg, 0, none⟩ (.int .u32 A)).setCell ⟨gg, 1, none⟩ (.int .u32 B)).setCell ⟨gg, 2, none⟩ (.int .u32 C)).setCell ⟨gg, 3, none⟩ (.int .u32 D)).setCell ⟨gg, 4, none⟩ (.int .u32 E)).setCell ⟨gg, 5, none⟩ (.int .u32 F)).setCell ⟨gg, 6, none⟩ (.int .u32 G)).setCell ⟨gg, 7, none⟩ (.int .u32 Q)).setCell ⟨gg, 8, none⟩ (.int .i64 N)).heap[k]? = w.heap[k]? := by
  iterate 9 rw [Below.heap_setCell _ _ _ _ (by exact hk)]

/-- Where the digest will lie. -/
def Z32 (w0 w : World) : Prop := Below w0.heap.size w0 w ∧ w.heap[w0.heap.size]? = some (.cells (u8s (List.replicate 32 0)) 23 (0, 0))
theorem Z32.start (w : World) : Z32 w ((w.alloc (.cells (u8s (List.replicate 32 0)) 23)).drew) := ⟨((Below.refl _ w).alloc (Nat.le_refl _) _).drew, Go.heap_alloc_new _ _⟩
theorem Z32.lt {w0 w : World} (h : Z32 w0 w) : w0.heap.size < w.heap.size := (Array.getElem?_eq_some_iff.1 h.2).1
theorem Z32.below {w0 w w' : World} (h : Z32 w0 w) (hb : Below w.heap.size w w') : Z32 w0 w' := ⟨h.1.trans (hb.mono h.1.size), (hb.block _ h.lt).trans h.2⟩
theorem Z32.alloc {w0 w : World} (h : Z32 w0 w) (o : Obj) : Z32 w0 (w.alloc o) := h.below ((Below.refl _ w).alloc (Nat.le_refl _) o)
theorem Z32.start2 (w : World) (o : Obj) : Z32 w (((w.alloc (.cells (u8s (List.replicate 32 0)) 23)).alloc o).drew) := ⟨(((Below.refl _ w).alloc (Nat.le_refl _) _).alloc (by simp) _).drew, (Below.heap_alloc _ _ _ (by simp)).trans (Go.heap_alloc_new _ _)⟩
/-- A chain's variable. -/
def Z54 (w : World) (g : Nat) : Prop := w.heap[g]? = some (.cells (chainV (List.replicate 8 0) 0) 54 (0, 0))
theorem Z54.below {w w' : World} {g : Nat} (h : Z54 w g) (hb : Below w.heap.size w w') : Z54 w' g := (hb.block _ (Array.getElem?_eq_some_iff.1 h).1).trans h
theorem Z54.new (w : World) : Z54 (w.alloc (.cells (chainV (List.replicate 8 0) 0) 54)) w.heap.size := Go.heap_alloc_new _ _
theorem Z54.two (w : World) : Z54 (((w.alloc (.cells (u8s (List.replicate 32 0)) 23)).alloc (.cells (chainV (List.replicate 8 0) 0) 54)).drew) (w.heap.size + 1) := by
  have h := Go.heap_alloc_new (w.alloc (.cells (u8s (List.replicate 32 0)) 23)) (.cells (chainV (List.replicate 8 0) 0) 54)
  rw [World.size_alloc] at h
  exact h
theorem Z54.cells {w : World} {g : Nat} (h : Z54 w g) : w.cell? ⟨g, 0, none⟩ = some (.int .u32 0) ∧ w.cell? ⟨g, 1, none⟩ = some (.int .u32 0) ∧ w.cell? ⟨g, 2, none⟩ = some (.int .u32 0) ∧ w.cell? ⟨g, 3, none⟩ = some (.int .u32 0) ∧ w.cell? ⟨g, 4, none⟩ = some (.int .u32 0) ∧ w.cell? ⟨g, 5, none⟩ = some (.int .u32 0) ∧ w.cell? ⟨g, 6, none⟩ = some (.int .u32 0) ∧ w.cell? ⟨g, 7, none⟩ = some (.int .u32 0) ∧ w.cell? ⟨g, 8, none⟩ = some (.int .i64 0) ∧ ∀ j, w.frozen? ⟨g, j, none⟩ = false :=
  ⟨cell_of_row _ _ _ _ _ _ h, cell_of_row _ _ _ _ _ _ h, cell_of_row _ _ _ _ _ _ h, cell_of_row _ _ _ _ _ _ h, cell_of_row _ _ _ _ _ _ h, cell_of_row _ _ _ _ _ _ h, cell_of_row _ _ _ _ _ _ h, cell_of_row _ _ _ _ _ _ h, cell_of_row _ _ _ _ _ _ h, fun j => frozen_of_row _ _ _ _ _ h⟩

set_option maxRecDepth 20000 in
set_option maxHeartbeats 4000000 in
theorem sum_any (zs : List Int) (bb off cap : Nat) (w : World) (R : Roots w) (h0 : 0 < w.heap.size) (hz : Byt zs) (hb : bb < w.heap.size) (hB : BRow w bb off zs) (hl : (zs.length : Int) ≤ 140737488355328) (hc : zs.length ≤ cap) :
    Calls Tryd.prog 9 #[.slice (some ⟨bb, off, none⟩) zs.length cap] w fun e w' => e = .returned (.agg (u8s (sumI zs hz))) ∧ Below w.heap.size w w' := by
  obtain ⟨m, hm⟩ : ∃ m, m = wholeN zs := ⟨_, rfl⟩
  have e1 : (zs.length : Int) - (zs.length : Int) % 64 = (m : Int) := by rw [hm]; unfold wholeN; omega
  have hml : m ≤ zs.length := by rw [hm]; unfold wholeN; omega
  have m1 : (m : Int) ≤ (cap : Int) := by omega
  have m2 : (m : Int) ≤ (zs.length : Int) := by omega
  have m3 : (zs.length : Int) ≤ (cap : Int) := by omega
  have e2 : wrap64 (m : Int) = m := by unfold wrap64; omega
  have HR : Hid (Roots w) := R
  have HB : Hid (BRow w bb off zs) := hB
  have HM : Hid (m = wholeN zs) := hm
  have HL : Hid ((zs.length : Int) ≤ 140737488355328) := hl
  have HC : Hid (zs.length ≤ cap) := hc
  clear R hB hm hl hc
  go_enter Tryd.func9, Tryd.ntmps9
  go_wp2_with fail
  obtain ⟨S1, hS1⟩ : ∃ S1, S1 = frontI beginI (zs.take m) (byt_take hz m) := ⟨_, rfl⟩
  obtain ⟨n1, hn1⟩ : ∃ n1 : Int, n1 = (0 : Int) + (((zs.take m).length / 64 : Nat) : Int) := ⟨_, rfl⟩
  have HS1 : Hid (S1 = frontI beginI (zs.take m) (byt_take hz m)) := hS1
  have HN1 : Hid (n1 = (0 : Int) + (((zs.take m).length / 64 : Nat) : Int)) := hn1
  have hov : ∀ W : World, Z32 w W → Calls Tryd.prog 29 #[.agg (chainV beginI 0), .slice (some ⟨bb, off, none⟩) m cap] W fun e w' => e = .returned (.agg (chainV S1 n1)) ∧ Below W.heap.size W w' := by
    intro W hW
    rw [hS1, hn1]
    exact over_any beginI (zs.take m) 0 _ W (roots_later HR.out h0 hW.1) (by have := hW.1.size; omega) rfl begin_w32 (byt_take hz m) (.inr ⟨bb, off, cap, by rw [List.length_take, Nat.min_eq_left hml], by have := hW.1.size; omega, by have := HC.out; rw [List.length_take]; omega, brow_take (HB.out.later hW.1 hb) m⟩) (by decide) (by have := HL.out; rw [List.length_take]; omega) ⟨_, _, _, rfl⟩
  have HOV : Hid (∀ W : World, Z32 w W → Calls Tryd.prog 29 #[.agg (chainV beginI 0), .slice (some ⟨bb, off, none⟩) m cap] W fun e w' => e = .returned (.agg (chainV S1 n1)) ∧ Below W.heap.size W w') := hov
  obtain ⟨s8, sw⟩ := front_ok beginI (zs.take m) (byt_take hz m) rfl begin_w32
  rw [← hS1] at s8 sw
  obtain ⟨A, B, C, D, E, F, G, Q, hT⟩ := len8 s8
  have HT : Hid (S1 = [A, B, C, D, E, F, G, Q]) := hT
  have HS8 : Hid (S1.length = 8) := s8
  have HSW : Hid (W32 S1) := sw
  clear hS1 hn1 hov s8 sw hT
  rw [e2]
  go_cut [4] from 11 to 15 (fun v4 wx => ∃ g4, v4 = .pointer (some ⟨g4, 0, none⟩) ∧ w.heap.size < g4 ∧ wx.heap[g4]? = some (.cells (chainV S1 n1) 54 (0, 0)) ∧ Z32 w wx)
  case first =>
    go_region_with (first | (go_at_call 28; refine (begin_any _).mono ?_; rintro e w1 ⟨rfl, hb1⟩; (first | (have HZ1 : Hid (Z32 w w1) := (Z32.start w).below hb1) | ((have HZ1 : Hid (Z32 w w1) := (Z32.start2 w _).below hb1); (have HC1 : Hid (Z54 w1 (w.heap.size + 1)) := (Z54.two w).below hb1))); clear hb1) | (go_at_call 29; (first | (refine (HOV.out _ HZ1.out).mono ?_; rintro e w2 ⟨rfl, hb2⟩; (have HZ2 : Hid (Z32 w w2) := HZ1.out.below hb2); (first | ((have hc2 := HC1.out.below hb2); (obtain ⟨k0, k1, k2, k3, k4, k5, k6, k7, k8, kf⟩ := hc2.cells); (have HC2 : Hid (Z54 w2 (w.heap.size + 1)) := hc2); clear hc2) | skip); clear hb2) | (refine (HOV.out _ (HZ1.out.alloc _)).mono ?_; rintro e w2 ⟨rfl, hb2⟩; (have HZ2 : Hid (Z32 w w2) := (HZ1.out.alloc _).below hb2); (have hc2 : Z54 w2 w1.heap.size := (Z54.new w1).below hb2); (obtain ⟨k0, k1, k2, k3, k4, k5, k6, k7, k8, kf⟩ := hc2.cells); (have HC2 : Hid (Z54 w2 w1.heap.size) := hc2); clear hc2 hb2)); (rw [HT.out, chain_lit])))
    all_goals (go_wp2_with fail; go_meet)
    all_goals (
      case rel =>
        first
        | (refine ⟨_, rfl, HZ2.out.lt, ?_, ⟨(HZ2.out.alloc (.cells #[.int .u32 A, .int .u32 B, .int .u32 C, .int .u32 D, .int .u32 E, .int .u32 F, .int .u32 G, .int .u32 Q, .int .i64 n1] 54)).1, (HZ2.out.alloc (.cells #[.int .u32 A, .int .u32 B, .int .u32 C, .int .u32 D, .int .u32 E, .int .u32 F, .int .u32 G, .int .u32 Q, .int .i64 n1] 54)).2⟩⟩; rw [HT.out]; exact Go.heap_alloc_new _ _)
        | (refine ⟨_, rfl, HZ1.out.lt, ?_, ⟨?_, ?_⟩⟩
           · rw [HT.out]; exact set9_row (a := 0) (b := 0) (c := 0) (d := 0) (e := 0) (f := 0) (g := 0) (q := 0) (n := 0) HC2.out
           · have h1 := HZ1.out.lt
             iterate 9 refine Below.setCell ?_ (by dsimp only; omega) _
             exact HZ2.out.1
           · exact (set9_other _ _ _ _ _ _ _ _ _ _ _ _ (by have h1 := HZ1.out.lt; omega)).trans HZ2.out.2)
        | (refine ⟨_, rfl, Nat.lt_succ_self _, ?_, ⟨?_, ?_⟩⟩
           · rw [HT.out]; exact set9_row (a := 0) (b := 0) (c := 0) (d := 0) (e := 0) (f := 0) (g := 0) (q := 0) (n := 0) HC2.out
           · iterate 9 refine Below.setCell ?_ (by dsimp only; omega) _
             exact HZ2.out.1
           · exact (set9_other _ _ _ _ _ _ _ _ _ _ _ _ (by omega)).trans HZ2.out.2))
  case rest =>
    obtain ⟨g4, rfl, hg4, q4, hZ⟩ := hcut
    have HZ : Hid (Z32 w wc) := hZ
    rw [HT.out] at q4
    have k0 : wc.cell? ⟨g4, 0, none⟩ = some (.int .u32 A) := cell_of_row _ _ _ _ _ _ q4
    have k1 : wc.cell? ⟨g4, 1, none⟩ = some (.int .u32 B) := cell_of_row _ _ _ _ _ _ q4
    have k2 : wc.cell? ⟨g4, 2, none⟩ = some (.int .u32 C) := cell_of_row _ _ _ _ _ _ q4
    have k3 : wc.cell? ⟨g4, 3, none⟩ = some (.int .u32 D) := cell_of_row _ _ _ _ _ _ q4
    have k4 : wc.cell? ⟨g4, 4, none⟩ = some (.int .u32 E) := cell_of_row _ _ _ _ _ _ q4
    have k5 : wc.cell? ⟨g4, 5, none⟩ = some (.int .u32 F) := cell_of_row _ _ _ _ _ _ q4
    have k6 : wc.cell? ⟨g4, 6, none⟩ = some (.int .u32 G) := cell_of_row _ _ _ _ _ _ q4
    have k7 : wc.cell? ⟨g4, 7, none⟩ = some (.int .u32 Q) := cell_of_row _ _ _ _ _ _ q4
    have k8 : wc.cell? ⟨g4, 8, none⟩ = some (.int .i64 n1) := cell_of_row _ _ _ _ _ _ q4
    have hn0 : 0 ≤ n1 := by rw [HN1.out]; omega
    have hn1 : n1 < 140737488355328 := by
      have h1 := HL.out
      have h2 : (zs.take m).length ≤ zs.length := by rw [List.length_take]; omega
      rw [HN1.out]; omega
    have hdl : (zs.drop m).length = zs.length - m := by simp
    have hdl64 : (zs.drop m).length < 64 := by rw [hdl, HM.out]; unfold wholeN; omega
    obtain ⟨S2, hS2⟩ : ∃ S2, S2 = frontI S1 (lastI (zs.drop m) n1) (last_byt (zs.drop m) n1 (byt_drop hz m)) := ⟨_, rfl⟩
    obtain ⟨n2, hn2⟩ : ∃ n2 : Int, n2 = n1 + (((lastI (zs.drop m) n1).length / 64 : Nat) : Int) := ⟨_, rfl⟩
    obtain ⟨P, hP⟩ : ∃ P, (if cap = m then some (⟨bb, off, none⟩ : Addr) else some ⟨bb, off + m, none⟩) = P := ⟨_, rfl⟩
    have hend : ∀ W : World, Z32 w W → Calls Tryd.prog 30 #[.agg #[.int .u32 A, .int .u32 B, .int .u32 C, .int .u32 D, .int .u32 E, .int .u32 F, .int .u32 G, .int .u32 Q, .int .i64 n1], .slice P (zs.length - m) (cap - m)] W fun e w' => e = .returned (.agg (chainV S2 n2)) ∧ Below W.heap.size W w' := by
      intro W hW
      rw [hS2, hn2, ← chain_lit, ← HT.out, ← hdl, ← hP]
      by_cases hcm : cap = m
      · rw [if_pos hcm]
        have hnil : zs.drop m = [] := by rw [List.drop_eq_nil_iff]; have := HC.out; omega
        exact end_any S1 (zs.drop m) n1 bb off (cap - m) W (roots_later HR.out h0 hW.1) (by have := hW.1.size; omega) HS8.out HSW.out (byt_drop hz m) (by have := hW.1.size; omega) (by rw [hnil]; exact brow_nil _ _ _) hdl64 hn0 hn1
      · rw [if_neg hcm]
        exact end_any S1 (zs.drop m) n1 bb (off + m) (cap - m) W (roots_later HR.out h0 hW.1) (by have := hW.1.size; omega) HS8.out HSW.out (byt_drop hz m) (by have := hW.1.size; omega) (brow_drop (HB.out.later hW.1 hb) m) hdl64 hn0 hn1
    have HEND : Hid (∀ W : World, Z32 w W → Calls Tryd.prog 30 #[.agg #[.int .u32 A, .int .u32 B, .int .u32 C, .int .u32 D, .int .u32 E, .int .u32 F, .int .u32 G, .int .u32 Q, .int .i64 n1], .slice P (zs.length - m) (cap - m)] W fun e w' => e = .returned (.agg (chainV S2 n2)) ∧ Below W.heap.size W w') := hend
    obtain ⟨s8, sw⟩ := front_ok S1 (lastI (zs.drop m) n1) (last_byt (zs.drop m) n1 (byt_drop hz m)) HS8.out HSW.out
    rw [← hS2] at s8 sw
    have HSS : Hid (sumI zs hz = bytesI S2) := by
      show _ = _
      rw [hS2]
      unfold sumI sumS
      have hm' := HM.out
      have h1 := HN1.out
      rw [Int.zero_add] at h1
      have h2 := HS1.out
      subst hm'
      subst h1
      subst h2
      rfl
    have HS2 : Hid (S2.length = 8) := s8
    have HSW2 : Hid (W32 S2) := sw
    have hbl : (bytesI S2).length = 32 := by rw [bytes_len, s8]
    have hsz32 : (u8s (bytesI S2)).size = 32 := by rw [size_u8s, hbl]
    have HB32 : Hid ((bytesI S2).length = 32) := hbl
    have HIE : Hid (∀ W : World, W.heap[w.heap.size]? = some (.cells (u8s (List.replicate 32 0)) 23 (0, 0)) → (storeCells ⟨w.heap.size, 0, none⟩ (u8s (bytesI S2)).toList 0).run Tryd.prog W = .ok () (W.setRow w.heap.size (u8s (bytesI S2)))) := by
      intro W hW
      have h := run_storeCells_from (P := Tryd.prog) w.heap.size 23 (u8s (bytesI S2)).toList 0 _ W hW (by simp [size_u8s, hbl]) (fun v hv => (Array.all_eq_true_iff_forall_mem.1 (one_u8s _)) v (by simpa using hv))
      simpa using h
    clear hZ q4 hS2 hn2 hend s8 sw hbl hdl hdl64 hn0 hn1
    go_wp2_with fail
    go_region_with (first | (go_at_call 30; (refine (HEND.out _ ?_).mono ?_; exact HZ.out.below ((Below.refl _ wc).drew); rintro e w3 ⟨rfl, hb3⟩; (have HZ3 : Hid (Z32 w w3) := (HZ.out.below ((Below.refl _ wc).drew)).below hb3); clear hb3)) | (go_at_call 31; (refine (bytes_any S2 n2 w3 HS2.out HSW2.out).mono ?_; rintro e w4 ⟨rfl, hb4⟩; (have HZ4 : Hid (Z32 w w4) := HZ3.out.below hb4); (have hst := HIE.out w4 HZ4.out.2); clear hb4)))
    all_goals (
      go_wp2_with fail
      refine bodyPost_ret (v := .agg (u8s (bytesI S2))) (results_cell_row Tryd.results9 _ _ w.heap.size 23 (u8s (bytesI S2)) (0, 0) _ rfl (setRow_heap _ _ _ _ _ _ HZ4.out.2) Tryd.underlying23 rfl (by rw [hsz32]; kernel_rfl)) rfl ⟨by rw [HSS.out], below_setRow HZ4.out.1 (Nat.le_refl _) _⟩)
end Go.Proofs.YtfdmepblhlifcaaDoor
