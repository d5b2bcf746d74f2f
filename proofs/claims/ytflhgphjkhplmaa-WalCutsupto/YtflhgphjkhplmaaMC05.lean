import Derived.Test.YtflhgphjkhplmaaMC04
import Derived.WalkKit
import Derived.WalkMore
import Derived.BigQuiet
import Derived.LoopN
import Derived.Deep.CutRange
import Derived.Laws.AppendOwnNone
import Derived.Laws.IdiomStrings
import Derived.Laws.OwnMore
import Derived.Deep.MidRow
import Derived.Deep.AppendLies
import Derived.Deep.RegionLaw
import Derived.Deep.RegionHeld3
import Derived.BigRegion
import Derived.Shelf.Abstract
import Derived.OwnWalk
import Derived.Test.YtflhgphjkhplmaaProg
import Derived.Test.YtflhgphjkhplmaaChecked
import Derived.Maps.Own
import Derived.Test.YtflhgphjkhplmaaMC02
/- Frames, with its records apart. -/
namespace Go.Proofs.Ytflhgphjkhplmaa.W
open Go Go.RowKit R Go.Shelf
set_option linter.unusedVariables false
set_option linter.unusedSimpArgs false
attribute [local go_sem] Oper.semAt_some

/-- Two records' rows lie apart. -/
def Apq (x y : El) : Prop := ∀ q, x.rv.ownBlock = some q → y.rv.ownBlock ≠ some q
def Ap (pre : List El) (W : World) : Prop := (∀ x ∈ pre, ∀ q, x.rv.ownBlock = some q → q < W.heap.size) ∧ pre.Pairwise Apq
theorem Ap.nil (W : World) : Ap [] W := ⟨fun x hx => (nomatch hx), .nil⟩
theorem Ap.le {pre : List El} {W W' : World} (h : Ap pre W) (hs : W.heap.size ≤ W'.heap.size) : Ap pre W' := ⟨fun x hx q hq => by have := h.1 x hx q hq; omega, h.2⟩
theorem Ap.snoc {pre : List El} {x : El} {W0 W : World} (h : Ap pre W0) (hs : W0.heap.size ≤ W.heap.size) {n : Nat} {zs : List Value} (ho : W.ownsRow W0.heap.size 5 1 x.rv n zs) : Ap (pre ++ [x]) W := by
  refine ⟨fun y hy q hq => ?_, List.pairwise_append.2 ⟨h.2, List.pairwise_singleton _ _, fun y hy z hz q hq e => ?_⟩⟩
  · rcases List.mem_append.1 hy with hy | hy
    · have := h.1 y hy q hq; omega
    · obtain rfl := List.mem_singleton.1 hy
      exact (ho.lt q hq).2
  · obtain rfl := List.mem_singleton.1 hz
    have h1 := h.1 y hy q hq
    have h2 := (ho.lt q e).1
    omega
set_option maxRecDepth 100000 in
set_option maxHeartbeats 4000000 in
theorem frames_apart {v : Value} {zs : List Int} {w : World} (h : Bz w v zs) (hr : ∀ q, v.ownBlock = some q → ∃ (c : Array Value) (f : Nat × Nat), w.heap[q]? = some (.cells c 5 f)) :
    Calls Try.prog 11 #[v] w fun e w' => ∃ (xs : List El) (lv : Value), e = .returned (.tuple #[lv, .int .u64 (lastN xs : Int), .int .i64 (lastE xs : Int)]) ∧ xs.map El.pl = goodI zs ∧ w'.ownsRow w.heap.size 23 1 lv xs.length (xs.map El.rv) ∧ (∀ x ∈ xs, rowX w.heap.size x w') ∧ Below w.heap.size w w' ∧ xs.Pairwise Apq := by
  obtain ⟨a, c, hv, -⟩ := h.ex
  obtain ⟨N, hN⟩ : ∃ N, zs.length = N := ⟨_, rfl⟩
  rw [hN] at hv
  subst hv
  obtain ⟨W1, hW1⟩ : ∃ W1, ((w.alloc (.cells #[.slice none 0 0] 29)).alloc (.cells #[.int .u64 0] 22)).alloc (.cells #[.int .i64 0] 3) = W1 := ⟨_, rfl⟩
  have H1 : Hid (Below w.heap.size w W1 ∧ Boxed W1 w.heap.size 29 (.slice none 0 0) ∧ Boxed W1 (w.heap.size + 1) 22 (.int .u64 0) ∧ Boxed W1 (w.heap.size + 1 + 1) 3 (.int .i64 0) ∧ W1.heap.size = w.heap.size + 3) := by
    show _ ∧ _
    rw [← hW1]
    refine ⟨((bel1 _ _).alloc (by simp) _).alloc (by simp; omega) _, ((Boxed.new _ _ _).alloc _).alloc _, ?_, ?_, by simp⟩
    · have h := Boxed.new (w.alloc (.cells #[.slice none 0 0] 29)) 22 (.int .u64 0)
      rw [World.size_alloc] at h
      exact h.alloc _
    · have h := Boxed.new ((w.alloc (.cells #[.slice none 0 0] 29)).alloc (.cells #[.int .u64 0] 22)) 3 (.int .i64 0)
      rw [World.size_alloc, World.size_alloc] at h
      exact h
  have hG1 : GB (W1.alloc (.cells #[.slice a N c] 23)) W1.heap.size (.slice a N c) zs :=
    ⟨Go.heap_alloc_new _ _, (h.newer H1.out.1).newer (bel1 _ _), fun q hq => by
      obtain ⟨cc, f, e⟩ := hr q hq
      have hlt := (Array.getElem?_eq_some_iff.1 e).1
      have hl1 := H1.out.1.size
      exact ⟨cc, f, ((bel1 W1 _).block q (by omega)).trans ((H1.out.1.block q hlt).trans e)⟩⟩
  have HG : Hid (GB (W1.alloc (.cells #[.slice a N c] 23)) W1.heap.size (.slice a N c) zs) := hG1
  have HW1 : Hid (((w.alloc (.cells #[.slice none 0 0] 29)).alloc (.cells #[.int .u64 0] 22)).alloc (.cells #[.int .i64 0] 3) = W1) := hW1
  clear h hr hG1 hW1 hN
  refine (callsIn_wide (n := 8)).1 ?_
  refine callsIn_of_wp_marks Try.func11 rfl trivial ?_ rfl
  refine wpIn_wide.2 ?_
  simp only [Try.ntmps11, List.size_toArray, List.length_cons, List.length_nil, Nat.reduceAdd, Nat.reduceSub, Array.replicate_succ, Array.replicate_zero, List.push_toArray, List.append_toArray, List.nil_append, List.cons_append]
  go_upto_region 3 with (fail)
  rw [HW1.out]
  clear HW1
  go_wp2_with (go_at_call 38; refine (good_any a N c W1).mono ?_; rintro e W2 ⟨rfl, hW2⟩; rw [hW2]; clear hW2)
  obtain ⟨W2, hW2⟩ : ∃ W2, W1.alloc (.cells #[.slice a N c] 23) = W2 := ⟨_, rfl⟩
  have HB12 : Hid (Below W1.heap.size W1 W2) := by rw [← hW2]; exact bel1 _ _
  rw [hW2] at HG ⊢
  clear hW2
  obtain ⟨B5, B6, B7, BX, e5, e6, e7, eX⟩ : ∃ B5 B6 B7 BX, w.heap.size = B5 ∧ w.heap.size + 1 = B6 ∧ w.heap.size + 1 + 1 = B7 ∧ W1.heap.size = BX := ⟨_, _, _, _, rfl, rfl, rfl, rfl⟩
  have HBN : Hid (w.heap.size ≤ B5 ∧ B5 < B6 ∧ B6 < B7 ∧ B7 < BX ∧ BX < W2.heap.size) := ⟨by omega, by omega, by omega, by have := H1.out.2.2.2.2; omega, by rw [← eX]; exact HG.out.lt⟩
  have HI0 : Hid (FrI w W2.heap.size B5 B6 B7 [] W2) := by
    obtain ⟨h1, h2, h3, h4, h5⟩ := H1.out
    rw [e5] at h2
    rw [e6] at h3
    rw [e7] at h4
    have k : ∀ q, q < W1.heap.size → W2.heap[q]? = W1.heap[q]? := fun q hq => HB12.out.block q hq
    exact ⟨⟨.slice none 0 0, (k B5 (by omega)).trans h2, World.ownsRow_nil _ _ _ _⟩, (k B6 (by omega)).trans h3, (k B7 (by omega)).trans h4, ⟨h1.trans (HB12.out.mono h1.size), Nat.le_refl _⟩, fun x hx => by simp at hx⟩
  rw [e7, e6, e5, eX]
  rw [eX] at HG
  clear e5 e6 e7 eX H1 HB12
  refine (wpIn_wide (n := 8)).1 ?_
  refine range_x rfl (by omega) (gf := 66) (lb := #[.pointer (some ⟨BX, 0, none⟩)]) rfl trivial (enters_of Try.func66 (by kernel_rfl) rfl)
    (good_seq 7 BX w.heap.size (.slice a N c) zs W2 (by omega) (by have := HBN.out; omega) HG.out)
    (fun pre W => FrI w W2.heap.size B5 B6 B7 pre W ∧ Ap pre W)
    (fun pre x a' W => (∃ g8 ra rc, x.rv = .slice ra x.r.length rc ∧ a' = { tmps := #[.slice a N c, undef, .slice none 0 0, .int .u64 0, .int .i64 0, .pointer (some ⟨B5, 0, none⟩), .pointer (some ⟨B6, 0, none⟩), .pointer (some ⟨B7, 0, none⟩), .pointer (some ⟨g8, 0, none⟩), .int .i64 (x.e : Int), .slice a N c, .func (.func 66) #[] #[.pointer (some ⟨BX, 0, none⟩)], .agg #[.int .u64 (x.n : Int), .slice ra x.r.length rc], .int .i64 (x.e : Int), undef, undef, undef, undef, undef, undef, undef, undef, undef, undef, undef], defers := [] } ∧ FrI w W2.heap.size B5 B6 B7 pre W ∧ W.heap[g8]? = some (.cells #[.int .u64 (x.n : Int), .slice ra x.r.length rc] 81 (0, 0)) ∧ pre.length ≤ 2000000 ∧ ∃ (cc : Array Value) (f : Nat × Nat), W.heap[x.g]? = some (.cells cc 81 f)) ∧ Ap (pre ++ [x]) W)
    KE.trans ?put (Below.refl _ _) (fun _ => rfl) (fun pre W W' row hs hg hr => ⟨hs.1.from hg (fun r e => ⟨by have := (hr r e).1; have := HBN.out; omega, (hr r e).2⟩), hs.2.le hg.size⟩) ?ownS ⟨HI0.out, Ap.nil _⟩ ?ownA ?assign ?body ?done
  case put =>
    intro pre x a' W l o o' hor h1 h2 h3 h4
    have off : ∀ (q : Nat) (c : Array Value) (t : TypeId) (f : Nat × Nat), W.heap[q]? = some (.cells c t f) → (W.putObj l o').heap[q]? = W.heap[q]? := fun q c t f hq => World.putObj_heap_other fun e => by
      subst e
      rw [h2] at hq
      cases hq
      cases h3
    have hbx : BX < W2.heap.size := HBN.out.2.2.2.2
    refine ⟨⟨by simp, fun q c f hq => off q c 5 f hq, World.putObj_heap_other (by omega)⟩, ?_⟩
    rcases hor with ⟨⟨_, _, _, _, _, _, _, _, cc, f, hg⟩, _⟩ | hI
    · exact off _ _ _ _ hg
    · obtain ⟨c, t, f, hg⟩ := hI.1.2.2.2.2 x (by simp)
      exact off _ _ _ _ hg
  case ownS => exact fun xs W W' row hs hg hr => ⟨hs.1, fun x hx => grown_own hg (fun r e => (hr r e).2) (hs.2 x hx)⟩
  case ownA =>
    rintro pre x a' _ W W' row ⟨⟨g8, ra, rc, h1, h2, h3, h4, h5, cc, f, h6⟩, hap⟩ hg hr
    have hr2 := fun r e => (hr r e).2
    exact ⟨⟨g8, ra, rc, h1, h2, h3.from hg (fun r e => ⟨by have := (hr r e).1; have := HBN.out; omega, (hr r e).2⟩), (grown_cells hg hr2 h4).trans h4, h5, cc, f, (grown_cells hg hr2 h6).trans h6⟩, hap.le hg.size⟩
  case assign =>
    rintro l pre x W W0 K hI hb hX hK
    obtain ⟨x0, x1, x2, x3, x4⟩ := hX
    have hrow : W.ownsRow W0.heap.size 5 1 x.rv x.r.length (u8l x.r) := x3
    obtain ⟨ra, rc, hrv⟩ := own_slice hrow
    have HK := hK
    have HAP : Hid (Ap (pre ++ [x]) W) := hI.2.snoc hb.size hrow
    have hI := hI.1
    have HX : Hid (FrI w W2.heap.size B5 B6 B7 pre W ∧ W.heap[x.g]? = some (.cells #[.int .u64 (x.n : Int), x.rv] 81 (0, 0)) ∧ x.rv = .slice ra x.r.length rc ∧ x.g < W.heap.size ∧ pre.length ≤ 2000000 ∧ BX < W.heap.size) := ⟨hI.later hb, x2, hrv, (Array.getElem?_eq_some_iff.1 x2).1, x0, by have h1 := (hI.later hb).2.2.2.1.2; have h2 := HBN.out; omega⟩
    unfold elG
    rw [hrv]
    clear hK hI hb x1 x2 x3 x4 hrow hrv x0
    gi_wp2_with fail
    obtain ⟨k1, k2, k3, k4, k5, k6⟩ := HX.out
    have hb := bel1 W (.cells #[.int .u64 (x.n : Int), .slice ra x.r.length rc] 81)
    exact HK _ _ ((keeps_below hb).from _) ⟨KB.of hb k6, hb.block _ k4⟩ ⟨⟨W.heap.size, ra, rc, k3, rfl, k1.later hb, Go.heap_alloc_new _ _, k5, _, _, (hb.block _ k4).trans k2⟩, HAP.out.le hb.size⟩
  case body =>
    rintro l pre x a' W hl ⟨⟨g8, ra, rc, hrv, rfl, ⟨⟨lv, h1, h2⟩, h3, h4, h5, h6⟩, h7, h8, cc, f, h9⟩, hap⟩
    have HAP : Hid (Ap (pre ++ [x]) W) := hap
    clear hap
    obtain ⟨i0, hi, hz0, hz1, hz2⟩ := info_parts info23
    obtain ⟨la, lc, hlv⟩ := own_slice h2
    subst hlv
    have c5 : W.cell? ⟨B5, 0, none⟩ = some (.slice la pre.length lc) := h1.cell
    have c8 : W.cell? ⟨g8, 1, none⟩ = some (.slice ra x.r.length rc) := by rw [cell_of_row _ _ _ _ _ _ h7]; rfl
    have n1 : ¬ g8 = B5 := ne_tag h7 h1 (by decide)
    have n2 : ¬ g8 = B6 := ne_tag h7 h3 (by decide)
    have n3 : ¬ g8 = B7 := ne_tag h7 h4 (by decide)
    have n4 : ¬ B6 = B5 := by have := HBN.out; omega
    have n5 : ¬ B7 = B5 := by have := HBN.out; omega
    have n6 : ¬ B7 = B6 := by have := HBN.out; omega
    have HX : Hid ((W.ownsRow W2.heap.size 23 1 (.slice la pre.length lc) pre.length (pre.map El.rv) ∧ W2.heap.size ≤ W.heap.size ∧ pre.length ≤ 2000000) ∧ Boxed W B5 29 (.slice la pre.length lc) ∧ Boxed W B6 22 (.int .u64 (lastN pre : Int)) ∧ Boxed W B7 3 (.int .i64 (lastE pre : Int)) ∧ W.heap[g8]? = some (.cells #[.int .u64 (x.n : Int), .slice ra x.r.length rc] 81 (0, 0)) ∧ W.heap[x.g]? = some (.cells cc 81 f) ∧ x.rv = .slice ra x.r.length rc ∧ Below w.heap.size w W) := ⟨⟨h2, h5.2, h8⟩, h1, h3, h4, h7, h9, hrv, h5.1⟩
    have HI23 : Hid (Try.prog.info? 23 = some i0 ∧ i0.zero = some (.slice none 0 0) ∧ i0.size = 1 ∧ i0.bytes = 24) := ⟨hi, hz0, hz1, hz2⟩
    clear h1 h2 h3 h4 h5 h6 h7 h8 h9 hrv hi hz0 hz1 hz2
    gi_wp2_with (gi_at_builtin; (refine wpListIn_append_own _ rfl (.tmp 14) (.tmp 17) 29 rfl W2.heap.size 23 i0 (.slice none 0 0) 1 24 Try.underlying29 HI23.out.1 HI23.out.2.1 HI23.out.2.2.1 HI23.out.2.2.2 rfl (by decide) (.slice la pre.length lc) pre.length (pre.map El.rv) rfl (HX.out.1.1.alloc _) ⟨W.heap.size, 0, none⟩ 1 1 [.slice ra x.r.length rc] rfl rfl (World.news_of_block (Go.heap_alloc_new _ _)) (by intro u hu; obtain rfl := List.mem_singleton.1 hu; rfl) (by have := HX.out.1.2.2; unfold maxLen; omega) (by have := HX.out.1.2.2; omega) (by have := HX.out.1.2.1; simp; omega) ?_; intro v9 w9 ho9 hg9 h9x; clear h9x; obtain ⟨a9, k9, e9⟩ := own_slice ho9; subst e9; (have H9 : Hid (w9.ownsRow W2.heap.size 23 1 (.slice a9 (pre.length + 1) k9) (pre.length + 1) (pre.map El.rv ++ [.slice ra x.r.length rc]) ∧ (W.alloc (.cells #[.slice ra x.r.length rc] 23)).grownBy w9 (Value.slice la pre.length lc).ownBlock) := ⟨ho9, hg9⟩); clear ho9 hg9; (have KW := frW HX.out.1.1 HX.out.1.2.1 H9.out.2); (have r5 : Boxed w9 B5 29 (.slice la pre.length lc) := (KW.1 _ _ _ _ HX.out.2.1 (by decide)).trans HX.out.2.1); (have r6 : Boxed w9 B6 22 (.int .u64 (lastN pre : Int)) := (KW.1 _ _ _ _ HX.out.2.2.1 (by decide)).trans HX.out.2.2.1); (have r7 : Boxed w9 B7 3 (.int .i64 (lastE pre : Int)) := (KW.1 _ _ _ _ HX.out.2.2.2.1 (by decide)).trans HX.out.2.2.2.1); (have r8 := (KW.1 _ _ _ _ HX.out.2.2.2.2.1 (by decide)).trans HX.out.2.2.2.2.1); (have q5 := r5.cell); (have q6 := r6.cell); (have q7 := r7.cell); (have q8 : w9.cell? ⟨g8, 0, none⟩ = some (.int .u64 (x.n : Int)) := by rw [cell_of_row _ _ _ _ _ _ r8]; rfl); (have p5 := r5.frozen); (have p6 := r6.frozen); (have p7 := r7.frozen); (have HR : Hid (Boxed w9 B5 29 (.slice la pre.length lc) ∧ Boxed w9 B6 22 (.int .u64 (lastN pre : Int)) ∧ Boxed w9 B7 3 (.int .i64 (lastE pre : Int))) := ⟨r5, r6, r7⟩); (have HKW : Hid _ := KW); clear KW r5 r6 r7 r8))
    obtain ⟨k1, k2, k3⟩ := HKW.out
    obtain ⟨r5, r6, r7⟩ := HR.out
    obtain ⟨o1, o2, o3, o4, o5, o6, o7, o8⟩ := HX.out
    obtain ⟨z1, z2, z3, z4, z5⟩ := HBN.out
    have s1 : ∀ q, q ≠ B5 → q ≠ B6 → q ≠ B7 → (((w9.setCell ⟨B5, 0, none⟩ (.slice a9 (pre.length + 1) k9)).setCell ⟨B6, 0, none⟩ (.int .u64 (x.n : Int))).setCell ⟨B7, 0, none⟩ (.int .i64 (x.e : Int))).heap[q]? = w9.heap[q]? := fun q h5 h6 h7 => by
      rw [Below.heap_setCell _ _ _ _ h7, Below.heap_setCell _ _ _ _ h6, Below.heap_setCell _ _ _ _ h5]
    have s0 : (((w9.setCell ⟨B5, 0, none⟩ (.slice a9 (pre.length + 1) k9)).setCell ⟨B6, 0, none⟩ (.int .u64 (x.n : Int))).setCell ⟨B7, 0, none⟩ (.int .i64 (x.e : Int))).heap.size = w9.heap.size := by simp
    have keep : ∀ (q : Nat) (c : Array Value) (t : TypeId) (f : Nat × Nat), W.heap[q]? = some (.cells c t f) → t ≠ 23 → t ≠ 29 → t ≠ 22 → t ≠ 3 → (((w9.setCell ⟨B5, 0, none⟩ (.slice a9 (pre.length + 1) k9)).setCell ⟨B6, 0, none⟩ (.int .u64 (x.n : Int))).setCell ⟨B7, 0, none⟩ (.int .i64 (x.e : Int))).heap[q]? = W.heap[q]? := fun q c t f hq t1 t2 t3 t4 => by
      rw [s1 q (ne_tag hq o2 t2) (ne_tag hq o3 t3) (ne_tag hq o4 t4)]
      exact k1 q c t f hq t1
    have hnb : BX < W.heap.size := by have := o1.2.1; omega
    refine ⟨((k3.trans (KeepsOthers.setCell _ _ _)).trans (KeepsOthers.setCell _ _ _)).trans (KeepsOthers.setCell _ _ _) |>.from _, ⟨⟨by rw [s0]; exact k2.size, fun q c f hq => keep q c 5 f hq (by decide) (by decide) (by decide) (by decide), ?_⟩, keep _ _ _ _ o6 (by decide) (by decide) (by decide) (by decide)⟩, ⟨⟨.slice a9 (pre.length + 1) k9, ?_, ?_⟩, ?_, ?_, ⟨?_, ?_⟩, fun y hy => ?_⟩, HAP.out.le (by rw [s0]; exact k2.size)⟩
    · rw [s1 BX (by omega) (by omega) (by omega)]
      exact k2.block BX z5
    · exact ((r5.set _).other (by omega) _).other (by omega) _
    · rw [List.length_append, List.length_singleton, List.map_append, List.map_cons, List.map_nil, o7]
      refine own_at H9.out.1 fun q hq => ?_
      have := (H9.out.1.lt q hq).1
      exact s1 q (by omega) (by omega) (by omega)
    · rw [lastN_snoc]
      exact ((r6.other (by omega) _).set _).other (by omega) _
    · rw [lastE_snoc]
      exact ((r7.other (by omega) _).other (by omega) _).set _
    · exact ((((o8.trans (k2.mono (by omega))).setCell (p := ⟨B5, 0, none⟩) z1 _).setCell (p := ⟨B6, 0, none⟩) (by show _ ≤ B6; omega) _).setCell (p := ⟨B7, 0, none⟩) (by show _ ≤ B7; omega) _)
    · rw [s0]
      exact Nat.le_trans o1.2.1 k2.size
    · obtain rfl : x = y := by simpa using hy
      exact ⟨cc, 81, f, (keep _ _ _ _ o6 (by decide) (by decide) (by decide) (by decide)).trans o6⟩
  case done =>
    rintro Dm xs W hD ⟨hx1, hx2⟩ ⟨⟨⟨lv, h1, h2⟩, h3, h4, h5, h6⟩, hap⟩ hK
    have HAP : Hid (xs.Pairwise Apq) := hap.2
    clear hap
    obtain ⟨la, lc, hlv⟩ := own_slice h2
    subst hlv
    have c5 : W.cell? ⟨B5, 0, none⟩ = some (.slice la xs.length lc) := h1.cell
    have c6 : W.cell? ⟨B6, 0, none⟩ = some (.int .u64 (lastN xs : Int)) := h3.cell
    have c7 : W.cell? ⟨B7, 0, none⟩ = some (.int .i64 (lastE xs : Int)) := h4.cell
    have HE : Hid (xs.map El.pl = goodI zs ∧ (∀ x ∈ xs, rowX w.heap.size x W) ∧ W.ownsRow W2.heap.size 23 1 (.slice la xs.length lc) xs.length (xs.map El.rv) ∧ Below w.heap.size w W ∧ w.heap.size ≤ W2.heap.size ∧ W2.heap.size ≤ Dm) := ⟨hx1, hx2, h2, h5.1, by have := HBN.out; omega, hD⟩
    have HD : Hid (W.heap[Dm]? = some (.deferred (some []))) := hK
    obtain ⟨ln, hln⟩ : ∃ ln, lastN xs = ln := ⟨_, rfl⟩
    obtain ⟨le, hle⟩ : ∃ le, lastE xs = le := ⟨_, rfl⟩
    have HLL : Hid (lastN xs = ln ∧ lastE xs = le) := ⟨hln, hle⟩
    rw [hln] at c6
    rw [hle] at c7
    clear hln hle
    clear hD hx1 hx2 h1 h2 h3 h4 h5 h6 hK
    go_wp2_with fail
    go_quiet (fail)
    go_wp2_with fail
    have hk : (W.drewN nq).heap[Dm]? = some (.deferred (some [])) := HD.out
    obtain ⟨e1, e2, e3, e4, e5, e6⟩ := HE.out
    have hg : (W.drewN nq).grownBy ((W.drewN nq).putObj Dm (.deferred none)) (some Dm) := grownBy_putObj' _ _ _
    have hr : ∀ r, some Dm = some r → ∃ o : Obj, (W.drewN nq).heap[r]? = some o ∧ o.isCells = false := fun r e => by cases e; exact ⟨_, hk, rfl⟩
    have hb0 : Below w.heap.size w (W.drewN nq) := ⟨e4.os, e4.tape, e4.output, e4.size, e4.block⟩
    refine ⟨by simp, .inl ⟨_, _, rfl, run_takeDeferred hk, ?_⟩⟩
    refine ⟨_, results_tmp3 rfl _ _ _, xs, .slice la xs.length lc, by rw [HLL.out.1, HLL.out.2]; rfl, e1, own_low (grown_own hg hr (own_at e3 fun q hq => rfl)) e5, fun x hx => grown_own hg hr (own_at (e2 x hx) fun q hq => rfl), hb0.grown hg hb0.size (fun q e => by cases e; omega), HAP.out⟩
end Go.Proofs.Ytflhgphjkhplmaa.W

/- General: texts, rows of structs as they lie, frames. Nothing of a program. -/
namespace Go.Proofs.Ytflhgphjkhplmaa.D
open Go.RowKit
set_option linter.unusedVariables false
set_option linter.unusedSimpArgs false

/-- Bytes as a text. -/
def tx (l : List UInt8) : ByteArray := ⟨l.toArray⟩
theorem tx_list (l : List UInt8) : (tx l).toList = l := ByteArray.toList_mk l
theorem tx_inj {a b : List UInt8} (h : tx a = tx b) : a = b := by rw [← tx_list a, h, tx_list]
theorem tx_size (l : List UInt8) : (tx l).size = l.length := by simp [tx, ByteArray.size]
theorem tx_of (s : ByteArray) : s = tx s.toList := by
  obtain ⟨l, rfl⟩ : ∃ l, s = tx l := ⟨s.data.toList, by cases s; simp [tx]⟩
  rw [tx_list]

/-! Rows of structs: a list of things, each told as so many cells. -/
variable {α : Type} {f : α → List Value} {m : Nat}
def fl (f : α → List Value) : List α → List Value
  | [] => []
  | p :: r => f p ++ fl f r
theorem fl_len (hf : ∀ x, (f x).length = m) : ∀ ps, (fl f ps).length = ps.length * m
  | [] => by simp [fl]
  | p :: r => by rw [fl, List.length_append, hf, fl_len hf r, List.length_cons, Nat.add_mul, Nat.one_mul, Nat.add_comm]
theorem fl_app : ∀ a b : List α, fl f (a ++ b) = fl f a ++ fl f b
  | [], b => rfl
  | p :: r, b => by simp [fl, fl_app r b]
theorem fl_at (hf : ∀ x, (f x).length = m) : ∀ (ps : List α) (i : Nat) (p : α) (r : Nat), ps[i]? = some p → r < m → (fl f ps)[i * m + r]? = (f p)[r]?
  | [], i, p, r, h, _ => by simp at h
  | q :: l, 0, p, r, h, hr => by
    simp at h
    rw [← h, fl, List.getElem?_append_left (by rw [hf]; omega)]
    simp
  | q :: l, i + 1, p, r, h, hr => by
    simp at h
    rw [fl, List.getElem?_append_right (by rw [hf, Nat.add_mul]; omega), hf, show (i + 1) * m + r - m = i * m + r by rw [Nat.add_mul]; omega]
    exact fl_at hf l i p r h hr
theorem fl_take (hf : ∀ x, (f x).length = m) : ∀ (ss : List α) (i : Nat), (fl f ss).take (i * m) = fl f (ss.take i)
  | [], i => by simp [fl]
  | p :: r, 0 => by simp [fl]
  | p :: r, i + 1 => by
    rw [List.take_succ_cons, fl, fl, List.take_append, List.take_of_length_le (by rw [hf, Nat.add_mul]; omega), hf, show (i + 1) * m - m = i * m by rw [Nat.add_mul]; omega, fl_take hf r i]
theorem fl_drop (hf : ∀ x, (f x).length = m) : ∀ (ss : List α) (i : Nat), (fl f ss).drop (i * m) = fl f (ss.drop i)
  | [], i => by simp [fl]
  | p :: r, 0 => by simp [fl]
  | p :: r, i + 1 => by
    rw [List.drop_succ_cons, fl, List.drop_append, List.drop_of_length_le (by rw [hf, Nat.add_mul]; omega), hf, show (i + 1) * m - m = i * m by rw [Nat.add_mul]; omega, fl_drop hf r i]
    rfl
theorem fl_one (h1 : ∀ x, ∀ u ∈ f x, u.oneCell' = true) : ∀ (ss : List α), ∀ u ∈ fl f ss, u.oneCell' = true
  | [], u, h => by simp [fl] at h
  | p :: r, u, h => by
    rcases List.mem_append.1 (show u ∈ f p ++ fl f r from h) with h | h
    · exact h1 p u h
    · exact fl_one h1 r u h
/-- Cells that are put one behind the other. -/
def setN {β : Type} : List β → Nat → List β → List β
  | l, _, [] => l
  | l, i, v :: r => setN (l.set i v) (i + 1) r
theorem setN_right {β : Type} : ∀ (vs a b : List β) (i : Nat), setN (a ++ b) (a.length + i) vs = a ++ setN b i vs
  | [], a, b, i => rfl
  | v :: r, a, b, i => by
    rw [setN, List.set_append_right _ _ (by omega), show a.length + i - a.length = i by omega, Nat.add_assoc, setN_right r a (b.set i v) (i + 1)]
    rfl
theorem setN_left {β : Type} : ∀ (vs a b : List β) (i : Nat), i + vs.length = a.length → setN (a ++ b) i vs = a.take i ++ vs ++ b
  | [], a, b, i, h => by
    simp at h
    rw [h, List.take_length]
    simp [setN]
  | v :: r, a, b, i, h => by
    simp at h
    rw [setN, List.set_append_left _ _ (by omega), setN_left r (a.set i v) b (i + 1) (by simp; omega), List.take_add_one]
    simp [List.take_set_of_le, List.getElem?_set, show i < a.length by omega]
theorem fl_set (hf : ∀ x, (f x).length = m) : ∀ (ss : List α) (k : Nat) (x : α), k < ss.length → setN (fl f ss) (k * m) (f x) = fl f (ss.set k x)
  | [], k, x, h => by simp at h
  | p :: r, 0, x, h => by
    rw [fl, Nat.zero_mul, setN_left _ _ _ 0 (by rw [hf, hf]; omega)]
    simp [fl]
  | p :: r, k + 1, x, h => by
    simp at h
    rw [fl, show (k + 1) * m = (f p).length + k * m by rw [hf, Nat.add_mul]; omega, setN_right, fl_set hf r k x h]
    rfl

/-! Rows that are owned. -/
theorem own_form {w : World} {base size n : Nat} {e : TypeId} {v : Value} {xs : List Value} (h : w.ownsRow base e size v n xs) (hn : 0 < n) : ∃ g cap, v = .slice (some ⟨g, 0, none⟩) n cap := by
  rcases h.2 with ⟨_, h'⟩ | ⟨g, cp, cur, hv, _⟩
  · omega
  · exact ⟨g, cp, hv⟩
theorem own_slice {w : World} {base size n : Nat} {e : TypeId} {v : Value} {xs : List Value} (h : w.ownsRow base e size v n xs) : ∃ a cap, v = .slice a n cap := by
  rcases h.2 with ⟨h, h'⟩ | ⟨g, cp, cur, hv, _⟩
  · exact ⟨_, _, by rw [h, h']⟩
  · exact ⟨_, cp, hv⟩
theorem own_cap {w : World} {base size n n' g cap : Nat} {e : TypeId} {xs : List Value} (h : w.ownsRow base e size (.slice (some ⟨g, 0, none⟩) n' cap) n xs) : n ≤ cap := by
  rcases h.2 with ⟨h', _⟩ | ⟨g', cp', cur, hv, _, _, h3, _⟩
  · cases h'
  · cases hv; exact h3
theorem own_at {w w' : World} {base size n : Nat} {e : TypeId} {v : Value} {xs : List Value} (h : w.ownsRow base e size v n xs) (hk : ∀ q, v.ownBlock = some q → w'.heap[q]? = w.heap[q]?) : w'.ownsRow base e size v n xs :=
  ⟨h.1, h.2.imp id fun ⟨g, cap, cur, hv, hg, hc, r⟩ => ⟨g, cap, cur, hv, hg, (hk g (by rw [hv]; rfl)).trans hc, r⟩⟩
theorem own_lt {w : World} {base size n g cap n' : Nat} {e : TypeId} {xs : List Value} (h : w.ownsRow base e size (.slice (some ⟨g, 0, none⟩) n' cap) n xs) : base ≤ g ∧ g < w.heap.size := h.lt g rfl
theorem own_low {w : World} {base base' size n : Nat} {e : TypeId} {v : Value} {xs : List Value} (h : w.ownsRow base e size v n xs) (hb : base' ≤ base) : w.ownsRow base' e size v n xs :=
  ⟨h.1, h.2.imp id fun ⟨g, cap, cur, hv, hg, hc, r⟩ => ⟨g, cap, cur, hv, by omega, hc, r⟩⟩
theorem own_tag {w : World} {base size n q : Nat} {e : TypeId} {v : Value} {xs : List Value} (h : w.ownsRow base e size v n xs) (hq : v.ownBlock = some q) : ∃ cur, w.heap[q]? = some (.cells cur e (0, 0)) := by
  rcases h.2 with ⟨h1, _⟩ | ⟨g, cp, cur, hv, hg, hc, _⟩
  · rw [h1] at hq; cases hq
  · rw [hv] at hq
    have : g = q := by simpa [Value.ownBlock] using hq
    subst this
    exact ⟨cur, hc⟩
theorem ne_tag {w : World} {a b : Nat} {c c' : Array Value} {t t' : TypeId} {f f' : Nat × Nat} (h : w.heap[a]? = some (.cells c t f)) (h' : w.heap[b]? = some (.cells c' t' f')) (ht : t ≠ t') : a ≠ b := by
  intro e
  subst e
  rw [h] at h'
  cases h'
  exact ht rfl
theorem own_other {w : World} {base n F size : Nat} {e t : TypeId} {v : Value} {xs : List Value} {c : Array Value} {f : Nat × Nat} (h : w.ownsRow base e size v n xs) (hF : w.heap[F]? = some (.cells c t f)) (ht : t ≠ e) : some F ≠ v.ownBlock := by
  intro hq
  obtain ⟨cur, hc⟩ := own_tag h hq.symm
  exact ne_tag hF hc ht rfl
theorem row_set {w : World} {b i : Nat} {c : Array Value} {t : TypeId} {f : Nat × Nat} (v : Value) (h : w.heap[b]? = some (.cells c t f)) : (w.setCell ⟨b, i, none⟩ v).heap[b]? = some (.cells (c.setIfInBounds i v) t f) := by
  simp [World.setCell, Array.getElem?_modify, h]
theorem own_set {w : World} {base e size g n cap i : Nat} {xs : List Value} (h : w.ownsRow base e size (.slice (some ⟨g, 0, none⟩) n cap) n xs) (hi : i < xs.length) (v : Value) : (w.setCell ⟨g, i, none⟩ v).ownsRow base e size (.slice (some ⟨g, 0, none⟩) n cap) n (xs.set i v) := by
  refine ⟨by rw [List.length_set]; exact h.1, .inr ?_⟩
  rcases h.2 with ⟨h', _⟩ | ⟨g', cp', cur, hv, hb, hc, h3, h4, h5, h6⟩
  · cases h'
  · cases hv
    refine ⟨g, cap, cur.setIfInBounds i v, rfl, hb, row_set _ hc, h3, h4, by simpa using h5, ?_⟩
    rw [Array.toList_setIfInBounds, ← h6, List.take_set]
theorem own_setN : ∀ (vs : List Value) {w : World} {base e size g n cap i : Nat} {xs : List Value}, w.ownsRow base e size (.slice (some ⟨g, 0, none⟩) n cap) n xs → i + vs.length ≤ xs.length → (w.setCells g i vs).ownsRow base e size (.slice (some ⟨g, 0, none⟩) n cap) n (setN xs i vs)
  | [], w, base, e, size, g, n, cap, i, xs, h, hl => h
  | v :: r, w, base, e, size, g, n, cap, i, xs, h, hl => by
    simp at hl
    exact own_setN r (own_set h (by omega) v) (by simp; omega)
theorem own_put {w : World} {base e g cap k : Nat} {l : List α} (hf : ∀ x, (f x).length = m) (h : w.ownsRow base e m (.slice (some ⟨g, 0, none⟩) l.length cap) l.length (fl f l)) (hk : k < l.length) (x : α) : (w.setCells g (k * m) (f x)).ownsRow base e m (.slice (some ⟨g, 0, none⟩) (l.set k x).length cap) (l.set k x).length (fl f (l.set k x)) := by
  have h2 := own_setN (f x) (i := k * m) h (by
    rw [hf, fl_len hf]
    have := Nat.mul_le_mul_right m (show k + 1 ≤ l.length from hk)
    rw [Nat.add_mul] at this
    omega)
  rw [fl_set hf l k x hk] at h2
  rw [List.length_set]
  exact h2
theorem own_there {w : World} {base e g cap k : Nat} {l : List α} (hf : ∀ x, (f x).length = m) (h : w.ownsRow base e m (.slice (some ⟨g, 0, none⟩) l.length cap) l.length (fl f l)) (hk : k < l.length) : w.there g (k * m) m := fun j hj => by
  have hlt : k * m + j < l.length * m := by
    have := Nat.mul_le_mul_right m (show k + 1 ≤ l.length from hk)
    rw [Nat.add_mul] at this
    omega
  refine ⟨?_, h.frozenAt _⟩
  rw [h.cellAt _ hlt, List.getElem?_eq_getElem (by rw [fl_len hf]; exact hlt)]
  rfl
theorem setCs_size : ∀ (vs : List Value) (w : World) (g i : Nat), (w.setCells g i vs).heap.size = w.heap.size
  | [], w, g, i => rfl
  | v :: r, w, g, i => by rw [World.setCells, setCs_size r]; simp
theorem setCs_other : ∀ (vs : List Value) (w : World) (g i q : Nat), q ≠ g → (w.setCells g i vs).heap[q]? = w.heap[q]?
  | [], w, g, i, q, h => rfl
  | v :: r, w, g, i, q, h => by rw [World.setCells, setCs_other r _ g _ q h]; exact Below.heap_setCell _ _ _ _ h
theorem setCs_rest : ∀ (vs : List Value) (w : World) (g i : Nat), (w.setCells g i vs).os = w.os ∧ (w.setCells g i vs).tape = w.tape ∧ (w.setCells g i vs).output = w.output
  | [], w, g, i => ⟨rfl, rfl, rfl⟩
  | v :: r, w, g, i => by rw [World.setCells]; exact setCs_rest r _ g _

/-! Frames. -/
/-- All but one block lies as it lay. -/
structure Kp (g : Nat) (w w' : World) : Prop where
  os : w'.os = w.os
  tape : w'.tape = w.tape
  output : w'.output = w.output
  size : w'.heap.size = w.heap.size
  block : ∀ q, q ≠ g → w'.heap[q]? = w.heap[q]?
theorem Kp.refl (g : Nat) (w : World) : Kp g w w := ⟨rfl, rfl, rfl, rfl, fun _ _ => rfl⟩
theorem Kp.trans {g : Nat} {a b c : World} (h : Kp g a b) (k : Kp g b c) : Kp g a c :=
  ⟨k.os.trans h.os, k.tape.trans h.tape, k.output.trans h.output, k.size.trans h.size, fun q hq => (k.block q hq).trans (h.block q hq)⟩
theorem Kp.setCell {g : Nat} {a b : World} (h : Kp g a b) (i : Nat) (v : Value) : Kp g a (b.setCell ⟨g, i, none⟩ v) :=
  h.trans ⟨rfl, rfl, rfl, by simp, fun q hq => Below.heap_setCell _ _ _ _ hq⟩
theorem Kp.setCs {g : Nat} {a b : World} (h : Kp g a b) (i : Nat) (vs : List Value) : Kp g a (b.setCells g i vs) :=
  h.trans ⟨(setCs_rest vs b g i).1, (setCs_rest vs b g i).2.1, (setCs_rest vs b g i).2.2, setCs_size vs b g i, fun q hq => setCs_other vs b g i q hq⟩
theorem Kp.drewN {g : Nat} {a b : World} (h : Kp g a b) (n : Nat) : Kp g a (b.drewN n) :=
  h.trans ⟨rfl, rfl, rfl, rfl, fun q hq => rfl⟩
theorem Kp.below {g base : Nat} {a b : World} (h : Kp g a b) (hb : base ≤ g) : Below base a b :=
  ⟨h.os, h.tape, h.output, by rw [h.size]; exact Nat.le_refl _, fun k hk => h.block k (by omega)⟩
theorem bel1 (w : World) (o : Obj) : Below w.heap.size w (w.alloc o) := (Below.refl _ w).alloc (Nat.le_refl _) _
/-- What does not lie in blocks of cells of bad types lies as before. -/
def Kx (bad : TypeId → Bool) (w w' : World) : Prop := ∀ (p : Nat) (o : Obj), w.heap[p]? = some o → (∀ c t f, o = .cells c t f → bad t = false) → w'.heap[p]? = some o
theorem Kx.refl (bad : TypeId → Bool) (w : World) : Kx bad w w := fun _ _ h _ => h
theorem Kx.trans {bad : TypeId → Bool} {a b c : World} (h : Kx bad a b) (k : Kx bad b c) : Kx bad a c := fun p o hp ho => k p o (h p o hp ho) ho
theorem Kx.mono {bad more : TypeId → Bool} {a b : World} (h : Kx bad a b) (hm : ∀ t, more t = false → bad t = false) : Kx more a b := fun p o hp ho => h p o hp fun c t f e => hm t (ho c t f e)
theorem Kx.of {bad : TypeId → Bool} {w w' : World} {B : Nat} (h : Below B w w') (hB : w.heap.size ≤ B) : Kx bad w w' := fun p o hp _ => (h.block p (by have := (Array.getElem?_eq_some_iff.1 hp).1; omega)).trans hp
theorem Kx.row {bad : TypeId → Bool} {w w' : World} {p : Nat} {c : Array Value} {t : TypeId} {f : Nat × Nat} (h : Kx bad w w') (hp : w.heap[p]? = some (.cells c t f)) (ht : bad t = false) : w'.heap[p]? = some (.cells c t f) :=
  h p _ hp fun c' t' f' e => by cases e; exact ht
theorem Kx.own {bad : TypeId → Bool} {e : TypeId} {w w' : World} {base size n : Nat} {v : Value} {xs : List Value} (h : Kx bad w w') (ho : w.ownsRow base e size v n xs) (ht : bad e = false) : w'.ownsRow base e size v n xs :=
  own_at ho fun q hq => by obtain ⟨cur, hc⟩ := own_tag ho hq; rw [h.row hc ht, hc]
theorem Kx.but {bad : TypeId → Bool} {g : Nat} {w w' : World} {c : Array Value} {t : TypeId} {f : Nat × Nat} (h : ∀ q, q < w.heap.size → q ≠ g → w'.heap[q]? = w.heap[q]?) (hg : w.heap[g]? = some (.cells c t f)) (ht : bad t = true) : Kx bad w w' := fun p o hp ho => by
  refine (h p (Array.getElem?_eq_some_iff.1 hp).1 ?_).trans hp
  intro e
  subst e
  rw [hg] at hp
  have := ho c t f (Option.some.inj hp).symm
  rw [ht] at this
  cases this
theorem Kx.kp {bad : TypeId → Bool} {g : Nat} {w w' : World} {c : Array Value} {t : TypeId} {f : Nat × Nat} (h : Kp g w w') (hg : w.heap[g]? = some (.cells c t f)) (ht : bad t = true) : Kx bad w w' := Kx.but (fun q _ hq => h.block q hq) hg ht
theorem Kx.grown {bad : TypeId → Bool} {w w' : World} {base size n : Nat} {e : TypeId} {v : Value} {xs : List Value} (hg : w.grownBy w' v.ownBlock) (ho : w.ownsRow base e size v n xs) (ht : bad e = true) : Kx bad w w' := fun p o hp hb => by
  refine (hg.block p (Array.getElem?_eq_some_iff.1 hp).1 ?_).trans hp
  intro hq
  obtain ⟨cur, hc⟩ := own_tag ho hq.symm
  rw [hc] at hp
  have := hb _ _ _ (Option.some.inj hp).symm
  rw [ht] at this
  cases this
theorem Kx.setCell {bad : TypeId → Bool} {w : World} {b i : Nat} {c : Array Value} {t : TypeId} {f : Nat × Nat} (h : w.heap[b]? = some (.cells c t f)) (ht : bad t = true) (v : Value) : Kx bad w (w.setCell ⟨b, i, none⟩ v) :=
  Kx.but (fun q _ hq => Below.heap_setCell _ _ _ _ hq) h ht
/-- An append, as a frame by places. -/
theorem grown_below {w w' : World} {base e size n : Nat} {v : Value} {xs : List Value} (hg : w.grownBy w' v.ownBlock) (ho : w.ownsRow base e size v n xs) (hb : base ≤ w.heap.size) : Below base w w' :=
  ⟨hg.os, hg.tape, hg.output, hg.size, fun q hq => hg.block q (by omega) (fun e => by have := (ho.lt q e.symm).1; omega)⟩
end Go.Proofs.Ytflhgphjkhplmaa.D

/- A frame by footprints. -/
namespace Go.Proofs.Ytflhgphjkhplmaa.D
open Go.RowKit

/-- All that is not in some blocks lies as it lay; these are joined by new ones alone. -/
structure Fr (F F' : Nat → Prop) (w w' : World) : Prop where
  os : w'.os = w.os
  tape : w'.tape = w.tape
  output : w'.output = w.output
  size : w.heap.size ≤ w'.heap.size
  block : ∀ q, q < w.heap.size → ¬ F q → w'.heap[q]? = w.heap[q]?
  grow : ∀ q, F' q → F q ∨ w.heap.size ≤ q
theorem Fr.below {F F' : Nat → Prop} {w w' : World} {base : Nat} (h : Fr F F' w w') (hF : ∀ q, F q → base ≤ q) (hb : base ≤ w.heap.size) : Below base w w' :=
  ⟨h.os, h.tape, h.output, h.size, fun q hq => h.block q (by omega) fun hf => by have := hF q hf; omega⟩
theorem Fr.low {F F' : Nat → Prop} {w w' : World} {base : Nat} (h : Fr F F' w w') (hF : ∀ q, F q → base ≤ q) (hb : base ≤ w.heap.size) : ∀ q, F' q → base ≤ q := fun q hq => by
  rcases h.grow q hq with h' | h'
  · exact hF q h'
  · omega
end Go.Proofs.Ytflhgphjkhplmaa.D

/- A disk's map: names to files. -/
namespace Go.Proofs.Ytflhgphjkhplmaa.D
open Go.RowKit
set_option linter.unusedVariables false
set_option linter.unusedSimpArgs false

/-- An entry: the tenant's name, its queue's block, when it was born. -/
structure En where
  nm : List UInt8
  q : Nat
  born : Nat
def ents (l : List En) : List MapEntry := l.map fun p => ⟨.string (tx p.nm), .pointer (some ⟨p.q, 0, none⟩), p.born⟩
/-- Where a name stands, and its queue. -/
def fndE (s : List UInt8) : List En → Nat → Option (Nat × Nat)
  | [], _ => none
  | p :: r, i => if s = p.nm then some (i, p.q) else fndE s r (i + 1)
theorem tx_beq (s t : List UInt8) : (tx s == tx t) = decide (s = t) := by
  have e : (tx s == tx t) = (s.toArray == t.toArray) := rfl
  rw [e]
  by_cases h : s = t
  · subst h; simp
  · simp [h]
theorem ents_erase : ∀ (l : List En) (i : Nat), (ents l).eraseIdx i = ents (l.eraseIdx i)
  | [], _ => rfl
  | _ :: _, 0 => rfl
  | p :: r, i + 1 => congrArg (_ :: ·) (ents_erase r i)
theorem findNow_ents (s : List UInt8) : ∀ (l : List En) (i : Nat), Instr.findNow .string (.string (tx s)) (ents l) i = some ((fndE s l i).map fun p => (p.1, .pointer (some ⟨p.2, 0, none⟩)))
  | [], _ => rfl
  | p :: r, i => by
    have ih := findNow_ents s r (i + 1)
    unfold ents at ih ⊢
    simp only [List.map_cons, Instr.findNow, Instr.sameNow, fndE, tx_beq]
    by_cases h : s = p.nm
    · simp [h]
    · simp [h, ih]
/-- A map by texts, as it lies. -/
def MapAt (w : World) (B : Nat) (l : List En) (c : Nat) : Prop := w.heap[B]? = some (.map (ents l).toArray c)
theorem under9 : Try.prog.underlying 9 = some .string := by kernel_rfl
theorem under68 : Try.prog.underlying 88 = some (.map 9 112) := by kernel_rfl
theorem zero77 (w : World) : (zeroValue 112).run Try.prog w = .ok (.pointer none) w := by kernel_rfl
theorem run_findKey_ents (s : List UInt8) (l : List En) (w : World) : (Instr.findKey 9 (.string (tx s)) (ents l)).run Try.prog w = .ok ((fndE s l 0).map fun p => (p.1, .pointer (some ⟨p.2, 0, none⟩))) w := by
  simp [Instr.findKey, run_underlying under9, findNow_ents, Result.andThen]
theorem run_check (s : ByteArray) (b : Bool) (w : World) : (Instr.checkKey b 10000 9 (.string s)).run Try.prog w = .ok () w := MapKept.run_checkKey under9 (by trivial) b 9999
/-- What a key leads to. -/
def atE (s : List UInt8) (l : List En) : Value := match fndE s l 0 with | some p => .pointer (some ⟨p.2, 0, none⟩) | none => .pointer none
theorem run_look {w : World} {B c : Nat} {l : List En} (h : MapAt w B l c) (s : List UInt8) :
    (Instr.lookup 88 (.map (some B)) (.string (tx s)) true).run Try.prog w = .ok (.tuple #[atE s l, .bool (fndE s l 0).isSome]) w := by
  unfold MapAt at h
  unfold atE
  cases hf : fndE s l 0 with
  | none => simp [Instr.lookup, run_underlying under68, MapKept.run_getObj_map h, run_check, run_findKey_ents, hf, zero77, Result.andThen]
  | some p => simp [Instr.lookup, run_underlying under68, MapKept.run_getObj_map h, run_check, run_findKey_ents, hf, Result.andThen]
/-- No map. -/
theorem run_look_nil (w : World) (s : List UInt8) : (Instr.lookup 88 (.map none) (.string (tx s)) true).run Try.prog w = .ok (.tuple #[.pointer none, .bool false]) w := by
  have h0 := run_findKey_ents s [] w
  unfold ents fndE at h0
  simp only [List.map_nil] at h0
  simp [Instr.lookup, run_underlying under68, run_check, h0, zero77, Result.andThen]
/-- A new key. -/
theorem run_put_new {w : World} {B c : Nat} {l : List En} (h : MapAt w B l c) {s : List UInt8} (hf : fndE s l 0 = none) (q : Nat) :
    (Instr.mapUpdate 88 (.map (some B)) (.string (tx s)) (.pointer (some ⟨q, 0, none⟩))).run Try.prog w = .ok () { w with heap := w.heap.setIfInBounds B (.map (ents (l ++ [⟨s, q, c⟩])).toArray (c + 1)) } := by
  unfold MapAt at h
  have e1 : ents l ++ [{ key := .string (tx s), val := .pointer (some ⟨q, 0, none⟩), born := c }] = ents (l ++ [⟨s, q, c⟩]) := by simp [ents]
  simp [Instr.mapUpdate, run_underlying under68, MapKept.run_getObj_map h, run_check, run_findKey_ents, hf, MapKept.run_setObj_map _ h, Result.andThen]
  rw [e1]
/-- A key goes. -/
theorem run_del {w : World} {B c : Nat} {l : List En} (h : MapAt w B l c) {s : List UInt8} {i q : Nat} (hf : fndE s l 0 = some (i, q)) (ty : TypeId) :
    (Builtin.delete_ #[88, 9] ty #[.map (some B), .string (tx s)]).run Try.prog w = .ok (.tuple #[]) { w with heap := w.heap.setIfInBounds B (.map (ents (l.eraseIdx i)).toArray c) } := by
  unfold MapAt at h
  simp [Builtin.delete_, run_underlying under68, MapKept.run_getObj_map h, run_check, run_findKey_ents, hf, MapKept.run_setObj_map _ h, Result.andThen]
  rw [ents_erase]
/-- The pairs of a map, whatever their order. -/
def lkM (s : List UInt8) : List (List UInt8 × Nat) → Option Nat
  | [] => none
  | p :: r => if s = p.1 then some p.2 else lkM s r
def prs (l : List En) : List (List UInt8 × Nat) := l.map fun e => (e.nm, e.q)
theorem lkM_mem : ∀ {l : List (List UInt8 × Nat)} {s : List UInt8} {q : Nat}, lkM s l = some q → (s, q) ∈ l
  | [], s, q, h => by simp [lkM] at h
  | p :: r, s, q, h => by
    unfold lkM at h
    split at h
    · rename_i e
      have := Option.some.inj h
      subst this
      rw [e]
      exact List.mem_cons_self
    · exact List.mem_cons_of_mem _ (lkM_mem h)
theorem lkM_of : ∀ {l : List (List UInt8 × Nat)} {s : List UInt8} {q : Nat}, (l.map Prod.fst).Nodup → (s, q) ∈ l → lkM s l = some q
  | [], s, q, hn, h => by simp at h
  | p :: r, s, q, hn, h => by
    unfold lkM
    rcases List.mem_cons.1 h with h | h
    · rw [← h]; simp
    · rw [if_neg, lkM_of (List.nodup_cons.1 hn).2 h]
      intro e
      exact (List.nodup_cons.1 hn).1 (List.mem_map.2 ⟨(s, q), h, e⟩)
theorem lkM_none : ∀ {l : List (List UInt8 × Nat)} {s : List UInt8}, lkM s l = none ↔ s ∉ l.map Prod.fst
  | [], s => by simp [lkM]
  | p :: r, s => by
    unfold lkM
    by_cases e : s = p.1
    · simp [e]
    · rw [if_neg e, lkM_none (l := r)]
      simp [e]
theorem fndE_some : ∀ {l : List En} {s : List UInt8} {k i q : Nat}, fndE s l k = some (i, q) → k ≤ i ∧ ∃ e, l[i - k]? = some e ∧ e.nm = s ∧ e.q = q
  | [], s, k, i, q, h => by simp [fndE] at h
  | p :: r, s, k, i, q, h => by
    unfold fndE at h
    split at h
    · rename_i e
      obtain ⟨rfl, rfl⟩ := Prod.mk.inj (Option.some.inj h)
      exact ⟨Nat.le_refl _, p, by simp, e.symm, rfl⟩
    · obtain ⟨h1, e, h2, h3, h4⟩ := fndE_some h
      refine ⟨by omega, e, ?_, h3, h4⟩
      rw [show i - k = (i - (k + 1)) + 1 by omega, List.getElem?_cons_succ]
      exact h2
theorem fndE_lk : ∀ (l : List En) (s : List UInt8) (k : Nat), (fndE s l k).map Prod.snd = lkM s (prs l)
  | [], s, k => rfl
  | p :: r, s, k => by
    unfold fndE
    show _ = lkM s ((p.nm, p.q) :: prs r)
    unfold lkM
    by_cases e : s = p.nm
    · simp [e]
    · simp only [e, if_false]
      exact fndE_lk r s (k + 1)
theorem lkM_perm {a b : List (List UInt8 × Nat)} (h : a.Perm b) (hn : (b.map Prod.fst).Nodup) (s : List UInt8) : lkM s a = lkM s b := by
  have hna : (a.map Prod.fst).Nodup := (h.map Prod.fst).nodup_iff.2 hn
  cases hb : lkM s b with
  | none =>
    rw [lkM_none] at hb ⊢
    exact fun e => hb ((h.map Prod.fst).mem_iff.1 e)
  | some q => exact lkM_of hna (h.mem_iff.2 (lkM_mem hb))
/-- A map against pairs. -/
structure Bok (es : List En) (c : Nat) : Prop where
  nd : (es.map En.born).Nodup
  lt : ∀ e ∈ es, e.born < c
theorem Bok.put {es : List En} {c : Nat} (h : Bok es c) (s : List UInt8) (q : Nat) : Bok (es ++ [⟨s, q, c⟩]) (c + 1) := by
  refine ⟨?_, fun e he => ?_⟩
  · rw [List.map_append, List.nodup_append]
    refine ⟨h.nd, by simp, fun x hx y hy e => ?_⟩
    obtain ⟨z, hz, rfl⟩ := List.mem_map.1 hx
    have := h.lt z hz
    simp at hy
    omega
  · rcases List.mem_append.1 he with he | he
    · have := h.lt e he; omega
    · rw [List.mem_singleton.1 he]; exact Nat.lt_succ_self c
theorem Bok.del {es : List En} {c : Nat} (h : Bok es c) (i : Nat) : Bok (es.eraseIdx i) c := ⟨h.nd.sublist ((List.eraseIdx_sublist es i).map _), fun e he => h.lt e ((List.eraseIdx_sublist es i).subset he)⟩
theorem Bok.nil : Bok [] 0 := ⟨List.nodup_nil, fun e he => (nomatch he)⟩
def MM (w : World) (B : Nat) (ml : List (List UInt8 × Nat)) : Prop := ∃ es c, MapAt w B es c ∧ (prs es).Perm ml ∧ Bok es c
def ptM (o : Option Nat) : Value := match o with | some q => .pointer (some ⟨q, 0, none⟩) | none => .pointer none
theorem MM.look {w : World} {B : Nat} {ml : List (List UInt8 × Nat)} (h : MM w B ml) (hn : (ml.map Prod.fst).Nodup) (s : List UInt8) : (Instr.lookup 88 (.map (some B)) (.string (tx s)) true).run Try.prog w = .ok (.tuple #[ptM (lkM s ml), .bool (lkM s ml).isSome]) w := by
  obtain ⟨es, c, h1, h2, hB⟩ := h
  rw [run_look h1 s]
  rw [← lkM_perm h2 hn s, ← fndE_lk es s 0]
  unfold atE ptM
  cases fndE s es 0 <;> rfl
theorem MM.at' {w w' : World} {B : Nat} {ml : List (List UInt8 × Nat)} (h : MM w B ml) (hk : w'.heap[B]? = w.heap[B]?) : MM w' B ml := by
  obtain ⟨es, c, h1, h2, hB⟩ := h
  exact ⟨es, c, hk.trans h1, h2, hB⟩
theorem MM.lt {w : World} {B : Nat} {ml : List (List UInt8 × Nat)} (h : MM w B ml) : B < w.heap.size := by
  obtain ⟨es, c, h1, h2, hB⟩ := h
  exact (Array.getElem?_eq_some_iff.1 h1).1
/-- A world with another map in a block. -/
def setM (w : World) (B : Nat) (o : Obj) : World := { w with heap := w.heap.setIfInBounds B o }
theorem setM_at {w : World} {B : Nat} {o : Obj} (h : B < w.heap.size) : (setM w B o).heap[B]? = some o := by
  unfold setM
  simp [h]
theorem setM_off {w : World} {B q : Nat} {o : Obj} (h : q ≠ B) : (setM w B o).heap[q]? = w.heap[q]? := by
  unfold setM
  simp only
  rw [Array.getElem?_setIfInBounds_ne (fun e => h e.symm)]
theorem setM_size {w : World} {B : Nat} {o : Obj} : (setM w B o).heap.size = w.heap.size := by
  unfold setM
  simp
theorem MM.put {w : World} {B : Nat} {ml : List (List UInt8 × Nat)} (h : MM w B ml) {s : List UInt8} (hs : s ∉ ml.map Prod.fst) (q : Nat) : ∃ o, (Instr.mapUpdate 88 (.map (some B)) (.string (tx s)) (.pointer (some ⟨q, 0, none⟩))).run Try.prog w = .ok () (setM w B o) ∧ MM (setM w B o) B (ml ++ [(s, q)]) := by
  obtain ⟨es, c, h1, h2, hB⟩ := h
  have hf : fndE s es 0 = none := by
    have h3 := fndE_lk es s 0
    rw [lkM_none.2 (fun e => hs ((h2.map Prod.fst).mem_iff.1 e))] at h3
    cases hh : fndE s es 0 with
    | none => rfl
    | some p => rw [hh] at h3; simp at h3
  refine ⟨_, run_put_new h1 hf q, es ++ [(⟨s, q, c⟩ : En)], c + 1, setM_at (Array.getElem?_eq_some_iff.1 h1).1, ?_, hB.put s q⟩
  unfold prs
  rw [List.map_append]
  exact h2.append_right _
theorem prs_erase : ∀ (l : List En) (i : Nat), prs (l.eraseIdx i) = (prs l).eraseIdx i
  | [], _ => rfl
  | _ :: _, 0 => rfl
  | p :: r, i + 1 => congrArg (_ :: ·) (prs_erase r i)
theorem perm_idx {α : Type} : ∀ (l : List α) (i : Nat) {x : α}, l[i]? = some x → l.Perm (x :: l.eraseIdx i)
  | [], i, x, h => by simp at h
  | p :: r, 0, x, h => by
    have : p = x := by simpa using h
    subst this
    exact List.Perm.refl _
  | p :: r, i + 1, x, h => by
    have h' : r[i]? = some x := by simpa using h
    exact ((perm_idx r i h').cons p).trans (List.Perm.swap _ _ _)
theorem MM.del {w : World} {B : Nat} {ml : List (List UInt8 × Nat)} (h : MM w B ml) (hn : (ml.map Prod.fst).Nodup) {s : List UInt8} {q : Nat} (hs : (s, q) ∈ ml) (ty : TypeId) : ∃ o, (Builtin.delete_ #[88, 9] ty #[.map (some B), .string (tx s)]).run Try.prog w = .ok (.tuple #[]) (setM w B o) ∧ MM (setM w B o) B (ml.erase (s, q)) := by
  obtain ⟨es, c, h1, h2, hB⟩ := h
  have hl : lkM s (prs es) = some q := by rw [lkM_perm h2 hn s]; exact lkM_of hn hs
  have h3 := fndE_lk es s 0
  rw [hl] at h3
  obtain ⟨⟨i, q'⟩, hf, rfl⟩ : ∃ p, fndE s es 0 = some p ∧ p.2 = q := by
    cases hh : fndE s es 0 with
    | none => rw [hh] at h3; simp at h3
    | some p => rw [hh] at h3; exact ⟨p, rfl, by simpa using h3⟩
  obtain ⟨-, e, he, e1, e2⟩ := fndE_some hf
  refine ⟨_, run_del h1 hf ty, es.eraseIdx i, c, setM_at (Array.getElem?_eq_some_iff.1 h1).1, ?_, hB.del i⟩
  refine List.Perm.trans ?_ (h2.erase (s, q'))
  have hx : (prs es)[i]? = some (s, q') := by
    unfold prs
    rw [List.getElem?_map, show i = i - 0 by omega, he]
    simp [← e1, ← e2]
  have hp : (prs (es.eraseIdx i)) = (prs es).eraseIdx i := prs_erase es i
  rw [hp]
  obtain ⟨hlt, hget⟩ := List.getElem?_eq_some_iff.1 hx
  have h5 : (prs es).Perm ((s, q') :: (prs es).eraseIdx i) := by
    exact perm_idx _ i hx
  have h6 := h5.erase (s, q')
  rw [List.erase_cons_head] at h6
  exact h6.symm
end Go.Proofs.Ytflhgphjkhplmaa.D

/- Where a write ends. -/
namespace Go.Proofs.Ytflhgphjkhplmaa
open Go.RowKit
set_option linter.unusedVariables false
set_option linter.unusedSimpArgs false

theorem i64_at {w : World} {base g cap : Nat} {bg : List Int} (h : w.ownsRow base 3 1 (.slice (some ⟨g, 0, none⟩) bg.length cap) bg.length (i64l bg)) (i : Nat) (hi : i < bg.length) : w.cell? ⟨g, i, none⟩ = some (.int .i64 (bg.getD i 0)) := by
  rw [h.cellAt i (by omega)]
  unfold i64l
  rw [List.getElem?_map, List.getElem?_eq_getElem hi, List.getD_eq_getElem?_getD, List.getElem?_eq_getElem hi]
  rfl
def endI (n : Nat) (bg : List Int) (i : Nat) : Int := if i + 1 < bg.length then bg.getD (i + 1) 0 else (n : Int)
set_option maxRecDepth 20000 in
set_option maxHeartbeats 4000000 in
theorem end_any (F : Nat) (da : Option Addr) (dc n base i : Nat) (bv : Value) (bg : List Int) (w : World) (hF : w.heap[F]? = some (.cells #[.slice da n dc, bv] 118 (0, 0))) (hb : w.ownsRow base 3 1 bv bg.length (i64l bg)) (hi : i < bg.length) (hl : bg.length ≤ 10000000) :
    Calls Try.prog 89 #[.pointer (some ⟨F, 0, none⟩), .int .i64 (i : Int)] w fun e w' => e = .returned (.int .i64 (endI n bg i)) ∧ w' = w := by
  obtain ⟨g, cap, rfl⟩ := own_form hb (by omega)
  have c0 : w.cell? ⟨F, 0, none⟩ = some (.slice da n dc) := by rw [cell_of_row _ _ _ _ _ _ hF]; rfl
  have c1 : w.cell? ⟨F, 1, none⟩ = some (.slice (some ⟨g, 0, none⟩) bg.length cap) := by rw [cell_of_row _ _ _ _ _ _ hF]; rfl
  by_cases h : i + 1 < bg.length
  · have hc := i64_at hb (i + 1) h
    have he : endI n bg i = bg.getD (i + 1) 0 := by unfold endI; rw [if_pos h]
    rw [he]
    generalize bg.getD (i + 1) 0 = X at *
    have hlt : (i : Int) + 1 < (bg.length : Int) := by omega
    have hl' : (bg.length : Int) ≤ 10000000 := by omega
    have hcap : (bg.length : Int) ≤ (cap : Int) := by have := own_cap hb; omega
    generalize bg.length = m at *
    obtain ⟨k, hk⟩ : ∃ k : Nat, i + 1 = k := ⟨_, rfl⟩
    rw [hk] at hc
    have hk' : (i : Int) + 1 = (k : Int) := by omega
    clear hb hF hi hl he h
    go_enter Try.func89, Try.ntmps89
    go_wp2
    go_ret
    exact ⟨rfl, rfl⟩
  · have he : endI n bg i = (n : Int) := by unfold endI; rw [if_neg h]
    rw [he]
    have hlt : ¬ ((i : Int) + 1 < (bg.length : Int)) := by omega
    have hl' : (bg.length : Int) ≤ 10000000 := by omega
    have hi' : (i : Int) < (bg.length : Int) := by omega
    generalize bg.length = m at *
    clear hb hF hi hl he h
    go_enter Try.func89, Try.ntmps89
    go_wp2
    go_ret
    exact ⟨rfl, rfl⟩
end Go.Proofs.Ytflhgphjkhplmaa
