import Derived.Test.YtflhgphjkhplmaaML05
import Derived.StillTailTactics
import Derived.Deep.RegionHeld3
import Derived.Shelf.Abstract
import Derived.WalkKit
import Derived.WalkMore
import Derived.BigQuiet
import Derived.LoopN
import Derived.Deep.CutRange
import Derived.Laws.AppendOwnNone
import Derived.Laws.IdiomStrings
import Derived.Laws.OwnMore
import Derived.Deep.MidRow
import Derived.Deep.AppendLies
import Derived.Deep.RegionLaw
import Derived.BigRegion
import Derived.OwnWalk
import Derived.Test.YtflhgphjkhplmaaProg
import Derived.Test.YtflhgphjkhplmaaChecked
/- Frames: the records of the good frames. -/
namespace Go.Proofs.Ytflhgphjkhplmaa.W
open Go Go.RowKit R Go.Shelf
set_option linter.unusedVariables false
set_option linter.unusedSimpArgs false
attribute [local go_sem] Oper.semAt_some

theorem good_seq (n bx base : Nat) (v : Value) (zs : List Int) (w : World) (hn : 3 ≤ n) (hb : base ≤ w.heap.size) (hG : GB w bx v zs) :
    SeqX Fence.wide n Try.prog 66 #[.pointer (some ⟨bx, 0, none⟩)] elG (XE base) (KE bx) (fun xs W => xs.map El.pl = goodI zs ∧ ∀ x ∈ xs, rowX base x W) w := by
  intro l J Jx W hW hA _ hY h0
  have hG2 : GB W bx v zs := hG.kb (KB.of hW hG.lt)
  refine (good_in n l bx base v zs J Jx W hn hA (Nat.le_trans hb hW.size) hG2 hY h0).mono ?_
  rintro e W' ⟨h1, ⟨xs, ⟨h2, h3, -⟩, h4⟩ | h2⟩
  · exact ⟨h1, .inl ⟨xs, ⟨h2, h3⟩, h4⟩⟩
  · exact ⟨h1, .inr h2⟩
theorem good_any (a : Option Addr) (N c : Nat) (w : World) : Calls Try.prog 38 #[.slice a N c] w fun e w' => e = .returned (.func (.func 66) #[] #[.pointer (some ⟨w.heap.size, 0, none⟩)]) ∧ w' = w.alloc (.cells #[.slice a N c] 23) := by
  go_enter Try.func38, Try.ntmps38
  go_wp2
  go_ret
  exact ⟨rfl, rfl⟩
theorem grown_cells {W W' : World} {row : Option Nat} (hg : W.grownBy W' row) (hr : ∀ r, row = some r → ∃ o : Obj, W.heap[r]? = some o ∧ o.isCells = false) {q : Nat} {c : Array Value} {t : TypeId} {f : Nat × Nat} (hq : W.heap[q]? = some (.cells c t f)) : W'.heap[q]? = W.heap[q]? :=
  hg.block q (Array.getElem?_eq_some_iff.1 hq).1 fun e => by
    obtain ⟨o, ho, hc⟩ := hr q e.symm
    rw [hq] at ho
    cases ho
    cases hc
theorem grown_own {W W' : World} {row : Option Nat} (hg : W.grownBy W' row) (hr : ∀ r, row = some r → ∃ o : Obj, W.heap[r]? = some o ∧ o.isCells = false) {base size n : Nat} {e : TypeId} {v : Value} {xs : List Value} (h : W.ownsRow base e size v n xs) : W'.ownsRow base e size v n xs := own_at h fun q hq => by
  obtain ⟨cur, hc⟩ := own_tag h hq
  exact grown_cells hg hr hc
theorem info23 : (Try.prog.info? 23).map (fun i => (i.zero, i.size, i.bytes)) = some (some (.slice none 0 0), 1, 24) := by kernel_rfl
/-- One slice more, behind a row of slices. -/
theorem wpList_append_one23 {w : World} {ops : Array Oper} {rest : List Oper} {o : Oper} {a : Act} {Q : Exit → Act → World → Prop} (hgd : o.guard = none) (s x : Operand)
    (ho : o.op = .call { callee := .builtin .append, args := #[s, x], argTypes := #[29, 29] }) (base : Nat) (v : Value) (n : Nat) (xs : List Value) (hs : a.eval s = v) (V : World) (hown : V.ownsRow base 23 1 v n xs)
    (u : Value) (hu : u.oneCell' = true) (hw : w = V.alloc (.cells #[u] 23)) (hx : a.eval x = .slice (some ⟨V.heap.size, 0, none⟩) 1 1) (hb : n ≤ 2000000) (hbase : base ≤ V.heap.size)
    (h : ∀ g cap w', w'.ownsRow base 23 1 (.slice (some ⟨g, 0, none⟩) (n + 1) cap) (n + 1) (xs ++ [u]) → Gr v V (.slice (some ⟨g, 0, none⟩) (n + 1) cap) w' → wpList Try.prog ops Q rest (a.put o.dst (.slice (some ⟨g, 0, none⟩) (n + 1) cap)) w') : wpList Try.prog ops Q (o :: rest) a w := by
  subst hw
  obtain ⟨i0, hi, hz0, hz1, hz2⟩ := info_parts info23
  refine wpList_append_lies _ hgd s x 29 ho base 23 i0 (.slice none 0 0) 1 24 Try.underlying29 hi hz0 hz1 hz2 rfl (by decide) v n xs hs (hown.alloc _) ⟨V.heap.size, 0, none⟩ 1 1 [u] hx rfl (cell_new1 V _ _) (fun y hy => by obtain rfl := List.mem_singleton.1 hy; exact hu) (by decide) (by unfold maxLen; omega) (by omega) (by simp; omega) (V.heap.size + 1) (by simp) fun g cap w' h1 h2 h3 _ => h g cap w' h1 ?_
  refine ⟨h2.os, h2.tape, h2.output, Nat.le_trans (by simp) h2.size, fun k hk hv => ?_, fun g' hg' => ?_⟩
  · rw [h2.block k (by simp; omega) (fun e => hv e.symm)]
    exact Below.heap_alloc _ _ _ hk
  · have e : g = g' := by simpa [Value.ownBlock] using hg'
    rw [← e]
    rcases h3 with h | h
    · exact .inl h
    · exact .inr (by omega)
theorem keeps_below {W W' : World} (h : Below W.heap.size W W') : KeepsOthers W W' :=
  ⟨h.size, fun k o hk _ => (h.block k (Array.getElem?_eq_some_iff.1 hk).1).trans hk⟩
def lastN (xs : List El) : Nat := (xs.getLast?.map El.n).getD 0
def lastE (xs : List El) : Nat := (xs.getLast?.map El.e).getD 0
theorem lastN_snoc (xs : List El) (x : El) : lastN (xs ++ [x]) = x.n := by simp [lastN]
theorem lastE_snoc (xs : List El) (x : El) : lastE (xs ++ [x]) = x.e := by simp [lastE]
/-- What the loop of Frames keeps: the list so far, the last number, the place behind it. -/
def FrI (w : World) (B B5 B6 B7 : Nat) (pre : List El) (W : World) : Prop :=
  (∃ lv, Boxed W B5 29 lv ∧ W.ownsRow B 23 1 lv pre.length (pre.map El.rv)) ∧ Boxed W B6 22 (.int .u64 (lastN pre : Int)) ∧ Boxed W B7 3 (.int .i64 (lastE pre : Int)) ∧ (Below w.heap.size w W ∧ B ≤ W.heap.size) ∧ ∀ x, pre.getLast? = some x → ∃ (c : Array Value) (t : TypeId) (f : Nat × Nat), W.heap[x.g]? = some (.cells c t f)
theorem FrI.from {w : World} {B B5 B6 B7 : Nat} {pre : List El} {W W' : World} {row : Option Nat} (h : FrI w B B5 B6 B7 pre W) (hg : W.grownBy W' row) (hr : ∀ r, row = some r → w.heap.size ≤ r ∧ ∃ o : Obj, W.heap[r]? = some o ∧ o.isCells = false) : FrI w B B5 B6 B7 pre W' := by
  obtain ⟨⟨lv, h1, h2⟩, h3, h4, h5, h6⟩ := h
  have hr2 := fun r e => (hr r e).2
  exact ⟨⟨lv, (grown_cells hg hr2 h1).trans h1, grown_own hg hr2 h2⟩, (grown_cells hg hr2 h3).trans h3, (grown_cells hg hr2 h4).trans h4, ⟨h5.1.grown hg h5.1.size (fun q hq => (hr q hq).1), Nat.le_trans h5.2 hg.size⟩, fun x hx => by
    obtain ⟨c, t, f, e⟩ := h6 x hx
    exact ⟨c, t, f, (grown_cells hg hr2 e).trans e⟩⟩
theorem FrI.later {w : World} {B B5 B6 B7 : Nat} {pre : List El} {W W' : World} (h : FrI w B B5 B6 B7 pre W) (hb : Below W.heap.size W W') : FrI w B B5 B6 B7 pre W' :=
  h.from (row := none) ⟨hb.os, hb.tape, hb.output, hb.size, fun q hq _ => hb.block q hq⟩ (fun r e => nomatch e)
/-- What an append behind a row of slices keeps. -/
theorem frW {W w9 : World} {B : Nat} {v : Value} {n : Nat} {xs : List Value} {u : Value} (h : W.ownsRow B 23 1 v n xs) (hb : B ≤ W.heap.size) (hg : (W.alloc (.cells #[u] 23)).grownBy w9 v.ownBlock) :
    (∀ (q : Nat) (c : Array Value) (t : TypeId) (f : Nat × Nat), W.heap[q]? = some (.cells c t f) → t ≠ 23 → w9.heap[q]? = W.heap[q]?) ∧ Below B W w9 ∧ KeepsOthers W w9 := by
  have hbA := bel1 W (.cells #[u] 23)
  have hbW : Below B W w9 := (hbA.mono hb).grown hg (Nat.le_trans hb hbA.size) (fun q hq => (h.lt q hq).1)
  refine ⟨fun q c t f hq ht => ?_, hbW, hbW.size, fun k o hk ho => ?_⟩
  rotate_left
  · have hlt := (Array.getElem?_eq_some_iff.1 hk).1
    rw [hg.block k (by simp; omega) (fun e => ?_)]
    · exact (hbA.block k hlt).trans hk
    · obtain ⟨cur, hc⟩ := own_tag h e.symm
      rw [hk] at hc
      cases hc
      cases ho
  have hlt := (Array.getElem?_eq_some_iff.1 hq).1
  rw [hg.block q (by simp; omega) (fun e => ?_)]
  · exact hbA.block q hlt
  · obtain ⟨cur, hc⟩ := own_tag h e.symm
    rw [hq] at hc
    cases hc
    exact ht rfl
set_option maxRecDepth 100000 in
set_option maxHeartbeats 4000000 in
theorem frames_any {v : Value} {zs : List Int} {w : World} (h : Bz w v zs) (hr : ∀ q, v.ownBlock = some q → ∃ (c : Array Value) (f : Nat × Nat), w.heap[q]? = some (.cells c 5 f)) :
    Calls Try.prog 11 #[v] w fun e w' => ∃ (xs : List El) (lv : Value), e = .returned (.tuple #[lv, .int .u64 (lastN xs : Int), .int .i64 (lastE xs : Int)]) ∧ xs.map El.pl = goodI zs ∧ w'.ownsRow w.heap.size 23 1 lv xs.length (xs.map El.rv) ∧ (∀ x ∈ xs, rowX w.heap.size x w') ∧ Below w.heap.size w w' := by
  obtain ⟨a, c, hv, -⟩ := h.ex
  obtain ⟨N, hN⟩ : ∃ N, zs.length = N := ⟨_, rfl⟩
  rw [hN] at hv
  subst hv
  obtain ⟨W1, hW1⟩ : ∃ W1, ((w.alloc (.cells #[.slice none 0 0] 29)).alloc (.cells #[.int .u64 0] 22)).alloc (.cells #[.int .i64 0] 3) = W1 := ⟨_, rfl⟩
  have H1 : Hid (Below w.heap.size w W1 ∧ Boxed W1 w.heap.size 29 (.slice none 0 0) ∧ Boxed W1 (w.heap.size + 1) 22 (.int .u64 0) ∧ Boxed W1 (w.heap.size + 1 + 1) 3 (.int .i64 0) ∧ W1.heap.size = w.heap.size + 3) := by
    show _ ∧ _
    rw [← hW1]
    refine ⟨((bel1 _ _).alloc (by simp) _).alloc (by simp; omega) _, ((Boxed.new _ _ _).alloc _).alloc _, ?_, ?_, by simp⟩
    · have h := Boxed.new (w.alloc (.cells #[.slice none 0 0] 29)) 22 (.int .u64 0)
      rw [World.size_alloc] at h
      exact h.alloc _
    · have h := Boxed.new ((w.alloc (.cells #[.slice none 0 0] 29)).alloc (.cells #[.int .u64 0] 22)) 3 (.int .i64 0)
      rw [World.size_alloc, World.size_alloc] at h
      exact h
  have hG1 : GB (W1.alloc (.cells #[.slice a N c] 23)) W1.heap.size (.slice a N c) zs :=
    ⟨Go.heap_alloc_new _ _, (h.newer H1.out.1).newer (bel1 _ _), fun q hq => by
      obtain ⟨cc, f, e⟩ := hr q hq
      have hlt := (Array.getElem?_eq_some_iff.1 e).1
      have hl1 := H1.out.1.size
      exact ⟨cc, f, ((bel1 W1 _).block q (by omega)).trans ((H1.out.1.block q hlt).trans e)⟩⟩
  have HG : Hid (GB (W1.alloc (.cells #[.slice a N c] 23)) W1.heap.size (.slice a N c) zs) := hG1
  have HW1 : Hid (((w.alloc (.cells #[.slice none 0 0] 29)).alloc (.cells #[.int .u64 0] 22)).alloc (.cells #[.int .i64 0] 3) = W1) := hW1
  clear h hr hG1 hW1 hN
  refine (callsIn_wide (n := 8)).1 ?_
  refine callsIn_of_wp_marks Try.func11 rfl trivial ?_ rfl
  refine wpIn_wide.2 ?_
  simp only [Try.ntmps11, List.size_toArray, List.length_cons, List.length_nil, Nat.reduceAdd, Nat.reduceSub, Array.replicate_succ, Array.replicate_zero, List.push_toArray, List.append_toArray, List.nil_append, List.cons_append]
  go_upto_region 3 with (fail)
  rw [HW1.out]
  clear HW1
  go_wp2_with (go_at_call 38; refine (good_any a N c W1).mono ?_; rintro e W2 ⟨rfl, hW2⟩; rw [hW2]; clear hW2)
  obtain ⟨W2, hW2⟩ : ∃ W2, W1.alloc (.cells #[.slice a N c] 23) = W2 := ⟨_, rfl⟩
  have HB12 : Hid (Below W1.heap.size W1 W2) := by rw [← hW2]; exact bel1 _ _
  rw [hW2] at HG ⊢
  clear hW2
  obtain ⟨B5, B6, B7, BX, e5, e6, e7, eX⟩ : ∃ B5 B6 B7 BX, w.heap.size = B5 ∧ w.heap.size + 1 = B6 ∧ w.heap.size + 1 + 1 = B7 ∧ W1.heap.size = BX := ⟨_, _, _, _, rfl, rfl, rfl, rfl⟩
  have HBN : Hid (w.heap.size ≤ B5 ∧ B5 < B6 ∧ B6 < B7 ∧ B7 < BX ∧ BX < W2.heap.size) := ⟨by omega, by omega, by omega, by have := H1.out.2.2.2.2; omega, by rw [← eX]; exact HG.out.lt⟩
  have HI0 : Hid (FrI w W2.heap.size B5 B6 B7 [] W2) := by
    obtain ⟨h1, h2, h3, h4, h5⟩ := H1.out
    rw [e5] at h2
    rw [e6] at h3
    rw [e7] at h4
    have k : ∀ q, q < W1.heap.size → W2.heap[q]? = W1.heap[q]? := fun q hq => HB12.out.block q hq
    exact ⟨⟨.slice none 0 0, (k B5 (by omega)).trans h2, World.ownsRow_nil _ _ _ _⟩, (k B6 (by omega)).trans h3, (k B7 (by omega)).trans h4, ⟨h1.trans (HB12.out.mono h1.size), Nat.le_refl _⟩, fun x hx => by simp at hx⟩
  rw [e7, e6, e5, eX]
  rw [eX] at HG
  clear e5 e6 e7 eX H1 HB12
  refine (wpIn_wide (n := 8)).1 ?_
  refine range_x rfl (by omega) (gf := 66) (lb := #[.pointer (some ⟨BX, 0, none⟩)]) rfl trivial (enters_of Try.func66 (by kernel_rfl) rfl)
    (good_seq 7 BX w.heap.size (.slice a N c) zs W2 (by omega) (by have := HBN.out; omega) HG.out)
    (FrI w W2.heap.size B5 B6 B7)
    (fun pre x a' W => ∃ g8 ra rc, x.rv = .slice ra x.r.length rc ∧ a' = { tmps := #[.slice a N c, undef, .slice none 0 0, .int .u64 0, .int .i64 0, .pointer (some ⟨B5, 0, none⟩), .pointer (some ⟨B6, 0, none⟩), .pointer (some ⟨B7, 0, none⟩), .pointer (some ⟨g8, 0, none⟩), .int .i64 (x.e : Int), .slice a N c, .func (.func 66) #[] #[.pointer (some ⟨BX, 0, none⟩)], .agg #[.int .u64 (x.n : Int), .slice ra x.r.length rc], .int .i64 (x.e : Int), undef, undef, undef, undef, undef, undef, undef, undef, undef, undef, undef], defers := [] } ∧ FrI w W2.heap.size B5 B6 B7 pre W ∧ W.heap[g8]? = some (.cells #[.int .u64 (x.n : Int), .slice ra x.r.length rc] 81 (0, 0)) ∧ pre.length ≤ 2000000 ∧ ∃ (cc : Array Value) (f : Nat × Nat), W.heap[x.g]? = some (.cells cc 81 f))
    KE.trans ?put (Below.refl _ _) (fun _ => rfl) (fun pre W W' row hs hg hr => hs.from hg (fun r e => ⟨by have := (hr r e).1; have := HBN.out; omega, (hr r e).2⟩)) ?ownS HI0.out ?ownA ?assign ?body ?done
  case put =>
    intro pre x a' W l o o' hor h1 h2 h3 h4
    have off : ∀ (q : Nat) (c : Array Value) (t : TypeId) (f : Nat × Nat), W.heap[q]? = some (.cells c t f) → (W.putObj l o').heap[q]? = W.heap[q]? := fun q c t f hq => World.putObj_heap_other fun e => by
      subst e
      rw [h2] at hq
      cases hq
      cases h3
    have hbx : BX < W2.heap.size := HBN.out.2.2.2.2
    refine ⟨⟨by simp, fun q c f hq => off q c 5 f hq, World.putObj_heap_other (by omega)⟩, ?_⟩
    rcases hor with ⟨_, _, _, _, _, _, _, _, cc, f, hg⟩ | hI
    · exact off _ _ _ _ hg
    · obtain ⟨c, t, f, hg⟩ := hI.2.2.2.2 x (by simp)
      exact off _ _ _ _ hg
  case ownS => exact fun xs W W' row hs hg hr => ⟨hs.1, fun x hx => grown_own hg (fun r e => (hr r e).2) (hs.2 x hx)⟩
  case ownA =>
    rintro pre x a' _ W W' row ⟨g8, ra, rc, h1, h2, h3, h4, h5, cc, f, h6⟩ hg hr
    have hr2 := fun r e => (hr r e).2
    exact ⟨g8, ra, rc, h1, h2, h3.from hg (fun r e => ⟨by have := (hr r e).1; have := HBN.out; omega, (hr r e).2⟩), (grown_cells hg hr2 h4).trans h4, h5, cc, f, (grown_cells hg hr2 h6).trans h6⟩
  case assign =>
    rintro l pre x W W0 K hI hb hX hK
    obtain ⟨x0, x1, x2, x3, x4⟩ := hX
    have hrow : W.ownsRow W0.heap.size 5 1 x.rv x.r.length (u8l x.r) := x3
    obtain ⟨ra, rc, hrv⟩ := own_slice hrow
    have HK := hK
    have HX : Hid (FrI w W2.heap.size B5 B6 B7 pre W ∧ W.heap[x.g]? = some (.cells #[.int .u64 (x.n : Int), x.rv] 81 (0, 0)) ∧ x.rv = .slice ra x.r.length rc ∧ x.g < W.heap.size ∧ pre.length ≤ 2000000 ∧ BX < W.heap.size) := ⟨hI.later hb, x2, hrv, (Array.getElem?_eq_some_iff.1 x2).1, x0, by have h1 := (hI.later hb).2.2.2.1.2; have h2 := HBN.out; omega⟩
    unfold elG
    rw [hrv]
    clear hK hI hb x1 x2 x3 x4 hrow hrv x0
    gi_wp2_with fail
    obtain ⟨k1, k2, k3, k4, k5, k6⟩ := HX.out
    have hb := bel1 W (.cells #[.int .u64 (x.n : Int), .slice ra x.r.length rc] 81)
    exact HK _ _ ((keeps_below hb).from _) ⟨KB.of hb k6, hb.block _ k4⟩ ⟨W.heap.size, ra, rc, k3, rfl, k1.later hb, Go.heap_alloc_new _ _, k5, _, _, (hb.block _ k4).trans k2⟩
  case body =>
    rintro l pre x a' W hl ⟨g8, ra, rc, hrv, rfl, ⟨⟨lv, h1, h2⟩, h3, h4, h5, h6⟩, h7, h8, cc, f, h9⟩
    obtain ⟨i0, hi, hz0, hz1, hz2⟩ := info_parts info23
    obtain ⟨la, lc, hlv⟩ := own_slice h2
    subst hlv
    have c5 : W.cell? ⟨B5, 0, none⟩ = some (.slice la pre.length lc) := h1.cell
    have c8 : W.cell? ⟨g8, 1, none⟩ = some (.slice ra x.r.length rc) := by rw [cell_of_row _ _ _ _ _ _ h7]; rfl
    have n1 : ¬ g8 = B5 := ne_tag h7 h1 (by decide)
    have n2 : ¬ g8 = B6 := ne_tag h7 h3 (by decide)
    have n3 : ¬ g8 = B7 := ne_tag h7 h4 (by decide)
    have n4 : ¬ B6 = B5 := by have := HBN.out; omega
    have n5 : ¬ B7 = B5 := by have := HBN.out; omega
    have n6 : ¬ B7 = B6 := by have := HBN.out; omega
    have HX : Hid ((W.ownsRow W2.heap.size 23 1 (.slice la pre.length lc) pre.length (pre.map El.rv) ∧ W2.heap.size ≤ W.heap.size ∧ pre.length ≤ 2000000) ∧ Boxed W B5 29 (.slice la pre.length lc) ∧ Boxed W B6 22 (.int .u64 (lastN pre : Int)) ∧ Boxed W B7 3 (.int .i64 (lastE pre : Int)) ∧ W.heap[g8]? = some (.cells #[.int .u64 (x.n : Int), .slice ra x.r.length rc] 81 (0, 0)) ∧ W.heap[x.g]? = some (.cells cc 81 f) ∧ x.rv = .slice ra x.r.length rc ∧ Below w.heap.size w W) := ⟨⟨h2, h5.2, h8⟩, h1, h3, h4, h7, h9, hrv, h5.1⟩
    have HI23 : Hid (Try.prog.info? 23 = some i0 ∧ i0.zero = some (.slice none 0 0) ∧ i0.size = 1 ∧ i0.bytes = 24) := ⟨hi, hz0, hz1, hz2⟩
    clear h1 h2 h3 h4 h5 h6 h7 h8 h9 hrv hi hz0 hz1 hz2
    gi_wp2_with (gi_at_builtin; (refine wpListIn_append_own _ rfl (.tmp 14) (.tmp 17) 29 rfl W2.heap.size 23 i0 (.slice none 0 0) 1 24 Try.underlying29 HI23.out.1 HI23.out.2.1 HI23.out.2.2.1 HI23.out.2.2.2 rfl (by decide) (.slice la pre.length lc) pre.length (pre.map El.rv) rfl (HX.out.1.1.alloc _) ⟨W.heap.size, 0, none⟩ 1 1 [.slice ra x.r.length rc] rfl rfl (World.news_of_block (Go.heap_alloc_new _ _)) (by intro u hu; obtain rfl := List.mem_singleton.1 hu; rfl) (by have := HX.out.1.2.2; unfold maxLen; omega) (by have := HX.out.1.2.2; omega) (by have := HX.out.1.2.1; simp; omega) ?_; intro v9 w9 ho9 hg9 h9x; clear h9x; obtain ⟨a9, k9, e9⟩ := own_slice ho9; subst e9; (have H9 : Hid (w9.ownsRow W2.heap.size 23 1 (.slice a9 (pre.length + 1) k9) (pre.length + 1) (pre.map El.rv ++ [.slice ra x.r.length rc]) ∧ (W.alloc (.cells #[.slice ra x.r.length rc] 23)).grownBy w9 (Value.slice la pre.length lc).ownBlock) := ⟨ho9, hg9⟩); clear ho9 hg9; (have KW := frW HX.out.1.1 HX.out.1.2.1 H9.out.2); (have r5 : Boxed w9 B5 29 (.slice la pre.length lc) := (KW.1 _ _ _ _ HX.out.2.1 (by decide)).trans HX.out.2.1); (have r6 : Boxed w9 B6 22 (.int .u64 (lastN pre : Int)) := (KW.1 _ _ _ _ HX.out.2.2.1 (by decide)).trans HX.out.2.2.1); (have r7 : Boxed w9 B7 3 (.int .i64 (lastE pre : Int)) := (KW.1 _ _ _ _ HX.out.2.2.2.1 (by decide)).trans HX.out.2.2.2.1); (have r8 := (KW.1 _ _ _ _ HX.out.2.2.2.2.1 (by decide)).trans HX.out.2.2.2.2.1); (have q5 := r5.cell); (have q6 := r6.cell); (have q7 := r7.cell); (have q8 : w9.cell? ⟨g8, 0, none⟩ = some (.int .u64 (x.n : Int)) := by rw [cell_of_row _ _ _ _ _ _ r8]; rfl); (have p5 := r5.frozen); (have p6 := r6.frozen); (have p7 := r7.frozen); (have HR : Hid (Boxed w9 B5 29 (.slice la pre.length lc) ∧ Boxed w9 B6 22 (.int .u64 (lastN pre : Int)) ∧ Boxed w9 B7 3 (.int .i64 (lastE pre : Int))) := ⟨r5, r6, r7⟩); (have HKW : Hid _ := KW); clear KW r5 r6 r7 r8))
    obtain ⟨k1, k2, k3⟩ := HKW.out
    obtain ⟨r5, r6, r7⟩ := HR.out
    obtain ⟨o1, o2, o3, o4, o5, o6, o7, o8⟩ := HX.out
    obtain ⟨z1, z2, z3, z4, z5⟩ := HBN.out
    have s1 : ∀ q, q ≠ B5 → q ≠ B6 → q ≠ B7 → (((w9.setCell ⟨B5, 0, none⟩ (.slice a9 (pre.length + 1) k9)).setCell ⟨B6, 0, none⟩ (.int .u64 (x.n : Int))).setCell ⟨B7, 0, none⟩ (.int .i64 (x.e : Int))).heap[q]? = w9.heap[q]? := fun q h5 h6 h7 => by
      rw [Below.heap_setCell _ _ _ _ h7, Below.heap_setCell _ _ _ _ h6, Below.heap_setCell _ _ _ _ h5]
    have s0 : (((w9.setCell ⟨B5, 0, none⟩ (.slice a9 (pre.length + 1) k9)).setCell ⟨B6, 0, none⟩ (.int .u64 (x.n : Int))).setCell ⟨B7, 0, none⟩ (.int .i64 (x.e : Int))).heap.size = w9.heap.size := by simp
    have keep : ∀ (q : Nat) (c : Array Value) (t : TypeId) (f : Nat × Nat), W.heap[q]? = some (.cells c t f) → t ≠ 23 → t ≠ 29 → t ≠ 22 → t ≠ 3 → (((w9.setCell ⟨B5, 0, none⟩ (.slice a9 (pre.length + 1) k9)).setCell ⟨B6, 0, none⟩ (.int .u64 (x.n : Int))).setCell ⟨B7, 0, none⟩ (.int .i64 (x.e : Int))).heap[q]? = W.heap[q]? := fun q c t f hq t1 t2 t3 t4 => by
      rw [s1 q (ne_tag hq o2 t2) (ne_tag hq o3 t3) (ne_tag hq o4 t4)]
      exact k1 q c t f hq t1
    have hnb : BX < W.heap.size := by have := o1.2.1; omega
    refine ⟨((k3.trans (KeepsOthers.setCell _ _ _)).trans (KeepsOthers.setCell _ _ _)).trans (KeepsOthers.setCell _ _ _) |>.from _, ⟨⟨by rw [s0]; exact k2.size, fun q c f hq => keep q c 5 f hq (by decide) (by decide) (by decide) (by decide), ?_⟩, keep _ _ _ _ o6 (by decide) (by decide) (by decide) (by decide)⟩, ⟨.slice a9 (pre.length + 1) k9, ?_, ?_⟩, ?_, ?_, ⟨?_, ?_⟩, fun y hy => ?_⟩
    · rw [s1 BX (by omega) (by omega) (by omega)]
      exact k2.block BX z5
    · exact ((r5.set _).other (by omega) _).other (by omega) _
    · rw [List.length_append, List.length_singleton, List.map_append, List.map_cons, List.map_nil, o7]
      refine own_at H9.out.1 fun q hq => ?_
      have := (H9.out.1.lt q hq).1
      exact s1 q (by omega) (by omega) (by omega)
    · rw [lastN_snoc]
      exact ((r6.other (by omega) _).set _).other (by omega) _
    · rw [lastE_snoc]
      exact ((r7.other (by omega) _).other (by omega) _).set _
    · exact ((((o8.trans (k2.mono (by omega))).setCell (p := ⟨B5, 0, none⟩) z1 _).setCell (p := ⟨B6, 0, none⟩) (by show _ ≤ B6; omega) _).setCell (p := ⟨B7, 0, none⟩) (by show _ ≤ B7; omega) _)
    · rw [s0]
      exact Nat.le_trans o1.2.1 k2.size
    · obtain rfl : x = y := by simpa using hy
      exact ⟨cc, 81, f, (keep _ _ _ _ o6 (by decide) (by decide) (by decide) (by decide)).trans o6⟩
  case done =>
    rintro Dm xs W hD ⟨hx1, hx2⟩ ⟨⟨lv, h1, h2⟩, h3, h4, h5, h6⟩ hK
    obtain ⟨la, lc, hlv⟩ := own_slice h2
    subst hlv
    have c5 : W.cell? ⟨B5, 0, none⟩ = some (.slice la xs.length lc) := h1.cell
    have c6 : W.cell? ⟨B6, 0, none⟩ = some (.int .u64 (lastN xs : Int)) := h3.cell
    have c7 : W.cell? ⟨B7, 0, none⟩ = some (.int .i64 (lastE xs : Int)) := h4.cell
    have HE : Hid (xs.map El.pl = goodI zs ∧ (∀ x ∈ xs, rowX w.heap.size x W) ∧ W.ownsRow W2.heap.size 23 1 (.slice la xs.length lc) xs.length (xs.map El.rv) ∧ Below w.heap.size w W ∧ w.heap.size ≤ W2.heap.size ∧ W2.heap.size ≤ Dm) := ⟨hx1, hx2, h2, h5.1, by have := HBN.out; omega, hD⟩
    have HD : Hid (W.heap[Dm]? = some (.deferred (some []))) := hK
    obtain ⟨ln, hln⟩ : ∃ ln, lastN xs = ln := ⟨_, rfl⟩
    obtain ⟨le, hle⟩ : ∃ le, lastE xs = le := ⟨_, rfl⟩
    have HLL : Hid (lastN xs = ln ∧ lastE xs = le) := ⟨hln, hle⟩
    rw [hln] at c6
    rw [hle] at c7
    clear hln hle
    clear hD hx1 hx2 h1 h2 h3 h4 h5 h6 hK
    go_wp2_with fail
    go_quiet (fail)
    go_wp2_with fail
    have hk : (W.drewN nq).heap[Dm]? = some (.deferred (some [])) := HD.out
    obtain ⟨e1, e2, e3, e4, e5, e6⟩ := HE.out
    have hg : (W.drewN nq).grownBy ((W.drewN nq).putObj Dm (.deferred none)) (some Dm) := grownBy_putObj' _ _ _
    have hr : ∀ r, some Dm = some r → ∃ o : Obj, (W.drewN nq).heap[r]? = some o ∧ o.isCells = false := fun r e => by cases e; exact ⟨_, hk, rfl⟩
    have hb0 : Below w.heap.size w (W.drewN nq) := ⟨e4.os, e4.tape, e4.output, e4.size, e4.block⟩
    refine ⟨by simp, .inl ⟨_, _, rfl, run_takeDeferred hk, ?_⟩⟩
    refine ⟨_, results_tmp3 rfl _ _ _, xs, .slice la xs.length lc, by rw [HLL.out.1, HLL.out.2]; rfl, e1, own_low (grown_own hg hr (own_at e3 fun q hq => rfl)) e5, fun x hx => grown_own hg hr (own_at (e2 x hx) fun q hq => rfl), hb0.grown hg hb0.size (fun q e => by cases e; omega)⟩
end Go.Proofs.Ytflhgphjkhplmaa.W

/- The model's Frames. -/
namespace Go.Proofs.Ytflhgphjkhplmaa.W
open Go.RowKit
set_option linter.unusedVariables false
set_option linter.unusedSimpArgs false

variable {w w' : World} {v : Value} {zs : List Int}
theorem fatI_of {at' n : Nat} {r : List Int} (hat : at' ≤ zs.length) (h0 : 1 ≤ n) (h1 : n < 18446744073709551616) (h2 : r.length ≤ 65536) (h3 : (zs.drop at').take (frI n r).length = frI n r) : fatI zs at' = some (n, r, at' + (frI n r).length) := by
  have e : zs = zs.take at' ++ (frI n r ++ (zs.drop at').drop (frI n r).length) := by
    conv => rhs; arg 2; arg 1; rw [← h3]
    rw [List.take_append_drop, List.take_append_drop]
  have hl : (zs.take at').length = at' := by simp; omega
  have := fatI_frame (zs.take at') ((zs.drop at').drop (frI n r).length) r n h0 h1 h2
  rw [← e, hl] at this
  exact this
theorem fatI_drop {at' : Nat} (hat : at' ≤ zs.length) : fatI (zs.drop at') 0 = (fatI zs at').map fun q => (q.1, q.2.1, q.2.2 - at') := by
  cases hf : fatI zs at' with
  | some q =>
    obtain ⟨n, r, e⟩ := q
    obtain ⟨f1, f2, f3, f4, f5, f6, f7⟩ := fatI_some hf
    rw [fatI_of (Nat.zero_le _) f1 f2 f3 (by rw [List.drop_zero]; exact f5)]
    simp
    omega
  | none =>
    cases hg : fatI (zs.drop at') 0 with
    | none => rfl
    | some q =>
      obtain ⟨n, r, e⟩ := q
      obtain ⟨f1, f2, f3, f4, f5, f6, f7⟩ := fatI_some hg
      rw [List.drop_zero] at f5
      rw [fatI_of hat f1 f2 f3 f5] at hf
      cases hf
theorem Gr.own5 {v v' u : Value} {w w' : World} {base base' n m : Nat} {xs ys : List Value} (h : Gr v w v' w') (hv : w.ownsRow base' 23 1 v m ys) (ho : w.ownsRow base 5 1 u n xs) : w'.ownsRow base 5 1 u n xs := own_at ho fun q hq => by
  obtain ⟨cur, hc⟩ := own_tag ho hq
  refine h.block q (Array.getElem?_eq_some_iff.1 hc).1 fun e => ?_
  obtain ⟨cur2, hc2⟩ := own_tag hv e
  rw [hc] at hc2
  cases hc2
set_option maxRecDepth 20000 in
set_option maxHeartbeats 4000000 in
theorem rframes_any (h : Bz w v zs) : Calls Try.prog 12 #[v] w fun e w' => ∃ (xs : List El) (lv : Value), e = .returned (.tuple #[lv, .int .u64 (lastN xs : Int), .int .i64 (lastE xs : Int)]) ∧ xs.map El.pl = goodI zs ∧ w'.ownsRow w.heap.size 23 1 lv xs.length (xs.map El.rv) ∧ (∀ x ∈ xs, rowX w.heap.size x w') ∧ Below w.heap.size w w' := by
  obtain ⟨a, c, hv, hc, -⟩ := h.ex
  have hs := h.small
  subst hv
  obtain ⟨N, hN⟩ : ∃ N, zs.length = N := ⟨_, rfl⟩
  have H0 : Hid (Bz w (.slice a N c) zs ∧ zs.length = N ∧ N ≤ 2000000 ∧ N ≤ c) := ⟨by rw [← hN]; exact h, hN, by omega, by omega⟩
  rw [hN]
  have n1 : (N : Int) ≤ 2000000 := by omega
  have n2 : (N : Int) ≤ (c : Int) := by omega
  clear h hc hs hN
  go_enter Try.func12, Try.ntmps12
  go_wp2_with fail
  go_loopw [5, 6, 7] (fun l n y wr => ∃ (pre : List El) (at' last k : Nat), Hid (At zs pre at' last k ∧ lastN pre = last ∧ lastE pre = at') ∧ Hid (wr.ownsRow w.heap.size 23 1 l pre.length (pre.map El.rv) ∧ (∀ x ∈ pre, rowX w.heap.size x wr) ∧ Below w.heap.size w wr) ∧ n = .int .u64 (last : Int) ∧ y = .int .i64 (at' : Int)) (fun l n y _ => N - (intOf y).toNat)
  case atStart => exact ⟨[], 0, 0, _, ⟨At.start zs, rfl, rfl⟩, ⟨World.ownsRow_nil _ _ _ _, (fun x hx => nomatch hx), Below.refl _ _⟩, rfl, rfl⟩
  case round =>
    obtain ⟨pre, at', last, k, HA, HR, rfl, rfl⟩ := hrel
    obtain ⟨la, lc, hl⟩ := own_slice HR.out.1
    subst hl
    have hle := HA.out.1.le
    by_cases hlt : at' < N
    · have hcut := (H0.out.1.newer HR.out.2.2).cut at' N (by omega) (by rw [H0.out.2.1]; omega)
      have hrest : (zs.drop at').take (N - at') = zs.drop at' := List.take_of_length_le (by simp; have := H0.out.2.1; omega)
      rw [hrest] at hcut
      rw [if_neg (by have := H0.out.2.2.2; omega)] at hcut
      obtain ⟨a2, ha2⟩ : ∃ a2, (a.map (fun x => x.add at')) = a2 := ⟨_, rfl⟩
      rw [ha2] at hcut
      have HO : Hid (Calls Try.prog 39 #[.slice a2 (N - at') (c - at')] wr fun e w' => ∃ rv, e = .returned (oneV (fatI (zs.drop at') 0) rv) ∧ (∀ n r e, fatI (zs.drop at') 0 = some (n, r, e) → Bz w' rv r) ∧ Below wr.heap.size wr w') := one_any hcut
      rw [fatI_drop hle] at HO
      have hlt' : (at' : Int) < (N : Int) := by omega
      have hac : (at' : Int) ≤ (N : Int) := by omega
      cases hf : fatI zs at' with
      | none =>
        rw [hf] at HO
        have HO2 : Hid (Calls Try.prog 39 #[.slice a2 (N - at') (c - at')] wr fun e w' => e = .returned (.tuple #[.int .u64 0, .slice none 0 0, .int .i64 0]) ∧ Hid (Below wr.heap.size wr w')) := HO.out.mono fun e w' ⟨rv, h1, h2, h3⟩ => ⟨h1, h3⟩
        have HE : Hid (pre.map El.pl = goodI zs) := HA.out.1.stop hf
        clear hf HO hcut hrest hle
        go_wp2_with (go_at_call 39; refine HO2.out.mono ?_; rintro e w2 ⟨rfl, HB⟩)
        try rw [Exit.noGoto_ret]
        go_ret3
        obtain ⟨r1, r2, r3⟩ := HR.out
        exact ⟨pre, _, by rw [HA.out.2.1, HA.out.2.2]; rfl, HE.out, own_at r1 fun q hq => HB.out.block q (r1.lt q hq).2, fun x hx => own_at (r2 x hx) fun q hq => HB.out.block q ((r2 x hx).lt q hq).2, r3.trans (HB.out.mono r3.size)⟩
      | some q =>
        obtain ⟨m, r, e⟩ := q
        rw [hf] at HO
        obtain ⟨f1, f2, f3, f4, f5, f6, f7⟩ := fatI_some hf
        have HO2 : Hid (Calls Try.prog 39 #[.slice a2 (N - at') (c - at')] wr fun x w' => ∃ ra rc, x = .returned (.tuple #[.int .u64 (m : Int), .slice ra r.length rc, .int .i64 ((e : Int) - (at' : Int))]) ∧ Hid (Bz w' (.slice ra r.length rc) r ∧ Below wr.heap.size wr w')) := HO.out.mono fun x w' ⟨rv, h1, h2, h3⟩ => by
          have h4 := h2 m r (e - at') rfl
          obtain ⟨ra, rc, hrv, -⟩ := h4.ex
          subst hrv
          refine ⟨ra, rc, ?_, h4, h3⟩
          rw [h1]
          show Ending.returned (.tuple #[_, _, .int .i64 ((e - at' : Nat) : Int)]) = _
          rw [show ((e - at' : Nat) : Int) = (e : Int) - (at' : Int) by omega]
        obtain ⟨T, hT⟩ : ∃ T : Nat, (last + 1) % 18446744073709551616 = T := ⟨_, rfl⟩
        have hwr : IntKind.u64.wrap ((last : Int) + 1) = (T : Int) := by rw [← hT]; simp [IntKind.wrap_u64]
        have hne : ¬ ((e : Int) - (at' : Int) = 0) := by omega
        have hee : (e : Int) ≤ 2000000 := by have := H0.out; omega
        have hae : (at' : Int) < (e : Int) := by omega
        have hnil := HA.out.1.nil
        have hfew := HA.out.1.few
        have HFX : Hid (r.length ≤ 65536 ∧ Byt r → True) := fun _ => trivial
        by_cases hgo : 0 < at' ∧ m ≠ T
        · have HE : Hid (pre.map El.pl = goodI zs) := HA.out.1.other hf hgo.1 (by rw [hT]; exact hgo.2)
          have g1 : (0 : Int) < (pre.length : Int) := by
            have : pre ≠ [] := fun e => by have := hnil.2 e; omega
            have := List.length_pos_iff.2 this
            omega
          have g2 : ((m : Int) != (T : Int)) = true := by rw [bne_iff_ne]; omega
          clear hf HO hcut hrest hle f1 f2 f3 f4 f5 f6 f7 hgo hT hnil hfew
          go_wp2_with (go_at_call 39; refine HO2.out.mono ?_; rintro x w2 ⟨ra, rc, rfl, HB⟩)
          try rw [Exit.noGoto_ret]
          go_ret3
          obtain ⟨r1, r2, r3⟩ := HR.out
          exact ⟨pre, _, by rw [HA.out.2.1, HA.out.2.2]; rfl, HE.out, own_at r1 fun q hq => HB.out.2.block q (r1.lt q hq).2, fun x hx => own_at (r2 x hx) fun q hq => HB.out.2.block q ((r2 x hx).lt q hq).2, r3.trans (HB.out.2.mono r3.size)⟩
        · have HNX : Hid (∀ rv g, ∃ k', At zs (pre ++ [⟨m, r, e, rv, g⟩]) e m k') := fun rv g => HA.out.1.next hf (by rw [hT]; exact hgo) rv g
          have hgo' : (pre.length : Int) ≤ 0 ∨ (0 < (pre.length : Int) ∧ T = m) := by
            by_cases h0 : at' = 0
            · rw [hnil.1 h0]; exact .inl (by decide)
            · have : pre ≠ [] := fun e => h0 (hnil.2 e)
              have := List.length_pos_iff.2 this
              exact .inr ⟨by omega, by omega⟩
          have HL : Hid (pre.length ≤ 2000000 ∧ r.length ≤ 65536 ∧ at' < e ∧ e ≤ N) := ⟨by have := H0.out; omega, f3, f7, by have := H0.out.2.1; omega⟩
          clear hf HO hcut hrest hle f1 f2 f3 f4 f5 f6 f7 hgo hT hnil hfew
          rcases hgo' with g1 | ⟨g1, rfl⟩
          · go_wp2_with (first
              | (go_at_call 39; refine HO2.out.mono ?_; rintro x w2 ⟨ra, rc, rfl, HB⟩; (have HB2 : Hid (Below w.heap.size w w2) := HR.out.2.2.trans (HB.out.2.mono HR.out.2.2.size)))
              | (at_builtin; (refine wpList_append_src rfl (.tmp 37) (.tmp 38) rfl w.heap.size (.slice none 0 0) 0 [] rfl (World.ownsRow_nil _ _ _ _) (.slice ra r.length rc) r rfl HB.out.1.src (by have := HL.out; omega) HB2.out.size ?_; intro v3 w3 ho3 hg3; (have ho4 : w3.ownsRow w.heap.size 5 1 v3 r.length (u8l r) := by have h := ho3; rw [Nat.zero_add, List.nil_append] at h; exact h); (obtain ⟨oa, oc, hv3⟩ := own_slice ho4); subst hv3; (have H3 : Hid (w3.ownsRow w.heap.size 5 1 (.slice oa r.length oc) r.length (u8l r) ∧ Below w2.heap.size w2 w3) := ⟨ho4, (Below.refl _ w2).grown hg3 (Nat.le_refl _) (by intro q hq; cases hq)⟩); clear ho3 ho4 hg3))
              | (at_builtin; (refine wpList_append_one23 rfl (.tmp 40) (.tmp 42) rfl w.heap.size (.slice la pre.length lc) pre.length (pre.map El.rv) rfl w3 (own_at HR.out.1 fun q hq => ((H3.out.2.block q (Nat.lt_of_lt_of_le (HR.out.1.lt q hq).2 HB.out.2.size)).trans (HB.out.2.block q (HR.out.1.lt q hq).2))) (.slice oa r.length oc) rfl rfl rfl HL.out.1 (Nat.le_trans HB2.out.size H3.out.2.size) ?_; intro g9 k9 w9 ho9 hg9; (have H9 : Hid (w9.ownsRow w.heap.size 23 1 (.slice (some ⟨g9, 0, none⟩) (pre.length + 1) k9) (pre.length + 1) (pre.map El.rv ++ [.slice oa r.length oc]) ∧ Gr (.slice la pre.length lc) w3 (.slice (some ⟨g9, 0, none⟩) (pre.length + 1) k9) w9) := ⟨ho9, hg9⟩); clear ho9 hg9)))
            go_roundw
            case rel =>
              obtain ⟨k', hk'⟩ := HNX.out (.slice oa r.length oc) 0
              obtain ⟨r1, r2, r3⟩ := HR.out
              have hb3 : Below wr.heap.size wr w3 := HB.out.2.trans (H3.out.2.mono HB.out.2.size)
              have ro : w3.ownsRow w.heap.size 23 1 (.slice la pre.length lc) pre.length (pre.map El.rv) := own_at r1 fun q hq => hb3.block q (r1.lt q hq).2
              refine ⟨pre ++ [⟨m, r, e, .slice oa r.length oc, 0⟩], e, m, k', ⟨hk', lastN_snoc _ _, lastE_snoc _ _⟩, ⟨?_, fun y hy => ?_, ?_⟩, rfl, by rw [show (at' : Int) + ((e : Int) - (at' : Int)) = (e : Int) by omega]⟩
              · rw [List.length_append, List.length_singleton, List.map_append]
                exact H9.out.1
              · rcases List.mem_append.1 hy with hy | hy
                · exact Gr.own5 H9.out.2 ro (own_at (r2 y hy) fun q hq => hb3.block q ((r2 y hy).lt q hq).2)
                · obtain rfl := List.mem_singleton.1 hy
                  exact Gr.own5 H9.out.2 ro H3.out.1
              · exact (r3.trans (hb3.mono r3.size)).trans (H9.out.2.below (Nat.le_trans r3.size hb3.size) (ownBlock_ge ro))
            case measure =>
              have := HL.out
              simp [intOf]
              omega
          · go_wp2_with (first
              | (go_at_call 39; refine HO2.out.mono ?_; rintro x w2 ⟨ra, rc, rfl, HB⟩; (have HB2 : Hid (Below w.heap.size w w2) := HR.out.2.2.trans (HB.out.2.mono HR.out.2.2.size)))
              | (at_builtin; (refine wpList_append_src rfl (.tmp 37) (.tmp 38) rfl w.heap.size (.slice none 0 0) 0 [] rfl (World.ownsRow_nil _ _ _ _) (.slice ra r.length rc) r rfl HB.out.1.src (by have := HL.out; omega) HB2.out.size ?_; intro v3 w3 ho3 hg3; (have ho4 : w3.ownsRow w.heap.size 5 1 v3 r.length (u8l r) := by have h := ho3; rw [Nat.zero_add, List.nil_append] at h; exact h); (obtain ⟨oa, oc, hv3⟩ := own_slice ho4); subst hv3; (have H3 : Hid (w3.ownsRow w.heap.size 5 1 (.slice oa r.length oc) r.length (u8l r) ∧ Below w2.heap.size w2 w3) := ⟨ho4, (Below.refl _ w2).grown hg3 (Nat.le_refl _) (by intro q hq; cases hq)⟩); clear ho3 ho4 hg3))
              | (at_builtin; (refine wpList_append_one23 rfl (.tmp 40) (.tmp 42) rfl w.heap.size (.slice la pre.length lc) pre.length (pre.map El.rv) rfl w3 (own_at HR.out.1 fun q hq => ((H3.out.2.block q (Nat.lt_of_lt_of_le (HR.out.1.lt q hq).2 HB.out.2.size)).trans (HB.out.2.block q (HR.out.1.lt q hq).2))) (.slice oa r.length oc) rfl rfl rfl HL.out.1 (Nat.le_trans HB2.out.size H3.out.2.size) ?_; intro g9 k9 w9 ho9 hg9; (have H9 : Hid (w9.ownsRow w.heap.size 23 1 (.slice (some ⟨g9, 0, none⟩) (pre.length + 1) k9) (pre.length + 1) (pre.map El.rv ++ [.slice oa r.length oc]) ∧ Gr (.slice la pre.length lc) w3 (.slice (some ⟨g9, 0, none⟩) (pre.length + 1) k9) w9) := ⟨ho9, hg9⟩); clear ho9 hg9)))
            go_roundw
            case rel =>
              obtain ⟨k', hk'⟩ := HNX.out (.slice oa r.length oc) 0
              obtain ⟨r1, r2, r3⟩ := HR.out
              have hb3 : Below wr.heap.size wr w3 := HB.out.2.trans (H3.out.2.mono HB.out.2.size)
              have ro : w3.ownsRow w.heap.size 23 1 (.slice la pre.length lc) pre.length (pre.map El.rv) := own_at r1 fun q hq => hb3.block q (r1.lt q hq).2
              refine ⟨pre ++ [⟨T, r, e, .slice oa r.length oc, 0⟩], e, T, k', ⟨hk', lastN_snoc _ _, lastE_snoc _ _⟩, ⟨?_, fun y hy => ?_, ?_⟩, rfl, by rw [show (at' : Int) + ((e : Int) - (at' : Int)) = (e : Int) by omega]⟩
              · rw [List.length_append, List.length_singleton, List.map_append]
                exact H9.out.1
              · rcases List.mem_append.1 hy with hy | hy
                · exact Gr.own5 H9.out.2 ro (own_at (r2 y hy) fun q hq => hb3.block q ((r2 y hy).lt q hq).2)
                · obtain rfl := List.mem_singleton.1 hy
                  exact Gr.own5 H9.out.2 ro H3.out.1
              · exact (r3.trans (hb3.mono r3.size)).trans (H9.out.2.below (Nat.le_trans r3.size hb3.size) (ownBlock_ge ro))
            case measure =>
              have := HL.out
              simp [intOf]
              omega
    · have HE : Hid (pre.map El.pl = goodI zs) := by
        refine HA.out.1.stop ?_
        cases hf : fatI zs at' with
        | none => rfl
        | some q =>
          obtain ⟨m, r, e⟩ := q
          obtain ⟨f1, f2, f3, f4, f5, f6, f7⟩ := fatI_some hf
          have := H0.out.2.1
          omega
      have hlt' : ¬ (at' : Int) < (N : Int) := by omega
      have hac : (at' : Int) ≤ (N : Int) := by have := H0.out.2.1; omega
      clear hle hlt
      go_wp2_with fail
      try rw [Exit.noGoto_ret]
      go_ret3
      obtain ⟨r1, r2, r3⟩ := HR.out
      exact ⟨pre, _, by rw [HA.out.2.1, HA.out.2.2]; rfl, HE.out, r1, r2, r3⟩
end Go.Proofs.Ytflhgphjkhplmaa.W

/- General: texts, rows of structs as they lie, frames. Nothing of a program. -/
namespace Go.Proofs.Ytflhgphjkhplmaa.D
open Go.RowKit
set_option linter.unusedVariables false
set_option linter.unusedSimpArgs false

/-- Bytes as a text. -/
def tx (l : List UInt8) : ByteArray := ⟨l.toArray⟩
theorem tx_list (l : List UInt8) : (tx l).toList = l := ByteArray.toList_mk l
theorem tx_inj {a b : List UInt8} (h : tx a = tx b) : a = b := by rw [← tx_list a, h, tx_list]
theorem tx_size (l : List UInt8) : (tx l).size = l.length := by simp [tx, ByteArray.size]
theorem tx_of (s : ByteArray) : s = tx s.toList := by
  obtain ⟨l, rfl⟩ : ∃ l, s = tx l := ⟨s.data.toList, by cases s; simp [tx]⟩
  rw [tx_list]

/-! Rows of structs: a list of things, each told as so many cells. -/
variable {α : Type} {f : α → List Value} {m : Nat}
def fl (f : α → List Value) : List α → List Value
  | [] => []
  | p :: r => f p ++ fl f r
theorem fl_len (hf : ∀ x, (f x).length = m) : ∀ ps, (fl f ps).length = ps.length * m
  | [] => by simp [fl]
  | p :: r => by rw [fl, List.length_append, hf, fl_len hf r, List.length_cons, Nat.add_mul, Nat.one_mul, Nat.add_comm]
theorem fl_app : ∀ a b : List α, fl f (a ++ b) = fl f a ++ fl f b
  | [], b => rfl
  | p :: r, b => by simp [fl, fl_app r b]
theorem fl_at (hf : ∀ x, (f x).length = m) : ∀ (ps : List α) (i : Nat) (p : α) (r : Nat), ps[i]? = some p → r < m → (fl f ps)[i * m + r]? = (f p)[r]?
  | [], i, p, r, h, _ => by simp at h
  | q :: l, 0, p, r, h, hr => by
    simp at h
    rw [← h, fl, List.getElem?_append_left (by rw [hf]; omega)]
    simp
  | q :: l, i + 1, p, r, h, hr => by
    simp at h
    rw [fl, List.getElem?_append_right (by rw [hf, Nat.add_mul]; omega), hf, show (i + 1) * m + r - m = i * m + r by rw [Nat.add_mul]; omega]
    exact fl_at hf l i p r h hr
theorem fl_take (hf : ∀ x, (f x).length = m) : ∀ (ss : List α) (i : Nat), (fl f ss).take (i * m) = fl f (ss.take i)
  | [], i => by simp [fl]
  | p :: r, 0 => by simp [fl]
  | p :: r, i + 1 => by
    rw [List.take_succ_cons, fl, fl, List.take_append, List.take_of_length_le (by rw [hf, Nat.add_mul]; omega), hf, show (i + 1) * m - m = i * m by rw [Nat.add_mul]; omega, fl_take hf r i]
theorem fl_drop (hf : ∀ x, (f x).length = m) : ∀ (ss : List α) (i : Nat), (fl f ss).drop (i * m) = fl f (ss.drop i)
  | [], i => by simp [fl]
  | p :: r, 0 => by simp [fl]
  | p :: r, i + 1 => by
    rw [List.drop_succ_cons, fl, List.drop_append, List.drop_of_length_le (by rw [hf, Nat.add_mul]; omega), hf, show (i + 1) * m - m = i * m by rw [Nat.add_mul]; omega, fl_drop hf r i]
    rfl
theorem fl_one (h1 : ∀ x, ∀ u ∈ f x, u.oneCell' = true) : ∀ (ss : List α), ∀ u ∈ fl f ss, u.oneCell' = true
  | [], u, h => by simp [fl] at h
  | p :: r, u, h => by
    rcases List.mem_append.1 (show u ∈ f p ++ fl f r from h) with h | h
    · exact h1 p u h
    · exact fl_one h1 r u h
/-- Cells that are put one behind the other. -/
def setN {β : Type} : List β → Nat → List β → List β
  | l, _, [] => l
  | l, i, v :: r => setN (l.set i v) (i + 1) r
theorem setN_right {β : Type} : ∀ (vs a b : List β) (i : Nat), setN (a ++ b) (a.length + i) vs = a ++ setN b i vs
  | [], a, b, i => rfl
  | v :: r, a, b, i => by
    rw [setN, List.set_append_right _ _ (by omega), show a.length + i - a.length = i by omega, Nat.add_assoc, setN_right r a (b.set i v) (i + 1)]
    rfl
theorem setN_left {β : Type} : ∀ (vs a b : List β) (i : Nat), i + vs.length = a.length → setN (a ++ b) i vs = a.take i ++ vs ++ b
  | [], a, b, i, h => by
    simp at h
    rw [h, List.take_length]
    simp [setN]
  | v :: r, a, b, i, h => by
    simp at h
    rw [setN, List.set_append_left _ _ (by omega), setN_left r (a.set i v) b (i + 1) (by simp; omega), List.take_add_one]
    simp [List.take_set_of_le, List.getElem?_set, show i < a.length by omega]
theorem fl_set (hf : ∀ x, (f x).length = m) : ∀ (ss : List α) (k : Nat) (x : α), k < ss.length → setN (fl f ss) (k * m) (f x) = fl f (ss.set k x)
  | [], k, x, h => by simp at h
  | p :: r, 0, x, h => by
    rw [fl, Nat.zero_mul, setN_left _ _ _ 0 (by rw [hf, hf]; omega)]
    simp [fl]
  | p :: r, k + 1, x, h => by
    simp at h
    rw [fl, show (k + 1) * m = (f p).length + k * m by rw [hf, Nat.add_mul]; omega, setN_right, fl_set hf r k x h]
    rfl

/-! Rows that are owned. -/
theorem own_form {w : World} {base size n : Nat} {e : TypeId} {v : Value} {xs : List Value} (h : w.ownsRow base e size v n xs) (hn : 0 < n) : ∃ g cap, v = .slice (some ⟨g, 0, none⟩) n cap := by
  rcases h.2 with ⟨_, h'⟩ | ⟨g, cp, cur, hv, _⟩
  · omega
  · exact ⟨g, cp, hv⟩
theorem own_slice {w : World} {base size n : Nat} {e : TypeId} {v : Value} {xs : List Value} (h : w.ownsRow base e size v n xs) : ∃ a cap, v = .slice a n cap := by
  rcases h.2 with ⟨h, h'⟩ | ⟨g, cp, cur, hv, _⟩
  · exact ⟨_, _, by rw [h, h']⟩
  · exact ⟨_, cp, hv⟩
theorem own_cap {w : World} {base size n n' g cap : Nat} {e : TypeId} {xs : List Value} (h : w.ownsRow base e size (.slice (some ⟨g, 0, none⟩) n' cap) n xs) : n ≤ cap := by
  rcases h.2 with ⟨h', _⟩ | ⟨g', cp', cur, hv, _, _, h3, _⟩
  · cases h'
  · cases hv; exact h3
theorem own_at {w w' : World} {base size n : Nat} {e : TypeId} {v : Value} {xs : List Value} (h : w.ownsRow base e size v n xs) (hk : ∀ q, v.ownBlock = some q → w'.heap[q]? = w.heap[q]?) : w'.ownsRow base e size v n xs :=
  ⟨h.1, h.2.imp id fun ⟨g, cap, cur, hv, hg, hc, r⟩ => ⟨g, cap, cur, hv, hg, (hk g (by rw [hv]; rfl)).trans hc, r⟩⟩
theorem own_lt {w : World} {base size n g cap n' : Nat} {e : TypeId} {xs : List Value} (h : w.ownsRow base e size (.slice (some ⟨g, 0, none⟩) n' cap) n xs) : base ≤ g ∧ g < w.heap.size := h.lt g rfl
theorem own_low {w : World} {base base' size n : Nat} {e : TypeId} {v : Value} {xs : List Value} (h : w.ownsRow base e size v n xs) (hb : base' ≤ base) : w.ownsRow base' e size v n xs :=
  ⟨h.1, h.2.imp id fun ⟨g, cap, cur, hv, hg, hc, r⟩ => ⟨g, cap, cur, hv, by omega, hc, r⟩⟩
theorem own_tag {w : World} {base size n q : Nat} {e : TypeId} {v : Value} {xs : List Value} (h : w.ownsRow base e size v n xs) (hq : v.ownBlock = some q) : ∃ cur, w.heap[q]? = some (.cells cur e (0, 0)) := by
  rcases h.2 with ⟨h1, _⟩ | ⟨g, cp, cur, hv, hg, hc, _⟩
  · rw [h1] at hq; cases hq
  · rw [hv] at hq
    have : g = q := by simpa [Value.ownBlock] using hq
    subst this
    exact ⟨cur, hc⟩
theorem ne_tag {w : World} {a b : Nat} {c c' : Array Value} {t t' : TypeId} {f f' : Nat × Nat} (h : w.heap[a]? = some (.cells c t f)) (h' : w.heap[b]? = some (.cells c' t' f')) (ht : t ≠ t') : a ≠ b := by
  intro e
  subst e
  rw [h] at h'
  cases h'
  exact ht rfl
theorem own_other {w : World} {base n F size : Nat} {e t : TypeId} {v : Value} {xs : List Value} {c : Array Value} {f : Nat × Nat} (h : w.ownsRow base e size v n xs) (hF : w.heap[F]? = some (.cells c t f)) (ht : t ≠ e) : some F ≠ v.ownBlock := by
  intro hq
  obtain ⟨cur, hc⟩ := own_tag h hq.symm
  exact ne_tag hF hc ht rfl
theorem row_set {w : World} {b i : Nat} {c : Array Value} {t : TypeId} {f : Nat × Nat} (v : Value) (h : w.heap[b]? = some (.cells c t f)) : (w.setCell ⟨b, i, none⟩ v).heap[b]? = some (.cells (c.setIfInBounds i v) t f) := by
  simp [World.setCell, Array.getElem?_modify, h]
theorem own_set {w : World} {base e size g n cap i : Nat} {xs : List Value} (h : w.ownsRow base e size (.slice (some ⟨g, 0, none⟩) n cap) n xs) (hi : i < xs.length) (v : Value) : (w.setCell ⟨g, i, none⟩ v).ownsRow base e size (.slice (some ⟨g, 0, none⟩) n cap) n (xs.set i v) := by
  refine ⟨by rw [List.length_set]; exact h.1, .inr ?_⟩
  rcases h.2 with ⟨h', _⟩ | ⟨g', cp', cur, hv, hb, hc, h3, h4, h5, h6⟩
  · cases h'
  · cases hv
    refine ⟨g, cap, cur.setIfInBounds i v, rfl, hb, row_set _ hc, h3, h4, by simpa using h5, ?_⟩
    rw [Array.toList_setIfInBounds, ← h6, List.take_set]
theorem own_setN : ∀ (vs : List Value) {w : World} {base e size g n cap i : Nat} {xs : List Value}, w.ownsRow base e size (.slice (some ⟨g, 0, none⟩) n cap) n xs → i + vs.length ≤ xs.length → (w.setCells g i vs).ownsRow base e size (.slice (some ⟨g, 0, none⟩) n cap) n (setN xs i vs)
  | [], w, base, e, size, g, n, cap, i, xs, h, hl => h
  | v :: r, w, base, e, size, g, n, cap, i, xs, h, hl => by
    simp at hl
    exact own_setN r (own_set h (by omega) v) (by simp; omega)
theorem own_put {w : World} {base e g cap k : Nat} {l : List α} (hf : ∀ x, (f x).length = m) (h : w.ownsRow base e m (.slice (some ⟨g, 0, none⟩) l.length cap) l.length (fl f l)) (hk : k < l.length) (x : α) : (w.setCells g (k * m) (f x)).ownsRow base e m (.slice (some ⟨g, 0, none⟩) (l.set k x).length cap) (l.set k x).length (fl f (l.set k x)) := by
  have h2 := own_setN (f x) (i := k * m) h (by
    rw [hf, fl_len hf]
    have := Nat.mul_le_mul_right m (show k + 1 ≤ l.length from hk)
    rw [Nat.add_mul] at this
    omega)
  rw [fl_set hf l k x hk] at h2
  rw [List.length_set]
  exact h2
theorem own_there {w : World} {base e g cap k : Nat} {l : List α} (hf : ∀ x, (f x).length = m) (h : w.ownsRow base e m (.slice (some ⟨g, 0, none⟩) l.length cap) l.length (fl f l)) (hk : k < l.length) : w.there g (k * m) m := fun j hj => by
  have hlt : k * m + j < l.length * m := by
    have := Nat.mul_le_mul_right m (show k + 1 ≤ l.length from hk)
    rw [Nat.add_mul] at this
    omega
  refine ⟨?_, h.frozenAt _⟩
  rw [h.cellAt _ hlt, List.getElem?_eq_getElem (by rw [fl_len hf]; exact hlt)]
  rfl
theorem setCs_size : ∀ (vs : List Value) (w : World) (g i : Nat), (w.setCells g i vs).heap.size = w.heap.size
  | [], w, g, i => rfl
  | v :: r, w, g, i => by rw [World.setCells, setCs_size r]; simp
theorem setCs_other : ∀ (vs : List Value) (w : World) (g i q : Nat), q ≠ g → (w.setCells g i vs).heap[q]? = w.heap[q]?
  | [], w, g, i, q, h => rfl
  | v :: r, w, g, i, q, h => by rw [World.setCells, setCs_other r _ g _ q h]; exact Below.heap_setCell _ _ _ _ h
theorem setCs_rest : ∀ (vs : List Value) (w : World) (g i : Nat), (w.setCells g i vs).os = w.os ∧ (w.setCells g i vs).tape = w.tape ∧ (w.setCells g i vs).output = w.output
  | [], w, g, i => ⟨rfl, rfl, rfl⟩
  | v :: r, w, g, i => by rw [World.setCells]; exact setCs_rest r _ g _

/-! Frames. -/
/-- All but one block lies as it lay. -/
structure Kp (g : Nat) (w w' : World) : Prop where
  os : w'.os = w.os
  tape : w'.tape = w.tape
  output : w'.output = w.output
  size : w'.heap.size = w.heap.size
  block : ∀ q, q ≠ g → w'.heap[q]? = w.heap[q]?
theorem Kp.refl (g : Nat) (w : World) : Kp g w w := ⟨rfl, rfl, rfl, rfl, fun _ _ => rfl⟩
theorem Kp.trans {g : Nat} {a b c : World} (h : Kp g a b) (k : Kp g b c) : Kp g a c :=
  ⟨k.os.trans h.os, k.tape.trans h.tape, k.output.trans h.output, k.size.trans h.size, fun q hq => (k.block q hq).trans (h.block q hq)⟩
theorem Kp.setCell {g : Nat} {a b : World} (h : Kp g a b) (i : Nat) (v : Value) : Kp g a (b.setCell ⟨g, i, none⟩ v) :=
  h.trans ⟨rfl, rfl, rfl, by simp, fun q hq => Below.heap_setCell _ _ _ _ hq⟩
theorem Kp.setCs {g : Nat} {a b : World} (h : Kp g a b) (i : Nat) (vs : List Value) : Kp g a (b.setCells g i vs) :=
  h.trans ⟨(setCs_rest vs b g i).1, (setCs_rest vs b g i).2.1, (setCs_rest vs b g i).2.2, setCs_size vs b g i, fun q hq => setCs_other vs b g i q hq⟩
theorem Kp.drewN {g : Nat} {a b : World} (h : Kp g a b) (n : Nat) : Kp g a (b.drewN n) :=
  h.trans ⟨rfl, rfl, rfl, rfl, fun q hq => rfl⟩
theorem Kp.below {g base : Nat} {a b : World} (h : Kp g a b) (hb : base ≤ g) : Below base a b :=
  ⟨h.os, h.tape, h.output, by rw [h.size]; exact Nat.le_refl _, fun k hk => h.block k (by omega)⟩
theorem bel1 (w : World) (o : Obj) : Below w.heap.size w (w.alloc o) := (Below.refl _ w).alloc (Nat.le_refl _) _
/-- What does not lie in blocks of cells of bad types lies as before. -/
def Kx (bad : TypeId → Bool) (w w' : World) : Prop := ∀ (p : Nat) (o : Obj), w.heap[p]? = some o → (∀ c t f, o = .cells c t f → bad t = false) → w'.heap[p]? = some o
theorem Kx.refl (bad : TypeId → Bool) (w : World) : Kx bad w w := fun _ _ h _ => h
theorem Kx.trans {bad : TypeId → Bool} {a b c : World} (h : Kx bad a b) (k : Kx bad b c) : Kx bad a c := fun p o hp ho => k p o (h p o hp ho) ho
theorem Kx.mono {bad more : TypeId → Bool} {a b : World} (h : Kx bad a b) (hm : ∀ t, more t = false → bad t = false) : Kx more a b := fun p o hp ho => h p o hp fun c t f e => hm t (ho c t f e)
theorem Kx.of {bad : TypeId → Bool} {w w' : World} {B : Nat} (h : Below B w w') (hB : w.heap.size ≤ B) : Kx bad w w' := fun p o hp _ => (h.block p (by have := (Array.getElem?_eq_some_iff.1 hp).1; omega)).trans hp
theorem Kx.row {bad : TypeId → Bool} {w w' : World} {p : Nat} {c : Array Value} {t : TypeId} {f : Nat × Nat} (h : Kx bad w w') (hp : w.heap[p]? = some (.cells c t f)) (ht : bad t = false) : w'.heap[p]? = some (.cells c t f) :=
  h p _ hp fun c' t' f' e => by cases e; exact ht
theorem Kx.own {bad : TypeId → Bool} {e : TypeId} {w w' : World} {base size n : Nat} {v : Value} {xs : List Value} (h : Kx bad w w') (ho : w.ownsRow base e size v n xs) (ht : bad e = false) : w'.ownsRow base e size v n xs :=
  own_at ho fun q hq => by obtain ⟨cur, hc⟩ := own_tag ho hq; rw [h.row hc ht, hc]
theorem Kx.but {bad : TypeId → Bool} {g : Nat} {w w' : World} {c : Array Value} {t : TypeId} {f : Nat × Nat} (h : ∀ q, q < w.heap.size → q ≠ g → w'.heap[q]? = w.heap[q]?) (hg : w.heap[g]? = some (.cells c t f)) (ht : bad t = true) : Kx bad w w' := fun p o hp ho => by
  refine (h p (Array.getElem?_eq_some_iff.1 hp).1 ?_).trans hp
  intro e
  subst e
  rw [hg] at hp
  have := ho c t f (Option.some.inj hp).symm
  rw [ht] at this
  cases this
theorem Kx.kp {bad : TypeId → Bool} {g : Nat} {w w' : World} {c : Array Value} {t : TypeId} {f : Nat × Nat} (h : Kp g w w') (hg : w.heap[g]? = some (.cells c t f)) (ht : bad t = true) : Kx bad w w' := Kx.but (fun q _ hq => h.block q hq) hg ht
theorem Kx.grown {bad : TypeId → Bool} {w w' : World} {base size n : Nat} {e : TypeId} {v : Value} {xs : List Value} (hg : w.grownBy w' v.ownBlock) (ho : w.ownsRow base e size v n xs) (ht : bad e = true) : Kx bad w w' := fun p o hp hb => by
  refine (hg.block p (Array.getElem?_eq_some_iff.1 hp).1 ?_).trans hp
  intro hq
  obtain ⟨cur, hc⟩ := own_tag ho hq.symm
  rw [hc] at hp
  have := hb _ _ _ (Option.some.inj hp).symm
  rw [ht] at this
  cases this
theorem Kx.setCell {bad : TypeId → Bool} {w : World} {b i : Nat} {c : Array Value} {t : TypeId} {f : Nat × Nat} (h : w.heap[b]? = some (.cells c t f)) (ht : bad t = true) (v : Value) : Kx bad w (w.setCell ⟨b, i, none⟩ v) :=
  Kx.but (fun q _ hq => Below.heap_setCell _ _ _ _ hq) h ht
/-- An append, as a frame by places. -/
theorem grown_below {w w' : World} {base e size n : Nat} {v : Value} {xs : List Value} (hg : w.grownBy w' v.ownBlock) (ho : w.ownsRow base e size v n xs) (hb : base ≤ w.heap.size) : Below base w w' :=
  ⟨hg.os, hg.tape, hg.output, hg.size, fun q hq => hg.block q (by omega) (fun e => by have := (ho.lt q e.symm).1; omega)⟩
end Go.Proofs.Ytflhgphjkhplmaa.D

/- A frame by footprints. -/
namespace Go.Proofs.Ytflhgphjkhplmaa.D
open Go.RowKit

/-- All that is not in some blocks lies as it lay; these are joined by new ones alone. -/
structure Fr (F F' : Nat → Prop) (w w' : World) : Prop where
  os : w'.os = w.os
  tape : w'.tape = w.tape
  output : w'.output = w.output
  size : w.heap.size ≤ w'.heap.size
  block : ∀ q, q < w.heap.size → ¬ F q → w'.heap[q]? = w.heap[q]?
  grow : ∀ q, F' q → F q ∨ w.heap.size ≤ q
theorem Fr.below {F F' : Nat → Prop} {w w' : World} {base : Nat} (h : Fr F F' w w') (hF : ∀ q, F q → base ≤ q) (hb : base ≤ w.heap.size) : Below base w w' :=
  ⟨h.os, h.tape, h.output, h.size, fun q hq => h.block q (by omega) fun hf => by have := hF q hf; omega⟩
theorem Fr.low {F F' : Nat → Prop} {w w' : World} {base : Nat} (h : Fr F F' w w') (hF : ∀ q, F q → base ≤ q) (hb : base ≤ w.heap.size) : ∀ q, F' q → base ≤ q := fun q hq => by
  rcases h.grow q hq with h' | h'
  · exact hF q h'
  · omega
end Go.Proofs.Ytflhgphjkhplmaa.D
