import Derived.Test.YtflhgphjkhplmaaML21
import Derived.Test.YtflhgphjkhplmaaML19
import Derived.Test.YtflhgphjkhplmaaRows
import Derived.Deep.Slices
import Derived.OpenShut
import Derived.ProofKit
/- The harness's records: a list of what a log tells; each of them is spoilt, and the log has them still. -/
namespace Go.Proofs.Ytflhgphjkhplmaa.D
open Go Go.RowKit W R Go.Shelf
set_option linter.unusedVariables false
set_option linter.unusedSimpArgs false
attribute [local go_sem] Oper.semAt_some

variable {w w' : World} {L D k : Nat} {P : Nat → Prop} {g : Lg}
theorem AB.from {W W' : World} {bx base : Nat} {v : Value} {xs : List Rc} {row : Option Nat} (h : AB W bx base v xs) (hg : W.grownBy W' row) (hr : ∀ r, row = some r → ∃ o : Obj, W.heap[r]? = some o ∧ o.isCells = false) : AB W' bx base v xs :=
  ⟨(grown_cells hg hr h.box).trans h.box, grown_own hg hr h.row, fun x hx => grown_own hg hr (h.each x hx), h.few, Nat.lt_of_lt_of_le h.lb.1 hg.size, h.lb.2⟩
theorem all_seq (n bx base : Nat) (v : Value) (xs : List Rc) (w : World) (hn : 3 ≤ n) (hb : base ≤ w.heap.size) (hG : AB w bx base v xs) :
    SeqX Fence.wide n Try.prog 61 #[.pointer (some ⟨bx, 0, none⟩)] encC XC (fun _ => KL base bx) (fun ys W => ys.map Ec.r = xs.map Rc.r) w := by
  intro l J Jx W hW hA _ hY h0
  exact all_in n l bx base v xs J Jx W hn hA (Nat.le_trans hb hW.size) (hG.later (KL.of hW hb hG.lb.1)) hY h0
theorem all_stops (n bx base : Nat) (v : Value) (xs : List Rc) (w : World) (hn : 3 ≤ n) (hb : base ≤ w.heap.size) (hG : AB w bx base v xs) :
    SeqStopsK Fence.wide n Try.prog 61 #[.pointer (some ⟨bx, 0, none⟩)] encC (KL base bx) (fun _ => True) (fun _ => True) 1000001 w := by
  intro l J Jx W hW hA _ hY h0
  refine (all_in n l bx base v xs J Jx W hn hA (Nat.le_trans hb hW.size) (hG.later (KL.of hW hb hG.lb.1)) (fun pre x V0 V hj hbV hX => hY pre x V (abides_below hA hj hbV) (by have := hX.1; omega)) h0).mono ?_
  rintro e W' ⟨hv, ⟨xs, -, hx⟩ | ⟨pre, hx⟩⟩
  · exact ⟨hv, .inl ⟨xs, trivial, hx⟩⟩
  · exact ⟨hv, .inr ⟨pre, trivial, hx⟩⟩
theorem wpListIn_append_src {F : Fence} {n' : Nat} {w : World} {ops : Array Oper} {rest : List Oper} {o : Oper} {a : Act} {Q : Exit → Act → World → Prop} (hgd : o.guard = none) (s x : Operand)
    (ho : o.op = .call { callee := .builtin .append, args := #[s, x], argTypes := #[23, 23] }) (base : Nat) (v : Value) (n : Nat) (xs : List Value) (hs : a.eval s = v) (hown : w.ownsRow base 5 1 v n xs)
    (sv : Value) (bs : List Int) (hx : a.eval x = sv) (hsrc : Src w sv bs) (hb : n + bs.length ≤ 100000000) (hbase : base ≤ w.heap.size)
    (h : ∀ v' w', w'.ownsRow base 5 1 v' (n + bs.length) (xs ++ u8l bs) → w.grownBy w' v.ownBlock → wpListIn F n' Try.prog ops Q rest (a.put o.dst v') w') : wpListIn F n' Try.prog ops Q (o :: rest) a w := by
  obtain ⟨i0, hi, hz0, hz1, hz2⟩ := info_parts info5
  rcases hsrc with ⟨rfl, rfl⟩ | ⟨ad, cap, rfl, _, hC⟩
  · refine wpListIn_plain hgd fun K hK => ?_
    have hrun := run_append_owned_none (P := Try.prog) (w := w) base 23 o.type 5 i0 1 Try.underlying23 hi v n xs hown
    unfold Oper.wpIn
    refine ⟨?_, ?_⟩
    · simp [Oper.about, ho, resolve, Target.leads, Sem.run_pure]
    · rw [Oper.semAt_plain F _ _ (by rw [ho]; intro c hc'; cases hc')]
      simp [execOp, ho, resolve, invoke, builtin, hs, hx, hrun, Result.andThen]
      exact hK _ _ (h v w (by simpa [u8l] using hown) ⟨rfl, rfl, rfl, Nat.le_refl _, fun _ _ _ => rfl⟩)
  · exact wpListIn_append_own w hgd s x 23 ho base 5 i0 (.int .u8 0) 1 1 Try.underlying23 hi hz0 hz1 hz2 rfl (by decide) v n xs hs hown ad bs.length cap (u8l bs) hx (by simp [u8l_len]) hC (u8l_one _) (by unfold maxLen; omega) (by omega) hbase fun v' w' h1 h2 _ => h v' w' h1 h2
/-- What the loop of records keeps: the list so far, each record in a row of its own. -/
structure RcL (B B5 : Nat) (lv : Value) (ps : List (Value × List Int)) (W : World) : Prop where
  box : Boxed W B5 29 lv
  row : W.ownsRow B 23 1 lv ps.length (ps.map Prod.fst)
  each : ∀ p ∈ ps, W.ownsRow B 5 1 p.1 p.2.length (u8l p.2)
theorem RcL.from {B B5 : Nat} {lv : Value} {ps : List (Value × List Int)} {W W' : World} {row : Option Nat} (h : RcL B B5 lv ps W) (hg : W.grownBy W' row) (hr : ∀ r, row = some r → ∃ o : Obj, W.heap[r]? = some o ∧ o.isCells = false) : RcL B B5 lv ps W' :=
  ⟨(grown_cells hg hr h.box).trans h.box, grown_own hg hr h.row, fun p hp => grown_own hg hr (h.each p hp)⟩
structure RcI (w : World) (B B5 : Nat) (pre : List Ec) (W : World) : Prop where
  ex : ∃ lv ps, RcL B B5 lv ps W ∧ ps.map Prod.snd = pre.map Ec.r
  below : Below w.heap.size w W
  le : B ≤ W.heap.size
theorem RcI.from {w : World} {B B5 : Nat} {pre : List Ec} {W W' : World} {row : Option Nat} (h : RcI w B B5 pre W) (hg : W.grownBy W' row) (hr : ∀ r, row = some r → w.heap.size ≤ r ∧ ∃ o : Obj, W.heap[r]? = some o ∧ o.isCells = false) : RcI w B B5 pre W' := by
  obtain ⟨⟨lv, ps, h1, h2⟩, h5, h6⟩ := h
  exact ⟨⟨lv, ps, h1.from hg fun r e => (hr r e).2, h2⟩, h5.grown hg h5.size (fun q hq => (hr q hq).1), Nat.le_trans h6 hg.size⟩
/-- In a round: with the record that is told, in a row apart. -/
structure RcA (w : World) (B B5 : Nat) (pre : List Ec) (x : Ec) (W : World) : Prop where
  ex : ∃ lv ps, RcL B B5 lv ps W ∧ ps.map Prod.snd = pre.map Ec.r ∧ ∀ p ∈ ps, ∀ q, p.1.ownBlock = some q → x.rv.ownBlock ≠ some q
  row : W.ownsRow B 5 1 x.rv x.r.length (u8l x.r)
  below : Below w.heap.size w W
  le : B ≤ W.heap.size
  few : pre.length ≤ 1000000 ∧ x.r.length ≤ 1048576 ∧ Byt x.r
theorem RcA.from {w : World} {B B5 : Nat} {pre : List Ec} {x : Ec} {W W' : World} {row : Option Nat} (h : RcA w B B5 pre x W) (hg : W.grownBy W' row) (hr : ∀ r, row = some r → w.heap.size ≤ r ∧ ∃ o : Obj, W.heap[r]? = some o ∧ o.isCells = false) : RcA w B B5 pre x W' := by
  obtain ⟨⟨lv, ps, h1, h2, h3⟩, h4, h5, h6, h7⟩ := h
  exact ⟨⟨lv, ps, h1.from hg fun r e => (hr r e).2, h2, h3⟩, grown_own hg (fun r e => (hr r e).2) h4, h5.grown hg h5.size (fun q hq => (hr q hq).1), Nat.le_trans h6 hg.size, h7⟩
theorem RcI.told {w : World} {B B5 : Nat} {pre : List Ec} {x : Ec} {W0 W : World} (h : RcI w B B5 pre W0) (hb : Below W0.heap.size W0 W) (hX : XC pre x W0 W) : RcA w B B5 pre x W := by
  obtain ⟨⟨lv, ps, h1, h2⟩, h5, h6⟩ := h
  obtain ⟨x1, x2, x3⟩ := hX
  have hg : W0.grownBy W none := ⟨hb.os, hb.tape, hb.output, hb.size, fun q hq _ => hb.block q hq⟩
  exact ⟨⟨lv, ps, h1.from hg (fun r e => nomatch e), h2, fun p hp q hq e => by
    have a1 := ((h1.each p hp).lt q hq).2
    have a2 := (x3.lt q e).1
    omega⟩, own_low x3 h6, h5.trans (hb.mono h5.size), Nat.le_trans h6 hb.size, x1, x2.1, x2.2⟩
set_option maxRecDepth 100000 in
set_option maxHeartbeats 4000000 in
theorem records_any (h : LG w L D g P) (hP : ∀ q, P q → q < w.heap.size) (hl : g.rs.length ≤ 1000000) (hr : ∀ x ∈ g.rs, x.2.length ≤ 1048576 ∧ Byt x.2) : Calls Try.prog 26 #[.pointer (some ⟨L, 0, none⟩)] w fun e w' => ∃ (lv : Value) (xs : List (Value × List Int)), e = .returned (.tuple #[lv, .bool true]) ∧ w'.ownsRow w.heap.size 23 1 lv xs.length (xs.map Prod.fst) ∧ (∀ x ∈ xs, w'.ownsRow w.heap.size 5 1 x.1 x.2.length (u8l x.2)) ∧ xs.map Prod.snd = g.rs.map Prod.snd ∧ Below w.heap.size w w' := by
  have HAL : Hid (∀ W, Below w.heap.size w W → Calls Try.prog 28 #[.pointer (some ⟨L, 0, none⟩)] W fun e w' => e = .returned (.func (.func 61) #[] #[.pointer (some ⟨W.heap.size, 0, none⟩)]) ∧ Hid (Below W.heap.size W w' ∧ ∃ v xs, AB w' W.heap.size w.heap.size v xs ∧ xs.map Rc.pl = g.rs)) := by
    show ∀ W, _
    intro W hW
    refine (all_some (h.newer hW)).mono ?_
    rintro e w' ⟨rfl, h1⟩
    obtain ⟨hb, rv, xs, h2, h3, h4, h5, h6, h7⟩ := h1.out
    have hm : ∀ x ∈ xs, x.r.length ≤ 1048576 ∧ Byt x.r := fun x hx => hr _ (by rw [← h4]; exact List.mem_map_of_mem hx)
    refine ⟨rfl, hb, rv, xs, ⟨h2, h3, h5, ⟨by have := congrArg List.length h4; simp at this; omega, hm⟩, (Array.getElem?_eq_some_iff.1 h2).1, fun q hq => hP q (h6 q hq), fun x hx q hq => hP q (h7 x hx q hq)⟩, h4⟩
  clear h hl hr hP
  have hnf : ∀ (fn : Fn) (first cap : Array Value) (w : World), (binOp .eql 66 (.func fn first cap) .nilFunc).run Try.prog w = .ok (.bool false) w := fun _ _ _ _ => by kernel_rfl
  refine (callsIn_wide (n := 8)).1 ?_
  refine callsIn_of_wp_marks Try.func26 rfl trivial ?_ rfl
  refine wpIn_wide.2 ?_
  simp only [Try.ntmps26, List.size_toArray, List.length_cons, List.length_nil, Nat.reduceAdd, Nat.reduceSub, Array.replicate_succ, Array.replicate_zero, List.push_toArray, List.append_toArray, List.nil_append, List.cons_append]
  go_wp2_with (go_at_call 28; refine (HAL.out _ (bel1 _ _)).mono ?_; rintro e W2 ⟨rfl, HW2⟩)
  obtain ⟨B5, BX, e5, eX⟩ : ∃ B5 BX, w.heap.size = B5 ∧ w.heap.size + 1 = BX := ⟨_, _, rfl, rfl⟩
  have H2 : Hid (∃ v xs, AB W2 BX w.heap.size v xs ∧ xs.map Rc.pl = g.rs) := by
    have h := HW2.out.2
    rw [World.size_alloc, eX] at h
    exact h
  have HBN : Hid (w.heap.size ≤ B5 ∧ B5 < BX ∧ BX < W2.heap.size) := ⟨by omega, by omega, by obtain ⟨v, xs, h, -⟩ := H2.out; exact h.lb.1⟩
  have HI0 : Hid (RcI w W2.heap.size B5 [] W2) := by
    have hb := (bel1 w (.cells #[.slice none 0 0] 29)).trans (HW2.out.1.mono (bel1 w _).size)
    refine ⟨⟨.slice none 0 0, [], ⟨?_, World.ownsRow_nil _ _ _ _, fun p hp => nomatch hp⟩, rfl⟩, hb, Nat.le_refl _⟩
    have h := Boxed.new w 29 (.slice none 0 0)
    rw [e5] at h
    exact (HW2.out.1.block B5 (by rw [World.size_alloc]; omega)).trans h
  rw [eX, e5]
  clear HW2 HAL e5 eX
  obtain ⟨v, xs, hAB, hrs⟩ := H2.out
  have HAB : Hid (AB W2 BX w.heap.size v xs ∧ xs.map Rc.pl = g.rs) := ⟨hAB, hrs⟩
  clear H2 hAB hrs
  refine (wpIn_wide (n := 8)).1 ?_
  refine range_x rfl (by omega) (gf := 61) (lb := #[.pointer (some ⟨BX, 0, none⟩)]) rfl trivial (enters_of Try.func61 (by kernel_rfl) rfl)
    (all_seq 7 BX w.heap.size v xs W2 (by omega) (by have := HBN.out; omega) HAB.out.1)
    (fun pre W => RcI w W2.heap.size B5 pre W ∧ AB W BX w.heap.size v xs)
    (fun pre x a' W => a' = { tmps := #[.pointer (some ⟨L, 0, none⟩), undef, .slice none 0 0, .bool false, .pointer (some ⟨B5, 0, none⟩), .func (.func 61) #[] #[.pointer (some ⟨BX, 0, none⟩)], x.rv, undef, .pointer (some ⟨L, 0, none⟩), .func (.func 61) #[] #[.pointer (some ⟨BX, 0, none⟩)], .func (.func 61) #[] #[.pointer (some ⟨BX, 0, none⟩)], .bool false, .func (.func 61) #[] #[.pointer (some ⟨BX, 0, none⟩)], x.rv, undef, undef, undef, undef, undef, undef, undef, undef, undef, undef, undef, undef], defers := [] } ∧ RcA w W2.heap.size B5 pre x W ∧ AB W BX w.heap.size v xs)
    KL.trans ?put (Below.refl _ _) (fun _ => rfl) (fun pre W W' row hs hg hr => ⟨hs.1.from hg (fun r e => ⟨by have := (hr r e).1; have := HBN.out; omega, (hr r e).2⟩), hs.2.from hg fun r e => (hr r e).2⟩) ?ownS ⟨HI0.out, HAB.out.1⟩ ?ownA ?assign ?body ?done
  case put =>
    intro pre x a' W l o o' hor h1 h2 h3 h4
    have hz := HBN.out
    exact ⟨belowK_b (w := W2) (by omega) W l o o' h1 h2 h3 h4, World.putObj_heap_other (by omega)⟩
  case ownS => exact fun xs W W' row hs hg hr => hs
  case ownA =>
    rintro pre x a' _ W W' row ⟨h1, h2, h3⟩ hg hr
    exact ⟨h1, h2.from hg (fun r e => ⟨by have := (hr r e).1; have := HBN.out; omega, (hr r e).2⟩), h3.from hg fun r e => (hr r e).2⟩
  case assign =>
    rintro l pre x W W0 K hI hb hX hK
    have HK := hK
    have HX : Hid (RcA w W2.heap.size B5 pre x W ∧ AB W BX w.heap.size v xs) := ⟨hI.1.told hb hX, hI.2.later (KL.of hb (by have := hI.1.le; have := HBN.out; omega) hI.2.lb.1)⟩
    unfold encC
    clear hK hI hb hX
    gi_wp2_with fail
    exact HK _ _ (KeepsFrom.refl _ _) ⟨Below.refl _ _, rfl⟩ ⟨rfl, HX.out⟩
  case body =>
    rintro l pre x a' W hl ⟨rfl, hA, hAB⟩
    have HAW : Hid (AB W BX w.heap.size v xs) := hAB
    clear hAB
    obtain ⟨⟨lv, ps, ⟨b1, b2, b3⟩, b4, b5⟩, b6, b7, b8, b9⟩ := hA
    obtain ⟨i0, hi, hz0, hz1, hz2⟩ := info_parts info23
    obtain ⟨la, lc, rfl⟩ := own_slice b2
    obtain ⟨xa, xc, hxv⟩ := own_slice b6
    obtain ⟨N, hN⟩ : ∃ N, x.r.length = N := ⟨_, rfl⟩
    obtain ⟨M, hM⟩ : ∃ M, ps.length = M := ⟨_, rfl⟩
    rw [hN] at hxv b6
    rw [hM] at b1 b2
    rw [hxv] at b6 b5
    have HX : Hid ((W.ownsRow W2.heap.size 23 1 (.slice la M lc) M (ps.map Prod.fst) ∧ W2.heap.size ≤ W.heap.size ∧ M ≤ 1000000) ∧ Boxed W B5 29 (.slice la M lc) ∧ (∀ p ∈ ps, W.ownsRow W2.heap.size 5 1 p.1 p.2.length (u8l p.2)) ∧ ps.map Prod.snd = pre.map Ec.r ∧ (∀ p ∈ ps, ∀ q, p.1.ownBlock = some q → (Value.slice xa N xc).ownBlock ≠ some q) ∧ W.ownsRow W2.heap.size 5 1 (.slice xa N xc) N (u8l x.r) ∧ Below w.heap.size w W ∧ x.r.length = N ∧ N ≤ 1048576 ∧ ps.length = M ∧ Byt x.r) := ⟨⟨b2, b8, by have := congrArg List.length b4; simp at this; omega⟩, b1, b3, b4, b5, b6, b7, hN, by omega, hM, b9.2.2⟩
    have HI23 : Hid (Try.prog.info? 23 = some i0 ∧ i0.zero = some (.slice none 0 0) ∧ i0.size = 1 ∧ i0.bytes = 24) := ⟨hi, hz0, hz1, hz2⟩
    have c5 : W.cell? ⟨B5, 0, none⟩ = some (.slice la M lc) := b1.cell
    have HSP : Hid (∀ V, V.ownsRow W2.heap.size 5 1 (.slice xa N xc) N (u8l x.r) → Calls Try.prog 14 #[.slice xa N xc] V fun e w' => (∃ u, e = .returned u) ∧ Hid (Gr (.slice xa N xc) V (.slice none 0 0) w')) := by
      show ∀ V, _
      intro V hV
      rw [← HX.out.2.2.2.2.2.2.2.1] at hV ⊢
      exact spoil_own hV HX.out.2.2.2.2.2.2.2.2.2.2 (by have := HX.out.2.2.2.2.2.2.2; omega)
    rw [hxv]
    clear b1 b2 b3 b4 b5 b6 b7 b8 b9 hi hz0 hz1 hz2 hN hM hxv
    gi_wp2_with (first
      | (gi_at_builtin; (refine wpListIn_append_src rfl (.tmp 14) (.tmp 15) rfl W.heap.size (.slice none 0 0) 0 [] rfl (World.ownsRow_nil _ _ _ _) (.slice xa N xc) x.r rfl (by have h := HX.out.2.2.2.2.2.1; rw [← HX.out.2.2.2.2.2.2.2.1] at h ⊢; exact own_src h) (by have := HX.out.2.2.2.2.2.2.2; omega) (Nat.le_refl _) ?_; intro v3 w3 ho3 hg3; (have ho4 : w3.ownsRow W.heap.size 5 1 v3 x.r.length (u8l x.r) := by have h := ho3; rw [Nat.zero_add, List.nil_append] at h; exact h); rw [HX.out.2.2.2.2.2.2.2.1] at ho4; (obtain ⟨oa, oc, hv3⟩ := own_slice ho4); subst hv3; (have H3 : Hid (w3.ownsRow W.heap.size 5 1 (.slice oa N oc) N (u8l x.r) ∧ Below W.heap.size W w3) := ⟨ho4, (Below.refl _ W).grown hg3 (Nat.le_refl _) (by intro q hq; cases hq)⟩); (have c5 : w3.cell? ⟨B5, 0, none⟩ = some (.slice la M lc) := Boxed.cell ((H3.out.2.block _ (Array.getElem?_eq_some_iff.1 HX.out.2.1).1).trans HX.out.2.1)); clear ho3 ho4 hg3))
      | (gi_at_builtin; go_loud (refine wpListIn_append_own _ rfl (.tmp 17) (.tmp 19) 29 rfl W2.heap.size 23 i0 (.slice none 0 0) 1 24 Try.underlying29 HI23.out.1 HI23.out.2.1 HI23.out.2.2.1 HI23.out.2.2.2 rfl (by decide) (.slice la M lc) M (ps.map Prod.fst) rfl ((own_at HX.out.1.1 fun q hq => H3.out.2.block q (HX.out.1.1.lt q hq).2).alloc _) ⟨w3.heap.size, 0, none⟩ 1 1 [.slice oa N oc] rfl rfl (World.news_of_block (Go.heap_alloc_new _ _)) (by intro u hu; obtain rfl := List.mem_singleton.1 hu; rfl) (by have := HX.out.1.2.2; unfold maxLen; omega) (by have := HX.out.1.2.2; omega) (by have := HX.out.1.2.1; have := H3.out.2.size; simp; omega) ?_; intro v9 w9 ho9 hg9 h9x; clear h9x; obtain ⟨a9, k9, e9⟩ := own_slice ho9; subst e9; (have H9 : Hid (w9.ownsRow W2.heap.size 23 1 (.slice a9 (M + 1) k9) (M + 1) (ps.map Prod.fst ++ [.slice oa N oc]) ∧ (w3.alloc (.cells #[.slice oa N oc] 23)).grownBy w9 (Value.slice la M lc).ownBlock) := ⟨ho9, hg9⟩); clear ho9 hg9; (have KW := frW (own_at HX.out.1.1 fun q hq => H3.out.2.block q (HX.out.1.1.lt q hq).2) (Nat.le_trans HX.out.1.2.1 H3.out.2.size) H9.out.2); (have b3 : Boxed w3 B5 29 (.slice la M lc) := (H3.out.2.block _ (Array.getElem?_eq_some_iff.1 HX.out.2.1).1).trans HX.out.2.1); (have r5 : Boxed w9 B5 29 (.slice la M lc) := (KW.1 _ _ _ _ b3 (by decide)).trans b3); (have q5 := r5.cell); (have p5 := r5.frozen); (have HR : Hid (Boxed w9 B5 29 (.slice la M lc)) := r5); (have HK5 : Hid (∀ (q : Nat) (c : Array Value) (f : Nat × Nat), w3.heap[q]? = some (.cells c 5 f) → (w9.setCell ⟨B5, 0, none⟩ (.slice a9 (M + 1) k9)).heap[q]? = w3.heap[q]?) := fun q c f hq => (Below.heap_setCell _ _ _ _ (show q ≠ B5 from ne_tag hq b3 (by decide))).trans (KW.1 q c 5 f hq (by decide))); (have HKW : Hid (Below W2.heap.size w3 w9 ∧ KeepsOthers w3 w9) := KW.2); (have HXS : Hid ((w9.setCell ⟨B5, 0, none⟩ (.slice a9 (M + 1) k9)).ownsRow W2.heap.size 5 1 (.slice xa N xc) N (u8l x.r)) := own_at HX.out.2.2.2.2.2.1 fun q hq => by (obtain ⟨cur, hc⟩ := own_tag HX.out.2.2.2.2.2.1 hq); (have e3 := H3.out.2.block q (HX.out.2.2.2.2.2.1.lt q hq).2); exact (HK5.out q cur _ (e3.trans hc)).trans e3); clear KW r5 b3))
      | (refine ⟨trivial, ?_⟩; refine (CallsIn.inRound l (callsIn_wide.2 (HSP.out _ HXS.out))).mono ?_; rintro e w10 ⟨⟨u10, rfl⟩, H10⟩))
    obtain ⟨⟨o1, o2, o3⟩, o4, o6, o6', o7, o8, o9, o10, o11, o12, o13⟩ := HX.out
    obtain ⟨z1, z2, z3⟩ := HBN.out
    obtain ⟨k1, k2⟩ := HKW.out
    have hs3 := H3.out.2.size
    have b3 : Boxed w3 B5 29 (.slice la M lc) := (H3.out.2.block _ (Array.getElem?_eq_some_iff.1 o4).1).trans o4
    have hs9 := k1.size
    have hsb : (w9.setCell ⟨B5, 0, none⟩ (.slice a9 (M + 1) k9)).heap.size = w9.heap.size := by simp
    have b10 : Boxed w10 B5 29 (.slice a9 (M + 1) k9) := by
      refine (H10.out.block B5 (by have := (Array.getElem?_eq_some_iff.1 HR.out).1; omega) fun e => ?_).trans (HR.out.set _)
      obtain ⟨cur, hc⟩ := own_tag HXS.out e
      exact ne_tag (HR.out.set (.slice a9 (M + 1) k9)) hc (by decide) rfl
    have r10 : w10.ownsRow W2.heap.size 23 1 (.slice a9 (M + 1) k9) (M + 1) (ps.map Prod.fst ++ [.slice oa N oc]) := by
      have rb : (w9.setCell ⟨B5, 0, none⟩ (.slice a9 (M + 1) k9)).ownsRow W2.heap.size 23 1 (.slice a9 (M + 1) k9) (M + 1) (ps.map Prod.fst ++ [.slice oa N oc]) := own_at H9.out.1 fun q hq => Below.heap_setCell _ _ _ _ fun (e : q = B5) => by have := (H9.out.1.lt q hq).1; omega
      refine own_at rb fun q hq => H10.out.block q (rb.lt q hq).2 fun e => ?_
      obtain ⟨c1, e1⟩ := own_tag rb hq
      obtain ⟨c2, e2⟩ := own_tag HXS.out e
      exact ne_tag e1 e2 (by decide) rfl
    have k5 : ∀ {v : Value} {n : Nat} {vs : List Value} {base : Nat}, w3.ownsRow base 5 1 v n vs → (∀ q, v.ownBlock = some q → (Value.slice xa N xc).ownBlock ≠ some q) → w10.ownsRow base 5 1 v n vs := fun {v n vs base} ho hne => by
      have hb : (w9.setCell ⟨B5, 0, none⟩ (.slice a9 (M + 1) k9)).ownsRow base 5 1 v n vs := own_at ho fun q hq => by
        obtain ⟨cur, hc⟩ := own_tag ho hq
        exact HK5.out q cur _ hc
      exact own_at hb fun q hq => H10.out.block q (hb.lt q hq).2 (hne q hq)
    have hbl : Below w.heap.size W w10 := by
      have h1 : Below w.heap.size W w3 := H3.out.2.mono o9.size
      have h2 : Below w.heap.size w3 w9 := k1.mono (by omega)
      have h3 : Below w.heap.size W (w9.setCell ⟨B5, 0, none⟩ (.slice a9 (M + 1) k9)) := (h1.trans h2).setCell (p := ⟨B5, 0, none⟩) z1 _
      exact h3.trans (H10.out.below (Nat.le_trans o9.size h3.size) fun q hq => by have := (HXS.out.lt q hq).1; omega)
    have hBX : w10.heap[BX]? = W.heap[BX]? := by
      rw [H10.out.block BX (by omega) (fun e => by have := (HXS.out.lt BX e).1; omega), Below.heap_setCell _ _ _ _ (show BX ≠ B5 by omega), k1.block BX z3, H3.out.2.block BX (by omega)]
    refine ⟨?_, ⟨hbl, hBX⟩, ⟨⟨.slice a9 (M + 1) k9, ps ++ [(.slice oa N oc, x.r)], ⟨b10, ?_, fun p hp => ?_⟩, ?_⟩, o9.trans hbl, Nat.le_trans o2 (Nat.le_trans hs3 (Nat.le_trans hs9 (by have := H10.out.size; omega)))⟩, HAW.out.later ⟨hbl, hBX⟩⟩
    · have h1 : KeepsOthers W w3 := keeps_below H3.out.2
      have h2 := (h1.trans k2).trans (KeepsOthers.setCell w9 ⟨B5, 0, none⟩ (.slice a9 (M + 1) k9))
      refine (h2.trans ⟨H10.out.size, fun q o ho hn => (H10.out.block q (Array.getElem?_eq_some_iff.1 ho).1 fun e => ?_).trans ho⟩).from _
      obtain ⟨cur, hc⟩ := own_tag HXS.out e
      rw [ho] at hc
      cases hc
      cases hn
    · rw [List.length_append, List.length_singleton, List.map_append, o12]
      exact r10
    · rcases List.mem_append.1 hp with hp | hp
      · have h0 := o6 p hp
        exact k5 (own_at h0 fun q hq => H3.out.2.block q (h0.lt q hq).2) (o7 p hp)
      · obtain rfl := List.mem_singleton.1 hp
        have h1 := k5 H3.out.1 (fun q hq e => by have h1 := (H3.out.1.lt q hq).1; have h2 := (o8.lt q e).2; omega)
        show w10.ownsRow _ 5 1 _ x.r.length _
        rw [o10]
        exact own_low h1 o2
    · rw [List.map_append, List.map_append, o6']
      rfl
  case done =>
    rintro Dm ys W hD hx ⟨hI, hAB⟩ hK
    have HD : Hid (w.heap.size ≤ Dm ∧ ys.map Ec.r = xs.map Rc.r ∧ RcI w W2.heap.size B5 ys W ∧ AB W BX w.heap.size v xs ∧ W.heap[Dm]? = some (.deferred (some [])) ∧ w.heap.size ≤ W2.heap.size) := ⟨by have := HBN.out; omega, hx, hI, hAB, hK, by have := HBN.out; omega⟩
    clear hD hx hI hAB hK
    go_wp2_with fail
    refine (wpIn_wide (n := 8)).1 ?_
    refine wpIn_rangeFunc_ownH rfl (by omega) (gf := 61) (lb := #[.pointer (some ⟨BX, 0, none⟩)]) rfl trivial (enters_of Try.func61 (by kernel_rfl) rfl)
      (all_stops 7 BX w.heap.size v xs W (by omega) HD.out.2.2.1.below.size HD.out.2.2.2.1) KL.trans
      (fun V l o o' h1 h2 h3 h4 => ⟨belowK_b (w := W) HD.out.2.2.1.below.size V l o o' h1 h2 h3 h4, World.putObj_heap_other (by have := HD.out.2.2.2.1.lb.1; omega)⟩) (Below.refl _ _) (fun _ => rfl)
      (fun pre V => Below W.heap.size W V)
      (fun c pre V => c = .exit 2 ∧ Below W.heap.size W V)
      (ownFrom_below (Nat.le_refl _) (Nat.le_refl _))
      (fun c => OwnFrom.and (ownFrom_pure _ (fun _ => c = .exit 2)) (ownFrom_below (Nat.le_refl _) (Nat.le_refl _)))
      (Below.refl _ _)
      (fun x a' V => a' = { tmps := #[.pointer (some ⟨L, 0, none⟩), undef, .slice none 0 0, .bool false, .pointer (some ⟨B5, 0, none⟩), .func (.func 61) #[] #[.pointer (some ⟨BX, 0, none⟩)], undef, undef, .pointer (some ⟨L, 0, none⟩), .func (.func 61) #[] #[.pointer (some ⟨BX, 0, none⟩)], .func (.func 61) #[] #[.pointer (some ⟨BX, 0, none⟩)], .bool false, .func (.func 61) #[] #[.pointer (some ⟨BX, 0, none⟩)], undef, undef, undef, undef, undef, undef, undef, undef, undef, undef, .func (.func 61) #[] #[.pointer (some ⟨BX, 0, none⟩)], x.rv, undef], defers := [] })
      (fun x a' _ X' Y row hs hg hr => hs)
      ?assign2 ?body2 ?done2 ?stop2
    case assign2 =>
      rintro l pre x V K hB1 hK
      unfold encC
      gi_wp2_with fail
      exact hK _ _ (KeepsFrom.refl _ _) ⟨Below.refl _ _, rfl⟩ hB1 (by simp)
    case body2 =>
      rintro l pre x a' V hl _ hB1 rfl hj
      gi_wp2_with fail
      exact ⟨KeepsFrom.refl _ _, rfl, hB1⟩
    case done2 =>
      rintro Dk zs V hDk _ hB hK
      obtain ⟨d1, d2, ⟨⟨lv, ps, ⟨b1, b2, b3⟩, b4⟩, b5, b6⟩, d4, d5, d6⟩ := HD.out
      have b1' : Boxed V B5 29 lv := (hB.block _ (Array.getElem?_eq_some_iff.1 b1).1).trans b1
      have c5 : V.cell? ⟨B5, 0, none⟩ = some lv := b1'.cell
      have HF : Hid (Dk ≠ Dm ∧ V.heap[Dm]? = some (.deferred (some [])) ∧ V.heap[Dk]? = some (.deferred (some [])) ∧ V.ownsRow W2.heap.size 23 1 lv ps.length (ps.map Prod.fst) ∧ (∀ p ∈ ps, V.ownsRow W2.heap.size 5 1 p.1 p.2.length (u8l p.2)) ∧ ps.map Prod.snd = g.rs.map Prod.snd ∧ Below w.heap.size w V ∧ w.heap.size ≤ Dk) := by
        have hlt := (Array.getElem?_eq_some_iff.1 d5).1
        refine ⟨by omega, (hB.block _ hlt).trans d5, hK, own_at b2 fun q hq => hB.block q (b2.lt q hq).2, fun p hp => own_at (b3 p hp) fun q hq => hB.block q ((b3 p hp).lt q hq).2, ?_, b5.trans (hB.mono b5.size), Nat.le_trans b5.size hDk⟩
        rw [b4, d2, ← HAB.out.2, List.map_map]
        rfl
      clear b1 b2 b3 b4 b5 b6 b1' hB hK hDk d1 d2 d4 d5
      go_wp2_with fail
      obtain ⟨f1, f2, f3, f4, f5, f6, f7, f8⟩ := HF.out
      have k2 : (V.putObj Dk (.deferred none)).heap[Dm]? = some (.deferred (some [])) := (World.putObj_heap_other (fun e => f1 e.symm)).trans f2
      have g1 : V.grownBy (V.putObj Dk (.deferred none)) (some Dk) := grownBy_putObj' _ _ _
      have g2 : (V.putObj Dk (.deferred none)).grownBy ((V.putObj Dk (.deferred none)).putObj Dm (.deferred none)) (some Dm) := grownBy_putObj' _ _ _
      have r1 : ∀ r, some Dk = some r → ∃ o : Obj, V.heap[r]? = some o ∧ o.isCells = false := fun r e => by cases e; exact ⟨_, f3, rfl⟩
      have r2 : ∀ r, some Dm = some r → ∃ o : Obj, (V.putObj Dk (.deferred none)).heap[r]? = some o ∧ o.isCells = false := fun r e => by cases e; exact ⟨_, k2, rfl⟩
      refine ⟨by simp, .inl ⟨_, _, rfl, run_takeDeferred f3, by simp, .inl ⟨_, _, rfl, run_takeDeferred k2, ?_⟩⟩⟩
      refine ⟨_, results_tmp2 rfl _ _ _, lv, ps, rfl, own_low (grown_own g2 r2 (grown_own g1 r1 f4)) d6, fun p hp => own_low (grown_own g2 r2 (grown_own g1 r1 (f5 p hp))) d6, f6, ?_⟩
      have hb1 := f7.grown g1 f7.size (fun q e => by cases e; exact f8)
      exact hb1.grown g2 hb1.size (fun q e => by cases e; exact HD.out.1)
    case stop2 =>
      rintro Dk c pre V hDk _ ⟨rfl, hB⟩ hK
      gi_wp2_with fail
      obtain ⟨d1, d2, ⟨⟨lv, ps, ⟨b1, b2, b3⟩, b4⟩, b5, b6⟩, d4, d5, d6⟩ := HD.out
      have b1' : Boxed V B5 29 lv := (hB.block _ (Array.getElem?_eq_some_iff.1 b1).1).trans b1
      have c5 : V.cell? ⟨B5, 0, none⟩ = some lv := b1'.cell
      have HF : Hid (Dk ≠ Dm ∧ V.heap[Dm]? = some (.deferred (some [])) ∧ V.heap[Dk]? = some (.deferred (some [])) ∧ V.ownsRow W2.heap.size 23 1 lv ps.length (ps.map Prod.fst) ∧ (∀ p ∈ ps, V.ownsRow W2.heap.size 5 1 p.1 p.2.length (u8l p.2)) ∧ ps.map Prod.snd = g.rs.map Prod.snd ∧ Below w.heap.size w V ∧ w.heap.size ≤ Dk) := by
        have hlt := (Array.getElem?_eq_some_iff.1 d5).1
        refine ⟨by omega, (hB.block _ hlt).trans d5, hK, own_at b2 fun q hq => hB.block q (b2.lt q hq).2, fun p hp => own_at (b3 p hp) fun q hq => hB.block q ((b3 p hp).lt q hq).2, ?_, b5.trans (hB.mono b5.size), Nat.le_trans b5.size hDk⟩
        rw [b4, d2, ← HAB.out.2, List.map_map]
        rfl
      clear b1 b2 b3 b4 b5 b6 b1' hB hK hDk d1 d2 d4 d5
      go_wp2_with fail
      obtain ⟨f1, f2, f3, f4, f5, f6, f7, f8⟩ := HF.out
      have k2 : (V.putObj Dk (.deferred none)).heap[Dm]? = some (.deferred (some [])) := (World.putObj_heap_other (fun e => f1 e.symm)).trans f2
      have g1 : V.grownBy (V.putObj Dk (.deferred none)) (some Dk) := grownBy_putObj' _ _ _
      have g2 : (V.putObj Dk (.deferred none)).grownBy ((V.putObj Dk (.deferred none)).putObj Dm (.deferred none)) (some Dm) := grownBy_putObj' _ _ _
      have r1 : ∀ r, some Dk = some r → ∃ o : Obj, V.heap[r]? = some o ∧ o.isCells = false := fun r e => by cases e; exact ⟨_, f3, rfl⟩
      have r2 : ∀ r, some Dm = some r → ∃ o : Obj, (V.putObj Dk (.deferred none)).heap[r]? = some o ∧ o.isCells = false := fun r e => by cases e; exact ⟨_, k2, rfl⟩
      refine ⟨by simp, .inl ⟨_, _, rfl, run_takeDeferred f3, by simp, .inl ⟨_, _, rfl, run_takeDeferred k2, ?_⟩⟩⟩
      refine ⟨_, results_tmp2 rfl _ _ _, lv, ps, rfl, own_low (grown_own g2 r2 (grown_own g1 r1 f4)) d6, fun p hp => own_low (grown_own g2 r2 (grown_own g1 r1 (f5 p hp))) d6, f6, ?_⟩
      have hb1 := f7.grown g1 f7.size (fun q e => by cases e; exact f8)
      exact hb1.grown g2 hb1.size (fun q e => by cases e; exact HD.out.1)
end Go.Proofs.Ytflhgphjkhplmaa.D

/- Both logs, each on its disk, in a pair; what a call of one of them leaves of the other; opened. -/
namespace Go.Proofs.Ytflhgphjkhplmaa.D
open Go Go.RowKit W R Go.Shelf
set_option linter.unusedVariables false
set_option linter.unusedSimpArgs false
attribute [local go_sem] Oper.semAt_some

variable {w w' : World} {p D R L B k k' : Nat} {sy sy' : Int} {F P G Q Y Y' : Nat → Prop} {dl dl' dl1 : List Fd} {g g1 : Lg} {m m1 : Mg} {bs : List Int}
theorem WS.more' (h : WS w D L k F P sy dl g) (hj : k ≤ k') : WS w D L k' F P sy dl g := h.upto hj
theorem WM.at' (h : WM w R B k G Q sy dl m) (hk : ∀ q, G q ∨ Q q → w'.heap[q]? = w.heap[q]?) : WM w' R B k G Q sy dl m := ⟨h.mr.at' fun q hq => hk q (.inl hq), h.inv, h.mg.at' fun q hq => hk q (.inr hq), h.ap⟩
theorem WS.at' (h : WS w D L k F P sy dl g) (hk : ∀ q, F q ∨ P q → w'.heap[q]? = w.heap[q]?) : WS w' D L k F P sy dl g := ⟨h.dr.at' fun q hq => hk q (.inl hq), h.inv, h.lg.at' fun q hq => hk q (.inr hq), h.ap⟩
theorem SrcG.mono {v : Value} (h : SrcG w Y v bs) (hs : ∀ q, F q → Y q) : SrcG w F v bs := fun W hW => h W fun q hq hn => hW q hq fun e => hn (hs q e)
def pC (D R : Nat) (lv rv : Value) : Array Value := #[.pointer (some ⟨D, 0, none⟩), .pointer (some ⟨R, 0, none⟩), lv, rv]
/-- Both logs in a pair, apart; Y: all their blocks. -/
structure PX (w : World) (p D R L B k : Nat) (Y : Nat → Prop) (dl dl' : List Fd) (g : Lg) (m : Mg) : Prop where
  ex : ∃ F P G Q sy sy', WS w D L k F P sy dl g ∧ WM w R B k G Q sy' dl' m ∧ (∀ q, F q ∨ P q → ¬ (G q ∨ Q q)) ∧ (w.heap[p]? = some (.cells (pC D R (.pointer (some ⟨L, 0, none⟩)) (.pointer (some ⟨B, 0, none⟩))) 47 (0, 0)) ∧ ¬ (F p ∨ P p) ∧ ¬ (G p ∨ Q p)) ∧ ∀ q, Y q ↔ (F q ∨ P q) ∨ (G q ∨ Q q) ∨ q = p
theorem WS.lt (h : WS w D L k F P sy dl g) : ∀ q, F q ∨ P q → q < w.heap.size := fun q hq => hq.elim (h.dr.lt q) (h.lg.lt q)
theorem WM.lt (h : WM w R B k G Q sy dl m) : ∀ q, G q ∨ Q q → q < w.heap.size := fun q hq => hq.elim (h.mr.lt q) (h.mg.lt q)
theorem PX.lt (h : PX w p D R L B k Y dl dl' g m) : ∀ q, Y q → q < w.heap.size := by
  obtain ⟨F, P, G, Q, sy, sy', h1, h2, h3, h4, h5⟩ := h
  intro q hq
  rcases (h5 q).1 hq with h | h | rfl
  · exact h1.lt q h
  · exact h2.lt q h
  · exact (Array.getElem?_eq_some_iff.1 h4.1).1
theorem PX.at' (h : PX w p D R L B k Y dl dl' g m) (hk : ∀ q, Y q → w'.heap[q]? = w.heap[q]?) : PX w' p D R L B k Y dl dl' g m := by
  obtain ⟨F, P, G, Q, sy, sy', h1, h2, h3, h4, h5⟩ := h
  exact ⟨F, P, G, Q, sy, sy', h1.at' fun q hq => hk q ((h5 q).2 (.inl hq)), h2.at' fun q hq => hk q ((h5 q).2 (.inr (.inl hq))), h3, ⟨(hk p ((h5 p).2 (.inr (.inr rfl)))).trans h4.1, h4.2⟩, h5⟩
theorem PX.newer (h : PX w p D R L B k Y dl dl' g m) (hb : Below w.heap.size w w') : PX w' p D R L B k Y dl dl' g m := h.at' fun q hq => hb.block q (h.lt q hq)
theorem PX.upto (h : PX w p D R L B k Y dl dl' g m) (hj : k ≤ k') : PX w p D R L B k' Y dl dl' g m := by
  obtain ⟨F, P, G, Q, sy, sy', h1, h2, h3⟩ := h
  exact ⟨F, P, G, Q, sy, sy', h1.upto hj, h2.upto hj, h3⟩
theorem PX.cells (h : PX w p D R L B k Y dl dl' g m) : w.cell? ⟨p, 0, none⟩ = some (.pointer (some ⟨D, 0, none⟩)) ∧ w.cell? ⟨p, 1, none⟩ = some (.pointer (some ⟨R, 0, none⟩)) ∧ w.cell? ⟨p, 2, none⟩ = some (.pointer (some ⟨L, 0, none⟩)) ∧ w.cell? ⟨p, 3, none⟩ = some (.pointer (some ⟨B, 0, none⟩)) := by
  obtain ⟨F, P, G, Q, sy, sy', h1, h2, h3, h4, h5⟩ := h
  refine ⟨?_, ?_, ?_, ?_⟩ <;> (rw [cell_of_row _ _ _ _ _ _ h4.1]; rfl)
theorem fr_left {F F' G : Nat → Prop} {p : Nat} (hf : Fr F F' w w') (hFG : ∀ q, F q → ¬ G q) (hG : ∀ q, G q → q < w.heap.size) (hp : p < w.heap.size) (hpF : ¬ F p) :
    (∀ q, G q → w'.heap[q]? = w.heap[q]?) ∧ w'.heap[p]? = w.heap[p]? ∧ (∀ q, F' q → ¬ G q) ∧ ¬ F' p ∧ Fr (fun q => F q ∨ G q ∨ q = p) (fun q => F' q ∨ G q ∨ q = p) w w' := by
  refine ⟨fun q hq => hf.block q (hG q hq) fun e => hFG q e hq, hf.block p hp hpF, fun q hq e => ?_, fun e => ?_, ⟨hf.os, hf.tape, hf.output, hf.size, fun q hq hn => hf.block q hq fun e => hn (.inl e), fun q hq => ?_⟩⟩
  · rcases hf.grow q hq with h | h
    · exact hFG q h e
    · have := hG q e; omega
  · rcases hf.grow p e with h | h
    · exact hpF h
    · omega
  · rcases hq with h | h
    · exact (hf.grow q h).imp .inl id
    · exact .inl (.inr h)
/-- What a call of the program's log leaves. -/
theorem PX.left (h : PX w p D R L B k Y dl dl' g m) : ∃ F P sy, WS w D L k F P sy dl g ∧ (∀ q, F q ∨ P q → Y q) ∧ ∀ w' k' F' P' sy1 dl1 g1, WS w' D L k' F' P' sy1 dl1 g1 → k ≤ k' → Fr (fun q => F q ∨ P q) (fun q => F' q ∨ P' q) w w' → ∃ Y', PX w' p D R L B k' Y' dl1 dl' g1 m ∧ Fr Y Y' w w' := by
  obtain ⟨F, P, G, Q, sy, sy', h1, h2, h3, h4, h5⟩ := h
  refine ⟨F, P, sy, h1, fun q hq => (h5 q).2 (.inl hq), fun w' k' F' P' sy1 dl1 g1 hw hk hf => ?_⟩
  obtain ⟨a1, a2, a3, a4, a5⟩ := fr_left (p := p) hf h3 h2.lt (Array.getElem?_eq_some_iff.1 h4.1).1 h4.2.1
  refine ⟨_, ⟨F', P', G, Q, sy1, sy', hw, (h2.upto hk).at' a1, a3, ⟨a2.trans h4.1, a4, h4.2.2⟩, fun q => Iff.rfl⟩, ?_⟩
  exact a5.from fun q => by rw [h5 q]
theorem PX.right (h : PX w p D R L B k Y dl dl' g m) : ∃ G Q sy, WM w R B k G Q sy dl' m ∧ (∀ q, G q ∨ Q q → Y q) ∧ ∀ w' k' G' Q' sy1 dl1 m1, WM w' R B k' G' Q' sy1 dl1 m1 → k ≤ k' → Fr (fun q => G q ∨ Q q) (fun q => G' q ∨ Q' q) w w' → ∃ Y', PX w' p D R L B k' Y' dl dl1 g m1 ∧ Fr Y Y' w w' := by
  obtain ⟨F, P, G, Q, sy, sy', h1, h2, h3, h4, h5⟩ := h
  refine ⟨G, Q, sy', h2, fun q hq => (h5 q).2 (.inr (.inl hq)), fun w' k' G' Q' sy1 dl1 m1 hw hk hf => ?_⟩
  obtain ⟨a1, a2, a3, a4, a5⟩ := fr_left (p := p) hf (fun q hq e => h3 q e hq) h1.lt (Array.getElem?_eq_some_iff.1 h4.1).1 h4.2.2
  refine ⟨fun q => (F q ∨ P q) ∨ (G' q ∨ Q' q) ∨ q = p, ⟨F, P, G', Q', sy, sy1, (h1.upto hk).at' a1, hw, fun q e hq => a3 q hq e, ⟨a2.trans h4.1, h4.2.1, a4⟩, fun q => Iff.rfl⟩, ?_⟩
  refine ⟨a5.os, a5.tape, a5.output, a5.size, fun q hq hn => a5.block q hq fun e => hn ((h5 q).2 ?_), fun q hq => ?_⟩
  · rcases e with e | e | e
    · exact .inr (.inl e)
    · exact .inl e
    · exact .inr (.inr e)
  · rcases hq with e | e | e
    · exact .inl ((h5 q).2 (.inl e))
    · exact (a5.grow q (.inl e)).imp (fun e => (h5 q).2 (e.elim (fun e => .inr (.inl e)) fun e => e.elim .inl fun e => .inr (.inr e))) id
    · exact .inl ((h5 q).2 (.inr (.inr e)))
theorem px_append_p (h : PX w p D R L B k Y dl dl' g m) (hk : k ≤ 1000000) (hl : g.rs.length ≤ 1000000) (hsq : seqN g + 1 < 18446744073709551616) {v : Value} (hsv : SrcG w Y v bs) (hb : Byt bs) (hbl : bs.length ≤ 2000000) : Calls Try.prog 29 #[.pointer (some ⟨L, 0, none⟩), v] w fun e w' => e = .returned (.int .i64 (apLE g bs dl)) ∧ ∃ Y', Hid (PX w' p D R L B (k + 1) Y' (apLD g bs dl) dl' (apLG g bs dl) m ∧ Fr Y Y' w w') := by
  obtain ⟨F, P, sy, h1, h2, h3⟩ := h.left
  refine (append_any h1 hk hl hsq (hsv.mono h2) hb hbl).mono ?_
  rintro e w' ⟨rfl, F', P', h4, h5⟩
  obtain ⟨Y', h6⟩ := h3 _ _ _ _ _ _ _ h4 (by omega) h5
  exact ⟨rfl, Y', h6⟩
theorem px_append_m (h : PX w p D R L B k Y dl dl' g m) (hk : k ≤ 1000000) (hl : m.l.length ≤ 1000000) (hsq : m.at' + m.l.length + 1 < 18446744073709551616) {v : Value} (hsv : SrcG w Y v bs) (hb : Byt bs) (hbl : bs.length ≤ 2000000) : Calls Try.prog 42 #[.pointer (some ⟨B, 0, none⟩), v] w fun e w' => e = .returned (.int .i64 (mpE m bs dl')) ∧ ∃ Y', Hid (PX w' p D R L B (k + 1) Y' dl (mpD m bs dl') g (mpG m bs dl') ∧ Fr Y Y' w w') := by
  obtain ⟨G, Q, sy, h1, h2, h3⟩ := h.right
  refine (mappend_any h1 hk hl hsq (hsv.mono h2) hb hbl).mono ?_
  rintro e w' ⟨rfl, F', P', h4, h5⟩
  obtain ⟨Y', h6⟩ := h3 _ _ _ _ _ _ _ h4 (by omega) h5
  exact ⟨rfl, Y', h6⟩
theorem px_ckp_p (h : PX w p D R L B k Y dl dl' g m) (hk : k ≤ 900000) (hl : g.rs.length ≤ 1000000) (hsq : seqN g < 18446744073709551616) {v : Value} (hsv : SrcG w Y v bs) (hb : Byt bs) (hbl : bs.length ≤ 2000000) : Calls Try.prog 19 #[.pointer (some ⟨L, 0, none⟩), v] w fun e w' => e = .returned (.int .i64 (kpE g bs dl)) ∧ ∃ Y', Hid (PX w' p D R L B (k + 6) Y' (kpD g bs dl) dl' (kpG g bs dl) m ∧ Fr Y Y' w w') := by
  obtain ⟨F, P, sy, h1, h2, h3⟩ := h.left
  refine (ckp_any h1 hk hl hsq (hsv.mono h2) hb hbl).mono ?_
  rintro e w' ⟨rfl, F', P', h4, h5⟩
  obtain ⟨Y', h6⟩ := h3 _ _ _ _ _ _ _ h4 (by omega) h5
  exact ⟨rfl, Y', h6⟩
theorem px_ckp_m (h : PX w p D R L B k Y dl dl' g m) (hk : k ≤ 900000) (hl : m.l.length ≤ 1000000) (hsq : m.at' + m.l.length < 18446744073709551616) {v : Value} (hsv : SrcG w Y v bs) (hb : Byt bs) (hbl : bs.length ≤ 2000000) : Calls Try.prog 20 #[.pointer (some ⟨B, 0, none⟩), v] w fun e w' => e = .returned (.int .i64 (mkE m bs dl')) ∧ ∃ Y', Hid (PX w' p D R L B (k + 6) Y' dl (mkD m bs dl') g (mkG m bs dl') ∧ Fr Y Y' w w') := by
  obtain ⟨G, Q, sy, h1, h2, h3⟩ := h.right
  refine (mckp_any h1 hk hl hsq (hsv.mono h2) hb hbl).mono ?_
  rintro e w' ⟨rfl, F', P', sy', h4, h5⟩
  obtain ⟨Y', h6⟩ := h3 _ _ _ _ _ _ _ h4 (by omega) h5
  exact ⟨rfl, Y', h6⟩
theorem px_sync_p (h : PX w p D R L B k Y dl dl' g m) (hk : k ≤ 1000000) : Calls Try.prog 21 #[.pointer (some ⟨L, 0, none⟩)] w fun e w' => (∃ y, e = .returned (.int .i64 y)) ∧ ∃ Y', Hid (PX w' p D R L B (k + 1) Y' (syD nLog dl) dl' g m ∧ Fr Y Y' w w') := by
  obtain ⟨F, P, sy, h1, h2, h3⟩ := h.left
  refine (lsync_any h1 hk).mono ?_
  rintro e w' ⟨⟨y, rfl⟩, F', h4, h5⟩
  obtain ⟨Y', h6⟩ := h3 _ _ _ _ _ _ _ h4 (by omega) h5
  exact ⟨⟨y, rfl⟩, Y', h6⟩
theorem px_sync_m (h : PX w p D R L B k Y dl dl' g m) (hk : k ≤ 1000000) : Calls Try.prog 22 #[.pointer (some ⟨B, 0, none⟩)] w fun e w' => (∃ y, e = .returned (.int .i64 y)) ∧ ∃ Y', Hid (PX w' p D R L B (k + 1) Y' dl (syD nLog dl') g m ∧ Fr Y Y' w w') := by
  obtain ⟨G, Q, sy, h1, h2, h3⟩ := h.right
  refine (msync_any h1 hk).mono ?_
  rintro e w' ⟨rfl, F', h4, h5⟩
  obtain ⟨Y', h6⟩ := h3 _ _ _ _ _ _ _ h4 (by omega) h5
  exact ⟨⟨_, rfl⟩, Y', h6⟩
/-- The pair's disks, apart, whatever logs it holds. -/
structure PD (w : World) (p D R k : Nat) (Y : Nat → Prop) (dl : List Fd) (lv rv : Value) : Prop where
  ex : ∃ F G sy sy', (DR w D F sy dl ∧ Inv k sy dl) ∧ (MR w R G sy' dl ∧ Inv k sy' dl) ∧ (∀ q, F q → ¬ G q) ∧ (w.heap[p]? = some (.cells (pC D R lv rv) 47 (0, 0)) ∧ ¬ F p ∧ ¬ G p) ∧ ∀ q, Y q ↔ F q ∨ G q ∨ q = p
theorem PX.disks (h : PX w p D R L B k Y dl dl g m) : ∃ Y', PD w p D R k Y' dl (.pointer (some ⟨L, 0, none⟩)) (.pointer (some ⟨B, 0, none⟩)) ∧ Fr Y Y' w w := by
  obtain ⟨F, P, G, Q, sy, sy', h1, h2, h3, h4, h5⟩ := h
  refine ⟨fun q => F q ∨ G q ∨ q = p, ⟨F, G, sy, sy', ⟨h1.dr, h1.inv⟩, ⟨h2.mr, h2.inv⟩, fun q hq e => h3 q (.inl hq) (.inl e), ⟨h4.1, fun e => h4.2.1 (.inl e), fun e => h4.2.2 (.inl e)⟩, fun q => Iff.rfl⟩, ⟨rfl, rfl, rfl, Nat.le_refl _, fun _ _ _ => rfl, fun q hq => .inl ((h5 q).2 ?_)⟩⟩
  rcases hq with e | e | e
  · exact .inl (.inl e)
  · exact .inr (.inl (.inl e))
  · exact .inr (.inr e)
end Go.Proofs.Ytflhgphjkhplmaa.D

/- The pair opens both logs. -/
namespace Go.Proofs.Ytflhgphjkhplmaa.D
open Go Go.RowKit W R Go.Shelf
set_option linter.unusedVariables false
set_option linter.unusedSimpArgs false
attribute [local go_sem] Oper.semAt_some

variable {w w' : World} {p D R L B k k' : Nat} {sy sy' : Int} {F P G Q Y Y' : Nat → Prop} {dl dl' dl1 : List Fd} {g g1 : Lg} {m m1 : Mg} {bs : List Int}
set_option maxRecDepth 100000 in
set_option maxHeartbeats 4000000 in
theorem popen_any {s : Ps} {lv rv : Value} (h : PD w p D R k Y s.dl lv rv) (hc : s.okC) (hk : k ≤ 900000) : Calls Try.prog 17 #[.pointer (some ⟨p, 0, none⟩), .string { data := #[97] }] w fun e w' => e = .returned (.bool true) ∧ ∃ L B Y', Hid (PX w' p D R L B (k + 2) Y' s.op.dl s.op.dl (opG s.dl) s.op.m ∧ Fr Y Y' w w') := by
  obtain ⟨F, G, sy, sy', ⟨h1, i1⟩, ⟨h2, i2⟩, h3, ⟨h4, h5, h6⟩, h7⟩ := h
  obtain ⟨b1, b2⟩ := rb_both s hc
  obtain ⟨o1, o2, o3, o4⟩ := op_both s hc
  have hbn : (rbG g0 s.dl).bn + 1 < 18446744073709551616 := by
    rw [b2]
    show s.at' + 1 < _
    unfold Ps.at'
    cases hs : s.c with
    | none => decide
    | some q => have := (hc q hs).2.1; dsimp only; omega
  have hp : p < w.heap.size := (Array.getElem?_eq_some_iff.1 h4).1
  have HO1 : Hid (Calls Try.prog 25 #[.pointer (some ⟨D, 0, none⟩), .string { data := #[97] }] w fun e w' => ∃ L F' P', e = .returned (.tuple #[.pointer (some ⟨L, 0, none⟩), .int .i64 0]) ∧ Hid (WS w' D L (k + 2) F' P' sy s.op.dl (opG s.dl) ∧ Fr F (fun q => F' q ∨ P' q) w w')) := by
    refine (open_any h1 i1 (by omega)).mono ?_
    rintro e w' ⟨-, h⟩
    obtain ⟨L, F', P', rfl, a1, a2⟩ := h b1
    rw [o2] at a1
    exact ⟨L, F', P', rfl, a1, a2⟩
  have HO2 : Hid (∀ V, MR V R G sy' s.dl → Calls Try.prog 41 #[.pointer (some ⟨R, 0, none⟩), .string { data := #[97] }] V fun e w' => ∃ B, e = .returned (.tuple #[.pointer (some ⟨B, 0, none⟩), .int .i64 0]) ∧ ∃ G' Q', Hid (WM w' R B (k + 2) G' Q' sy' s.op.dl s.op.m ∧ Fr G (fun q => G' q ∨ Q' q) V w')) := by
    show ∀ V, _
    intro V hV
    refine (mopen_any hV i2 hk b1 (lk_new s) hbn).mono ?_
    rintro e w' ⟨B, G', Q', rfl, a1, a2⟩
    rw [o1, o3] at a1
    exact ⟨B, rfl, G', Q', a1, a2⟩
  have HI : Hid (MR w R G sy' s.dl ∧ (∀ q, F q → ¬ G q) ∧ w.heap[p]? = some (.cells (pC D R lv rv) 47 (0, 0)) ∧ ¬ F p ∧ ¬ G p ∧ (∀ q, Y q ↔ F q ∨ G q ∨ q = p) ∧ (∀ q, F q → q < w.heap.size) ∧ (∀ q, G q → q < w.heap.size) ∧ p < w.heap.size) := ⟨h2, h3, h4, h5, h6, h7, h1.lt, h2.lt, hp⟩
  have c0 : w.cell? ⟨p, 0, none⟩ = some (.pointer (some ⟨D, 0, none⟩)) := by rw [cell_of_row _ _ _ _ _ _ h4]; rfl
  clear h1 i1 h2 i2 h3 h4 h5 h6 h7 b1 b2 o1 o2 o3 o4 hbn hp hk hc
  go_enter Try.func17, Try.ntmps17
  go_upto_region 2 with (go_at_call 25; refine HO1.out.mono ?_; rintro e w1 ⟨L, F1, P1, rfl, H1⟩)
  clear HO1 c0
  have HR1 : Hid (MR w1 R G sy' s.dl ∧ w1.heap[p]? = some (.cells (pC D R lv rv) 47 (0, 0)) ∧ ¬ (F1 p ∨ P1 p) ∧ (∀ q, F1 q ∨ P1 q → ¬ G q)) := by
    obtain ⟨a1, a2, a3, a4, a5, a6, a7, a8, a9⟩ := HI.out
    have hf := H1.out.2
    refine ⟨a1.at' fun q hq => hf.block q (a8 q hq) fun e => a2 q e hq, (hf.block p a9 a4).trans a3, fun e => (hf.grow p e).elim a4 fun e => absurd (show w.heap.size ≤ p from e) (by omega), fun q hq e => ?_⟩
    rcases hf.grow q hq with h | h
    · exact a2 q h e
    · have := a8 q e
      have h' : w.heap.size ≤ q := h
      omega
  have c1 : w1.cell? ⟨p, 1, none⟩ = some (.pointer (some ⟨R, 0, none⟩)) := by rw [cell_of_row _ _ _ _ _ _ HR1.out.2.1]; rfl
  go_upto_region 3 with (go_at_call 41; go_loud (refine (HO2.out w1 HR1.out.1).mono ?_); rintro e w2 ⟨B, rfl, G2, Q2, H2⟩)
  clear HO2 c1
  have hp2 : w2.heap[p]? = some (.cells (pC D R lv rv) 47 (0, 0)) := (H2.out.2.block p (Array.getElem?_eq_some_iff.1 HR1.out.2.1).1 HI.out.2.2.2.2.1).trans HR1.out.2.1
  have HP2 : Hid (w2.heap[p]? = some (.cells (pC D R lv rv) 47 (0, 0))) := hp2
  have f2 := frozen_of_row _ _ 2 _ _ hp2
  have f3 := frozen_of_row _ _ 3 _ _ hp2
  have c2 : w2.cell? ⟨p, 2, none⟩ = some lv := by rw [cell_of_row _ _ _ _ _ _ hp2]; rfl
  have c3 : w2.cell? ⟨p, 3, none⟩ = some rv := by rw [cell_of_row _ _ _ _ _ _ hp2]; rfl
  clear hp2
  go_wp2_with fail
  refine bodyPost_ret (v := .bool true) (results_tmp Try.results17 _ _ _) rfl ⟨rfl, L, B, ?_⟩
  obtain ⟨a1, a2, a3, a4, a5, a6, a7, a8, a9⟩ := HI.out
  obtain ⟨r1, r2, r3, r4⟩ := HR1.out
  obtain ⟨u1, u2⟩ := H1.out
  obtain ⟨v1, v2⟩ := H2.out
  have hb2 := row_set (i := 2) (.pointer (some ⟨L, 0, none⟩)) HP2.out
  have hb3 := row_set (i := 3) (.pointer (some ⟨B, 0, none⟩)) hb2
  have hw1 : p < w1.heap.size := (Array.getElem?_eq_some_iff.1 r2).1
  have hV : ∀ q, q ≠ p → ((w2.setCell ⟨p, 2, none⟩ (.pointer (some ⟨L, 0, none⟩))).setCell ⟨p, 3, none⟩ (.pointer (some ⟨B, 0, none⟩))).heap[q]? = w2.heap[q]? := fun q hq => by rw [Below.heap_setCell _ _ _ _ hq, Below.heap_setCell _ _ _ _ hq]
  have hsz : w.heap.size ≤ w1.heap.size := u2.size
  have hsz2 : w1.heap.size ≤ w2.heap.size := v2.size
  have np2 : ¬ (G2 p ∨ Q2 p) := fun e => (v2.grow p e).elim a5 fun e => absurd (show w1.heap.size ≤ p from e) (by omega)
  have dis : ∀ q, F1 q ∨ P1 q → ¬ (G2 q ∨ Q2 q) := fun q hq e => by
    rcases v2.grow q e with h | h
    · exact r4 q hq h
    · have h' : w1.heap.size ≤ q := h
      have := u1.lt q hq
      omega
  refine ⟨fun q => (F1 q ∨ P1 q) ∨ (G2 q ∨ Q2 q) ∨ q = p, ⟨F1, P1, G2, Q2, sy, sy', (u1.at' fun q hq => ?_), (v1.at' fun q hq => hV q fun e => np2 (e ▸ hq)), dis, ⟨?_, r3, np2⟩, fun q => Iff.rfl⟩, ?_⟩
  · exact (hV q fun e => r3 (e ▸ hq)).trans (v2.block q (u1.lt q hq) (r4 q hq))
  · exact hb3
  · refine ⟨v2.os.trans u2.os, v2.tape.trans u2.tape, v2.output.trans u2.output, by simp; omega, fun q hq hn => ?_, fun q hq => ?_⟩
    · have n1 : ¬ F q := fun e => hn ((a6 q).2 (.inl e))
      have n2 : ¬ G q := fun e => hn ((a6 q).2 (.inr (.inl e)))
      have n3 : q ≠ p := fun e => hn ((a6 q).2 (.inr (.inr e)))
      exact (hV q n3).trans ((v2.block q (by omega) n2).trans (u2.block q hq n1))
    · rcases hq with h | h | h
      · exact (u2.grow q h).imp (fun e => (a6 q).2 (.inl e)) id
      · rcases v2.grow q h with h | h
        · exact .inl ((a6 q).2 (.inr (.inl h)))
        · have h' : w1.heap.size ≤ q := h
          exact .inr (by show w.heap.size ≤ q; omega)
      · exact .inl ((a6 q).2 (.inr (.inr h)))
end Go.Proofs.Ytflhgphjkhplmaa.D

/- What comes in: bytes; of bulk at most 1048576. -/
namespace Go.Proofs.Ytflhgphjkhplmaa.D
open Go.ChangeShapes Go.WideShapes Go.ChangeAt Go.RowKit W
set_option linter.unusedVariables false
set_option linter.unusedSimpArgs false

theorem bulk_one {H : Type} (d : DataW H) : 1 ≤ Rows.uptoBulk d := by
  cases d with
  | lit l => cases l <;> simp [Rows.uptoBulk]
  | _ => simp [Rows.uptoBulk]
theorem bulk_len {H : Type} : ∀ l : List (DataW H), l.length ≤ Rows.uptoBulkAll l
  | [] => by simp [Rows.uptoBulkAll]
  | d :: r => by have h1 := bulk_len r; have h2 := bulk_one d; simp only [Rows.uptoBulkAll, List.length_cons]; omega
theorem bulk_mem {H : Type} {d : DataW H} : ∀ {l : List (DataW H)}, d ∈ l → Rows.uptoBulk d ≤ Rows.uptoBulkAll l
  | x :: r, h => by
    simp only [Rows.uptoBulkAll]
    rcases List.mem_cons.1 h with rfl | h
    · omega
    · have := bulk_mem h; omega
theorem bulk_ints {H : Type} {k : IntKind} {a b : List Int} {B : Nat} (h : Rows.uptoBulk (DataW.slice (H := H) (lits k a) (lits k b)) ≤ B) : a.length ≤ B := by
  simp only [Rows.uptoBulk] at h
  have h1 := bulk_len (lits (H := H) k a)
  have h2 : (lits (H := H) k a).length = a.length := by simp [lits]
  omega
theorem plain_addr {W : World} {x : Addr} {v : Value} (h : W.cell? x = some v) : ∃ b off, x = ⟨b, off, none⟩ := by
  obtain ⟨bb, off, sp⟩ := x
  cases sp with
  | none => exact ⟨bb, off, rfl⟩
  | some q =>
    simp [World.cell?] at h
    split at h <;> simp at h
theorem cell_block {W : World} {b o : Nat} {v : Value} (h : W.cell? ⟨b, o, none⟩ = some v) : b < W.heap.size := by
  rcases Nat.lt_or_ge b W.heap.size with h' | h'
  · exact h'
  · simp [World.cell?, Array.getElem?_eq_none h'] at h
theorem sv_of {H : Type} {enc : TypeId × Value → H} {W : World} {fuel : Nat} {v : Value} {d : DataW H} {q : List MemPlace} (h : DataW.trod enc Try.prog W 0 (fun _ => true) true fuel 23 [v] = some (d, q)) (hd : Rows.uptoBulk d ≤ 1048576) : ∃ bs, SV W v bs := by
  rcases open_ints Try.underlying23 Try.underlying5 (by kernel_rfl) h with ⟨hcs, _⟩ | ⟨x, l, c, zs, hcs, _, hl, hm, hz, hx, hcell, hwz⟩
  · simp only [List.cons.injEq, and_true] at hcs
    exact ⟨[], ⟨fun x hx => (nomatch hx), by decide, none, 0, hcs, Nat.le_refl _, fun _ => rfl, fun i x hi => by simp at hi⟩, by decide⟩
  · simp only [List.cons.injEq, and_true] at hcs
    have hz' : zs.length = c := by simpa using hz
    simp only [Prod.mk.injEq] at hx
    rw [hx.1] at hd
    have hb := bulk_ints hd
    have hlen : (zs.take l).length = l := by simp; omega
    refine ⟨zs.take l, ⟨fun y hy => bounds_u8 (hwz y (List.mem_of_mem_take hy)), by omega, some x, c, by rw [hlen]; exact hcs, by omega, fun e => (nomatch e), fun j u hu => ?_⟩, by omega⟩
    have hj : j < l := by have := (List.getElem?_eq_some_iff.1 hu).1; omega
    rw [List.getElem?_take_of_lt hj, List.getElem?_eq_getElem (by omega)] at hu
    have hc := hcell j (by omega)
    rw [List.getD_eq_getElem?_getD, List.getElem?_eq_getElem (by omega)] at hc
    obtain ⟨bb, off, rfl⟩ := plain_addr (x := x) (by have := hcell 0 (by omega); simpa [Addr.add] using this)
    rw [Addr.add_mid] at hc
    refine ⟨bb, off, rfl, ?_⟩
    rw [hc, ← Option.some.inj hu]
    rfl
end Go.Proofs.Ytflhgphjkhplmaa.D

/- Count; a list of rows that comes in. -/
namespace Go.Proofs.Ytflhgphjkhplmaa.D
open Go.ChangeShapes Go.WideShapes Go.ChangeAt Go.RowKit W
set_option linter.unusedVariables false
set_option linter.unusedSimpArgs false

theorem count_any (n : Int) (m : Nat) (h0 : 0 < m) (hm : m ≤ 10000000) : ∃ z : Nat, z < m ∧ ∀ V : World, Calls Try.prog 23 #[.int .i64 n, .int .i64 (m : Int)] V fun e w' => e = .returned (.int .i64 (z : Int)) ∧ w' = V := by
  have h3 : (n.tmod (m : Int)).natAbs < m := by
    rw [Int.natAbs_tmod]
    exact Nat.mod_lt _ (by simpa using h0)
  have HT : Hid ((n.tmod (m : Int)).natAbs < m ∧ m ≤ 10000000) := ⟨h3, hm⟩
  have hm0 : ¬ (m : Int) = 0 := by omega
  clear h3 hm h0
  by_cases h : n.tmod (m : Int) < 0
  · refine ⟨(n.tmod (m : Int) + m).toNat, by have := HT.out; omega, fun V => ?_⟩
    have HZ : Hid (((n.tmod (m : Int) + m).toNat : Int) = wrap64 (n.tmod (m : Int) + m)) := by
      show _ = _
      have := HT.out
      have e : wrap64 (n.tmod (m : Int) + m) = n.tmod (m : Int) + m := by unfold wrap64; omega
      rw [e]
      omega
    rw [HZ.out]
    go_enter Try.func23, Try.ntmps23
    go_wp2
    go_ret
    exact ⟨rfl, rfl⟩
  · refine ⟨(n.tmod (m : Int)).toNat, by have := HT.out; omega, fun V => ?_⟩
    have HZ : Hid (((n.tmod (m : Int)).toNat : Int) = n.tmod (m : Int)) := by show _ = _; omega
    rw [HZ.out]
    go_enter Try.func23, Try.ntmps23
    go_wp2
    go_ret
    exact ⟨rfl, rfl⟩
/-- A list of rows of bytes that came in. -/
structure LV (w : World) (v : Value) (ls : List (Value × List Int)) : Prop where
  ex : ∃ a cap, v = .slice a ls.length cap ∧ ls.length ≤ cap ∧ ∀ i x, ls[i]? = some x → ∃ b off, a = some ⟨b, off, none⟩ ∧ w.cell? ⟨b, off + i, none⟩ = some x.1
  each : ∀ x ∈ ls, SV w x.1 x.2
  len : ls.length ≤ 1048576
theorem row_of {H : Type} {enc : TypeId × Value → H} {W : World} {fuel b o : Nat} {cs : List Value} {x : DataW H × List MemPlace} (hc : W.cells? 0 ⟨b, o, none⟩ 1 = some cs) (h : DataW.trod enc Try.prog W 0 (fun _ => true) true fuel 23 cs = some x) (hd : Rows.uptoBulk x.1 ≤ 1048576) :
    ∃ k : Value × List Int, W.cell? ⟨b, o, none⟩ = some k.1 ∧ SV W k.1 k.2 := by
  obtain ⟨_, hlen, hcell⟩ := World.cells?_some hc
  match cs, hlen with
  | [v0], _ =>
    have e0 := hcell 0 (by omega)
    rw [Addr.add_mid] at e0
    simp at e0
    obtain ⟨bs, h1⟩ := sv_of (d := x.1) (q := x.2) h hd
    exact ⟨(v0, bs), e0, h1⟩
theorem rows_of {H : Type} {enc : TypeId × Value → H} {W : World} {fuel : Nat} {v : Value} {d : DataW H} {q : List MemPlace} (h : DataW.trod enc Try.prog W 0 (fun _ => true) true fuel 29 [v] = some (d, q)) (hd : Rows.uptoBulk d ≤ 1048576) : ∃ ls, LV W v ls := by
  rcases Deep.open_slice Try.underlying29 h with ⟨hcs, _⟩ | ⟨a, len, cap, m, n, D, Pl, hcs, _, hl, hm, hmm, hx, hcell⟩
  · simp only [List.cons.injEq, and_true] at hcs
    subst hcs
    exact ⟨[], ⟨none, 0, rfl, Nat.le_refl _, fun i f hi => by simp at hi⟩, fun x hx => (nomatch hx), by decide⟩
  · simp only [List.cons.injEq, and_true] at hcs
    subst hcs
    simp only [Prod.mk.injEq] at hx
    rw [hx.1] at hd
    simp only [Rows.uptoBulk] at hd
    have hmc : m = cap := by simpa using hmm
    have hlen := bulk_len ((List.range len).map D)
    simp only [List.length_map, List.length_range] at hlen
    have k23 : Try.prog.cellsOf 23 = 1 := by kernel_rfl
    rw [k23] at hcell
    by_cases h0 : len = 0
    · subst h0
      exact ⟨[], ⟨some a, cap, rfl, Nat.zero_le _, fun i f hi => by simp at hi⟩, fun x hx => (nomatch hx), by decide⟩
    · obtain ⟨b, off, rfl⟩ : ∃ b off, a = ⟨b, off, none⟩ := by
        obtain ⟨cs, h1, _⟩ := hcell 0 (by omega)
        obtain ⟨_, hlen', hc'⟩ := World.cells?_some h1
        have h2 := hc' 0 (by omega)
        exact plain_addr (x := a) (v := cs[0]'(by omega)) (by
          have h3 : W.cell? a = cs[0]? := by simpa [Addr.add] using h2
          rw [h3]
          exact List.getElem?_eq_getElem (by omega))
      have each : ∀ i, i < len → ∃ k : Value × List Int, W.cell? ⟨b, off + i, none⟩ = some k.1 ∧ SV W k.1 k.2 := fun i hi => by
        obtain ⟨cs, h1, h2⟩ := hcell i (by omega)
        rw [Addr.add_mid, Nat.mul_one] at h1
        have hmem : D i ∈ (List.range len).map D := List.mem_map.2 ⟨i, List.mem_range.2 hi, rfl⟩
        have hb := bulk_mem hmem
        exact row_of h1 h2 (by show Rows.uptoBulk (D i) ≤ _; omega)
      have inh : Inhabited (Value × List Int) := ⟨(.slice none 0 0, [])⟩
      obtain ⟨F, hF⟩ := Deep.choose_lt each
      have hil : ∀ i f, ((List.range len).map F)[i]? = some f → i < len ∧ F i = f := fun i f hi => by
        obtain ⟨h1, h2⟩ := List.getElem?_eq_some_iff.1 hi
        simp at h1 h2
        exact ⟨h1, h2⟩
      refine ⟨(List.range len).map F, ⟨some ⟨b, off, none⟩, cap, by simp, by simpa using hl, fun i f hi => ?_⟩, fun x hx => ?_, by simp; omega⟩
      · obtain ⟨h1, rfl⟩ := hil i f hi
        exact ⟨b, off, rfl, (hF i h1).1⟩
      · obtain ⟨i, hi, rfl⟩ := List.mem_map.1 hx
        exact (hF i (List.mem_range.1 hi)).2
end Go.Proofs.Ytflhgphjkhplmaa.D
