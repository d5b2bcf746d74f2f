import Derived.Test.YtmlbojihjgbdlaaM15
import Derived.RangeFuncNested
import Derived.RangeFuncBound
import Derived.RangeFuncCalls
import Derived.RangeFuncLeaves
import Derived.OwnWalkIn
import Derived.TacticsInMore
import Derived.LoopNIn
import Derived.LoopIn
import Derived.Test.YtmlbojihjgbdlaaM07
import Derived.StillTailTactics
import Derived.Stop.RegionWithIn
/- Ranging over the files: what the sequence asks and tells. -/
namespace Go.Proofs.Ytmlbojihjgbdlaa.D
open Go.RowKit Go.Shelf
set_option linter.unusedVariables false
set_option linter.unusedSimpArgs false
attribute [local go_sem] Oper.semAt_some

/-- Some blocks lie as before. -/
structure Kf (P : Nat → Prop) (A B : World) : Prop where
  size : A.heap.size ≤ B.heap.size
  keep : ∀ q, P q → B.heap[q]? = A.heap[q]?
theorem Kf.refl (P : Nat → Prop) (A : World) : Kf P A A := ⟨Nat.le_refl _, fun _ _ => rfl⟩
theorem Kf.trans {P : Nat → Prop} {A B C : World} (h : Kf P A B) (k : Kf P B C) : Kf P A C := ⟨Nat.le_trans h.size k.size, fun q hq => (k.keep q hq).trans (h.keep q hq)⟩
theorem Kf.of {P : Nat → Prop} {n₀ : Nat} {A B : World} (h : Below n₀ A B) (hp : ∀ q, P q → q < n₀) : Kf P A B := ⟨h.size, fun q hq => h.block q (hp q hq)⟩
/-- What the sequence of Files reads. -/
structure FJ (W : World) (a b k bs : Nat) (nv : Value) (dl : List Fd) : Prop where
  nb : W.heap[a]? = some (.cells #[nv] 89 (0, 0))
  lb : W.heap[b]? = some (.cells #[.slice (some ⟨k, 0, none⟩) dl.length dl.length] 41 (0, 0))
  row : W.heap[k]? = some (.cells ((lenL dl).map iV).toArray 3 (0, 0))
  nr : W.ownsRow bs 9 1 nv dl.length ((dl.map Fd.nm).map sV)
  lo : bs ≤ a ∧ bs ≤ b ∧ bs ≤ k
def FP (a b k : Nat) (nv : Value) (q : Nat) : Prop := q = a ∨ q = b ∨ q = k ∨ nv.ownBlock = some q
theorem FJ.at' {W V : World} {a b k bs : Nat} {nv : Value} {dl : List Fd} (h : FJ W a b k bs nv dl) (hk : ∀ q, FP a b k nv q → V.heap[q]? = W.heap[q]?) : FJ V a b k bs nv dl :=
  ⟨(hk a (.inl rfl)).trans h.nb, (hk b (.inr (.inl rfl))).trans h.lb, (hk k (.inr (.inr (.inl rfl)))).trans h.row, own_at h.nr fun q hq => hk q (.inr (.inr (.inr hq))), h.lo⟩
theorem FJ.lt {W : World} {a b k bs : Nat} {nv : Value} {dl : List Fd} (h : FJ W a b k bs nv dl) : ∀ q, FP a b k nv q → bs ≤ q ∧ q < W.heap.size := by
  rintro q (rfl | rfl | rfl | hq)
  · exact ⟨h.lo.1, (Array.getElem?_eq_some_iff.1 h.nb).1⟩
  · exact ⟨h.lo.2.1, (Array.getElem?_eq_some_iff.1 h.lb).1⟩
  · exact ⟨h.lo.2.2, (Array.getElem?_eq_some_iff.1 h.row).1⟩
  · exact h.nr.lt q hq
theorem FI.fj {w wx : World} {a b k : Nat} {nv : Value} {dl : List Fd} (h : FI w wx a b k nv dl dl.length) : FJ wx a b k w.heap.size nv dl := by
  refine ⟨h.nb, h.lb, ?_, h.nr, h.lo⟩
  have e := h.row
  rw [show lensAt dl dl.length = lenL dl by unfold lensAt; rw [Nat.sub_self, List.replicate_zero, List.append_nil, List.take_of_length_le (by simp [lenL])]] at e
  exact e
def elF (x : Fd) : Array Value := #[.string (tx x.nm), .int .i64 (x.b.length : Int)]
set_option maxRecDepth 100000 in
set_option maxHeartbeats 4000000 in
theorem files_in (n : Nat) (l a b k bs : Nat) (nv : Value) (dl : List Fd) (hsm : dl.length ≤ 1000000) (J Jx : List Fd → World → Prop) (W : World)
    (hY : ∀ pre x W, x ∈ dl → J pre W → pre.length < dl.length → YieldAt Fence.wide (n - 1) Try.prog l (elF x) W fun e W' =>
      (e = .returned (.bool true) ∧ J (pre ++ [x]) W' ∧ Kf (FP a b k nv) W W') ∨ (e = .returned (.bool false) ∧ Jx (pre ++ [x]) W'))
    (hF : FJ W a b k bs nv dl) (h0 : J [] W) :
    CallsIn Fence.wide n Try.prog 54 #[.func (.yield l) #[] #[], .pointer (some ⟨a, 0, none⟩), .pointer (some ⟨b, 0, none⟩)] W fun e W' => (∃ v, e = .returned v) ∧
      ((∃ ys, ys = dl ∧ J ys W') ∨ (∃ pre : List Fd, (∃ m, pre = dl.take m) ∧ Jx pre W')) := by
  obtain ⟨na, nc, hnv⟩ := own_slice hF.nr
  subst hnv
  have HF : Hid (FJ W a b k bs (.slice na dl.length nc) dl) := hF
  have ca : W.cell? ⟨a, 0, none⟩ = some (.slice na dl.length nc) := by rw [cell_of_row _ _ _ _ _ _ hF.nb]; rfl
  have hcap' : (dl.length : Int) ≤ (nc : Int) := by have := own_capv hF.nr; omega
  have hli : (dl.length : Int) ≤ 1000000 := by omega
  clear hF
  refine callsIn_of_wp Try.func54 rfl trivial ?_ rfl
  simp only [Try.ntmps54, List.size_toArray, List.length_cons, List.length_nil, Nat.reduceAdd, Nat.reduceSub, Array.replicate_succ, Array.replicate_zero, List.push_toArray, List.append_toArray, List.nil_append, List.cons_append]
  gi_wp2
  gi_loopw [4, 5, 8] (fun x y s wr => ∃ i : Nat, i ≤ dl.length ∧ s = .int .i64 i ∧ J (dl.take i) wr ∧ Kf (FP a b k (.slice na dl.length nc)) W wr) (fun x y s _ => dl.length - (intOf s).toNat)
  case atStart => exact ⟨0, by omega, rfl, h0, Kf.refl _ _⟩
  case round =>
    obtain ⟨i, hk, rfl, hJs, hnx⟩ := hrel
    by_cases hlt : i < dl.length
    · obtain ⟨x, hx⟩ : ∃ x, dl[i] = x := ⟨_, rfl⟩
      have HX : Hid (dl[i]? = some x) := by show _ = _; rw [List.getElem?_eq_getElem hlt, hx]
      have hFw : FJ wr a b k bs (.slice na dl.length nc) dl := HF.out.at' hnx.keep
      obtain ⟨g, cp, hv⟩ := own_form hFw.nr (by omega)
      have hna : na = some ⟨g, 0, none⟩ := (Value.slice.inj hv).1
      subst hna
      have c1 : wr.cell? ⟨g, i, none⟩ = some (.string (tx x.nm)) := by
        rw [hFw.nr.cellAt i (by omega), List.getElem?_map, List.getElem?_map, HX.out]
        rfl
      have c2 : wr.cell? ⟨b, 0, none⟩ = some (.slice (some ⟨k, 0, none⟩) dl.length dl.length) := by rw [cell_of_row _ _ _ _ _ _ hFw.lb]; rfl
      have c3 : wr.cell? ⟨k, i, none⟩ = some (.int .i64 (x.b.length : Int)) := by
        rw [cell_of_row _ _ _ _ _ _ hFw.row]
        have e : (lenL dl)[i]? = some (x.b.length : Int) := by unfold lenL; rw [List.getElem?_map, HX.out]; rfl
        rw [List.getElem?_toArray, List.getElem?_map, e]
        rfl
      have HTK : Hid (dl.take i ++ [x] = dl.take (i + 1)) := by show _ = _; rw [← hx, List.take_succ_eq_append_getElem hlt]
      have HTL : Hid ((dl.take i).length < dl.length) := by show _ < _; simp; omega
      have i1 : (i : Int) < (dl.length : Int) := by omega
      have k0 : (0 : Int) ≤ (i : Int) := by omega
      have HNX : Hid (Kf (FP a b k (.slice (some ⟨g, 0, none⟩) dl.length nc)) W wr) := hnx
      have HJ : Hid (J (dl.take i) wr) := hJs
      clear hx hJs hFw hv
      obtain ⟨fn, tmps, assign, body, hy, hR⟩ := hY _ x _ (List.mem_of_getElem? HX.out) HJ.out HTL.out
      unfold elF at hy
      gi_wp2
      refine ⟨fun h => by simp [Fence.wide] at h, hR.mono ?_⟩
      rintro e W3 (⟨rfl, hJ3, hk3⟩ | ⟨rfl, hJx3⟩)
      · gi_wp2
        go_roundw
        case rel =>
          refine ⟨i + 1, by omega, by go_num, ?_, HNX.out.trans hk3⟩
          rw [← HTK.out]
          exact hJ3
        case measure => simp [intOf]; omega
      · gi_wp2
        refine bodyPost_ret (results_none rfl _ _ _) rfl ?_
        exact ⟨⟨_, rfl⟩, .inr ⟨_, ⟨i + 1, HTK.out⟩, hJx3⟩⟩
    · have hkk : i = dl.length := by omega
      have HKK : Hid (i = dl.length) := hkk
      have i1 : ¬ ((i : Int) < (dl.length : Int)) := by omega
      clear hkk hlt
      gi_wp2
      go_end0
      rw [HKK.out, List.take_length] at hJs
      exact ⟨⟨_, rfl⟩, .inl hJs⟩
/-- One of the files. -/
abbrev OfF (dl : List Fd) : Type := {x : Fd // x ∈ dl}
def valsF {dl : List Fd} (l : List (OfF dl)) : List Fd := l.map (·.1)
theorem files_seq (n a b k bs : Nat) (nv : Value) (dl : List Fd) (w : World) (hsm : dl.length ≤ 1000000) (h : FJ w a b k bs nv dl) :
    SeqStopsK Fence.wide n Try.prog 54 #[.pointer (some ⟨a, 0, none⟩), .pointer (some ⟨b, 0, none⟩)] (fun x : OfF dl => elF x.1) (Kf (FP a b k nv)) (fun ys => valsF ys = dl) (fun pre => ∃ m, valsF pre = dl.take m) dl.length w := by
  intro l J Jx W hW hA _ hY h0
  have hSW := h.at' (V := W) fun q hq => hW.block q (h.lt q hq).2
  refine (files_in n l a b k bs nv dl hsm (fun pre W => ∃ p : List (OfF dl), valsF p = pre ∧ J p W) (fun pre W => ∃ p : List (OfF dl), valsF p = pre ∧ Jx p W) W ?_ hSW ⟨[], rfl, h0⟩).mono ?_
  · rintro pre x W1 hx ⟨p, rfl, hJ⟩ hlt
    obtain ⟨fn, tmps, assign, body, hy, hR⟩ := hY p ⟨x, hx⟩ W1 hJ (by simpa [valsF] using hlt)
    refine ⟨fn, tmps, assign, body, hy, hR.mono ?_⟩
    rintro e W3 (⟨rfl, hJ3, hk3⟩ | ⟨rfl, hJx3⟩)
    · exact .inl ⟨rfl, ⟨_, by simp [valsF], hJ3⟩, hk3⟩
    · exact .inr ⟨rfl, ⟨_, by simp [valsF], hJx3⟩⟩
  · rintro e W3 ⟨h1, ⟨ys, rfl, p, hp, hJ3⟩ | ⟨pre, ⟨k, hk⟩, p, hp, hJ3⟩⟩
    · exact ⟨h1, .inl ⟨p, hp, hJ3⟩⟩
    · exact ⟨h1, .inr ⟨p, ⟨k, hp.trans hk⟩, hJ3⟩⟩
end Go.Proofs.Ytmlbojihjgbdlaa.D

/- alike: all that can be seen of a disk. -/
namespace Go.Proofs.Ytmlbojihjgbdlaa.D
open Go.RowKit Go.Shelf
set_option linter.unusedVariables false
set_option linter.unusedSimpArgs false
attribute [local go_sem] Oper.semAt_some

theorem results_bool12 {tmps : Array Value} {w : World} {g : Nat} {b : Bool} (hp : tmps.getD 4 undef = .pointer (some ⟨g, 0, none⟩)) (hc : w.cell? ⟨g, 0, none⟩ = some (.bool b)) : (results Try.f12 tmps).run Try.prog w = .ok (.bool b) w := by
  have hp' : tmps[4]?.getD undef = .pointer (some ⟨g, 0, none⟩) := by simpa using hp
  have u4 := run_underlying (P := Try.prog) Try.underlying4
  simp [results, Try.results12, hp', asAddr, loadVar, isAgg, u4, go_sem, hc]
/-- No operation defers a call. -/
def noDefer (ops : Array Oper) : Bool := ops.all fun o => match o.op with | .defer _ => false | _ => true
theorem noDefer_at {ops : Array Oper} (h : noDefer ops = true) {i : Nat} {o : Oper} (hi : ops[i]? = some o) : ∀ c, o.op ≠ .defer c := by
  intro c hc
  obtain ⟨hlt, he⟩ := Array.getElem?_eq_some_iff.1 hi
  have := (Array.all_eq_true.1 h) i hlt
  rw [he] at this
  simp [hc] at this
/-- Only on, with what is said of it. -/
def on (R : Act → World → Prop) : Exit → Act → World → Prop := fun e a w => e = .normal ∧ R a w
theorem oper_lift {P : Program} {n l : Nat} {o : Oper} {a : Act} {w : World} {K K' R : Act → World → Prop} {Q' : Exit → Act → World → Prop} (hd : ∀ c, o.op ≠ .defer c) (hk : ∀ a w, K a w → K' a w) (h : o.wp P a w K (on R)) : o.wpIn (Fence.wide.inRound l) n P a w K' Q' := by
  unfold Oper.wp at h
  unfold Oper.wpIn
  refine ⟨fun _ _ => trivial, ?_⟩
  rw [Oper.semAt_plain _ _ _ hd]
  generalize (execOp a.eval o).run P w = r at *
  cases r with
  | ok x w' =>
    cases x <;> simp only [Oper.upon] at h <;> simp only [Oper.uponIn]
    case value u => exact hk _ _ h
    case skip => exact hk _ _ h
    case defer d => exact hk _ _ h
    case enter f args =>
      refine ⟨fun h => by simp [Fence.wide] at h, ?_⟩
      exact (CallsIn.inRound l (callsIn_wide.2 h)).mono fun e w'' he => by
        cases e with
        | returned v => exact hk _ _ he
        | panicked c => exact absurd he.1 (by simp)
        | outgrown => obtain ⟨_, _, h1, _⟩ := he; exact absurd h1 (by simp)
    case row row args =>
      refine ⟨fun h => by simp [Fence.wide] at h, fun c cs _ => ?_⟩
      obtain ⟨v, w2, h1, h2⟩ := h c cs
      exact ⟨v, w2, hk _ _ h1, stepsIn_wide.2 h2⟩
  | halt x w' => cases x <;> simp only [Oper.upon] at h <;> first | exact h.elim | exact absurd h.1 (by simp)
theorem op_lift {P : Program} {ops : Array Oper} {n l i : Nat} {a : Act} {w : World} {K K' R : Act → World → Prop} {Q' : Exit → Act → World → Prop} (hnd : noDefer ops = true) (hk : ∀ a w, K a w → K' a w) (h : wpOp P ops (on R) i K a w) : wpOpIn (Fence.wide.inRound l) n P ops Q' i K' a w := by
  unfold wpOp at h
  unfold wpOpIn
  split
  · rename_i ho; simp only [ho] at h; exact hk _ _ h
  · rename_i o ho
    simp only [ho] at h
    split
    · rename_i hw
      simp only [hw, if_true] at h
      rcases h with h | ⟨_, _, _, h1, _⟩
      · exact oper_lift (noDefer_at hnd ho) hk h
      · exact absurd h1 (by simp)
    · rename_i hw; simp only [hw] at h; exact ⟨fun _ _ => trivial, hk _ _ h⟩
theorem any_lift {P : Program} {md : Region.Mode} {ops : Array Oper} {n l : Nat} {R : Act → World → Prop} {Q' : Exit → Act → World → Prop} (hnd : noDefer ops = true) (hQ : ∀ a w, R a w → Q' .normal a w) : ∀ (fuel : Nat) (listed : Array Bool) (a : Act) (w : World),
    wpAny P md ops (on R) fuel listed a w → wpAnyIn (Fence.wide.inRound l) n P md ops Q' fuel listed a w
  | 0, _, _, _, h => ⟨h.1, hQ _ _ h.2.2⟩
  | fuel + 1, _, _, _, h => ⟨fun h0 => hQ _ _ (h.1 h0).2, fun i hi => op_lift hnd (fun a' w' => any_lift hnd hQ fuel _ a' w') (h.2 i hi)⟩
/-- All orders of operations of which the first k read, and come in any order, and the others come behind them one after another. -/
theorem any_tail {P : Program} {Q : Exit → Act → World → Prop} {a : Act} {w : World} (ls : List Oper) (k : Nat) (hB : Region.lexTailB .any ls.toArray k = true)
    (h : wpStill P ls.toArray w (fun a' => wpList P ls.toArray Q (ls.drop k) a' w) (ls.take k) a) : wpAny P .any ls.toArray Q ls.toArray.size (Array.replicate ls.toArray.size false) a w := by
  unfold Region.lexTailB at hB
  obtain ⟨hB, b5⟩ := Bool.and_eq_true_iff.1 hB
  obtain ⟨hB, b4⟩ := Bool.and_eq_true_iff.1 hB
  obtain ⟨hB, b3⟩ := Bool.and_eq_true_iff.1 hB
  obtain ⟨b1, b2⟩ := Bool.and_eq_true_iff.1 hB
  have hlt : k < ls.toArray.size := of_decide_eq_true b2
  have hk : k ≤ ls.length := by rw [List.size_toArray] at hlt; omega
  have l1 : (ls.take k).length = k := List.length_take_of_le hk
  have l2 : (ls.drop k).length = ls.toArray.size - k := by rw [List.length_drop, List.size_toArray]
  have back : ∀ (listed : Array Bool) (a' : Act), Region.seqB .any ls.toArray (ls.toArray.size - k) k listed = true ∧ wpList P ls.toArray Q (ls.drop k) a' w → wpAny P .any ls.toArray Q (ls.toArray.size - k) listed a' w := by
    rintro listed a' ⟨s1, s2⟩
    rw [← l2] at s1 ⊢
    exact wpAny_of_seq (ls.drop k) k listed a' w (fun j => by rw [List.getElem?_drop, List.getElem?_toArray]) s1 s2
  have none_yet : HeadInv .any ls.toArray k (Array.replicate ls.toArray.size false) := by
    refine ⟨Array.size_replicate, ?_, fun t _ ht => getD_in (by rw [Array.size_replicate]; exact ht) (getD_replicate_false _ _)⟩
    intro j oj _ hl
    rw [getD_replicate_false] at hl
    exact absurd hl (by decide)
  have front := wpAnyL_lex (P := P) (w := w) b1 b3 b4 hlt (ls.take k) 0 _ a (fun j hj => by rw [l1] at hj; rw [List.getElem?_take_of_lt hj, Nat.zero_add, List.getElem?_toArray]) (by rw [l1, Nat.zero_add]) none_yet (by rw [l1]; exact b5) h
  have all := wpAny_of_head back _ _ _ front
  rwa [l1, Nat.add_sub_cancel' (Nat.le_of_lt hlt)] at all
/-- A region that draws, in a round: all but the last operations read. -/
theorem region_round_tail {P : Program} {id n l : Nat} {Q : Exit → Act → World → Prop} {a : Act} {w : World} {ls : List Oper} (k : Nat) (hnd : noDefer ls.toArray = true) (hm : P.follows .mixedOrders = true) (hB : Region.lexTailB .any ls.toArray k = true)
    (h : wpStill P ls.toArray w.drew (fun a' => wpList P ls.toArray (on (Q .normal)) (ls.drop k) a' w.drew) (ls.take k) a) : (Code.region id ls.toArray true).wpIn (Fence.wide.inRound l) n P Q a w :=
  wpIn_region_any hm (any_lift hnd (R := Q .normal) (fun _ _ h => h) _ _ _ _ (any_tail ls k hB h))
theorem rdB_of {dl : List Fd} {x : Fd} (hn : (dl.map Fd.nm).Nodup) (hx : x ∈ dl) : rdB x.nm dl = x.b ∧ rdE x.nm dl = 0 := by
  unfold rdB rdE
  rw [lkF_of hn hx]
  exact ⟨rfl, rfl⟩
theorem valsF_len {dl : List Fd} (l : List (OfF dl)) : (valsF l).length = l.length := by simp [valsF]
theorem keeps_below {W W' : World} (h : Below W.heap.size W W') : KeepsOthers W W' :=
  ⟨h.size, fun k o hk _ => (h.block k (Array.getElem?_eq_some_iff.1 hk).1).trans hk⟩
theorem PS.rbox {w0 w : World} {D R : Nat} {sy : Int} {dl : List Fd} {ks : List (Nat × Obj)} (h : PS w0 w D R sy dl ks) : ∃ la lc, w.cell? ⟨R, 0, none⟩ = some (.slice la dl.length lc) ∧ w.cell? ⟨R, 1, none⟩ = some (.int .i64 sy) := by
  obtain ⟨⟨F, G, h1, ⟨lv, m, h2, h3, -⟩, -⟩, -⟩ := h
  obtain ⟨la, lc, hlv⟩ := own_slice h2.row
  have hl : m.length = dl.length := by rw [← h3, xsM_len]
  rw [hl] at hlv
  exact ⟨la, lc, by rw [h2.cells.1, hlv], h2.cells.2.1⟩
theorem nd_one {dl : List Fd} (hn : (dl.map Fd.nm).Nodup) {x y : Fd} (hx : x ∈ dl) (hy : y ∈ dl) (e : x.nm = y.nm) : x = y := by
  have h1 := lkF_of hn hx
  have h2 := lkF_of hn hy
  rw [e, h2] at h1
  exact (Option.some.inj h1).symm
/-- The next one that is told, or none of the list. -/
theorem pre_next {dl : List Fd} {pre : List (OfF dl)} (hv : valsF pre = dl.take pre.length) (x : OfF dl) (hx : dl[pre.length]? = some x.1) : valsF (pre ++ [x]) = dl.take (pre ++ [x]).length := by
  have h1 : valsF (pre ++ [x]) = valsF pre ++ [x.1] := by simp [valsF]
  rw [h1, hv, List.length_append, List.length_singleton, (drop_at hx).2]
theorem pre_bad {dl : List Fd} {pre : List (OfF dl)} {y : Fd} (x : OfF dl) (hy : dl[pre.length]? = some y) (hn : x.1 ≠ y) : ¬ ∃ m, valsF (pre ++ [x]) = dl.take m := by
  rintro ⟨m, hm⟩
  have h1 : valsF (pre ++ [x]) = valsF pre ++ [x.1] := by simp [valsF]
  rw [h1] at hm
  have h2 : (dl.take m)[pre.length]? = some x.1 := by
    rw [← hm, List.getElem?_append_right (by rw [valsF_len]; exact Nat.le_refl _), valsF_len, Nat.sub_self]
    rfl
  rw [List.getElem?_take] at h2
  split at h2
  · rw [hy] at h2
    exact hn (Option.some.inj h2).symm
  · cases h2
set_option maxRecDepth 100000 in
set_option maxHeartbeats 8000000 in
theorem alike_k {k : Nat} (hk : k ≤ 1000000) : ∀ (w0 w : World) (D R : Nat) (sy : Int) (dl : List Fd), PS w0 w D R sy dl [] → Inv k sy dl → Ord dl → Calls Try.prog 12 #[.pointer (some ⟨D, 0, none⟩), .pointer (some ⟨R, 0, none⟩)] w fun e w2 => e = .returned (.bool true) ∧ Below w.heap.size w w2 := by
  intro w0 w D R sy dl hP hI hO
  have HKK : Hid (k ≤ 1000000) := hk
  clear hk
  obtain ⟨W1, hW1⟩ : ∃ W1, ((((w.alloc (.cells #[.pointer (some ⟨D, 0, none⟩)] 23)).alloc (.cells #[.pointer (some ⟨R, 0, none⟩)] 26)).alloc (.cells #[.bool false] 4)).alloc (.cells #[.int .i64 0] 3)) = W1 := ⟨_, rfl⟩
  have HQ : Hid (PS w0 w D R sy dl [] ∧ Inv k sy dl ∧ Ord dl) := ⟨hP, hI, hO⟩
  have H1 : Hid (Below w.heap.size w W1 ∧ Boxed W1 w.heap.size 23 (.pointer (some ⟨D, 0, none⟩)) ∧ Boxed W1 (w.heap.size + 1) 26 (.pointer (some ⟨R, 0, none⟩)) ∧ Boxed W1 (w.heap.size + 1 + 1) 4 (.bool false) ∧ Boxed W1 (w.heap.size + 1 + 1 + 1) 3 (.int .i64 0) ∧ W1.heap.size = w.heap.size + 4) := by
    show _ ∧ _
    rw [← hW1]
    refine ⟨(((bel1 _ _).alloc (by simp) _).alloc (by simp; omega) _).alloc (by simp; omega) _, (((Boxed.new _ _ _).alloc _).alloc _).alloc _, ?_, ?_, ?_, by simp⟩
    · have h := Boxed.new (w.alloc (.cells #[.pointer (some ⟨D, 0, none⟩)] 23)) 26 (.pointer (some ⟨R, 0, none⟩))
      rw [World.size_alloc] at h
      exact (h.alloc _).alloc _
    · have h := Boxed.new ((w.alloc (.cells #[.pointer (some ⟨D, 0, none⟩)] 23)).alloc (.cells #[.pointer (some ⟨R, 0, none⟩)] 26)) 4 (.bool false)
      rw [World.size_alloc, World.size_alloc] at h
      exact h.alloc _
    · have h := Boxed.new (((w.alloc (.cells #[.pointer (some ⟨D, 0, none⟩)] 23)).alloc (.cells #[.pointer (some ⟨R, 0, none⟩)] 26)).alloc (.cells #[.bool false] 4)) 3 (.int .i64 0)
      rw [World.size_alloc, World.size_alloc, World.size_alloc] at h
      exact h
  have HFI : Hid (Calls Try.prog 28 #[.pointer (some ⟨D, 0, none⟩)] W1 fun e w' => ∃ a b, e = .returned (.func (.func 54) #[] #[.pointer (some ⟨a, 0, none⟩), .pointer (some ⟨b, 0, none⟩)]) ∧ ∃ kk nv, FI W1 w' a b kk nv dl dl.length ∧ PS w0 w' D R sy dl []) := PS.files (PP.newer hP H1.out.1) hI hO
  have c0 : W1.cell? ⟨w.heap.size, 0, none⟩ = some (.pointer (some ⟨D, 0, none⟩)) := H1.out.2.1.cell
  have hfq : ∀ a b w, (binOp .eql 63 (.func (.func 54) #[] #[.pointer (some ⟨a, 0, none⟩), .pointer (some ⟨b, 0, none⟩)]) .nilFunc).run Try.prog w = .ok (.bool false) w := fun a b w => by kernel_rfl
  have HW1 : Hid (((((w.alloc (.cells #[.pointer (some ⟨D, 0, none⟩)] 23)).alloc (.cells #[.pointer (some ⟨R, 0, none⟩)] 26)).alloc (.cells #[.bool false] 4)).alloc (.cells #[.int .i64 0] 3)) = W1) := hW1
  clear hP hI hO hW1
  refine (callsIn_wide (n := 5)).1 ?_
  refine callsIn_of_wp_marks Try.func12 rfl trivial ?_ rfl
  refine wpIn_wide.2 ?_
  simp only [Try.ntmps12, List.size_toArray, List.length_cons, List.length_nil, Nat.reduceAdd, Nat.reduceSub, Array.replicate_succ, Array.replicate_zero, List.push_toArray, List.append_toArray, List.nil_append, List.cons_append]
  go_upto_region 2 with (fail)
  rw [HW1.out]
  clear HW1
  go_upto_region 5 with (go_at_call 28; refine HFI.out.mono ?_; rintro e W2 ⟨a, b, rfl, kk, nv, hf, hp2⟩; (have HF : Hid (FI W1 W2 a b kk nv dl dl.length ∧ PS w0 W2 D R sy dl []) := ⟨hf, hp2⟩); clear hf hp2)
  go_wp2_with fail
  clear c0
  obtain ⟨B0, B1, B2, B3, e0, e1, e2, e3⟩ : ∃ B0 B1 B2 B3, w.heap.size = B0 ∧ w.heap.size + 1 = B1 ∧ w.heap.size + 1 + 1 = B2 ∧ w.heap.size + 1 + 1 + 1 = B3 := ⟨_, _, _, _, rfl, rfl, rfl, rfl⟩
  have HBN : Hid (w.heap.size ≤ B0 ∧ B0 < B1 ∧ B1 < B2 ∧ B2 < B3 ∧ B3 < W1.heap.size) := ⟨by omega, by omega, by omega, by omega, by have := H1.out.2.2.2.2.2; omega⟩
  have H1B : Hid (Below w.heap.size w W1 ∧ Boxed W1 B0 23 (.pointer (some ⟨D, 0, none⟩)) ∧ Boxed W1 B1 26 (.pointer (some ⟨R, 0, none⟩)) ∧ Boxed W1 B2 4 (.bool false) ∧ Boxed W1 B3 3 (.int .i64 0)) := by
    have h := H1.out
    rw [e3, e2, e1] at h
    refine ⟨h.1, ?_, h.2.2.1, h.2.2.2.1, h.2.2.2.2.1⟩
    have h2 := h.2.1
    rw [e0] at h2
    exact h2
  rw [e3, e2, e1, e0]
  have HFJ : Hid (FJ W2 a b kk W1.heap.size nv dl) := HF.out.1.fj
  have HBE : Hid (Below W1.heap.size W1 W2) := HF.out.1.be
  have hbx : ∀ (q : Nat) (t : TypeId) (v : Value), q < W1.heap.size → Boxed W1 q t v → Boxed W2 q t v := fun q t v hq hb => (HBE.out.block q hq).trans hb
  have HI0 : Hid (Boxed W2 B3 3 (.int .i64 ((([] : List (OfF dl)).length : Nat) : Int)) ∧ (Boxed W2 B0 23 (.pointer (some ⟨D, 0, none⟩)) ∧ Boxed W2 B1 26 (.pointer (some ⟨R, 0, none⟩)) ∧ Boxed W2 B2 4 (.bool false)) ∧ Below w.heap.size w W2) := by
    obtain ⟨h1, h2, h3, h4, h5⟩ := H1B.out
    obtain ⟨k1, k2, k3, k4, k5⟩ := HBN.out
    exact ⟨hbx _ _ _ k5 h5, ⟨hbx _ _ _ (by omega) h2, hbx _ _ _ (by omega) h3, hbx _ _ _ (by omega) h4⟩, h1.trans (HBE.out.mono h1.size)⟩
  clear hbx e0 e1 e2 e3 H1 HFI hfq
  refine (wpIn_wide (n := 5)).1 ?_
  have hdl : dl.length ≤ 1000000 := by have := HQ.out.2.1.len; omega
  refine wpIn_rangeFunc_ownH rfl (by omega) (gf := 54) (lb := #[.pointer (some ⟨a, 0, none⟩), .pointer (some ⟨b, 0, none⟩)]) rfl trivial (enters_of Try.func54 (by kernel_rfl) rfl)
    (files_seq _ a b kk W1.heap.size nv dl W2 hdl HFJ.out) Kf.trans
    (fun W l o o' h1 h2 h3 h4 => Kf.of (belowK_b (w := W2) (Nat.le_refl _) W l o o' h1 h2 h3 h4) (fun q hq => (HFJ.out.lt q hq).2)) (Below.refl _ _) (fun _ => rfl)
    (fun pre W => (valsF pre = dl.take pre.length ∧ Boxed W B3 3 (.int .i64 (pre.length : Int))) ∧ (Boxed W B0 23 (.pointer (some ⟨D, 0, none⟩)) ∧ Boxed W B1 26 (.pointer (some ⟨R, 0, none⟩)) ∧ Boxed W B2 4 (.bool false)) ∧ Below w.heap.size w W)
    (fun _ pre _ => ¬ ∃ m, valsF pre = dl.take m)
    (OwnFrom.and (OwnFrom.and (fun _ _ _ _ hs _ _ => hs) (Own.from (boxed_own _ 3 (fun pre : List (OfF dl) => .int .i64 (pre.length : Int))) _)) (OwnFrom.and (OwnFrom.and (Own.from (boxed_own _ 23 (fun _ : List (OfF dl) => .pointer (some ⟨D, 0, none⟩))) _) (OwnFrom.and (Own.from (boxed_own _ 26 (fun _ : List (OfF dl) => .pointer (some ⟨R, 0, none⟩))) _) (Own.from (boxed_own _ 4 (fun _ : List (OfF dl) => .bool false)) _))) (ownFrom_below (Nat.le_refl _) HI0.out.2.2.size)))
    (fun _ _ _ _ _ hs _ _ => hs)
    ⟨⟨rfl, HI0.out.1⟩, HI0.out.2⟩
    (fun x a' W => a' = { tmps := List.toArray (Value.pointer (some { block := D, off := 0 }) :: Value.pointer (some { block := R, off := 0 }) :: Value.pointer (some { block := B0, off := 0 }) :: Value.pointer (some { block := B1, off := 0 }) :: Value.pointer (some { block := B2, off := 0 }) :: Value.pointer (some { block := B3, off := 0 }) :: Value.func (Fn.func 54) #[] #[Value.pointer (some { block := a, off := 0 }), Value.pointer (some { block := b, off := 0 })] :: Value.string (tx x.1.nm) :: Value.int .i64 (x.1.b.length : Int) :: undef :: undef :: undef :: undef :: Value.pointer (some { block := D, off := 0 }) :: Value.func (Fn.func 54) #[] #[Value.pointer (some { block := a, off := 0 }), Value.pointer (some { block := b, off := 0 })] :: Value.func (Fn.func 54) #[] #[Value.pointer (some { block := a, off := 0 }), Value.pointer (some { block := b, off := 0 })] :: Value.bool false :: Value.func (Fn.func 54) #[] #[Value.pointer (some { block := a, off := 0 }), Value.pointer (some { block := b, off := 0 })] :: Value.string (tx x.1.nm) :: Value.int .i64 (x.1.b.length : Int) :: undef :: undef :: undef :: undef :: undef :: undef :: undef :: undef :: undef :: undef :: undef :: undef :: undef :: undef :: undef :: undef :: undef :: undef :: undef :: undef :: undef :: undef :: undef :: undef :: undef :: undef :: undef :: undef :: undef :: undef :: undef :: undef :: undef :: undef :: undef :: undef :: undef :: undef :: undef :: undef :: undef :: undef :: undef :: undef :: undef :: undef :: undef :: undef :: undef :: undef :: undef :: undef :: undef :: undef :: undef :: undef :: undef :: undef :: undef :: undef :: undef :: undef :: undef :: undef :: undef :: undef :: undef :: undef :: undef :: undef :: undef :: undef :: undef :: undef :: undef :: undef :: undef :: undef :: undef :: undef :: undef :: undef :: undef :: undef :: undef :: undef :: undef :: undef :: undef :: undef :: undef :: undef :: undef :: undef :: []), defers := [] })
    (fun x a' _ X Y row hs hg hr => hs)
    ?assign ?body ?done ?stop
  case assign =>
    rintro l pre x W K hI hK
    have HK := hK
    clear hK
    unfold elF
    gi_wp2_with fail
    exact HK _ _ (KeepsFrom.refl _ _) (Kf.refl _ _) hI rfl
  case body =>
    rintro l pre xo a' W hl' ⟨r, hr⟩ ⟨⟨hv, b3⟩, ⟨b0, b1, b2⟩, hB⟩ rfl hlt
    obtain ⟨x, hxo⟩ : ∃ x, xo.1 = x := ⟨_, rfl⟩
    have hx : x ∈ dl := by rw [← hxo]; exact xo.2
    rw [hxo]
    have HXO : Hid (xo.1 = x) := hxo
    have HW2 : Hid (W2.heap.size ≤ W.heap.size) := by have := (Array.getElem?_eq_some_iff.1 hr).1; show _ ≤ _; omega
    clear hxo
    have hps : PS w0 W D R sy dl [] := PP.newer HQ.out.1 hB
    obtain ⟨y, hy⟩ : ∃ y, dl[pre.length]? = some y := ⟨_, List.getElem?_eq_getElem hlt⟩
    have hyc := hps.file hy
    obtain ⟨g, gc, da, dc, m0, m1, m2, m3, m4⟩ := hyc
    have hnd : (dl.map Fd.nm).Nodup := by (obtain ⟨⟨F, G, h1, -⟩, -⟩ := hps; exact h1.nd)
    have q3 : W.drew.cell? ⟨B3, 0, none⟩ = some (.int .i64 (pre.length : Int)) := b3.cell
    have q1 : W.drew.cell? ⟨B1, 0, none⟩ = some (.pointer (some ⟨R, 0, none⟩)) := b1.cell
    have q0 : W.drew.cell? ⟨B0, 0, none⟩ = some (.pointer (some ⟨D, 0, none⟩)) := b0.cell
    have r0 : W.drew.cell? ⟨R, 0, none⟩ = some (.slice (some ⟨g, 0, none⟩) dl.length gc) := m0
    have r2 : W.drew.cell? ⟨g, pre.length * 4, none⟩ = some (.string (tx y.nm)) := m2
    have r3 : W.drew.cell? ⟨g, pre.length * 4 + 1, none⟩ = some (.slice da y.b.length dc) := m3
    have i1 : (pre.length : Int) < (dl.length : Int) := by omega
    have i2 : (0 : Int) ≤ (pre.length : Int) := by omega
    have i5 : decide (dl.length ≤ pre.length) = false := decide_eq_false (by omega)
    have i3 : (dl.length : Int) ≤ 1000000 := by omega
    have HX : Hid (x ∈ dl ∧ dl[pre.length]? = some y ∧ valsF pre = dl.take pre.length ∧ (dl.map Fd.nm).Nodup ∧ PS w0 W D R sy dl []) := ⟨hx, hy, hv, hnd, hps⟩
    have HBX : Hid ((Boxed W B3 3 (.int .i64 (pre.length : Int)) ∧ Boxed W B0 23 (.pointer (some ⟨D, 0, none⟩)) ∧ Boxed W B1 26 (.pointer (some ⟨R, 0, none⟩)) ∧ Boxed W B2 4 (.bool false)) ∧ Below w.heap.size w W) := ⟨⟨b3, b0, b1, b2⟩, hB⟩
    have hxo' : xo.1 = x := HXO.out
    by_cases hxy : x = y
    · -- <EQ>
      subst hxy
      have hrd := rdB_of hnd hx
      have HRD : Hid (∀ V, PS w0 V D R sy dl [] → Calls Try.prog 20 #[.pointer (some ⟨D, 0, none⟩), .string (tx x.nm)] V fun e w' => ∃ a cap, e = .returned (.tuple #[.slice a x.b.length cap, .int .i64 0]) ∧ w'.ownsRow V.heap.size 5 1 (.slice a x.b.length cap) x.b.length (u8l x.b) ∧ Below V.heap.size V w') := fun V hV => by
        obtain ⟨⟨F, G, h1, h2, -⟩, -⟩ := hV
        have h := p_read h1 HQ.out.2.1 x.nm
        rw [hrd.1, hrd.2] at h
        exact h
      have HLN : Hid (∀ V, PS w0 V D R sy dl [] → Calls Try.prog 27 #[.pointer (some ⟨D, 0, none⟩), .string (tx x.nm)] V fun e w' => e = .returned (.tuple #[.int .i64 (x.b.length : Int), .int .i64 0]) ∧ w' = V) := fun V hV => by
        obtain ⟨⟨F, G, h1, h2, -⟩, -⟩ := hV
        have h := p_len h1 HQ.out.2.1 x.nm
        rw [hrd.1, hrd.2] at h
        exact h
      obtain ⟨hB8, hBl⟩ := HQ.out.2.1.rd x.nm
      rw [hrd.1] at hB8 hBl
      have HT : Hid (∀ (V : World) (v : Value), Src V v x.b → (convert 31 9 v).run Try.prog V = .ok (.string ⟨(strB x.b).toArray⟩) V) := fun V v hV => Src.conv hV hB8
      obtain ⟨T, hT⟩ : ∃ T : ByteArray, (⟨(strB x.b).toArray⟩ : ByteArray) = T := ⟨_, rfl⟩
      rw [hT] at HT
      have HFL : Hid (∀ V, Below W.heap.size W V → V.cell? ⟨B3, 0, none⟩ = some (.int .i64 (pre.length : Int)) ∧ V.cell? ⟨B1, 0, none⟩ = some (.pointer (some ⟨R, 0, none⟩)) ∧ V.cell? ⟨B0, 0, none⟩ = some (.pointer (some ⟨D, 0, none⟩)) ∧ V.frozen? ⟨B3, 0, none⟩ = false ∧ V.cell? ⟨R, 0, none⟩ = some (.slice (some ⟨g, 0, none⟩) dl.length gc) ∧ V.cell? ⟨g, pre.length * 4 + 1, none⟩ = some (.slice da x.b.length dc) ∧ Src V (.slice da x.b.length dc) x.b) := fun V hV => by
        have k : ∀ q t v, Boxed W q t v → Boxed V q t v := fun q t v hb => (hV.block q hb.lt).trans hb
        exact ⟨(k _ _ _ b3).cell, (k _ _ _ b1).cell, (k _ _ _ b0).cell, (k _ _ _ b3).frozen, (hV.cell (World.block_lt_of_cell? _ _ m0)).trans m0, (hV.cell (World.block_lt_of_cell? _ _ m3)).trans m3, Src.later m4 hV⟩
      have hNN : ((tx x.nm).toList == (tx x.nm).toList) = true := by simp
      have hTT : (T.toList == T.toList) = true := by simp
      have i4 : (x.b.length : Int) ≤ 1048576 := by omega
      clear hxo' m0 m2 m3 m4 b0 b1 b2 b3 hB hx hy hv hnd hps hr hl' hlt hrd hB8 hBl hT
      gi_wp2_with fail
      refine region_round_tail 31 (by kernel_rfl) (by kernel_rfl) (by kernel_rfl) (still_of_quiet _ _ ?_)
      simp only [List.take_succ_cons, List.take_zero, List.drop_succ_cons, List.drop_zero]
      repeat (first | go_big_quiet_skip | (go_big_quiet_want; go_big_quiet_op; go_big_quiet_on))
      refine wpQuiet_nil ?_
      go_wp2_with fail
      refine ⟨rfl, ?_⟩
      clear q0 q1 q3 r0 r2 r3
      have q0 : W.drew.cell? ⟨B0, 0, none⟩ = some (.pointer (some ⟨D, 0, none⟩)) := (HFL.out W (Below.refl _ _)).2.2.1
      gi_wp2_with (first
        | (refine ⟨trivial, ?_⟩; gi_at_call 20; refine (CallsIn.inRound l (callsIn_wide.2 (HRD.out W.drew (PP.newer HX.out.2.2.2.2 (drew_below W))))).mono ?_; rintro e w4 ⟨a4, c4, rfl, hr4, hb4⟩; (have H4 : Hid (w4.ownsRow W.drew.heap.size 5 1 (.slice a4 x.b.length c4) x.b.length (u8l x.b) ∧ Below W.heap.size W w4) := ⟨hr4, (drew_below W).trans hb4⟩); clear hr4 hb4 q0; (have q0 := (HFL.out w4 H4.out.2).2.2.1))
        | (refine ⟨trivial, ?_⟩; gi_at_call 27; refine (CallsIn.inRound l (callsIn_wide.2 (HLN.out w4 (PP.newer HX.out.2.2.2.2 H4.out.2)))).mono ?_; rintro e w5 ⟨rfl, hw5⟩; rw [hw5]; clear hw5))
      clear q0
      obtain ⟨q3, q1, -, f3, r0, r3, s3⟩ := HFL.out w4.drew (H4.out.2.trans ((drew_below w4).mono H4.out.2.size))
      have t4 := HT.out w4.drew _ (Src.later (own_src H4.out.1) (drew_below w4))
      have t5 := HT.out w4.drew _ s3
      clear s3
      refine region_round_tail 24 (by kernel_rfl) (by kernel_rfl) (by kernel_rfl) (still_of_quiet _ _ ?_)
      simp only [List.take_succ_cons, List.take_zero, List.drop_succ_cons, List.drop_zero]
      repeat (first | go_big_quiet_skip | (go_big_quiet_want; go_big_quiet_op; go_big_quiet_on))
      refine wpQuiet_nil ?_
      go_wp2_with fail
      refine ⟨rfl, ?_⟩
      gi_wp2_with fail
      have hb : Below W.heap.size W w4.drew := H4.out.2.trans ((drew_below w4).mono H4.out.2.size)
      obtain ⟨⟨b3, b0, b1, b2⟩, hB⟩ := HBX.out
      obtain ⟨k1, k2, k3, k4, k5⟩ := HBN.out
      have hlen : (((pre ++ [xo]).length : Nat) : Int) = (pre.length : Int) + 1 := by simp
      refine ⟨((keeps_below hb).trans (KeepsOthers.setCell _ _ _)).from _, ⟨by simpa using hb.size, fun q hq => ?_⟩, ⟨pre_next HX.out.2.2.1 xo (by rw [HXO.out]; exact HX.out.2.1), ?_⟩, ⟨Boxed.other ((hb.block B0 b0.lt).trans b0) (by omega) _, Boxed.other ((hb.block B1 b1.lt).trans b1) (by omega) _, Boxed.other ((hb.block B2 b2.lt).trans b2) (by omega) _⟩, ?_⟩
      · have h1 := HFJ.out.lt q hq
        exact (Below.heap_setCell _ _ _ _ (by show q ≠ B3; omega)).trans (hb.block q (by have := HW2.out; omega))
      · rw [hlen]
        have h3 : Boxed w4.drew B3 3 (.int .i64 (pre.length : Int)) := (hb.block B3 b3.lt).trans b3
        exact h3.set _
      · exact (hB.trans (hb.mono hB.size)).setCell (p := ⟨B3, 0, none⟩) (by show w.heap.size ≤ B3; omega) _
    · -- <NE>
      have HNE : Hid (¬ ∃ m, valsF (pre ++ [xo]) = dl.take m) := pre_bad xo hy (by rw [hxo']; exact hxy)
      have hNN : ((tx y.nm).toList == (tx x.nm).toList) = false := by
        rw [tx_list, tx_list]
        have : y.nm ≠ x.nm := fun e => hxy (nd_one hnd hx (List.mem_of_getElem? hy) e.symm)
        simpa using this
      have q2 : W.drew.cell? ⟨B2, 0, none⟩ = some (.bool false) := b2.cell
      have f2 : W.drew.frozen? ⟨B2, 0, none⟩ = false := b2.frozen
      clear m0 m2 m3 m4 b0 b1 b2 b3 hB hx hy hv hnd hps hr hl' hlt hxy q0 hxo'
      gi_wp2_with fail
      refine region_round_tail 31 (by kernel_rfl) (by kernel_rfl) (by kernel_rfl) (still_of_quiet _ _ ?_)
      simp only [List.take_succ_cons, List.take_zero, List.drop_succ_cons, List.drop_zero]
      repeat (first | go_big_quiet_skip | (go_big_quiet_want; go_big_quiet_op; go_big_quiet_on))
      refine wpQuiet_nil ?_
      go_wp2_with fail
      refine ⟨rfl, ?_⟩
      gi_wp2_with fail
      exact ⟨((KeepsOthers.drew W).trans (KeepsOthers.setCell _ _ _)).from _, HNE.out⟩
  case done =>
    rintro Dm xs W hD hxs ⟨⟨hv, b3⟩, ⟨b0, b1, b2⟩, hB⟩ hK
    have hlx : xs.length = dl.length := by (have := congrArg List.length hxs; rwa [valsF_len] at this)
    rw [hlx] at b3
    have hps : PS w0 W D R sy dl [] := PP.newer HQ.out.1 hB
    obtain ⟨la, lc, r0, r1⟩ := hps.rbox
    have HRL : Hid (R < w.heap.size) := by
      obtain ⟨la', lc', r0', -⟩ := HQ.out.1.rbox
      exact World.block_lt_of_cell? _ _ r0'
    have HE : Hid (Calls Try.prog 17 #[.pointer (some ⟨D, 0, none⟩)] W.drew fun e w' => e = .returned (.int .i64 (totW dl : Int)) ∧ Below W.drew.heap.size W.drew w' ∧ PS w0 w' D R sy dl []) := (PS.ends (PP.newer hps (drew_below W)) HQ.out.2.1 HKK.out).1
    have HM : Hid (∀ V, PS w0 V D R sy dl [] → Calls Try.prog 41 #[.pointer (some ⟨R, 0, none⟩)] V fun e w' => e = .returned (.int .i64 (totW dl : Int)) ∧ w' = V) := fun V hV => (PS.ends hV HQ.out.2.1 HKK.out).2.1
    have HS : Hid (∀ V, PS w0 V D R sy dl [] → Calls Try.prog 29 #[.pointer (some ⟨D, 0, none⟩)] V fun e w' => e = .returned (.int .i64 sy) ∧ w' = V) := fun V hV => (PS.ends hV HQ.out.2.1 HKK.out).2.2
    have HFL : Hid (∀ V, Below W.heap.size W V → V.cell? ⟨B3, 0, none⟩ = some (.int .i64 (dl.length : Int)) ∧ V.cell? ⟨B1, 0, none⟩ = some (.pointer (some ⟨R, 0, none⟩)) ∧ V.cell? ⟨B0, 0, none⟩ = some (.pointer (some ⟨D, 0, none⟩)) ∧ V.cell? ⟨R, 0, none⟩ = some (.slice la dl.length lc) ∧ V.cell? ⟨R, 1, none⟩ = some (.int .i64 sy)) := fun V hV => by
      have k : ∀ q t v, Boxed W q t v → Boxed V q t v := fun q t v hb => (hV.block q hb.lt).trans hb
      exact ⟨(k _ _ _ b3).cell, (k _ _ _ b1).cell, (k _ _ _ b0).cell, (hV.cell (World.block_lt_of_cell? _ _ r0)).trans r0, (hV.cell (World.block_lt_of_cell? _ _ r1)).trans r1⟩
    have HB2 : Hid (∀ V, Below W.heap.size W V → Boxed V B2 4 (.bool false) ∧ V.heap[Dm]? = some (.deferred (some [])) ∧ V.frozen? ⟨B2, 0, none⟩ = false) := fun V hV => by
      have h : Boxed V B2 4 (.bool false) := (hV.block B2 b2.lt).trans b2
      exact ⟨h, (hV.block Dm (Array.getElem?_eq_some_iff.1 hK).1).trans hK, h.frozen⟩
    have HBW : Hid (Below w.heap.size w W ∧ W2.heap.size ≤ Dm) := ⟨hB, hD⟩
    have HBD : Hid (Below W.heap.size W W.drew) := drew_below W
    have HSC : Hid (∀ V : World, (V.cell? ⟨B3, 0, none⟩ = some (.int .i64 (dl.length : Int)) ∧ V.cell? ⟨B1, 0, none⟩ = some (.pointer (some ⟨R, 0, none⟩)) ∧ V.cell? ⟨B0, 0, none⟩ = some (.pointer (some ⟨D, 0, none⟩)) ∧ V.cell? ⟨R, 0, none⟩ = some (.slice la dl.length lc) ∧ V.cell? ⟨R, 1, none⟩ = some (.int .i64 sy)) → ((V.setCell ⟨B2, 0, none⟩ (.bool true)).cell? ⟨B3, 0, none⟩ = some (.int .i64 (dl.length : Int)) ∧ (V.setCell ⟨B2, 0, none⟩ (.bool true)).cell? ⟨B1, 0, none⟩ = some (.pointer (some ⟨R, 0, none⟩)) ∧ (V.setCell ⟨B2, 0, none⟩ (.bool true)).cell? ⟨B0, 0, none⟩ = some (.pointer (some ⟨D, 0, none⟩)) ∧ (V.setCell ⟨B2, 0, none⟩ (.bool true)).cell? ⟨R, 0, none⟩ = some (.slice la dl.length lc) ∧ (V.setCell ⟨B2, 0, none⟩ (.bool true)).cell? ⟨R, 1, none⟩ = some (.int .i64 sy))) := fun V ⟨h1, h2, h3, h4, h5⟩ => by
      obtain ⟨k1, k2, k3, k4, k5⟩ := HBN.out
      have hR := HRL.out
      have far : ∀ (q i : Nat), q ≠ B2 → (V.setCell ⟨B2, 0, none⟩ (.bool true)).cell? ⟨q, i, none⟩ = V.cell? ⟨q, i, none⟩ := fun q i hq => World.cell?_of_block (Below.heap_setCell _ _ _ _ hq)
      exact ⟨(far _ _ (by omega)).trans h1, (far _ _ (by omega)).trans h2, (far _ _ (by omega)).trans h3, (far _ _ (by omega)).trans h4, (far _ _ (by omega)).trans h5⟩
    obtain ⟨tw, htw⟩ : ∃ tw : Int, (totW dl : Int) = tw := ⟨_, rfl⟩
    rw [htw] at HE HM
    have d0 := HFL.out W.drew HBD.out
    obtain ⟨q3, q1, q0, q4, q5⟩ := d0
    clear htw hps r0 r1 b0 b1 b2 b3 hB hK hv hxs hlx hD
    go_upto_region 15 with (fail)
    go_region_held3 (fun w' => w'.cell? ⟨B3, 0, none⟩ = some (.int .i64 (dl.length : Int)) ∧ w'.cell? ⟨B1, 0, none⟩ = some (.pointer (some ⟨R, 0, none⟩)) ∧ w'.cell? ⟨B0, 0, none⟩ = some (.pointer (some ⟨D, 0, none⟩)) ∧ w'.cell? ⟨R, 0, none⟩ = some (.slice la dl.length lc) ∧ w'.cell? ⟨R, 1, none⟩ = some (.int .i64 sy)) (first | exact K9 | exact K8 | go_keep) (first | (go_at_call 17; refine HE.out.mono ?_; rintro e w8 ⟨rfl, hb8, hp8⟩; (have H8 : Hid (Below W.heap.size W w8 ∧ PS w0 w8 D R sy dl []) := ⟨HBD.out.trans hb8, hp8⟩); (have K8 := HFL.out w8 H8.out.1); (have f2 := (HB2.out w8 H8.out.1).2.2); (have c2 := (HB2.out w8 H8.out.1).1.cell); (have K9 := HSC.out w8 K8); clear HE hb8 hp8) | (go_at_call 41; refine (HM.out w8 H8.out.2).mono ?_; rintro e w9 ⟨rfl, hw9⟩; rw [hw9]; clear hw9) | (go_at_call 29; refine (HS.out w8 H8.out.2).mono ?_; rintro e w9 ⟨rfl, hw9⟩; rw [hw9]; clear hw9))
    all_goals
      go_wp2_with fail
      obtain ⟨g2, gk, -⟩ := HB2.out w8 H8.out.1
      obtain ⟨k1, k2, k3, k4, k5⟩ := HBN.out
      have z1 := HBE.out.size
      have z2 := HBW.out.2
      have hbw : Below w.heap.size w w8 := HBW.out.1.trans (H8.out.1.mono HBW.out.1.size)
      have gk2 : (w8.setCell ⟨B2, 0, none⟩ (.bool true)).heap[Dm]? = some (.deferred (some [])) := (Below.heap_setCell _ _ _ _ (by show Dm ≠ B2; omega)).trans gk
      have hD8 := (Array.getElem?_eq_some_iff.1 gk).1
      refine ⟨by simp, .inl ⟨_, _, rfl, run_takeDeferred gk2, ?_⟩⟩
      have g3 : Boxed ((w8.setCell ⟨B2, 0, none⟩ (.bool true)).putObj Dm (.deferred none)) B2 4 (.bool true) := (g2.set (.bool true)).kept (grownBy_putObj' _ Dm _) (fun e => by cases e; omega)
      refine ⟨_, results_bool12 rfl g3.cell, rfl, ?_⟩
      exact (hbw.setCell (p := ⟨B2, 0, none⟩) (by show w.heap.size ≤ B2; omega) _).grown (grownBy_putObj' _ Dm _) (by simp; omega) (fun q e => by cases e; omega)
  case stop =>
    rintro D c pre W _ h1 h2 _
    exact absurd h1 h2
theorem alike_any : AlikeOk := alike_k (by decide)
end Go.Proofs.Ytmlbojihjgbdlaa.D

/- Two disks, each beside a model's. -/
namespace Go.Proofs.Ytmlbojihjgbdlaa.D
open Go.RowKit
set_option linter.unusedVariables false
set_option linter.unusedSimpArgs false

variable {w0 w1 w2 : World} {D R C S k : Nat} {s1 s2 s1' s2' sy : Int} {d1 d2 d1' d2' dl : List Fd}
structure S2 (w0 wr : World) (D R C S : Nat) (s1 : Int) (d1 : List Fd) (s2 : Int) (d2 : List Fd) : Prop where
  ex : ∃ F G F2 G2, (DR wr D F s1 d1 ∧ MR wr R G s1 d1 ∧ DR wr C F2 s2 d2 ∧ MR wr S G2 s2 d2) ∧ ((∀ q, F q → w0.heap.size ≤ q) ∧ (∀ q, G q → w0.heap.size ≤ q) ∧ (∀ q, F2 q → w0.heap.size ≤ q) ∧ ∀ q, G2 q → w0.heap.size ≤ q) ∧ (∀ q, F q → ¬ G q) ∧ (∀ q, F2 q → ¬ G2 q) ∧ ∀ q, (F q ∨ G q) → ¬ (F2 q ∨ G2 q)
  bel : Below w0.heap.size w0 wr
theorem S2.swap (h : S2 w0 w1 D R C S s1 d1 s2 d2) : S2 w0 w1 C S D R s2 d2 s1 d1 := by
  obtain ⟨⟨F, G, F2, G2, ⟨h1, h2, h3, h4⟩, ⟨k1, k2, k3, k4⟩, a1, a2, a3⟩, hb⟩ := h
  exact ⟨⟨F2, G2, F, G, ⟨h3, h4, h1, h2⟩, ⟨k3, k4, k1, k2⟩, a2, a1, fun q h2 h1 => a3 q h1 h2⟩, hb⟩
theorem S2.newer (h : S2 w0 w1 D R C S s1 d1 s2 d2) (hb : Below w1.heap.size w1 w2) : S2 w0 w2 D R C S s1 d1 s2 d2 := by
  obtain ⟨⟨F, G, F2, G2, ⟨h1, h2, h3, h4⟩, hk⟩, hbe⟩ := h
  exact ⟨⟨F, G, F2, G2, ⟨h1.newer hb, h2.newer hb, h3.newer hb, h4.newer hb⟩, hk⟩, hbe.trans (hb.mono hbe.size)⟩
/-- The one pair, the other's blocks kept. -/
theorem S2.one (h : S2 w0 w1 D R C S s1 d1 s2 d2) : ∃ ks, PS w0 w1 D R s1 d1 ks ∧ ∀ w2 s1' d1', PS w0 w2 D R s1' d1' ks → S2 w0 w2 D R C S s1' d1' s2 d2 := by
  obtain ⟨⟨F, G, F2, G2, ⟨h1, h2, h3, h4⟩, ⟨k1, k2, k3, k4⟩, a1, a2, a3⟩, hb⟩ := h
  classical
  refine ⟨((List.range w1.heap.size).filter fun q => decide (F2 q ∨ G2 q)).map fun q => (q, w1.heap.getD q (.cells #[] 0)), ⟨⟨F, G, h1, h2, k1, k2, a1, fun p hp => ?_⟩, hb⟩, fun w2 s1' d1' hp => ?_⟩
  · obtain ⟨q, hq, rfl⟩ := List.mem_map.1 hp
    obtain ⟨q1, q2⟩ := List.mem_filter.1 hq
    have q1' := List.mem_range.1 q1
    have q2' : F2 q ∨ G2 q := of_decide_eq_true q2
    refine ⟨?_, fun e => a3 q (.inl e) q2', fun e => a3 q (.inr e) q2'⟩
    dsimp only
    rw [Array.getElem?_eq_getElem q1', Array.getD, dif_pos q1']
    rfl
  · obtain ⟨⟨F', G', j1, j2, j3, j4, j5, j6⟩, jb⟩ := hp
    have hin : ∀ q, F2 q ∨ G2 q → w2.heap[q]? = w1.heap[q]? ∧ ¬ F' q ∧ ¬ G' q := fun q hq => by
      have hl : q < w1.heap.size := hq.elim (h3.lt q) (h4.lt q)
      have := j6 (q, w1.heap.getD q (.cells #[] 0)) (List.mem_map.2 ⟨q, List.mem_filter.2 ⟨List.mem_range.2 hl, decide_eq_true hq⟩, rfl⟩)
      refine ⟨this.1.trans ?_, this.2⟩
      dsimp only
      rw [Array.getElem?_eq_getElem hl, Array.getD, dif_pos hl]
      rfl
    exact ⟨⟨F', G', F2, G2, ⟨j1, j2, h3.at' fun q hq => (hin q (.inl hq)).1, h4.at' fun q hq => (hin q (.inr hq)).1⟩, ⟨j3, j4, k3, k4⟩, j5, a2, fun q hq h2 => hq.elim (hin q h2).2.1 (hin q h2).2.2⟩, jb⟩
theorem S2.ps (h : S2 w0 w1 D R C S s1 d1 s2 d2) : PS w0 w1 D R s1 d1 [] := by
  obtain ⟨ks, h1, -⟩ := h.one
  exact PP.less h1 fun q hq => nomatch hq
/-- A call of the one pair. -/
theorem S2.call {c : Cl} (h : S2 w0 w1 D R C S s1 d1 s2 d2) (i : Inv k s1 d1) (hk : k ≤ 1000) (o : Ord d1) (hc : c.In w0) : Calls Try.prog 11 #[.pointer (some ⟨D, 0, none⟩), .pointer (some ⟨R, 0, none⟩), c.val] w1 fun e w2 => e = .returned (.bool true) ∧ Hid (∃ s1' d1', S2 w0 w2 D R C S s1' d1' s2 d2 ∧ Inv (k + 1) s1' d1' ∧ Ord d1') := by
  obtain ⟨ks, h1, h2⟩ := h.one
  refine (PS.call_any h1 i hk hc).mono ?_
  rintro e w2 ⟨he, s1', d1', k1, k2, k3⟩
  exact ⟨he, s1', d1', h2 w2 s1' d1' k1, k2, k3 o⟩
theorem Inv.cp (i : Inv k sy dl) (hk : k ≤ 1000) : (∀ x ∈ dl, x.b.length ≤ 2000000 ∧ x.ws.length ≤ 2000000) ∧ (∀ x ∈ dl, Byt x.b ∧ x.b.length ≤ 2000000 ∧ x.ws.length ≤ 2000000) ∧ dl.length ≤ 1000000 :=
  ⟨fun x hx => by obtain ⟨a1, a2, a3, a4⟩ := i.each x hx; exact ⟨by omega, by omega⟩, fun x hx => by obtain ⟨a1, a2, a3, a4⟩ := i.each x hx; exact ⟨a1, by omega, by omega⟩, by have := i.len; omega⟩
/-- Both copies are made. -/
theorem PS.copies (h : PS w0 w1 D R sy dl []) (i : Inv k sy dl) (hk : k ≤ 1000) : Calls Try.prog 18 #[.pointer (some ⟨D, 0, none⟩)] w1 fun e w2 => ∃ C, e = .returned (.pointer (some ⟨C, 0, none⟩)) ∧ Calls Try.prog 21 #[.pointer (some ⟨R, 0, none⟩)] w2 fun e w3 => ∃ S, e = .returned (.pointer (some ⟨S, 0, none⟩)) ∧ Hid (S2 w0 w3 D R C S sy dl sy dl) := by
  obtain ⟨⟨F, G, h1, h2, h3, h4, h5, -⟩, hb⟩ := h
  obtain ⟨c1, c2, c3⟩ := i.cp hk
  refine (copy_any h1 c1).mono ?_
  rintro e w2 ⟨rfl, F2, k1, k2, k3⟩
  refine ⟨_, rfl, (rcopy_any (h2.newer k3) c3 c1).mono ?_⟩
  rintro e w3 ⟨rfl, G2, j1, j2, j3⟩
  have hs := hb.size
  have hs2 := k3.size
  have hs3 := j3.size
  refine ⟨_, rfl, ⟨F, G, F2, G2, ⟨(h1.newer k3).newer j3, (h2.newer k3).newer j3, k1.newer j3, j1⟩, ⟨h3, h4, fun q hq => by have := k2 q hq; omega, fun q hq => by have := j2 q hq; omega⟩, h5, fun q hq e => ?_, fun q hq e => ?_⟩, (hb.trans (k3.mono hs)).trans (j3.mono (by omega))⟩
  · have h1 := k1.lt q hq
    have h2 := j2 q e
    omega
  · have hl : q < w1.heap.size := hq.elim (h1.lt q) (h2.lt q)
    rcases e with e | e
    · have := k2 q e; omega
    · have := j2 q e; omega
theorem S2.same (h : S2 w0 w1 D R C S s1 d1 s2 d2) {k' : Nat} (i : Inv k s1 d1) (i' : Inv k' s2 d2) (hk : k ≤ 1000) (hk' : k' ≤ 1000) : Calls Try.prog 19 #[.pointer (some ⟨D, 0, none⟩), .pointer (some ⟨C, 0, none⟩)] w1 fun e w2 => e = .returned (.bool (smB d1 d2)) ∧ Hid (S2 w0 w2 D R C S s1 d1 s2 d2) := by
  have h' := h
  obtain ⟨⟨F, G, F2, G2, ⟨h1, h2, h3, h4⟩, -⟩, -⟩ := h
  refine (same_any h1 h3 (i.cp hk).1 (i'.cp hk').1 (i.cp hk).2.2 (i'.cp hk').2.2).mono ?_
  rintro e w2 ⟨rfl, hb⟩
  exact ⟨rfl, h'.newer hb⟩
theorem S2.rsame (h : S2 w0 w1 D R C S s1 d1 s2 d2) {k' : Nat} (i : Inv k s1 d1) (i' : Inv k' s2 d2) (hk : k ≤ 1000) (hk' : k' ≤ 1000) : Calls Try.prog 22 #[.pointer (some ⟨R, 0, none⟩), .pointer (some ⟨S, 0, none⟩)] w1 fun e w2 => e = .returned (.bool (sameL d1 d2)) ∧ Hid (S2 w0 w2 D R C S s1 d1 s2 d2) := by
  have h' := h
  obtain ⟨⟨F, G, F2, G2, ⟨h1, h2, h3, h4⟩, -⟩, -⟩ := h
  refine (rsame_any h2 h4 (i.cp hk).2.2 (i'.cp hk').2.2 (i.cp hk).2.1 (i'.cp hk').2.1).mono ?_
  rintro e w2 ⟨rfl, hb⟩
  exact ⟨rfl, h'.newer hb⟩
theorem S2.alike (h : S2 w0 w1 D R C S s1 d1 s2 d2) (i : Inv k s1 d1) (hk : k ≤ 1000) (o : Ord d1) : Calls Try.prog 12 #[.pointer (some ⟨D, 0, none⟩), .pointer (some ⟨R, 0, none⟩)] w1 fun e w2 => e = .returned (.bool true) ∧ Hid (S2 w0 w2 D R C S s1 d1 s2 d2) := by
  refine (alike_k (by omega) w0 w1 D R s1 d1 h.ps i o).mono ?_
  rintro e w2 ⟨rfl, hb⟩
  exact ⟨rfl, h.newer hb⟩
/- Both sides' words for 'the same' agree. -/
theorem names_le : ∀ {a b : List (List UInt8)}, a.Nodup → (∀ x ∈ a, x ∈ b) → a.length ≤ b.length
  | [], b, _, _ => Nat.zero_le _
  | x :: a, b, hn, hs => by
    obtain ⟨h1, h2⟩ := List.nodup_cons.1 hn
    have hx := hs x (List.mem_cons_self ..)
    have h3 := names_le (b := b.erase x) h2 fun y hy => (List.mem_erase_of_ne (fun e => h1 (by rw [← e]; exact hy))).2 (hs y (List.mem_cons_of_mem _ hy))
    rw [List.length_erase_of_mem hx] at h3
    have := List.length_pos_of_mem hx
    rw [List.length_cons]
    omega
theorem leB_anti {a b : List UInt8} (h : leB a b = true) (h' : leB b a = true) : a = b := by
  simp only [leB, decide_eq_true_eq] at h h'
  exact List.le_antisymm h h'
theorem srt_eq : ∀ {a b : List Fd}, SrtL (a.map Fd.nm) → SrtL (b.map Fd.nm) → (a.map Fd.nm).Nodup → (b.map Fd.nm).Nodup → (∀ x ∈ a, x ∈ b) → a.length = b.length → a = b
  | [], [], _, _, _, _, _, _ => rfl
  | [], y :: b, _, _, _, _, _, hl => by simp at hl
  | x :: a, [], _, _, _, _, _, hl => by simp at hl
  | x :: a, y :: b, ha, hb, na, nb, hs, hl => by
    rw [List.map_cons, SrtL, List.pairwise_cons] at ha hb
    rw [List.map_cons, List.nodup_cons] at na nb
    have hl' : a.length = b.length := by simpa using hl
    rcases List.mem_cons.1 (hs x (List.mem_cons_self ..)) with e | hx
    · subst e
      rw [srt_eq ha.2 hb.2 na.2 nb.2 (fun z hz => ?_) hl']
      rcases List.mem_cons.1 (hs z (List.mem_cons_of_mem _ hz)) with e | h
      · exact absurd (List.mem_map_of_mem hz) (by rw [e]; exact na.1)
      · exact h
    · have hyx := hb.1 x.nm (List.mem_map_of_mem hx)
      have hne : x.nm ≠ y.nm := fun e => nb.1 (by rw [← e]; exact List.mem_map_of_mem hx)
      have hsub : ∀ z ∈ x :: a, z ∈ b := fun z hz => by
        rcases List.mem_cons.1 (hs z hz) with e | h
        · rcases List.mem_cons.1 hz with e2 | h2
          · exact absurd (by rw [← e2, e]) hne
          · have := ha.1 z.nm (List.mem_map_of_mem h2)
            rw [e] at this
            exact absurd (leB_anti this hyx) hne
        · exact h
      have := names_le (a := (x :: a).map Fd.nm) (b := b.map Fd.nm) (by rw [List.map_cons, List.nodup_cons]; exact na) fun s hs' => by
        obtain ⟨z, hz, rfl⟩ := List.mem_map.1 hs'
        exact List.mem_map_of_mem (hsub z hz)
      simp at this
      omega
theorem sm_same (o1 : Ord d1) (o2 : Ord d2) (n1 : (d1.map Fd.nm).Nodup) (n2 : (d2.map Fd.nm).Nodup) : smB d1 d2 = sameL d1 d2 := by
  cases hs : sameL d1 d2 with
  | true =>
    rw [← sameL_iff.1 hs]
    exact smB_self n1
  | false =>
    cases hb : smB d1 d2 with
    | false => rfl
    | true =>
      exfalso
      unfold smB at hb
      rw [Bool.and_eq_true, decide_eq_true_eq, List.all_eq_true] at hb
      have := srt_eq o1.srt o2.srt n1 n2 (fun x hx => ?_) hb.1
      · rw [sameL_iff.2 this] at hs
        cases hs
      · have h1 := hb.2 x hx
        unfold inB at h1
        split at h1
        · cases h1
        · rename_i y hy
          rw [Bool.and_eq_true, decide_eq_true_eq, decide_eq_true_eq] at h1
          have h2 := lkF_some hy
          have : x = y := fd_ext h2.1.symm h1.1 h1.2
          rw [this]
          exact lk_mem hy
theorem S2.nd (h : S2 w0 w1 D R C S s1 d1 s2 d2) : (d1.map Fd.nm).Nodup ∧ (d2.map Fd.nm).Nodup := by
  obtain ⟨⟨F, G, F2, G2, ⟨h1, h2, h3, h4⟩, -⟩, -⟩ := h
  exact ⟨h1.nd, h3.nd⟩
end Go.Proofs.Ytmlbojihjgbdlaa.D
