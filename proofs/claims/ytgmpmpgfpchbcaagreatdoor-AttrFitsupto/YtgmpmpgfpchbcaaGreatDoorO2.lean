/- Attributes as text. -/
import Derived.Test.YtgmpmpgfpchbcaaGreatDoorO1
import Derived.Test.YtgmpmpgfpchbcaaGreatDoorR2
namespace Go.Proofs.YtgmpmpgfpchbcaaGreatDoor
open Go.RowKit Go.Shelf
set_option linter.unusedVariables false
set_option linter.unusedSimpArgs false
attribute [local go_sem] Oper.semAt_some

/-- No operation defers a call. -/
def noDefer (ops : Array Oper) : Bool := ops.all fun o => match o.op with | .defer _ => false | _ => true
theorem noDefer_at {ops : Array Oper} (h : noDefer ops = true) {i : Nat} {o : Oper} (hi : ops[i]? = some o) : ∀ c, o.op ≠ .defer c := by
  intro c hc
  obtain ⟨hlt, he⟩ := Array.getElem?_eq_some_iff.1 hi
  have := (Array.all_eq_true.1 h) i hlt
  rw [he] at this
  simp [hc] at this
/-- Only on, with what is said of it. -/
def on (R : Act → World → Prop) : Exit → Act → World → Prop := fun e a w => e = .normal ∧ R a w
theorem oper_lift {P : Program} {n l : Nat} {o : Oper} {a : Act} {w : World} {K K' R : Act → World → Prop} {Q' : Exit → Act → World → Prop} (hd : ∀ c, o.op ≠ .defer c) (hk : ∀ a w, K a w → K' a w) (h : o.wp P a w K (on R)) : o.wpIn (Fence.wide.inRound l) n P a w K' Q' := by
  unfold Oper.wp at h
  unfold Oper.wpIn
  refine ⟨fun _ _ => trivial, ?_⟩
  rw [Oper.semAt_plain _ _ _ hd]
  generalize (execOp a.eval o).run P w = r at *
  cases r with
  | ok x w' =>
    cases x <;> simp only [Oper.upon] at h <;> simp only [Oper.uponIn]
    case value u => exact hk _ _ h
    case skip => exact hk _ _ h
    case defer d => exact hk _ _ h
    case enter f args =>
      refine ⟨fun h => by simp [Fence.wide] at h, ?_⟩
      exact (CallsIn.inRound l (callsIn_wide.2 h)).mono fun e w'' he => by
        cases e with
        | returned v => exact hk _ _ he
        | panicked c => exact absurd he.1 (by simp)
        | outgrown => obtain ⟨_, _, h1, _⟩ := he; exact absurd h1 (by simp)
    case row row args =>
      refine ⟨fun h => by simp [Fence.wide] at h, fun c cs _ => ?_⟩
      obtain ⟨v, w2, h1, h2⟩ := h c cs
      exact ⟨v, w2, hk _ _ h1, stepsIn_wide.2 h2⟩
  | halt x w' => cases x <;> simp only [Oper.upon] at h <;> first | exact h.elim | exact absurd h.1 (by simp)
theorem op_lift {P : Program} {ops : Array Oper} {n l i : Nat} {a : Act} {w : World} {K K' R : Act → World → Prop} {Q' : Exit → Act → World → Prop} (hnd : noDefer ops = true) (hk : ∀ a w, K a w → K' a w) (h : wpOp P ops (on R) i K a w) : wpOpIn (Fence.wide.inRound l) n P ops Q' i K' a w := by
  unfold wpOp at h
  unfold wpOpIn
  split
  · rename_i ho; simp only [ho] at h; exact hk _ _ h
  · rename_i o ho
    simp only [ho] at h
    split
    · rename_i hw
      simp only [hw, if_true] at h
      rcases h with h | ⟨_, _, _, h1, _⟩
      · exact oper_lift (noDefer_at hnd ho) hk h
      · exact absurd h1 (by simp)
    · rename_i hw; simp only [hw] at h; exact ⟨fun _ _ => trivial, hk _ _ h⟩
theorem any_lift {P : Program} {md : Region.Mode} {ops : Array Oper} {n l : Nat} {R : Act → World → Prop} {Q' : Exit → Act → World → Prop} (hnd : noDefer ops = true) (hQ : ∀ a w, R a w → Q' .normal a w) : ∀ (fuel : Nat) (listed : Array Bool) (a : Act) (w : World),
    wpAny P md ops (on R) fuel listed a w → wpAnyIn (Fence.wide.inRound l) n P md ops Q' fuel listed a w
  | 0, _, _, _, h => ⟨h.1, hQ _ _ h.2.2⟩
  | fuel + 1, _, _, _, h => ⟨fun h0 => hQ _ _ (h.1 h0).2, fun i hi => op_lift hnd (fun a' w' => any_lift hnd hQ fuel _ a' w') (h.2 i hi)⟩

/-- An attribute as text. -/
def itI (x : At) : List UInt8 := x.1 ++ 61 :: 34 :: (x.2 ++ [34])
def itV (l : List At) : List Value := l.map fun x => .string (tx (itI x))
theorem tx_app (a b : List UInt8) : tx a ++ tx b = tx (a ++ b) := by
  apply ByteArray.ext
  show (tx a ++ tx b).data = (a ++ b).toArray
  rw [ByteArray.data_append]
  simp [tx]
theorem info9 : (Tryz.prog.info? 9).map (fun i => (i.zero, i.size, i.bytes)) = some (some (.string ⟨#[]⟩), 1, 16) := by kernel_rfl
/-- A box with texts of our own. -/
def BoxT (B base : Nat) (pre : List At) (W : World) : Prop := ∃ v, Boxed W B 71 v ∧ W.ownsRow base 9 1 v pre.length (itV pre)
theorem boxT_own (B base : Nat) : Own (fun (pre : List At) W => BoxT B base pre W) := fun s X Y row hs hg hrow => by
  obtain ⟨v, h1, h2⟩ := hs
  refine ⟨v, boxed_own B 71 (fun (_ : Unit) => v) () X Y row h1 hg hrow, own_at h2 fun q hq => ?_⟩
  have hlt := (h2.lt q hq).2
  refine hg.block q hlt (fun e => ?_)
  obtain ⟨o, ho, hc⟩ := hrow q e.symm
  rcases h2.2 with ⟨rfl, _⟩ | ⟨g, cap, cur, rfl, _, hcell, _⟩
  · simp [Value.ownBlock] at hq
  · simp [Value.ownBlock] at hq
    subst hq
    rw [hcell] at ho
    cases ho
    cases hc
/-- An attribute whose text is plain. -/
def Pl (x : At) : Prop := x.1.length ≤ 1000 ∧ x.2.length ≤ 1000 ∧ ∀ c ∈ x.2, c ≠ 34 ∧ c ≠ 92 ∧ c ≠ 10
abbrev Pt := { x : At // Pl x }

set_option maxRecDepth 100000 in
set_option maxHeartbeats 2000000 in
theorem prp_in (n : Nat) (l Bs n₀ cap : Nat) (sa : Option Addr) (ds : List Pt) (hcap : ds.length ≤ cap) (hsm : (ds.length : Int) ≤ 140737488351232) (hg : ∀ b off, sa = some ⟨b, off, none⟩ → ds ≠ [] → b < n₀) (J Jx : List Pt → World → Prop) (W : World) (hA : AbidesFrom W.heap.size J)
    (hY : ∀ pre x W, J pre W → pre.length < ds.length → YieldAt Fence.wide (n - 1) Tryz.prog l #[.string (tx x.1.1), .string (tx x.1.2)] W fun e W' =>
      (e = .returned (.bool true) ∧ J (pre ++ [x]) W' ∧ Below n₀ W W') ∨ (e = .returned (.bool false) ∧ Jx (pre ++ [x]) W'))
    (hn₀ : n₀ ≤ W.heap.size) (hBs : W.cell? ⟨Bs, 0, none⟩ = some (.slice sa ds.length cap)) (hc : Lie W sa (ds.map Subtype.val)) (h0 : J [] W) :
    CallsIn Fence.wide n Tryz.prog 39 #[.func (.yield l) #[] #[], .pointer (some ⟨Bs, 0, none⟩)] W fun e W' => (∃ v, e = .returned v) ∧
      ((∃ ys, ys = ds ∧ J ys W') ∨ (∃ pre : List Pt, (∃ m, pre = ds.take m) ∧ Jx pre W')) := by
  refine callsIn_of_wp Tryz.func39 rfl trivial ?_ rfl
  simp only [Tryz.ntmps39, List.size_toArray, List.length_cons, List.length_nil, Nat.reduceAdd, Nat.reduceSub, Array.replicate_succ, Array.replicate_zero, List.push_toArray, List.append_toArray, List.nil_append, List.cons_append]
  gi_wp2
  gi_loopw [4, 7] (fun x s wr => ∃ k : Nat, k ≤ ds.length ∧ s = .int .i64 k ∧ J (ds.take k) wr ∧ Below n₀ W wr) (fun x s _ => ds.length - (intOf s).toNat)
  case atStart => exact ⟨0, by omega, rfl, h0, Below.refl _ _⟩
  case round =>
    obtain ⟨k, hk, rfl, hJs, hnx⟩ := hrel
    by_cases hlt : k < ds.length
    · have HX : Hid (ds[k]? = some ds[k]) := List.getElem?_eq_getElem hlt
      obtain ⟨x, hx⟩ : ∃ x, ds[k] = x := ⟨_, rfl⟩
      obtain ⟨b, off, hsa, c0, c1⟩ := hc k x.1 (by rw [List.getElem?_map, HX.out, hx]; rfl)
      have hbn : b < n₀ := hg b off hsa (fun e => by rw [e] at hlt; simp at hlt)
      subst hsa
      have x0 : wr.cell? ⟨b, off + k * 2, none⟩ = some (.string (tx x.1.1)) := (hnx.cell (p := ⟨b, off + k * 2, none⟩) hbn).trans c0
      have x1 : wr.cell? ⟨b, off + k * 2 + 1, none⟩ = some (.string (tx x.1.2)) := (hnx.cell (p := ⟨b, off + k * 2 + 1, none⟩) hbn).trans c1
      have HTK : Hid (ds.take k ++ [x] = ds.take (k + 1)) := by show _ = _; rw [← hx, List.take_succ_eq_append_getElem hlt]
      have HTL : Hid ((ds.take k).length < ds.length) := by show _ < _; simp; omega
      have HJ : Hid (J (ds.take k) wr) := hJs
      have i1 : (k : Int) < (ds.length : Int) := by omega
      have k1 : (k : Int) ≤ 140737488351232 := by omega
      have k0 : (0 : Int) ≤ (k : Int) := by omega
      have hcap' : (ds.length : Int) ≤ (cap : Int) := by omega
      have hJV : J (ds.take k) (wr.alloc (.cells #[.string (tx x.1.1), .string (tx x.1.2)] 44)) := hA _ _ _ _ HJ.out (grown_alloc wr _) (fun r e => by cases e)
      have HBV : Hid (Below n₀ W (wr.alloc (.cells #[.string (tx x.1.1), .string (tx x.1.2)] 44))) := hnx.alloc (Nat.le_trans hn₀ hnx.size) _
      obtain ⟨fn, tmps, assign, body, hy, hR⟩ := hY _ x _ hJV HTL.out
      clear hx hJs hJV c0 c1
      gi_wp2
      refine ⟨fun h => by simp [Fence.wide] at h, hR.mono ?_⟩
      rintro e W3 (⟨rfl, hJ3, hk3⟩ | ⟨rfl, hJx3⟩)
      · gi_wp2
        go_roundw
        case rel =>
          refine ⟨k + 1, by omega, by go_num, ?_, HBV.out.trans hk3⟩
          rw [← HTK.out]
          exact hJ3
        case measure => simp [intOf]; omega
      · gi_wp2
        refine bodyPost_ret (results_none rfl _ _ _) rfl ?_
        exact ⟨⟨_, rfl⟩, .inr ⟨_, ⟨k + 1, HTK.out⟩, hJx3⟩⟩
    · have hkk : k = ds.length := by omega
      have HKK : Hid (k = ds.length) := hkk
      have i1 : ¬ ((k : Int) < (ds.length : Int)) := by omega
      clear hkk hlt
      gi_wp2
      go_end0
      rw [HKK.out, List.take_length] at hJs
      first | exact ⟨⟨_, rfl⟩, .inl hJs⟩ | exact ⟨⟨_, rfl⟩, .inl ⟨_, rfl, hJs⟩⟩
theorem prp_seq (n Bs n₀ cap : Nat) (sa : Option Addr) (ds : List Pt) (w : World) (hsm : (ds.length : Int) ≤ 140737488351232) (hBs : Bs < w.heap.size) (hn₀ : n₀ ≤ w.heap.size) (hc : w.cell? ⟨Bs, 0, none⟩ = some (.slice sa ds.length cap)) (hcap : ds.length ≤ cap) (hl : Lie w sa (ds.map Subtype.val)) (hg : ∀ b off, sa = some ⟨b, off, none⟩ → ds ≠ [] → b < n₀) :
    SeqStopsK Fence.wide n Tryz.prog 39 #[.pointer (some ⟨Bs, 0, none⟩)] (fun x : Pt => #[.string (tx x.1.1), .string (tx x.1.2)]) (Below n₀) (fun ys => ys = ds) (fun pre => ∃ m, pre = ds.take m) ds.length w := by
  intro l J Jx W hW hA _ hY h0
  refine prp_in n l Bs n₀ cap sa ds hcap hsm hg J Jx W hA hY (Nat.le_trans hn₀ hW.size) ((hW.cell (p := ⟨Bs, 0, none⟩) hBs).trans hc) (fun i x hx => ?_) h0
  obtain ⟨b, off, h1, h2, h3⟩ := hl i x hx
  have hb : b < w.heap.size := World.block_lt_of_cell? w _ h2
  exact ⟨b, off, h1, (hW.cell (p := ⟨b, off + i * 2, none⟩) hb).trans h2, (hW.cell (p := ⟨b, off + i * 2 + 1, none⟩) hb).trans h3⟩

theorem step_call {P : Program} {ops : Array Oper} {o : Oper} {a : Act} {w : World} {K : Act → World → Prop} {Q : Exit → Act → World → Prop} {E : Prop} (hgd : o.guard = none) (f : Nat) (x : Operand) (t : TypeId) (ho : o.op = .call { callee := .value (.func f), args := #[x], argTypes := #[t] })
    (v : Value) (hx : a.eval x = v) (ent : ∀ args w, (callFunc f args).run P w = .ok (.enter f args) w) (h : Calls P f #[v] w fun e w' => ∃ r, e = .returned r ∧ K (a.put o.dst r) w') :
    if Region.wanted o (yielded ops a.tmps) = true then Oper.wp P o a w K Q else E := by
  have hw : Region.wanted o (yielded ops a.tmps) = true := by simp [Region.wanted, hgd]
  rw [if_pos hw]
  unfold Oper.wp
  have hf : a.eval (.func f) = .func (.func f) #[] #[] := rfl
  simp only [execOp, ho, resolve, invoke, hf, hx, List.map_toArray, List.map_cons, List.map_nil, Sem.run_bind, Sem.run_pure, Result.andThen_ok, Array.append_empty, Array.empty_append, ent, Oper.upon, Deferred.ofValue]
  refine h.mono ?_
  rintro e w' ⟨r, rfl, hk⟩
  exact hk

theorem text_fin {w W w1 w9 : World} {pre : List Pt} {x : Pt} {n k k4 g9 c9 : Nat} {a4 : Option Addr} (hI : Boxed W w.heap.size 71 (.slice a4 k k4) ∧ W.ownsRow (w.heap.size + 1) 9 1 (.slice a4 k k4) k (itV (pre.map Subtype.val)) ∧ Below w.heap.size w W) (hkk : (pre.map Subtype.val).length = k)
    (hb : Below W.heap.size W w1) (ho : w9.ownsRow (w.heap.size + 1) 9 1 (.slice (some ⟨g9, 0, none⟩) (k + 1) c9) (k + 1) (itV (pre.map Subtype.val) ++ [.string (tx (itI x.1))])) (hg : (w1.alloc (.cells #[.string (tx (itI x.1))] 9)).grownBy w9 (Value.slice a4 k k4).ownBlock) :
    KeepsFrom n W (w9.setCell ⟨w.heap.size, 0, none⟩ (.slice (some ⟨g9, 0, none⟩) (k + 1) c9)) ∧ Below w.heap.size W (w9.setCell ⟨w.heap.size, 0, none⟩ (.slice (some ⟨g9, 0, none⟩) (k + 1) c9)) ∧ (BoxT w.heap.size (w.heap.size + 1) ((pre ++ [x]).map Subtype.val) (w9.setCell ⟨w.heap.size, 0, none⟩ (.slice (some ⟨g9, 0, none⟩) (k + 1) c9)) ∧ Below w.heap.size w (w9.setCell ⟨w.heap.size, 0, none⟩ (.slice (some ⟨g9, 0, none⟩) (k + 1) c9))) := by
  obtain ⟨i1, i2, i3⟩ := hI
  have hBlt : w.heap.size < W.heap.size := (Array.getElem?_eq_some_iff.1 i1).1
  have hs1 := hb.size
  have hbg : Below w.heap.size W w9 := ((hb.mono i3.size).alloc (by omega) _).trans ⟨hg.os, hg.tape, hg.output, hg.size, fun q hq => hg.block q (by simp; omega) (fun e => by have := (i2.lt _ e.symm).1; omega)⟩
  have hb9 : Boxed w9 w.heap.size 71 (.slice a4 k k4) := (hg.block w.heap.size (by simp; omega) (fun e => by have := (i2.lt _ e.symm).1; omega)).trans ((Below.heap_alloc _ _ _ (by omega)).trans ((hb.block _ hBlt).trans i1))
  have hbs : Below w.heap.size W (w9.setCell ⟨w.heap.size, 0, none⟩ (.slice (some ⟨g9, 0, none⟩) (k + 1) c9)) := hbg.setCell (p := ⟨w.heap.size, 0, none⟩) (Nat.le_refl _) _
  refine ⟨((((keeps_below hb).trans (KeepsOthers.alloc _ _)).trans (keeps_grown hg (fun r e => ?_))).trans (KeepsOthers.setCell _ _ _)).from _, hbs, ⟨_, hb9.set _, ?_⟩, i3.trans hbs⟩
  · right
    rcases i2.2 with ⟨h, _⟩ | ⟨g, cap, cur, h, _, hcell, _⟩
    · rw [h] at e; cases e
    · rw [h] at e
      cases e
      have hl := (Array.getElem?_eq_some_iff.1 hcell).1
      exact ⟨cur, 9, (0, 0), (Below.heap_alloc _ _ _ (by show g < _; omega)).trans ((hb.block _ hl).trans hcell)⟩
  · rw [show ((pre ++ [x]).map Subtype.val).length = k + 1 by rw [List.map_append, List.length_append, hkk]; rfl, show itV ((pre ++ [x]).map Subtype.val) = itV (pre.map Subtype.val) ++ [.string (tx (itI x.1))] by simp [itV]]
    exact own_at ho fun q hq => Below.heap_setCell _ _ _ _ (by show q ≠ w.heap.size; have := (ho.lt q hq).1; omega)
set_option maxRecDepth 100000 in
set_option maxHeartbeats 8000000 in
theorem text_plain (sa : Option Addr) (ca : Nat) (ds : List Pt) (w : World) (T : List UInt8) (hl : Lie w sa (ds.map Subtype.val)) (hcap : ds.length ≤ ca) (hsm : ds.length ≤ 100) (hj : ∀ v W, W.ownsRow (w.heap.size + 1) 9 1 v ds.length (itV (ds.map Subtype.val)) → Below w.heap.size w W → Calls Tryz.prog 38 #[v] W fun e w' => e = .returned (.string (tx T)) ∧ Below W.heap.size W w') :
    Calls Tryz.prog 19 #[.slice sa ds.length ca] w fun e w' => e = .returned (.string (tx T)) ∧ Below w.heap.size w w' := by
  obtain ⟨i0, hi, hz0, hz1, hz2⟩ := info_parts info9
  refine (callsIn_wide (n := 5)).1 ?_
  refine callsIn_of_wp_marks Tryz.func19 rfl trivial ?_ rfl
  simp only [Tryz.ntmps19, List.size_toArray, List.length_cons, List.length_nil, Nat.reduceAdd, Nat.reduceSub, Array.replicate_succ, Array.replicate_zero, List.push_toArray, List.append_toArray, List.nil_append, List.cons_append]
  have HPR : Hid (∀ W, Calls Tryz.prog 20 #[.slice sa ds.length ca] W fun e w' => e = .returned (.func (.func 39) #[] #[.pointer (some ⟨W.heap.size, 0, none⟩)]) ∧ w' = W.alloc (.cells #[.slice sa ds.length ca] 22)) := fun W => pairs_any sa ds.length ca W
  gi_wp2_with (refine ⟨trivial, ?_⟩; gi_at_call 20; refine (callsIn_wide.2 (HPR.out _)).mono ?_; rintro e w' ⟨rfl, rfl⟩)
  obtain ⟨W0, hW0⟩ : ∃ W0, (w.alloc (.cells #[.slice none 0 0] 71)).alloc (.cells #[.slice sa ds.length ca] 22) = W0 := ⟨_, rfl⟩
  have q0 : Boxed W0 w.heap.size 71 (.slice none 0 0) := by
    rw [← hW0]
    exact (Below.heap_alloc _ _ _ (by simp)).trans (Go.heap_alloc_new _ _)
  have q1 : W0.cell? ⟨w.heap.size + 1, 0, none⟩ = some (.slice sa ds.length ca) := by
    rw [← hW0]
    have h := (Boxed.new (w.alloc (.cells #[.slice none 0 0] 71)) 22 (.slice sa ds.length ca)).cell
    simp only [World.size_alloc] at h
    exact h
  have hB0 : Below w.heap.size w W0 := by
    rw [← hW0]
    exact ((Below.refl _ w).alloc (Nat.le_refl _) _).alloc (by simp) _
  have hsz : W0.heap.size = w.heap.size + 2 := by rw [← hW0]; simp
  show Code.wpIn _ _ _ _ _ _ ((w.alloc (.cells #[.slice none 0 0] 71)).alloc (.cells #[.slice sa ds.length ca] 22))
  rw [hW0]
  clear hW0 HPR
  have hgd : ∀ b off, sa = some ⟨b, off, none⟩ → ds ≠ [] → b < w.heap.size := fun b off e hne => by
    obtain ⟨z, hz⟩ := (nil_or (ds.map Subtype.val)).resolve_left (fun e => hne (List.map_eq_nil_iff.1 e))
    obtain ⟨b', o', e1, e2, _⟩ := hl 0 z hz
    rw [e] at e1
    cases e1
    exact World.block_lt_of_cell? w _ e2
  have hl0 : Lie W0 sa (ds.map Subtype.val) := fun i x hx => by
    obtain ⟨b, off, h1, h2, h3⟩ := hl i x hx
    have hb : b < w.heap.size := World.block_lt_of_cell? w _ h2
    exact ⟨b, off, h1, (hB0.cell (p := ⟨b, off + i * 2, none⟩) hb).trans h2, (hB0.cell (p := ⟨b, off + i * 2 + 1, none⟩) hb).trans h3⟩
  have HJ : Hid (∀ v W, W.ownsRow (w.heap.size + 1) 9 1 v ds.length (itV (ds.map Subtype.val)) → Below w.heap.size w W → Calls Tryz.prog 38 #[v] W fun e w' => e = .returned (.string (tx T)) ∧ Below W.heap.size W w') := hj
  clear hj
  refine wpIn_rangeFunc_ownH rfl (by omega) (gf := 39) (lb := #[.pointer (some ⟨w.heap.size + 1, 0, none⟩)]) rfl trivial (enters_of Tryz.func39 (by kernel_rfl) rfl)
    (prp_seq _ (w.heap.size + 1) w.heap.size ca sa ds W0 (by omega) (by omega) (by omega) q1 hcap hl0 hgd) belowK_t (belowK_b (by omega)) (Below.refl _ _) (fun _ => rfl)
    (fun (pre : List Pt) W => BoxT w.heap.size (w.heap.size + 1) (pre.map Subtype.val) W ∧ Below w.heap.size w W)
    (fun _ _ _ => False)
    (OwnFrom.and (Own.from (fun (pre : List Pt) X Y row hs hg hr => boxT_own w.heap.size (w.heap.size + 1) (pre.map Subtype.val) X Y row hs hg hr) _) (ownFrom_below (Nat.le_refl _) (by omega)))
    (fun _ _ _ _ _ hs _ _ => hs)
    ⟨⟨_, q0, World.ownsRow_nil _ _ _ _⟩, hB0⟩
    (fun x a' W => a' = { tmps := #[.slice sa ds.length ca, undef, .string ⟨#[]⟩, .pointer (some ⟨w.heap.size, 0, none⟩), .string (tx x.1.1), .string (tx x.1.2), .slice sa ds.length ca, .func (.func 39) #[] #[.pointer (some ⟨w.heap.size + 1, 0, none⟩)], .string (tx x.1.1), .string (tx x.1.2), undef, undef, undef, undef, undef, undef, undef, undef, undef, undef], defers := [] })
    (fun x a' _ X Y row hs hg hr => hs)
    ?assign ?body ?done ?stop
  case assign =>
    rintro l pre x W K hI hK
    have HK := hK
    clear hK q1 hgd hl0 hl
    gi_wp2_with fail
    exact HK _ _ (KeepsFrom.refl _ _) (Below.refl _ _) hI rfl
  case body =>
    rintro l pre x a' W hl' ⟨r, hr⟩ ⟨⟨v, hbx, hown⟩, hB1⟩ rfl hlt
    obtain ⟨a4, k4, e4⟩ := own_slice hown
    subst e4
    obtain ⟨⟨xk, xv⟩, hx1, hx2, hx3⟩ := x
    have HI : Hid (Boxed W w.heap.size 71 (.slice a4 (pre.map Subtype.val).length k4) ∧ W.ownsRow (w.heap.size + 1) 9 1 (.slice a4 (pre.map Subtype.val).length k4) (pre.map Subtype.val).length (itV (pre.map Subtype.val)) ∧ Below w.heap.size w W) := ⟨hbx, hown, hB1⟩
    obtain ⟨k, hk⟩ : ∃ k, (pre.map Subtype.val).length = k := ⟨_, rfl⟩
    have hk100 : k < 100 := by rw [← hk, List.length_map]; omega
    rw [hk] at HI
    have c0 : W.drew.cell? ⟨w.heap.size, 0, none⟩ = some (.slice a4 k k4) := HI.out.1.cell
    have f0 : W.drew.frozen? ⟨w.heap.size, 0, none⟩ = false := HI.out.1.frozen
    have HQ : Hid (Calls Tryz.prog 37 #[.string (tx xv)] W.drew fun e w' => e = .returned (.string (tx (34 :: (xv ++ [34])))) ∧ Below W.heap.size W.drew w') := quote_plain xv W.drew hx2 hx3
    have HKK : Hid ((pre.map Subtype.val).length = k) := hk
    clear hbx hown hB1 hr hl' hgd hl0 hl q1 q0 hB0 hcap hk hlt
    gi_wp2_with fail
    refine wpIn_region_any (by kernel_rfl) (any_lift (by kernel_rfl) (R := fun a' w' => ownPostG W0.heap.size (Below w.heap.size) (fun (pre : List Pt) W => BoxT w.heap.size (w.heap.size + 1) (pre.map Subtype.val) W ∧ Below w.heap.size w W) (fun _ _ _ => False) (pre ++ [⟨(xk, xv), hx1, hx2, hx3⟩]) W .normal a' w') (fun _ _ h => h) _ _ _ _ ?_)
    change wpAny _ _ _ _ _ _ _ (World.drew _)
    have hap : tx xk ++ (⟨#[61]⟩ : ByteArray) = tx (xk ++ [61]) := tx_app xk [61]
    have hap2 : tx (xk ++ [61]) ++ tx (34 :: (xv ++ [34])) = tx (itI (xk, xv)) := by
      rw [tx_app]
      unfold itI
      simp
    have HBL : Hid (w.heap.size < W.heap.size) := (Array.getElem?_eq_some_iff.1 HI.out.1).1
    have s1 : (tx xk).size ≤ 9223372036854775806 := by rw [tx_size]; have : xk.length ≤ 1000 := hx1; omega
    have s2 : (tx (xk ++ [61])).size ≤ 9223372036854774000 := by rw [tx_size]; have : xk.length ≤ 1000 := hx1; simp; omega
    have s3 : (tx (34 :: (xv ++ [34]))).size ≤ 1002 := by rw [tx_size]; have : xv.length ≤ 1000 := hx2; simp; omega
    have s4 : (tx (xk ++ [61])).size + (tx (34 :: (xv ++ [34]))).size ≤ 9223372036854775807 := by omega
    refine wpAny_take (i := 1) (v := .string (tx xk)) rfl (by kernel_rfl) (by kernel_rfl) (by kernel_rfl) (fun _ _ _ h => absurd h.1 (by simp)) (Or.inl ⟨by rfl, by intro w; go_simp⟩) ?_
    refine wpAny_take (i := 2) (v := .string (tx (xk ++ [61]))) rfl (by kernel_rfl) (by kernel_rfl) (by kernel_rfl) (fun _ _ _ h => absurd h.1 (by simp)) (Or.inl ⟨by rfl, by intro w; go_simp⟩) ?_
    refine wpAny_take (i := 3) (v := .string (tx xv)) rfl (by kernel_rfl) (by kernel_rfl) (by kernel_rfl) (fun _ _ _ h => absurd h.1 (by simp)) (Or.inl ⟨by rfl, by intro w; go_simp⟩) ?_
    simp only [Act.put, List.setIfInBounds_toArray, List.set_cons_succ, List.set_cons_zero]
    refine wpAny_ready (rs := [0, 4]) (by kernel_rfl) (by simp) ?_
    refine AllReady.cons rfl (fun K hK => ?_) (AllReady.cons rfl (fun K hK => ?_) AllReady.nil)
    · skip
      go_simp
      refine hK _ _ ?_
      clear hK K
      refine wpAny_ready (rs := [4]) (by kernel_rfl) (by simp) ?_
      refine AllReady.cons rfl (fun K hK => ?_) AllReady.nil
      refine step_call rfl 37 _ 9 rfl (.string (tx xv)) rfl (enters_of Tryz.func37 (by kernel_rfl) rfl) (HQ.out.mono ?_)
      rintro e w1 ⟨rfl, hb1⟩
      refine ⟨_, rfl, hK _ _ ?_⟩
      have HB1 : Hid (Below W.heap.size W w1) := ⟨hb1.os, hb1.tape, hb1.output, hb1.size, fun q hq => hb1.block q hq⟩
      have c1 : w1.cell? ⟨w.heap.size, 0, none⟩ = some (.slice a4 k k4) := (hb1.cell (p := ⟨w.heap.size, 0, none⟩) HBL.out).trans HI.out.1.cell
      have HOW : Hid (w1.ownsRow (w.heap.size + 1) 9 1 (.slice a4 k k4) k (itV (pre.map Subtype.val))) := own_at HI.out.2.1 fun q hq => hb1.block q (HI.out.2.1.lt q hq).2
      have HS1 : Hid (w.heap.size + 1 ≤ w1.heap.size) := Nat.le_trans HBL.out hb1.size
      clear hb1 hK K
      simp only [Act.put, List.setIfInBounds_toArray, List.set_cons_succ, List.set_cons_zero]
      refine wpAny_take (i := 5) (v := .string (tx (itI (xk, xv)))) rfl (by kernel_rfl) (by kernel_rfl) (by kernel_rfl) (fun _ _ _ h => absurd h.1 (by simp)) (Or.inl ⟨by rfl, by intro w; go_simp⟩) ?_
      simp only [Act.put, List.setIfInBounds_toArray, List.set_cons_succ, List.set_cons_zero]
      refine wpAny_ready (rs := [6]) (by kernel_rfl) (by simp) ?_
      refine AllReady.cons rfl (fun K hK => ?_) AllReady.nil
      go_simp
      refine hK _ _ ?_
      clear hK K
      refine wpAny_ready (rs := [7]) (by kernel_rfl) (by simp) ?_
      refine AllReady.cons rfl (fun K hK => ?_) AllReady.nil
      refine step_append_lies _ rfl (.tmp 10) (.tmp 16) 71 rfl (w.heap.size + 1) 9 i0 (.string ⟨#[]⟩) 1 16 Tryz.underlying71 hi hz0 hz1 hz2 rfl (by decide) (.slice a4 k k4) k (itV (pre.map Subtype.val)) rfl (HOW.out.alloc _) ⟨w1.heap.size, 0, none⟩ 1 1 [.string (tx (itI (xk, xv)))] rfl rfl (World.news_of_block (Go.heap_alloc_new _ _)) (by intro u hu; simp at hu; rw [hu]; rfl) (by decide) (by unfold maxLen; omega) (by omega) (by have := HS1.out; simp; omega) (w1.heap.size + 1) (by simp) ?_
      intro g9 c9 w9 ho9 hg9 _ _
      refine hK _ _ ?_
      have HO9 : Hid (w9.ownsRow (w.heap.size + 1) 9 1 (.slice (some ⟨g9, 0, none⟩) (k + 1) c9) (k + 1) (itV (pre.map Subtype.val) ++ [.string (tx (itI (xk, xv)))]) ∧ (w1.alloc (.cells #[.string (tx (itI (xk, xv)))] 9)).grownBy w9 (Value.slice a4 k k4).ownBlock) := ⟨ho9, hg9⟩
      have hb9 : Boxed w9 w.heap.size 71 (.slice a4 k k4) := (hg9.block w.heap.size (by have := HS1.out; simp; omega) (fun e => by have := (HI.out.2.1.lt _ e.symm).1; omega)).trans ((Below.heap_alloc _ _ _ (by have := HS1.out; omega)).trans ((HB1.out.block _ HBL.out).trans HI.out.1))
      have c9' := hb9.cell
      have f9 := hb9.frozen
      clear ho9 hg9 hb9 hK K
      simp only [Act.put, List.setIfInBounds_toArray, List.set_cons_succ, List.set_cons_zero]
      refine wpAny_ready (rs := [8]) (by kernel_rfl) (by simp) ?_
      refine AllReady.cons rfl (fun K hK => ?_) AllReady.nil
      go_simp
      refine hK _ _ ?_
      clear hK K
      refine wpAny_done (by kernel_rfl) ⟨rfl, ?_⟩ _
      exact text_fin (x := ⟨(xk, xv), hx1, hx2, hx3⟩) HI.out HKK.out HB1.out HO9.out.1 HO9.out.2
    · skip
      refine step_call rfl 37 _ 9 rfl (.string (tx xv)) rfl (enters_of Tryz.func37 (by kernel_rfl) rfl) (HQ.out.mono ?_)
      rintro e w1 ⟨rfl, hb1⟩
      refine ⟨_, rfl, hK _ _ ?_⟩
      have HB1 : Hid (Below W.heap.size W w1) := ⟨hb1.os, hb1.tape, hb1.output, hb1.size, fun q hq => hb1.block q hq⟩
      have c1 : w1.cell? ⟨w.heap.size, 0, none⟩ = some (.slice a4 k k4) := (hb1.cell (p := ⟨w.heap.size, 0, none⟩) HBL.out).trans HI.out.1.cell
      have HOW : Hid (w1.ownsRow (w.heap.size + 1) 9 1 (.slice a4 k k4) k (itV (pre.map Subtype.val))) := own_at HI.out.2.1 fun q hq => hb1.block q (HI.out.2.1.lt q hq).2
      have HS1 : Hid (w.heap.size + 1 ≤ w1.heap.size) := Nat.le_trans HBL.out hb1.size
      clear hb1 hK K
      simp only [Act.put, List.setIfInBounds_toArray, List.set_cons_succ, List.set_cons_zero]
      refine wpAny_take (i := 5) (v := .string (tx (itI (xk, xv)))) rfl (by kernel_rfl) (by kernel_rfl) (by kernel_rfl) (fun _ _ _ h => absurd h.1 (by simp)) (Or.inl ⟨by rfl, by intro w; go_simp⟩) ?_
      simp only [Act.put, List.setIfInBounds_toArray, List.set_cons_succ, List.set_cons_zero]
      refine wpAny_ready (rs := [0, 6]) (by kernel_rfl) (by simp) ?_
      refine AllReady.cons rfl (fun K hK => ?_) (AllReady.cons rfl (fun K hK => ?_) AllReady.nil)
      · skip
        go_simp
        refine hK _ _ ?_
        clear hK K
        refine wpAny_ready (rs := [6]) (by kernel_rfl) (by simp) ?_
        refine AllReady.cons rfl (fun K hK => ?_) AllReady.nil
        go_simp
        refine hK _ _ ?_
        clear hK K
        refine wpAny_ready (rs := [7]) (by kernel_rfl) (by simp) ?_
        refine AllReady.cons rfl (fun K hK => ?_) AllReady.nil
        refine step_append_lies _ rfl (.tmp 10) (.tmp 16) 71 rfl (w.heap.size + 1) 9 i0 (.string ⟨#[]⟩) 1 16 Tryz.underlying71 hi hz0 hz1 hz2 rfl (by decide) (.slice a4 k k4) k (itV (pre.map Subtype.val)) rfl (HOW.out.alloc _) ⟨w1.heap.size, 0, none⟩ 1 1 [.string (tx (itI (xk, xv)))] rfl rfl (World.news_of_block (Go.heap_alloc_new _ _)) (by intro u hu; simp at hu; rw [hu]; rfl) (by decide) (by unfold maxLen; omega) (by omega) (by have := HS1.out; simp; omega) (w1.heap.size + 1) (by simp) ?_
        intro g9 c9 w9 ho9 hg9 _ _
        refine hK _ _ ?_
        have HO9 : Hid (w9.ownsRow (w.heap.size + 1) 9 1 (.slice (some ⟨g9, 0, none⟩) (k + 1) c9) (k + 1) (itV (pre.map Subtype.val) ++ [.string (tx (itI (xk, xv)))]) ∧ (w1.alloc (.cells #[.string (tx (itI (xk, xv)))] 9)).grownBy w9 (Value.slice a4 k k4).ownBlock) := ⟨ho9, hg9⟩
        have hb9 : Boxed w9 w.heap.size 71 (.slice a4 k k4) := (hg9.block w.heap.size (by have := HS1.out; simp; omega) (fun e => by have := (HI.out.2.1.lt _ e.symm).1; omega)).trans ((Below.heap_alloc _ _ _ (by have := HS1.out; omega)).trans ((HB1.out.block _ HBL.out).trans HI.out.1))
        have c9' := hb9.cell
        have f9 := hb9.frozen
        clear ho9 hg9 hb9 hK K
        simp only [Act.put, List.setIfInBounds_toArray, List.set_cons_succ, List.set_cons_zero]
        refine wpAny_ready (rs := [8]) (by kernel_rfl) (by simp) ?_
        refine AllReady.cons rfl (fun K hK => ?_) AllReady.nil
        go_simp
        refine hK _ _ ?_
        clear hK K
        refine wpAny_done (by kernel_rfl) ⟨rfl, ?_⟩ _
        exact text_fin (x := ⟨(xk, xv), hx1, hx2, hx3⟩) HI.out HKK.out HB1.out HO9.out.1 HO9.out.2
      · skip
        go_simp
        refine hK _ _ ?_
        clear hK K
        have c2 : (w1.alloc (.cells #[.string (tx (itI (xk, xv)))] 9)).cell? ⟨w.heap.size, 0, none⟩ = some (.slice a4 k k4) := (World.cell?_of_block (a := ⟨w.heap.size, 0, none⟩) (Below.heap_alloc _ _ _ (show w.heap.size < w1.heap.size from HS1.out))).trans c1
        refine wpAny_ready (rs := [0]) (by kernel_rfl) (by simp) ?_
        refine AllReady.cons rfl (fun K hK => ?_) AllReady.nil
        go_simp
        refine hK _ _ ?_
        clear hK K
        refine wpAny_ready (rs := [7]) (by kernel_rfl) (by simp) ?_
        refine AllReady.cons rfl (fun K hK => ?_) AllReady.nil
        refine step_append_lies _ rfl (.tmp 10) (.tmp 16) 71 rfl (w.heap.size + 1) 9 i0 (.string ⟨#[]⟩) 1 16 Tryz.underlying71 hi hz0 hz1 hz2 rfl (by decide) (.slice a4 k k4) k (itV (pre.map Subtype.val)) rfl (HOW.out.alloc _) ⟨w1.heap.size, 0, none⟩ 1 1 [.string (tx (itI (xk, xv)))] rfl rfl (World.news_of_block (Go.heap_alloc_new _ _)) (by intro u hu; simp at hu; rw [hu]; rfl) (by decide) (by unfold maxLen; omega) (by omega) (by have := HS1.out; simp; omega) (w1.heap.size + 1) (by simp) ?_
        intro g9 c9 w9 ho9 hg9 _ _
        refine hK _ _ ?_
        have HO9 : Hid (w9.ownsRow (w.heap.size + 1) 9 1 (.slice (some ⟨g9, 0, none⟩) (k + 1) c9) (k + 1) (itV (pre.map Subtype.val) ++ [.string (tx (itI (xk, xv)))]) ∧ (w1.alloc (.cells #[.string (tx (itI (xk, xv)))] 9)).grownBy w9 (Value.slice a4 k k4).ownBlock) := ⟨ho9, hg9⟩
        have hb9 : Boxed w9 w.heap.size 71 (.slice a4 k k4) := (hg9.block w.heap.size (by have := HS1.out; simp; omega) (fun e => by have := (HI.out.2.1.lt _ e.symm).1; omega)).trans ((Below.heap_alloc _ _ _ (by have := HS1.out; omega)).trans ((HB1.out.block _ HBL.out).trans HI.out.1))
        have c9' := hb9.cell
        have f9 := hb9.frozen
        clear ho9 hg9 hb9 hK K
        simp only [Act.put, List.setIfInBounds_toArray, List.set_cons_succ, List.set_cons_zero]
        refine wpAny_ready (rs := [8]) (by kernel_rfl) (by simp) ?_
        refine AllReady.cons rfl (fun K hK => ?_) AllReady.nil
        go_simp
        refine hK _ _ ?_
        clear hK K
        refine wpAny_done (by kernel_rfl) ⟨rfl, ?_⟩ _
        exact text_fin (x := ⟨(xk, xv), hx1, hx2, hx3⟩) HI.out HKK.out HB1.out HO9.out.1 HO9.out.2
  case done =>
    rintro D xs W hD rfl ⟨⟨v, hbx, hown⟩, hB1⟩ hK
    rw [List.length_map] at hown
    have c0 := hbx.cell
    obtain ⟨a1, k1, e1⟩ := own_slice hown
    subst e1
    have HJW := HJ.out _ W hown hB1
    have hDW : D < W.heap.size := (Array.getElem?_eq_some_iff.1 hK).1
    have HD : Hid (W.heap[D]? = some (.deferred (some [])) ∧ w.heap.size ≤ D ∧ Below w.heap.size w W) := ⟨hK, by omega, hB1⟩
    clear q1 hgd hl0 hl hK hB1 hown hbx
    gi_wp2_with (refine ⟨trivial, ?_⟩; gi_at_call 38; refine (callsIn_wide.2 HJW).mono ?_; rintro e w9 ⟨rfl, hb9⟩; (have HB9 : Hid (Below W.heap.size W w9) := hb9); clear hb9)
    have hK9 : w9.heap[D]? = some (.deferred (some [])) := (HB9.out.block D hDW).trans HD.out.1
    refine ⟨by simp, .inl ⟨_, _, rfl, run_takeDeferred hK9, ?_⟩⟩
    exact ⟨_, results_tmp rfl _ _ _, rfl, (HD.out.2.2.trans (HB9.out.mono HD.out.2.2.size)).trans (belowK_b (w := w) (Nat.le_refl _) _ D _ _ HD.out.2.1 hK9 rfl rfl)⟩
  case stop =>
    rintro D c pre W _ _ h _
    exact h.elim
end Go.Proofs.YtgmpmpgfpchbcaaGreatDoor
