/- The law of blocks: the second range. -/
import Derived.Test.YtfdmepblhlifcaaDoorK2
import Derived.Test.YtfdmepblhlifcaaDoorG5
namespace Go.Proofs.YtfdmepblhlifcaaDoor
open Go.RowKit Go.Shelf
set_option linter.unusedVariables false
set_option linter.unusedSimpArgs false
attribute [local go_sem] Oper.semAt_some

/-- No operation defers a call. -/
def noDefer (ops : Array Oper) : Bool := ops.all fun o => match o.op with | .defer _ => false | _ => true
theorem noDefer_at {ops : Array Oper} (h : noDefer ops = true) {i : Nat} {o : Oper} (hi : ops[i]? = some o) : ∀ c, o.op ≠ .defer c := by
  intro c hc
  obtain ⟨hlt, he⟩ := Array.getElem?_eq_some_iff.1 hi
  have := (Array.all_eq_true.1 h) i hlt
  rw [he] at this
  simp [hc] at this
theorem oper_round {P : Program} {C : World → Prop} {n l : Nat} {o : Oper} {a : Act} {K : Act → Prop} {K' : Act → World → Prop} {Q' : Exit → Act → World → Prop} {w : World} (hd : ∀ c, o.op ≠ .defer c) (hw : C w) (h : ∀ a w', C w' → K a → K' a w') (hh : o.quiet P a C K) : o.wpIn (Fence.wide.inRound l) n P a w K' Q' := by
  obtain ⟨v, h1, h2⟩ := hh
  have h3 := h1 w hw
  unfold Oper.quietAt at h3
  unfold Oper.wpIn
  refine ⟨fun _ _ => trivial, ?_⟩
  rw [Oper.semAt_plain _ _ _ hd]
  generalize (execOp a.eval o).run P w = r at *
  cases r with
  | ok n w' =>
    cases n <;> simp only [Oper.quietUpon] at h3 <;> simp only [Oper.uponIn]
    case value u =>
      obtain ⟨e1, e2⟩ := h3
      rw [e1, e2]
      exact h _ _ hw h2
    case skip =>
      obtain ⟨e1, e2⟩ := h3
      rw [e1, ← e2]
      exact h _ _ hw h2
    case enter f args =>
      obtain ⟨e1, hc⟩ := h3
      rw [e1]
      refine ⟨fun h => by simp [Fence.wide] at h, ?_⟩
      exact (CallsIn.inRound l (callsIn_wide.2 hc)).mono fun e w'' ⟨he, hw''⟩ => by subst he; exact h _ _ hw'' h2
  | halt x w' => simp only [Oper.quietUpon] at h3
theorem op_round {P : Program} {ops : Array Oper} {C : World → Prop} {n l : Nat} (hnd : noDefer ops = true) {i : Nat} {a : Act} {K : Act → Prop} {K' : Act → World → Prop} {Q' : Exit → Act → World → Prop} {w : World} (hC : C w) (h : ∀ a w', C w' → K a → K' a w') (hh : qOp P ops C i K a) : wpOpIn (Fence.wide.inRound l) n P ops Q' i K' a w := by
  unfold qOp at hh
  unfold wpOpIn
  split
  · rename_i ho; simp only [ho] at hh; exact h _ _ hC hh
  · rename_i o ho
    simp only [ho] at hh
    split
    · rename_i hw; simp only [hw, if_true] at hh; exact oper_round (noDefer_at hnd ho) hC h hh
    · rename_i hw; simp only [hw] at hh; exact ⟨fun _ _ => trivial, h _ _ hC hh⟩
theorem any_round {P : Program} {md : Region.Mode} {ops : Array Oper} {C : World → Prop} {n l : Nat} (hnd : noDefer ops = true) {Q : Act → Prop} {Q' : Exit → Act → World → Prop} (hQ : ∀ a w, C w → Q a → Q' .normal a w) : ∀ (fuel : Nat) (listed : Array Bool) (a : Act) (w : World), C w →
    wpAnyQ P md ops C Q fuel listed a → wpAnyIn (Fence.wide.inRound l) n P md ops Q' fuel listed a w
  | 0, _, _, _, hw, h => ⟨h.1, hQ _ _ hw h.2⟩
  | fuel + 1, _, _, _, hw, h => ⟨fun h0 => hQ _ _ hw (h.1 h0), fun i hi => op_round hnd hw (fun a' w' hw' => any_round hnd hQ fuel _ a' w' hw') (h.2 i hi)⟩
/-- A region that draws, in a round: walked once, in the order of the text. -/
theorem region_round {P : Program} {id n l : Nat} {Q : Exit → Act → World → Prop} {a : Act} {w : World} {ls : List Oper} (C : World → Prop) (hnd : noDefer ls.toArray = true) (hm : P.follows .mixedOrders = true) (hB : Region.lexB .any ls.toArray = true) (hC : C w.drew)
    (h : wpQuiet P ls.toArray C (fun a' => ∀ w', C w' → Q .normal a' w') ls a) : (Code.region id ls.toArray true).wpIn (Fence.wide.inRound l) n P Q a w := by
  simp only [Region.lexB, Bool.and_eq_true] at hB
  refine wpIn_region_any hm (any_round hnd (Q := fun a' => ∀ w', C w' → Q .normal a' w') (fun _ w' hw' h => h w' hw') _ _ _ _ hC ?_)
  have := wpAnyQ_lex (C := C) (md := .any) hB.1 ls 0 (Array.replicate ls.toArray.size false) a (by simp) (by simpa using hB.2) h
  simpa using this

theorem neq32 (d e : List Int) (hd : d.length = 32) (hb : Byt d) (he : e.length = 32) (hbe : Byt e) (w : World) : ∃ r, (Op.equalIn 10000 23 (.agg (u8s d)) (.agg (u8s e))).run Tryd.prog w = .ok r w ∧ (d = e → r = true) := by
  have hf : ∀ d : List Int, d.length = 32 → Value.formed Tryd.prog 23 (.agg (u8s d)) = true := by
    intro d hd
    unfold Value.formed
    simp only [Tryd.underlying23]
    rw [show Tryd.prog.cellsOf 23 = 32 by kernel_rfl, size_u8s, hd]
    rfl
  obtain ⟨la, hk⟩ := key32 d hd hb
  obtain ⟨lb, hk2⟩ := key32 e he hbe
  obtain ⟨r, hr, hiff⟩ := run_equalIn_deep (P := Tryd.prog) 9998 2 23 (by kernel_rfl) w 2 2 (.agg (u8s d)) (.agg (u8s e)) _ _ (hf d hd) (hf e he) hk hk2
  refine ⟨r, hr, fun h => hiff.2 ?_⟩
  rw [h, hk2] at hk
  exact (Option.some.inj hk).symm
theorem quiet_neq {W : World} {a : Act} {o : Oper} {K : Act → Prop} (x y : Operand) (ho : o.op = .binOp .neq 23 x y 23) (u v : Array Value) (hx : a.eval x = .agg u) (hy : a.eval y = .agg v) (r : Bool) (hr : (Op.equalIn 10000 23 (.agg u) (.agg v)).run Tryd.prog W = .ok r W)
    (hk : K (a.put o.dst (.bool (!r)))) : o.quiet Tryd.prog a (fun w' => w' = W) K := by
  have hg : Tryd.prog.eqGuardType Tryd.prog.depth 23 = false := by kernel_rfl
  have hm : Op.maxDepth = 10000 := rfl
  refine ⟨_, fun w hw => ?_, hk⟩
  subst hw
  unfold Oper.quietAt
  simp only [execOp, ho, hx, hy]
  simp [eqGuard, binOp, Op.equal, hg, hm, hr, go_sem, Oper.quietUpon]
theorem digs_get (zs : List Int) : ∀ k j, j < k → ∃ y : Dig, (digs zs k)[j]? = some y ∧ y.1 = bytesI (stB zs (j + 1))
  | 0, j, h => by omega
  | k + 1, j, h => by
    unfold digs
    by_cases hj : j < k
    · rw [List.getElem?_append_left (by rw [digs_len]; exact hj)]
      exact digs_get zs k j hj
    · obtain rfl : j = k := by omega
      rw [List.getElem?_append_right (by rw [digs_len]; omega), digs_len, Nat.sub_self]
      exact ⟨_, rfl, rfl⟩
theorem own_slice {w : World} {base k : Nat} {e : TypeId} {size : Nat} {v : Value} {xs : List Value} (h : w.ownsRow base e size v k xs) : ∃ a c, v = .slice a k c := by
  rcases h.2 with ⟨h, h2⟩ | ⟨g', cap, cur, hv, _⟩
  · exact ⟨none, 0, by rw [h, h2]⟩
  · exact ⟨_, _, hv⟩
def Wrong (zs : List Int) (k : Nat) (pre : List Dig) : Prop := ∃ pre' x, pre = pre' ++ [x] ∧ pre'.length < k ∧ x.1 ≠ bytesI (stB zs (pre'.length + 1))
theorem not_wrong (zs ms : List Int) (k k2 m : Nat) (h : 64 * k ≤ zs.length) (hw : Wrong zs k ((digs (zs ++ ms) k2).take m)) : False := by
  obtain ⟨pre', x, h1, h2, h3⟩ := hw
  have hx : ((digs (zs ++ ms) k2).take m)[pre'.length]? = some x := by rw [h1]; simp
  have hm : pre'.length < m := by
    have := (List.getElem?_eq_some_iff.1 hx).1
    simp at this
    omega
  rw [List.getElem?_take_of_lt hm] at hx
  have hlt := (List.getElem?_eq_some_iff.1 hx).1
  rw [digs_len] at hlt
  obtain ⟨y, hy, hy2⟩ := digs_get (zs ++ ms) k2 pre'.length hlt
  rw [hy] at hx
  cases hx
  rw [stB_app zs ms _ (by omega)] at hy2
  exact h3 hy2

abbrev frame2 (s1 s2 : Option Addr) (l1 c1 l2 c2 p1 p2 R X I : Nat) : Array Value := #[Value.slice s1 l1 c1, Value.slice s2 l2 c2, undef, undef, Value.pointer (some { block := R, off := 0 }), Value.pointer (some { block := p1, off := 0 }), Value.pointer (some { block := p2, off := 0 }), Value.pointer (some { block := X, off := 0 }), undef, Value.pointer (some { block := I, off := 0 }), undef, Value.slice s1 l1 c1, Value.int IntKind.i64 ↑l1, Value.bool false, Value.bool false, Value.slice s2 l2 c2, Value.int IntKind.i64 ↑l2, Value.bool false, Value.bool false, undef, Value.pointer (some { block := p1, off := 0 }), Value.pointer (some { block := p2, off := 0 }), Value.pointer (some { block := p1, off := 0 }), Value.bool false, Value.bool false, Value.pointer (some { block := p2, off := 0 }), Value.bool false, Value.bool false, Value.pointer (some { block := p1, off := 0 }), Value.slice s1 l1 c1, Value.int IntKind.i64 0, Value.pointer (some { block := p2, off := 0 }), Value.slice s1 l1 c1, Value.int IntKind.i64 0, Value.pointer (some { block := p2, off := 0 }), Value.slice s2 l2 c2, Value.int IntKind.i64 0, Value.pointer (some { block := p1, off := 0 }), Value.func (Fn.func 46) #[] #[Value.pointer (some { block := X + 1, off := 0 })], undef, undef, undef, undef, undef, Value.pointer (some { block := p2, off := 0 }), Value.func (Fn.func 46) #[] #[Value.pointer (some { block := I + 1, off := 0 })], undef, undef, undef, undef, undef, undef, undef, undef, undef, undef, undef, undef, undef, undef, undef, undef, undef, undef, undef, undef, undef, undef, undef, undef, undef, undef, undef, undef, undef, undef, undef, undef, undef, undef]

set_option maxRecDepth 100000 in
set_option maxHeartbeats 4000000 in
theorem second_range (s1 s2 : Option Addr) (l1 c1 l2 c2 p1 p2 R X I D0 base : Nat) (pv v : Value) (zs ms : List Int) (k k2 : Nat) (V0 : World) (Q : Exit → Act → World → Prop) (hk : (k : Int) ≤ 100000) (hk2 : (k2 : Int) ≤ 100000) (h64 : 64 * k ≤ zs.length)
    (hR : Boxed V0 R 4 (.bool false)) (hRI : R < I) (hXI : X < I) (hI : Boxed V0 I 3 (.int .i64 0)) (hV2 : V0.heap.size = I + 2) (hc : V0.cell? ⟨I + 1, 0, none⟩ = some pv)
    (ho : V0.ownsRow base 23 32 pv k2 (flatD (zs ++ ms) k2)) (hpv : ∀ g, pv.ownBlock = some g → g < I)
    (hx : Boxed V0 X 44 v) (hv : V0.ownsRow X 23 32 v k (flatD zs k)) (hvI : ∀ g, v.ownBlock = some g → g < I)
    (hQ : ∀ D W, V0.heap.size ≤ D → Boxed W I 3 (.int .i64 (k2 : Int)) → Below I V0 W → W.heap[D]? = some (.deferred (some [])) → Q .normal { tmps := frame2 s1 s2 l1 c1 l2 c2 p1 p2 R X I, defers := [{ target := .collected D, args := #[] }, { target := .collected D0, args := #[] }] } W) :
    Code.wpIn Fence.wide 5 Tryd.prog
    (Code.rangeFunc (Operand.tmp 45) #[46]
      (Code.region 16
        #[{ dst := some 10, op := Op.alloc 23, type := 0, pos := "law.go:117", after := #[], guard := none },
          { dst := none, op := Op.store 23 (Operand.tmp 10) (Operand.tmp 46), type := 0, pos := "law.go:117",
            after := #[{ on := 0, ground := Ground.data }, { on := 0, ground := Ground.phase }], guard := none }]
        false)
      (Code.block 3
        (((Code.region 17
                  #[{ dst := some 47, op := Op.load 3 (Operand.tmp 9), type := 3, pos := "law.go:118", after := #[],
                      guard := none },
                    { dst := some 48, op := Op.load 44 (Operand.tmp 7), type := 44, pos := "law.go:118", after := #[],
                      guard := none },
                    { dst := some 49,
                      op :=
                        Op.call { callee := Callee.builtin Builtin.len, args := #[Operand.tmp 48], argTypes := #[44] },
                      type := 3, pos := "law.go:118", after := #[{ on := 1, ground := Ground.data }], guard := none },
                    { dst := some 50, op := Op.binOp BinOp.lss 3 (Operand.tmp 47) (Operand.tmp 49) 3, type := 4,
                      pos := "law.go:118",
                      after := #[{ on := 0, ground := Ground.data }, { on := 2, ground := Ground.data }],
                      guard := none },
                    { dst := some 51, op := Op.move (Operand.tmp 50), type := 4, pos := "law.go:118",
                      after := #[{ on := 3, ground := Ground.data }], guard := none },
                    { dst := some 52, op := Op.load 23 (Operand.tmp 10), type := 23, pos := "law.go:118",
                      after := #[{ on := 4, ground := Ground.guard }], guard := some (4, true) },
                    { dst := some 53, op := Op.load 44 (Operand.tmp 7), type := 44, pos := "law.go:118",
                      after := #[{ on := 4, ground := Ground.guard }], guard := some (4, true) },
                    { dst := some 54, op := Op.load 3 (Operand.tmp 9), type := 3, pos := "law.go:118",
                      after := #[{ on := 4, ground := Ground.guard }], guard := some (4, true) },
                    { dst := some 55, op := Op.indexAddr 44 (Operand.tmp 53) (Operand.tmp 54), type := 0,
                      pos := "law.go:118",
                      after :=
                        #[{ on := 6, ground := Ground.data }, { on := 7, ground := Ground.data },
                          { on := 4, ground := Ground.guard }],
                      guard := some (4, true) },
                    { dst := some 56, op := Op.load 23 (Operand.tmp 55), type := 23, pos := "law.go:118",
                      after := #[{ on := 8, ground := Ground.data }, { on := 4, ground := Ground.guard }],
                      guard := some (4, true) },
                    { dst := some 57, op := Op.binOp BinOp.neq 23 (Operand.tmp 52) (Operand.tmp 56) 23, type := 4,
                      pos := "law.go:118",
                      after :=
                        #[{ on := 5, ground := Ground.data }, { on := 9, ground := Ground.data },
                          { on := 4, ground := Ground.guard }],
                      guard := some (4, true) },
                    { dst := some 58,
                      op := Op.pick (Operand.tmp 51) (Operand.tmp 57) (Operand.const (Value.bool false)), type := 4,
                      pos := "law.go:118",
                      after := #[{ on := 4, ground := Ground.data }, { on := 10, ground := Ground.data }],
                      guard := none }]
                  true).seq
              (Code.cond (Operand.tmp 58)
                ((Code.region 18
                      #[{ dst := none, op := Op.store 4 (Operand.tmp 4) (Operand.const (Value.bool false)), type := 0,
                          pos := "law.go:119", after := #[], guard := none }]
                      false).seq
                  Code.ret)
                Code.skip)).seq
          (Code.region 19
            #[{ dst := some 59, op := Op.load 3 (Operand.tmp 9), type := 3, pos := "law.go:121", after := #[],
                guard := none },
              { dst := some 60, op := Op.binOp BinOp.add 3 (Operand.tmp 59) (Operand.const (Value.int IntKind.i64 1)) 3,
                type := 3, pos := "law.go:121", after := #[{ on := 0, ground := Ground.data }], guard := none },
              { dst := none, op := Op.store 3 (Operand.tmp 9) (Operand.tmp 60), type := 0, pos := "law.go:121",
                after :=
                  #[{ on := 1, ground := Ground.data }, { on := 0, ground := Ground.phase },
                    { on := 1, ground := Ground.phase }],
                guard := none }]
            false))))
    Q { tmps := frame2 s1 s2 l1 c1 l2 c2 p1 p2 R X I, defers := [{ target := .collected D0, args := #[] }] } V0 := by
  obtain ⟨va, vc, rfl⟩ := own_slice hv
  obtain ⟨i0, hi, hz0, hz1, hz2⟩ := info_parts info23
  refine wpIn_rangeFunc_ownH rfl (by omega) (gf := 46) (lb := #[.pointer (some ⟨I + 1, 0, none⟩)]) rfl trivial (enters_of Tryd.func46 (by kernel_rfl) rfl)
    (vals_seq _ (I + 1) I base pv (zs ++ ms) k2 V0 (by omega) (by omega) (by omega) hc ho hpv) belowK_t (belowK_b (by omega)) (Below.refl _ _) (fun _ => rfl)
    (fun pre W => Boxed W I 3 (.int .i64 (pre.length : Int)) ∧ Below I V0 W)
    (fun c pre W => Wrong zs k pre)
    (OwnFrom.and (Own.from (boxed_own I 3 (fun pre : List Dig => .int .i64 (pre.length : Int))) _) (ownFrom_below (by omega) (by omega)))
    (fun _ _ _ _ _ hs _ _ => hs)
    ⟨hI, Below.refl _ _⟩
    (fun x a' W => ∃ Bx, I + 1 < Bx ∧ W.heap[Bx]? = some (.cells (u8s x.1) 23 (0, 0)) ∧ a' = { tmps := #[Value.slice s1 l1 c1, Value.slice s2 l2 c2, undef, undef, Value.pointer (some { block := R, off := 0 }), Value.pointer (some { block := p1, off := 0 }), Value.pointer (some { block := p2, off := 0 }), Value.pointer (some { block := X, off := 0 }), undef, Value.pointer (some { block := I, off := 0 }), .pointer (some ⟨Bx, 0, none⟩), Value.slice s1 l1 c1, Value.int IntKind.i64 ↑l1, Value.bool false, Value.bool false, Value.slice s2 l2 c2, Value.int IntKind.i64 ↑l2, Value.bool false, Value.bool false, undef, Value.pointer (some { block := p1, off := 0 }), Value.pointer (some { block := p2, off := 0 }), Value.pointer (some { block := p1, off := 0 }), Value.bool false, Value.bool false, Value.pointer (some { block := p2, off := 0 }), Value.bool false, Value.bool false, Value.pointer (some { block := p1, off := 0 }), Value.slice s1 l1 c1, Value.int IntKind.i64 0, Value.pointer (some { block := p2, off := 0 }), Value.slice s1 l1 c1, Value.int IntKind.i64 0, Value.pointer (some { block := p2, off := 0 }), Value.slice s2 l2 c2, Value.int IntKind.i64 0, Value.pointer (some { block := p1, off := 0 }), Value.func (Fn.func 46) #[] #[Value.pointer (some { block := X + 1, off := 0 })], undef, undef, undef, undef, undef, Value.pointer (some { block := p2, off := 0 }), Value.func (Fn.func 46) #[] #[Value.pointer (some { block := I + 1, off := 0 })], .agg (u8s x.1), undef, undef, undef, undef, undef, undef, undef, undef, undef, undef, undef, undef, undef, undef, undef, undef, undef, undef, undef, undef, undef, undef, undef, undef, undef, undef, undef, undef, undef, undef, undef, undef, undef], defers := [] })
    (fun x a' _ X' Y row hs hg hr => by obtain ⟨Bx, h1, h2, h3⟩ := hs; exact ⟨Bx, h1, row_own Bx 23 (fun (_ : Unit) => u8s x.1) () X' Y row h2 hg (fun r e => (hr r e).2), h3⟩)
    ?assign ?body ?done ?stop
  case assign =>
    rintro l pre x W K ⟨bI, hB1⟩ hK
    have hsz1 := hB1.size
    have hltI := bI.lt
    gi_wp2_with (refine wpListIn_storeV rfl 23 _ _ rfl ⟨W.heap.size, 0, none⟩ rfl (.agg (u8s x.1)) rfl (run_storeVar_row _ W.heap.size 23 23 _ (u8s x.1) (Go.heap_alloc_new _ _) ?s1 ?s2 (one_u8s _)) ?_)
    case s1 => rw [size_u8s, x.2.1]
    case s2 => rw [size_u8s, x.2.1]
    refine hK _ _ (((KeepsOthers.alloc _ _).trans (keeps_setRow _ _ _ _ _ (Go.heap_alloc_new _ _))).from _) (below_setRow ((Below.refl _ W).alloc (by omega) _) (by show I ≤ W.heap.size; omega) _) ⟨?_, below_setRow (hB1.alloc (by omega) _) (by show I ≤ W.heap.size; omega) _⟩ ⟨W.heap.size, by omega, setRow_heap _ _ _ _ _ _ (Go.heap_alloc_new _ _), rfl⟩
    exact (setRow_other _ _ _ _ (by omega)).trans ((Below.heap_alloc _ _ _ hltI).trans bI)
  case body =>
    rintro l pre x a' W hl ⟨r, hr⟩ ⟨bI, hB1⟩ ⟨Bx, hBx, bX, rfl⟩ hlt
    have hsz1 := hB1.size
    have cI : W.cell? ⟨I, 0, none⟩ = some (.int .i64 (pre.length : Int)) := bI.cell
    have fI : W.frozen? ⟨I, 0, none⟩ = false := bI.frozen
    have cX : W.cell? ⟨X, 0, none⟩ = some (.slice va k vc) := Boxed.cell (t := 44) ((hB1.block _ hXI).trans hx)
    have bR : Boxed W R 4 (.bool false) := (hB1.block _ hRI).trans hR
    have cR := bR.cell
    have fR := bR.frozen
    have HLX : Hid ((loadVar 23 ⟨Bx, 0, none⟩).run Tryd.prog W.drew = .ok (.agg (u8s x.1)) W.drew) := run_loadVar_row _ _ 23 23 _ (0, 0) _ bX Tryd.underlying23 rfl (by rw [size_u8s, x.2.1]; kernel_rfl)
    have cI' : W.drew.cell? ⟨I, 0, none⟩ = some (.int .i64 (pre.length : Int)) := cI
    have cX' : W.drew.cell? ⟨X, 0, none⟩ = some (.slice va k vc) := cX
    by_cases hj : pre.length < k
    · obtain ⟨y, hy1, hy2⟩ := digs_get zs k pre.length hj
      have hvW : W.ownsRow X 23 32 (.slice va k vc) k (flatD zs k) := by
        rcases hv.2 with ⟨e1, e2⟩ | ⟨g, cap, cur, e1, e2, e3, e4⟩
        · omega
        · refine ⟨hv.1, .inr ⟨g, cap, cur, e1, e2, ?_, e4⟩⟩
          have : (Value.slice va k vc).ownBlock = some g := by rw [e1]; rfl
          exact (hB1.block _ (hvI g this)).trans e3
      obtain ⟨g, hg⟩ : ∃ g, va = some ⟨g, 0, none⟩ := by
        rcases hv.2 with ⟨e1, e2⟩ | ⟨g, cap, cur, e1, _⟩
        · omega
        · cases e1; exact ⟨g, rfl⟩
      subst hg
      have HLY : Hid ((loadVar 23 ⟨g, pre.length * 32, none⟩).run Tryd.prog W.drew = .ok (.agg (u8s y.1)) W.drew) := load_dig y (own_digs hvW pre.length y hy1)
      obtain ⟨r, hr1, hr2⟩ := neq32 x.1 y.1 x.2.1 x.2.2 y.2.1 y.2.2 W.drew
      have HRE : Hid ((Op.equalIn 10000 23 (.agg (u8s x.1)) (.agg (u8s y.1))).run Tryd.prog W.drew = .ok r W.drew) := hr1
      have hji : (pre.length : Int) < (k : Int) := by omega
      have hji0 : (0 : Int) ≤ (pre.length : Int) := by omega
      clear hr1
      gi_wp2_with fail
      refine region_round (fun w' => w' = W.drew) (by kernel_rfl) (by kernel_rfl) (by kernel_rfl) rfl ?_
      repeat (first | go_big_quiet_skip | (go_big_quiet_want; go_big_quiet_op; go_big_quiet_on))
      (go_big_quiet_want; refine quiet_loadV 23 _ rfl ⟨Bx, 0, none⟩ rfl _ HLX.out ?_; go_big_quiet_on)
      simp only [Act.put, List.setIfInBounds_toArray, List.set_cons_succ, List.set_cons_zero]
      repeat (first | go_big_quiet_skip | (go_big_quiet_want; go_big_quiet_op; go_big_quiet_on))
      (go_big_quiet_want; refine quiet_loadV 23 _ rfl ⟨g, pre.length * 32, none⟩ rfl _ HLY.out ?_; go_big_quiet_on)
      simp only [Act.put, List.setIfInBounds_toArray, List.set_cons_succ, List.set_cons_zero]
      (go_big_quiet_want; refine quiet_neq _ _ rfl _ _ rfl rfl r HRE.out ?_; go_big_quiet_on)
      simp only [Act.put, List.setIfInBounds_toArray, List.set_cons_succ, List.set_cons_zero]
      have HW2 : Hid (r = false → Wrong zs k (pre ++ [x])) := fun h => ⟨pre, x, rfl, hj, fun h' => by rw [← hy2] at h'; rw [hr2 h'] at h; cases h⟩
      clear HRE hr2 HLX HLY
      have fI' : W.drew.frozen? ⟨I, 0, none⟩ = false := fI
      have cR' : W.drew.cell? ⟨R, 0, none⟩ = some (.bool false) := cR
      have fR' : W.drew.frozen? ⟨R, 0, none⟩ = false := fR
      have hbd : (pre.length : Int) ≤ 100000 := by omega
      cases r
      · repeat (first | go_big_quiet_skip | (go_big_quiet_want; go_big_quiet_op; go_big_quiet_on))
        refine wpQuiet_nil ?_
        rintro w' rfl
        gi_wp2_with fail
        exact ⟨((KeepsOthers.setCell _ _ _).trans (KeepsOthers.drew _)).from _, HW2.out trivial⟩
      · repeat (first | go_big_quiet_skip | (go_big_quiet_want; go_big_quiet_op; go_big_quiet_on))
        refine wpQuiet_nil ?_
        rintro w' rfl
        gi_wp2_with fail
        refine ⟨((KeepsOthers.setCell _ _ _).trans (KeepsOthers.drew _)).from _, ((Below.refl I W).setCell (p := ⟨I, 0, none⟩) (Nat.le_refl I) _).drew, ?_, (hB1.setCell (p := ⟨I, 0, none⟩) (Nat.le_refl I) _).drew⟩
        have hset := bI.set (.int .i64 ((pre.length : Int) + 1))
        rw [show (((pre ++ [x]).length : Nat) : Int) = (pre.length : Int) + 1 by simp]
        exact hset
    · have hji : ¬ ((pre.length : Int) < (k : Int)) := by omega
      have fI' : W.drew.frozen? ⟨I, 0, none⟩ = false := fI
      have hbd : (pre.length : Int) ≤ 100000 := by omega
      gi_wp2_with fail
      refine region_round (fun w' => w' = W.drew) (by kernel_rfl) (by kernel_rfl) (by kernel_rfl) rfl ?_
      repeat (first | go_big_quiet_skip | (go_big_quiet_want; go_big_quiet_op; go_big_quiet_on))
      refine wpQuiet_nil ?_
      rintro w' rfl
      gi_wp2_with fail
      refine ⟨((KeepsOthers.setCell _ _ _).trans (KeepsOthers.drew _)).from _, ((Below.refl I W).setCell (p := ⟨I, 0, none⟩) (Nat.le_refl I) _).drew, ?_, (hB1.setCell (p := ⟨I, 0, none⟩) (Nat.le_refl I) _).drew⟩
      have hset := bI.set (.int .i64 ((pre.length : Int) + 1))
      rw [show (((pre ++ [x]).length : Nat) : Int) = (pre.length : Int) + 1 by simp]
      exact hset
  case done =>
    rintro D xs W hD rfl ⟨bI, hB1⟩ hK
    rw [digs_len] at bI
    exact hQ D W hD bI hB1 hK
  case stop =>
    rintro D c pre W _ ⟨m, rfl⟩ h _
    exact (not_wrong zs ms k k2 m h64 h).elim
end Go.Proofs.YtfdmepblhlifcaaDoor
