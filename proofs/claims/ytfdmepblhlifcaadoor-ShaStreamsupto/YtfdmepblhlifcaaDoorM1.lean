/- All that can be seen of a stream: the range over its states. -/
import Derived.Test.YtfdmepblhlifcaaDoorL3
import Derived.Test.YtfdmepblhlifcaaDoorK3
namespace Go.Proofs.YtfdmepblhlifcaaDoor
open Go.RowKit Go.Shelf
set_option linter.unusedVariables false
set_option linter.unusedSimpArgs false
attribute [local go_sem] Oper.semAt_some

theorem neq32_all (d e : List Int) (hd : d.length = 32) (hb : Byt d) (he : e.length = 32) (hbe : Byt e) : ∃ r, (∀ w, (Op.equalIn 10000 23 (.agg (u8s d)) (.agg (u8s e))).run Tryd.prog w = .ok r w) ∧ (d = e → r = true) := by
  have hf : ∀ d : List Int, d.length = 32 → Value.formed Tryd.prog 23 (.agg (u8s d)) = true := by
    intro d hd
    unfold Value.formed
    simp only [Tryd.underlying23]
    rw [show Tryd.prog.cellsOf 23 = 32 by kernel_rfl, size_u8s, hd]
    rfl
  obtain ⟨la, hk⟩ := key32 d hd hb
  obtain ⟨lb, hk2⟩ := key32 e he hbe
  have hrun : ∀ w, ∃ r, (Op.equalIn 10000 23 (.agg (u8s d)) (.agg (u8s e))).run Tryd.prog w = .ok r w ∧ (r = true ↔ la = lb) := fun w => run_equalIn_deep (P := Tryd.prog) 9998 2 23 (by kernel_rfl) w 2 2 (.agg (u8s d)) (.agg (u8s e)) _ _ (hf d hd) (hf e he) hk hk2
  by_cases h : la = lb
  · refine ⟨true, fun w => ?_, fun _ => rfl⟩
    obtain ⟨r, hr, hiff⟩ := hrun w
    rw [hiff.2 h] at hr
    exact hr
  · refine ⟨false, fun w => ?_, fun h' => ?_⟩
    · obtain ⟨r, hr, hiff⟩ := hrun w
      have : r = false := by
        cases r with
        | false => rfl
        | true => exact (h (hiff.1 rfl)).elim
      rw [this] at hr
      exact hr
    · rw [h', hk2] at hk
      exact (h (Option.some.inj hk).symm).elim
theorem quiet_neqC {C : World → Prop} {a : Act} {o : Oper} {K : Act → Prop} (x y : Operand) (ho : o.op = .binOp .neq 23 x y 23) (u v : Array Value) (hx : a.eval x = .agg u) (hy : a.eval y = .agg v) (r : Bool) (hr : ∀ W, (Op.equalIn 10000 23 (.agg u) (.agg v)).run Tryd.prog W = .ok r W)
    (hk : K (a.put o.dst (.bool (!r)))) : o.quiet Tryd.prog a C K := by
  have hg : Tryd.prog.eqGuardType Tryd.prog.depth 23 = false := by kernel_rfl
  have hm : Op.maxDepth = 10000 := rfl
  refine ⟨_, fun w hw => ?_, hk⟩
  unfold Oper.quietAt
  simp only [execOp, ho, hx, hy]
  simp [eqGuard, binOp, Op.equal, hg, hm, hr w, go_sem, Oper.quietUpon]
theorem load3 {w : World} {g : Nat} {v : Value} (h : w.cell? ⟨g, 0, none⟩ = some v) : (loadVar 3 ⟨g, 0, none⟩).run Tryd.prog w = .ok v w := by
  have u := run_underlying (P := Tryd.prog) Tryd.underlying3
  simp [loadVar, isAgg, u, go_sem, h]
theorem load59 {w : World} {g : Nat} {v : Value} (h : w.cell? ⟨g, 0, none⟩ = some v) : (loadVar 59 ⟨g, 0, none⟩).run Tryd.prog w = .ok v w := by
  have u := run_underlying (P := Tryd.prog) Tryd.underlying59
  simp [loadVar, isAgg, u, go_sem, h]
theorem flatS_at (zs : List Int) : ∀ k j, j < k → ∀ i v, (u32l (stB zs (j + 1)))[i]? = some v → (flatS zs k)[j * 8 + i]? = some v
  | 0, j, h, i, v, hv => by omega
  | k + 1, j, h, i, v, hv => by
    have hi : i < 8 := by have := (List.getElem?_eq_some_iff.1 hv).1; rwa [u32l_len, (stB_ok zs (j + 1)).1] at this
    unfold flatS
    by_cases hj : j < k
    · rw [List.getElem?_append_left (by rw [flatS_len]; omega)]
      exact flatS_at zs k j hj i v hv
    · obtain rfl : j = k := by omega
      rw [List.getElem?_append_right (by rw [flatS_len]; omega), flatS_len, Nat.add_sub_cancel_left]
      exact hv
theorem load_st {w : World} {base g k cap : Nat} {zs : List Int} (h : w.ownsRow base 62 8 (.slice (some ⟨g, 0, none⟩) k cap) k (flatS zs k)) (j : Nat) (hj : j < k) : (loadVar 62 ⟨g, j * 8, none⟩).run Tryd.prog w = .ok (.agg (u32s (stB zs (j + 1)))) w := by
  refine run_loadVar_mid w g (j * 8) 62 (u32l (stB zs (j + 1))) _ (fun i v hv => ?_) Tryd.underlying62 rfl (by rw [u32l_len, (stB_ok _ _).1]; kernel_rfl)
  have hv' := flatS_at zs k j hj i v hv
  have hlt := (List.getElem?_eq_some_iff.1 hv').1
  rw [flatS_len] at hlt
  rw [h.cellAt (j * 8 + i) hlt]
  exact hv'

abbrev frame3 (sb : Option Addr) (lb cb p R X k c4 : Nat) (a4 : Option Addr) (D : List Int) : Array Value := #[Value.pointer (some { block := p, off := 0 }), Value.slice sb lb cb, undef, undef, Value.pointer (some { block := R, off := 0 }), Value.pointer (some { block := X, off := 0 }), Value.pointer (some { block := X + 1, off := 0 }), Value.func (Fn.func 46) #[] #[Value.pointer (some { block := X + 2, off := 0 })], undef, Value.pointer (some { block := p, off := 0 }), Value.int IntKind.i64 ↑lb, Value.slice sb lb cb, Value.int IntKind.i64 ↑lb, Value.bool false, Value.bool false, Value.pointer (some { block := p, off := 0 }), Value.agg (u8s D), Value.slice sb lb cb, Value.agg (u8s D), Value.bool false, Value.bool false, Value.slice sb lb cb, Value.slice a4 (k) c4, Value.pointer (some { block := p, off := 0 }), Value.func (Fn.func 46) #[] #[Value.pointer (some { block := X + 2, off := 0 })], Value.func (Fn.func 46) #[] #[Value.pointer (some { block := X + 2, off := 0 })], Value.bool false, Value.func (Fn.func 46) #[] #[Value.pointer (some { block := X + 2, off := 0 })], undef, undef, undef, undef, undef, undef, undef, undef, undef, undef, undef, undef, undef, undef, undef, undef, undef, undef, undef, undef, undef, undef]

set_option maxRecDepth 100000 in
set_option maxHeartbeats 4000000 in
theorem third_range (sb a4 : Option Addr) (lb cb p R X k c4 base base4 : Nat) (D : List Int) (pv : Value) (zs : List Int) (V0 : World) (Q : Exit → Act → World → Prop) (hk : (k : Int) ≤ 4000000000000) (h64 : 64 * k ≤ zs.length)
    (hR : Boxed V0 R 4 (.bool false)) (hRX : R < X) (hX : Boxed V0 X 59 (.slice a4 k c4)) (hI : Boxed V0 (X + 1) 3 (.int .i64 0)) (hV2 : V0.heap.size = X + 3) (hb2 : Boxed V0 (X + 2) 44 pv)
    (ho : V0.ownsRow base 23 32 pv k (flatD zs k)) (hpv : ∀ g, pv.ownBlock = some g → g < X)
    (hv : V0.ownsRow base4 62 8 (.slice a4 k c4) k (flatS zs k)) (hvI : ∀ g, (Value.slice a4 k c4).ownBlock = some g → g < X)
    (hQ : ∀ D' W, V0.heap.size ≤ D' → Boxed W (X + 1) 3 (.int .i64 (k : Int)) → Boxed W (X + 2) 44 pv → Below (X + 1) V0 W → W.heap[D']? = some (.deferred (some [])) → Q .normal { tmps := frame3 sb lb cb p R X k c4 a4 D, defers := [{ target := .collected D', args := #[] }] } W) :
    Code.wpIn Fence.wide 5 Tryd.prog
    (Code.rangeFunc (Operand.tmp 27) #[28]
      (Code.region 9
        #[{ dst := some 8, op := Op.alloc 23, type := 0, pos := "law.go:48", after := #[], guard := none },
          { dst := none, op := Op.store 23 (Operand.tmp 8) (Operand.tmp 28), type := 0, pos := "law.go:48",
            after := #[{ on := 0, ground := Ground.data }, { on := 0, ground := Ground.phase }], guard := none }]
        false)
      (Code.block 1
        (((Code.region 10
                  #[{ dst := some 29, op := Op.load 3 (Operand.tmp 6), type := 3, pos := "law.go:49", after := #[],
                      guard := none },
                    { dst := some 30, op := Op.load 59 (Operand.tmp 5), type := 59, pos := "law.go:49", after := #[],
                      guard := none },
                    { dst := some 31,
                      op :=
                        Op.call { callee := Callee.builtin Builtin.len, args := #[Operand.tmp 30], argTypes := #[59] },
                      type := 3, pos := "law.go:49", after := #[{ on := 1, ground := Ground.data }], guard := none },
                    { dst := some 32, op := Op.binOp BinOp.geq 3 (Operand.tmp 29) (Operand.tmp 31) 3, type := 4,
                      pos := "law.go:49",
                      after := #[{ on := 0, ground := Ground.data }, { on := 2, ground := Ground.data }],
                      guard := none },
                    { dst := some 33, op := Op.move (Operand.tmp 32), type := 4, pos := "law.go:49",
                      after := #[{ on := 3, ground := Ground.data }], guard := none },
                    { dst := some 34, op := Op.load 23 (Operand.tmp 8), type := 23, pos := "law.go:49",
                      after := #[{ on := 4, ground := Ground.guard }], guard := some (4, false) },
                    { dst := some 35, op := Op.load 59 (Operand.tmp 5), type := 59, pos := "law.go:49",
                      after := #[{ on := 4, ground := Ground.guard }], guard := some (4, false) },
                    { dst := some 36, op := Op.load 3 (Operand.tmp 6), type := 3, pos := "law.go:49",
                      after := #[{ on := 4, ground := Ground.guard }], guard := some (4, false) },
                    { dst := some 37, op := Op.indexAddr 59 (Operand.tmp 35) (Operand.tmp 36), type := 0,
                      pos := "law.go:49",
                      after :=
                        #[{ on := 6, ground := Ground.data }, { on := 7, ground := Ground.data },
                          { on := 4, ground := Ground.guard }],
                      guard := some (4, false) },
                    { dst := some 38, op := Op.load 62 (Operand.tmp 37), type := 62, pos := "law.go:49",
                      after := #[{ on := 8, ground := Ground.data }, { on := 4, ground := Ground.guard }],
                      guard := some (4, false) },
                    { dst := some 39,
                      op :=
                        Op.call
                          { callee := Callee.value (Operand.func 33), args := #[Operand.tmp 38], argTypes := #[62] },
                      type := 23, pos := "law.go:49",
                      after :=
                        #[{ on := 9, ground := Ground.data }, { on := 4, ground := Ground.chain },
                          { on := 4, ground := Ground.guard }],
                      guard := some (4, false) },
                    { dst := some 40, op := Op.binOp BinOp.neq 23 (Operand.tmp 34) (Operand.tmp 39) 23, type := 4,
                      pos := "law.go:49",
                      after :=
                        #[{ on := 5, ground := Ground.data }, { on := 10, ground := Ground.data },
                          { on := 4, ground := Ground.guard }],
                      guard := some (4, false) },
                    { dst := some 41, op := Op.pick (Operand.tmp 33) (Operand.const (Value.bool true)) (Operand.tmp 40),
                      type := 4, pos := "law.go:49",
                      after := #[{ on := 4, ground := Ground.data }, { on := 11, ground := Ground.data }],
                      guard := none }]
                  true).seq
              (Code.cond (Operand.tmp 41)
                ((Code.region 11
                      #[{ dst := none, op := Op.store 4 (Operand.tmp 4) (Operand.const (Value.bool false)), type := 0,
                          pos := "law.go:50", after := #[], guard := none }]
                      false).seq
                  Code.ret)
                Code.skip)).seq
          (Code.region 12
            #[{ dst := some 42, op := Op.load 3 (Operand.tmp 6), type := 3, pos := "law.go:52", after := #[],
                guard := none },
              { dst := some 43, op := Op.binOp BinOp.add 3 (Operand.tmp 42) (Operand.const (Value.int IntKind.i64 1)) 3,
                type := 3, pos := "law.go:52", after := #[{ on := 0, ground := Ground.data }], guard := none },
              { dst := none, op := Op.store 3 (Operand.tmp 6) (Operand.tmp 43), type := 0, pos := "law.go:52",
                after :=
                  #[{ on := 1, ground := Ground.data }, { on := 0, ground := Ground.phase },
                    { on := 1, ground := Ground.phase }],
                guard := none }]
            false))))
    Q { tmps := frame3 sb lb cb p R X k c4 a4 D, defers := [] } V0 := by
  obtain ⟨i0, hi, hz0, hz1, hz2⟩ := info_parts info23
  refine wpIn_rangeFunc_ownH rfl (by omega) (gf := 46) (lb := #[.pointer (some ⟨X + 2, 0, none⟩)]) rfl trivial (enters_of Tryd.func46 (by kernel_rfl) rfl)
    (vals_seq _ (X + 2) (X + 1) base pv zs k V0 (by omega) (by omega) (by omega) hb2.cell ho (fun g hg => Nat.lt_succ_of_lt (hpv g hg))) belowK_t (belowK_b (by omega)) (Below.refl _ _) (fun _ => rfl)
    (fun pre W => (Boxed W (X + 1) 3 (.int .i64 (pre.length : Int)) ∧ Boxed W (X + 2) 44 pv) ∧ Below (X + 1) V0 W)
    (fun c pre W => Wrong zs k pre)
    (OwnFrom.and (OwnFrom.and (Own.from (boxed_own (X + 1) 3 (fun pre : List Dig => .int .i64 (pre.length : Int))) _) (Own.from (boxed_own (X + 2) 44 (fun _ : List Dig => pv)) _)) (ownFrom_below (by omega) (by omega)))
    (fun _ _ _ _ _ hs _ _ => hs)
    ⟨⟨hI, hb2⟩, Below.refl _ _⟩
    (fun x a' W => ∃ Bx, X + 2 < Bx ∧ W.heap[Bx]? = some (.cells (u8s x.1) 23 (0, 0)) ∧ a' = { tmps := #[Value.pointer (some { block := p, off := 0 }), Value.slice sb lb cb, undef, undef, Value.pointer (some { block := R, off := 0 }), Value.pointer (some { block := X, off := 0 }), Value.pointer (some { block := X + 1, off := 0 }), Value.func (Fn.func 46) #[] #[Value.pointer (some { block := X + 2, off := 0 })], .pointer (some ⟨Bx, 0, none⟩), Value.pointer (some { block := p, off := 0 }), Value.int IntKind.i64 ↑lb, Value.slice sb lb cb, Value.int IntKind.i64 ↑lb, Value.bool false, Value.bool false, Value.pointer (some { block := p, off := 0 }), Value.agg (u8s D), Value.slice sb lb cb, Value.agg (u8s D), Value.bool false, Value.bool false, Value.slice sb lb cb, Value.slice a4 (k) c4, Value.pointer (some { block := p, off := 0 }), Value.func (Fn.func 46) #[] #[Value.pointer (some { block := X + 2, off := 0 })], Value.func (Fn.func 46) #[] #[Value.pointer (some { block := X + 2, off := 0 })], Value.bool false, Value.func (Fn.func 46) #[] #[Value.pointer (some { block := X + 2, off := 0 })], .agg (u8s x.1), undef, undef, undef, undef, undef, undef, undef, undef, undef, undef, undef, undef, undef, undef, undef, undef, undef, undef, undef, undef, undef], defers := [] })
    (fun x a' _ X' Y row hs hg hr => by obtain ⟨Bx, h1, h2, h3⟩ := hs; exact ⟨Bx, h1, row_own Bx 23 (fun (_ : Unit) => u8s x.1) () X' Y row h2 hg (fun r e => (hr r e).2), h3⟩)
    ?assign ?body ?done ?stop
  case assign =>
    rintro l pre x W K ⟨⟨bI, bP⟩, hB1⟩ hK
    have hsz1 := hB1.size
    have hltI := bI.lt
    have hltP := bP.lt
    gi_wp2_with (refine wpListIn_storeV rfl 23 _ _ rfl ⟨W.heap.size, 0, none⟩ rfl (.agg (u8s x.1)) rfl (run_storeVar_row _ W.heap.size 23 23 _ (u8s x.1) (Go.heap_alloc_new _ _) ?s1 ?s2 (one_u8s _)) ?_)
    case s1 => rw [size_u8s, x.2.1]
    case s2 => rw [size_u8s, x.2.1]
    refine hK _ _ (((KeepsOthers.alloc _ _).trans (keeps_setRow _ _ _ _ _ (Go.heap_alloc_new _ _))).from _) (below_setRow ((Below.refl _ W).alloc (by omega) _) (by show X + 1 ≤ W.heap.size; omega) _) ⟨⟨?_, ?_⟩, below_setRow (hB1.alloc (by omega) _) (by show X + 1 ≤ W.heap.size; omega) _⟩ ⟨W.heap.size, by omega, setRow_heap _ _ _ _ _ _ (Go.heap_alloc_new _ _), rfl⟩
    · exact (setRow_other _ _ _ _ (by omega)).trans ((Below.heap_alloc _ _ _ hltI).trans bI)
    · exact (setRow_other _ _ _ _ (by omega)).trans ((Below.heap_alloc _ _ _ hltP).trans bP)
  case body =>
    rintro l pre x a' W hl ⟨r, hr⟩ ⟨⟨bI, bP⟩, hB1⟩ ⟨Bx, hBx, bX, rfl⟩ hj
    have hsz1 := hB1.size
    obtain ⟨g, hg⟩ : ∃ g, a4 = some ⟨g, 0, none⟩ := by
      rcases hv.2 with ⟨e1, e2⟩ | ⟨g, cap, cur, e1, _⟩
      · omega
      · cases e1; exact ⟨g, rfl⟩
    subst hg
    have hgX : g < X := hvI g rfl
    obtain ⟨C, hC⟩ : ∃ C : World → Prop, C = Below W.heap.size W := ⟨_, rfl⟩
    have HCd : Hid (C W.drew) := by show C _; rw [hC]; exact (Below.refl _ W).drew
    have HCB : Hid (∀ V, C V → Below W.heap.size W V) := fun V hV => by rw [hC] at hV; exact hV
    have hltX : Bx < W.heap.size := (Array.getElem?_eq_some_iff.1 bX).1
    have HL3 : Hid (∀ V, C V → (loadVar 3 ⟨X + 1, 0, none⟩).run Tryd.prog V = .ok (.int .i64 (pre.length : Int)) V) := fun V hV => load3 (((HCB.out V hV).cell (p := ⟨X + 1, 0, none⟩) bI.lt).trans bI.cell)
    have HL59 : Hid (∀ V, C V → (loadVar 59 ⟨X, 0, none⟩).run Tryd.prog V = .ok (.slice (some ⟨g, 0, none⟩) k c4) V) := fun V hV => load59 (((HCB.out V hV).cell (p := ⟨X, 0, none⟩) (by show X < _; omega)).trans ((hB1.cell (p := ⟨X, 0, none⟩) (by show X < _; omega)).trans hX.cell))
    have HL23 : Hid (∀ V, C V → (loadVar 23 ⟨Bx, 0, none⟩).run Tryd.prog V = .ok (.agg (u8s x.1)) V) := fun V hV => run_loadVar_row _ _ 23 23 _ (0, 0) _ (((HCB.out V hV).block _ hltX).trans bX) Tryd.underlying23 rfl (by rw [size_u8s, x.2.1]; kernel_rfl)
    have HL62 : Hid (∀ V, C V → (loadVar 62 ⟨g, pre.length * 8, none⟩).run Tryd.prog V = .ok (.agg (u32s (stB zs (pre.length + 1)))) V) := fun V hV => by
      refine load_st (base := base4) (cap := c4) ?_ pre.length hj
      rcases hv.2 with ⟨e1, e2⟩ | ⟨g', cap, cur, e1, e2, e3, e4⟩
      · omega
      · refine ⟨hv.1, .inr ⟨g', cap, cur, e1, e2, ?_, e4⟩⟩
        cases e1
        exact ((HCB.out V hV).block _ (by omega)).trans ((hB1.block _ (by omega)).trans e3)
    obtain ⟨q8, qw⟩ := stB_ok zs (pre.length + 1)
    have HC33 : Hid (∀ V, C V → Calls Tryd.prog 33 #[.agg (u32s (stB zs (pre.length + 1)))] V fun e w' => e = .returned (.agg (u8s (bytesI (stB zs (pre.length + 1))))) ∧ C w') := fun V hV => (rbytes_any _ V q8 qw).mono fun e w' ⟨h1, h2⟩ => ⟨h1, by rw [hC] at hV ⊢; exact hV.trans (h2.mono hV.size)⟩
    obtain ⟨rr, hr1, hr2⟩ := neq32_all x.1 (bytesI (stB zs (pre.length + 1))) x.2.1 x.2.2 (by rw [bytes_len, q8]) (bytes_byt _)
    have HRE : Hid (∀ W, (Op.equalIn 10000 23 (.agg (u8s x.1)) (.agg (u8s (bytesI (stB zs (pre.length + 1)))))).run Tryd.prog W = .ok rr W) := hr1
    have HW2 : Hid (rr = false → Wrong zs k (pre ++ [x])) := fun h => ⟨pre, x, rfl, hj, fun h' => by rw [hr2 h'] at h; cases h⟩
    have bR : Boxed W R 4 (.bool false) := (hB1.block _ (by omega)).trans hR
    have HBP : Hid (∀ V, C V → Boxed V (X + 2) 44 pv) := fun V hV => ((HCB.out V hV).block _ bP.lt).trans bP
    have HBR : Hid (∀ V, C V → Boxed V R 4 (.bool false) ∧ Boxed V (X + 1) 3 (.int .i64 (pre.length : Int))) := fun V hV => ⟨((HCB.out V hV).block _ bR.lt).trans bR, ((HCB.out V hV).block _ bI.lt).trans bI⟩
    generalize stB zs (pre.length + 1) = ST at *
    generalize bytesI ST = DG at *
    have hji : (pre.length : Int) < (k : Int) := by omega
    have hdk : decide (k ≤ pre.length) = false := by simp; omega
    have hji0 : (0 : Int) ≤ (pre.length : Int) := by omega
    clear hr1 hr2 hC hX hv hvI bX
    gi_wp2_with fail
    refine region_round C (by kernel_rfl) (by kernel_rfl) (by kernel_rfl) HCd.out ?_
    (go_big_quiet_want; refine quiet_loadC 3 _ rfl ⟨X + 1, 0, none⟩ rfl _ HL3.out ?_; go_big_quiet_on)
    simp only [Act.put, List.setIfInBounds_toArray, List.set_cons_succ, List.set_cons_zero]
    (go_big_quiet_want; refine quiet_loadC 59 _ rfl ⟨X, 0, none⟩ rfl _ HL59.out ?_; go_big_quiet_on)
    simp only [Act.put, List.setIfInBounds_toArray, List.set_cons_succ, List.set_cons_zero]
    (go_big_quiet_want; go_big_quiet_op; first | go_big_quiet_on | (refine ⟨_, fun _ _ => rfl, ?_⟩; go_big_quiet_on))
    (go_big_quiet_want; go_big_quiet_op; first | go_big_quiet_on | (refine ⟨_, fun _ _ => rfl, ?_⟩; go_big_quiet_on))
    (go_big_quiet_want; go_big_quiet_op; first | go_big_quiet_on | (refine ⟨_, fun _ _ => rfl, ?_⟩; go_big_quiet_on))
    try simp only [hdk]
    (go_big_quiet_want; refine quiet_loadC 23 _ rfl ⟨Bx, 0, none⟩ rfl _ HL23.out ?_; go_big_quiet_on)
    simp only [Act.put, List.setIfInBounds_toArray, List.set_cons_succ, List.set_cons_zero]
    (go_big_quiet_want; refine quiet_loadC 59 _ rfl ⟨X, 0, none⟩ rfl _ HL59.out ?_; go_big_quiet_on)
    simp only [Act.put, List.setIfInBounds_toArray, List.set_cons_succ, List.set_cons_zero]
    (go_big_quiet_want; refine quiet_loadC 3 _ rfl ⟨X + 1, 0, none⟩ rfl _ HL3.out ?_; go_big_quiet_on)
    simp only [Act.put, List.setIfInBounds_toArray, List.set_cons_succ, List.set_cons_zero]
    (go_big_quiet_want; go_big_quiet_op; first | go_big_quiet_on | (refine ⟨_, fun _ _ => rfl, ?_⟩; go_big_quiet_on))
    (go_big_quiet_want; refine quiet_loadC 62 _ rfl ⟨g, pre.length * 8, none⟩ rfl _ HL62.out ?_; go_big_quiet_on)
    simp only [Act.put, List.setIfInBounds_toArray, List.set_cons_succ, List.set_cons_zero]
    (go_big_quiet_want; go_big_quiet_op; refine ⟨_, HC33.out, ?_⟩; go_big_quiet_on)
    (go_big_quiet_want; refine quiet_neqC _ _ rfl _ _ rfl rfl rr HRE.out ?_; go_big_quiet_on)
    simp only [Act.put, List.setIfInBounds_toArray, List.set_cons_succ, List.set_cons_zero]
    cases rr
    · (go_big_quiet_want; go_big_quiet_op; first | go_big_quiet_on | (refine ⟨_, fun _ _ => rfl, ?_⟩; go_big_quiet_on))
      refine wpQuiet_nil ?_
      intro w' hw'
      obtain ⟨b1, b2⟩ := HBR.out w' hw'
      have c1 := b1.cell
      have f1 := b1.frozen
      gi_wp2_with fail
      exact ⟨((keeps_below (HCB.out w' hw')).trans (KeepsOthers.setCell _ _ _)).from _, HW2.out trivial⟩
    · (go_big_quiet_want; go_big_quiet_op; first | go_big_quiet_on | (refine ⟨_, fun _ _ => rfl, ?_⟩; go_big_quiet_on))
      refine wpQuiet_nil ?_
      intro w' hw'
      obtain ⟨b1, b2⟩ := HBR.out w' hw'
      have c1 := b2.cell
      have f1 := b2.frozen
      have hbw := (HCB.out w' hw').mono (show X + 1 ≤ W.heap.size by omega)
      gi_wp2_with fail
      refine ⟨((keeps_below (HCB.out w' hw')).trans (KeepsOthers.setCell _ _ _)).from _, hbw.setCell (p := ⟨X + 1, 0, none⟩) (Nat.le_refl (X + 1)) _, ⟨?_, (HBP.out w' hw').other (by omega) _⟩, (hB1.trans hbw).setCell (p := ⟨X + 1, 0, none⟩) (Nat.le_refl (X + 1)) _⟩
      have hset := b2.set (.int .i64 ((pre.length : Int) + 1))
      rw [show (((pre ++ [x]).length : Nat) : Int) = (pre.length : Int) + 1 by simp]
      exact hset
  case done =>
    rintro D' xs W hD rfl ⟨⟨bI, bP⟩, hB1⟩ hK
    rw [digs_len] at bI
    exact hQ D' W hD bI bP hB1 hK
  case stop =>
    rintro D' c pre W _ ⟨m, rfl⟩ h _
    have h' : Wrong zs k ((digs (zs ++ []) k).take m) := by rw [List.append_nil]; exact h
    exact (not_wrong zs [] k k m h64 h').elim
end Go.Proofs.YtfdmepblhlifcaaDoor
