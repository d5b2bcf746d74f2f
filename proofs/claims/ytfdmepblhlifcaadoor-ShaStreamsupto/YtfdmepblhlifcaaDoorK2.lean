/- The law of blocks: the first range. -/
import Derived.Test.YtfdmepblhlifcaaDoorK1
namespace Go.Proofs.YtfdmepblhlifcaaDoor
open Go.RowKit Go.Shelf
set_option linter.unusedVariables false
set_option linter.unusedSimpArgs false
attribute [local go_sem] Oper.semAt_some

def flatL (ds : List Dig) : List Value := ds.flatMap fun x => u8l x.1
theorem flat_digs (zs : List Int) : ∀ k, flatL (digs zs k) = flatD zs k
  | 0 => rfl
  | k + 1 => by unfold digs flatD; rw [← flat_digs zs k]; simp [flatL]

abbrev frame1 (s1 s2 : Option Addr) (l1 c1 l2 c2 p1 p2 R X : Nat) : Array Value := #[Value.slice s1 l1 c1, Value.slice s2 l2 c2, undef, undef, Value.pointer (some { block := R, off := 0 }), Value.pointer (some { block := p1, off := 0 }), Value.pointer (some { block := p2, off := 0 }), Value.pointer (some { block := X, off := 0 }), undef, undef, undef, Value.slice s1 l1 c1, Value.int IntKind.i64 ↑l1, Value.bool false, Value.bool false, Value.slice s2 l2 c2, Value.int IntKind.i64 ↑l2, Value.bool false, Value.bool false, undef, Value.pointer (some { block := p1, off := 0 }), Value.pointer (some { block := p2, off := 0 }), Value.pointer (some { block := p1, off := 0 }), Value.bool false, Value.bool false, Value.pointer (some { block := p2, off := 0 }), Value.bool false, Value.bool false, Value.pointer (some { block := p1, off := 0 }), Value.slice s1 l1 c1, Value.int IntKind.i64 0, Value.pointer (some { block := p2, off := 0 }), Value.slice s1 l1 c1, Value.int IntKind.i64 0, Value.pointer (some { block := p2, off := 0 }), Value.slice s2 l2 c2, Value.int IntKind.i64 0, Value.pointer (some { block := p1, off := 0 }), Value.func (Fn.func 46) #[] #[Value.pointer (some { block := X + 1, off := 0 })], undef, undef, undef, undef, undef, undef, undef, undef, undef, undef, undef, undef, undef, undef, undef, undef, undef, undef, undef, undef, undef, undef, undef, undef, undef, undef, undef, undef, undef, undef, undef, undef, undef, undef, undef, undef, undef, undef, undef, undef, undef]

set_option maxRecDepth 100000 in
set_option maxHeartbeats 4000000 in
theorem first_range (s1 s2 : Option Addr) (l1 c1 l2 c2 p1 p2 R X base : Nat) (pv : Value) (zs : List Int) (k : Nat) (W0 : World) (Q : Exit → Act → World → Prop) (hk : (k : Int) ≤ 100000) (hX : Boxed W0 X 44 (.slice none 0 0)) (hX2 : W0.heap.size = X + 2) (hc : W0.cell? ⟨X + 1, 0, none⟩ = some pv)
    (ho : W0.ownsRow base 23 32 pv k (flatD zs k)) (hpv : ∀ g, pv.ownBlock = some g → g < X)
    (hQ : ∀ D W v, W0.heap.size ≤ D → Boxed W X 44 v → W.ownsRow X 23 32 v k (flatD zs k) → Below X W0 W → W.heap[D]? = some (.deferred (some [])) → Q .normal { tmps := frame1 s1 s2 l1 c1 l2 c2 p1 p2 R X, defers := [{ target := .collected D, args := #[] }] } W) :
    Code.wpIn Fence.wide 5 Tryd.prog
    (Code.rangeFunc (Operand.tmp 38) #[39]
      (Code.region 12
        #[{ dst := some 8, op := Op.alloc 23, type := 0, pos := "law.go:113", after := #[], guard := none },
          { dst := none, op := Op.store 23 (Operand.tmp 8) (Operand.tmp 39), type := 0, pos := "law.go:113",
            after := #[{ on := 0, ground := Ground.data }, { on := 0, ground := Ground.phase }], guard := none }]
        false)
      (Code.block 1
        (Code.region 13
          #[{ dst := some 40, op := Op.load 44 (Operand.tmp 7), type := 44, pos := "law.go:114", after := #[],
              guard := none },
            { dst := some 41, op := Op.load 23 (Operand.tmp 8), type := 23, pos := "law.go:114", after := #[],
              guard := none },
            { dst := some 42, op := Op.buildSlice 44 1 #[(0, Operand.tmp 41)], type := 44, pos := "law.go:114",
              after := #[{ on := 1, ground := Ground.data }], guard := none },
            { dst := some 43,
              op :=
                Op.call
                  { callee := Callee.builtin Builtin.append, args := #[Operand.tmp 40, Operand.tmp 42],
                    argTypes := #[44, 44] },
              type := 44, pos := "law.go:114",
              after := #[{ on := 0, ground := Ground.data }, { on := 2, ground := Ground.data }], guard := none },
            { dst := none, op := Op.store 44 (Operand.tmp 7) (Operand.tmp 43), type := 0, pos := "law.go:114",
              after :=
                #[{ on := 3, ground := Ground.data }, { on := 3, ground := Ground.chain },
                  { on := 0, ground := Ground.phase }, { on := 1, ground := Ground.phase },
                  { on := 2, ground := Ground.phase }, { on := 3, ground := Ground.phase }],
              guard := none }]
          false)))
    Q { tmps := frame1 s1 s2 l1 c1 l2 c2 p1 p2 R X, defers := [] } W0 := by
  obtain ⟨i0, hi, hz0, hz1, hz2⟩ := info_parts info23
  refine wpIn_rangeFunc_ownH rfl (by omega) (gf := 46) (lb := #[.pointer (some ⟨X + 1, 0, none⟩)]) rfl trivial (enters_of Tryd.func46 (by kernel_rfl) rfl)
    (vals_seq _ (X + 1) X base pv zs k W0 (by omega) (by omega) (by omega) hc ho hpv) belowK_t (belowK_b (by omega)) (Below.refl _ _) (fun _ => rfl)
    (fun pre W => (∃ v, Boxed W X 44 v ∧ W.ownsRow X 23 32 v pre.length (flatL pre) ∧ True) ∧ Below X W0 W)
    (fun _ _ _ => False)
    (OwnFrom.and (Own.from (holdsRow_own X X 44 23 32 (fun pre : List Dig => pre.length) flatL (fun _ _ => True)) _) (ownFrom_below (by omega) (by omega)))
    (fun _ _ _ _ _ hs _ _ => hs)
    ⟨⟨_, hX, World.ownsRow_nil _ _ _ _, trivial⟩, Below.refl _ _⟩
    (fun x a' W => ∃ Bx, X + 1 < Bx ∧ W.heap[Bx]? = some (.cells (u8s x.1) 23 (0, 0)) ∧ a' = { tmps := #[Value.slice s1 l1 c1, Value.slice s2 l2 c2, undef, undef, Value.pointer (some { block := R, off := 0 }), Value.pointer (some { block := p1, off := 0 }), Value.pointer (some { block := p2, off := 0 }), Value.pointer (some { block := X, off := 0 }), .pointer (some ⟨Bx, 0, none⟩), undef, undef, Value.slice s1 l1 c1, Value.int IntKind.i64 ↑l1, Value.bool false, Value.bool false, Value.slice s2 l2 c2, Value.int IntKind.i64 ↑l2, Value.bool false, Value.bool false, undef, Value.pointer (some { block := p1, off := 0 }), Value.pointer (some { block := p2, off := 0 }), Value.pointer (some { block := p1, off := 0 }), Value.bool false, Value.bool false, Value.pointer (some { block := p2, off := 0 }), Value.bool false, Value.bool false, Value.pointer (some { block := p1, off := 0 }), Value.slice s1 l1 c1, Value.int IntKind.i64 0, Value.pointer (some { block := p2, off := 0 }), Value.slice s1 l1 c1, Value.int IntKind.i64 0, Value.pointer (some { block := p2, off := 0 }), Value.slice s2 l2 c2, Value.int IntKind.i64 0, Value.pointer (some { block := p1, off := 0 }), Value.func (Fn.func 46) #[] #[Value.pointer (some { block := X + 1, off := 0 })], .agg (u8s x.1), undef, undef, undef, undef, undef, undef, undef, undef, undef, undef, undef, undef, undef, undef, undef, undef, undef, undef, undef, undef, undef, undef, undef, undef, undef, undef, undef, undef, undef, undef, undef, undef, undef, undef, undef, undef, undef, undef, undef, undef], defers := [] })
    (fun x a' _ X' Y row hs hg hr => by obtain ⟨Bx, h1, h2, h3⟩ := hs; exact ⟨Bx, h1, row_own Bx 23 (fun (_ : Unit) => u8s x.1) () X' Y row h2 hg (fun r e => (hr r e).2), h3⟩)
    ?assign ?body ?done ?stop
  case assign =>
    rintro l pre x W K ⟨⟨v, bv, ov, _⟩, hB1⟩ hK
    have hsz1 := hB1.size
    have hltX := bv.lt
    gi_wp2_with (refine wpListIn_storeV rfl 23 _ _ rfl ⟨W.heap.size, 0, none⟩ rfl (.agg (u8s x.1)) rfl (run_storeVar_row _ W.heap.size 23 23 _ (u8s x.1) (Go.heap_alloc_new _ _) ?s1 ?s2 (one_u8s _)) ?_)
    case s1 => rw [size_u8s, x.2.1]
    case s2 => rw [size_u8s, x.2.1]
    refine hK _ _ (((KeepsOthers.alloc _ _).trans (keeps_setRow _ _ _ _ _ (Go.heap_alloc_new _ _))).from _) (below_setRow ((Below.refl _ W).alloc (by omega) _) (by show X ≤ W.heap.size; omega) _) ⟨⟨v, ?_, ?_, trivial⟩, below_setRow (hB1.alloc (by omega) _) (by show X ≤ W.heap.size; omega) _⟩ ⟨W.heap.size, by omega, setRow_heap _ _ _ _ _ _ (Go.heap_alloc_new _ _), rfl⟩
    · exact (setRow_other _ _ _ _ (by omega)).trans ((Below.heap_alloc _ _ _ hltX).trans bv)
    · exact own_kept ov fun g hg hlt => (setRow_other _ _ _ _ (by omega)).trans (Below.heap_alloc _ _ _ hlt)
  case body =>
    rintro l pre x a' W hl ⟨r, hr⟩ ⟨⟨v, bv, ov, _⟩, hB1⟩ ⟨Bx, hBx, bX, rfl⟩ hlt
    have hsz1 := hB1.size
    have cX := bv.cell
    have hf32 := fold32 x.1 x.2.1
    have e32 : (u8s x.1).size = 32 := by rw [size_u8s, x.2.1]
    rw [e32] at hf32
    gi_wp2_with (first | (refine wpListIn_loadV rfl 23 _ rfl ⟨Bx, 0, none⟩ rfl _ (run_loadVar_row _ _ 23 23 _ (0, 0) _ bX Tryd.underlying23 rfl ?s2) ?_) | (refine wpListIn_append_own _ rfl (.tmp 40) (.tmp 42) 44 rfl X 23 i0 (.agg (u8s (List.replicate 32 0))) 32 32 Tryd.underlying44 hi hz0 hz1 hz2 rfl (by decide) v pre.length (flatL pre) rfl (ov.alloc _) ⟨W.heap.size, 0, none⟩ 1 1 (u8l x.1) rfl (by rw [u8l_len, x.2.1]) (World.news_of_block (Go.heap_alloc_new _ _)) (u8l_one _) (by unfold maxLen; omega) (by omega) (by simp; omega) ?_; intro v' w1 hown' hgrow _; obtain ⟨g', cap', rfl⟩ := ownsRow_succ hown'; obtain ⟨b1, b2, b3, b4, b5⟩ := bv.appended (by decide) ov (by omega) (Nat.le_refl _) hown' hgrow; have c1 := b1.cell; have f1 := b1.frozen))
    case s2 => rw [size_u8s, x.2.1]; kernel_rfl
    refine ⟨b4.from _, b5, ⟨⟨_, b2, ?_, trivial⟩, hB1.trans b5⟩⟩
    rw [List.length_append]
    have : flatL (pre ++ [x]) = flatL pre ++ u8l x.1 := by simp [flatL]
    rw [this]
    exact b3
  case done =>
    rintro D xs W hD rfl ⟨⟨v, bv, ov, _⟩, hB1⟩ hK
    rw [digs_len, flat_digs] at ov
    exact hQ D W v hD bv ov hB1 hK
  case stop =>
    rintro D c pre W _ _ h _
    exact h.elim
end Go.Proofs.YtfdmepblhlifcaaDoor
