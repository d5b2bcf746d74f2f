/- alike: the first range of a round. -/
import Derived.Test.YtnghgclogeefgaaA1
namespace Go.Proofs.Ytnghgclogeefgaa
open Go.RowKit Go.Shelf
set_option linter.unusedVariables false
set_option linter.unusedSimpArgs false
attribute [local go_sem] Oper.semAt_some

def Bad (pre : List Int) : Prop := ∃ p x, pre = p ++ [x] ∧ x ≤ p.getLastD 0
abbrev frameA (Bx Br Bi X B : Nat) (u0 u1 u2 u6 u10 u11 u12 u13 u14 u15 u16 u17 u18 u19 u20 u21 u22 u23 u24 u25 u26 u27 u28 u29 u30 u31 u32 u33 u34 u35 u36 u37 u38 u39 u40 u41 u43 u44 u45 u46 u47 u48 u49 u50 u51 u52 u53 u54 u55 u56 u57 u58 u59 u60 u61 u62 u63 u64 u65 u66 u67 u68 u69 u70 u71 u72 u73 u74 u75 u76 u77 u78 u79 u80 u81 u82 u83 u84 u85 u86 u87 u88 u89 u90 u91 u92 u93 u94 u95 u96 u97 u98 u99 u100 u101 : Value) : Array Value := #[u0, u1, u2, Value.pointer (some { block := Bx, off := 0 }), Value.pointer (some { block := Br, off := 0 }), Value.pointer (some { block := Bi, off := 0 }), u6, Value.pointer (some { block := X, off := 0 }), Value.pointer (some { block := (X + 1), off := 0 }), Value.pointer (some { block := (X + 2), off := 0 }), u10, u11, u12, u13, u14, u15, u16, u17, u18, u19, u20, u21, u22, u23, u24, u25, u26, u27, u28, u29, u30, u31, u32, u33, u34, u35, u36, u37, u38, u39, u40, u41, Value.func (Fn.func 51) #[] #[Value.pointer (some { block := B, off := 0 })], u43, u44, u45, u46, u47, u48, u49, u50, u51, u52, u53, u54, u55, u56, u57, u58, u59, u60, u61, u62, u63, u64, u65, u66, u67, u68, u69, u70, u71, u72, u73, u74, u75, u76, u77, u78, u79, u80, u81, u82, u83, u84, u85, u86, u87, u88, u89, u90, u91, u92, u93, u94, u95, u96, u97, u98, u99, u100, u101]

theorem fin1 {V0 W : World} {X : Nat} {pre : List Int} {x num q : Int} {hb hb' : Bool} (jH : Boxed W X 4 (.bool hb)) (jL : Boxed W (X + 1) 2 (.int .i64 q)) (jN : Boxed W (X + 2) 3 (.int .i64 (pre.length : Int))) (hB : Below X V0 W) (he : decide (num ∈ pre ++ [x]) = hb') {W' : World}
    (hW : (((W.setCell ⟨X + 1, 0, none⟩ (.int .i64 x)).setCell ⟨X, 0, none⟩ (.bool hb')).drew).setCell ⟨X + 2, 0, none⟩ (.int .i64 ((pre.length : Int) + 1)) = W') :
    KeepsFrom V0.heap.size W W' ∧ Below X W W' ∧ (((Boxed W' X 4 (.bool (decide (num ∈ pre ++ [x]))) ∧ Boxed W' (X + 1) 2 (.int .i64 ((pre ++ [x]).getLastD 0))) ∧ Boxed W' (X + 2) 3 (.int .i64 ((pre ++ [x]).length : Int))) ∧ Below X V0 W') := by
  subst hW
  have h1 : Below X W ((((W.setCell ⟨X + 1, 0, none⟩ (.int .i64 x)).setCell ⟨X, 0, none⟩ (.bool hb')).drew).setCell ⟨X + 2, 0, none⟩ (.int .i64 ((pre.length : Int) + 1))) :=
    ((((Below.refl X W).setCell (p := ⟨X + 1, 0, none⟩) (by show X ≤ X + 1; omega) _).setCell (p := ⟨X, 0, none⟩) (Nat.le_refl X) _).drew).setCell (p := ⟨X + 2, 0, none⟩) (by show X ≤ X + 2; omega) _
  refine ⟨(((KeepsOthers.setCell _ _ _).trans (KeepsOthers.setCell _ _ _)).trans ((KeepsOthers.drew _).trans (KeepsOthers.setCell _ _ _))).from _, h1, ⟨⟨⟨?_, ?_⟩, ?_⟩, hB.trans h1⟩⟩
  · rw [he]
    have k1 : Boxed (W.setCell ⟨X + 1, 0, none⟩ (.int .i64 x)) X 4 (.bool hb) := (Below.heap_setCell _ _ _ _ (by show X ≠ X + 1; omega)).trans jH
    have k2 := k1.set (.bool hb')
    exact (Below.heap_setCell _ _ _ _ (by show X ≠ X + 2; omega)).trans k2
  · rw [show (pre ++ [x]).getLastD 0 = x by simp]
    have k1 := jL.set (.int .i64 x)
    have k2 : Boxed ((W.setCell ⟨X + 1, 0, none⟩ (.int .i64 x)).setCell ⟨X, 0, none⟩ (.bool hb')) (X + 1) 2 (.int .i64 x) := (Below.heap_setCell _ _ _ _ (by show X + 1 ≠ X; omega)).trans k1
    exact (Below.heap_setCell _ _ _ _ (by show X + 1 ≠ X + 2; omega)).trans k2
  · rw [show (((pre ++ [x]).length : Nat) : Int) = (pre.length : Int) + 1 by simp]
    have k1 : Boxed (W.setCell ⟨X + 1, 0, none⟩ (.int .i64 x)) (X + 2) 3 (.int .i64 (pre.length : Int)) := (Below.heap_setCell _ _ _ _ (by show X + 2 ≠ X + 1; omega)).trans jN
    have k2 : Boxed ((W.setCell ⟨X + 1, 0, none⟩ (.int .i64 x)).setCell ⟨X, 0, none⟩ (.bool hb')).drew (X + 2) 3 (.int .i64 (pre.length : Int)) := (Below.heap_setCell _ _ _ _ (by show X + 2 ≠ X; omega)).trans k1
    exact k2.set _
set_option maxRecDepth 100000 in
set_option maxHeartbeats 4000000 in
theorem rng1 {u0 u1 u2 u6 u10 u11 u12 u13 u14 u15 u16 u17 u18 u19 u20 u21 u22 u23 u24 u25 u26 u27 u28 u29 u30 u31 u32 u33 u34 u35 u36 u37 u38 u39 u40 u41 u43 u44 u45 u46 u47 u48 u49 u50 u51 u52 u53 u54 u55 u56 u57 u58 u59 u60 u61 u62 u63 u64 u65 u66 u67 u68 u69 u70 u71 u72 u73 u74 u75 u76 u77 u78 u79 u80 u81 u82 u83 u84 u85 u86 u87 u88 u89 u90 u91 u92 u93 u94 u95 u96 u97 u98 u99 u100 u101 : Value} {Ds : List Deferred} (R Bx Br Bi X B g n rc base i : Nat) (num : Int) (pv : Value) (ds : List Int) (V0 : World) (Q : Exit → Act → World → Prop)
    (hsz : V0.heap.size = X + 3) (hd : (ds.length : Int) ≤ 64) (hi : (i : Int) < (n : Int)) (hn : (n : Int) ≤ 64) (hrc : (n : Int) ≤ (rc : Int))
    (cX : ∀ W, Below X V0 W → W.cell? ⟨Bx, 0, none⟩ = some (.pointer (some ⟨R, 0, none⟩))) (cI : ∀ W, Below X V0 W → W.cell? ⟨Bi, 0, none⟩ = some (.int .i64 (i : Int)))
    (cR : ∀ W, Below X V0 W → W.cell? ⟨R, 0, none⟩ = some (.slice (some ⟨g, 0, none⟩) n rc)) (cN : ∀ W, Below X V0 W → W.cell? ⟨g, i * 5, none⟩ = some (.int .i64 num))
    (bR : ∀ W, Below X V0 W → Boxed W Br 4 (.bool false)) (bH : Boxed V0 X 4 (.bool false)) (bL : Boxed V0 (X + 1) 2 (.int .i64 0)) (bN : Boxed V0 (X + 2) 3 (.int .i64 0))
    (hBX : B < X) (bB : Boxed V0 B 78 pv) (ho : V0.ownsRow base 2 1 pv ds.length (i64l ds)) (hpv : ∀ g, pv.ownBlock = some g → g < X) (hbad : ∀ m, ¬ Bad (ds.take m))
    (hQ : ∀ D W, V0.heap.size ≤ D → Boxed W X 4 (.bool (decide (num ∈ ds))) → Boxed W (X + 2) 3 (.int .i64 (ds.length : Int)) → Below X V0 W → W.heap[D]? = some (.deferred (some [])) → Q .normal { tmps := frameA Bx Br Bi X B u0 u1 u2 u6 u10 u11 u12 u13 u14 u15 u16 u17 u18 u19 u20 u21 u22 u23 u24 u25 u26 u27 u28 u29 u30 u31 u32 u33 u34 u35 u36 u37 u38 u39 u40 u41 u43 u44 u45 u46 u47 u48 u49 u50 u51 u52 u53 u54 u55 u56 u57 u58 u59 u60 u61 u62 u63 u64 u65 u66 u67 u68 u69 u70 u71 u72 u73 u74 u75 u76 u77 u78 u79 u80 u81 u82 u83 u84 u85 u86 u87 u88 u89 u90 u91 u92 u93 u94 u95 u96 u97 u98 u99 u100 u101, defers := mk D :: Ds } W) :
    Code.wpIn Fence.wide 5 Try.prog
    (Code.rangeFunc (Operand.tmp 42) #[43]
                                              (Code.region 13
                                                #[{ dst := some 10, op := Op.assign (Operand.tmp 43), type := 2,
                                                    pos := "law.go:69", after := #[], guard := none }]
                                                false)
                                              (Code.block 3
                                                (((Code.region 14
                                                          #[{ dst := some 44, op := Op.move (Operand.tmp 10), type := 2,
                                                              pos := "law.go:70", after := #[], guard := none },
                                                            { dst := some 45, op := Op.load 2 (Operand.tmp 8),
                                                              type := 2, pos := "law.go:70", after := #[],
                                                              guard := none },
                                                            { dst := some 46,
                                                              op :=
                                                                Op.binOp BinOp.leq 2 (Operand.tmp 44) (Operand.tmp 45)
                                                                  2,
                                                              type := 4, pos := "law.go:70",
                                                              after :=
                                                                #[{ on := 0, ground := Ground.data },
                                                                  { on := 1, ground := Ground.data }],
                                                              guard := none }]
                                                          false).seq
                                                      (Code.cond (Operand.tmp 46)
                                                        ((Code.region 15
                                                              #[{ dst := none,
                                                                  op :=
                                                                    Op.store 4 (Operand.tmp 4)
                                                                      (Operand.const (Value.bool false)),
                                                                  type := 0, pos := "law.go:71", after := #[],
                                                                  guard := none }]
                                                              false).seq
                                                          Code.ret)
                                                        Code.skip)).seq
                                                  ((Code.region 16
                                                        #[{ dst := some 47, op := Op.move (Operand.tmp 10), type := 2,
                                                            pos := "law.go:73", after := #[], guard := none },
                                                          { dst := none,
                                                            op := Op.store 2 (Operand.tmp 8) (Operand.tmp 47),
                                                            type := 0, pos := "law.go:73",
                                                            after :=
                                                              #[{ on := 0, ground := Ground.data },
                                                                { on := 0, ground := Ground.phase }],
                                                            guard := none }]
                                                        false).seq
                                                    ((Code.region 17
                                                          #[{ dst := some 48, op := Op.load 4 (Operand.tmp 7),
                                                              type := 4, pos := "law.go:74", after := #[],
                                                              guard := none },
                                                            { dst := some 49, op := Op.move (Operand.tmp 48), type := 4,
                                                              pos := "law.go:74",
                                                              after := #[{ on := 0, ground := Ground.data }],
                                                              guard := none },
                                                            { dst := some 50, op := Op.move (Operand.tmp 10), type := 2,
                                                              pos := "law.go:74",
                                                              after := #[{ on := 1, ground := Ground.guard }],
                                                              guard := some (1, false) },
                                                            { dst := some 51, op := Op.load 36 (Operand.tmp 3),
                                                              type := 36, pos := "law.go:74",
                                                              after := #[{ on := 1, ground := Ground.guard }],
                                                              guard := some (1, false) },
                                                            { dst := some 52, op := Op.nilCheck (Operand.tmp 51),
                                                              type := 0, pos := "law.go:74",
                                                              after :=
                                                                #[{ on := 3, ground := Ground.data },
                                                                  { on := 1, ground := Ground.guard }],
                                                              guard := some (1, false) },
                                                            { dst := some 53, op := Op.fieldAddr 39 (Operand.tmp 52) 0,
                                                              type := 0, pos := "law.go:74",
                                                              after :=
                                                                #[{ on := 4, ground := Ground.data },
                                                                  { on := 1, ground := Ground.guard }],
                                                              guard := some (1, false) },
                                                            { dst := some 54, op := Op.load 37 (Operand.tmp 53),
                                                              type := 37, pos := "law.go:74",
                                                              after :=
                                                                #[{ on := 5, ground := Ground.data },
                                                                  { on := 1, ground := Ground.guard }],
                                                              guard := some (1, false) },
                                                            { dst := some 55, op := Op.load 3 (Operand.tmp 5),
                                                              type := 3, pos := "law.go:74",
                                                              after := #[{ on := 1, ground := Ground.guard }],
                                                              guard := some (1, false) },
                                                            { dst := some 56,
                                                              op := Op.indexAddr 37 (Operand.tmp 54) (Operand.tmp 55),
                                                              type := 0, pos := "law.go:74",
                                                              after :=
                                                                #[{ on := 6, ground := Ground.data },
                                                                  { on := 7, ground := Ground.data },
                                                                  { on := 1, ground := Ground.guard }],
                                                              guard := some (1, false) },
                                                            { dst := some 57, op := Op.fieldAddr 70 (Operand.tmp 56) 0,
                                                              type := 0, pos := "law.go:74",
                                                              after :=
                                                                #[{ on := 8, ground := Ground.data },
                                                                  { on := 1, ground := Ground.guard }],
                                                              guard := some (1, false) },
                                                            { dst := some 58, op := Op.load 2 (Operand.tmp 57),
                                                              type := 2, pos := "law.go:74",
                                                              after :=
                                                                #[{ on := 9, ground := Ground.data },
                                                                  { on := 1, ground := Ground.guard }],
                                                              guard := some (1, false) },
                                                            { dst := some 59,
                                                              op :=
                                                                Op.binOp BinOp.eql 2 (Operand.tmp 50) (Operand.tmp 58)
                                                                  2,
                                                              type := 4, pos := "law.go:74",
                                                              after :=
                                                                #[{ on := 2, ground := Ground.data },
                                                                  { on := 10, ground := Ground.data },
                                                                  { on := 1, ground := Ground.guard }],
                                                              guard := some (1, false) },
                                                            { dst := some 60,
                                                              op :=
                                                                Op.pick (Operand.tmp 49)
                                                                  (Operand.const (Value.bool true)) (Operand.tmp 59),
                                                              type := 4, pos := "law.go:74",
                                                              after :=
                                                                #[{ on := 1, ground := Ground.data },
                                                                  { on := 11, ground := Ground.data }],
                                                              guard := none },
                                                            { dst := none,
                                                              op := Op.store 4 (Operand.tmp 7) (Operand.tmp 60),
                                                              type := 0, pos := "law.go:74",
                                                              after :=
                                                                #[{ on := 12, ground := Ground.data },
                                                                  { on := 1, ground := Ground.chain },
                                                                  { on := 0, ground := Ground.phase },
                                                                  { on := 1, ground := Ground.phase },
                                                                  { on := 2, ground := Ground.phase },
                                                                  { on := 3, ground := Ground.phase },
                                                                  { on := 4, ground := Ground.phase },
                                                                  { on := 5, ground := Ground.phase },
                                                                  { on := 6, ground := Ground.phase },
                                                                  { on := 7, ground := Ground.phase },
                                                                  { on := 8, ground := Ground.phase },
                                                                  { on := 9, ground := Ground.phase },
                                                                  { on := 10, ground := Ground.phase },
                                                                  { on := 11, ground := Ground.phase },
                                                                  { on := 12, ground := Ground.phase }],
                                                              guard := none }]
                                                          true).seq
                                                      (Code.region 18
                                                        #[{ dst := some 61, op := Op.load 3 (Operand.tmp 9), type := 3,
                                                            pos := "law.go:75", after := #[], guard := none },
                                                          { dst := some 62,
                                                            op :=
                                                              Op.binOp BinOp.add 3 (Operand.tmp 61)
                                                                (Operand.const (Value.int IntKind.i64 1)) 3,
                                                            type := 3, pos := "law.go:75",
                                                            after := #[{ on := 0, ground := Ground.data }],
                                                            guard := none },
                                                          { dst := none,
                                                            op := Op.store 3 (Operand.tmp 9) (Operand.tmp 62),
                                                            type := 0, pos := "law.go:75",
                                                            after :=
                                                              #[{ on := 1, ground := Ground.data },
                                                                { on := 0, ground := Ground.phase },
                                                                { on := 1, ground := Ground.phase }],
                                                            guard := none }]
                                                        false))))))
    Q { tmps := frameA Bx Br Bi X B u0 u1 u2 u6 u10 u11 u12 u13 u14 u15 u16 u17 u18 u19 u20 u21 u22 u23 u24 u25 u26 u27 u28 u29 u30 u31 u32 u33 u34 u35 u36 u37 u38 u39 u40 u41 u43 u44 u45 u46 u47 u48 u49 u50 u51 u52 u53 u54 u55 u56 u57 u58 u59 u60 u61 u62 u63 u64 u65 u66 u67 u68 u69 u70 u71 u72 u73 u74 u75 u76 u77 u78 u79 u80 u81 u82 u83 u84 u85 u86 u87 u88 u89 u90 u91 u92 u93 u94 u95 u96 u97 u98 u99 u100 u101, defers := Ds } V0 := by
  refine wpIn_rangeFunc_ownH rfl (by omega) (gf := 51) (lb := #[.pointer (some ⟨B, 0, none⟩)]) rfl trivial (enters_of Try.func51 (by kernel_rfl) rfl)
    (nums_seq _ B X base pv ds V0 (by omega) (by omega) (by omega) bB.cell ho hpv) belowK_t (belowK_b (by omega)) (Below.refl _ _) (fun _ => rfl)
    (fun pre W => ((Boxed W X 4 (.bool (decide (num ∈ pre))) ∧ Boxed W (X + 1) 2 (.int .i64 (pre.getLastD 0))) ∧ Boxed W (X + 2) 3 (.int .i64 (pre.length : Int))) ∧ Below X V0 W)
    (fun c pre W => Bad pre)
    (OwnFrom.and (OwnFrom.and (OwnFrom.and (Own.from (boxed_own X 4 (fun pre : List Int => .bool (decide (num ∈ pre)))) _) (Own.from (boxed_own (X + 1) 2 (fun pre : List Int => .int .i64 (pre.getLastD 0))) _)) (Own.from (boxed_own (X + 2) 3 (fun pre : List Int => .int .i64 (pre.length : Int))) _)) (ownFrom_below (by omega) (by omega)))
    (fun _ _ _ _ _ hs _ _ => hs)
    ⟨⟨⟨by simpa using bH, by simpa using bL⟩, by simpa using bN⟩, Below.refl _ _⟩
    (fun x a' W => a' = { tmps := #[u0, u1, u2, Value.pointer (some { block := Bx, off := 0 }), Value.pointer (some { block := Br, off := 0 }), Value.pointer (some { block := Bi, off := 0 }), u6, Value.pointer (some { block := X, off := 0 }), Value.pointer (some { block := (X + 1), off := 0 }), Value.pointer (some { block := (X + 2), off := 0 }), Value.int IntKind.i64 x, u11, u12, u13, u14, u15, u16, u17, u18, u19, u20, u21, u22, u23, u24, u25, u26, u27, u28, u29, u30, u31, u32, u33, u34, u35, u36, u37, u38, u39, u40, u41, Value.func (Fn.func 51) #[] #[Value.pointer (some { block := B, off := 0 })], Value.int IntKind.i64 x, u44, u45, u46, u47, u48, u49, u50, u51, u52, u53, u54, u55, u56, u57, u58, u59, u60, u61, u62, u63, u64, u65, u66, u67, u68, u69, u70, u71, u72, u73, u74, u75, u76, u77, u78, u79, u80, u81, u82, u83, u84, u85, u86, u87, u88, u89, u90, u91, u92, u93, u94, u95, u96, u97, u98, u99, u100, u101], defers := [] })
    (fun x a' _ X' Y row hs hg hr => hs)
    ?assign ?body ?done ?stop
  case assign =>
    rintro l pre x W K hB1 hK
    gi_wp2_with fail
    exact hK _ _ (KeepsFrom.refl _ _) (Below.refl _ _) hB1 rfl
  case body =>
    rintro l pre x a' W hl ⟨r, hr⟩ ⟨⟨⟨jH, jL⟩, jN⟩, hB1⟩ rfl hlt
    obtain ⟨q, hq⟩ : ∃ q, pre.getLastD 0 = q := ⟨_, rfl⟩
    obtain ⟨hb, hhb⟩ : ∃ hb, decide (num ∈ pre) = hb := ⟨_, rfl⟩
    rw [hq] at jL
    rw [hhb] at jH
    have HQ : Hid (pre.getLastD 0 = q ∧ decide (num ∈ pre) = hb) := ⟨hq, hhb⟩
    have HJ : Hid (Boxed W X 4 (.bool hb) ∧ Boxed W (X + 1) 2 (.int .i64 q) ∧ Boxed W (X + 2) 3 (.int .i64 (pre.length : Int)) ∧ Below X V0 W) := ⟨jH, jL, jN, hB1⟩
    have cL := jL.cell
    have fL := jL.frozen
    have bR1 := bR W hB1
    have cR1 := bR1.cell
    have fR1 := bR1.frozen
    have HLT : Hid (pre.length < ds.length) := hlt
    by_cases hx : x ≤ q
    · have HB : Hid (Bad (pre ++ [x])) := ⟨pre, x, rfl, by rw [hq]; exact hx⟩
      clear jH jL jN hB1 hq hhb
      gi_wp2_with fail
      exact ⟨(KeepsOthers.setCell _ _ _).from _, HB.out⟩
    · have HX : Hid (¬ x ≤ q) := hx
      clear jH jL jN hB1 hq hhb
      gi_wp2_with fail
      obtain ⟨W1, hW1⟩ : ∃ W1, W.setCell ⟨X + 1, 0, none⟩ (.int .i64 x) = W1 := ⟨_, rfl⟩
      have HW1 : Hid (W.setCell ⟨X + 1, 0, none⟩ (.int .i64 x) = W1) := hW1
      rw [hW1]
      have hbW : Below X W W1 := by rw [← hW1]; exact (Below.refl X W).setCell (p := ⟨X + 1, 0, none⟩) (by show X ≤ X + 1; omega) _
      have hb1 : Below X V0 W1 := HJ.out.2.2.2.trans hbW
      have kH : Boxed W1 X 4 (.bool hb) := by rw [← hW1]; exact (Below.heap_setCell _ _ _ _ (by show X ≠ X + 1; omega)).trans HJ.out.1
      have kL : Boxed W1 (X + 1) 2 (.int .i64 x) := by rw [← hW1]; exact HJ.out.2.1.set _
      have kN : Boxed W1 (X + 2) 3 (.int .i64 (pre.length : Int)) := by rw [← hW1]; exact (Below.heap_setCell _ _ _ _ (by show X + 2 ≠ X + 1; omega)).trans HJ.out.2.2.1
      have HK : Hid (Boxed W1 X 4 (.bool hb) ∧ Boxed W1 (X + 1) 2 (.int .i64 x) ∧ Boxed W1 (X + 2) 3 (.int .i64 (pre.length : Int)) ∧ Below X V0 W1 ∧ Below X W W1) := ⟨kH, kL, kN, hb1, hbW⟩
      have d1 : W1.drew.cell? ⟨X, 0, none⟩ = some (.bool hb) := kH.cell
      have d2 : W1.drew.frozen? ⟨X, 0, none⟩ = false := kH.frozen
      have d3 : W1.drew.cell? ⟨Bx, 0, none⟩ = some (.pointer (some ⟨R, 0, none⟩)) := cX W1 hb1
      have d4 : W1.drew.cell? ⟨Bi, 0, none⟩ = some (.int .i64 (i : Int)) := cI W1 hb1
      have d5 : W1.drew.cell? ⟨R, 0, none⟩ = some (.slice (some ⟨g, 0, none⟩) n rc) := cR W1 hb1
      have d6 : W1.drew.cell? ⟨g, i * 5, none⟩ = some (.int .i64 num) := cN W1 hb1
      have i0 : (0 : Int) ≤ (i : Int) := by omega
      clear hW1 hbW hb1 kH kL kN cL fL cR1 fR1 bR1 bH bL bN bB ho
      cases hb
      · by_cases hxn : x = num
        · have HXN : Hid (x = num) := hxn
          refine region_round_tail 13 (by kernel_rfl) (by kernel_rfl) (by kernel_rfl) (still_of_quiet _ _ ?_)
          simp only [List.take_succ_cons, List.take_zero, List.drop_succ_cons, List.drop_zero]
          repeat (first | go_big_quiet_skip | (go_big_quiet_want; go_big_quiet_op; go_big_quiet_on))
          refine wpQuiet_nil ?_
          go_wp2_with fail
          obtain ⟨W2, hW2⟩ : ∃ W2, (W1.setCell ⟨X, 0, none⟩ (.bool true)).drew = W2 := ⟨_, rfl⟩
          have HW2 : Hid ((W1.setCell ⟨X, 0, none⟩ (.bool true)).drew = W2) := hW2
          rw [hW2]
          have k2 : Boxed W2 (X + 2) 3 (.int .i64 (pre.length : Int)) := by rw [← hW2]; exact (Below.heap_setCell _ _ _ _ (by show X + 2 ≠ X; omega)).trans HK.out.2.2.1
          have c2 := k2.cell
          have f2 := k2.frozen
          have hbd : (pre.length : Int) ≤ 64 := by have := HLT.out; omega
          clear hW2 k2
          refine ⟨rfl, ?_⟩
          gi_wp2_with fail
          refine fin1 HJ.out.1 HJ.out.2.1 HJ.out.2.2.1 HJ.out.2.2.2 (hb' := true) ?_ (by rw [HW1.out, HW2.out])
          simp [HXN.out]
        · have HXN : Hid (¬ x = num) := hxn
          have hxb : (x == num) = false := beq_eq_false_iff_ne.2 hxn
          refine region_round_tail 13 (by kernel_rfl) (by kernel_rfl) (by kernel_rfl) (still_of_quiet _ _ ?_)
          simp only [List.take_succ_cons, List.take_zero, List.drop_succ_cons, List.drop_zero]
          repeat (first | go_big_quiet_skip | (go_big_quiet_want; go_big_quiet_op; go_big_quiet_on))
          refine wpQuiet_nil ?_
          go_wp2_with fail
          try rw [hxb]
          obtain ⟨W2, hW2⟩ : ∃ W2, (W1.setCell ⟨X, 0, none⟩ (.bool false)).drew = W2 := ⟨_, rfl⟩
          have HW2 : Hid ((W1.setCell ⟨X, 0, none⟩ (.bool false)).drew = W2) := hW2
          rw [hW2]
          have k2 : Boxed W2 (X + 2) 3 (.int .i64 (pre.length : Int)) := by rw [← hW2]; exact (Below.heap_setCell _ _ _ _ (by show X + 2 ≠ X; omega)).trans HK.out.2.2.1
          have c2 := k2.cell
          have f2 := k2.frozen
          have hbd : (pre.length : Int) ≤ 64 := by have := HLT.out; omega
          clear hW2 k2
          refine ⟨rfl, ?_⟩
          gi_wp2_with fail
          refine fin1 HJ.out.1 HJ.out.2.1 HJ.out.2.2.1 HJ.out.2.2.2 (hb' := false) ?_ (by rw [HW1.out, HW2.out])
          have h := of_decide_eq_false HQ.out.2
          have h' := HXN.out
          simp [h, Ne.symm h']
      · refine region_round_tail 13 (by kernel_rfl) (by kernel_rfl) (by kernel_rfl) (still_of_quiet _ _ ?_)
        simp only [List.take_succ_cons, List.take_zero, List.drop_succ_cons, List.drop_zero]
        repeat (first | go_big_quiet_skip | (go_big_quiet_want; go_big_quiet_op; go_big_quiet_on))
        refine wpQuiet_nil ?_
        go_wp2_with fail
        obtain ⟨W2, hW2⟩ : ∃ W2, (W1.setCell ⟨X, 0, none⟩ (.bool true)).drew = W2 := ⟨_, rfl⟩
        have HW2 : Hid ((W1.setCell ⟨X, 0, none⟩ (.bool true)).drew = W2) := hW2
        rw [hW2]
        have k2 : Boxed W2 (X + 2) 3 (.int .i64 (pre.length : Int)) := by rw [← hW2]; exact (Below.heap_setCell _ _ _ _ (by show X + 2 ≠ X; omega)).trans HK.out.2.2.1
        have c2 := k2.cell
        have f2 := k2.frozen
        have hbd : (pre.length : Int) ≤ 64 := by have := HLT.out; omega
        clear hW2 k2
        refine ⟨rfl, ?_⟩
        gi_wp2_with fail
        refine fin1 HJ.out.1 HJ.out.2.1 HJ.out.2.2.1 HJ.out.2.2.2 (hb' := true) ?_ (by rw [HW1.out, HW2.out])
        have h := of_decide_eq_true HQ.out.2
        simp [h]
  case done =>
    rintro D xs W hD rfl ⟨⟨⟨jH, jL⟩, jN⟩, hB1⟩ hK
    exact hQ D W hD jH jN hB1 hK
  case stop =>
    rintro D c pre W _ ⟨m, rfl⟩ h _
    exact (hbad m h).elim
end Go.Proofs.Ytnghgclogeefgaa
