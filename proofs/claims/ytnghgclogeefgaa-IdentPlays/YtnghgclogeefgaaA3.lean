/- alike: the second range of a round, and its loop. -/
import Derived.Test.YtnghgclogeefgaaA2
namespace Go.Proofs.Ytnghgclogeefgaa
open Go.RowKit Go.Shelf
set_option linter.unusedVariables false
set_option linter.unusedSimpArgs false
attribute [local go_sem] Oper.semAt_some

abbrev frameB (B : Nat) (u0 u1 u2 u3 u4 u5 u6 u7 u8 u9 u10 u11 u12 u13 u14 u15 u16 u17 u18 u19 u20 u21 u22 u23 u24 u25 u26 u27 u28 u29 u30 u31 u32 u33 u34 u35 u36 u37 u38 u39 u40 u41 u42 u43 u44 u45 u46 u47 u48 u49 u50 u51 u52 u53 u54 u55 u56 u57 u58 u59 u60 u61 u62 u64 u65 u66 u67 u68 u69 u70 u71 u72 u73 u74 u75 u76 u77 u78 u79 u80 u81 u82 u83 u84 u85 u86 u87 u88 u89 u90 u91 u92 u93 u94 u95 u96 u97 u98 u99 u100 u101 : Value) : Array Value := #[u0, u1, u2, u3, u4, u5, u6, u7, u8, u9, u10, u11, u12, u13, u14, u15, u16, u17, u18, u19, u20, u21, u22, u23, u24, u25, u26, u27, u28, u29, u30, u31, u32, u33, u34, u35, u36, u37, u38, u39, u40, u41, u42, u43, u44, u45, u46, u47, u48, u49, u50, u51, u52, u53, u54, u55, u56, u57, u58, u59, u60, u61, u62, Value.func (Fn.func 51) #[] #[Value.pointer (some { block := B, off := 0 })], u64, u65, u66, u67, u68, u69, u70, u71, u72, u73, u74, u75, u76, u77, u78, u79, u80, u81, u82, u83, u84, u85, u86, u87, u88, u89, u90, u91, u92, u93, u94, u95, u96, u97, u98, u99, u100, u101]
set_option maxRecDepth 100000 in
set_option maxHeartbeats 4000000 in
theorem rng2 {u0 u1 u2 u3 u4 u5 u6 u7 u8 u9 u10 u11 u12 u13 u14 u15 u16 u17 u18 u19 u20 u21 u22 u23 u24 u25 u26 u27 u28 u29 u30 u31 u32 u33 u34 u35 u36 u37 u38 u39 u40 u41 u42 u43 u44 u45 u46 u47 u48 u49 u50 u51 u52 u53 u54 u55 u56 u57 u58 u59 u60 u61 u62 u64 u65 u66 u67 u68 u69 u70 u71 u72 u73 u74 u75 u76 u77 u78 u79 u80 u81 u82 u83 u84 u85 u86 u87 u88 u89 u90 u91 u92 u93 u94 u95 u96 u97 u98 u99 u100 u101 : Value} {Ds : List Deferred} (B base : Nat) (pv : Value) (ds : List Int) (V0 : World) (Q : Exit → Act → World → Prop) (hd : (ds.length : Int) ≤ 64)
    (bB : Boxed V0 B 78 pv) (ho : V0.ownsRow base 2 1 pv ds.length (i64l ds)) (hpv : ∀ g, pv.ownBlock = some g → g < V0.heap.size)
    (hQ : ∀ D W, V0.heap.size ≤ D → Below V0.heap.size V0 W → W.heap[D]? = some (.deferred (some [])) → Q .normal { tmps := frameB B u0 u1 u2 u3 u4 u5 u6 u7 u8 u9 u10 u11 u12 u13 u14 u15 u16 u17 u18 u19 u20 u21 u22 u23 u24 u25 u26 u27 u28 u29 u30 u31 u32 u33 u34 u35 u36 u37 u38 u39 u40 u41 u42 u43 u44 u45 u46 u47 u48 u49 u50 u51 u52 u53 u54 u55 u56 u57 u58 u59 u60 u61 u62 u64 u65 u66 u67 u68 u69 u70 u71 u72 u73 u74 u75 u76 u77 u78 u79 u80 u81 u82 u83 u84 u85 u86 u87 u88 u89 u90 u91 u92 u93 u94 u95 u96 u97 u98 u99 u100 u101, defers := mk D :: Ds } W ∧ Q (.exit 4) { tmps := frameB B u0 u1 u2 u3 u4 u5 u6 u7 u8 u9 u10 u11 u12 u13 u14 u15 u16 u17 u18 u19 u20 u21 u22 u23 u24 u25 u26 u27 u28 u29 u30 u31 u32 u33 u34 u35 u36 u37 u38 u39 u40 u41 u42 u43 u44 u45 u46 u47 u48 u49 u50 u51 u52 u53 u54 u55 u56 u57 u58 u59 u60 u61 u62 u64 u65 u66 u67 u68 u69 u70 u71 u72 u73 u74 u75 u76 u77 u78 u79 u80 u81 u82 u83 u84 u85 u86 u87 u88 u89 u90 u91 u92 u93 u94 u95 u96 u97 u98 u99 u100 u101, defers := mk D :: Ds } W) :
    Code.wpIn Fence.wide 5 Try.prog (Code.rangeFunc (Operand.tmp 63) #[64] Code.skip
                                                (Code.block 5 (Code.exit 4))) Q { tmps := frameB B u0 u1 u2 u3 u4 u5 u6 u7 u8 u9 u10 u11 u12 u13 u14 u15 u16 u17 u18 u19 u20 u21 u22 u23 u24 u25 u26 u27 u28 u29 u30 u31 u32 u33 u34 u35 u36 u37 u38 u39 u40 u41 u42 u43 u44 u45 u46 u47 u48 u49 u50 u51 u52 u53 u54 u55 u56 u57 u58 u59 u60 u61 u62 u64 u65 u66 u67 u68 u69 u70 u71 u72 u73 u74 u75 u76 u77 u78 u79 u80 u81 u82 u83 u84 u85 u86 u87 u88 u89 u90 u91 u92 u93 u94 u95 u96 u97 u98 u99 u100 u101, defers := Ds } V0 := by
  refine wpIn_rangeFunc_ownH rfl (by omega) (gf := 51) (lb := #[.pointer (some ⟨B, 0, none⟩)]) rfl trivial (enters_of Try.func51 (by kernel_rfl) rfl)
    (nums_seq _ B V0.heap.size base pv ds V0 (by omega) bB.lt (Nat.le_refl _) bB.cell ho hpv) belowK_t (belowK_b (Nat.le_refl _)) (Below.refl _ _) (fun _ => rfl)
    (fun pre W => Below V0.heap.size V0 W)
    (fun c pre W => c = .exit 4 ∧ Below V0.heap.size V0 W)
    (ownFrom_below (Nat.le_refl _) (Nat.le_refl _))
    (fun c => OwnFrom.and (ownFrom_pure _ (fun _ => c = .exit 4)) (ownFrom_below (Nat.le_refl _) (Nat.le_refl _)))
    (Below.refl _ _)
    (fun x a' W => a' = { tmps := #[u0, u1, u2, u3, u4, u5, u6, u7, u8, u9, u10, u11, u12, u13, u14, u15, u16, u17, u18, u19, u20, u21, u22, u23, u24, u25, u26, u27, u28, u29, u30, u31, u32, u33, u34, u35, u36, u37, u38, u39, u40, u41, u42, u43, u44, u45, u46, u47, u48, u49, u50, u51, u52, u53, u54, u55, u56, u57, u58, u59, u60, u61, u62, Value.func (Fn.func 51) #[] #[Value.pointer (some { block := B, off := 0 })], Value.int IntKind.i64 x, u65, u66, u67, u68, u69, u70, u71, u72, u73, u74, u75, u76, u77, u78, u79, u80, u81, u82, u83, u84, u85, u86, u87, u88, u89, u90, u91, u92, u93, u94, u95, u96, u97, u98, u99, u100, u101], defers := [] })
    (fun x a' _ X' Y row hs hg hr => hs)
    ?assign ?body ?done ?stop
  case assign =>
    rintro l pre x W K hB1 hK
    gi_wp2_with fail
    exact hK _ _ (KeepsFrom.refl _ _) (Below.refl _ _) hB1 rfl
  case body =>
    rintro l pre x a' W hl _ hB1 rfl hj
    gi_wp2_with fail
    exact ⟨KeepsFrom.refl _ _, rfl, hB1⟩
  case done =>
    rintro D xs W hD _ hB hK
    exact (hQ D W hD hB hK).1
  case stop =>
    rintro D c pre W hD _ ⟨rfl, hB⟩ hK
    gi_wp2_with fail
    exact (hQ D W hD hB hK).2

abbrev frameC (Bx Bi X : Nat) (u0 u1 u2 u4 u6 u7 u8 u10 u12 u13 u14 u15 u16 u17 u18 u19 u20 u21 u22 u23 u24 u25 u26 u27 u28 u29 u30 u31 u32 u33 u34 u35 u36 u37 u38 u39 u40 u41 u42 u43 u44 u45 u46 u47 u48 u49 u50 u51 u52 u53 u54 u55 u56 u57 u58 u59 u60 u61 u62 u63 u64 u65 u66 u67 u68 u69 u70 u71 u72 u73 u74 u75 u76 u77 u78 u79 u80 u81 u82 u83 u84 u85 u86 u87 u88 u89 u90 u91 u92 u93 u94 u95 u96 u97 u98 u99 u100 u101 : Value) : Array Value := #[u0, u1, u2, Value.pointer (some { block := Bx, off := 0 }), u4, Value.pointer (some { block := Bi, off := 0 }), u6, u7, u8, Value.pointer (some { block := (X + 2), off := 0 }), u10, Value.int IntKind.i64 0, u12, u13, u14, u15, u16, u17, u18, u19, u20, u21, u22, u23, u24, u25, u26, u27, u28, u29, u30, u31, u32, u33, u34, u35, u36, u37, u38, u39, u40, u41, u42, u43, u44, u45, u46, u47, u48, u49, u50, u51, u52, u53, u54, u55, u56, u57, u58, u59, u60, u61, u62, u63, u64, u65, u66, u67, u68, u69, u70, u71, u72, u73, u74, u75, u76, u77, u78, u79, u80, u81, u82, u83, u84, u85, u86, u87, u88, u89, u90, u91, u92, u93, u94, u95, u96, u97, u98, u99, u100, u101]
theorem ofI_le (ss : List Se) (tn : List UInt8) (k : Nat) : (ofI (ss.take k) tn).length ≤ (ofI ss tn).length := by
  have e : ofI ss tn = ofI (ss.take k) tn ++ ofI (ss.drop k) tn := by
    unfold ofI
    rw [← List.map_append, ← List.filter_append, List.take_append_drop]
  rw [e, List.length_append]
  omega
set_option maxRecDepth 100000 in
set_option maxHeartbeats 8000000 in
theorem inl {u0 u1 u2 u4 u6 u7 u8 u10 u12 u13 u14 u15 u16 u17 u18 u19 u20 u21 u22 u23 u24 u25 u26 u27 u28 u29 u30 u31 u32 u33 u34 u35 u36 u37 u38 u39 u40 u41 u42 u43 u44 u45 u46 u47 u48 u49 u50 u51 u52 u53 u54 u55 u56 u57 u58 u59 u60 u61 u62 u63 u64 u65 u66 u67 u68 u69 u70 u71 u72 u73 u74 u75 u76 u77 u78 u79 u80 u81 u82 u83 u84 u85 u86 u87 u88 u89 u90 u91 u92 u93 u94 u95 u96 u97 u98 u99 u100 u101 : Value} {Ds : List Deferred} (R Bx Bi X g n rc i : Nat) (ss : List Se) (s : Se) (V0 : World) (Q : Exit → Act → World → Prop)
    (hsz : X + 3 ≤ V0.heap.size) (hn : ss.length = n) (h64 : (n : Int) ≤ 64) (hi : (i : Int) < (n : Int)) (hrc : (n : Int) ≤ (rc : Int)) (hs : ss[i]? = some s)
    (cX : ∀ W, Below X V0 W → W.cell? ⟨Bx, 0, none⟩ = some (.pointer (some ⟨R, 0, none⟩))) (cI : ∀ W, Below X V0 W → W.cell? ⟨Bi, 0, none⟩ = some (.int .i64 (i : Int)))
    (cR : ∀ W, Below X V0 W → W.cell? ⟨R, 0, none⟩ = some (.slice (some ⟨g, 0, none⟩) n rc)) (cT : ∀ W, Below X V0 W → ∀ k s, ss[k]? = some s → W.cell? ⟨g, k * 5 + 1, none⟩ = some (.string (tx s.t)))
    (bN : Boxed V0 (X + 2) 3 (.int .i64 ((ofI ss s.t).length : Int)))
    (hQ : ∀ v11 v65 v66 v67 v68 v69 v70 v71 v72 v73 v74 v75 v76 v77 v78 v79 v80 v81 v82 v83 v84 v85 v86 v87 v88 v89 v90 v91 v92 v93 v94 W, Below X V0 W → Boxed W (X + 2) 3 (.int .i64 0) → (∀ q, q < V0.heap.size → q ≠ X + 2 → W.heap[q]? = V0.heap[q]?) → Q (.exit 6) { tmps := #[u0, u1, u2, Value.pointer (some { block := Bx, off := 0 }), u4, Value.pointer (some { block := Bi, off := 0 }), u6, u7, u8, Value.pointer (some { block := (X + 2), off := 0 }), u10, v11, u12, u13, u14, u15, u16, u17, u18, u19, u20, u21, u22, u23, u24, u25, u26, u27, u28, u29, u30, u31, u32, u33, u34, u35, u36, u37, u38, u39, u40, u41, u42, u43, u44, u45, u46, u47, u48, u49, u50, u51, u52, u53, u54, u55, u56, u57, u58, u59, u60, u61, u62, u63, u64, v65, v66, v67, v68, v69, v70, v71, v72, v73, v74, v75, v76, v77, v78, v79, v80, v81, v82, v83, v84, v85, v86, v87, v88, v89, v90, v91, v92, v93, v94, u95, u96, u97, u98, u99, u100, u101], defers := Ds } W) :
    Code.wp Try.prog ((((Code.region 21
                                                            #[{ dst := some 65, op := Op.move (Operand.tmp 11),
                                                                type := 3, pos := "law.go:80", after := #[],
                                                                guard := none },
                                                              { dst := some 66, op := Op.load 36 (Operand.tmp 3),
                                                                type := 36, pos := "law.go:80", after := #[],
                                                                guard := none },
                                                              { dst := some 67, op := Op.nilCheck (Operand.tmp 66),
                                                                type := 0, pos := "law.go:80",
                                                                after := #[{ on := 1, ground := Ground.data }],
                                                                guard := none },
                                                              { dst := some 68,
                                                                op := Op.fieldAddr 39 (Operand.tmp 67) 0, type := 0,
                                                                pos := "law.go:80",
                                                                after := #[{ on := 2, ground := Ground.data }],
                                                                guard := none },
                                                              { dst := some 69, op := Op.load 37 (Operand.tmp 68),
                                                                type := 37, pos := "law.go:80",
                                                                after := #[{ on := 3, ground := Ground.data }],
                                                                guard := none },
                                                              { dst := some 70,
                                                                op :=
                                                                  Op.call
                                                                    { callee := Callee.builtin Builtin.len,
                                                                      args := #[Operand.tmp 69], argTypes := #[37] },
                                                                type := 3, pos := "law.go:80",
                                                                after := #[{ on := 4, ground := Ground.data }],
                                                                guard := none },
                                                              { dst := some 71,
                                                                op :=
                                                                  Op.binOp BinOp.lss 3 (Operand.tmp 65) (Operand.tmp 70)
                                                                    3,
                                                                type := 4, pos := "law.go:80",
                                                                after :=
                                                                  #[{ on := 0, ground := Ground.data },
                                                                    { on := 5, ground := Ground.data }],
                                                                guard := none }]
                                                            false).seq
                                                        (Code.cond (Operand.tmp 71) Code.skip (Code.exit 6))).seq
                                                    ((Code.block 7
                                                          ((Code.region 23
                                                                #[{ dst := some 74, op := Op.load 36 (Operand.tmp 3),
                                                                    type := 36, pos := "law.go:81", after := #[],
                                                                    guard := none },
                                                                  { dst := some 75, op := Op.nilCheck (Operand.tmp 74),
                                                                    type := 0, pos := "law.go:81",
                                                                    after := #[{ on := 0, ground := Ground.data }],
                                                                    guard := none },
                                                                  { dst := some 76,
                                                                    op := Op.fieldAddr 39 (Operand.tmp 75) 0, type := 0,
                                                                    pos := "law.go:81",
                                                                    after := #[{ on := 1, ground := Ground.data }],
                                                                    guard := none },
                                                                  { dst := some 77, op := Op.load 37 (Operand.tmp 76),
                                                                    type := 37, pos := "law.go:81",
                                                                    after := #[{ on := 2, ground := Ground.data }],
                                                                    guard := none },
                                                                  { dst := some 78, op := Op.move (Operand.tmp 11),
                                                                    type := 3, pos := "law.go:81", after := #[],
                                                                    guard := none },
                                                                  { dst := some 79,
                                                                    op :=
                                                                      Op.indexAddr 37 (Operand.tmp 77) (Operand.tmp 78),
                                                                    type := 0, pos := "law.go:81",
                                                                    after :=
                                                                      #[{ on := 3, ground := Ground.data },
                                                                        { on := 4, ground := Ground.data }],
                                                                    guard := none },
                                                                  { dst := some 80,
                                                                    op := Op.fieldAddr 70 (Operand.tmp 79) 1, type := 0,
                                                                    pos := "law.go:81",
                                                                    after := #[{ on := 5, ground := Ground.data }],
                                                                    guard := none },
                                                                  { dst := some 81,
                                                                    op := Op.fieldAddr 23 (Operand.tmp 80) 0, type := 0,
                                                                    pos := "law.go:81",
                                                                    after := #[{ on := 6, ground := Ground.data }],
                                                                    guard := none },
                                                                  { dst := some 82, op := Op.load 9 (Operand.tmp 81),
                                                                    type := 9, pos := "law.go:81",
                                                                    after := #[{ on := 7, ground := Ground.data }],
                                                                    guard := none },
                                                                  { dst := some 83, op := Op.load 36 (Operand.tmp 3),
                                                                    type := 36, pos := "law.go:81", after := #[],
                                                                    guard := none },
                                                                  { dst := some 84, op := Op.nilCheck (Operand.tmp 83),
                                                                    type := 0, pos := "law.go:81",
                                                                    after := #[{ on := 9, ground := Ground.data }],
                                                                    guard := none },
                                                                  { dst := some 85,
                                                                    op := Op.fieldAddr 39 (Operand.tmp 84) 0, type := 0,
                                                                    pos := "law.go:81",
                                                                    after := #[{ on := 10, ground := Ground.data }],
                                                                    guard := none },
                                                                  { dst := some 86, op := Op.load 37 (Operand.tmp 85),
                                                                    type := 37, pos := "law.go:81",
                                                                    after := #[{ on := 11, ground := Ground.data }],
                                                                    guard := none },
                                                                  { dst := some 87, op := Op.load 3 (Operand.tmp 5),
                                                                    type := 3, pos := "law.go:81", after := #[],
                                                                    guard := none },
                                                                  { dst := some 88,
                                                                    op :=
                                                                      Op.indexAddr 37 (Operand.tmp 86) (Operand.tmp 87),
                                                                    type := 0, pos := "law.go:81",
                                                                    after :=
                                                                      #[{ on := 12, ground := Ground.data },
                                                                        { on := 13, ground := Ground.data }],
                                                                    guard := none },
                                                                  { dst := some 89,
                                                                    op := Op.fieldAddr 70 (Operand.tmp 88) 1, type := 0,
                                                                    pos := "law.go:81",
                                                                    after := #[{ on := 14, ground := Ground.data }],
                                                                    guard := none },
                                                                  { dst := some 90,
                                                                    op := Op.fieldAddr 23 (Operand.tmp 89) 0, type := 0,
                                                                    pos := "law.go:81",
                                                                    after := #[{ on := 15, ground := Ground.data }],
                                                                    guard := none },
                                                                  { dst := some 91, op := Op.load 9 (Operand.tmp 90),
                                                                    type := 9, pos := "law.go:81",
                                                                    after := #[{ on := 16, ground := Ground.data }],
                                                                    guard := none },
                                                                  { dst := some 92,
                                                                    op :=
                                                                      Op.binOp BinOp.eql 9 (Operand.tmp 82)
                                                                        (Operand.tmp 91) 9,
                                                                    type := 4, pos := "law.go:81",
                                                                    after :=
                                                                      #[{ on := 8, ground := Ground.data },
                                                                        { on := 17, ground := Ground.data }],
                                                                    guard := none }]
                                                                true).seq
                                                            (Code.cond (Operand.tmp 92)
                                                              (Code.region 24
                                                                #[{ dst := some 93, op := Op.load 3 (Operand.tmp 9),
                                                                    type := 3, pos := "law.go:82", after := #[],
                                                                    guard := none },
                                                                  { dst := some 94,
                                                                    op :=
                                                                      Op.binOp BinOp.sub 3 (Operand.tmp 93)
                                                                        (Operand.const (Value.int IntKind.i64 1)) 3,
                                                                    type := 3, pos := "law.go:82",
                                                                    after := #[{ on := 0, ground := Ground.data }],
                                                                    guard := none },
                                                                  { dst := none,
                                                                    op := Op.store 3 (Operand.tmp 9) (Operand.tmp 94),
                                                                    type := 0, pos := "law.go:82",
                                                                    after :=
                                                                      #[{ on := 1, ground := Ground.data },
                                                                        { on := 0, ground := Ground.phase },
                                                                        { on := 1, ground := Ground.phase }],
                                                                    guard := none }]
                                                                false)
                                                              Code.skip))).seq
                                                      (Code.region 22
                                                        #[{ dst := some 72, op := Op.move (Operand.tmp 11), type := 3,
                                                            pos := "law.go:80", after := #[], guard := none },
                                                          { dst := some 73,
                                                            op :=
                                                              Op.binOp BinOp.add 3 (Operand.tmp 72)
                                                                (Operand.const (Value.int IntKind.i64 1)) 3,
                                                            type := 3, pos := "law.go:80",
                                                            after := #[{ on := 0, ground := Ground.data }],
                                                            guard := none },
                                                          { dst := some 11, op := Op.assign (Operand.tmp 73), type := 3,
                                                            pos := "law.go:80",
                                                            after :=
                                                              #[{ on := 1, ground := Ground.data },
                                                                { on := 0, ground := Ground.phase },
                                                                { on := 1, ground := Ground.phase }],
                                                            guard := none }]
                                                        false))).loop) Q { tmps := frameC Bx Bi X u0 u1 u2 u4 u6 u7 u8 u10 u12 u13 u14 u15 u16 u17 u18 u19 u20 u21 u22 u23 u24 u25 u26 u27 u28 u29 u30 u31 u32 u33 u34 u35 u36 u37 u38 u39 u40 u41 u42 u43 u44 u45 u46 u47 u48 u49 u50 u51 u52 u53 u54 u55 u56 u57 u58 u59 u60 u61 u62 u63 u64 u65 u66 u67 u68 u69 u70 u71 u72 u73 u74 u75 u76 u77 u78 u79 u80 u81 u82 u83 u84 u85 u86 u87 u88 u89 u90 u91 u92 u93 u94 u95 u96 u97 u98 u99 u100 u101, defers := Ds } V0 := by
  have HQ : Hid (∀ v11 v65 v66 v67 v68 v69 v70 v71 v72 v73 v74 v75 v76 v77 v78 v79 v80 v81 v82 v83 v84 v85 v86 v87 v88 v89 v90 v91 v92 v93 v94 W, Below X V0 W → Boxed W (X + 2) 3 (.int .i64 0) → (∀ q, q < V0.heap.size → q ≠ X + 2 → W.heap[q]? = V0.heap[q]?) → Q (.exit 6) { tmps := #[u0, u1, u2, Value.pointer (some { block := Bx, off := 0 }), u4, Value.pointer (some { block := Bi, off := 0 }), u6, u7, u8, Value.pointer (some { block := (X + 2), off := 0 }), u10, v11, u12, u13, u14, u15, u16, u17, u18, u19, u20, u21, u22, u23, u24, u25, u26, u27, u28, u29, u30, u31, u32, u33, u34, u35, u36, u37, u38, u39, u40, u41, u42, u43, u44, u45, u46, u47, u48, u49, u50, u51, u52, u53, u54, u55, u56, u57, u58, u59, u60, u61, u62, u63, u64, v65, v66, v67, v68, v69, v70, v71, v72, v73, v74, v75, v76, v77, v78, v79, v80, v81, v82, v83, v84, v85, v86, v87, v88, v89, v90, v91, v92, v93, v94, u95, u96, u97, u98, u99, u100, u101], defers := Ds } W) := hQ
  have HS : Hid (ss[i]? = some s) := hs
  have HN : Hid (ss.length = n) := hn
  have HC : Hid ((∀ W, Below X V0 W → W.cell? ⟨Bx, 0, none⟩ = some (.pointer (some ⟨R, 0, none⟩))) ∧ (∀ W, Below X V0 W → W.cell? ⟨Bi, 0, none⟩ = some (.int .i64 (i : Int))) ∧ (∀ W, Below X V0 W → W.cell? ⟨R, 0, none⟩ = some (.slice (some ⟨g, 0, none⟩) n rc)) ∧ (∀ W, Below X V0 W → ∀ k s, ss[k]? = some s → W.cell? ⟨g, k * 5 + 1, none⟩ = some (.string (tx s.t)))) := ⟨cX, cI, cR, cT⟩
  have HB : Hid (Boxed V0 (X + 2) 3 (.int .i64 ((ofI ss s.t).length : Int))) := bN
  clear hQ hs hn cX cI cR cT bN
  dsimp only [frameC]
  go_loopw [11] (fun v wr => ∃ k : Nat, k ≤ n ∧ v = .int .i64 (k : Int) ∧ Below X V0 wr ∧ Boxed wr (X + 2) 3 (.int .i64 (((ofI ss s.t).length : Int) - ((ofI (ss.take k) s.t).length : Int))) ∧ (∀ q, q < V0.heap.size → q ≠ X + 2 → wr.heap[q]? = V0.heap[q]?)) (fun v wr => n - (intOf v).toNat)
  case atStart => exact ⟨0, by omega, rfl, Below.refl _ _, by simpa [ofI] using HB.out, fun _ _ _ => rfl⟩
  case round =>
    obtain ⟨k, hk, rfl, hbel, hbox, hrest⟩ := hrel
    have HW : Hid (Below X V0 wr ∧ Boxed wr (X + 2) 3 (.int .i64 (((ofI ss s.t).length : Int) - ((ofI (ss.take k) s.t).length : Int))) ∧ (∀ q, q < V0.heap.size → q ≠ X + 2 → wr.heap[q]? = V0.heap[q]?)) := ⟨hbel, hbox, hrest⟩
    have d1 := HC.out.1 wr hbel
    have d2 := HC.out.2.1 wr hbel
    have d3 := HC.out.2.2.1 wr hbel
    clear hbel hbox hrest
    by_cases hlt : k < n
    · have hlt' : (k : Int) < (n : Int) := by omega
      obtain ⟨z, hz⟩ : ∃ z, ss[k]? = some z := ⟨_, List.getElem?_eq_getElem (by have := HN.out; omega)⟩
      have HZ : Hid (ss[k]? = some z) := hz
      have e1 : wr.drew.cell? ⟨Bx, 0, none⟩ = some (.pointer (some ⟨R, 0, none⟩)) := d1
      have e2 : wr.drew.cell? ⟨Bi, 0, none⟩ = some (.int .i64 (i : Int)) := d2
      have e3 : wr.drew.cell? ⟨R, 0, none⟩ = some (.slice (some ⟨g, 0, none⟩) n rc) := d3
      have e4 : wr.drew.cell? ⟨g, k * 5 + 1, none⟩ = some (.string (tx z.t)) := HC.out.2.2.2 wr HW.out.1 k z hz
      have e5 : wr.drew.cell? ⟨g, i * 5 + 1, none⟩ = some (.string (tx s.t)) := HC.out.2.2.2 wr HW.out.1 i s HS.out
      have hbq := tx_beq z.t s.t
      have i0 : (0 : Int) ≤ (i : Int) := by omega
      have k0 : (0 : Int) ≤ (k : Int) := by omega
      clear hz
      go_upto_region 23 with fail
      refine wp_region_still_lit (by kernel_rfl) (by kernel_rfl) (still_of_quiet _ _ ?_)
      repeat (first | go_big_quiet_skip | (go_big_quiet_want; go_big_quiet_op; go_big_quiet_on))
      refine wpQuiet_nil ?_
      rw [show ({ wr with drawn := wr.drawn + 1 } : World) = wr.drew from rfl]
      obtain ⟨d, hd⟩ : ∃ d, ((ofI ss s.t).length : Int) - ((ofI (ss.take k) s.t).length : Int) = d := ⟨_, rfl⟩
      have HD : Hid (((ofI ss s.t).length : Int) - ((ofI (ss.take k) s.t).length : Int) = d) := hd
      have b1 : Boxed wr.drew (X + 2) 3 (.int .i64 d) := by rw [← hd]; exact HW.out.2.1
      have HB1 : Hid (Boxed wr.drew (X + 2) 3 (.int .i64 d)) := b1
      have c1 := b1.cell
      have f1 := b1.frozen
      have dlo : -64 ≤ d := by have := ofI_len (ss.take k) s.t; rw [List.length_take] at this; omega
      have dhi : d ≤ 64 := by have := ofI_len ss s.t; have := HN.out; omega
      clear hd b1
      by_cases ht : z.t = s.t
      · have HSN : Hid ((ofI (ss.take (k + 1)) s.t).length = (ofI (ss.take k) s.t).length + 1) := by show _ = _; rw [ofI_snoc ss s.t k z HZ.out, if_pos ht]; simp
        clear hbq
        go_wp2_with fail
        go_roundw
        case rel =>
          refine ⟨k + 1, by omega, by go_num, HW.out.1.drew.setCell (p := ⟨X + 2, 0, none⟩) (by show X ≤ X + 2; omega) _, ?_, fun q hq hne => ?_⟩
          · have h := HB1.out.set (.int .i64 (d - 1))
            rw [HSN.out, show ((ofI ss s.t).length : Int) - (((ofI (ss.take k) s.t).length + 1 : Nat) : Int) = d - 1 by have := HD.out; omega]
            exact h
          · exact (Below.heap_setCell _ _ _ _ (by show q ≠ X + 2; omega)).trans (HW.out.2.2 q hq hne)
        case measure => simp [intOf]; omega
      · have HSN : Hid (ofI (ss.take (k + 1)) s.t = ofI (ss.take k) s.t) := by show _ = _; rw [ofI_snoc ss s.t k z HZ.out, if_neg ht, List.append_nil]
        clear hbq
        go_wp2_with fail
        go_roundw
        case rel => exact ⟨k + 1, by omega, by go_num, HW.out.1.drew, by rw [HSN.out]; exact HW.out.2.1, HW.out.2.2⟩
        case measure => simp [intOf]; omega
    · have hge : ¬ ((k : Int) < (n : Int)) := by omega
      have hkn : k = n := by omega
      have htk : ss.take k = ss := by rw [hkn, ← HN.out, List.take_length]
      rw [htk, Int.sub_self] at HW
      clear hlt hkn htk
      go_wp2_with fail
      refine HQ.out _ _ _ _ _ _ _ _ _ _ _ _ _ _ _ _ _ _ _ _ _ _ _ _ _ _ _ _ _ _ _ _ HW.out.1 HW.out.2.1 HW.out.2.2
end Go.Proofs.Ytnghgclogeefgaa
