/- The law of plays: the two tables between calls; regions with two calls. -/
import Derived.Test.YtnghgclogeefgaaA4
import Derived.Test.YtnghgclogeefgaaZ1
import Derived.Test.YtnghgclogeefgaaE5
import Derived.Test.YtnghgclogeefgaaRN
import Derived.Test.YtnghgclogeefgaaR4
import Derived.Test.YtnghgclogeefgaaT5
import Derived.Test.YtnghgclogeefgaaX3
namespace Go.Proofs.Ytnghgclogeefgaa
open Go.RowKit Go.Shelf
set_option linter.unusedVariables false
set_option linter.unusedSimpArgs false

/-- Only on, with what is said of it. -/
def onF (R : Act → World → Prop) : Exit → Act → World → Prop
  | .normal, a, w => R a w
  | _, _, _ => False
theorem wp_on {c : Code} {R : Act → World → Prop} {Q : Exit → Act → World → Prop} {a : Act} {w : World} (h : c.wp Try.prog (onF R) a w) (hQ : ∀ a w, R a w → Q .normal a w) : c.wp Try.prog Q a w := by
  refine wp_mono h ?_
  intro e a w h
  cases e with
  | normal => exact hQ _ _ h
  | _ => exact h.elim
theorem tx_of (P : ByteArray) : tx P.data.toList = P := rfl
/-- The two tables, the call at hand. -/
structure Mid (w : World) (T R q : Nat) (row : Array Value) (la lb : Int) (ss zs : List Se) (V : World) : Prop where
  t : ∃ sv, Tb V T T la sv ss
  r : ∃ sv, RTb V R T lb sv zs
  o : V.heap[q]? = some (.cells row 41 (0, 0))
  b : Below T w V
theorem Mid.drew {w V : World} {T R q : Nat} {row : Array Value} {la lb : Int} {ss zs : List Se} (h : Mid w T R q row la lb ss zs V) : Mid w T R q row la lb ss zs V.drew := by
  obtain ⟨sv, ht⟩ := h.t
  obtain ⟨sr, hr⟩ := h.r
  exact ⟨⟨sv, ht.drew⟩, ⟨sr, hr.drew⟩, h.o, h.b.drew⟩
theorem Mid.low {w V : World} {T R q : Nat} {row : Array Value} {la lb : Int} {ss zs : List Se} (h : Mid w T R q row la lb ss zs V) : T ≤ V.heap.size := by
  obtain ⟨sv, ht⟩ := h.t
  have := (Array.getElem?_eq_some_iff.1 ht.tab).1
  omega
theorem Mid.a {w V V' : World} {T R q : Nat} {row : Array Value} {la lb la' : Int} {ss zs ss' : List Se} (h : Mid w T R q row la lb ss zs V) (h1 : ∃ sv, Tb V' T T la' sv ss') (h2 : Below T V V') (h3 : Kg 64 68 V V') : Mid w T R q row la' lb ss' zs V' := by
  obtain ⟨sr, hr⟩ := h.r
  exact ⟨h1, ⟨sr, hr.kept h3⟩, h3.row h.o (by decide) (by decide), h.b.trans h2⟩
theorem Mid.c {w V V' : World} {T R q : Nat} {row : Array Value} {la lb lb' : Int} {ss zs zs' : List Se} (h : Mid w T R q row la lb ss zs V) (h1 : ∃ sv, RTb V' R T lb' sv zs') (h2 : Below T V V') (h3 : Kg 39 70 V V') : Mid w T R q row la lb' ss zs' V' := by
  obtain ⟨sv, ht⟩ := h.t
  exact ⟨⟨sv, ht.kept h3⟩, h1, h3.row h.o (by decide) (by decide), h.b.trans h2⟩
theorem Mid.at {w V : World} {T R q : Nat} {row : Array Value} {la lb : Int} {ss zs : List Se} (h : Mid w T R q row la lb ss zs V) (k : Nat) (v : Value) (hv : row[k]? = some v) : V.cell? ⟨q, k, none⟩ = some v := by
  rw [cell_of_row _ _ _ _ _ _ h.o]; exact hv

set_option maxRecDepth 100000 in
set_option maxHeartbeats 8000000 in
theorem reg26 {u0 u1 u2 u5 u7 u8 u9 u10 u11 u12 u13 u14 u15 u16 u17 u18 u19 u20 u21 u22 u23 u24 u25 u26 u27 u28 u29 u30 u31 u32 u33 u34 u35 u36 u37 u38 u39 u40 u41 u42 u43 u44 u45 u46 u47 u48 u49 u50 u51 u52 u53 u54 u55 u56 u57 u58 u59 u60 u61 u62 u63 u64 u65 u66 u67 u68 u69 u70 u71 u72 u73 u74 u75 u76 u77 u78 u79 u80 u81 u82 u83 u84 u85 u86 u87 u88 u89 u90 u91 u92 u93 u94 u95 u96 u97 u98 u99 u100 u101 u102 u103 u104 u105 u106 u107 u108 u109 u110 u111 u112 u113 u114 u115 u116 u117 u118 u119 u120 u121 u122 u123 u124 u125 u126 u127 u128 u129 u130 u131 u132 u133 u134 u135 u136 u137 u138 u139 : Value} {Ds : List Deferred} (w : World) (T R q : Nat) (K I N S : Int) (P : ByteArray) (la lb : Int) (ss : List Se) (V0 : World) (hl : ss.length ≤ 64)
    (hM : Mid w T R q #[.int .i64 K, .string P, .int .i64 I, .int .i64 N, .int .i64 S] la lb ss ss V0) :
    Code.wp Try.prog (Code.region 26
                                                              #[{ dst := some 126, op := Op.move (Operand.tmp 3),
                                                                  type := 34, pos := "law.go:119", after := #[],
                                                                  guard := none },
                                                                { dst := some 127,
                                                                  op := Op.fieldAddr 41 (Operand.tmp 6) 2, type := 0,
                                                                  pos := "law.go:119", after := #[], guard := none },
                                                                { dst := some 128, op := Op.load 2 (Operand.tmp 127),
                                                                  type := 2, pos := "law.go:119",
                                                                  after := #[{ on := 1, ground := Ground.data }],
                                                                  guard := none },
                                                                { dst := some 129,
                                                                  op :=
                                                                    Op.call
                                                                      { callee := Callee.value (Operand.func 24),
                                                                        args := #[Operand.tmp 126, Operand.tmp 128],
                                                                        argTypes := #[34, 2] },
                                                                  type := 24, pos := "law.go:119",
                                                                  after :=
                                                                    #[{ on := 0, ground := Ground.data },
                                                                      { on := 2, ground := Ground.data }],
                                                                  guard := none },
                                                                { dst := some 130, op := Op.move (Operand.tmp 4),
                                                                  type := 36, pos := "law.go:119", after := #[],
                                                                  guard := none },
                                                                { dst := some 131,
                                                                  op := Op.fieldAddr 41 (Operand.tmp 6) 2, type := 0,
                                                                  pos := "law.go:119", after := #[], guard := none },
                                                                { dst := some 132, op := Op.load 2 (Operand.tmp 131),
                                                                  type := 2, pos := "law.go:119",
                                                                  after := #[{ on := 5, ground := Ground.data }],
                                                                  guard := none },
                                                                { dst := some 133,
                                                                  op :=
                                                                    Op.call
                                                                      { callee := Callee.value (Operand.func 25),
                                                                        args := #[Operand.tmp 130, Operand.tmp 132],
                                                                        argTypes := #[36, 2] },
                                                                  type := 24, pos := "law.go:119",
                                                                  after :=
                                                                    #[{ on := 4, ground := Ground.data },
                                                                      { on := 6, ground := Ground.data },
                                                                      { on := 3, ground := Ground.chain }],
                                                                  guard := none },
                                                                { dst := some 134,
                                                                  op :=
                                                                    Op.binOp BinOp.neq 24 (Operand.tmp 129)
                                                                      (Operand.tmp 133) 24,
                                                                  type := 4, pos := "law.go:119",
                                                                  after :=
                                                                    #[{ on := 3, ground := Ground.data },
                                                                      { on := 7, ground := Ground.data }],
                                                                  guard := none }]
                                                              true) (onF fun a V => a = { tmps := #[u0, u1, u2, Value.pointer (some { block := T, off := 0 }), Value.pointer (some { block := R, off := 0 }), u5, Value.pointer (some { block := q, off := 0 }), u7, u8, u9, u10, u11, u12, u13, u14, u15, u16, u17, u18, u19, u20, u21, u22, u23, u24, u25, u26, u27, u28, u29, u30, u31, u32, u33, u34, u35, u36, u37, u38, u39, u40, u41, u42, u43, u44, u45, u46, u47, u48, u49, u50, u51, u52, u53, u54, u55, u56, u57, u58, u59, u60, u61, u62, u63, u64, u65, u66, u67, u68, u69, u70, u71, u72, u73, u74, u75, u76, u77, u78, u79, u80, u81, u82, u83, u84, u85, u86, u87, u88, u89, u90, u91, u92, u93, u94, u95, u96, u97, u98, u99, u100, u101, u102, u103, u104, u105, u106, u107, u108, u109, u110, u111, u112, u113, u114, u115, u116, u117, u118, u119, u120, u121, u122, u123, u124, u125, Value.pointer (some { block := T, off := 0 }), Value.pointer (some { block := q, off := 2 }), Value.int IntKind.i64 I, Value.int IntKind.i64 (ceI ss I), Value.pointer (some { block := R, off := 0 }), Value.pointer (some { block := q, off := 2 }), Value.int IntKind.i64 I, Value.int IntKind.i64 (ceI ss I), Value.bool false, u135, u136, u137, u138, u139], defers := Ds } ∧ Mid w T R q #[.int .i64 K, .string P, .int .i64 I, .int .i64 N, .int .i64 S] la lb (clI ss I) (clI ss I) V) { tmps := #[u0, u1, u2, Value.pointer (some { block := T, off := 0 }), Value.pointer (some { block := R, off := 0 }), u5, Value.pointer (some { block := q, off := 0 }), u7, u8, u9, u10, u11, u12, u13, u14, u15, u16, u17, u18, u19, u20, u21, u22, u23, u24, u25, u26, u27, u28, u29, u30, u31, u32, u33, u34, u35, u36, u37, u38, u39, u40, u41, u42, u43, u44, u45, u46, u47, u48, u49, u50, u51, u52, u53, u54, u55, u56, u57, u58, u59, u60, u61, u62, u63, u64, u65, u66, u67, u68, u69, u70, u71, u72, u73, u74, u75, u76, u77, u78, u79, u80, u81, u82, u83, u84, u85, u86, u87, u88, u89, u90, u91, u92, u93, u94, u95, u96, u97, u98, u99, u100, u101, u102, u103, u104, u105, u106, u107, u108, u109, u110, u111, u112, u113, u114, u115, u116, u117, u118, u119, u120, u121, u122, u123, u124, u125, u126, u127, u128, u129, u130, u131, u132, u133, u134, u135, u136, u137, u138, u139], defers := Ds } V0 := by
  have HA : Hid (∀ V zs, Mid w T R q #[.int .i64 K, .string P, .int .i64 I, .int .i64 N, .int .i64 S] la lb ss zs V → Calls Try.prog 24 #[.pointer (some ⟨T, 0, none⟩), .int .i64 I] V fun e w' => e = .returned (.int .i64 (ceI ss I)) ∧ Mid w T R q #[.int .i64 K, .string P, .int .i64 I, .int .i64 N, .int .i64 S] la lb (clI ss I) zs w') := by
    intro V zs h
    obtain ⟨sv, ht⟩ := h.t
    refine (close_kg T T la sv ss I V ht hl h.low).mono ?_
    rintro e w' ⟨h1, h2, h3, h4⟩
    exact ⟨h1, h.a h2 h3 h4⟩
  have HB : Hid (∀ V zs, Mid w T R q #[.int .i64 K, .string P, .int .i64 I, .int .i64 N, .int .i64 S] la lb zs ss V → Calls Try.prog 25 #[.pointer (some ⟨R, 0, none⟩), .int .i64 I] V fun e w' => e = .returned (.int .i64 (ceI ss I)) ∧ Mid w T R q #[.int .i64 K, .string P, .int .i64 I, .int .i64 N, .int .i64 S] la lb zs (clI ss I) w') := by
    intro V zs h
    obtain ⟨sv, ht⟩ := h.r
    refine (rclose_kg R T lb sv ss I V ht hl h.low).mono ?_
    rintro e w' ⟨h1, h2, h3, h4⟩
    exact ⟨h1, h.c h2 h3 h4⟩
  have HM0 : Hid (Mid w T R q #[.int .i64 K, .string P, .int .i64 I, .int .i64 N, .int .i64 S] la lb ss ss V0.drew) := hM.drew
  have c2 : V0.cell? ⟨q, 2, none⟩ = some (.int .i64 I) := hM.at 2 _ rfl
  have d2 : V0.drew.cell? ⟨q, 2, none⟩ = some (.int .i64 I) := c2
  clear hM hl
  go_region_law (first | (refine step_call2 rfl 24 (.tmp 126) (.tmp 128) 34 2 rfl (.pointer (some ⟨T, 0, none⟩)) (.int .i64 I) (by simp [Act.eval, Act.put]) (by simp [Act.eval, Act.put]) (enters_of Try.func24 (by kernel_rfl) rfl) ?_; refine (HA.out _ _ HM0.out).mono ?_; rintro e w8 ⟨rfl, hm8⟩; (have HM8 : Hid (Mid w T R q #[.int .i64 K, .string P, .int .i64 I, .int .i64 N, .int .i64 S] la lb (clI ss I) ss w8) := hm8); (have e2 : w8.cell? ⟨q, 2, none⟩ = some (.int .i64 I) := hm8.at 2 _ rfl); clear hm8; refine ⟨_, rfl, ?_⟩) | (refine step_call2 rfl 25 (.tmp 130) (.tmp 132) 36 2 rfl (.pointer (some ⟨R, 0, none⟩)) (.int .i64 I) (by simp [Act.eval, Act.put]) (by simp [Act.eval, Act.put]) (enters_of Try.func25 (by kernel_rfl) rfl) ?_; refine (HB.out _ _ HM8.out).mono ?_; rintro e w9 ⟨rfl, hm9⟩; (have HM9 : Hid (Mid w T R q #[.int .i64 K, .string P, .int .i64 I, .int .i64 N, .int .i64 S] la lb (clI ss I) (clI ss I) w9) := hm9); clear hm9; refine ⟨_, rfl, ?_⟩))
  all_goals exact ⟨rfl, HM9.out⟩
set_option maxRecDepth 100000 in
set_option maxHeartbeats 8000000 in
theorem reg10 {u0 u1 u2 u5 u7 u8 u9 u10 u11 u12 u13 u14 u15 u16 u17 u18 u19 u20 u21 u22 u23 u24 u25 u26 u27 u28 u29 u30 u31 u32 u33 u34 u35 u36 u37 u38 u39 u40 u41 u42 u43 u44 u45 u46 u47 u48 u49 u50 u51 u52 u53 u54 u55 u56 u57 u58 u59 u60 u61 u62 u63 u64 u65 u66 u67 u68 u69 u70 u71 u72 u73 u74 u75 u76 u77 u78 u79 u80 u81 u82 u83 u84 u85 u86 u87 u88 u89 u90 u91 u92 u93 u94 u95 u96 u97 u98 u99 u100 u101 u102 u103 u104 u105 u106 u107 u108 u109 u110 u111 u112 u113 u114 u115 u116 u117 u118 u119 u120 u121 u122 u123 u124 u125 u126 u127 u128 u129 u130 u131 u132 u133 u134 u135 u136 u137 u138 u139 : Value} {Ds : List Deferred} (w : World) (T R q : Nat) (K I N S : Int) (P : ByteArray) (la lb : Int) (ss : List Se) (V0 : World) (hl : ss.length ≤ 64)
    (hM : Mid w T R q #[.int .i64 K, .string P, .int .i64 I, .int .i64 N, .int .i64 S] la lb ss ss V0) :
    Code.wp Try.prog (Code.region 10
                                                              #[{ dst := some 36, op := Op.move (Operand.tmp 3),
                                                                  type := 34, pos := "law.go:123", after := #[],
                                                                  guard := none },
                                                                { dst := some 37,
                                                                  op := Op.fieldAddr 41 (Operand.tmp 6) 3, type := 0,
                                                                  pos := "law.go:123", after := #[], guard := none },
                                                                { dst := some 38, op := Op.load 2 (Operand.tmp 37),
                                                                  type := 2, pos := "law.go:123",
                                                                  after := #[{ on := 1, ground := Ground.data }],
                                                                  guard := none },
                                                                { dst := some 39,
                                                                  op :=
                                                                    Op.call
                                                                      { callee := Callee.value (Operand.func 26),
                                                                        args := #[Operand.tmp 36, Operand.tmp 38],
                                                                        argTypes := #[34, 2] },
                                                                  type := 3, pos := "law.go:123",
                                                                  after :=
                                                                    #[{ on := 0, ground := Ground.data },
                                                                      { on := 2, ground := Ground.data }],
                                                                  guard := none },
                                                                { dst := some 40, op := Op.move (Operand.tmp 4),
                                                                  type := 36, pos := "law.go:123", after := #[],
                                                                  guard := none },
                                                                { dst := some 41,
                                                                  op := Op.fieldAddr 41 (Operand.tmp 6) 3, type := 0,
                                                                  pos := "law.go:123", after := #[], guard := none },
                                                                { dst := some 42, op := Op.load 2 (Operand.tmp 41),
                                                                  type := 2, pos := "law.go:123",
                                                                  after := #[{ on := 5, ground := Ground.data }],
                                                                  guard := none },
                                                                { dst := some 43,
                                                                  op :=
                                                                    Op.call
                                                                      { callee := Callee.value (Operand.func 27),
                                                                        args := #[Operand.tmp 40, Operand.tmp 42],
                                                                        argTypes := #[36, 2] },
                                                                  type := 3, pos := "law.go:123",
                                                                  after :=
                                                                    #[{ on := 4, ground := Ground.data },
                                                                      { on := 6, ground := Ground.data },
                                                                      { on := 3, ground := Ground.chain }],
                                                                  guard := none },
                                                                { dst := some 44,
                                                                  op :=
                                                                    Op.binOp BinOp.neq 3 (Operand.tmp 39)
                                                                      (Operand.tmp 43) 3,
                                                                  type := 4, pos := "law.go:123",
                                                                  after :=
                                                                    #[{ on := 3, ground := Ground.data },
                                                                      { on := 7, ground := Ground.data }],
                                                                  guard := none }]
                                                              true) (onF fun a V => a = { tmps := #[u0, u1, u2, Value.pointer (some { block := T, off := 0 }), Value.pointer (some { block := R, off := 0 }), u5, Value.pointer (some { block := q, off := 0 }), u7, u8, u9, u10, u11, u12, u13, u14, u15, u16, u17, u18, u19, u20, u21, u22, u23, u24, u25, u26, u27, u28, u29, u30, u31, u32, u33, u34, u35, Value.pointer (some { block := T, off := 0 }), Value.pointer (some { block := q, off := 3 }), Value.int IntKind.i64 N, Value.int IntKind.i64 ((ss.length : Int) - ((exI ss N).length : Int)), Value.pointer (some { block := R, off := 0 }), Value.pointer (some { block := q, off := 3 }), Value.int IntKind.i64 N, Value.int IntKind.i64 ((ss.length : Int) - ((exI ss N).length : Int)), Value.bool false, u45, u46, u47, u48, u49, u50, u51, u52, u53, u54, u55, u56, u57, u58, u59, u60, u61, u62, u63, u64, u65, u66, u67, u68, u69, u70, u71, u72, u73, u74, u75, u76, u77, u78, u79, u80, u81, u82, u83, u84, u85, u86, u87, u88, u89, u90, u91, u92, u93, u94, u95, u96, u97, u98, u99, u100, u101, u102, u103, u104, u105, u106, u107, u108, u109, u110, u111, u112, u113, u114, u115, u116, u117, u118, u119, u120, u121, u122, u123, u124, u125, u126, u127, u128, u129, u130, u131, u132, u133, u134, u135, u136, u137, u138, u139], defers := Ds } ∧ Mid w T R q #[.int .i64 K, .string P, .int .i64 I, .int .i64 N, .int .i64 S] la lb (exI ss N) (exI ss N) V) { tmps := #[u0, u1, u2, Value.pointer (some { block := T, off := 0 }), Value.pointer (some { block := R, off := 0 }), u5, Value.pointer (some { block := q, off := 0 }), u7, u8, u9, u10, u11, u12, u13, u14, u15, u16, u17, u18, u19, u20, u21, u22, u23, u24, u25, u26, u27, u28, u29, u30, u31, u32, u33, u34, u35, u36, u37, u38, u39, u40, u41, u42, u43, u44, u45, u46, u47, u48, u49, u50, u51, u52, u53, u54, u55, u56, u57, u58, u59, u60, u61, u62, u63, u64, u65, u66, u67, u68, u69, u70, u71, u72, u73, u74, u75, u76, u77, u78, u79, u80, u81, u82, u83, u84, u85, u86, u87, u88, u89, u90, u91, u92, u93, u94, u95, u96, u97, u98, u99, u100, u101, u102, u103, u104, u105, u106, u107, u108, u109, u110, u111, u112, u113, u114, u115, u116, u117, u118, u119, u120, u121, u122, u123, u124, u125, u126, u127, u128, u129, u130, u131, u132, u133, u134, u135, u136, u137, u138, u139], defers := Ds } V0 := by
  have HA : Hid (∀ V zs, Mid w T R q #[.int .i64 K, .string P, .int .i64 I, .int .i64 N, .int .i64 S] la lb ss zs V → Calls Try.prog 26 #[.pointer (some ⟨T, 0, none⟩), .int .i64 N] V fun e w' => e = .returned (.int .i64 ((ss.length : Int) - ((exI ss N).length : Int))) ∧ Mid w T R q #[.int .i64 K, .string P, .int .i64 I, .int .i64 N, .int .i64 S] la lb (exI ss N) zs w') := by
    intro V zs h
    obtain ⟨sv, ht⟩ := h.t
    refine (expire_kg T T la sv ss N V ht hl h.low).mono ?_
    rintro e w' ⟨h1, h2, h3, h4⟩
    exact ⟨h1, h.a h2 h3 h4⟩
  have HB : Hid (∀ V zs, Mid w T R q #[.int .i64 K, .string P, .int .i64 I, .int .i64 N, .int .i64 S] la lb zs ss V → Calls Try.prog 27 #[.pointer (some ⟨R, 0, none⟩), .int .i64 N] V fun e w' => e = .returned (.int .i64 ((ss.length : Int) - ((exI ss N).length : Int))) ∧ Mid w T R q #[.int .i64 K, .string P, .int .i64 I, .int .i64 N, .int .i64 S] la lb zs (exI ss N) w') := by
    intro V zs h
    obtain ⟨sv, ht⟩ := h.r
    refine (rexpire_kg R T lb sv ss N V ht hl h.low).mono ?_
    rintro e w' ⟨h1, h2, h3, h4⟩
    exact ⟨h1, h.c h2 h3 h4⟩
  have HM0 : Hid (Mid w T R q #[.int .i64 K, .string P, .int .i64 I, .int .i64 N, .int .i64 S] la lb ss ss V0.drew) := hM.drew
  have c3 : V0.cell? ⟨q, 3, none⟩ = some (.int .i64 N) := hM.at 3 _ rfl
  have d3 : V0.drew.cell? ⟨q, 3, none⟩ = some (.int .i64 N) := c3
  clear hM hl
  go_region_law (first | (refine step_call2 rfl 26 (.tmp 36) (.tmp 38) 34 2 rfl (.pointer (some ⟨T, 0, none⟩)) (.int .i64 N) (by simp [Act.eval, Act.put]) (by simp [Act.eval, Act.put]) (enters_of Try.func26 (by kernel_rfl) rfl) ?_; refine (HA.out _ _ HM0.out).mono ?_; rintro e w8 ⟨rfl, hm8⟩; (have HM8 : Hid (Mid w T R q #[.int .i64 K, .string P, .int .i64 I, .int .i64 N, .int .i64 S] la lb (exI ss N) ss w8) := hm8); (have e3 : w8.cell? ⟨q, 3, none⟩ = some (.int .i64 N) := hm8.at 3 _ rfl); clear hm8; refine ⟨_, rfl, ?_⟩) | (refine step_call2 rfl 27 (.tmp 40) (.tmp 42) 36 2 rfl (.pointer (some ⟨R, 0, none⟩)) (.int .i64 N) (by simp [Act.eval, Act.put]) (by simp [Act.eval, Act.put]) (enters_of Try.func27 (by kernel_rfl) rfl) ?_; refine (HB.out _ _ HM8.out).mono ?_; rintro e w9 ⟨rfl, hm9⟩; (have HM9 : Hid (Mid w T R q #[.int .i64 K, .string P, .int .i64 I, .int .i64 N, .int .i64 S] la lb (exI ss N) (exI ss N) w9) := hm9); clear hm9; refine ⟨_, rfl, ?_⟩))
  all_goals exact ⟨rfl, HM9.out⟩
end Go.Proofs.Ytnghgclogeefgaa
