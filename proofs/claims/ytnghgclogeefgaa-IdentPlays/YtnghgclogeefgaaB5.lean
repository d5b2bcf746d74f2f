/- The law of plays: its third region with two calls. -/
import Derived.Test.YtnghgclogeefgaaB1
import Derived.Deep.RegionHeld3
namespace Go.Proofs.Ytnghgclogeefgaa
open Go.RowKit Go.Shelf
set_option linter.unusedVariables false
set_option linter.unusedSimpArgs false

theorem step_call4 {P : Program} {ops : Array Oper} {o : Oper} {a : Act} {w : World} {K : Act → World → Prop} {Q : Exit → Act → World → Prop} {E : Prop} (hgd : o.guard = none) (f : Nat) (x y z u : Operand) (t1 t2 t3 t4 : TypeId) (ho : o.op = .call { callee := .value (.func f), args := #[x, y, z, u], argTypes := #[t1, t2, t3, t4] })
    (v1 v2 v3 v4 : Value) (h1 : a.eval x = v1) (h2 : a.eval y = v2) (h3 : a.eval z = v3) (h4 : a.eval u = v4) (ent : ∀ args w, (callFunc f args).run P w = .ok (.enter f args) w) (h : Calls P f #[v1, v2, v3, v4] w fun e w' => ∃ r, e = .returned r ∧ K (a.put o.dst r) w') :
    if Region.wanted o (yielded ops a.tmps) = true then Oper.wp P o a w K Q else E := by
  have hw : Region.wanted o (yielded ops a.tmps) = true := by simp [Region.wanted, hgd]
  rw [if_pos hw]
  unfold Oper.wp
  have hf : a.eval (.func f) = .func (.func f) #[] #[] := rfl
  simp only [execOp, ho, resolve, invoke, hf, h1, h2, h3, h4, List.map_toArray, List.map_cons, List.map_nil, Sem.run_bind, Sem.run_pure, Result.andThen_ok, Array.append_empty, Array.empty_append, ent, Oper.upon, Deferred.ofValue]
  refine h.mono ?_
  rintro e w' ⟨r, rfl, hk⟩
  exact hk
set_option maxRecDepth 100000 in
set_option maxHeartbeats 8000000 in
theorem reg23 {u0 u1 u2 u5 u7 u8 u9 u10 u11 u12 u13 u14 u15 u16 u17 u18 u19 u20 u21 u22 u23 u24 u25 u26 u27 u28 u29 u30 u31 u32 u33 u34 u35 u36 u37 u38 u39 u40 u41 u42 u43 u44 u45 u46 u47 u48 u49 u50 u51 u52 u53 u54 u55 u56 u57 u58 u59 u60 u61 u62 u63 u64 u65 u66 u67 u68 u69 u70 u71 u72 u73 u74 u75 u76 u77 u78 u79 u80 u81 u82 u83 u84 u85 u86 u87 u88 u89 u90 u91 u92 u93 u94 u95 u96 u97 u98 u99 u100 u101 u102 u103 u104 u105 u106 u107 u108 u109 u110 u111 u112 u113 u114 u115 u116 u117 u118 u119 u120 u121 u122 u123 u124 u125 u126 u127 u128 u129 u130 u131 u132 u133 u134 u135 u136 u137 u138 u139 : Value} {Ds : List Deferred} (w : World) (T R q : Nat) (K I N S : Int) (P : ByteArray) (la lb : Int) (ss : List Se) (V0 : World) (hl : ss.length ≤ 64)
    (hM : Mid w T R q #[.int .i64 K, .string P, .int .i64 I, .int .i64 N, .int .i64 S] la lb ss ss V0) :
    Code.wp Try.prog (Code.region 23
                                                          #[{ dst := some 107, op := Op.move (Operand.tmp 3),
                                                              type := 34, pos := "law.go:115", after := #[],
                                                              guard := none },
                                                            { dst := some 108, op := Op.fieldAddr 41 (Operand.tmp 6) 2,
                                                              type := 0, pos := "law.go:115", after := #[],
                                                              guard := none },
                                                            { dst := some 109, op := Op.load 2 (Operand.tmp 108),
                                                              type := 2, pos := "law.go:115",
                                                              after := #[{ on := 1, ground := Ground.data }],
                                                              guard := none },
                                                            { dst := some 110, op := Op.fieldAddr 41 (Operand.tmp 6) 3,
                                                              type := 0, pos := "law.go:115", after := #[],
                                                              guard := none },
                                                            { dst := some 111, op := Op.load 2 (Operand.tmp 110),
                                                              type := 2, pos := "law.go:115",
                                                              after := #[{ on := 3, ground := Ground.data }],
                                                              guard := none },
                                                            { dst := some 112, op := Op.fieldAddr 41 (Operand.tmp 6) 4,
                                                              type := 0, pos := "law.go:115", after := #[],
                                                              guard := none },
                                                            { dst := some 113, op := Op.load 2 (Operand.tmp 112),
                                                              type := 2, pos := "law.go:115",
                                                              after := #[{ on := 5, ground := Ground.data }],
                                                              guard := none },
                                                            { dst := some 114,
                                                              op :=
                                                                Op.call
                                                                  { callee := Callee.value (Operand.func 22),
                                                                    args :=
                                                                      #[Operand.tmp 107, Operand.tmp 109,
                                                                        Operand.tmp 111, Operand.tmp 113],
                                                                    argTypes := #[34, 2, 2, 2] },
                                                              type := 24, pos := "law.go:115",
                                                              after :=
                                                                #[{ on := 0, ground := Ground.data },
                                                                  { on := 2, ground := Ground.data },
                                                                  { on := 4, ground := Ground.data },
                                                                  { on := 6, ground := Ground.data }],
                                                              guard := none },
                                                            { dst := some 115, op := Op.move (Operand.tmp 4),
                                                              type := 36, pos := "law.go:115", after := #[],
                                                              guard := none },
                                                            { dst := some 116, op := Op.fieldAddr 41 (Operand.tmp 6) 2,
                                                              type := 0, pos := "law.go:115", after := #[],
                                                              guard := none },
                                                            { dst := some 117, op := Op.load 2 (Operand.tmp 116),
                                                              type := 2, pos := "law.go:115",
                                                              after := #[{ on := 9, ground := Ground.data }],
                                                              guard := none },
                                                            { dst := some 118, op := Op.fieldAddr 41 (Operand.tmp 6) 3,
                                                              type := 0, pos := "law.go:115", after := #[],
                                                              guard := none },
                                                            { dst := some 119, op := Op.load 2 (Operand.tmp 118),
                                                              type := 2, pos := "law.go:115",
                                                              after := #[{ on := 11, ground := Ground.data }],
                                                              guard := none },
                                                            { dst := some 120, op := Op.fieldAddr 41 (Operand.tmp 6) 4,
                                                              type := 0, pos := "law.go:115", after := #[],
                                                              guard := none },
                                                            { dst := some 121, op := Op.load 2 (Operand.tmp 120),
                                                              type := 2, pos := "law.go:115",
                                                              after := #[{ on := 13, ground := Ground.data }],
                                                              guard := none },
                                                            { dst := some 122,
                                                              op :=
                                                                Op.call
                                                                  { callee := Callee.value (Operand.func 23),
                                                                    args :=
                                                                      #[Operand.tmp 115, Operand.tmp 117,
                                                                        Operand.tmp 119, Operand.tmp 121],
                                                                    argTypes := #[36, 2, 2, 2] },
                                                              type := 24, pos := "law.go:115",
                                                              after :=
                                                                #[{ on := 8, ground := Ground.data },
                                                                  { on := 10, ground := Ground.data },
                                                                  { on := 12, ground := Ground.data },
                                                                  { on := 14, ground := Ground.data },
                                                                  { on := 7, ground := Ground.chain }],
                                                              guard := none },
                                                            { dst := some 123,
                                                              op :=
                                                                Op.binOp BinOp.neq 24 (Operand.tmp 114)
                                                                  (Operand.tmp 122) 24,
                                                              type := 4, pos := "law.go:115",
                                                              after :=
                                                                #[{ on := 7, ground := Ground.data },
                                                                  { on := 15, ground := Ground.data }],
                                                              guard := none }]
                                                          true) (onF fun a V => a = { tmps := #[u0, u1, u2, Value.pointer (some { block := T, off := 0 }), Value.pointer (some { block := R, off := 0 }), u5, Value.pointer (some { block := q, off := 0 }), u7, u8, u9, u10, u11, u12, u13, u14, u15, u16, u17, u18, u19, u20, u21, u22, u23, u24, u25, u26, u27, u28, u29, u30, u31, u32, u33, u34, u35, u36, u37, u38, u39, u40, u41, u42, u43, u44, u45, u46, u47, u48, u49, u50, u51, u52, u53, u54, u55, u56, u57, u58, u59, u60, u61, u62, u63, u64, u65, u66, u67, u68, u69, u70, u71, u72, u73, u74, u75, u76, u77, u78, u79, u80, u81, u82, u83, u84, u85, u86, u87, u88, u89, u90, u91, u92, u93, u94, u95, u96, u97, u98, u99, u100, u101, u102, u103, u104, u105, u106, Value.pointer (some { block := T, off := 0 }), Value.pointer (some { block := q, off := 2 }), Value.int IntKind.i64 I, Value.pointer (some { block := q, off := 3 }), Value.int IntKind.i64 N, Value.pointer (some { block := q, off := 4 }), Value.int IntKind.i64 S, Value.int IntKind.i64 (rnI ss I N S).1, Value.pointer (some { block := R, off := 0 }), Value.pointer (some { block := q, off := 2 }), Value.int IntKind.i64 I, Value.pointer (some { block := q, off := 3 }), Value.int IntKind.i64 N, Value.pointer (some { block := q, off := 4 }), Value.int IntKind.i64 S, Value.int IntKind.i64 (rnI ss I N S).1, Value.bool false, u124, u125, u126, u127, u128, u129, u130, u131, u132, u133, u134, u135, u136, u137, u138, u139], defers := Ds } ∧ Mid w T R q #[.int .i64 K, .string P, .int .i64 I, .int .i64 N, .int .i64 S] la lb (rnI ss I N S).2 (rnI ss I N S).2 V) { tmps := #[u0, u1, u2, Value.pointer (some { block := T, off := 0 }), Value.pointer (some { block := R, off := 0 }), u5, Value.pointer (some { block := q, off := 0 }), u7, u8, u9, u10, u11, u12, u13, u14, u15, u16, u17, u18, u19, u20, u21, u22, u23, u24, u25, u26, u27, u28, u29, u30, u31, u32, u33, u34, u35, u36, u37, u38, u39, u40, u41, u42, u43, u44, u45, u46, u47, u48, u49, u50, u51, u52, u53, u54, u55, u56, u57, u58, u59, u60, u61, u62, u63, u64, u65, u66, u67, u68, u69, u70, u71, u72, u73, u74, u75, u76, u77, u78, u79, u80, u81, u82, u83, u84, u85, u86, u87, u88, u89, u90, u91, u92, u93, u94, u95, u96, u97, u98, u99, u100, u101, u102, u103, u104, u105, u106, u107, u108, u109, u110, u111, u112, u113, u114, u115, u116, u117, u118, u119, u120, u121, u122, u123, u124, u125, u126, u127, u128, u129, u130, u131, u132, u133, u134, u135, u136, u137, u138, u139], defers := Ds } V0 := by
  have HA : Hid (∀ V zs, Mid w T R q #[.int .i64 K, .string P, .int .i64 I, .int .i64 N, .int .i64 S] la lb ss zs V → Calls Try.prog 22 #[.pointer (some ⟨T, 0, none⟩), .int .i64 I, .int .i64 N, .int .i64 S] V fun e w' => e = .returned (.int .i64 (rnI ss I N S).1) ∧ Mid w T R q #[.int .i64 K, .string P, .int .i64 I, .int .i64 N, .int .i64 S] la lb (rnI ss I N S).2 zs w') := by
    intro V zs h
    obtain ⟨sv, ht⟩ := h.t
    refine (renew_any T T la sv ss I N S V ht hl h.low).mono ?_
    rintro e w' ⟨h1, h2, h3, h4⟩
    exact ⟨h1, h.a h2 h3 h4⟩
  have HB : Hid (∀ V zs, Mid w T R q #[.int .i64 K, .string P, .int .i64 I, .int .i64 N, .int .i64 S] la lb zs ss V → Calls Try.prog 23 #[.pointer (some ⟨R, 0, none⟩), .int .i64 I, .int .i64 N, .int .i64 S] V fun e w' => e = .returned (.int .i64 (rnI ss I N S).1) ∧ Mid w T R q #[.int .i64 K, .string P, .int .i64 I, .int .i64 N, .int .i64 S] la lb zs (rnI ss I N S).2 w') := by
    intro V zs h
    obtain ⟨sv, ht⟩ := h.r
    refine (rrenew_any R T lb sv ss I N S V ht hl h.low).mono ?_
    rintro e w' ⟨h1, h2, h3, h4⟩
    exact ⟨h1, h.c h2 h3 h4⟩
  have HM0 : Hid (Mid w T R q #[.int .i64 K, .string P, .int .i64 I, .int .i64 N, .int .i64 S] la lb ss ss V0.drew) := hM.drew
  have c2 : V0.cell? ⟨q, 2, none⟩ = some (.int .i64 I) := hM.at 2 _ rfl
  have d2 : V0.drew.cell? ⟨q, 2, none⟩ = some (.int .i64 I) := c2
  have c3 : V0.cell? ⟨q, 3, none⟩ = some (.int .i64 N) := hM.at 3 _ rfl
  have d3 : V0.drew.cell? ⟨q, 3, none⟩ = some (.int .i64 N) := c3
  have c4 : V0.cell? ⟨q, 4, none⟩ = some (.int .i64 S) := hM.at 4 _ rfl
  have d4 : V0.drew.cell? ⟨q, 4, none⟩ = some (.int .i64 S) := c4
  clear hM hl
  go_region_held3 (fun w' => w'.cell? ⟨q, 2, none⟩ = some (.int .i64 I) ∧ w'.cell? ⟨q, 3, none⟩ = some (.int .i64 N) ∧ w'.cell? ⟨q, 4, none⟩ = some (.int .i64 S)) (first | go_keep | exact K9 | exact K8) (first | (go_at_call 22; refine (HA.out _ _ HM0.out).mono ?_; rintro e w8 ⟨rfl, hm8⟩; (have HM8 : Hid (Mid w T R q #[.int .i64 K, .string P, .int .i64 I, .int .i64 N, .int .i64 S] la lb (rnI ss I N S).2 ss w8) := hm8); (have K8 : w8.cell? ⟨q, 2, none⟩ = some (.int .i64 I) ∧ w8.cell? ⟨q, 3, none⟩ = some (.int .i64 N) ∧ w8.cell? ⟨q, 4, none⟩ = some (.int .i64 S) := ⟨hm8.at 2 _ rfl, hm8.at 3 _ rfl, hm8.at 4 _ rfl⟩); clear hm8) | (go_at_call 23; refine (HB.out _ _ HM8.out).mono ?_; rintro e w9 ⟨rfl, hm9⟩; (have HM9 : Hid (Mid w T R q #[.int .i64 K, .string P, .int .i64 I, .int .i64 N, .int .i64 S] la lb (rnI ss I N S).2 (rnI ss I N S).2 w9) := hm9); (have K9 : w9.cell? ⟨q, 2, none⟩ = some (.int .i64 I) ∧ w9.cell? ⟨q, 3, none⟩ = some (.int .i64 N) ∧ w9.cell? ⟨q, 4, none⟩ = some (.int .i64 S) := ⟨hm9.at 2 _ rfl, hm9.at 3 _ rfl, hm9.at 4 _ rfl⟩); clear hm9))
  all_goals exact ⟨rfl, HM9.out⟩
end Go.Proofs.Ytnghgclogeefgaa
