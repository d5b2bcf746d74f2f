/- The law of picks: its two ranges. -/
import Derived.Test.YtnfocmoieofbpaaDoorB2
namespace Go.Proofs.YtnfocmoieofbpaaDoor
open Go.RowKit Go.Shelf
set_option linter.unusedVariables false
set_option linter.unusedSimpArgs false
attribute [local go_sem] Oper.semAt_some

theorem not_take {l pre : List At} {x y : At} (hy : l[pre.length]? = some y) (hne : ¬ y = x) : ¬ pre ++ [x] = l.take (pre ++ [x]).length := by
  intro e
  have h : (pre ++ [x])[pre.length]? = some x := by simp
  rw [e, List.getElem?_take] at h
  rw [if_pos (by simp), hy] at h
  exact hne (Option.some.inj h)
def mk (D : Nat) : Deferred := { target := .collected D, args := #[] }
set_option maxRecDepth 100000 in
set_option maxHeartbeats 8000000 in
theorem rng1 {u0 u1 u2 u3 u4 u6 u7 u8 u9 u11 u12 u13 u14 u15 u16 u17 u18 u19 u20 u23 u24 u25 u26 u27 u28 u29 u30 u31 u32 u33 u34 u35 u36 u37 u38 u39 u40 u41 u42 u43 u44 u45 u46 u47 u48 u49 u50 u51 u52 u53 u54 u55 u56 u57 u58 u59 u60 u61 u62 u63 u64 u65 u66 u67 u68 u69 u70 u71 u72 u73 u74 u75 u76 u77 u78 u79 u80 u81 u82 u83 u84 u85 u86 u87 u88 u89 u90 u91 u92 u93 u94 u95 u96 u97 u98 u99 u101 u102 u103 u104 u105 u106 u107 u108 u109 u110 u111 u112 u113 u114 u115 u116 u117 u118 u119 u120 u121 u122 u123 u124 u125 u126 u127 u128 u129 u130 u131 u132 u133 u134 u135 u136 u137 u138 u139 u140 u141 : Value} {Ds : List Deferred} (X N B nl ca c8 : Nat) (sa s8 : Option Addr) (l : List At) (V0 : World) (Q : Exit → Act → World → Prop)
    (hnl : l.length = nl) (hsm : (nl : Int) ≤ 140737488351232) (hX : ∀ W, Below N V0 W → W.cell? ⟨X, 0, none⟩ = some (.slice sa nl ca)) (hR : ∀ W, Below N V0 W → Boxed W (X + 1) 4 (.bool false)) (hL : ∀ W, Below N V0 W → Ats W sa ca l)
    (bN : Boxed V0 N 3 (.int .i64 0)) (hN : N < V0.heap.size) (hB : B < V0.heap.size) (cB : V0.cell? ⟨B, 0, none⟩ = some (.slice s8 l.length c8)) (hA8 : Ats V0 s8 c8 l) (hs8 : ∀ b off, s8 = some ⟨b, off, none⟩ → b ≠ N)
    (hQ : ∀ D W, V0.heap.size ≤ D → Boxed W N 3 (.int .i64 (l.length : Int)) → Below N V0 W → Kr V0.heap.size N V0 W → W.heap[D]? = some (.deferred (some [])) → Q .normal { tmps := #[u0, u1, u2, u3, u4, Value.pointer (some { block := X, off := 0 }), u6, u7, u8, u9, Value.pointer (some { block := X + 1, off := 0 }), u11, u12, u13, u14, u15, u16, u17, u18, u19, u20, Value.pointer (some { block := N, off := 0 }), Value.func (Fn.func 52) #[] #[Value.pointer (some { block := B, off := 0 })], u23, u24, u25, u26, u27, u28, u29, u30, u31, u32, u33, u34, u35, u36, u37, u38, u39, u40, u41, u42, u43, u44, u45, u46, u47, u48, u49, u50, u51, u52, u53, u54, u55, u56, u57, u58, u59, u60, u61, u62, u63, u64, u65, u66, u67, u68, u69, u70, u71, u72, u73, u74, u75, u76, u77, u78, u79, u80, u81, u82, u83, u84, u85, u86, u87, u88, u89, u90, u91, u92, u93, u94, u95, u96, u97, u98, u99, Value.func (Fn.func 52) #[] #[Value.pointer (some { block := B, off := 0 })], u101, u102, u103, u104, u105, u106, u107, u108, u109, u110, u111, u112, u113, u114, u115, u116, u117, u118, u119, u120, u121, u122, u123, u124, u125, u126, u127, u128, u129, u130, u131, u132, u133, u134, u135, u136, u137, u138, u139, u140, u141], defers := mk D :: Ds } W) :
    Code.wpIn Fence.wide 5 Tryd.prog
    (Code.rangeFunc (Operand.tmp 100) #[101, 102]
      ((Code.region 16
            #[{ dst := some 23, op := Op.assign (Operand.tmp 101), type := 9, pos := "law.go:62", after := #[],
                guard := none }]
            false).seq
        (Code.region 17
          #[{ dst := some 24, op := Op.assign (Operand.tmp 102), type := 9, pos := "law.go:62", after := #[],
              guard := none }]
          false))
      (Code.block 1
        (((Code.region 18
                  #[{ dst := some 103, op := Op.load 3 (Operand.tmp 21), type := 3, pos := "law.go:63", after := #[],
                      guard := none },
                    { dst := some 104, op := Op.load 22 (Operand.tmp 5), type := 22, pos := "law.go:63", after := #[],
                      guard := none },
                    { dst := some 105,
                      op :=
                        Op.call { callee := Callee.builtin Builtin.len, args := #[Operand.tmp 104], argTypes := #[22] },
                      type := 3, pos := "law.go:63", after := #[{ on := 1, ground := Ground.data }], guard := none },
                    { dst := some 106, op := Op.binOp BinOp.geq 3 (Operand.tmp 103) (Operand.tmp 105) 3, type := 4,
                      pos := "law.go:63",
                      after := #[{ on := 0, ground := Ground.data }, { on := 2, ground := Ground.data }],
                      guard := none },
                    { dst := some 107, op := Op.move (Operand.tmp 106), type := 4, pos := "law.go:63",
                      after := #[{ on := 3, ground := Ground.data }], guard := none },
                    { dst := some 108, op := Op.load 22 (Operand.tmp 5), type := 22, pos := "law.go:63",
                      after := #[{ on := 4, ground := Ground.guard }], guard := some (4, false) },
                    { dst := some 109, op := Op.load 3 (Operand.tmp 21), type := 3, pos := "law.go:63",
                      after := #[{ on := 4, ground := Ground.guard }], guard := some (4, false) },
                    { dst := some 110, op := Op.indexAddr 22 (Operand.tmp 108) (Operand.tmp 109), type := 0,
                      pos := "law.go:63",
                      after :=
                        #[{ on := 5, ground := Ground.data }, { on := 6, ground := Ground.data },
                          { on := 4, ground := Ground.guard }],
                      guard := some (4, false) },
                    { dst := some 111, op := Op.fieldAddr 45 (Operand.tmp 110) 0, type := 0, pos := "law.go:63",
                      after := #[{ on := 7, ground := Ground.data }, { on := 4, ground := Ground.guard }],
                      guard := some (4, false) },
                    { dst := some 112, op := Op.load 9 (Operand.tmp 111), type := 9, pos := "law.go:63",
                      after := #[{ on := 8, ground := Ground.data }, { on := 4, ground := Ground.guard }],
                      guard := some (4, false) },
                    { dst := some 113, op := Op.move (Operand.tmp 23), type := 9, pos := "law.go:63",
                      after := #[{ on := 4, ground := Ground.guard }], guard := some (4, false) },
                    { dst := some 114, op := Op.binOp BinOp.neq 9 (Operand.tmp 112) (Operand.tmp 113) 9, type := 4,
                      pos := "law.go:63",
                      after :=
                        #[{ on := 9, ground := Ground.data }, { on := 10, ground := Ground.data },
                          { on := 4, ground := Ground.guard }],
                      guard := some (4, false) },
                    { dst := some 115,
                      op := Op.pick (Operand.tmp 107) (Operand.const (Value.bool true)) (Operand.tmp 114), type := 4,
                      pos := "law.go:63",
                      after := #[{ on := 4, ground := Ground.data }, { on := 11, ground := Ground.data }],
                      guard := none },
                    { dst := some 116, op := Op.move (Operand.tmp 115), type := 4, pos := "law.go:63",
                      after := #[{ on := 12, ground := Ground.data }, { on := 4, ground := Ground.chain }],
                      guard := none },
                    { dst := some 117, op := Op.load 22 (Operand.tmp 5), type := 22, pos := "law.go:63",
                      after := #[{ on := 13, ground := Ground.guard }], guard := some (13, false) },
                    { dst := some 118, op := Op.load 3 (Operand.tmp 21), type := 3, pos := "law.go:63",
                      after := #[{ on := 13, ground := Ground.guard }], guard := some (13, false) },
                    { dst := some 119, op := Op.indexAddr 22 (Operand.tmp 117) (Operand.tmp 118), type := 0,
                      pos := "law.go:63",
                      after :=
                        #[{ on := 14, ground := Ground.data }, { on := 15, ground := Ground.data },
                          { on := 13, ground := Ground.guard }],
                      guard := some (13, false) },
                    { dst := some 120, op := Op.fieldAddr 45 (Operand.tmp 119) 1, type := 0, pos := "law.go:63",
                      after := #[{ on := 16, ground := Ground.data }, { on := 13, ground := Ground.guard }],
                      guard := some (13, false) },
                    { dst := some 121, op := Op.load 9 (Operand.tmp 120), type := 9, pos := "law.go:63",
                      after := #[{ on := 17, ground := Ground.data }, { on := 13, ground := Ground.guard }],
                      guard := some (13, false) },
                    { dst := some 122, op := Op.move (Operand.tmp 24), type := 9, pos := "law.go:63",
                      after := #[{ on := 13, ground := Ground.guard }], guard := some (13, false) },
                    { dst := some 123, op := Op.binOp BinOp.neq 9 (Operand.tmp 121) (Operand.tmp 122) 9, type := 4,
                      pos := "law.go:63",
                      after :=
                        #[{ on := 18, ground := Ground.data }, { on := 19, ground := Ground.data },
                          { on := 13, ground := Ground.guard }],
                      guard := some (13, false) },
                    { dst := some 124,
                      op := Op.pick (Operand.tmp 116) (Operand.const (Value.bool true)) (Operand.tmp 123), type := 4,
                      pos := "law.go:63",
                      after := #[{ on := 13, ground := Ground.data }, { on := 20, ground := Ground.data }],
                      guard := none }]
                  false).seq
              (Code.cond (Operand.tmp 124)
                ((Code.region 19
                      #[{ dst := none, op := Op.store 4 (Operand.tmp 10) (Operand.const (Value.bool false)), type := 0,
                          pos := "law.go:64", after := #[], guard := none }]
                      false).seq
                  Code.ret)
                Code.skip)).seq
          (Code.region 20
            #[{ dst := some 125, op := Op.load 3 (Operand.tmp 21), type := 3, pos := "law.go:66", after := #[],
                guard := none },
              { dst := some 126,
                op := Op.binOp BinOp.add 3 (Operand.tmp 125) (Operand.const (Value.int IntKind.i64 1)) 3, type := 3,
                pos := "law.go:66", after := #[{ on := 0, ground := Ground.data }], guard := none },
              { dst := none, op := Op.store 3 (Operand.tmp 21) (Operand.tmp 126), type := 0, pos := "law.go:66",
                after :=
                  #[{ on := 1, ground := Ground.data }, { on := 0, ground := Ground.phase },
                    { on := 1, ground := Ground.phase }],
                guard := none }]
            false))))
    Q { tmps := #[u0, u1, u2, u3, u4, Value.pointer (some { block := X, off := 0 }), u6, u7, u8, u9, Value.pointer (some { block := X + 1, off := 0 }), u11, u12, u13, u14, u15, u16, u17, u18, u19, u20, Value.pointer (some { block := N, off := 0 }), Value.func (Fn.func 52) #[] #[Value.pointer (some { block := B, off := 0 })], u23, u24, u25, u26, u27, u28, u29, u30, u31, u32, u33, u34, u35, u36, u37, u38, u39, u40, u41, u42, u43, u44, u45, u46, u47, u48, u49, u50, u51, u52, u53, u54, u55, u56, u57, u58, u59, u60, u61, u62, u63, u64, u65, u66, u67, u68, u69, u70, u71, u72, u73, u74, u75, u76, u77, u78, u79, u80, u81, u82, u83, u84, u85, u86, u87, u88, u89, u90, u91, u92, u93, u94, u95, u96, u97, u98, u99, Value.func (Fn.func 52) #[] #[Value.pointer (some { block := B, off := 0 })], u101, u102, u103, u104, u105, u106, u107, u108, u109, u110, u111, u112, u113, u114, u115, u116, u117, u118, u119, u120, u121, u122, u123, u124, u125, u126, u127, u128, u129, u130, u131, u132, u133, u134, u135, u136, u137, u138, u139, u140, u141], defers := Ds } V0 := by
  have hgd : ∀ b off, s8 = some ⟨b, off, none⟩ → l ≠ [] → b < V0.heap.size ∧ b ≠ N := fun b off e hne => by
    obtain ⟨z, hz⟩ := (nil_or l).resolve_left hne
    obtain ⟨b', o', e1, e2, _⟩ := hA8.cells 0 z hz
    rw [e] at e1
    cases e1
    exact ⟨World.block_lt_of_cell? V0 _ e2, hs8 _ _ e⟩
  refine wpIn_rangeFunc_ownH rfl (by omega) (gf := 52) (lb := #[.pointer (some ⟨B, 0, none⟩)]) rfl trivial (enters_of Tryd.func52 (by kernel_rfl) rfl)
    (prs_seq2 _ B V0.heap.size N c8 s8 l V0 (by omega) hB (Nat.le_refl _) cB hA8.cap hA8.lie hgd) Kr.trans (krK_b (Nat.le_refl _)) (Below.refl _ _) (fun _ => rfl)
    (fun pre W => ((Boxed W N 3 (.int .i64 (pre.length : Int)) ∧ Below N V0 W) ∧ Kr V0.heap.size N V0 W) ∧ pre = l.take pre.length)
    (fun c pre W => c = .ret ∧ ¬ pre = l.take pre.length)
    (OwnFrom.and (OwnFrom.and (OwnFrom.and (Own.from (boxed_own _ 3 (fun pre : List At => .int .i64 (pre.length : Int))) _) (ownFrom_below (by omega) (by omega))) (ownFrom_kr (Nat.le_refl _) (Nat.le_refl _))) (ownFrom_pure _ (fun pre : List At => pre = l.take pre.length)))
    (fun c pre X Y row hs hg hr => hs)
    ⟨⟨⟨bN, Below.refl _ _⟩, Kr.refl _ _ _⟩, by simp⟩
    (fun x a' W => a' = { tmps := #[u0, u1, u2, u3, u4, Value.pointer (some { block := X, off := 0 }), u6, u7, u8, u9, Value.pointer (some { block := X + 1, off := 0 }), u11, u12, u13, u14, u15, u16, u17, u18, u19, u20, Value.pointer (some { block := N, off := 0 }), Value.func (Fn.func 52) #[] #[Value.pointer (some { block := B, off := 0 })], .string (tx x.1), .string (tx x.2), u25, u26, u27, u28, u29, u30, u31, u32, u33, u34, u35, u36, u37, u38, u39, u40, u41, u42, u43, u44, u45, u46, u47, u48, u49, u50, u51, u52, u53, u54, u55, u56, u57, u58, u59, u60, u61, u62, u63, u64, u65, u66, u67, u68, u69, u70, u71, u72, u73, u74, u75, u76, u77, u78, u79, u80, u81, u82, u83, u84, u85, u86, u87, u88, u89, u90, u91, u92, u93, u94, u95, u96, u97, u98, u99, Value.func (Fn.func 52) #[] #[Value.pointer (some { block := B, off := 0 })], .string (tx x.1), .string (tx x.2), u103, u104, u105, u106, u107, u108, u109, u110, u111, u112, u113, u114, u115, u116, u117, u118, u119, u120, u121, u122, u123, u124, u125, u126, u127, u128, u129, u130, u131, u132, u133, u134, u135, u136, u137, u138, u139, u140, u141], defers := [] })
    (fun x a' _ X Y row hs hg hr => hs)
    ?assign ?body ?done ?stop
  case assign =>
    rintro l' pre x W K hI hK
    have HK := hK
    clear hK hgd hA8 cB hQ hX hR hL
    gi_wp2_with fail
    exact HK _ _ (KeepsFrom.refl _ _) (Kr.refl _ _ _) hI rfl
  case body =>
    rintro l' pre x a' W hl' ⟨r, hr⟩ ⟨⟨⟨b0, hB1⟩, hK1⟩, hpre⟩ rfl hlt
    have HI : Hid ((Boxed W N 3 (.int .i64 (pre.length : Int)) ∧ Below N V0 W) ∧ Kr V0.heap.size N V0 W) := ⟨⟨b0, hB1⟩, hK1⟩
    have c0 := b0.cell
    have f0 := b0.frozen
    have cX := hX W hB1
    have bR := hR W hB1
    have HR : Hid (Boxed W (X + 1) 4 (.bool false)) := bR
    have cR := bR.cell
    have fR := bR.frozen
    obtain ⟨y, hy⟩ : ∃ y, l[pre.length]? = some y := ⟨_, List.getElem?_eq_getElem hlt⟩
    obtain ⟨b, off, hsa, d0, d1⟩ := (hL W hB1).cells pre.length y hy
    have hcap := (hL W hB1).cap
    subst hsa
    have HP : Hid (pre = l.take pre.length ∧ l[pre.length]? = some y) := ⟨hpre, hy⟩
    obtain ⟨n, hn⟩ : ∃ n, pre.length = n := ⟨_, rfl⟩
    rw [hn] at c0 d0 d1 hlt
    have HN : Hid (pre.length = n) := hn
    have i1 : (n : Int) < (nl : Int) := by omega
    have k1 : (n : Int) ≤ 140737488351232 := by omega
    have k0 : (0 : Int) ≤ (n : Int) := by omega
    have hcap' : (nl : Int) ≤ (ca : Int) := by omega
    clear b0 hB1 hK1 hpre hr hl' hgd hA8 cB hQ hX hR hL bN hcap hlt hn hy bR hnl hs8 hsm
    by_cases e1 : y.1 = x.1
    · by_cases e2 : y.2 = x.2
      · have HE : Hid (y = x) := Prod.ext e1 e2
        rw [e1] at d0
        rw [e2] at d1
        clear e1 e2
        gi_wp2_with fail
        refine ⟨(KeepsOthers.setCell _ _ _).from _, Kr.setN _ _, ⟨⟨?_, ?_⟩, ?_⟩, ?_⟩
        · have h := HI.out.1.1.set (.int .i64 ((n : Int) + 1))
          rw [List.length_append, HN.out]
          exact h
        · exact HI.out.1.2.setCell (p := ⟨N, 0, none⟩) (Nat.le_refl _) _
        · exact HI.out.2.trans (Kr.setN _ _)
        · have hy := HP.out.2
          rw [HE.out] at hy
          rw [List.length_append]
          show pre ++ [x] = l.take (pre.length + 1)
          rw [List.take_add_one, ← HP.out.1, hy]
          rfl
      · have g1 : ((tx y.2).toList == (tx x.2).toList) = false := by rw [tx_list, tx_list]; simpa using e2
        have g2 : ¬ (tx y.2).toList = (tx x.2).toList := by rw [tx_list, tx_list]; exact e2
        have g3 : ((tx y.2).toList != (tx x.2).toList) = true := by rw [tx_list, tx_list]; simpa using e2
        have HE : Hid (¬ y = x) := fun e => e2 (by rw [e])
        rw [e1] at d0
        clear e1 e2
        gi_wp2_with fail
        exact ⟨(KeepsOthers.setCell _ _ _).from _, rfl, not_take HP.out.2 HE.out⟩
    · have g1 : ((tx y.1).toList == (tx x.1).toList) = false := by rw [tx_list, tx_list]; simpa using e1
      have g2 : ¬ (tx y.1).toList = (tx x.1).toList := by rw [tx_list, tx_list]; exact e1
      have g3 : ((tx y.1).toList != (tx x.1).toList) = true := by rw [tx_list, tx_list]; simpa using e1
      have HE : Hid (¬ y = x) := fun e => e1 (by rw [e])
      clear e1
      gi_wp2_with fail
      exact ⟨(KeepsOthers.setCell _ _ _).from _, rfl, not_take HP.out.2 HE.out⟩
  case done =>
    rintro D xs W hD rfl ⟨⟨⟨b0, hB1⟩, hK1⟩, hpre⟩ hK
    exact hQ D W hD b0 hB1 hK1 hK
  case stop =>
    rintro D c pre W hD ⟨m, rfl⟩ ⟨rfl, hn⟩ hK
    refine absurd ?_ hn
    rw [List.length_take, ← List.take_eq_take_min]
set_option maxRecDepth 100000 in
set_option maxHeartbeats 8000000 in
theorem rng2 {u0 u1 u2 u3 u4 u6 u7 u8 u9 u11 u12 u13 u14 u15 u16 u17 u18 u19 u20 u23 u24 u25 u26 u27 u28 u29 u30 u31 u32 u33 u34 u35 u36 u37 u38 u39 u40 u41 u42 u43 u44 u45 u46 u47 u48 u49 u50 u51 u52 u53 u54 u55 u56 u57 u58 u59 u60 u61 u62 u63 u64 u65 u66 u67 u68 u69 u70 u71 u72 u73 u74 u75 u76 u77 u78 u79 u80 u81 u82 u83 u84 u85 u86 u87 u88 u89 u90 u91 u92 u93 u94 u95 u96 u97 u98 u99 u100 u101 u102 u103 u104 u105 u106 u107 u108 u109 u110 u111 u112 u113 u114 u115 u116 u117 u118 u119 u120 u121 u122 u123 u124 u125 u126 u128 u129 u130 u131 u132 u133 u134 u135 u136 u137 u138 u139 u140 u141 : Value} {Ds : List Deferred} (X N B c8 : Nat) (s8 : Option Addr) (l : List At) (V0 : World) (Q : Exit → Act → World → Prop)
    (hsm : (l.length : Int) ≤ 140737488351232) (hNV : N < V0.heap.size) (v : Value) (bN : Boxed V0 N 3 v) (hB : B < V0.heap.size) (cB : V0.cell? ⟨B, 0, none⟩ = some (.slice s8 l.length c8)) (hA8 : Ats V0 s8 c8 l) (hs8 : ∀ b off, s8 = some ⟨b, off, none⟩ → b ≠ N)
    (hQ : ∀ D W, V0.heap.size ≤ D → Boxed W N 3 v → Below V0.heap.size V0 W → W.heap[D]? = some (.deferred (some [])) → Q .normal { tmps := #[u0, u1, u2, u3, u4, Value.pointer (some { block := X, off := 0 }), u6, u7, u8, u9, Value.pointer (some { block := X + 1, off := 0 }), u11, u12, u13, u14, u15, u16, u17, u18, u19, u20, Value.pointer (some { block := N, off := 0 }), Value.func (Fn.func 52) #[] #[Value.pointer (some { block := B, off := 0 })], u23, u24, u25, u26, u27, u28, u29, u30, u31, u32, u33, u34, u35, u36, u37, u38, u39, u40, u41, u42, u43, u44, u45, u46, u47, u48, u49, u50, u51, u52, u53, u54, u55, u56, u57, u58, u59, u60, u61, u62, u63, u64, u65, u66, u67, u68, u69, u70, u71, u72, u73, u74, u75, u76, u77, u78, u79, u80, u81, u82, u83, u84, u85, u86, u87, u88, u89, u90, u91, u92, u93, u94, u95, u96, u97, u98, u99, u100, u101, u102, u103, u104, u105, u106, u107, u108, u109, u110, u111, u112, u113, u114, u115, u116, u117, u118, u119, u120, u121, u122, u123, u124, u125, u126, Value.func (Fn.func 52) #[] #[Value.pointer (some { block := B, off := 0 })], u128, u129, u130, u131, u132, u133, u134, u135, u136, u137, u138, u139, u140, u141], defers := mk D :: Ds } W ∧ Q (.exit 2) { tmps := #[u0, u1, u2, u3, u4, Value.pointer (some { block := X, off := 0 }), u6, u7, u8, u9, Value.pointer (some { block := X + 1, off := 0 }), u11, u12, u13, u14, u15, u16, u17, u18, u19, u20, Value.pointer (some { block := N, off := 0 }), Value.func (Fn.func 52) #[] #[Value.pointer (some { block := B, off := 0 })], u23, u24, u25, u26, u27, u28, u29, u30, u31, u32, u33, u34, u35, u36, u37, u38, u39, u40, u41, u42, u43, u44, u45, u46, u47, u48, u49, u50, u51, u52, u53, u54, u55, u56, u57, u58, u59, u60, u61, u62, u63, u64, u65, u66, u67, u68, u69, u70, u71, u72, u73, u74, u75, u76, u77, u78, u79, u80, u81, u82, u83, u84, u85, u86, u87, u88, u89, u90, u91, u92, u93, u94, u95, u96, u97, u98, u99, u100, u101, u102, u103, u104, u105, u106, u107, u108, u109, u110, u111, u112, u113, u114, u115, u116, u117, u118, u119, u120, u121, u122, u123, u124, u125, u126, Value.func (Fn.func 52) #[] #[Value.pointer (some { block := B, off := 0 })], u128, u129, u130, u131, u132, u133, u134, u135, u136, u137, u138, u139, u140, u141], defers := mk D :: Ds } W) :
    Code.wpIn Fence.wide 5 Tryd.prog (Code.rangeFunc (Operand.tmp 127) #[128, 129] Code.skip (Code.block 3 (Code.exit 2)))
    Q { tmps := #[u0, u1, u2, u3, u4, Value.pointer (some { block := X, off := 0 }), u6, u7, u8, u9, Value.pointer (some { block := X + 1, off := 0 }), u11, u12, u13, u14, u15, u16, u17, u18, u19, u20, Value.pointer (some { block := N, off := 0 }), Value.func (Fn.func 52) #[] #[Value.pointer (some { block := B, off := 0 })], u23, u24, u25, u26, u27, u28, u29, u30, u31, u32, u33, u34, u35, u36, u37, u38, u39, u40, u41, u42, u43, u44, u45, u46, u47, u48, u49, u50, u51, u52, u53, u54, u55, u56, u57, u58, u59, u60, u61, u62, u63, u64, u65, u66, u67, u68, u69, u70, u71, u72, u73, u74, u75, u76, u77, u78, u79, u80, u81, u82, u83, u84, u85, u86, u87, u88, u89, u90, u91, u92, u93, u94, u95, u96, u97, u98, u99, u100, u101, u102, u103, u104, u105, u106, u107, u108, u109, u110, u111, u112, u113, u114, u115, u116, u117, u118, u119, u120, u121, u122, u123, u124, u125, u126, Value.func (Fn.func 52) #[] #[Value.pointer (some { block := B, off := 0 })], u128, u129, u130, u131, u132, u133, u134, u135, u136, u137, u138, u139, u140, u141], defers := Ds } V0 := by
  have hgd : ∀ b off, s8 = some ⟨b, off, none⟩ → l ≠ [] → b < V0.heap.size ∧ b ≠ N := fun b off e hne => by
    obtain ⟨z, hz⟩ := (nil_or l).resolve_left hne
    obtain ⟨b', o', e1, e2, _⟩ := hA8.cells 0 z hz
    rw [e] at e1
    cases e1
    exact ⟨World.block_lt_of_cell? V0 _ e2, hs8 _ _ e⟩
  refine wpIn_rangeFunc_ownH rfl (by omega) (gf := 52) (lb := #[.pointer (some ⟨B, 0, none⟩)]) rfl trivial (enters_of Tryd.func52 (by kernel_rfl) rfl)
    (prs_seq2 _ B V0.heap.size N c8 s8 l V0 hsm hB (Nat.le_refl _) cB hA8.cap hA8.lie hgd) Kr.trans (krK_b (Nat.le_refl _)) (Below.refl _ _) (fun _ => rfl)
    (fun pre W => Boxed W N 3 v ∧ Below V0.heap.size V0 W)
    (fun c pre W => (Boxed W N 3 v ∧ Below V0.heap.size V0 W) ∧ c = .exit 2)
    (OwnFrom.and (Own.from (boxed_own _ 3 (fun pre : List At => v)) _) (ownFrom_below (Nat.le_refl _) (Nat.le_refl _)))
    (fun c => OwnFrom.and (OwnFrom.and (Own.from (boxed_own _ 3 (fun pre : List At => v)) _) (ownFrom_below (Nat.le_refl _) (Nat.le_refl _))) (fun pre X Y row hs hg hr => hs))
    ⟨bN, Below.refl _ _⟩
    (fun x a' W => a' = { tmps := #[u0, u1, u2, u3, u4, Value.pointer (some { block := X, off := 0 }), u6, u7, u8, u9, Value.pointer (some { block := X + 1, off := 0 }), u11, u12, u13, u14, u15, u16, u17, u18, u19, u20, Value.pointer (some { block := N, off := 0 }), Value.func (Fn.func 52) #[] #[Value.pointer (some { block := B, off := 0 })], u23, u24, u25, u26, u27, u28, u29, u30, u31, u32, u33, u34, u35, u36, u37, u38, u39, u40, u41, u42, u43, u44, u45, u46, u47, u48, u49, u50, u51, u52, u53, u54, u55, u56, u57, u58, u59, u60, u61, u62, u63, u64, u65, u66, u67, u68, u69, u70, u71, u72, u73, u74, u75, u76, u77, u78, u79, u80, u81, u82, u83, u84, u85, u86, u87, u88, u89, u90, u91, u92, u93, u94, u95, u96, u97, u98, u99, u100, u101, u102, u103, u104, u105, u106, u107, u108, u109, u110, u111, u112, u113, u114, u115, u116, u117, u118, u119, u120, u121, u122, u123, u124, u125, u126, Value.func (Fn.func 52) #[] #[Value.pointer (some { block := B, off := 0 })], .string (tx x.1), .string (tx x.2), u130, u131, u132, u133, u134, u135, u136, u137, u138, u139, u140, u141], defers := [] })
    (fun x a' _ X Y row hs hg hr => hs)
    ?assign ?body ?done ?stop
  case assign =>
    rintro l' pre x W K hI hK
    have HK := hK
    clear hK hgd hA8 cB hQ
    gi_wp2_with fail
    exact HK _ _ (KeepsFrom.refl _ _) (Kr.refl _ _ _) hI rfl
  case body =>
    rintro l' pre x a' W hl' ⟨r, hr⟩ hI rfl hlt
    have HI := hI
    clear hI hgd hA8 cB hQ
    gi_wp2_with fail
    exact ⟨KeepsFrom.refl _ _, HI, rfl⟩
  case done =>
    rintro D xs W hD rfl ⟨b0, hB1⟩ hK
    exact (hQ D W hD b0 hB1 hK).1
  case stop =>
    rintro D c pre W hD _ ⟨⟨b0, hB1⟩, rfl⟩ hK
    have h := (hQ D W hD b0 hB1 hK).2
    clear hQ hgd hA8 cB
    gi_wp2_with fail
    exact h
end Go.Proofs.YtnfocmoieofbpaaDoor
