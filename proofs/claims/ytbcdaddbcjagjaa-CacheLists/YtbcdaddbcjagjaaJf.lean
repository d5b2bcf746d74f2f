/- CacheLists: a step's middle. -/
import Derived.Test.YtbcdaddbcjagjaaJe
import Derived.Deep.CutBlock
import Derived.BigQuiet
namespace Go.Proofs.Ytbcdaddbcjagjaa.I
open Go.RowKit
set_option linter.unusedVariables false
set_option linter.unusedSimpArgs false

set_option maxRecDepth 1000000 in
set_option maxHeartbeats 16000000 in
theorem part33 (xs : List Int) (x : Int) (w w4 : World) (L : Nat) (most : Int) (b off len cap i : Nat) (t23 t24 t25 t26 t27 t28 t29 t30 t31 t32 t33 t34 t35 t36 t37 t38 t39 : Value) (Q : Exit → Act → World → Prop) (HQ : Hid (RQ w L most b off len cap i t23 t24 t25 t26 t27 t28 t29 t30 t31 t32 t33 t34 t35 t36 t37 t38 t39 Q)) (es es1 pre : List It) (s4 s5 sk sv : Option Addr) (n4 c4 n5 c5 n ck cv B : Nat) (k z v1 : Int) (g d : Bool) (u4 u11 u13 u14 u18 u19 u20 u21 u22 u40 u41 u42 u43 u44 u45 u46 u47 u48 u49 u50 u51 u52 u53 u54 u55 u56 u57 u58 u59 u60 u61 u62 u63 u64 u65 u66 u67 u68 u69 u70 u71 u72 u73 u74 u75 u76 u77 u78 u79 u80 u81 u82 u83 u84 u85 u86 u87 u88 u89 u90 u91 u92 u93 u94 u95 u96 u97 u98 u99 u100 u101 u102 u103 u104 u105 u106 u107 u108 u109 u110 u111 u112 u113 u114 u115 u116 u117 u118 u119 u120 u121 u122 u123 u124 u125 u126 u127 u128 u129 u130 u131 u132 u133 u134 u135 u136 u137 u138 u139 u140 u141 u142 u143 u144 u145 u146 u147 u148 u149 u150 u151 u152 u153 u154 u155 u156 u157 u158 u159 u160 u161 u162 u163 u164 u165 u166 u167 u168 u169 u170 u171 u172 u173 u174 u175 u176 u177 u178 u179 u180 u181 u182 u183 u184 u185 u186 u187 u188 u189 u190 u191 u192 u193 u194 u195 u196 u197 u198 u199 u200 u201 u202 u203 u204 u205 u206 u207 u208 u209 u210 u211 u212 u213 u214 u215 u216 u217 u218 u219 u220 u221 u222 u223 u224 u225 u226 u227 u228 u229 u230 u231 u232 u233 u234 u235 u236 u237 u238 u239 u240 u241 u242 u243 u244 u245 u246 u247 u248 u249 u250 u251 : Value)
    (HM : Hid (1 ≤ most)) (HN : Hid (es.length = n ∧ n ≤ i ∧ i < 200 ∧ i < len)) (hn2 : (n : Int) ≤ 200) (cl' : (i : Int) < (len : Int)) (c2' : (i : Int) < 200) (hcap : (len : Int) ≤ (cap : Int)) (hkc : n ≤ ck) (hvc : n ≤ cv)
    (HAZ : Hid ((z = -1 ∧ lkE k es = none) ∨ ∃ (a : Nat) (x0 : It), z = (a : Int) ∧ es[a]? = some x0 ∧ x0.key = k ∧ lkE k es = some x0 ∧ ∀ f : It → Int, cp z (es.map f) 0 = (outE k es).map f)) (HK0 : Hid ((outE k es).length ≤ es.length ∧ (es.length : Int) ≤ most)) (HV1 : Hid (stV g d k i es = v1)) (HPRE : Hid (stP g d k i es = pre)) (HES1 : Hid (stE g d k es = es1))
    (HY : Hid (∀ V, Below w.heap.size w V → V.cell? ⟨b, off + i, none⟩ = some (.int .i64 x))) (hg : (x.tmod 3 == 0) = g) (hd : (x.tmod 11 == 1) = d) (hgn : (x.tmod 3 != 0) = !g)
    (H4 : Hid (LU w w4 L most es1 (.slice sk n ck) (es.map It.key) (.slice sv n cv) (es.map It.v) B (.slice s4 n4 c4) (pre.map It.key) (.slice s5 n5 c5) (pre.map It.v))) :
    Code.wp Try.prog code33 Q ⟨List.toArray (.int .i64 most :: .slice (some ⟨b, off, none⟩) len cap :: undef :: undef :: u4 :: .pointer (some ⟨L, 0, none⟩) :: .slice sk n ck :: .slice sv n cv :: .int .i64 (i : Int) :: .int .i64 k :: .int .i64 z :: u11 :: .int .i64 v1 :: u13 :: u14 :: .bool (!g && d) :: .slice s4 n4 c4 :: .slice s5 n5 c5 :: u18 :: u19 :: u20 :: u21 :: u22 :: t23 :: t24 :: t25 :: t26 :: t27 :: t28 :: t29 :: t30 :: t31 :: t32 :: t33 :: t34 :: t35 :: t36 :: t37 :: t38 :: t39 :: u40 :: u41 :: u42 :: u43 :: u44 :: u45 :: u46 :: u47 :: u48 :: u49 :: u50 :: u51 :: u52 :: u53 :: u54 :: u55 :: u56 :: u57 :: u58 :: u59 :: u60 :: u61 :: u62 :: u63 :: u64 :: u65 :: u66 :: u67 :: u68 :: u69 :: u70 :: u71 :: u72 :: u73 :: u74 :: u75 :: u76 :: u77 :: u78 :: u79 :: u80 :: u81 :: u82 :: u83 :: u84 :: u85 :: u86 :: u87 :: u88 :: u89 :: u90 :: u91 :: u92 :: u93 :: u94 :: u95 :: u96 :: u97 :: u98 :: u99 :: u100 :: u101 :: u102 :: u103 :: u104 :: u105 :: u106 :: u107 :: u108 :: u109 :: u110 :: u111 :: u112 :: u113 :: u114 :: u115 :: u116 :: u117 :: u118 :: u119 :: u120 :: u121 :: u122 :: u123 :: u124 :: u125 :: u126 :: u127 :: u128 :: u129 :: u130 :: u131 :: u132 :: u133 :: u134 :: u135 :: u136 :: u137 :: u138 :: u139 :: u140 :: u141 :: u142 :: u143 :: u144 :: u145 :: u146 :: u147 :: u148 :: u149 :: u150 :: u151 :: u152 :: u153 :: u154 :: u155 :: u156 :: u157 :: u158 :: u159 :: u160 :: u161 :: u162 :: u163 :: u164 :: u165 :: u166 :: u167 :: u168 :: u169 :: u170 :: u171 :: u172 :: u173 :: u174 :: u175 :: u176 :: u177 :: u178 :: u179 :: u180 :: u181 :: u182 :: u183 :: u184 :: u185 :: u186 :: u187 :: u188 :: u189 :: u190 :: u191 :: u192 :: u193 :: u194 :: u195 :: u196 :: u197 :: u198 :: u199 :: u200 :: u201 :: u202 :: u203 :: u204 :: u205 :: u206 :: u207 :: u208 :: u209 :: u210 :: u211 :: u212 :: u213 :: u214 :: u215 :: u216 :: u217 :: u218 :: u219 :: u220 :: u221 :: u222 :: u223 :: u224 :: u225 :: u226 :: u227 :: u228 :: u229 :: u230 :: u231 :: u232 :: u233 :: u234 :: u235 :: u236 :: u237 :: u238 :: u239 :: u240 :: u241 :: u242 :: u243 :: u244 :: u245 :: u246 :: u247 :: u248 :: u249 :: u250 :: u251 :: undef :: []), []⟩ w4 := by
  conv => arg 2; whnf
  go_upto_block 5 with (fail)
  go_cut [16, 17, 18] from 16 to 16 (fun a b c wx => (∃ s' n' c', a = .slice s' n' c') ∧ (∃ s' n' c', b = .slice s' n' c') ∧ Hid (LT w wx L most es1 a ((stL g d k i es).map It.key) b ((stL g d k i es).map It.v)))
  case first =>
    clear hg hd hgn
    go_wp2_with fail
    go_loopw [16, 17, 18] (fun a b c wx => ∃ j : Nat, c = .int .i64 (j : Int) ∧ j ≤ n ∧ (∃ s' n' c', a = .slice s' n' c') ∧ (∃ s' n' c', b = .slice s' n' c') ∧ Hid (LU w wx L most es1 (.slice sk n ck) (es.map It.key) (.slice sv n cv) (es.map It.v) B a (pre.map It.key ++ cp z ((es.map It.key).take j) 0) b (pre.map It.v ++ cp z ((es.map It.v).take j) 0)) ∧ Hid (((pre.map It.key ++ cp z ((es.map It.key).take j) 0).length : Int) ≤ j + 1 ∧ ((pre.map It.v ++ cp z ((es.map It.v).take j) 0).length : Int) ≤ j + 1)) (fun a b c wx => n - (intOf c).toNat)
    case atStart =>
      refine ⟨0, rfl, by omega, ⟨_, _, _, rfl⟩, ⟨_, _, _, rfl⟩, ?_, ?_⟩
      · simp only [List.take_zero, cp, List.append_nil]
        exact H4.out
      · have e : pre.length ≤ 1 := by
          rw [← HPRE.out]
          unfold stP
          split
          · split <;> simp
          · split <;> simp
        show _ ∧ _
        simp only [List.take_zero, cp, List.append_nil, List.length_map]
        omega
    case round =>
      obtain ⟨j, rfl, hj, ⟨s6, n6, c6, rfl⟩, ⟨s7, n7, c7, rfl⟩, H5, H6⟩ := hrel
      by_cases cj : j < n
      · have cj' : (j : Int) < (n : Int) := by omega
        obtain ⟨xj, hxj⟩ : ∃ xj, es[j]? = some xj := ⟨_, List.getElem?_eq_getElem (by have := HN.out.1; omega)⟩
        have HK1 : Hid ((es.map It.key)[j]? = some xj.key ∧ (es.map It.v)[j]? = some xj.v) := by
          show _ ∧ _
          rw [List.getElem?_map, List.getElem?_map, hxj]
          exact ⟨rfl, rfl⟩
        have HCJ : Hid (j < n) := cj
        clear hxj cj hj
        by_cases hq : (j : Int) = z
        · have HQ : Hid ((j : Int) = z) := hq
          have hqb : ((j : Int) != z) = false := by simpa using hq
          have hqb2 : ((j : Int) == z) = true := by simpa using hq
          clear hq
          go_wp2_with fail
          go_roundw
          case rel =>
            refine ⟨j + 1, by go_num, HCJ.out, ⟨_, _, _, rfl⟩, ⟨_, _, _, rfl⟩, ?_, ?_⟩
            · rw [cp_step z HK1.out.1, cp_step z HK1.out.2, if_pos HQ.out, if_pos HQ.out, List.append_nil, List.append_nil]
              exact H5.out
            · rw [cp_step z HK1.out.1, cp_step z HK1.out.2, if_pos HQ.out, if_pos HQ.out, List.append_nil, List.append_nil]
              have := H6.out
              show _ ∧ _
              omega
          case measure => have := HCJ.out; simp [intOf]; omega
        · have HQ : Hid (¬ (j : Int) = z) := hq
          have hqb : ((j : Int) != z) = true := by simpa using hq
          have hqb2 : ((j : Int) == z) = false := by simpa using hq
          obtain ⟨g1, hsk, y1⟩ := H5.out.t.rows.1.cell HK1.out.1
          subst hsk
          have hkc' : (n : Int) ≤ (ck : Int) := by omega
          have hvc' : (n : Int) ≤ (cv : Int) := by omega
          clear hq
          go_upto_region 38 with (at_builtin; (refine LU.wpApp H5.out (by have := H6.out; have := HCJ.out; omega) rfl (.tmp 155) (.tmp 160) rfl rfl rfl ?_; intro s8 n8 c8 w5 H7))
          obtain ⟨g2, hsv, y2⟩ := H7.out.t.rows.2.cell HK1.out.2
          subst hsv
          clear y1
          go_wp2_with (at_builtin; (refine LU.wpApp H7.out.swap (by have := H6.out; have := HCJ.out; omega) rfl (.tmp 162) (.tmp 167) rfl rfl rfl ?_; intro s9 n9 c9 w6 H8))
          go_roundw
          case rel =>
            refine ⟨j + 1, by go_num, HCJ.out, ⟨_, _, _, rfl⟩, ⟨_, _, _, rfl⟩, ?_, ?_⟩
            · rw [cp_step z HK1.out.1, cp_step z HK1.out.2, if_neg HQ.out, if_neg HQ.out, ← List.append_assoc, ← List.append_assoc]
              exact H8.out.swap
            · rw [cp_step z HK1.out.1, cp_step z HK1.out.2, if_neg HQ.out, if_neg HQ.out, ← List.append_assoc, ← List.append_assoc]
              have := H6.out
              show _ ∧ _
              rw [List.length_append, List.length_append (bs := [xj.v])]
              simp only [List.length_singleton]
              omega
          case measure => have := HCJ.out; simp [intOf]; omega
      · obtain rfl : j = n := by omega
        clear cj hj
        go_wp2_with fail
        go_meet
        refine ⟨⟨_, _, _, rfl⟩, ⟨_, _, _, rfl⟩, ?_⟩
        have e1 := H5.out.fin
        have e2 : ∀ f : It → Int, pre.map f ++ cp z ((es.map f).take j) 0 = (stL g d k i es).map f := fun f => by
          unfold stL
          rw [HPRE.out, List.map_append, List.take_of_length_le (by have := HN.out.1; simp; omega)]
          rcases HAZ.out with ⟨h1, h2⟩ | ⟨a, x0, h1, h2, h3, h4, h5⟩
          · rw [cp_neg (by omega), outE_none (lkE_none.1 h2)]
          · rw [h5]
        rw [e2, e2] at e1
        exact e1
  obtain ⟨⟨s6, n6, c6, rfl⟩, ⟨s7, n7, c7, rfl⟩, H5⟩ := hcut
  clear H4 HPRE hn2
  obtain ⟨w5, hw5⟩ : ∃ w5, wc = w5 := ⟨_, rfl⟩
  rw [hw5] at H5 ⊢
  clear hw5
  obtain ⟨SL, hSL⟩ : ∃ SL, stL g d k i es = SL := ⟨_, rfl⟩
  rw [hSL] at H5
  have HSL : Hid (stL g d k i es = SL) := hSL
  clear hSL
  have y0 := HY.out w5 H5.out.below
  obtain ⟨nl, hnl⟩ : ∃ nl, SL.length = nl := ⟨_, rfl⟩
  have HNL : Hid (SL.length = nl) := hnl
  have hrow := H5.out.rows
  obtain ⟨q1, q2, e6, hc6⟩ := hrow.1.form
  obtain ⟨q3, q4, e7, hc7⟩ := hrow.2.form
  rw [List.length_map, hnl] at e6 hc6 e7 hc7
  cases e6
  cases e7
  clear hrow
  go_upto_region 39 with (fail)
  go_cut [178] from 178 to 178 (fun a wx => a = .bool (!g && !d) ∧ wx = w5)
  case first =>
    cases g with
    | true =>
      go_wp2_with fail
      go_meet
      exact ⟨rfl, rfl⟩
    | false =>
      go_wp2_with fail
      go_meet
      exact ⟨rfl, rfl⟩
  obtain ⟨rfl, hwc⟩ := hcut
  rw [hwc]
  clear hwc y0
  obtain ⟨qb, hqb⟩ : ∃ qb, (!g && !d) = qb := ⟨_, rfl⟩
  have HQB : Hid ((!g && !d) = qb) := hqb
  rw [hqb]
  clear hqb
  go_upto_if 178 with (fail)
  go_cut [16, 17, 19, 20] from 16 to 16 (fun a b _ _ wx => ∃ (es2 : List It) (s1 s2 : Option Addr) (c1 c2 : Nat), a = .slice s1 es2.length c1 ∧ b = .slice s2 es2.length c2 ∧ es2.length ≤ c1 ∧ es2.length ≤ i + 1 ∧ Hid (LT w wx L most es2 a (es2.map It.key) b (es2.map It.v)))
  case first =>
    have HL1 : Hid (SL.length ≤ i + 1) := by
      have h8 := stL_len g d k (i : Int) es
      rw [HSL.out] at h8
      have := HK0.out
      have := HN.out
      show _ ≤ _
      omega
    clear hg hd hgn
    cases g with
    | true =>
      obtain rfl : qb = false := HQB.out.symm
      go_wp2_with fail
      go_meet
      have e1 : es1 = SL := by rw [← HES1.out, ← HSL.out, stL_get]; rfl
      have hl1 : SL.length ≤ i + 1 := HL1.out
      refine ⟨SL, _, _, _, _, by rw [HNL.out], by rw [HNL.out], by rw [HNL.out]; exact hc6, hl1, ?_⟩
      rw [← e1] at H5 ⊢
      exact H5
    | false =>
      cases d with
      | true =>
        obtain rfl : qb = false := HQB.out.symm
        go_wp2_with fail
        go_meet
        have e1 : es1 = SL := by rw [← HES1.out, ← HSL.out, stL_del]; rfl
        have hl1 : SL.length ≤ i + 1 := HL1.out
        refine ⟨SL, _, _, _, _, by rw [HNL.out], by rw [HNL.out], by rw [HNL.out]; exact hc6, hl1, ?_⟩
        rw [← e1] at H5 ⊢
        exact H5
      | false =>
        obtain rfl : qb = true := HQB.out.symm
        have e1 : es1 = es := HES1.out.symm
        have e2 : SL = ⟨k, i⟩ :: outE k es := by rw [← HSL.out, stL_put]
        have ev : v1 = (i : Int) := HV1.out.symm
        rw [e1] at H5
        subst ev
        have HP := H5.out.put (by have := HN.out; omega) k i
        rcases put_last (most := most) (x := ⟨k, (i : Int)⟩) (es := es) (by have := HK0.out; show ((outE k es).length : Int) ≤ most; omega) HM.out with ⟨h1, h2⟩ | ⟨h1, m, y, h2, h3, h4, h5⟩
        · rw [h2] at HP
          have HP' : Hid (Calls Try.prog 12 #[.pointer (some ⟨L, 0, none⟩), .int .i64 k, .int .i64 (i : Int)] w5 fun e w2 => e = .returned (.tuple #[.int .i64 0, .bool false]) ∧ Hid (LT w w2 L most SL (.slice s6 n6 c6) (SL.map It.key) (.slice s7 n6 c7) (SL.map It.v))) := by rw [e2] at HP ⊢; exact HP
          have hle : ¬ most < (n6 : Int) := by have := HNL.out; rw [e2] at this; rw [← this]; exact Int.not_lt.2 h1
          clear HP h1 h2 e2
          go_wp2_with (go_at_call 12; refine HP'.out.mono ?_; rintro e w2 ⟨rfl, H6⟩)
          go_meet
          have hl1 : SL.length ≤ i + 1 := HL1.out
          exact ⟨SL, _, _, _, _, by rw [HNL.out], by rw [HNL.out], by rw [HNL.out]; exact hc6, hl1, H6⟩
        · rw [h5] at HP
          subst h2
          have h6 : n6 = m + 1 := by have := HNL.out; rw [e2] at this; rw [← this]; exact h3
          subst h6
          have hm0 : 1 ≤ m := by have := HM.out; omega
          have hSm : SL[m]? = some y := by rw [e2]; exact h4
          have HP' : Hid (Calls Try.prog 12 #[.pointer (some ⟨L, 0, none⟩), .int .i64 k, .int .i64 (i : Int)] w5 fun e w2 => e = .returned (.tuple #[.int .i64 y.key, .bool true]) ∧ Hid (LT w w2 L (m : Int) (SL.take m) (.slice s6 (m + 1) c6) (SL.map It.key) (.slice s7 (m + 1) c7) (SL.map It.v))) := by rw [e2] at HP ⊢; exact HP
          have hm2 : (m : Int) ≤ 200 := by have := HL1.out; have := HNL.out; have := HN.out; omega
          have HMM : Hid (1 ≤ m ∧ m + 1 ≤ c6 ∧ m + 1 ≤ c7 ∧ SL[m]? = some y) := ⟨hm0, hc6, hc7, hSm⟩
          have hc6' : (m : Int) + 1 ≤ (c6 : Int) := by omega
          have hc7' : (m : Int) + 1 ≤ (c7 : Int) := by omega
          clear HP h1 h3 h4 h5 e2 hm0 hSm hc6 hc7
          go_upto_region 41 with (go_at_call 12; refine HP'.out.mono ?_; rintro e w2 ⟨rfl, H6⟩)
          obtain ⟨g1, hs6, y1⟩ := H6.out.rows.1.cell (show (SL.map It.key)[m]? = some y.key by rw [List.getElem?_map, HMM.out.2.2.2]; rfl)
          subst hs6
          go_wp2_with fail
          go_meet
          have hln : (SL.take m).length = m := by rw [List.length_take]; have := HNL.out; omega
          refine ⟨SL.take m, _, _, _, _, by rw [hln], by rw [hln], by rw [hln]; have := HMM.out; omega, by rw [hln]; have := HL1.out; have := HNL.out; omega, ?_⟩
          have h9 := H6.out.take (m := m) (by omega) HMM.out.1
          rw [← List.map_take, ← List.map_take] at h9
          exact h9
  obtain ⟨es2, s8, s9, c8, c9, rfl, rfl, hc8, hl2, H6⟩ := hcut
  clear HNL HSL H5 HQB hc6 hc7 HES1 HV1 HAZ HK0 hg hd hgn HY hkc hvc
  obtain ⟨w6, hw6⟩ : ∃ w6, wc = w6 := ⟨_, rfl⟩
  rw [hw6] at H6 ⊢
  clear hw6
  apply_assumption
  exact part46 w w6 L most b off len cap i _ _ _ _ _ _ _ _ _ _ _ _ _ _ _ _ _ _ HQ es2 s8 s9 sk sv c8 c9 n ck cv _ _ _ _ _ _ _ _ _ _ _ _ _ _ _ _ _ _ _ _ _ _ _ _ _ _ _ _ _ _ _ _ _ _ _ _ _ _ _ _ _ _ _ _ _ _ _ _ _ _ _ _ _ _ _ _ _ _ _ _ _ _ _ _ _ _ _ _ _ _ _ _ _ _ _ _ _ _ _ _ _ _ _ _ _ _ _ _ _ _ _ _ _ _ _ _ _ _ _ _ _ _ _ _ _ _ _ _ _ _ _ _ _ _ _ _ _ _ _ _ _ _ _ _ _ _ _ _ _ _ _ _ _ _ _ _ _ _ _ _ _ _ _ _ _ _ _ _ _ _ _ _ _ _ _ _ _ _ _ _ _ _ _ _ _ _ _ _ _ _ _ _ _ _ _ _ _ _ _ _ _ _ _ _ _ _ _ _ _ _ _ _ _ _ _ _ _ _ _ _ _ _ _ _ _ _ _ _ _ _ _ _ _ _ _ _ _ _ _ _ _ _ _ _ _ (show _ from HN.out.2) hc8 hl2 H6
end Go.Proofs.Ytbcdaddbcjagjaa.I
