/- CacheLists: the law. -/
import Derived.Test.YtbcdaddbcjagjaaJf
import Derived.Deep.CutBlock
import Derived.BigQuiet
namespace Go.Proofs.Ytbcdaddbcjagjaa.I
open Go.RowKit
set_option linter.unusedVariables false
set_option linter.unusedSimpArgs false

set_option maxRecDepth 100000 in
set_option maxHeartbeats 16000000 in
theorem lists_law (most : Int) (sa : Option Addr) (len cap : Nat) (xs : List Int) (w : World) (hx : IntsAt w sa len cap xs) (hl : (len : Int) ≤ 140737488351232) :
    Calls Try.prog 3 #[.int .i64 most, .slice sa len cap] w fun e w' => e = .returned (.bool true) ∧ Below w.heap.size w w' := by
  by_cases hm : 1 ≤ most
  · have hm' : ¬ most < 1 := by omega
    have HX : Hid (IntsAt w sa len cap xs) := hx
    have HM : Hid (1 ≤ most) := hm
    have HNEW : Hid (Calls Try.prog 8 #[.int .i64 most] w fun e w' => ∃ L, e = .returned (.pointer (some ⟨L, 0, none⟩)) ∧ Hid (LZ w w' L most [] (.slice none 0 0) (.slice none 0 0))) := (lru_new most hm w).mono fun e w' ⟨L, h1, M, F, h2, h3, h4⟩ => ⟨L, h1, M, F, h2, h3, h4, RowD.nil _, RowD.nil _⟩
    clear hx hm
    go_enter Try.func3, Try.ntmps3
    go_wp2_with (go_at_call 8; refine HNEW.out.mono ?_; rintro e w1 ⟨L, rfl, H1⟩)
    clear HNEW
    go_loopw [6, 7, 8] (fun a b c wx => ∃ (i : Nat) (es : List It), c = .int .i64 (i : Int) ∧ i ≤ 200 ∧ i ≤ len ∧ es.length ≤ i ∧ Hid (LZ w wx L most es a b)) (fun a b c wx => 200 - (intOf c).toNat)
    case atStart => exact ⟨0, [], rfl, by omega, by omega, by simp, H1⟩
    case round =>
      obtain ⟨i, es, rfl, hi, hil, hes, H⟩ := hrel
      by_cases cl : i < len ∧ i < 200
      · have cl' : (i : Int) < (len : Int) := by omega
        have c2' : (i : Int) < 200 := by omega
        obtain ⟨x, hxx⟩ : ∃ x, xs[i]? = some x := ⟨_, List.getElem?_eq_getElem (by have := HX.out.n; omega)⟩
        obtain ⟨b, off, e, hlt, y0⟩ := (HX.out.later (LT.below H.out) (Nat.le_refl _)).l i x hxx
        subst e
        have hcap : (len : Int) ≤ (cap : Int) := by have := HX.out.c; omega
        have HY : Hid (∀ V, Below w.heap.size w V → V.cell? ⟨b, off + i, none⟩ = some (.int .i64 x)) := fun V hV => by
          obtain ⟨b2, off2, e2, hlt2, y2⟩ := (HX.out.later hV (Nat.le_refl _)).l i x hxx
          cases e2
          exact y2
        obtain ⟨sk, ck, hkv, hkc⟩ := (LT.rows H.out).1.form
        obtain ⟨sv, cv, hvv, hvc⟩ := (LT.rows H.out).2.form
        subst hkv hvv
        rw [List.length_map] at hkc hvc ⊢
        rw [List.length_map]
        obtain ⟨n, hn⟩ : ∃ n, es.length = n := ⟨_, rfl⟩
        have HN : Hid (es.length = n ∧ n ≤ i ∧ i < 200 ∧ i < len) := by show _ ∧ _; omega
        have HL : Hid (LT w wr L most es (.slice sk n ck) (es.map It.key) (.slice sv n cv) (es.map It.v)) := by
          have h9 := H.out
          unfold LZ at h9
          rw [List.length_map, List.length_map, hn] at h9
          exact h9
        rw [hn] at hkc hvc ⊢
        have hn2 : (n : Int) ≤ 200 := by omega
        clear hn hes hi hil cl hlt hxx H
        have H := HL
        clear HL
        obtain ⟨k, hk⟩ : ∃ k, x.tmod 8 = k := ⟨_, rfl⟩
        obtain ⟨g, hg⟩ : ∃ g, (x.tmod 3 == 0) = g := ⟨_, rfl⟩
        obtain ⟨d, hd⟩ : ∃ d, (x.tmod 11 == 1) = d := ⟨_, rfl⟩
        have hgn : (x.tmod 3 != 0) = !g := by rw [← hg]; rfl
        go_upto_block 2 with (fail)
        clear hk
        go_cut [10, 11] from 10 to 10 (fun a b wx => ∃ z, a = .int .i64 z ∧ wx = wr ∧ Hid (AtZ k (es.map It.key) n z))
        case first =>
          clear hg hd hgn y0
          go_wp2_with fail
          go_loopw [10, 11] (fun a b wx => ∃ (j : Nat) (z : Int), a = .int .i64 z ∧ b = .int .i64 (j : Int) ∧ j ≤ n ∧ wx = wr ∧ Hid (AtZ k (es.map It.key) j z)) (fun a b wx => n - (intOf b).toNat)
          case atStart => exact ⟨0, -1, rfl, rfl, by omega, rfl, AtZ.zero _ _⟩
          case round =>
            rename_i wr2
            obtain ⟨j, z, rfl, rfl, hj, hwr, HZ⟩ := hrel
            rw [hwr]
            clear hwr
            by_cases cj : j < n
            · have cj' : (j : Int) < (n : Int) := by omega
              obtain ⟨kj, hkj⟩ : ∃ kj, (es.map It.key)[j]? = some kj := ⟨_, List.getElem?_eq_getElem (by have := HN.out.1; simp; omega)⟩
              have HKJ : Hid ((es.map It.key)[j]? = some kj) := hkj
              have HCJ : Hid (j < n) := cj
              obtain ⟨g1, hsk, y1⟩ := (LT.rows H.out).1.cell hkj
              subst hsk
              have hkc' : (n : Int) ≤ (ck : Int) := by omega
              clear hkj cj
              by_cases hq : kj = k
              · have hqb : (kj == k) = true := by simpa using hq
                have HQ : Hid (kj = k) := hq
                clear hq
                go_wp2_with fail
                go_roundw
                case rel => exact ⟨j + 1, _, rfl, by go_num, HCJ.out, trivial, AtZ.hit (by rw [← HQ.out]; exact HKJ.out)⟩
                case measure => have := HCJ.out; simp [intOf]; omega
              · have hqb : (kj == k) = false := by simpa using hq
                have HQ : Hid (kj ≠ k) := hq
                clear hq
                go_wp2_with fail
                go_roundw
                case rel => exact ⟨j + 1, _, rfl, by go_num, HCJ.out, trivial, AtZ.pass HZ.out HKJ.out HQ.out⟩
                case measure => have := HCJ.out; simp [intOf]; omega
            · obtain rfl : j = n := by omega
              clear cj hj
              go_wp2_with fail
              go_meet
              exact ⟨z, rfl, rfl, HZ⟩
        obtain ⟨z, rfl, hwc, HZ⟩ := hcut
        rw [hwc]
        clear hwc
        have HNK := (LT.keysOk H.out).1
        have HAZ : Hid ((z = -1 ∧ lkE k es = none) ∨ ∃ (a : Nat) (x0 : It), z = (a : Int) ∧ es[a]? = some x0 ∧ x0.key = k ∧ lkE k es = some x0 ∧ ∀ f : It → Int, cp z (es.map f) 0 = (outE k es).map f) := AtZ.fin HNK HN.out.1.symm HZ.out
        have HK0 : Hid ((outE k es).length ≤ es.length ∧ (es.length : Int) ≤ most) := ⟨(outE_keys HNK).2.2, (LT.keysOk H.out).2.2⟩
        clear HNK HZ
        obtain ⟨v0, hv0⟩ : ∃ v0, ((lkE k es).map It.v).getD 0 = v0 := ⟨_, rfl⟩
        have HV0 : Hid (((lkE k es).map It.v).getD 0 = v0) := hv0
        obtain ⟨bz, hbz⟩ : ∃ bz, (lkE k es).isSome = bz := ⟨_, rfl⟩
        have HBZ : Hid ((lkE k es).isSome = bz) := hbz
        have hzb : decide (0 ≤ z) = bz := by
          rw [← hbz]
          rcases HAZ.out with ⟨h1, h2⟩ | ⟨a, x0, h1, h2, h3, h4, h5⟩
          · rw [h1, h2]; rfl
          · rw [h4, h1]; simp
        clear hv0 hbz
        go_upto_if 69 with (fail)
        go_cut [12] from 12 to 12 (fun a wx => a = .int .i64 v0 ∧ wx = wr)
        case first =>
          clear hg hd hgn y0
          rcases HAZ.out with ⟨h1, h2⟩ | ⟨a, x0, h1, h2, h3, h4, h5⟩
          · have e0 : v0 = 0 := by rw [← HV0.out, h2]; rfl
            have hbf : bz = false := by rw [← HBZ.out, h2]; rfl
            subst h1 e0 hbf
            clear hzb h2
            go_wp2_with fail
            go_meet
            exact ⟨rfl, rfl⟩
          · have e0 : v0 = x0.v := by rw [← HV0.out, h4]; rfl
            obtain ⟨g1, hsv, y1⟩ := (LT.rows H.out).2.cell (show (es.map It.v)[a]? = some x0.v by rw [List.getElem?_map, h2]; rfl)
            have ha : (a : Int) < (n : Int) := by have := (List.getElem?_eq_some_iff.1 h2).1; have := HN.out.1; omega
            have hvc' : (n : Int) ≤ (cv : Int) := by omega
            have hbf : bz = true := by rw [← HBZ.out, h4]; rfl
            subst h1 hsv e0 hbf
            clear hzb h2 h3 h4 h5
            go_wp2_with fail
            go_meet
            exact ⟨rfl, rfl⟩
        obtain ⟨rfl, hwc⟩ := hcut
        rw [hwc]
        clear hwc
        go_upto_block 4 with (fail)
        go_cut [12, 13, 14] from 12 to 12 (fun a b c wx => a = .int .i64 (stV g d k i es) ∧ Hid (LT w wx L most (stE g d k es) (.slice sk n ck) (es.map It.key) (.slice sv n cv) (es.map It.v)))
        case first =>
          cases g with
          | true =>
            have HG : Hid (Calls Try.prog 10 #[.pointer (some ⟨L, 0, none⟩), .int .i64 k] wr fun e w2 => e = .returned (.tuple #[.int .i64 v0, .bool bz]) ∧ Hid (LT w w2 L most (getE k es) (.slice sk n ck) (es.map It.key) (.slice sv n cv) (es.map It.v))) := by
              refine (LT.get H.out k).mono ?_
              rintro e w2 ⟨rfl, h2⟩
              refine ⟨?_, h2⟩
              rw [← HV0.out, ← HBZ.out]
              cases lkE k es <;> rfl
            have HSV : Hid (stV true d k i es = v0) := HV0.out
            go_wp2_with (go_at_call 10; refine HG.out.mono ?_; rintro e w2 ⟨rfl, H2⟩)
            go_meet
            exact ⟨by rw [HSV.out], H2⟩
          | false =>
            cases d with
            | true =>
              have HG : Hid (Calls Try.prog 11 #[.pointer (some ⟨L, 0, none⟩), .int .i64 k] wr fun e w2 => e = .returned (.bool bz) ∧ Hid (LT w w2 L most (outE k es) (.slice sk n ck) (es.map It.key) (.slice sv n cv) (es.map It.v))) := by
                have := LT.del H.out (by have := HN.out; omega) k
                rw [HBZ.out] at this
                exact this
              have HSV : Hid (stV false true k i es = v0) := HV0.out
              go_wp2_with (go_at_call 11; refine HG.out.mono ?_; rintro e w2 ⟨rfl, H2⟩)
              go_meet
              exact ⟨by rw [HSV.out], H2⟩
            | false =>
              go_wp2_with fail
              go_meet
              exact ⟨rfl, H⟩
        obtain ⟨rfl, H3⟩ := hcut
        clear H hzb y0
        obtain ⟨w3, hw3⟩ : ∃ w3, wc = w3 := ⟨_, rfl⟩
        rw [hw3] at H3 ⊢
        clear hw3
        have y0 := HY.out w3 H3.out.below
        go_upto_region 27 with (fail)
        go_cut [15] from 15 to 15 (fun a wx => a = .bool (!g && d) ∧ wx = w3)
        case first =>
          cases g with
          | true =>
            go_wp2_with fail
            go_meet
            exact ⟨rfl, rfl⟩
          | false =>
            go_wp2_with fail
            go_meet
            exact ⟨rfl, rfl⟩
        obtain ⟨rfl, hwc⟩ := hcut
        rw [hwc]
        clear hwc
        go_upto_region 30 with (fail)
        obtain ⟨pb, hpb⟩ : ∃ pb, (!(!g && d) && (bz || !g)) = pb := ⟨_, rfl⟩
        have HPB : Hid ((!(!g && d) && (bz || !g)) = pb) := hpb
        clear hpb
        have hzb : decide (0 ≤ z) = bz := by
          rw [← HBZ.out]
          rcases HAZ.out with ⟨h1, h2⟩ | ⟨a, x0, h1, h2, h3, h4, h5⟩
          · rw [h1, h2]; rfl
          · rw [h4, h1]; simp
        go_cut [137] from 137 to 137 (fun a wx => a = .bool pb ∧ wx = w3)
        case first =>
          cases g with
          | true =>
            cases bz with
            | true =>
              go_wp2_with fail
              go_meet
              exact ⟨by rw [← HPB.out]; rfl, by first | rfl | trivial⟩
            | false =>
              go_wp2_with fail
              go_meet
              exact ⟨by rw [← HPB.out]; rfl, by first | rfl | trivial⟩
          | false =>
            cases d with
            | true =>
              go_wp2_with fail
              go_meet
              exact ⟨by rw [← HPB.out]; rfl, by first | rfl | trivial⟩
            | false =>
              cases bz with
              | true =>
                go_wp2_with fail
                go_meet
                exact ⟨by rw [← HPB.out]; rfl, by first | rfl | trivial⟩
              | false =>
                go_wp2_with fail
                go_meet
                exact ⟨by rw [← HPB.out]; rfl, by first | rfl | trivial⟩
        obtain ⟨rfl, hwc⟩ := hcut
        rw [hwc]
        clear hwc
        have HPR : Hid ((pb = true ∧ stP g d k i es = [⟨k, stV g d k i es⟩]) ∨ (pb = false ∧ stP g d k i es = [])) := by
          show _ ∨ _
          rw [← HPB.out]
          have h8 := HBZ.out
          unfold stP
          cases g with
          | true =>
            cases bz with
            | true => left; rw [h8]; exact ⟨rfl, rfl⟩
            | false => right; rw [h8]; exact ⟨rfl, rfl⟩
          | false =>
            cases d with
            | true => right; exact ⟨rfl, rfl⟩
            | false => left; exact ⟨by cases bz <;> rfl, rfl⟩
        clear hzb HPB
        obtain ⟨v1, hv1⟩ : ∃ v1, stV g d k i es = v1 := ⟨_, rfl⟩
        rw [hv1] at HPR ⊢
        have HV1 : Hid (stV g d k i es = v1) := hv1
        clear hv1
        obtain ⟨pre, hpre⟩ : ∃ pre, stP g d k i es = pre := ⟨_, rfl⟩
        rw [hpre] at HPR
        have HPRE : Hid (stP g d k i es = pre) := hpre
        clear hpre
        go_upto_if 137 with (fail)
        go_cut [16, 17] from 16 to 16 (fun a b wx => (∃ s' n' c', a = .slice s' n' c') ∧ (∃ s' n' c', b = .slice s' n' c') ∧ Hid (LU w wx L most (stE g d k es) (.slice sk n ck) (es.map It.key) (.slice sv n cv) (es.map It.v) w3.heap.size a (pre.map It.key) b (pre.map It.v)))
        case first =>
          clear hg hd hgn y0
          have H4 : Hid (LU w w3 L most (stE g d k es) (.slice sk n ck) (es.map It.key) (.slice sv n cv) (es.map It.v) w3.heap.size (.slice none 0 0) [] (.slice none 0 0) []) := LU.start H3.out
          rcases HPR.out with ⟨rfl, e2⟩ | ⟨rfl, e2⟩
          · go_upto_region 32 with (at_builtin; (refine LU.wpApp H4.out (by simp) rfl (.tmp 138) (.tmp 140) rfl rfl rfl ?_; intro s' n' c' w4 H5))
            go_wp2_with (at_builtin; (refine LU.wpApp H5.out.swap (by simp) rfl (.tmp 142) (.tmp 144) rfl rfl rfl ?_; intro s2 n2 c2 w5 H6))
            go_meet
            refine ⟨⟨_, _, _, rfl⟩, ⟨_, _, _, rfl⟩, ?_⟩
            rw [e2]
            exact H6.out.swap
          · go_wp2_with fail
            go_meet
            refine ⟨⟨_, _, _, rfl⟩, ⟨_, _, _, rfl⟩, ?_⟩
            rw [e2]
            exact H4.out
        obtain ⟨⟨s4, n4, c4, rfl⟩, ⟨s5, n5, c5, rfl⟩, H4⟩ := hcut
        clear HPR H3 y0
        obtain ⟨B, hB⟩ : ∃ B, w3.heap.size = B := ⟨_, rfl⟩
        rw [hB] at H4
        clear hB
        obtain ⟨w4, hw4⟩ : ∃ w4, wc = w4 := ⟨_, rfl⟩
        rw [hw4] at H4 ⊢
        clear hw4
        obtain ⟨es1, hes1⟩ : ∃ es1, stE g d k es = es1 := ⟨_, rfl⟩
        rw [hes1] at H4
        have HES1 : Hid (stE g d k es = es1) := hes1
        clear hes1
        apply_assumption
        refine part33 xs x w w4 L most b off len cap i _ _ _ _ _ _ _ _ _ _ _ _ _ _ _ _ _ _ ?_ es es1 pre s4 s5 sk sv n4 c4 n5 c5 n ck cv B k z v1 g d _ _ _ _ _ _ _ _ _ _ _ _ _ _ _ _ _ _ _ _ _ _ _ _ _ _ _ _ _ _ _ _ _ _ _ _ _ _ _ _ _ _ _ _ _ _ _ _ _ _ _ _ _ _ _ _ _ _ _ _ _ _ _ _ _ _ _ _ _ _ _ _ _ _ _ _ _ _ _ _ _ _ _ _ _ _ _ _ _ _ _ _ _ _ _ _ _ _ _ _ _ _ _ _ _ _ _ _ _ _ _ _ _ _ _ _ _ _ _ _ _ _ _ _ _ _ _ _ _ _ _ _ _ _ _ _ _ _ _ _ _ _ _ _ _ _ _ _ _ _ _ _ _ _ _ _ _ _ _ _ _ _ _ _ _ _ _ _ _ _ _ _ _ _ _ _ _ _ _ _ _ _ _ _ _ _ _ _ _ _ _ _ _ _ _ _ _ _ _ _ _ _ _ _ _ _ _ _ _ _ _ _ _ _ _ _ _ _ _ _ _ HM HN hn2 cl' c2' hcap hkc hvc HAZ HK0 HV1 HPRE HES1 HY hg hd hgn H4
        show RQ _ _ _ _ _ _ _ _ _ _ _ _ _ _ _ _ _ _ _ _ _ _ _ _ _ _
        intro u4 u9 u10 u11 u12 u13 u14 u15 u16 u17 u18 u19 u20 u21 u22 u40 u41 u42 u43 u44 u45 u46 u47 u48 u49 u50 u51 u52 u53 u54 u55 u56 u57 u58 u59 u60 u61 u62 u63 u64 u65 u66 u67 u68 u69 u70 u71 u72 u73 u74 u75 u76 u77 u78 u79 u80 u81 u82 u83 u84 u85 u86 u87 u88 u89 u90 u91 u92 u93 u94 u95 u96 u97 u98 u99 u100 u101 u102 u103 u104 u105 u106 u107 u108 u109 u110 u111 u112 u113 u114 u115 u116 u117 u118 u119 u120 u121 u122 u123 u124 u125 u126 u127 u128 u129 u130 u131 u132 u133 u134 u135 u136 u137 u138 u139 u140 u141 u142 u143 u144 u145 u146 u147 u148 u149 u150 u151 u152 u153 u154 u155 u156 u157 u158 u159 u160 u161 u162 u163 u164 u165 u166 u167 u168 u169 u170 u171 u172 u173 u174 u175 u176 u177 u178 u179 u180 u181 u182 u183 u184 u185 u186 u187 u188 u189 u190 u191 u192 u193 u194 u195 u196 u197 u198 u199 u200 u201 u202 u203 u204 u205 u206 u207 u208 u209 u210 u211 u212 u213 u214 u215 u216 u217 u218 u219 u220 u221 u222 u223 u224 u225 u226 u227 u228 u229 u230 u231 u232 u233 u234 u235 u236 u237 u238 u239 u240 u241 u242 u243 u244 u245 u246 u247 u248 u249 u250 u251 kv vv w9 es2 hl9 H9
        have hl99 : es2.length ≤ i + 1 := hl9
        clear hl9 HAZ HK0 HV1 HPRE HES1 HY hg hd hgn H4 hkc hvc hn2
        go_wp2_with fail
        go_roundw
        case rel =>
          exact ⟨i + 1, es2, by go_num, by have := HN.out; omega, by have := HN.out; omega, hl99, H9⟩
        case measure => have := HN.out; simp [intOf]; omega
      · have HE : Hid (LZ w wr L most es u6 u7) := H
        by_cases c1 : i < len
        · obtain rfl : i = 200 := by omega
          have c1' : ((200 : Nat) : Int) < (len : Int) := by omega
          rw [show ((200 : Nat) : Int) = 200 from rfl] at c1' ⊢
          clear cl c1 hi hil hes
          go_wp2_with (go_at_call 9; refine (known_any _).mono ?_; rintro e w7 ⟨rfl, hb7⟩; (have HB7 : Hid (Below wr.heap.size wr w7) := hb7); clear hb7)
          go_ret
          exact ⟨rfl, (LT.below HE.out).trans (HB7.out.mono (LT.below HE.out).size)⟩
        · obtain rfl : i = len := by omega
          clear cl c1 hi hil hes
          go_wp2_with (go_at_call 9; refine (known_any _).mono ?_; rintro e w7 ⟨rfl, hb7⟩; (have HB7 : Hid (Below wr.heap.size wr w7) := hb7); clear hb7)
          go_ret
          exact ⟨rfl, (LT.below HE.out).trans (HB7.out.mono (LT.below HE.out).size)⟩
  · have hm' : most < 1 := by omega
    have HNEW : Hid (Calls Try.prog 8 #[.int .i64 most] w fun e w' => e = .returned (.pointer none) ∧ w' = w) := by
      clear hx hm
      go_enter Try.func8, Try.ntmps8
      go_wp2
      go_ret
      exact ⟨rfl, rfl⟩
    clear hx hm
    go_enter Try.func3, Try.ntmps3
    go_wp2_with (first | (go_at_call 8; refine HNEW.out.mono ?_; rintro e w1 ⟨rfl, hw1⟩; rw [hw1]; clear hw1) | (go_at_call 9; refine (known_any _).mono ?_; rintro e w7 ⟨rfl, hb7⟩; (have HB7 : Hid (Below w.heap.size w w7) := hb7); clear hb7))
    go_ret
    exact ⟨rfl, HB7.out⟩
end Go.Proofs.Ytbcdaddbcjagjaa.I
