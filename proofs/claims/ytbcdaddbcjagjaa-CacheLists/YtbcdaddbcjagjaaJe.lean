/- CacheLists: a step's end. -/
import Derived.Test.YtbcdaddbcjagjaaJd
import Derived.Deep.CutBlock
import Derived.BigQuiet
namespace Go.Proofs.Ytbcdaddbcjagjaa.I
open Go.RowKit
set_option linter.unusedVariables false
set_option linter.unusedSimpArgs false

def seqAt (n : Nat) : Code → Option Code
  | .seq (.region m o d) r => if m = n then some (.seq (.region m o d) r) else seqAt n r
  | .seq (.seq (.region m o d) q) r => if m = n then some (.seq (.seq (.region m o d) q) r) else (match seqAt n q with | some c => some c | none => seqAt n r)
  | .seq a b => match seqAt n a with | some c => some c | none => seqAt n b
  | .loop c => seqAt n c
  | .block _ c => seqAt n c
  | .scope c => seqAt n c
  | .cond _ a b => match seqAt n a with | some c => some c | none => seqAt n b
  | _ => none
noncomputable def code33 : Code := (Try.f3.body.bind (seqAt 33)).getD .skip
noncomputable def code46 : Code := (Try.f3.body.bind (seqAt 46)).getD .skip
set_option maxRecDepth 1000000 in
/-- A step's end. -/
def RQ (w : World) (L : Nat) (most : Int) (b off len cap i : Nat) (t23 t24 t25 t26 t27 t28 t29 t30 t31 t32 t33 t34 t35 t36 t37 t38 t39 : Value) (Q : Exit → Act → World → Prop) : Prop :=
  ∀ (u4 u9 u10 u11 u12 u13 u14 u15 u16 u17 u18 u19 u20 u21 u22 u40 u41 u42 u43 u44 u45 u46 u47 u48 u49 u50 u51 u52 u53 u54 u55 u56 u57 u58 u59 u60 u61 u62 u63 u64 u65 u66 u67 u68 u69 u70 u71 u72 u73 u74 u75 u76 u77 u78 u79 u80 u81 u82 u83 u84 u85 u86 u87 u88 u89 u90 u91 u92 u93 u94 u95 u96 u97 u98 u99 u100 u101 u102 u103 u104 u105 u106 u107 u108 u109 u110 u111 u112 u113 u114 u115 u116 u117 u118 u119 u120 u121 u122 u123 u124 u125 u126 u127 u128 u129 u130 u131 u132 u133 u134 u135 u136 u137 u138 u139 u140 u141 u142 u143 u144 u145 u146 u147 u148 u149 u150 u151 u152 u153 u154 u155 u156 u157 u158 u159 u160 u161 u162 u163 u164 u165 u166 u167 u168 u169 u170 u171 u172 u173 u174 u175 u176 u177 u178 u179 u180 u181 u182 u183 u184 u185 u186 u187 u188 u189 u190 u191 u192 u193 u194 u195 u196 u197 u198 u199 u200 u201 u202 u203 u204 u205 u206 u207 u208 u209 u210 u211 u212 u213 u214 u215 u216 u217 u218 u219 u220 u221 u222 u223 u224 u225 u226 u227 u228 u229 u230 u231 u232 u233 u234 u235 u236 u237 u238 u239 u240 u241 u242 u243 u244 u245 u246 u247 u248 u249 u250 u251 kv vv : Value) (w' : World) (es : List It), es.length ≤ i + 1 → Hid (LZ w w' L most es kv vv) → Q .normal ⟨List.toArray (.int .i64 most :: .slice (some ⟨b, off, none⟩) len cap :: undef :: undef :: u4 :: .pointer (some ⟨L, 0, none⟩) :: kv :: vv :: .int .i64 (i : Int) :: u9 :: u10 :: u11 :: u12 :: u13 :: u14 :: u15 :: u16 :: u17 :: u18 :: u19 :: u20 :: u21 :: u22 :: t23 :: t24 :: t25 :: t26 :: t27 :: t28 :: t29 :: t30 :: t31 :: t32 :: t33 :: t34 :: t35 :: t36 :: t37 :: t38 :: t39 :: u40 :: u41 :: u42 :: u43 :: u44 :: u45 :: u46 :: u47 :: u48 :: u49 :: u50 :: u51 :: u52 :: u53 :: u54 :: u55 :: u56 :: u57 :: u58 :: u59 :: u60 :: u61 :: u62 :: u63 :: u64 :: u65 :: u66 :: u67 :: u68 :: u69 :: u70 :: u71 :: u72 :: u73 :: u74 :: u75 :: u76 :: u77 :: u78 :: u79 :: u80 :: u81 :: u82 :: u83 :: u84 :: u85 :: u86 :: u87 :: u88 :: u89 :: u90 :: u91 :: u92 :: u93 :: u94 :: u95 :: u96 :: u97 :: u98 :: u99 :: u100 :: u101 :: u102 :: u103 :: u104 :: u105 :: u106 :: u107 :: u108 :: u109 :: u110 :: u111 :: u112 :: u113 :: u114 :: u115 :: u116 :: u117 :: u118 :: u119 :: u120 :: u121 :: u122 :: u123 :: u124 :: u125 :: u126 :: u127 :: u128 :: u129 :: u130 :: u131 :: u132 :: u133 :: u134 :: u135 :: u136 :: u137 :: u138 :: u139 :: u140 :: u141 :: u142 :: u143 :: u144 :: u145 :: u146 :: u147 :: u148 :: u149 :: u150 :: u151 :: u152 :: u153 :: u154 :: u155 :: u156 :: u157 :: u158 :: u159 :: u160 :: u161 :: u162 :: u163 :: u164 :: u165 :: u166 :: u167 :: u168 :: u169 :: u170 :: u171 :: u172 :: u173 :: u174 :: u175 :: u176 :: u177 :: u178 :: u179 :: u180 :: u181 :: u182 :: u183 :: u184 :: u185 :: u186 :: u187 :: u188 :: u189 :: u190 :: u191 :: u192 :: u193 :: u194 :: u195 :: u196 :: u197 :: u198 :: u199 :: u200 :: u201 :: u202 :: u203 :: u204 :: u205 :: u206 :: u207 :: u208 :: u209 :: u210 :: u211 :: u212 :: u213 :: u214 :: u215 :: u216 :: u217 :: u218 :: u219 :: u220 :: u221 :: u222 :: u223 :: u224 :: u225 :: u226 :: u227 :: u228 :: u229 :: u230 :: u231 :: u232 :: u233 :: u234 :: u235 :: u236 :: u237 :: u238 :: u239 :: u240 :: u241 :: u242 :: u243 :: u244 :: u245 :: u246 :: u247 :: u248 :: u249 :: u250 :: u251 :: undef :: []), []⟩ w'
set_option maxRecDepth 1000000 in
set_option maxHeartbeats 16000000 in
theorem part46 (w w6 : World) (L : Nat) (most : Int) (b off len cap i : Nat) (t23 t24 t25 t26 t27 t28 t29 t30 t31 t32 t33 t34 t35 t36 t37 t38 t39 : Value) (Q : Exit → Act → World → Prop) (HQ : Hid (RQ w L most b off len cap i t23 t24 t25 t26 t27 t28 t29 t30 t31 t32 t33 t34 t35 t36 t37 t38 t39 Q)) (es2 : List It) (s8 s9 sk sv : Option Addr) (c8 c9 n ck cv : Nat) (u4 u9 u10 u11 u12 u13 u14 u15 u18 u19 u20 u21 u22 u40 u41 u42 u43 u44 u45 u46 u47 u48 u49 u50 u51 u52 u53 u54 u55 u56 u57 u58 u59 u60 u61 u62 u63 u64 u65 u66 u67 u68 u69 u70 u71 u72 u73 u74 u75 u76 u77 u78 u79 u80 u81 u82 u83 u84 u85 u86 u87 u88 u89 u90 u91 u92 u93 u94 u95 u96 u97 u98 u99 u100 u101 u102 u103 u104 u105 u106 u107 u108 u109 u110 u111 u112 u113 u114 u115 u116 u117 u118 u119 u120 u121 u122 u123 u124 u125 u126 u127 u128 u129 u130 u131 u132 u133 u134 u135 u136 u137 u138 u139 u140 u141 u142 u143 u144 u145 u146 u147 u148 u149 u150 u151 u152 u153 u154 u155 u156 u157 u158 u159 u160 u161 u162 u163 u164 u165 u166 u167 u168 u169 u170 u171 u172 u173 u174 u175 u176 u177 u178 u179 u180 u181 u182 u183 u184 u185 u186 u187 u188 u189 u190 u191 u192 u193 u194 u195 u196 u197 u198 u199 u200 u201 u202 u203 u204 u205 u206 u207 u208 u209 u210 u211 u212 u213 u214 u215 u216 u217 u218 u219 u220 u221 u222 u223 u224 u225 u226 u227 u228 u229 u230 u231 u232 u233 u234 u235 u236 u237 u238 u239 u240 u241 u242 u243 u244 u245 u246 u247 u248 u249 u250 u251 : Value)
    (HN : Hid (n ≤ i ∧ i < 200 ∧ i < len)) (hc8 : es2.length ≤ c8) (hl2 : es2.length ≤ i + 1) (H6 : Hid (LT w w6 L most es2 (.slice s8 es2.length c8) (es2.map It.key) (.slice s9 es2.length c9) (es2.map It.v))) :
    Code.wp Try.prog code46 Q ⟨List.toArray (.int .i64 most :: .slice (some ⟨b, off, none⟩) len cap :: undef :: undef :: u4 :: .pointer (some ⟨L, 0, none⟩) :: .slice sk n ck :: .slice sv n cv :: .int .i64 (i : Int) :: u9 :: u10 :: u11 :: u12 :: u13 :: u14 :: u15 :: .slice s8 es2.length c8 :: .slice s9 es2.length c9 :: u18 :: u19 :: u20 :: u21 :: u22 :: t23 :: t24 :: t25 :: t26 :: t27 :: t28 :: t29 :: t30 :: t31 :: t32 :: t33 :: t34 :: t35 :: t36 :: t37 :: t38 :: t39 :: u40 :: u41 :: u42 :: u43 :: u44 :: u45 :: u46 :: u47 :: u48 :: u49 :: u50 :: u51 :: u52 :: u53 :: u54 :: u55 :: u56 :: u57 :: u58 :: u59 :: u60 :: u61 :: u62 :: u63 :: u64 :: u65 :: u66 :: u67 :: u68 :: u69 :: u70 :: u71 :: u72 :: u73 :: u74 :: u75 :: u76 :: u77 :: u78 :: u79 :: u80 :: u81 :: u82 :: u83 :: u84 :: u85 :: u86 :: u87 :: u88 :: u89 :: u90 :: u91 :: u92 :: u93 :: u94 :: u95 :: u96 :: u97 :: u98 :: u99 :: u100 :: u101 :: u102 :: u103 :: u104 :: u105 :: u106 :: u107 :: u108 :: u109 :: u110 :: u111 :: u112 :: u113 :: u114 :: u115 :: u116 :: u117 :: u118 :: u119 :: u120 :: u121 :: u122 :: u123 :: u124 :: u125 :: u126 :: u127 :: u128 :: u129 :: u130 :: u131 :: u132 :: u133 :: u134 :: u135 :: u136 :: u137 :: u138 :: u139 :: u140 :: u141 :: u142 :: u143 :: u144 :: u145 :: u146 :: u147 :: u148 :: u149 :: u150 :: u151 :: u152 :: u153 :: u154 :: u155 :: u156 :: u157 :: u158 :: u159 :: u160 :: u161 :: u162 :: u163 :: u164 :: u165 :: u166 :: u167 :: u168 :: u169 :: u170 :: u171 :: u172 :: u173 :: u174 :: u175 :: u176 :: u177 :: u178 :: u179 :: u180 :: u181 :: u182 :: u183 :: u184 :: u185 :: u186 :: u187 :: u188 :: u189 :: u190 :: u191 :: u192 :: u193 :: u194 :: u195 :: u196 :: u197 :: u198 :: u199 :: u200 :: u201 :: u202 :: u203 :: u204 :: u205 :: u206 :: u207 :: u208 :: u209 :: u210 :: u211 :: u212 :: u213 :: u214 :: u215 :: u216 :: u217 :: u218 :: u219 :: u220 :: u221 :: u222 :: u223 :: u224 :: u225 :: u226 :: u227 :: u228 :: u229 :: u230 :: u231 :: u232 :: u233 :: u234 :: u235 :: u236 :: u237 :: u238 :: u239 :: u240 :: u241 :: u242 :: u243 :: u244 :: u245 :: u246 :: u247 :: u248 :: u249 :: u250 :: u251 :: undef :: []), []⟩ w6 := by
  conv => arg 2; whnf
  obtain ⟨n2, hn2⟩ : ∃ n2, es2.length = n2 := ⟨_, rfl⟩
  have HN2 : Hid (es2.length = n2 ∧ n2 ≤ i + 1 ∧ n2 ≤ 200) := by have := HN.out; show _ ∧ _; omega
  have HKS : Hid (Calls Try.prog 13 #[.pointer (some ⟨L, 0, none⟩)] w6 fun e w2 => ∃ v, e = .returned v ∧ Hid (RowK w2 w6.heap.size v (es2.map It.key) ∧ Below w6.heap.size w6 w2)) := H6.out.keys2 (by have := HN2.out; omega)
  have HLN : Hid (∀ V, Below w6.heap.size w6 V → Calls Try.prog 14 #[.pointer (some ⟨L, 0, none⟩)] V fun e w2 => e = .returned (.int .i64 (n2 : Int)) ∧ w2 = V) := fun V hV => by
    have := (H6.out.newer hV).len
    rw [HN2.out.1] at this
    exact this
  rw [hn2] at hc8 H6 ⊢
  have hn200 : (n2 : Int) ≤ 200 := by have := HN2.out; omega
  have hc8' : (n2 : Int) ≤ (c8 : Int) := by omega
  clear hn2 hl2 hc8
  go_upto_region 49 with (go_at_call 13; refine HKS.out.mono ?_; rintro e w7 ⟨v, rfl, H7⟩)
  have HL7 : Hid (Calls Try.prog 14 #[.pointer (some ⟨L, 0, none⟩)] w7 fun e w2 => e = .returned (.int .i64 (n2 : Int)) ∧ w2 = w7) := HLN.out w7 H7.out.2
  clear HKS HLN
  have hsp := RowJ.of H7.out.1
  have HB7 : Hid (Below w6.heap.size w6 w7) := H7.out.2
  clear H7
  rcases hsp with ⟨rfl, hnil⟩ | hj
  · have e0 : n2 = 0 := by have := HN2.out.1; rw [← this, ← List.length_map (f := It.key), hnil]; rfl
    subst e0
    clear hnil
    go_wp2_with (go_at_call 14; refine HL7.out.mono ?_; rintro e w8 ⟨rfl, hw8⟩; rw [hw8]; clear hw8)
    go_loopw [22] (fun c wx => c = .int .i64 0 ∧ wx = w7) (fun c wx => 0)
    case atStart => exact ⟨rfl, rfl⟩
    case round =>
      obtain ⟨rfl, hwr⟩ := hrel
      rw [hwr]
      clear hwr
      go_wp2_with fail
      exact HQ.out _ _ _ _ _ _ _ _ _ _ _ _ _ _ _ _ _ _ _ _ _ _ _ _ _ _ _ _ _ _ _ _ _ _ _ _ _ _ _ _ _ _ _ _ _ _ _ _ _ _ _ _ _ _ _ _ _ _ _ _ _ _ _ _ _ _ _ _ _ _ _ _ _ _ _ _ _ _ _ _ _ _ _ _ _ _ _ _ _ _ _ _ _ _ _ _ _ _ _ _ _ _ _ _ _ _ _ _ _ _ _ _ _ _ _ _ _ _ _ _ _ _ _ _ _ _ _ _ _ _ _ _ _ _ _ _ _ _ _ _ _ _ _ _ _ _ _ _ _ _ _ _ _ _ _ _ _ _ _ _ _ _ _ _ _ _ _ _ _ _ _ _ _ _ _ _ _ _ _ _ _ _ _ _ _ _ _ _ _ _ _ _ _ _ _ _ _ _ _ _ _ _ _ _ _ _ _ _ _ _ _ _ _ _ _ _ _ _ _ _ _ _ _ _ _ _ _ _ _ _ es2 (by have := HN2.out; omega) (show LZ w _ L most es2 _ _ by unfold LZ; exact H6.out.newer HB7.out)
  · obtain ⟨g7, hg7⟩ := hj.form
    rw [List.length_map, HN2.out.1] at hg7
    subst hg7
    have HJ : Hid (RowJ w7 (.slice (some ⟨g7, 0, none⟩) n2 n2) w6.heap.size (es2.map It.key) 0) := hj
    clear hj
    go_wp2_with (go_at_call 14; refine HL7.out.mono ?_; rintro e w8 ⟨rfl, hw8⟩; rw [hw8]; clear hw8)
    go_loopw [22] (fun c wx => ∃ j : Nat, c = .int .i64 (j : Int) ∧ j ≤ n2 ∧ Hid (RowJ wx (.slice (some ⟨g7, 0, none⟩) n2 n2) w6.heap.size (es2.map It.key) j ∧ Below w6.heap.size w6 wx)) (fun c wx => n2 - (intOf c).toNat)
    case atStart => exact ⟨0, rfl, by omega, HJ.out, HB7.out⟩
    case round =>
      obtain ⟨j, rfl, hj, H8⟩ := hrel
      by_cases cj : j < n2
      · have cj' : (j : Int) < (n2 : Int) := by omega
        have HCJ : Hid (j < n2) := cj
        obtain ⟨xj, hxj⟩ : ∃ xj, (es2.map It.key)[j]? = some xj := ⟨_, List.getElem?_eq_getElem (by have := HN2.out.1; simp; omega)⟩
        obtain ⟨y1, yf, y3⟩ := H8.out.1.cell hxj
        obtain ⟨g8, hs8, y2⟩ := (H6.out.newer H8.out.2).rows.1.cell hxj
        subst hs8
        have HG7 : Hid (w6.heap.size ≤ g7) := y3
        clear cj hj hxj y3
        go_wp2_with fail
        go_quiet (fail)
        go_wp2_with fail
        go_roundw
        case rel =>
          refine ⟨j + 1, by go_num, HCJ.out, ?_, ?_⟩
          · first | exact H8.out.1.spoil _ | exact (H8.out.1.newer (fun q hq => rfl)).spoil _
          · refine Below.trans H8.out.2 ⟨rfl, rfl, rfl, by simp, fun q hq => ?_⟩
            exact Below.heap_setCell _ _ _ _ (by have := HG7.out; show q ≠ g7; omega)
        case measure => have := HCJ.out; simp [intOf]; omega
      · obtain rfl : j = n2 := by omega
        clear cj hj
        go_wp2_with fail
        exact HQ.out _ _ _ _ _ _ _ _ _ _ _ _ _ _ _ _ _ _ _ _ _ _ _ _ _ _ _ _ _ _ _ _ _ _ _ _ _ _ _ _ _ _ _ _ _ _ _ _ _ _ _ _ _ _ _ _ _ _ _ _ _ _ _ _ _ _ _ _ _ _ _ _ _ _ _ _ _ _ _ _ _ _ _ _ _ _ _ _ _ _ _ _ _ _ _ _ _ _ _ _ _ _ _ _ _ _ _ _ _ _ _ _ _ _ _ _ _ _ _ _ _ _ _ _ _ _ _ _ _ _ _ _ _ _ _ _ _ _ _ _ _ _ _ _ _ _ _ _ _ _ _ _ _ _ _ _ _ _ _ _ _ _ _ _ _ _ _ _ _ _ _ _ _ _ _ _ _ _ _ _ _ _ _ _ _ _ _ _ _ _ _ _ _ _ _ _ _ _ _ _ _ _ _ _ _ _ _ _ _ _ _ _ _ _ _ _ _ _ _ _ _ _ _ _ _ _ _ _ _ _ es2 (by have := HN2.out; omega) (show LZ w _ L most es2 _ _ by unfold LZ; exact H6.out.newer H8.out.2)
end Go.Proofs.Ytbcdaddbcjagjaa.I
