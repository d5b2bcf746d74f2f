/- WireSums: for all bytes and every bit the law's call returns true: the sum is the model's, and with a bit turned it is another one; the bytes are as they were. No condition but the form's own reach. -/
import Derived.Test.YtinhbegnpadcaabRows
import Derived.WalkKit
import Derived.ProofKit
import Derived.OpenShut
import Derived.ShutString
import Derived.ChangeOld
import Derived.Below
import Derived.Laws.AppendOwnNone
import Derived.SizedLaws
import Derived.Test.YtinhbegnpadcaabKnown
namespace Go.Proofs.Ytinhbegnpadcaab.wireSums
open Go.ChangeShapes Go.WideShapes Go.ChangeAt Go.RowKit
open Go.ChangeMaps (open_string shut_string)
set_option linter.unusedVariables false

theorem own : ownKnob Try.prog.godebug = none := by kernel_rfl
theorem laidOut : laidOutB Try.prog = true := by kernel_rfl

/-- WHAT THE WALK IS TOLD OF A SLICE OF INTEGERS THAT CAME IN: it is nil; or it leads to a row of 'cap' cells, the numbers 'zs' (the first 'len' are its elements, the rest its spare room), each fitting its kind. -/
def IsRow (k : IntKind) (w : World) (a : Option Addr) (len cap : Nat) (zs : List Int) : Prop :=
  (a = none ∧ len = 0 ∧ cap = 0 ∧ zs = []) ∨
  ∃ x, a = some x ∧ len ≤ cap ∧ cap ≤ maxLen ∧ zs.length = cap ∧ (∀ i, i < zs.length → w.cell? (x.add i) = some (.int k (zs.getD i 0))) ∧ ∀ n ∈ zs, (Lit.int k n).wf = true

theorem info5 : (Try.prog.info? 5).map (fun i => (i.zero, i.size, i.bytes)) = some (some (.int .u8 0), 1, 1) := by kernel_rfl

theorem count_any (n m : Int) (w : World) (l0 : -9223372036854775808 ≤ n) (l1 : n ≤ 9223372036854775807) (h0 : 1 ≤ m) (h1 : m ≤ 4611686018427387904) :
    Calls Try.prog 34 #[.int .i64 n, .int .i64 m] w fun e w' => e = .returned (.int .i64 (n % m)) ∧ w' = w := by
  have ht : n.tmod m = if 0 ≤ n ∨ n % m = 0 then n % m else n % m - m := by
    rw [Int.tmod_eq_emod]
    by_cases c : 0 ≤ n
    · simp [c]
    · by_cases c2 : n % m = 0
      · simp [c2, Int.dvd_of_emod_eq_zero c2]
      · rw [if_neg (by intro hh; rcases hh with hh | hh; exact c hh; exact c2 (Int.emod_eq_zero_of_dvd hh)), if_neg (by omega)]
        omega
  have hb0 := Int.emod_nonneg n (show m ≠ 0 by omega)
  have hb1 := Int.emod_lt_of_pos n (show 0 < m by omega)
  by_cases c : 0 ≤ n
  · clear ht
    go_enter Try.func34, Try.ntmps34
    go_wp2
    go_ret
    exact ⟨rfl, rfl⟩
  · by_cases c2 : n % m = 0
    · rw [if_pos (Or.inr c2), c2] at ht
      have HZ : Hid (n % m = 0) := c2
      clear c2 hb0 hb1
      go_enter Try.func34, Try.ntmps34
      go_wp2
      go_ret
      exact ⟨ret_int HZ.out.symm, rfl⟩
    · rw [if_neg (by omega)] at ht
      have hp : n % m - m < 0 := by omega
      generalize hr : n % m = r at *
      clear hr c2
      go_enter Try.func34, Try.ntmps34
      go_wp2
      go_ret
      exact ⟨ret_int (by omega), rfl⟩

/-- A bit turned makes another byte. -/
theorem turn_byte (x : Int) (p : Nat) (h0 : 0 ≤ x) (h1 : x ≤ 255) (hp : p < 8) : bits .xor .u8 x (2 ^ p % 256) ≠ x ∧ 0 ≤ bits .xor .u8 x (2 ^ p % 256) ∧ bits .xor .u8 x (2 ^ p % 256) ≤ 255 := by
  obtain ⟨n, rfl⟩ := Int.eq_ofNat_of_zero_le h0
  have all : ∀ (m : Fin 256) (q : Fin 8), bits .xor .u8 (m.val : Int) (2 ^ q.val % 256) ≠ (m.val : Int) ∧ 0 ≤ bits .xor .u8 (m.val : Int) (2 ^ q.val % 256) ∧ bits .xor .u8 (m.val : Int) (2 ^ q.val % 256) ≤ 255 := by decide +kernel
  exact all ⟨n, by omega⟩ ⟨p, hp⟩

theorem walk_none (a : Option Addr) (cap : Nat) (n : Int) (w : World) : Calls Try.prog 8 #[.slice a 0 cap, .int .i64 n] w fun e w' => e = .returned (.bool true) ∧ Below w.heap.size w w' := by
  go_enter Try.func8, Try.ntmps8
  go_wp2_with (first | (go_at_call 35; refine (sum_none _ _ _).mono ?_; rintro e w' ⟨rfl, rfl⟩) | (go_at_call 36; refine (rsum_none _ _ _).mono ?_; rintro e w' ⟨rfl, rfl⟩) | (go_at_call 20; refine (known_any _).mono ?_; rintro e w2 ⟨rfl, hb⟩))
  go_ret
  exact ⟨rfl, hb⟩

theorem set_parts (zs : List Int) (j : Nat) (y : Int) (h : j < zs.length) : zs = zs.take j ++ zs.getD j 0 :: zs.drop (j + 1) ∧ zs.set j y = zs.take j ++ y :: zs.drop (j + 1) := by
  constructor
  · rw [← drop_cons zs j h, List.take_append_drop]
  · rw [List.set_eq_take_append_cons_drop, if_pos h]

/-- The bytes with one that is another one have another sum. -/
theorem sums_part (zs : List Int) (j : Nat) (y : Int) (h : j < zs.length) (hz : Byt zs) (y0 : 0 ≤ y) (y1 : y ≤ 255) (hy : y ≠ zs.getD j 0) : cpI (crI (zs.set j y) 4294967295) ≠ cpI (crI zs 4294967295) := by
  obtain ⟨e1, e2⟩ := set_parts zs j y h
  obtain ⟨z0, z1⟩ := byt_at hz j h
  have h1 : Byt (zs.take j) := byt_take hz j
  have h2 : Byt (zs.drop (j + 1)) := fun c hc => hz c (List.mem_of_mem_drop hc)
  have hs : Byt (zs.set j y) := by
    intro c hc
    rcases List.mem_or_eq_of_mem_set hc with hc | rfl
    · exact hz c hc
    · exact ⟨y0, y1⟩
  intro e
  have b1 := cr_bd (zs.set j y) hs 4294967295 (by omega) (by omega)
  have b2 := cr_bd zs hz 4294967295 (by omega) (by omega)
  have e3 := cp_inj _ _ b1.1 b1.2 b2.1 b2.2 e
  rw [e2] at e3
  have e4 : crI zs 4294967295 = crI (zs.take j ++ zs.getD j 0 :: zs.drop (j + 1)) 4294967295 := by rw [← e1]
  rw [e4] at e3
  exact cr_turned _ _ y (zs.getD j 0) 4294967295 h1 h2 y0 y1 z0 z1 hy (by omega) (by omega) e3

theorem sum_all (b off cap : Nat) (zs : List Int) (w : World) (R : BRow w b off zs) : Calls Try.prog 35 #[.slice (some ⟨b, off, none⟩) zs.length cap] w fun e w' => e = .returned (.int .u32 (cpI (crI zs 4294967295))) ∧ w' = w := by
  have h := R.small
  refine (sum_row b off zs.length cap zs w (Nat.le_refl _) (by omega) R.byt R.cell).mono ?_
  rintro e w' ⟨rfl, rfl⟩
  exact ⟨by rw [List.take_length], rfl⟩
theorem rsum_all (b off cap : Nat) (zs : List Int) (w : World) (R : BRow w b off zs) : Calls Try.prog 36 #[.slice (some ⟨b, off, none⟩) zs.length cap] w fun e w' => e = .returned (.int .u32 (cpI (crI zs 4294967295))) ∧ w' = w := by
  have h := R.small
  refine (rsum_row b off zs.length cap zs w (Nat.le_refl _) (by omega) R.byt R.cell).mono ?_
  rintro e w' ⟨rfl, rfl⟩
  exact ⟨by rw [List.take_length], rfl⟩

set_option maxHeartbeats 2000000 in
/-- Bytes that are there. -/
theorem walk_row (b off cap : Nat) (zs : List Int) (n : Int) (w : World) (h0 : 0 < zs.length) (R : BRow w b off zs) (hb : b < w.heap.size) (l0 : -9223372036854775808 ≤ n) (l1 : n ≤ 9223372036854775807) :
    Calls Try.prog 8 #[.slice (some ⟨b, off, none⟩) zs.length cap, .int .i64 n] w fun e w' => e = .returned (.bool true) ∧ Below w.heap.size w w' := by
  obtain ⟨i0, hi, hz0, hz1, hz2⟩ := info_parts info5
  have HR : Hid _ := R
  have hm := R.small
  clear R
  have hp0 : ((zs.length : Int) == 0) = false := by rw [beq_eq_false_iff_ne]; omega
  have hp1 : 0 < (zs.length : Int) := by omega
  have HN : Hid (∀ K : Int, 0 ≤ K → K < 8 * (zs.length : Int) → ∃ j p : Nat, j < zs.length ∧ p < 8 ∧ K / 8 = (j : Int) ∧ K % 8 = (p : Int)) := fun K k0 k1 => ⟨(K / 8).toNat, (K % 8).toNat, by omega, by omega, by omega, by omega⟩
  go_enter Try.func8, Try.ntmps8
  go_wp2_with fail
  refine (sum_all b off cap zs w HR.out).mono ?_
  rintro e w1 ⟨rfl, hw1⟩
  rw [hw1]
  clear hw1
  go_wp2_with fail
  refine (rsum_all b off cap zs w HR.out).mono ?_
  rintro e w1 ⟨rfl, hw1⟩
  rw [hw1]
  clear hw1
  go_wp2_with (at_builtin; refine wpList_append_own _ rfl (.tmp 26) (.tmp 27) 22 rfl w.heap.size 5 i0 (.int .u8 0) 1 1 Try.underlying22 hi hz0 hz1 hz2 rfl (by decide) _ 0 [] rfl (World.ownsRow_nil _ _ _ _) ⟨b, off, none⟩ zs.length cap (zs.map (Value.int .u8)) rfl (by simp) ?c1 ?c2 ?c3 (by omega) (Nat.le_refl _) ?_)
  case c1 =>
    intro j u h
    rw [List.getElem?_map] at h
    cases hq : zs[j]? with
    | none => rw [hq] at h; simp at h
    | some z =>
      rw [hq] at h
      simp at h
      subst h
      have hj : j < zs.length := (List.getElem?_eq_some_iff.1 hq).1
      have hcl := HR.out.cell j hj
      rw [List.getD_eq_getElem?_getD, hq] at hcl
      unfold Addr.add
      split
      · rename_i h0; subst h0; simpa using hcl
      · exact hcl
  case c2 =>
    intro u h
    obtain ⟨z, _, rfl⟩ := List.mem_map.1 h
    rfl
  case c3 => unfold maxLen; omega
  intro v' w1 hown hgrow _
  have hbel : Below w.heap.size w w1 := (Below.refl _ _).grown hgrow (Nat.le_refl _) (by intro k hk; simp [Value.ownBlock] at hk)
  have hex : ∃ g cp, v' = .slice (some ⟨g, 0, none⟩) zs.length cp ∧ w.heap.size ≤ g ∧ (∀ i, w1.frozen? ⟨g, i, none⟩ = false) ∧ ∀ i, i < zs.length → w1.cell? ⟨g, i, none⟩ = some (.int .u8 (zs.getD i 0)) := by
    have h2 := hown.2
    rcases h2 with ⟨_, h⟩ | ⟨g, cp, cur, hv, hg, _⟩
    · omega
    · refine ⟨g, cp, hv, hg, ?_, ?_⟩
      · rw [hv] at hown
        exact fun i => hown.frozenAt i
      · intro i hi
        rw [hv] at hown
        rw [hown.cellAt i (by omega)]
        simp [List.getElem?_eq_getElem hi]
  obtain ⟨g, cp, hv, hg, hfz, hcl⟩ := hex
  rw [hv]
  have HF : Hid _ := hfz
  have HCL : Hid _ := hcl
  clear hown hgrow hv hcl hfz
  go_wp2_with fail
  refine (count_any n (8 * (zs.length : Int)) w1 l0 l1 (by omega) (by omega)).mono ?_
  rintro e w2 ⟨rfl, hw2⟩
  rw [hw2]
  clear hw2 w2
  have k0 := Int.emod_nonneg n (show 8 * (zs.length : Int) ≠ 0 by omega)
  have k1 := Int.emod_lt_of_pos n (show 0 < 8 * (zs.length : Int) by omega)
  generalize n % (8 * (zs.length : Int)) = K at k0 k1 ⊢
  obtain ⟨j, p, hj, hp, e1, e2⟩ := HN.out K k0 k1
  have hcj := HCL.out j hj
  have hfj := HF.out j
  have hj' : (j : Int) < (zs.length : Int) := by omega
  have hp' : (p : Int) < 8 := by omega
  obtain ⟨x0, x1⟩ := byt_at HR.out.byt j hj
  obtain ⟨y2, y0, y1⟩ := turn_byte (zs.getD j 0) p x0 x1 hp
  have HD : Hid _ := sums_part zs j (bits .xor .u8 (zs.getD j 0) (2 ^ p % 256)) hj HR.out.byt y0 y1 y2
  generalize cpI (crI zs 4294967295) = X at HD ⊢
  clear HN y2
  have hex2 : ∃ x, x = zs.getD j 0 := ⟨_, rfl⟩
  obtain ⟨x, hx⟩ := hex2
  rw [← hx] at hcj x0 x1 y0 y1 HD
  have HXX : Hid _ := hx
  clear hx
  go_wp2_with fail
  generalize bits BinOp.xor IntKind.u8 x (2 ^ p % 256) = Y at y0 y1 HD ⊢
  have hR2 : BRow (w1.setCell ⟨g, j, none⟩ (.int .u8 Y)) g 0 (zs.set j Y) := by
    refine ⟨fun i hi => ?_, ?_, by rw [List.length_set]; exact HR.out.small⟩
    · rw [List.length_set] at hi
      rw [Nat.zero_add, List.getD_eq_getElem?_getD, List.getElem?_set]
      by_cases c : j = i
      · subst c
        rw [World.cell?_setCell_same _ _ _ hcj]
        simp [hj]
      · rw [World.cell?_setCell_other _ _ _ _ (by intro hh; exact c (by injection hh)), HCL.out i hi, List.getD_eq_getElem?_getD]
        simp [c]
    · intro c hc
      rcases List.mem_or_eq_of_mem_set hc with hc | rfl
      · exact HR.out.byt c hc
      · exact ⟨y0, y1⟩
  have J := sum_all g 0 cp (zs.set j Y) _ hR2
  have HJ : Hid _ := J
  clear J hR2
  refine (show Calls Try.prog 35 #[.slice (some ⟨g, 0, none⟩) zs.length cp] (w1.setCell ⟨g, j, none⟩ (.int .u8 Y)) (fun e w' => e = .returned (.int .u32 (cpI (crI (zs.set j Y) 4294967295))) ∧ w' = w1.setCell ⟨g, j, none⟩ (.int .u8 Y)) from by have h := HJ.out; rw [List.length_set] at h; exact h).mono ?_
  rintro e w2 ⟨rfl, hw2⟩
  rw [hw2]
  clear hw2 w2 HJ
  have hne : (cpI (crI (zs.set j Y) 4294967295) != X) = true := by simpa using HD.out
  generalize cpI (crI (zs.set j Y) 4294967295) = Z at hne ⊢
  have hbs : Below w.heap.size w (w1.setCell ⟨g, j, none⟩ (.int .u8 Y)) := Below.setCell hbel hg _
  have HBS : Hid _ := hbs
  clear hbs HD
  go_wp2_with (go_at_call 20; refine (known_any _).mono ?_; rintro e w2 ⟨rfl, hb2⟩)
  go_ret
  exact ⟨rfl, HBS.out.trans (hb2.mono HBS.out.size)⟩

/-! ### STEP 1: THE WALK: the Go text returns true, AND WRITES NOTHING THAT WAS THERE: 'Below w.heap.size w w'' (Derived/Below.lean: '.refl', '.alloc', '.drew', '.setCell' at a new block, '.trans'). Open each 'IsRow' by 'rcases' AHEAD of 'go_enter'; part every test ahead of the walk. -/
theorem walk (a0 : Option Addr) (len0 cap0 : Nat) (z0 : List Int) (a1 : Int) (w : World) (w0 : IsRow .u8 w a0 len0 cap0 z0) (w1 : (Lit.int .i64 a1).wf = true) (hr : cap0 ≤ 140737488351232) :
    Calls Try.prog 8 #[.slice a0 len0 cap0, .int .i64 a1] w fun e w' => e = .returned (.bool true) ∧ Below w.heap.size w w' := by
  obtain ⟨l1, g1⟩ := bounds_i64 w1
  rcases w0 with ⟨rfl, rfl, rfl, rfl⟩ | ⟨x, rfl, hl, hm, hz, hcell, hwz⟩
  · exact walk_none none 0 a1 w
  · by_cases h0 : len0 = 0
    · subst h0
      exact walk_none (some x) cap0 a1 w
    · obtain ⟨b, off, spot⟩ := x
      have hc0 := hcell 0 (by omega)
      have hspot : spot = none := by simpa [Addr.add] using World.cell?_spot hc0
      subst hspot
      have hb : b < w.heap.size := World.block_lt_of_cell? w _ hc0
      have hlen : (z0.take len0).length = len0 := by simp; omega
      have R : BRow w b off (z0.take len0) := by
        refine ⟨fun i hi => ?_, fun c hc => ?_, by omega⟩
        · rw [hlen] at hi
          have hq := hcell i (by omega)
          have e : (z0.take len0).getD i 0 = z0.getD i 0 := by
            simp only [List.getD_eq_getElem?_getD, List.getElem?_take, if_pos hi]
          rw [e]
          unfold Addr.add at hq
          split at hq
          · rename_i h0; subst h0; simpa using hq
          · exact hq
        · exact bounds_u8 (hwz c (List.mem_of_mem_take hc))
      have h := walk_row b off cap0 (z0.take len0) a1 w (by omega) R hb l1 g1
      rw [hlen] at h
      exact h

/-! ### THE ROW's STEP: WRITTEN OUT: LEAVE IT -/
set_option maxRecDepth 100000 in
theorem lifted (os : Os) (started : os.Started) (H : Type) (enc : TypeId × Value → H) :
    ReturnsInHanded {} Try.checked os 8 .any (Rows.wireSumsSpec.pre6 enc Try.prog Try.f8 Rows.wireSumsRow.domain false) (Rows.wireSumsSpec.post enc Try.prog Try.f8 false true false false) := by
  refine returnsInHanded_of_change_sized (C := Try.checked) own started (by kernel_rfl) Try.func8
    (ChangeSpec.witness6 (enc := enc) (C := Try.checked) false ⟨#[], #[.slice none 0 0, .int .i64 0], []⟩ 8 (by kernel_rfl) (by kernel_rfl) (by kernel_rfl) (by kernel_rfl)) ?_
  intro W base args ds gs before hval0 hW hcnd hsz0 _
  have hsz : (DataW.weightsEach Try.prog (Try.f8.params.toList ++ Rows.wireSumsSpec.plain.varTypes Try.prog) (ds ++ gs)).all (· ≤ reachBytes) = true := hsz0
  have hval : ∀ (j : Nat) t v, Try.f8.params[j]? = some t → args[j]? = some v → Value.okWide Try.prog W .any base t v := hval0
  have hW' := hW
  obtain ⟨p, q, hA0, hV, rfl, hfz, hnd⟩ := hW
  have hA : DataW.TrodAll enc Try.prog W 0 (fun _ => true) true Try.f8.params.toList args.toList ds p := hA0
  rw [Try.params8] at hA hval hsz
  obtain ⟨v0, vs0, d0, ds0, p0, q0, hargs, rfl, rfl, h0, r0⟩ := trodAll_cons hA
  obtain ⟨v1, vs1, d1, ds1, p1, q1, rfl, rfl, rfl, h1, r1⟩ := trodAll_cons r0
  obtain ⟨rfl, rfl, rfl⟩ := trodAll_nil r1
  obtain rfl : args = #[v0, v1] := by cases args; simp_all
  obtain ⟨rfl, rfl⟩ := trodVars_none hV
  obtain ⟨a0, len0, cap0, rfl⟩ := okWide_slice Try.underlying22 (hval 0 22 v0 rfl rfl)
  have k0 := h0
  have lt0 : ∀ x ∈ p0, x.block < W.heap.size := by obtain ⟨m, hm⟩ := k0; exact DataW.trod_lt m _ _ _ hm
  obtain ⟨z0, w0, hr0⟩ : ∃ zs, IsRow .u8 W a0 len0 cap0 zs ∧ cap0 ≤ 140737488351232 := by
    obtain ⟨fuel, hf⟩ := h0
    rcases open_ints Try.underlying22 Try.underlying5 (by kernel_rfl) hf with ⟨hcs, _⟩ | ⟨x, l, c, zs, hcs, _, hl, hm, hz, hx, hcell, hwz⟩
    · simp [Value.cells] at hcs
      obtain ⟨rfl, rfl, rfl⟩ := hcs
      exact ⟨[], .inl ⟨rfl, rfl, rfl, rfl⟩, by omega⟩
    · simp [Value.cells] at hcs
      obtain ⟨rfl, rfl, rfl⟩ := hcs
      refine ⟨zs, .inr ⟨_, rfl, hl, hm, by simpa using hz, hcell, hwz⟩, ?_⟩
      simp only [Prod.mk.injEq] at hx
      obtain ⟨hx1, _⟩ := hx
      rw [hx1] at hsz
      have hq := sized_slice hsz (j := 0) (t := 22) (e := 5) rfl rfl Try.underlying22
      rw [show Try.prog.bytesOf 5 = 1 from by kernel_rfl] at hq
      simp only [lits, List.length_map, List.length_take, List.length_drop, reachBytes] at hq
      have hz' : zs.length = cap0 := by simpa using hz
      omega
  obtain ⟨a1, rfl, rfl, rfl, w1⟩ := open_int Try.underlying3 (hval 1 3 v1 rfl rfl) h1
  clear hA0 hval0
  refine (walk a0 len0 cap0 z0 a1 W w0 w1 hr0).mono fun e W' ⟨he, bel⟩ => ?_
  subst he
  exact ⟨_, rfl, _, _, _, [], _, [], hW', trodAll_mk1 (shut_bool Try.underlying4 _), (trodAll_cons_mk (Below.trod laidOut (by kernel_rfl) (of_decide_eq_true (by kernel_rfl)) k0 bel lt0) (trodAll_cons_mk (shut_int Try.underlying3 w1) trodAll_mk0)), rfl, bel.frame _, fun h => by cases h⟩

theorem over : Rows.wireSumsRow.holds Try.pinned (OpenSpec.ofChange Rows.wireSumsSpec) :=
  OpenClaim.holds_of_wide 8 Try.f8 rfl rfl rfl rfl rfl rfl rfl ⟨rfl, rfl, rfl, rfl, rfl⟩ rfl rfl rfl rfl rfl (by kernel_rfl) Try.func8 (by kernel_rfl)
    (of_decide_eq_true (by kernel_rfl)) (by unfold Func.isWrapper; first | (rw [if_pos (by decide +kernel)]; kernel_rfl) | (rw [if_neg (by decide +kernel)]; exact ⟨rfl, rfl⟩))
    (fun os started H enc _ => lifted os started H enc)

/-- ████ THE STATEMENT ████ -/
theorem proved : Rows.WireSumsSaid := over
#print axioms proved
end Go.Proofs.Ytinhbegnpadcaab.wireSums
