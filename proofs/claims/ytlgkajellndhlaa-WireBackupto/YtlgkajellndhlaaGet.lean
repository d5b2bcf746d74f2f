/- The layer's Get and what it calls (varintEnd, joinVarint), walked over any row of bytes. -/
import Derived.Test.YtlgkajellndhlaaSum
import Derived.Test.YtlgkajellndhlaaVar
import Derived.WalkMore
namespace Go.Proofs.Ytlgkajellndhlaa
open Go.RowKit

theorem ret2_int {k : IntKind} {a b : Int} {v : Value} (h : a = b) : Ending.returned (.tuple #[.int k a, v]) = .returned (.tuple #[.int k b, v]) := by rw [h]

/-- A row of bytes in memory. -/
structure BRow (w : World) (b off : Nat) (zs : List Int) : Prop where
  cell : ∀ i, i < zs.length → w.cell? ⟨b, off + i, none⟩ = some (.int .u8 (zs.getD i 0))
  byt : Byt zs
  small : (zs.length : Int) ≤ 140737488351232

set_option maxHeartbeats 1000000 in
theorem end_some (b off cap at' n : Nat) (zs : List Int) (w : World) (R : BRow w b off zs) (ha : at' ≤ zs.length) (hs : scan (zs.drop at') = some n) :
    Calls Try.prog 39 #[.slice (some ⟨b, off, none⟩) zs.length cap, .int .i64 at'] w fun e w' => e = .returned (.tuple #[.int .i64 ((at' + n : Nat) : Int), .bool true]) ∧ w' = w := by
  have HR : Hid _ := R
  have hm := R.small
  clear R
  have HS : Hid _ := hs
  clear hs
  go_enter Try.func39, Try.ntmps39
  go_wp2
  go_step3
  go_wp2
  go_step3
  go_wp2
  go_loop [1] (fun i => ∃ k : Nat, at' ≤ k ∧ k ≤ zs.length ∧ i = .int .i64 k ∧ scan (zs.drop at') = (scan (zs.drop k)).map (· + (k - at'))) (fun i => zs.length - (intOf i).toNat)
  case atStart => exact ⟨at', Nat.le_refl _, ha, rfl, by simp⟩
  case round =>
    obtain ⟨k, hk1, hk2, rfl, hsc⟩ := hrel
    rw [HS.out] at hsc
    by_cases hlt : k < zs.length
    · have hck := HR.out.cell k hlt
      have hsb := byt_at HR.out.byt k hlt
      have hne : ((k : Int) == (zs.length : Int)) = false := by simp; omega
      have hlt' : (k : Int) < (zs.length : Int) := by omega
      by_cases c : zs.getD k 0 < 128
      · have HX := scan_hit zs k hlt c
        rw [HX] at hsc
        have HN : Hid (n = 1 + (k - at')) := by show _ = _; simpa using hsc
        clear hsc HX
        generalize zs.getD k 0 = z at hck hsb c
        go_wp2
        go_ret2
        have hn := HN.out
        exact ⟨ret2_int (by omega), rfl⟩
      · have HX := scan_miss zs k hlt c
        rw [HX] at hsc
        have HN : Hid _ := hsc
        clear hsc HX
        generalize hz : zs.getD k 0 = z at hck hsb c
        clear hz
        go_wp2
        go_round
        case rel => exact ⟨k + 1, by omega, by omega, by go_num, by rw [HS.out, HN.out, Option.map_map]; congr 1; funext x; simp; omega⟩
        case measure => simp [intOf]; omega
    · exfalso
      have : k = zs.length := by omega
      subst this
      rw [scan_end] at hsc
      simp at hsc

set_option maxHeartbeats 1000000 in
theorem end_none (b off cap at' : Nat) (zs : List Int) (w : World) (R : BRow w b off zs) (ha : at' ≤ zs.length) (hs : scan (zs.drop at') = none) :
    Calls Try.prog 39 #[.slice (some ⟨b, off, none⟩) zs.length cap, .int .i64 at'] w fun e w' => e = .returned (.tuple #[.int .i64 0, .bool false]) ∧ w' = w := by
  have HR : Hid _ := R
  have hm := R.small
  clear R
  have HS : Hid _ := hs
  clear hs
  go_enter Try.func39, Try.ntmps39
  go_wp2
  go_step3
  go_wp2
  go_step3
  go_wp2
  go_loop [1] (fun i => ∃ k : Nat, at' ≤ k ∧ k ≤ zs.length ∧ i = .int .i64 k ∧ scan (zs.drop at') = (scan (zs.drop k)).map (· + (k - at'))) (fun i => zs.length - (intOf i).toNat)
  case atStart => exact ⟨at', Nat.le_refl _, ha, rfl, by simp⟩
  case round =>
    obtain ⟨k, hk1, hk2, rfl, hsc⟩ := hrel
    rw [HS.out] at hsc
    by_cases hlt : k < zs.length
    · have hck := HR.out.cell k hlt
      have hsb := byt_at HR.out.byt k hlt
      have hne : ((k : Int) == (zs.length : Int)) = false := by simp; omega
      have hlt' : (k : Int) < (zs.length : Int) := by omega
      by_cases c : zs.getD k 0 < 128
      · exfalso
        have HX := scan_hit zs k hlt c
        rw [HX] at hsc
        simp at hsc
      · have HX := scan_miss zs k hlt c
        rw [HX] at hsc
        have HN : Hid _ := hsc
        clear hsc HX
        generalize hz : zs.getD k 0 = z at hck hsb c
        clear hz
        go_wp2
        go_round
        case rel => exact ⟨k + 1, by omega, by omega, by go_num, by rw [HS.out, HN.out, Option.map_map]; congr 1; funext x; simp; omega⟩
        case measure => simp [intOf]; omega
    · have : k = zs.length := by omega
      subst this
      clear hsc
      go_wp2
      go_ret2
      exact ⟨rfl, rfl⟩

theorem jv_step (zs : List Int) (k : Nat) (h : k < zs.length) : jv (zs.drop k) = jv (zs.drop (k + 1)) * 128 % 18446744073709551616 + zs.getD k 0 % 128 := by
  rw [drop_cons zs k h]; rfl

set_option maxHeartbeats 1000000 in
/-- The number of a row's bytes. -/
theorem join_any (b off cap : Nat) (zs : List Int) (w : World) (R : BRow w b off zs) :
    Calls Try.prog 40 #[.slice (some ⟨b, off, none⟩) zs.length cap] w fun e w' => e = .returned (.int .u64 (jv zs)) ∧ w' = w := by
  have HR : Hid _ := R
  have hm := R.small
  clear R
  go_enter Try.func40, Try.ntmps40
  go_wp2
  go_loop [3, 4] (fun n i => ∃ k : Nat, k ≤ zs.length ∧ i = .int .i64 ((k : Int) - 1) ∧ n = .int .u64 (jv (zs.drop k))) (fun _ i => (intOf i + 1).toNat)
  case atStart => exact ⟨zs.length, Nat.le_refl _, rfl, by rw [List.drop_length]; rfl⟩
  case round =>
    obtain ⟨k, hk, rfl, rfl⟩ := hrel
    rcases (show k = 0 ∨ ∃ j, k = j + 1 from by cases k with | zero => exact Or.inl rfl | succ j => exact Or.inr ⟨j, rfl⟩) with rfl | ⟨j, rfl⟩
    · go_wp2
      go_ret
      exact ⟨rfl, rfl⟩
    · have e1 : (((j + 1 : Nat) : Int) - 1) = j := by omega
      rw [e1]
      clear e1
      have hlt : j < zs.length := by omega
      have hck := HR.out.cell j hlt
      obtain ⟨z0, z1⟩ := byt_at HR.out.byt j hlt
      have HJ : Hid _ := jv_step zs j hlt
      obtain ⟨n0, n1⟩ := jv_bd (zs.drop (j + 1))
      have hlt' : (j : Int) < (zs.length : Int) := by omega
      generalize jv (zs.drop (j + 1)) = N at HJ n0 n1 ⊢
      generalize zs.getD j 0 = z at hck z0 z1 HJ
      have ha := and_127 z z0 z1
      have HO : Hid (bits .or .u64 (IntKind.u64.wrap (N * 128)) (z % 128) = N * 128 % 18446744073709551616 + z % 128) := by
        show _ = _
        rw [IntKind.wrap_u64]
        exact or_jv N (z % 128) (by omega) (by omega)
      go_wp2
      go_round
      case rel => exact ⟨j, by omega, rfl, by rw [HJ.out, HO.out]⟩
      case measure => simp [intOf] <;> omega

theorem BRow.cut {w : World} {b off : Nat} {zs : List Int} (R : BRow w b off zs) (p n : Nat) (h : p + n ≤ zs.length) : BRow w b (off + p) ((zs.drop p).take n) := by
  have hl : ((zs.drop p).take n).length = n := by simp; omega
  refine ⟨fun i hi => ?_, fun c hc => R.byt c (List.mem_of_mem_drop (List.mem_of_mem_take hc)), by have := R.small; omega⟩
  rw [hl] at hi
  have := R.cell (p + i) (by omega)
  rw [show off + p + i = off + (p + i) from by omega, this]
  congr 2
  simp only [List.getD_eq_getElem?_getD, List.getElem?_take, List.getElem?_drop, if_pos hi]

/-- What the three answers are, as values. -/
def gv (t : Int × Int × Int) : Value := .tuple #[.int .u64 t.1, .int .i64 t.2.1, .int .i64 t.2.2]

set_option maxHeartbeats 1000000 in
theorem get_any (b off cap at' : Nat) (zs : List Int) (w : World) (R : BRow w b off zs) (hcap : zs.length ≤ cap) (ha : at' ≤ zs.length) :
    Calls Try.prog 29 #[.slice (some ⟨b, off, none⟩) zs.length cap, .int .i64 at'] w fun e w' => e = .returned (gv (getI zs at')) ∧ w' = w := by
  have hm := R.small
  have HR : Hid _ := R
  have ha' : (at' : Int) ≤ (zs.length : Int) := by omega
  cases hs : scan (zs.drop at') with
  | none =>
    have HV : Hid (getI zs at' = (0, 0, 8)) := by show _ = _; unfold getI; rw [hs]
    have HS : Hid _ := hs
    clear R hs
    go_enter Try.func29, Try.ntmps29
    go_wp2_with (go_at_call 39; refine (end_none b off cap at' zs _ HR.out ha HS.out).mono ?_; rintro e w' ⟨rfl, rfl⟩)
    go_ret3
    exact ⟨by rw [HV.out]; rfl, rfl⟩
  | some n =>
    obtain ⟨n1, n2⟩ := scan_le _ n hs
    have n3 : n ≤ zs.length - at' := by simpa using n2
    have HS : Hid _ := hs
    have n4 : (at' : Int) + (n : Int) ≤ (zs.length : Int) := by omega
    have n5 : (1 : Int) ≤ (n : Int) := by omega
    have hcap' : (zs.length : Int) ≤ (cap : Int) := by omega
    by_cases c1 : 10 < n
    · have HV : Hid (getI zs at' = (0, 0, 30)) := by show _ = _; unfold getI; rw [hs]; simp only; rw [if_pos (Or.inl c1)]
      have c1' : (10 : Int) < (n : Int) := by omega
      clear R hs n2 n3 c1
      go_enter Try.func29, Try.ntmps29
      go_wp2_with (go_at_call 39; refine (end_some b off cap at' n zs _ HR.out ha HS.out).mono ?_; rintro e w' ⟨rfl, rfl⟩)
      go_ret3
      exact ⟨by rw [HV.out]; rfl, rfl⟩
    · have HC : Hid (at' + n ≤ zs.length) := by show _ ≤ _; omega
      have hln : ((zs.drop at').take n).length = n := by simp; omega
      have HL : Hid _ := hln
      clear hln
      by_cases c2 : n = 10 ∧ 1 < zs.getD (at' + 9) 0
      · obtain ⟨rfl, c3⟩ := c2
        have HV : Hid (getI zs at' = (0, 0, 30)) := by show _ = _; unfold getI; rw [hs]; exact if_pos (Or.inr ⟨rfl, c3⟩)
        have hcl := R.cell (at' + 9) (by omega)
        have hzb := byt_at R.byt (at' + 9) (by omega)
        generalize zs.getD (at' + 9) 0 = z at c3 hcl hzb
        clear R hs n2 n3 c1
        go_enter Try.func29, Try.ntmps29
        go_wp2_with (go_at_call 39; refine (end_some b off cap at' 10 zs _ HR.out ha HS.out).mono ?_; rintro e w' ⟨rfl, rfl⟩)
        go_ret3
        exact ⟨by rw [HV.out]; rfl, rfl⟩
      · have HV : Hid (getI zs at' = (jv ((zs.drop at').take n), ((at' + n : Nat) : Int), 0)) := by show _ = _; unfold getI; rw [hs]; exact if_neg (by omega)
        have c1' : (n : Int) ≤ 10 := by omega
        by_cases c3 : n = 10
        · subst c3
          have c4 : ¬ 1 < zs.getD (at' + 9) 0 := by omega
          have hcl := R.cell (at' + 9) (by omega)
          have hzb := byt_at R.byt (at' + 9) (by omega)
          generalize zs.getD (at' + 9) 0 = z at c4 hcl hzb
          clear R hs n2 n3 c1 c2
          go_enter Try.func29, Try.ntmps29
          go_wp2_with (go_at_call 39; refine (end_some b off cap at' 10 zs _ HR.out ha HS.out).mono ?_; rintro e w' ⟨rfl, rfl⟩)
          have J := join_any b (off + at') (cap - at') ((zs.drop at').take 10) w' (HR.out.cut at' 10 HC.out)
          rw [HL.out] at J
          refine J.mono ?_
          rintro e w2 ⟨rfl, rfl⟩
          clear J
          go_wp2
          go_ret3
          exact ⟨by rw [HV.out]; rfl, rfl⟩
        · have c4 : ((n : Int) == 10) = false := by simp; omega
          have c5 : (n : Int) < 10 := by omega
          clear R hs n2 n3 c1 c2 c3
          go_enter Try.func29, Try.ntmps29
          go_wp2_with (go_at_call 39; refine (end_some b off cap at' n zs _ HR.out ha HS.out).mono ?_; rintro e w' ⟨rfl, rfl⟩)
          have J := join_any b (off + at') (cap - at') ((zs.drop at').take n) w' (HR.out.cut at' n HC.out)
          rw [HL.out] at J
          refine J.mono ?_
          rintro e w2 ⟨rfl, rfl⟩
          clear J
          go_wp2
          go_ret3
          exact ⟨by rw [HV.out]; rfl, rfl⟩

end Go.Proofs.Ytlgkajellndhlaa
