/- Reading: numbers of so many bytes, bytes. -/
import Derived.Test.YtlgkajellndhlaaRd1
namespace Go.Proofs.Ytlgkajellndhlaa
open Go.RowKit
set_option linter.unusedVariables false
set_option linter.unusedSimpArgs false

set_option maxRecDepth 20000 in
set_option maxHeartbeats 2000000 in
theorem join8_any (b off cap : Nat) (z0 z1 z2 z3 z4 z5 z6 z7 : Int) (w : World) (R : BRow w b off [z0, z1, z2, z3, z4, z5, z6, z7]) (hcap : 8 ≤ (cap : Int)) :
    Calls Try.prog 45 #[.slice (some ⟨b, off, none⟩) 8 cap] w fun e w' => e = .returned (.int .u64 (z0 + 256 * (z1 + 256 * (z2 + 256 * (z3 + 256 * (z4 + 256 * (z5 + 256 * (z6 + 256 * z7)))))))) ∧ w' = w := by
  have h0 := R.byt z0 (by simp)
  have h1 := R.byt z1 (by simp)
  have h2 := R.byt z2 (by simp)
  have h3 := R.byt z3 (by simp)
  have h4 := R.byt z4 (by simp)
  have h5 := R.byt z5 (by simp)
  have h6 := R.byt z6 (by simp)
  have h7 := R.byt z7 (by simp)
  have c0 : w.cell? ⟨b, off, none⟩ = some (.int .u8 z0) := R.cell 0 (by simp)
  have c1 : w.cell? ⟨b, off + 1, none⟩ = some (.int .u8 z1) := R.cell 1 (by simp)
  have c2 : w.cell? ⟨b, off + 2, none⟩ = some (.int .u8 z2) := R.cell 2 (by simp)
  have c3 : w.cell? ⟨b, off + 3, none⟩ = some (.int .u8 z3) := R.cell 3 (by simp)
  have c4 : w.cell? ⟨b, off + 4, none⟩ = some (.int .u8 z4) := R.cell 4 (by simp)
  have c5 : w.cell? ⟨b, off + 5, none⟩ = some (.int .u8 z5) := R.cell 5 (by simp)
  have c6 : w.cell? ⟨b, off + 6, none⟩ = some (.int .u8 z6) := R.cell 6 (by simp)
  have c7 : w.cell? ⟨b, off + 7, none⟩ = some (.int .u8 z7) := R.cell 7 (by simp)
  have e7 := or256z z7 h7.1 h7.2
  have e6 := or256 z7 z6 h7.1 (by omega) h6.1 h6.2
  obtain ⟨y6, hy6⟩ : ∃ y, z7 * 256 + z6 = y := ⟨_, rfl⟩
  have b6 : 0 ≤ y6 ∧ y6 < 65536 := by omega
  rw [hy6] at e6
  have e5 := or256 y6 z5 b6.1 (by omega) h5.1 h5.2
  obtain ⟨y5, hy5⟩ : ∃ y, y6 * 256 + z5 = y := ⟨_, rfl⟩
  have b5 : 0 ≤ y5 ∧ y5 < 16777216 := by omega
  rw [hy5] at e5
  have e4 := or256 y5 z4 b5.1 (by omega) h4.1 h4.2
  obtain ⟨y4, hy4⟩ : ∃ y, y5 * 256 + z4 = y := ⟨_, rfl⟩
  have b4 : 0 ≤ y4 ∧ y4 < 4294967296 := by omega
  rw [hy4] at e4
  have e3 := or256 y4 z3 b4.1 (by omega) h3.1 h3.2
  obtain ⟨y3, hy3⟩ : ∃ y, y4 * 256 + z3 = y := ⟨_, rfl⟩
  have b3 : 0 ≤ y3 ∧ y3 < 1099511627776 := by omega
  rw [hy3] at e3
  have e2 := or256 y3 z2 b3.1 (by omega) h2.1 h2.2
  obtain ⟨y2, hy2⟩ : ∃ y, y3 * 256 + z2 = y := ⟨_, rfl⟩
  have b2 : 0 ≤ y2 ∧ y2 < 281474976710656 := by omega
  rw [hy2] at e2
  have e1 := or256 y2 z1 b2.1 (by omega) h1.1 h1.2
  obtain ⟨y1, hy1⟩ : ∃ y, y2 * 256 + z1 = y := ⟨_, rfl⟩
  have b1 : 0 ≤ y1 ∧ y1 < 72057594037927936 := by omega
  rw [hy1] at e1
  have e0 := or256 y1 z0 b1.1 b1.2 h0.1 h0.2
  have HY : Hid (y1 * 256 + z0 = z0 + 256 * (z1 + 256 * (z2 + 256 * (z3 + 256 * (z4 + 256 * (z5 + 256 * (z6 + 256 * z7))))))) := by show _ = _; omega
  clear R hy1 hy2 hy3 hy4 hy5 hy6
  go_enter Try.func45, Try.ntmps45
  go_wp2
  go_ret
  exact ⟨ret_int (by rw [← HY.out]), rfl⟩
theorem list4 {l : List Int} (h : l.length = 4) : ∃ a b c d, l = [a, b, c, d] := by
  match l, h with
  | [a, b, c, d], _ => exact ⟨a, b, c, d, rfl⟩
theorem list8 {l : List Int} (h : l.length = 8) : ∃ a b c d e f g i, l = [a, b, c, d, e, f, g, i] := by
  match l, h with
  | [a, b, c, d, e, f, g, i], _ => exact ⟨a, b, c, d, e, f, g, i, rfl⟩
theorem join_le (b off cap K : Nat) (zs : List Int) (w : World) (R : BRow w b off zs) (hK : K = 4 ∨ K = 8) (hl : zs.length = K) (hcap : K ≤ cap) :
    Calls Try.prog 45 #[.slice (some ⟨b, off, none⟩) K cap] w fun e w' => e = .returned (.int .u64 (leV zs)) ∧ w' = w := by
  rcases hK with rfl | rfl
  · obtain ⟨z0, z1, z2, z3, rfl⟩ := list4 hl
    have h := join4_any b off cap z0 z1 z2 z3 w R (by omega)
    simpa [leV] using h
  · obtain ⟨z0, z1, z2, z3, z4, z5, z6, z7, rfl⟩ := list8 hl
    have h := join8_any b off cap z0 z1 z2 z3 z4 z5 z6 z7 w R (by omega)
    simpa [leV] using h
/-- What readNumber answers. -/
def rnI (zs : List Int) (at' K : Nat) : Int × Int × Int := if zs.length < at' + K then (0, 0, 8) else (leV ((zs.drop at').take K), ((at' + K : Nat) : Int), 0)

set_option maxRecDepth 20000 in
set_option maxHeartbeats 2000000 in
theorem readNumber_any (b off cap at' K : Nat) (zs : List Int) (w : World) (R : BRow w b off zs) (hcap : zs.length ≤ cap) (ha : at' ≤ zs.length) (hK : K = 4 ∨ K = 8) :
    Calls Try.prog 42 #[.slice (some ⟨b, off, none⟩) zs.length cap, .int .i64 at', .int .i64 K] w fun e w' => e = .returned (gv (rnI zs at' K)) ∧ w' = w := by
  have hs := R.small
  by_cases hl : zs.length < at' + K
  · have e : rnI zs at' K = (0, 0, 8) := by unfold rnI; rw [if_pos hl]
    rw [e]
    have h1 : (zs.length : Int) - (at' : Int) < (K : Int) := by omega
    have h2 : (at' : Int) ≤ (zs.length : Int) := by omega
    have h3 : (K : Int) ≤ 8 := by omega
    clear R e hl hK hcap ha
    generalize zs.length = n at *
    go_enter Try.func42, Try.ntmps42
    go_wp2
    go_ret3
    exact ⟨rfl, rfl⟩
  · have e : rnI zs at' K = (leV ((zs.drop at').take K), ((at' + K : Nat) : Int), 0) := by unfold rnI; rw [if_neg hl]
    rw [e]
    have R' := R.cut at' K (by omega)
    have hj := join_le b (off + at') (cap - at') K _ w R' hK (by simp; omega) (by omega)
    have HJ : Hid (Calls Try.prog 45 #[.slice (some ⟨b, off + at', none⟩) K (cap - at')] w fun e w' => e = .returned (.int .u64 (leV ((zs.drop at').take K))) ∧ w' = w) := hj
    generalize leV ((zs.drop at').take K) = V at *
    have h1 : (K : Int) ≤ (zs.length : Int) - (at' : Int) := by omega
    have h2 : (at' : Int) ≤ (zs.length : Int) := by omega
    have h3 : (K : Int) ≤ 8 := by omega
    have h4 : (zs.length : Int) ≤ (cap : Int) := by omega
    have h5 : (0 : Int) < (K : Int) := by omega
    clear R R' e hl hcap ha hj
    generalize zs.length = n at *
    go_enter Try.func42, Try.ntmps42
    go_wp2_with fail
    refine HJ.out.mono ?_
    rintro e w' ⟨rfl, rfl⟩
    go_wp2_with fail
    go_ret3
    exact ⟨rfl, rfl⟩

theorem get_ok (zs : List Int) (at' : Nat) : (∃ e, getI zs at' = (0, 0, e) ∧ (e = 8 ∨ e = 30)) ∨ ∃ (n : Int) (p : Nat), getI zs at' = (n, (p : Int), 0) ∧ 0 ≤ n ∧ n < 18446744073709551616 ∧ at' < p ∧ p ≤ zs.length := by
  unfold getI
  cases hs : scan (zs.drop at') with
  | none => exact .inl ⟨8, rfl, .inl rfl⟩
  | some k =>
    simp only
    have hk := scan_le _ _ hs
    rw [List.length_drop] at hk
    split
    · exact .inl ⟨30, rfl, .inr rfl⟩
    · obtain ⟨h1, h2⟩ := jv_bd ((zs.drop at').take k)
      exact .inr ⟨_, at' + k, rfl, h1, h2, by omega, by omega⟩
/-- What readBytes answers. -/
def rbI (zs : List Int) (at' : Nat) : List Int × Int × Int :=
  match getI zs at' with
  | (n, p, e) => if e ≠ 0 then ([], 0, e) else if (zs.length : Int) - p < n then ([], 0, 8) else ((zs.drop p.toNat).take n.toNat, p + n, 0)
set_option maxRecDepth 20000 in
set_option maxHeartbeats 2000000 in
theorem readBytes_any (b off cap at' : Nat) (zs : List Int) (w : World) (R : BRow w b off zs) (hcap : zs.length ≤ cap) (ha : at' ≤ zs.length) (hz : zs.length ≤ 2000000) :
    Calls Try.prog 43 #[.slice (some ⟨b, off, none⟩) zs.length cap, .int .i64 at'] w fun e w' => (∃ v, e = .returned (.tuple #[v, .int .i64 (rbI zs at').2.1, .int .i64 (rbI zs at').2.2]) ∧ w'.ownsRow w.heap.size 5 1 v (rbI zs at').1.length (u8l (rbI zs at').1)) ∧ Below w.heap.size w w' := by
  have hget := get_any b off cap at' zs w R hcap ha
  rcases get_ok zs at' with ⟨er, hg, he⟩ | ⟨n, p, hg, n0, n1, p0, p1⟩
  · rw [hg] at hget
    have hr : rbI zs at' = ([], 0, er) := by unfold rbI; rw [hg]; simp only; rw [if_pos (by omega)]
    rw [hr]
    have HG : Hid (Calls Try.prog 29 #[.slice (some ⟨b, off, none⟩) zs.length cap, .int .i64 at'] w fun e w' => e = .returned (gv (0, 0, er)) ∧ w' = w) := hget
    have hne : (er != 0) = true := by rw [bne_iff_ne]; omega
    have hne2 : (er == 0) = false := by rw [beq_eq_false_iff_ne]; omega
    clear hget hg hr R hcap ha he
    generalize zs.length = N at *
    go_enter Try.func43, Try.ntmps43
    go_wp2_with (go_at_call 29; refine HG.out.mono ?_; rintro e w' ⟨rfl, rfl⟩; unfold gv)
    go_ret3
    exact ⟨⟨_, rfl, World.ownsRow_nil _ _ _ _⟩, Below.refl _ _⟩
  · rw [hg] at hget
    have HG : Hid (Calls Try.prog 29 #[.slice (some ⟨b, off, none⟩) zs.length cap, .int .i64 at'] w fun e w' => e = .returned (gv (n, (p : Int), 0)) ∧ w' = w) := hget
    by_cases hlong : (zs.length : Int) - (p : Int) < n
    · have hr : rbI zs at' = ([], 0, 8) := by unfold rbI; rw [hg]; simp only; rw [if_neg (by omega), if_pos hlong]
      rw [hr]
      have hp : (p : Int) ≤ (zs.length : Int) := by omega
      have hz' : (zs.length : Int) ≤ 2000000 := by omega
      clear hget hg hr R hcap ha p0 p1 hz
      generalize zs.length = N at *
      go_enter Try.func43, Try.ntmps43
      go_wp2_with (go_at_call 29; refine HG.out.mono ?_; rintro e w' ⟨rfl, rfl⟩; unfold gv)
      go_ret3
      exact ⟨⟨_, rfl, World.ownsRow_nil _ _ _ _⟩, Below.refl _ _⟩
    · obtain ⟨m, rfl⟩ := Int.eq_ofNat_of_zero_le n0
      have hr : rbI zs at' = ((zs.drop p).take m, (p : Int) + (m : Int), 0) := by unfold rbI; rw [hg]; simp only; rw [if_neg (by omega), if_neg hlong, Int.toNat_natCast, Int.toNat_natCast]
      rw [hr]
      have R' := R.cut p m (by omega)
      have hml : ((zs.drop p).take m).length = m := by simp; omega
      obtain ⟨qa, hqa⟩ : ∃ qa : Option Addr, (if cap - p = 0 then some (⟨b, off, none⟩ : Addr) else some ⟨b, off + p, none⟩) = qa := ⟨_, rfl⟩
      have HC : Hid (∀ qb : Addr, (0 < m → qb = ⟨b, off + p, none⟩) → Calls Try.prog 37 #[.slice (some qb) m (cap - p)] w fun e w' => (∃ v', e = .returned v' ∧ w'.ownsRow w.heap.size 5 1 v' ((zs.drop p).take m).length (u8l ((zs.drop p).take m))) ∧ Below w.heap.size w w') := fun qb hqb => by
        refine clone_any _ _ w (.inr ⟨qb, cap - p, by rw [hml], by omega, fun j u hu => ?_⟩) (by omega)
        have hj : j < m := by
          have := (List.getElem?_eq_some_iff.1 hu).1
          rw [u8l_len, hml] at this
          exact this
        rw [hqb (by omega), Addr.add_mid, R'.cell j (by omega), ← hu]
        unfold u8l
        rw [List.getElem?_map, List.getD_eq_getElem?_getD, List.getElem?_eq_getElem (by omega)]
        rfl
      have hp : (p : Int) ≤ (zs.length : Int) := by omega
      have hz' : (zs.length : Int) ≤ 2000000 := by omega
      have hc' : (zs.length : Int) ≤ (cap : Int) := by omega
      have hm' : (m : Int) ≤ (zs.length : Int) - (p : Int) := by omega
      have HCP : Hid (p ≤ cap ∧ m ≤ cap - p) := by show _ ∧ _; omega
      generalize (zs.drop p).take m = B at *
      clear hget hg hr R hcap ha p0 p1 hz R' hml hlong hqa n0 n1
      generalize zs.length = N at *
      go_enter Try.func43, Try.ntmps43
      go_wp2_with (go_at_call 29; refine HG.out.mono ?_; rintro e w' ⟨rfl, rfl⟩; unfold gv)
      · have h := HC.out ⟨b, off, none⟩ (fun h => by have := HCP.out; omega)
        rw [show cap - p = 0 by omega] at h
        refine h.mono ?_
        rintro e w2 ⟨⟨v2, rfl, ho2⟩, hb2⟩
        go_wp2_with fail
        go_ret3
        exact ⟨⟨_, rfl, ho2⟩, hb2⟩
      · refine (HC.out ⟨b, off + p, none⟩ (fun _ => rfl)).mono ?_
        rintro e w2 ⟨⟨v2, rfl, ho2⟩, hb2⟩
        go_wp2_with fail
        go_ret3
        exact ⟨⟨_, rfl, ho2⟩, hb2⟩

theorem not64 (x : Int) (h0 : 0 ≤ x) (h1 : x < 18446744073709551616) : bits .xor .u64 IntKind.u64.max x = 18446744073709551615 - x := by
  obtain ⟨m, rfl⟩ := Int.eq_ofNat_of_zero_le h0
  have e : IntKind.u64.max = ((18446744073709551615 : Nat) : Int) := rfl
  rw [e, bits_xor_u64_nat _ _ (by decide) (by omega)]
  have h : (18446744073709551615 ^^^ m : Nat) = 18446744073709551615 - m := by
    have hb := BitVec.toNat_not (x := BitVec.ofNat 64 m)
    have hx : (~~~ (BitVec.ofNat 64 m)) = BitVec.allOnes 64 ^^^ BitVec.ofNat 64 m := by
      rw [BitVec.not_def]
    rw [hx, BitVec.toNat_xor, BitVec.toNat_allOnes, BitVec.toNat_ofNat, Nat.mod_eq_of_lt (by omega)] at hb
    exact hb
  rw [h]
  omega
theorem wrap_u64' (n : Int) : IntKind.u64.wrap n = n % 18446744073709551616 := by simp [IntKind.wrap, IntKind.bits, IntKind.signed]
def zigI (n : Int) : Int := if n < 0 then -2 * n - 1 else 2 * n
set_option maxRecDepth 20000 in
theorem zig_any (n : Int) (w : World) (h0 : -9223372036854775808 ≤ n) (h1 : n ≤ 9223372036854775807) : Calls Try.prog 18 #[.int .i64 n] w fun e w' => e = .returned (.int .u64 (zigI n)) ∧ w' = w := by
  by_cases hn : n < 0
  · have HX : Hid (bits BinOp.xor IntKind.u64 IntKind.u64.max (IntKind.u64.wrap (IntKind.u64.wrap n * 2)) = zigI n) := by
      show _ = _
      rw [wrap_u64', wrap_u64', show n % 18446744073709551616 * 2 % 18446744073709551616 = 2 * n + 18446744073709551616 by omega, not64 _ (by omega) (by omega)]
      unfold zigI
      rw [if_pos hn]
      omega
    go_enter Try.func18, Try.ntmps18
    go_wp2_with fail
    go_ret
    exact ⟨ret_int HX.out, rfl⟩
  · have HX : Hid (2 * n = zigI n) := by show _ = _; unfold zigI; rw [if_neg hn]
    go_enter Try.func18, Try.ntmps18
    go_wp2_with fail
    go_ret
    exact ⟨ret_int (by rw [← HX.out]; first | omega | (simp only [wrap_u64']; omega)), rfl⟩
set_option maxRecDepth 20000 in
theorem zag_any (n : Int) (w : World) (h0 : -9223372036854775808 ≤ n) (h1 : n ≤ 9223372036854775807) : Calls Try.prog 17 #[.int .u64 (zigI n)] w fun e w' => e = .returned (.int .i64 n) ∧ w' = w := by
  by_cases hn : n < 0
  · have e : zigI n = -2 * n - 1 := by unfold zigI; rw [if_pos hn]
    rw [e]
    obtain ⟨z, hz⟩ : ∃ z, -2 * n - 1 = z := ⟨_, rfl⟩
    rw [hz]
    have hz0 : 0 ≤ z := by omega
    have hz1 : z < 18446744073709551616 := by omega
    have ha : bits .and .u64 z 1 = 1 := by
      obtain ⟨m, rfl⟩ := Int.eq_ofNat_of_zero_le hz0
      have h := bits_and_u64_nat m 1 (by omega) (by decide)
      rw [show ((1 : Nat) : Int) = 1 from rfl] at h
      rw [h, Nat.and_one_is_mod]
      omega
    have HX : Hid (wrap64 (bits .xor .u64 IntKind.u64.max (z / 2)) = n) := by
      show _ = _
      rw [not64 _ (by omega) (by omega)]
      unfold wrap64
      omega
    clear e hz
    go_enter Try.func17, Try.ntmps17
    go_wp2_with fail
    go_ret
    exact ⟨ret_int HX.out, rfl⟩
  · have e : zigI n = 2 * n := by unfold zigI; rw [if_neg hn]
    rw [e]
    obtain ⟨z, hz⟩ : ∃ z, 2 * n = z := ⟨_, rfl⟩
    rw [hz]
    have hz0 : 0 ≤ z := by omega
    have hz1 : z < 18446744073709551616 := by omega
    have ha : bits .and .u64 z 1 = 0 := by
      obtain ⟨m, rfl⟩ := Int.eq_ofNat_of_zero_le hz0
      have h := bits_and_u64_nat m 1 (by omega) (by decide)
      rw [show ((1 : Nat) : Int) = 1 from rfl] at h
      rw [h, Nat.and_one_is_mod]
      omega
    have HX : Hid (z / 2 = n) := by show _ = _; omega
    have hz2 : z / 2 ≤ 9223372036854775807 := by omega
    clear e hz
    go_enter Try.func17, Try.ntmps17
    go_wp2_with fail
    go_ret
    exact ⟨ret_int (by rw [← HX.out]), rfl⟩
end Go.Proofs.Ytlgkajellndhlaa
