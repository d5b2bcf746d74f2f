import Derived.Test.YtflhgphjkhplmaaML01
import Derived.WalkMore
import Derived.Deep.RegionLaw
import Derived.Laws.OwnMore
/- Varints are put behind bytes. -/
namespace Go.Proofs.Ytflhgphjkhplmaa.W
open Go.RowKit
set_option linter.unusedVariables false
set_option linter.unusedSimpArgs false

theorem or_one (n : Int) (h0 : 0 ≤ n) (h1 : n < 18446744073709551616) : bits .or .u64 n 1 = if n % 2 = 1 then n else n + 1 := by
  obtain ⟨m, rfl⟩ := Int.eq_ofNat_of_zero_le h0
  have h := bits_or_u64_nat m 1 (by omega) (by omega)
  have e : m ||| 1 = if m % 2 = 1 then m else m + 1 := by
    have h2 := Nat.two_pow_add_eq_or_of_lt (i := 1) (b := 1) (by omega) (m / 2)
    by_cases hm : m % 2 = 1
    · rw [if_pos hm]
      have h3 := Nat.two_pow_add_eq_or_of_lt (i := 1) (b := m % 2) (by omega) (m / 2)
      rw [hm] at h3
      have h4 : 2 ^ 1 * (m / 2) + 1 = m := by omega
      have e2 : m = 2 ^ 1 * (m / 2) ||| 1 := by rw [← h2]; omega
      conv => lhs; rw [e2]
      rw [Nat.or_assoc, Nat.or_self, ← h2]
      omega
    · rw [if_neg hm]
      have h4 : 2 ^ 1 * (m / 2) = m := by omega
      rw [h4] at h2
      omega
  rw [show ((1 : Nat) : Int) = 1 from rfl] at h
  rw [h, e]
  split <;> split <;> omega
theorem bitLen_two (m : Nat) (h0 : 0 < m) (h1 : m < 18446744073709551616) : m < 2 ^ Lib.bitLen m ∧ 2 ^ Lib.bitLen m ≤ 2 * m ∧ Lib.bitLen m ≤ 64 := by
  obtain ⟨a, b, c⟩ := Lib.bitLenAux_bounds 64 m (by omega) (by omega)
  refine ⟨c, ?_, Lib.bitLen_le m 64 (by omega) (by omega)⟩
  show 2 ^ Lib.bitLenAux 64 m ≤ 2 * m
  have : (2 : Nat) ^ Lib.bitLenAux 64 m = 2 * 2 ^ (Lib.bitLenAux 64 m - 1) := by
    conv => lhs; rw [show Lib.bitLenAux 64 m = (Lib.bitLenAux 64 m - 1) + 1 by omega, Nat.pow_succ, Nat.mul_comm]
  omega
theorem vN_le10 (n : Nat) (h : n < 18446744073709551616) : (vN n).length ≤ 10 ∧ 1 ≤ (vN n).length := by
  obtain ⟨k, e, h3, h4⟩ := vN_len n
  refine ⟨?_, by omega⟩
  rw [e]
  by_cases hk : k ≤ 9
  · omega
  · have h5 := h4 (by omega)
    have h6 : (2 : Nat) ^ 70 ≤ 2 ^ (7 * k) := Nat.pow_le_pow_right (by omega) (by omega)
    have : (2 : Nat) ^ 70 = 1180591620717411303424 := by decide
    omega

theorem varintSize_any (n : Int) (w : World) (h0 : 0 ≤ n) (h1 : n < 18446744073709551616) : Calls Try.prog 62 #[.int .u64 n] w fun e w' => e = .returned (.int .i64 ((vN n.toNat).length : Int)) ∧ w' = w := by
  have ho := or_one n h0 h1
  obtain ⟨m, hm⟩ : ∃ m : Int, (if n % 2 = 1 then n else n + 1) = m := ⟨_, rfl⟩
  have hm0 : 0 < m := by rw [← hm]; split <;> omega
  have hm1 : m < 18446744073709551616 := by rw [← hm]; split <;> omega
  obtain ⟨b1, b2, b3⟩ := bitLen_two m.toNat (by omega) (by omega)
  have hs := vN_size n.toNat m.toNat (Lib.bitLen m.toNat) (by rw [← hm]; split <;> split <;> omega) b1 b2
  rw [hm] at ho
  obtain ⟨L, hL⟩ : ∃ L, Lib.bitLen m.toNat = L := ⟨_, rfl⟩
  have HC : Hid (Calls Try.prog 85 #[.int .u64 m] w fun e w' => e = .returned (.int .i64 (L : Int)) ∧ w' = w) := by
    have h := len64_any m (by omega) hm1 w
    rw [hL] at h
    exact h
  rw [hL] at hs b3
  have hL2 : (L : Int) ≤ 64 := by omega
  have HS : Hid ((L + 6) / 7 = (vN n.toNat).length) := hs
  clear hs b1 b2 b3 hL hm
  go_enter Try.func62, Try.ntmps62
  go_wp2_with (go_at_call 85; refine HC.out.mono ?_; rintro e w' ⟨rfl, rfl⟩)
  go_ret
  exact ⟨ret_int (by rw [← HS.out]; omega), rfl⟩

set_option maxRecDepth 20000 in
set_option maxHeartbeats 1000000 in
theorem appendVarint_any (base : Nat) (v : Value) (n : Nat) (xs : List Value) (m : Int) (w : World) (m0 : 0 ≤ m) (m1 : m < 18446744073709551616) (ho : w.ownsRow base 5 1 v n xs) (hb : base ≤ w.heap.size) (hn : n ≤ 90000000) :
    Calls Try.prog 63 #[v, .int .u64 m] w fun e w' => (∃ v', e = .returned v' ∧ w'.ownsRow base 5 1 v' (n + (vN m.toNat).length) (xs ++ u8l (vN m.toNat)) ∧ Gr v w v' w') := by
  have HO : Hid (w.ownsRow base 5 1 v n xs) := ho
  have HB : Hid (base ≤ w.heap.size ∧ n ≤ 90000000) := ⟨hb, hn⟩
  have HM : Hid (0 ≤ m ∧ m < 18446744073709551616) := ⟨m0, m1⟩
  clear ho hb hn
  go_enter Try.func63, Try.ntmps63
  go_wp2_with fail
  go_loopw [0, 1] (fun x y wr => ∃ (q : Int) (k : Nat) (ys : List Value), 0 ≤ q ∧ q ≤ m ∧ y = .int .u64 q ∧ wr.ownsRow base 5 1 x k ys ∧ ys ++ u8l (vN q.toNat) = xs ++ u8l (vN m.toNat) ∧ k + (vN q.toNat).length = n + (vN m.toNat).length ∧ Gr v w x wr) (fun x y wr => (intOf y).toNat)
  case atStart => exact ⟨m, n, xs, HM.out.1, Int.le_refl _, rfl, HO.out, rfl, rfl, Gr.refl _ _⟩
  case round =>
    obtain ⟨q, k, ys, q0, qm, rfl, hown, hxs, hlen, hbel⟩ := hrel
    have HOW : Hid (wr.ownsRow base 5 1 u0 k ys) := hown
    have HX : Hid (ys ++ u8l (vN q.toNat) = xs ++ u8l (vN m.toNat) ∧ k + (vN q.toNat).length = n + (vN m.toNat).length ∧ Gr v w u0 wr) := ⟨hxs, hlen, hbel⟩
    have hq : q < 18446744073709551616 := by omega
    have HK : Hid (k ≤ 100000000) := by
      have h1 := vN_le10 m.toNat (by have := HM.out; omega)
      have h2 := HB.out
      show k ≤ _
      omega
    have HBW : Hid (base ≤ wr.heap.size) := Nat.le_trans HB.out.1 hbel.size
    clear hown hxs hlen hbel
    by_cases hlt : q < 128
    · have e8 : q % 256 = q := by omega
      go_wp2_with (at_builtin; (refine wpList_append_one rfl (.tmp 15) (.tmp 18) rfl base u0 k ys rfl wr HOW.out _ rfl rfl HK.out HBW.out ?_; intro g' c' w' ho' hb'))
      go_ret
      have hv := vN_lo (n := q.toNat) (by omega)
      have hx := HX.out
      rw [hv] at hx
      refine ⟨_, rfl, ?_, hx.2.2.trans hb'⟩
      rw [← hx.1, ← hx.2.1]
      simpa [show ((q.toNat : Nat) : Int) = q by omega, e8] using ho'
    · have e8 : bits .or .u8 (q % 256) 128 = q % 128 + 128 := by
        have all : ∀ z : Fin 256, bits .or .u8 (z.val : Int) 128 = (z.val : Int) % 128 + 128 := by decide +kernel
        have h := all ⟨(q % 256).toNat, by omega⟩
        simp only at h
        rw [show (((q % 256).toNat : Nat) : Int) = q % 256 by omega] at h
        rw [h]
        omega
      go_wp2_with (at_builtin; (refine wpList_append_one rfl (.tmp 7) (.tmp 11) rfl base u0 k ys rfl wr HOW.out _ rfl rfl HK.out HBW.out ?_; intro g' c' w' ho' hb'; (have HO2 : Hid (w'.ownsRow base 5 1 (.slice (some ⟨g', 0, none⟩) (k + 1) c') (k + 1) (ys ++ u8l [q % 128 + 128])) := ho'); (have HB2 : Hid (Gr u0 wr (.slice (some ⟨g', 0, none⟩) (k + 1) c') w') := hb'); clear ho' hb'))
      go_roundw
      case rel =>
        have hv := vN_hi (n := q.toNat) (by omega)
        have hx := HX.out
        rw [hv] at hx
        refine ⟨q / 128, k + 1, _, by omega, by omega, rfl, HO2.out, ?_, ?_, hx.2.2.trans HB2.out⟩
        · rw [← hx.1, List.append_assoc, u8l_app]
          rw [show (q / 128).toNat = q.toNat / 128 by omega, show ((q.toNat % 128 + 128 : Nat) : Int) = q % 128 + 128 by omega]
          rfl
        · rw [← hx.2.1, List.length_cons, show (q / 128).toNat = q.toNat / 128 by omega]
          omega
      case measure => simp [intOf]; omega


set_option maxRecDepth 20000 in
set_option maxHeartbeats 1000000 in
theorem put_any (v : Value) (bs : List Int) (m : Int) (w : World) (m0 : 0 ≤ m) (m1 : m < 18446744073709551616) (hS : Src w v bs) (hn : bs.length ≤ 40000000) :
    Calls Try.prog 36 #[v, .int .u64 m] w fun e w' => (∃ v', e = .returned v' ∧ w'.ownsRow w.heap.size 5 1 v' (bs ++ vN m.toNat).length (u8l (bs ++ vN m.toNat))) ∧ Below w.heap.size w w' := by
  have HS : Hid (Src w v bs ∧ bs.length ≤ 40000000) := ⟨hS, hn⟩
  have HM : Hid (0 ≤ m ∧ m < 18446744073709551616) := ⟨m0, m1⟩
  clear hS hn
  go_enter Try.func36, Try.ntmps36
  go_wp2_with (at_builtin; (refine wpList_append_src rfl (.tmp 6) (.tmp 7) rfl w.heap.size (.slice none 0 0) 0 [] rfl (World.ownsRow_nil _ _ _ _) v bs rfl HS.out.1 (by have := HS.out.2; omega) (Nat.le_refl _) ?_; intro v1 w1 ho1 hg1; (have HO1 : Hid (w1.ownsRow w.heap.size 5 1 v1 bs.length (u8l bs)) := (by have h := ho1; rw [Nat.zero_add, List.nil_append] at h; exact h)); (have HB1 : Hid (Below w.heap.size w w1) := (Below.refl _ w).grown hg1 (Nat.le_refl _) (by intro q hq; cases hq)); clear ho1 hg1))
  go_loopw [1, 5] (fun y x wr => ∃ (q : Int) (ys : List Int), 0 ≤ q ∧ q ≤ m ∧ y = .int .u64 q ∧ wr.ownsRow w.heap.size 5 1 x ys.length (u8l ys) ∧ ys ++ vN q.toNat = bs ++ vN m.toNat ∧ Below w.heap.size w wr) (fun y x wr => (intOf y).toNat)
  case atStart => exact ⟨m, bs, HM.out.1, Int.le_refl _, rfl, HO1.out, rfl, HB1.out⟩
  case round =>
    obtain ⟨q, ys, q0, qm, rfl, hown, hxs, hbel⟩ := hrel
    have HOW : Hid (wr.ownsRow w.heap.size 5 1 u5 ys.length (u8l ys)) := hown
    have HX : Hid (ys ++ vN q.toNat = bs ++ vN m.toNat ∧ Below w.heap.size w wr) := ⟨hxs, hbel⟩
    have hq : q < 18446744073709551616 := by omega
    have HK : Hid (ys.length ≤ 100000000) := by
      have h1 := vN_le10 m.toNat (by have := HM.out; omega)
      have h2 := HS.out.2
      have h3 := congrArg List.length hxs
      rw [List.length_append, List.length_append] at h3
      show ys.length ≤ _
      omega
    have HBW : Hid (w.heap.size ≤ wr.heap.size) := hbel.size
    clear hown hxs hbel
    by_cases hlt : q < 128
    · have e8 : q % 256 = q := by omega
      go_wp2_with (at_builtin; (refine wpList_append_one rfl (.tmp 20) (.tmp 23) rfl w.heap.size u5 ys.length (u8l ys) rfl wr HOW.out _ rfl rfl HK.out HBW.out ?_; intro g' c' w' ho' hb'))
      go_ret
      have hv := vN_lo (n := q.toNat) (by omega)
      have hx := HX.out
      rw [hv] at hx
      refine ⟨⟨_, rfl, ?_⟩, hx.2.trans (hb'.below HBW.out (ownBlock_ge HOW.out))⟩
      rw [← hx.1, ← u8l_app, List.length_append]
      simpa [show ((q.toNat : Nat) : Int) = q by omega, e8] using ho'
    · have e8 : (q % 128 + 128) % 256 = q % 128 + 128 := by omega
      go_wp2_with (at_builtin; (refine wpList_append_one rfl (.tmp 11) (.tmp 16) rfl w.heap.size u5 ys.length (u8l ys) rfl wr HOW.out _ rfl rfl HK.out HBW.out ?_; intro g' c' w' ho' hb'; (have HO2 : Hid (w'.ownsRow w.heap.size 5 1 (.slice (some ⟨g', 0, none⟩) (ys.length + 1) c') (ys.length + 1) (u8l ys ++ u8l [q % 128 + 128])) := ho'); (have HB2 : Hid (Gr u5 wr (.slice (some ⟨g', 0, none⟩) (ys.length + 1) c') w') := hb'); clear ho' hb'))
      go_roundw
      case rel =>
        have hv := vN_hi (n := q.toNat) (by omega)
        have hx := HX.out
        rw [hv] at hx
        refine ⟨q / 128, ys ++ [q % 128 + 128], by omega, by omega, rfl, ?_, ?_, hx.2.trans (HB2.out.below HBW.out (ownBlock_ge HOW.out))⟩
        · rw [← u8l_app, List.length_append]
          exact HO2.out
        · rw [← hx.1, List.append_assoc, show (q / 128).toNat = q.toNat / 128 by omega, show ((q.toNat % 128 + 128 : Nat) : Int) = q % 128 + 128 by omega]
          rfl
      case measure => simp [intOf]; omega

end Go.Proofs.Ytflhgphjkhplmaa.W

/- The layer's Get and what it calls (varintEnd, joinVarint), walked over any row of bytes. -/
namespace Go.Proofs.Ytflhgphjkhplmaa.W
open Go.RowKit

theorem ret2_int {k : IntKind} {a b : Int} {v : Value} (h : a = b) : Ending.returned (.tuple #[.int k a, v]) = .returned (.tuple #[.int k b, v]) := by rw [h]

/-- A row of bytes in memory. -/
structure BRow (w : World) (b off : Nat) (zs : List Int) : Prop where
  cell : ∀ i, i < zs.length → w.cell? ⟨b, off + i, none⟩ = some (.int .u8 (zs.getD i 0))
  byt : Byt zs
  small : (zs.length : Int) ≤ 140737488351232

set_option maxHeartbeats 1000000 in
theorem end_some (b off cap at' n : Nat) (zs : List Int) (w : World) (R : BRow w b off zs) (ha : at' ≤ zs.length) (hs : scan (zs.drop at') = some n) :
    Calls Try.prog 93 #[.slice (some ⟨b, off, none⟩) zs.length cap, .int .i64 at'] w fun e w' => e = .returned (.tuple #[.int .i64 ((at' + n : Nat) : Int), .bool true]) ∧ w' = w := by
  have HR : Hid _ := R
  have hm := R.small
  clear R
  have HS : Hid _ := hs
  clear hs
  go_enter Try.func93, Try.ntmps93
  go_wp2
  go_step3
  go_wp2
  go_step3
  go_wp2
  go_loop [1] (fun i => ∃ k : Nat, at' ≤ k ∧ k ≤ zs.length ∧ i = .int .i64 k ∧ scan (zs.drop at') = (scan (zs.drop k)).map (· + (k - at'))) (fun i => zs.length - (intOf i).toNat)
  case atStart => exact ⟨at', Nat.le_refl _, ha, rfl, by simp⟩
  case round =>
    obtain ⟨k, hk1, hk2, rfl, hsc⟩ := hrel
    rw [HS.out] at hsc
    by_cases hlt : k < zs.length
    · have hck := HR.out.cell k hlt
      have hsb := byt_at HR.out.byt k hlt
      have hne : ((k : Int) == (zs.length : Int)) = false := by simp; omega
      have hlt' : (k : Int) < (zs.length : Int) := by omega
      by_cases c : zs.getD k 0 < 128
      · have HX := scan_hit zs k hlt c
        rw [HX] at hsc
        have HN : Hid (n = 1 + (k - at')) := by show _ = _; simpa using hsc
        clear hsc HX
        generalize zs.getD k 0 = z at hck hsb c
        go_wp2
        go_ret2
        have hn := HN.out
        exact ⟨ret2_int (by omega), rfl⟩
      · have HX := scan_miss zs k hlt c
        rw [HX] at hsc
        have HN : Hid _ := hsc
        clear hsc HX
        generalize hz : zs.getD k 0 = z at hck hsb c
        clear hz
        go_wp2
        go_round
        case rel => exact ⟨k + 1, by omega, by omega, by go_num, by rw [HS.out, HN.out, Option.map_map]; congr 1; funext x; simp; omega⟩
        case measure => simp [intOf]; omega
    · exfalso
      have : k = zs.length := by omega
      subst this
      rw [scan_end] at hsc
      simp at hsc

set_option maxHeartbeats 1000000 in
theorem end_none (b off cap at' : Nat) (zs : List Int) (w : World) (R : BRow w b off zs) (ha : at' ≤ zs.length) (hs : scan (zs.drop at') = none) :
    Calls Try.prog 93 #[.slice (some ⟨b, off, none⟩) zs.length cap, .int .i64 at'] w fun e w' => e = .returned (.tuple #[.int .i64 0, .bool false]) ∧ w' = w := by
  have HR : Hid _ := R
  have hm := R.small
  clear R
  have HS : Hid _ := hs
  clear hs
  go_enter Try.func93, Try.ntmps93
  go_wp2
  go_step3
  go_wp2
  go_step3
  go_wp2
  go_loop [1] (fun i => ∃ k : Nat, at' ≤ k ∧ k ≤ zs.length ∧ i = .int .i64 k ∧ scan (zs.drop at') = (scan (zs.drop k)).map (· + (k - at'))) (fun i => zs.length - (intOf i).toNat)
  case atStart => exact ⟨at', Nat.le_refl _, ha, rfl, by simp⟩
  case round =>
    obtain ⟨k, hk1, hk2, rfl, hsc⟩ := hrel
    rw [HS.out] at hsc
    by_cases hlt : k < zs.length
    · have hck := HR.out.cell k hlt
      have hsb := byt_at HR.out.byt k hlt
      have hne : ((k : Int) == (zs.length : Int)) = false := by simp; omega
      have hlt' : (k : Int) < (zs.length : Int) := by omega
      by_cases c : zs.getD k 0 < 128
      · exfalso
        have HX := scan_hit zs k hlt c
        rw [HX] at hsc
        simp at hsc
      · have HX := scan_miss zs k hlt c
        rw [HX] at hsc
        have HN : Hid _ := hsc
        clear hsc HX
        generalize hz : zs.getD k 0 = z at hck hsb c
        clear hz
        go_wp2
        go_round
        case rel => exact ⟨k + 1, by omega, by omega, by go_num, by rw [HS.out, HN.out, Option.map_map]; congr 1; funext x; simp; omega⟩
        case measure => simp [intOf]; omega
    · have : k = zs.length := by omega
      subst this
      clear hsc
      go_wp2
      go_ret2
      exact ⟨rfl, rfl⟩

theorem jv_step (zs : List Int) (k : Nat) (h : k < zs.length) : jv (zs.drop k) = jv (zs.drop (k + 1)) * 128 % 18446744073709551616 + zs.getD k 0 % 128 := by
  rw [drop_cons zs k h]; rfl

set_option maxHeartbeats 1000000 in
/-- The number of a row's bytes. -/
theorem join_any (b off cap : Nat) (zs : List Int) (w : World) (R : BRow w b off zs) :
    Calls Try.prog 94 #[.slice (some ⟨b, off, none⟩) zs.length cap] w fun e w' => e = .returned (.int .u64 (jv zs)) ∧ w' = w := by
  have HR : Hid _ := R
  have hm := R.small
  clear R
  go_enter Try.func94, Try.ntmps94
  go_wp2
  go_loop [3, 4] (fun n i => ∃ k : Nat, k ≤ zs.length ∧ i = .int .i64 ((k : Int) - 1) ∧ n = .int .u64 (jv (zs.drop k))) (fun _ i => (intOf i + 1).toNat)
  case atStart => exact ⟨zs.length, Nat.le_refl _, rfl, by rw [List.drop_length]; rfl⟩
  case round =>
    obtain ⟨k, hk, rfl, rfl⟩ := hrel
    rcases (show k = 0 ∨ ∃ j, k = j + 1 from by cases k with | zero => exact Or.inl rfl | succ j => exact Or.inr ⟨j, rfl⟩) with rfl | ⟨j, rfl⟩
    · go_wp2
      go_ret
      exact ⟨rfl, rfl⟩
    · have e1 : (((j + 1 : Nat) : Int) - 1) = j := by omega
      rw [e1]
      clear e1
      have hlt : j < zs.length := by omega
      have hck := HR.out.cell j hlt
      obtain ⟨z0, z1⟩ := byt_at HR.out.byt j hlt
      have HJ : Hid _ := jv_step zs j hlt
      obtain ⟨n0, n1⟩ := jv_bd (zs.drop (j + 1))
      have hlt' : (j : Int) < (zs.length : Int) := by omega
      generalize jv (zs.drop (j + 1)) = N at HJ n0 n1 ⊢
      generalize zs.getD j 0 = z at hck z0 z1 HJ
      have ha := and_127 z z0 z1
      have HO : Hid (bits .or .u64 (IntKind.u64.wrap (N * 128)) (z % 128) = N * 128 % 18446744073709551616 + z % 128) := by
        show _ = _
        rw [IntKind.wrap_u64]
        exact or_jv N (z % 128) (by omega) (by omega)
      go_wp2
      go_round
      case rel => exact ⟨j, by omega, rfl, by rw [HJ.out, HO.out]⟩
      case measure => simp [intOf] <;> omega

theorem BRow.cut {w : World} {b off : Nat} {zs : List Int} (R : BRow w b off zs) (p n : Nat) (h : p + n ≤ zs.length) : BRow w b (off + p) ((zs.drop p).take n) := by
  have hl : ((zs.drop p).take n).length = n := by simp; omega
  refine ⟨fun i hi => ?_, fun c hc => R.byt c (List.mem_of_mem_drop (List.mem_of_mem_take hc)), by have := R.small; omega⟩
  rw [hl] at hi
  have := R.cell (p + i) (by omega)
  rw [show off + p + i = off + (p + i) from by omega, this]
  congr 2
  simp only [List.getD_eq_getElem?_getD, List.getElem?_take, List.getElem?_drop, if_pos hi]

/-- What the three answers are, as values. -/
def gv (t : Int × Int × Int) : Value := .tuple #[.int .u64 t.1, .int .i64 t.2.1, .int .i64 t.2.2]

set_option maxHeartbeats 1000000 in
theorem get_any (b off cap at' : Nat) (zs : List Int) (w : World) (R : BRow w b off zs) (hcap : zs.length ≤ cap) (ha : at' ≤ zs.length) :
    Calls Try.prog 87 #[.slice (some ⟨b, off, none⟩) zs.length cap, .int .i64 at'] w fun e w' => e = .returned (gv (getI zs at')) ∧ w' = w := by
  have hm := R.small
  have HR : Hid _ := R
  have ha' : (at' : Int) ≤ (zs.length : Int) := by omega
  cases hs : scan (zs.drop at') with
  | none =>
    have HV : Hid (getI zs at' = (0, 0, 8)) := by show _ = _; unfold getI; rw [hs]
    have HS : Hid _ := hs
    clear R hs
    go_enter Try.func87, Try.ntmps87
    go_wp2_with (go_at_call 93; refine (end_none b off cap at' zs _ HR.out ha HS.out).mono ?_; rintro e w' ⟨rfl, rfl⟩)
    go_ret3
    exact ⟨by rw [HV.out]; rfl, rfl⟩
  | some n =>
    obtain ⟨n1, n2⟩ := scan_le _ n hs
    have n3 : n ≤ zs.length - at' := by simpa using n2
    have HS : Hid _ := hs
    have n4 : (at' : Int) + (n : Int) ≤ (zs.length : Int) := by omega
    have n5 : (1 : Int) ≤ (n : Int) := by omega
    have hcap' : (zs.length : Int) ≤ (cap : Int) := by omega
    by_cases c1 : 10 < n
    · have HV : Hid (getI zs at' = (0, 0, 30)) := by show _ = _; unfold getI; rw [hs]; simp only; rw [if_pos (Or.inl c1)]
      have c1' : (10 : Int) < (n : Int) := by omega
      clear R hs n2 n3 c1
      go_enter Try.func87, Try.ntmps87
      go_wp2_with (go_at_call 93; refine (end_some b off cap at' n zs _ HR.out ha HS.out).mono ?_; rintro e w' ⟨rfl, rfl⟩)
      go_ret3
      exact ⟨by rw [HV.out]; rfl, rfl⟩
    · have HC : Hid (at' + n ≤ zs.length) := by show _ ≤ _; omega
      have hln : ((zs.drop at').take n).length = n := by simp; omega
      have HL : Hid _ := hln
      clear hln
      by_cases c2 : n = 10 ∧ 1 < zs.getD (at' + 9) 0
      · obtain ⟨rfl, c3⟩ := c2
        have HV : Hid (getI zs at' = (0, 0, 30)) := by show _ = _; unfold getI; rw [hs]; exact if_pos (Or.inr ⟨rfl, c3⟩)
        have hcl := R.cell (at' + 9) (by omega)
        have hzb := byt_at R.byt (at' + 9) (by omega)
        generalize zs.getD (at' + 9) 0 = z at c3 hcl hzb
        clear R hs n2 n3 c1
        go_enter Try.func87, Try.ntmps87
        go_wp2_with (go_at_call 93; refine (end_some b off cap at' 10 zs _ HR.out ha HS.out).mono ?_; rintro e w' ⟨rfl, rfl⟩)
        go_ret3
        exact ⟨by rw [HV.out]; rfl, rfl⟩
      · have HV : Hid (getI zs at' = (jv ((zs.drop at').take n), ((at' + n : Nat) : Int), 0)) := by show _ = _; unfold getI; rw [hs]; exact if_neg (by omega)
        have c1' : (n : Int) ≤ 10 := by omega
        by_cases c3 : n = 10
        · subst c3
          have c4 : ¬ 1 < zs.getD (at' + 9) 0 := by omega
          have hcl := R.cell (at' + 9) (by omega)
          have hzb := byt_at R.byt (at' + 9) (by omega)
          generalize zs.getD (at' + 9) 0 = z at c4 hcl hzb
          clear R hs n2 n3 c1 c2
          go_enter Try.func87, Try.ntmps87
          go_wp2_with (go_at_call 93; refine (end_some b off cap at' 10 zs _ HR.out ha HS.out).mono ?_; rintro e w' ⟨rfl, rfl⟩)
          have J := join_any b (off + at') (cap - at') ((zs.drop at').take 10) w' (HR.out.cut at' 10 HC.out)
          rw [HL.out] at J
          refine J.mono ?_
          rintro e w2 ⟨rfl, rfl⟩
          clear J
          go_wp2
          go_ret3
          exact ⟨by rw [HV.out]; rfl, rfl⟩
        · have c4 : ((n : Int) == 10) = false := by simp; omega
          have c5 : (n : Int) < 10 := by omega
          clear R hs n2 n3 c1 c2 c3
          go_enter Try.func87, Try.ntmps87
          go_wp2_with (go_at_call 93; refine (end_some b off cap at' n zs _ HR.out ha HS.out).mono ?_; rintro e w' ⟨rfl, rfl⟩)
          have J := join_any b (off + at') (cap - at') ((zs.drop at').take n) w' (HR.out.cut at' n HC.out)
          rw [HL.out] at J
          refine J.mono ?_
          rintro e w2 ⟨rfl, rfl⟩
          clear J
          go_wp2
          go_ret3
          exact ⟨by rw [HV.out]; rfl, rfl⟩

end Go.Proofs.Ytflhgphjkhplmaa.W

/- Bytes are written behind a file's. -/
namespace Go.Proofs.Ytflhgphjkhplmaa
open Go.RowKit
set_option linter.unusedVariables false
set_option linter.unusedSimpArgs false

theorem info3 : (Try.prog.info? 3).map (fun i => (i.zero, i.size, i.bytes)) = some (some (.int .i64 0), 1, 8) := by kernel_rfl
/-- Bytes that lie in rows of bytes. -/
def Src5 (w : World) (sv : Value) (bs : List Int) : Prop := ∀ W : World, (∀ (q : Nat) (c : Array Value) (f : Nat × Nat), w.heap[q]? = some (.cells c 5 f) → W.heap[q]? = w.heap[q]?) → Src W sv bs
theorem own_src5 {w : World} {base : Nat} {v : Value} {zs : List Int} (h : w.ownsRow base 5 1 v zs.length (u8l zs)) : Src5 w v zs := fun W hW => own_src (own_at h fun q hq => by
  obtain ⟨cur, hc⟩ := own_tag h hq
  exact hW q cur _ hc)
theorem own_other {w : World} {base n F : Nat} {e t : TypeId} {v : Value} {xs : List Value} {c : Array Value} (h : w.ownsRow base e 1 v n xs) (hF : w.heap[F]? = some (.cells c t (0, 0))) (ht : t ≠ e) : some F ≠ v.ownBlock := by
  intro hq
  obtain ⟨cur, hc⟩ := own_tag h hq.symm
  exact ne_tag hF hc ht rfl

set_option maxRecDepth 20000 in
set_option maxHeartbeats 4000000 in
theorem write_any (F : Nat) (dv bv : Value) (n m base : Nat) (xs ys : List Value) (sv : Value) (bs : List Int) (w : World) (hF : w.heap[F]? = some (.cells #[dv, bv] 118 (0, 0))) (hd : w.ownsRow base 5 1 dv n xs) (hb : w.ownsRow base 3 1 bv m ys) (hbase : base ≤ w.heap.size) (hs : Src5 w sv bs) (hn : 0 < bs.length) (hl : n + bs.length ≤ 10000000) (hm : m ≤ 10000000) :
    Calls Try.prog 82 #[.pointer (some ⟨F, 0, none⟩), sv] w fun e w' => (∃ v, e = .returned v) ∧ ∃ dv' bv', w'.heap[F]? = some (.cells #[dv', bv'] 118 (0, 0)) ∧ w'.ownsRow base 5 1 dv' (n + bs.length) (xs ++ u8l bs) ∧ w'.ownsRow base 3 1 bv' (m + 1) (ys ++ [.int .i64 (n : Int)]) ∧ Kep w w' (fun q => q = F ∨ dv.ownBlock = some q ∨ bv.ownBlock = some q) := by
  obtain ⟨i0, hi, hz0, hz1, hz2⟩ := info_parts info3
  obtain ⟨da, dc, rfl⟩ := own_slice hd
  obtain ⟨ba, bc, rfl⟩ := own_slice hb
  obtain ⟨sa, sc, hsv⟩ := (hs w fun _ _ _ _ => rfl).slice
  have c0 : w.cell? ⟨F, 0, none⟩ = some (.slice da n dc) := by rw [cell_of_row _ _ _ _ _ _ hF]; rfl
  have c1 : w.cell? ⟨F, 1, none⟩ = some (.slice ba m bc) := by rw [cell_of_row _ _ _ _ _ _ hF]; rfl
  have HF : Hid (w.heap[F]? = some (.cells #[.slice da n dc, .slice ba m bc] 118 (0, 0))) := hF
  have HD : Hid (w.ownsRow base 5 1 (.slice da n dc) n xs) := hd
  have HBO : Hid (w.ownsRow base 3 1 (.slice ba m bc) m ys) := hb
  have HS : Hid (Src5 w sv bs) := hs
  have HBS : Hid (base ≤ w.heap.size ∧ n + bs.length ≤ 10000000 ∧ m ≤ 10000000) := ⟨hbase, hl, hm⟩
  obtain ⟨N, hN⟩ : ∃ N, bs.length = N := ⟨_, rfl⟩
  have HN : Hid (bs.length = N) := hN
  rw [hN] at hn hsv
  have hn0 : ((N : Int) == 0) = false := by rw [beq_eq_false_iff_ne]; omega
  have hFlt : F < w.heap.size := (Array.getElem?_eq_some_iff.1 hF).1
  have c0a : ∀ o, (w.alloc o).cell? ⟨F, 0, none⟩ = some (.slice da n dc) := fun o => by rw [cell_of_row _ _ _ _ _ _ ((Below.heap_alloc _ _ _ hFlt).trans hF)]; rfl
  have c1a : ∀ o, (w.alloc o).cell? ⟨F, 1, none⟩ = some (.slice ba m bc) := fun o => by rw [cell_of_row _ _ _ _ _ _ ((Below.heap_alloc _ _ _ hFlt).trans hF)]; rfl
  subst hsv
  clear hF hd hb hs hbase hl hm hN
  go_enter Try.func82, Try.ntmps82
  go_wp2_with fail
  go_region_law (refine step_append_lies _ rfl (.tmp 11) (.tmp 17) 36 rfl base 3 i0 (.int .i64 0) 1 8 Try.underlying36 hi hz0 hz1 hz2 rfl (by decide) (.slice ba m bc) m ys (by simp [Act.eval, Act.put]) (HBO.out.alloc _) ⟨w.heap.size, 0, none⟩ 1 1 [.int .i64 (n : Int)] (by simp [Act.eval, Act.put]) rfl (World.news_of_block (Go.heap_alloc_new _ _)) (by intro u hu; simp at hu; rw [hu]; rfl) (by decide) (by have := HBS.out; unfold maxLen; omega) (by have := HBS.out; omega) (by have := HBS.out; simp; omega) (w.heap.size + 1) (by simp) ?_; intro g' cp' w' ho' hg' hx' hy'; (have HX1 : Hid (w'.heap[F]? = some (.cells #[.slice da n dc, .slice ba m bc] 118 (0, 0))) := (hg'.block F (by simp; omega) (own_other HBO.out HF.out (by decide))).trans ((Below.heap_alloc _ _ _ hFlt).trans HF.out)); (have d1 : w'.cell? ⟨F, 1, none⟩ = some (.slice ba m bc) := (by rw [cell_of_row _ _ _ _ _ _ HX1.out]; rfl)); (have f1 := frozen_of_row _ _ 1 _ _ HX1.out); (have HO1 : Hid (w'.ownsRow base 3 1 (.slice (some ⟨g', 0, none⟩) (m + 1) cp') (m + 1) (ys ++ [.int .i64 (n : Int)])) := ho'); (have HK1 : Hid (w.heap.size + 1 ≤ w'.heap.size ∧ ∀ q, q < w.heap.size → (Value.slice ba m bc).ownBlock ≠ some q → w'.heap[q]? = w.heap[q]?) := ⟨(by have h := hg'.size; simp at h; omega), fun q h1 h2 => (hg'.block q (by simp; omega) (fun e => h2 e.symm)).trans (Below.heap_alloc _ _ _ h1)⟩); (have HG1 : Hid (w'.os = w.os ∧ w'.tape = w.tape ∧ w'.output = w.output) := ⟨hg'.os, hg'.tape, hg'.output⟩); clear ho' hg' hx' hy')
  all_goals
    obtain ⟨W2, hW2⟩ : ∃ W2, w'.setCell ⟨F, 1, none⟩ (.slice (some ⟨g', 0, none⟩) (m + 1) cp') = W2 := ⟨_, rfl⟩
    have HX2 : Hid (W2.heap[F]? = some (.cells #[.slice da n dc, .slice (some ⟨g', 0, none⟩) (m + 1) cp'] 118 (0, 0))) := by
      show _ = _
      rw [← hW2]
      exact row_set _ HX1.out
    have HK2 : Hid (∀ q, q ≠ F → W2.heap[q]? = w'.heap[q]?) := fun q hq => by rw [← hW2]; exact Below.heap_setCell _ _ _ _ hq
    have HZ2 : Hid (W2.heap.size = w'.heap.size) := by show _ = _; rw [← hW2]; simp
    have HY2 : Hid (W2.os = w'.os ∧ W2.tape = w'.tape ∧ W2.output = w'.output) := by rw [← hW2]; exact ⟨rfl, rfl, rfl⟩
    have HD2 : Hid (W2.ownsRow base 5 1 (.slice da n dc) n xs) := own_at HD.out fun q hq => by
      obtain ⟨cur, hc⟩ := own_tag HD.out hq
      rw [HK2.out q (ne_tag hc HF.out (by decide))]
      refine HK1.out.2 q (Array.getElem?_eq_some_iff.1 hc).1 fun e => ?_
      obtain ⟨cur', hc'⟩ := own_tag HBO.out e
      exact ne_tag hc hc' (by decide) rfl
    have HO2 : Hid (W2.ownsRow base 3 1 (.slice (some ⟨g', 0, none⟩) (m + 1) cp') (m + 1) (ys ++ [.int .i64 (n : Int)])) := own_at HO1.out fun q hq => by
      obtain ⟨cur, hc⟩ := own_tag HO1.out hq
      exact HK2.out q (ne_tag hc HX1.out (by decide))
    have HS2 : Hid (Src W2 (.slice sa N sc) bs) := HS.out W2 fun q c f hc => by
      rw [HK2.out q (ne_tag hc HF.out (by decide))]
      refine HK1.out.2 q (Array.getElem?_eq_some_iff.1 hc).1 fun e => ?_
      obtain ⟨cur', hc'⟩ := own_tag HBO.out e
      exact ne_tag hc hc' (by decide) rfl
    rw [hW2]
    have e0 : W2.cell? ⟨F, 0, none⟩ = some (.slice da n dc) := by rw [cell_of_row _ _ _ _ _ _ HX2.out]; rfl
    clear hW2 d1 f1 c0 c1 c0a c1a
    go_wp2_with (at_builtin; (refine wpList_append_src rfl (.tmp 25) (.tmp 26) rfl base (.slice da n dc) n xs rfl HD2.out (.slice sa N sc) bs rfl HS2.out (by have := HBS.out; omega) (by have h1 := HBS.out; have h2 := HK1.out.1; have h3 := HZ2.out; omega) ?_; intro v3 w3 ho3 hg3; (obtain ⟨xa, xc, hv3⟩ := own_slice ho3); subst hv3; (have HX3 : Hid (w3.heap[F]? = some (.cells #[.slice da n dc, .slice (some ⟨g', 0, none⟩) (m + 1) cp'] 118 (0, 0))) := (hg3.block F (by have h2 := HK1.out.1; have h3 := HZ2.out; omega) (own_other HD2.out HX2.out (by decide))).trans HX2.out); (have d3 : w3.cell? ⟨F, 0, none⟩ = some (.slice da n dc) := (by rw [cell_of_row _ _ _ _ _ _ HX3.out]; rfl)); (have f3 := frozen_of_row _ _ 0 _ _ HX3.out); (have HO3 : Hid (w3.ownsRow base 5 1 (.slice xa (n + bs.length) xc) (n + bs.length) (xs ++ u8l bs)) := ho3); (have HG3 : Hid (W2.grownBy w3 (Value.slice da n dc).ownBlock) := hg3); clear ho3 hg3))
    go_end0
    refine ⟨⟨_, rfl⟩, .slice xa (n + bs.length) xc, .slice (some ⟨g', 0, none⟩) (m + 1) cp', row_set _ HX3.out, ?_, ?_, ⟨?_, ?_, ?_, ?_, ?_⟩⟩
    · refine own_at HO3.out fun q hq => Below.heap_setCell _ _ _ _ ?_
      obtain ⟨cur, hc⟩ := own_tag HO3.out hq
      exact ne_tag hc HX3.out (by decide)
    · refine own_at (w := W2) HO2.out fun q hq => ?_
      obtain ⟨cur, hc⟩ := own_tag HO2.out hq
      rw [Below.heap_setCell _ _ _ _ (ne_tag hc HX2.out (by decide))]
      exact HG3.out.block q (Array.getElem?_eq_some_iff.1 hc).1 (own_other HD2.out hc (by decide))
    · exact HG3.out.os.trans (HY2.out.1.trans HG1.out.1)
    · exact HG3.out.tape.trans (HY2.out.2.1.trans HG1.out.2.1)
    · exact HG3.out.output.trans (HY2.out.2.2.trans HG1.out.2.2)
    · have h1 := HK1.out.1
      have h2 := HZ2.out
      have h3 := HG3.out.size
      simp
      omega
    · intro q h1 hx
      have h2 : q ≠ F := fun e => hx (.inl e)
      have h3 : (Value.slice da n dc).ownBlock ≠ some q := fun e => hx (.inr (.inl e))
      have h4 : (Value.slice ba m bc).ownBlock ≠ some q := fun e => hx (.inr (.inr e))
      have g1 := HK1.out.1
      have g2 := HZ2.out
      rw [Below.heap_setCell _ _ _ _ h2, HG3.out.block q (by omega) (fun e => h3 e.symm), HK2.out q h2]
      exact HK1.out.2 q h1 h4
end Go.Proofs.Ytflhgphjkhplmaa

/- A disk with the one file a: bytes are appended, and synced. -/
namespace Go.Proofs.Ytflhgphjkhplmaa
open Go.RowKit
set_option linter.unusedVariables false
set_option linter.unusedSimpArgs false

def nmA : ByteArray := ⟨#[97]⟩
theorem ne_map {w : World} {k k' c : Nat} {cs : Array Value} {t : TypeId} {f : Nat × Nat} {l : List Ent} (h : w.heap[k]? = some (.cells cs t f)) (h' : MapAt w k' l c) : k' ≠ k := by
  rintro rfl
  unfold MapAt at h'
  rw [h] at h'
  simp at h'
theorem fnd_a {v : Value} {c : Nat} : fnd ⟨#[97]⟩ [(⟨#[97]⟩, v, c)] 0 = some (0, v) := by
  show (if ((⟨#[97]⟩ : ByteArray) == ⟨#[97]⟩) = true then some (0, v) else none) = _
  rw [if_pos (by decide)]
theorem Src5.kep {w w2 : World} {sv : Value} {bs : List Int} (h : Src5 w sv bs) (hk : ∀ (q : Nat) (c : Array Value) (f : Nat × Nat), w.heap[q]? = some (.cells c 5 f) → w2.heap[q]? = w.heap[q]?) : Src5 w2 sv bs := fun W' h' => h W' fun q c f hq => (h' q c f ((hk q c f hq).trans hq)).trans (hk q c f hq)
def i64l (l : List Int) : List Value := l.map (Value.int .i64)
/-- A disk with the one file a. -/
structure One (w : World) (D base B F : Nat) (s : Int) (dv bv : Value) (zs bg : List Int) : Prop where
  low : base ≤ D ∧ base ≤ B ∧ base ≤ F ∧ base ≤ w.heap.size
  disk : w.heap[D]? = some (.cells #[.map (some B), .int .i64 s] 90 (0, 0))
  map : MapAt w B [(⟨#[97]⟩, .pointer (some ⟨F, 0, none⟩), 0)] 1
  file : w.heap[F]? = some (.cells #[dv, bv] 118 (0, 0))
  data : w.ownsRow base 5 1 dv zs.length (u8l zs)
  begins : w.ownsRow base 3 1 bv bg.length (i64l bg)
theorem One.keep {w w' : World} {D base B F : Nat} {s : Int} {dv bv : Value} {zs bg : List Int} (h : One w D base B F s dv bv zs bg) (hb : Below w.heap.size w w') : One w' D base B F s dv bv zs bg := by
  have hl := h.low
  have hz := hb.size
  refine ⟨⟨hl.1, hl.2.1, hl.2.2.1, by omega⟩, (hb.block _ (Array.getElem?_eq_some_iff.1 h.disk).1).trans h.disk, ?_, (hb.block _ (Array.getElem?_eq_some_iff.1 h.file).1).trans h.file, own_kept h.data fun q _ hq => hb.block q hq, own_kept h.begins fun q _ hq => hb.block q hq⟩
  exact (hb.block _ (Array.getElem?_eq_some_iff.1 h.map).1).trans h.map

set_option maxRecDepth 20000 in
set_option maxHeartbeats 4000000 in
/-- More bytes. -/
theorem append_more (D base B F : Nat) (s : Int) (dv bv sv : Value) (zs bg bs : List Int) (w : World) (h : One w D base B F s dv bv zs bg) (hs : Src5 w sv bs) (hn : 0 < bs.length) (hl : zs.length + bs.length ≤ 1000) (hm : bg.length ≤ 1000) :
    Calls Try.prog 55 #[.pointer (some ⟨D, 0, none⟩), .string ⟨#[97]⟩, sv] w fun e w' => e = .returned (.int .i64 0) ∧ (∃ dv' bv', One w' D base B F s dv' bv' (zs ++ bs) (bg ++ [(zs.length : Int)])) ∧ Below base w w' := by
  have H : Hid (One w D base B F s dv bv zs bg) := h
  have HS : Hid (Src5 w sv bs) := hs
  have HL : Hid (0 < bs.length ∧ zs.length + bs.length ≤ 1000 ∧ bg.length ≤ 1000) := ⟨hn, hl, hm⟩
  obtain ⟨sa, sc, hsv⟩ := (hs w fun _ _ _ _ => rfl).slice
  obtain ⟨da, dc, hdv⟩ := own_slice h.data
  obtain ⟨N, hN⟩ : ∃ N, bs.length = N := ⟨_, rfl⟩
  obtain ⟨M, hM⟩ : ∃ M, zs.length = M := ⟨_, rfl⟩
  have hNM : (M : Int) + (N : Int) ≤ 1000 := by omega
  have cD : w.cell? ⟨D, 0, none⟩ = some (.map (some B)) := by rw [cell_of_row _ _ _ _ _ _ h.disk]; rfl
  have cF : w.cell? ⟨F, 0, none⟩ = some dv := by rw [cell_of_row _ _ _ _ _ _ h.file]; rfl
  have HFI : Hid (Calls Try.prog 74 #[.pointer (some ⟨D, 0, none⟩), .string ⟨#[97]⟩] w fun e w' => e = .returned (.tuple #[.pointer (some ⟨F, 0, none⟩), .int .i64 0]) ∧ w' = w) := find_some D _ B 1 0 _ _ w cD h.map fnd_a
  have HWR : Hid (Calls Try.prog 82 #[.pointer (some ⟨F, 0, none⟩), sv] w fun e w' => (∃ v, e = .returned v) ∧ ∃ dv' bv', w'.heap[F]? = some (.cells #[dv', bv'] 118 (0, 0)) ∧ w'.ownsRow base 5 1 dv' (zs.length + bs.length) (u8l zs ++ u8l bs) ∧ w'.ownsRow base 3 1 bv' (bg.length + 1) (i64l bg ++ [.int .i64 (zs.length : Int)]) ∧ Kep w w' (fun q => q = F ∨ dv.ownBlock = some q ∨ bv.ownBlock = some q)) := write_any F dv bv zs.length bg.length base _ _ sv bs w h.file h.data h.begins h.low.2.2.2 hs hn (by omega) (by omega)
  rw [hM] at hdv
  rw [hN] at hsv
  rw [hsv] at HWR HS ⊢
  rw [hdv] at cF
  clear h hs hn hl hm hN hM hsv hdv
  go_enter Try.func55, Try.ntmps55
  go_wp2_with (first | (go_at_call 74; refine HFI.out.mono ?_; rintro e w1 ⟨rfl, hw1⟩; rw [hw1]; clear hw1) | (go_at_call 56; refine (name_a _).mono ?_; rintro e w1 ⟨rfl, hw1⟩; rw [hw1]; clear hw1) | (go_at_call 82; refine HWR.out.mono ?_; rintro e w2 ⟨⟨v2, rfl⟩, dv', bv', hf2, ho2, hp2, hk2⟩; (have HK : Hid (Kep w w2 (fun q => q = F ∨ dv.ownBlock = some q ∨ bv.ownBlock = some q)) := hk2); (have H2 : Hid (w2.heap[F]? = some (.cells #[dv', bv'] 118 (0, 0)) ∧ w2.ownsRow base 5 1 dv' (zs.length + bs.length) (u8l zs ++ u8l bs) ∧ w2.ownsRow base 3 1 bv' (bg.length + 1) (i64l bg ++ [.int .i64 (zs.length : Int)])) := ⟨hf2, ho2, hp2⟩); clear hf2 ho2 hp2 hk2))
  go_ret
  have h := H.out
  have hk := HK.out
  obtain ⟨q1, q2, q3⟩ := H2.out
  have hl := h.low
  have hz := hk.size
  refine ⟨rfl, ⟨dv', bv', ⟨⟨hl.1, hl.2.1, hl.2.2.1, by omega⟩, ?_, ?_, q1, ?_, ?_⟩⟩, hk.below hl.2.2.2 ?_⟩
  · refine (hk.block _ (Array.getElem?_eq_some_iff.1 h.disk).1 ?_).trans h.disk
    rintro (e | e | e)
    · exact ne_tag h.disk h.file (by decide) e
    · exact own_other h.data h.disk (by decide) e.symm
    · exact own_other h.begins h.disk (by decide) e.symm
  · refine (hk.block _ (Array.getElem?_eq_some_iff.1 h.map).1 ?_).trans h.map
    rintro (e | e | e)
    · exact ne_map h.file h.map e
    · obtain ⟨cur, hc⟩ := own_tag h.data e
      exact ne_map hc h.map rfl
    · obtain ⟨cur, hc⟩ := own_tag h.begins e
      exact ne_map hc h.map rfl
  · rw [List.length_append, ← u8l_app]; exact q2
  · rw [List.length_append]
    have e : i64l (bg ++ [(zs.length : Int)]) = i64l bg ++ [.int .i64 (zs.length : Int)] := by simp [i64l]
    rw [e]
    exact q3
  · rintro q (e | e | e)
    · rw [e]; exact hl.2.2.1
    · exact (h.data.lt q e).1
    · exact (h.begins.lt q e).1

set_option maxRecDepth 20000 in
set_option maxHeartbeats 4000000 in
/-- The first bytes. -/
theorem append_first (D base : Nat) (s : Int) (sv : Value) (bs : List Int) (w : World) (hD : w.heap[D]? = some (.cells #[.map none, .int .i64 s] 90 (0, 0))) (hb : base ≤ D) (hs : Src5 w sv bs) (hn : 0 < bs.length) (hl : bs.length ≤ 1000) :
    Calls Try.prog 55 #[.pointer (some ⟨D, 0, none⟩), .string ⟨#[97]⟩, sv] w fun e w' => e = .returned (.int .i64 0) ∧ (∃ B F dv' bv', One w' D base B F s dv' bv' bs [0]) ∧ Below base w w' := by
  have hlt := (Array.getElem?_eq_some_iff.1 hD).1
  have HD : Hid (w.heap[D]? = some (.cells #[.map none, .int .i64 s] 90 (0, 0)) ∧ base ≤ D ∧ D < w.heap.size) := ⟨hD, hb, hlt⟩
  have HS : Hid (Src5 w sv bs) := hs
  have HL : Hid (0 < bs.length ∧ bs.length ≤ 1000) := ⟨hn, hl⟩
  obtain ⟨sa, sc, hsv⟩ := (hs w fun _ _ _ _ => rfl).slice
  obtain ⟨N, hN⟩ : ∃ N, bs.length = N := ⟨_, rfl⟩
  have hNM : (N : Int) ≤ 1000 := by omega
  have cD : w.cell? ⟨D, 0, none⟩ = some (.map none) := by rw [cell_of_row _ _ _ _ _ _ hD]; rfl
  have HFI : Hid (Calls Try.prog 74 #[.pointer (some ⟨D, 0, none⟩), .string ⟨#[97]⟩] w fun e w' => e = .returned (.tuple #[.pointer none, .int .i64 5]) ∧ w' = w) := find_new D _ w cD
  obtain ⟨W, hW⟩ : ∃ W, w.alloc (.cells #[.slice none 0 0, .slice none 0 0] 118) = W := ⟨_, rfl⟩
  have hWD : W.heap[D]? = some (.cells #[.map none, .int .i64 s] 90 (0, 0)) := by rw [← hW]; exact (Below.heap_alloc _ _ _ hlt).trans hD
  have hWF : W.heap[w.heap.size]? = some (.cells #[.slice none 0 0, .slice none 0 0] 118 (0, 0)) := by rw [← hW]; exact Go.heap_alloc_new _ _
  have cW : W.cell? ⟨D, 0, none⟩ = some (.map none) := by rw [cell_of_row _ _ _ _ _ _ hWD]; rfl
  have cWF : W.cell? ⟨w.heap.size, 0, none⟩ = some (.slice none 0 0) := by rw [cell_of_row _ _ _ _ _ _ hWF]; rfl
  have hWS : W.heap.size = w.heap.size + 1 := by rw [← hW]; simp
  have HPU : Hid (Calls Try.prog 81 #[.pointer (some ⟨D, 0, none⟩), .string ⟨#[97]⟩, .pointer (some ⟨w.heap.size, 0, none⟩)] W fun e w' => (∃ v, e = .returned v) ∧ w'.heap[D]? = some (.cells #[.map (some W.heap.size), .int .i64 s] 90 (0, 0)) ∧ MapAt w' W.heap.size [(⟨#[97]⟩, .pointer (some ⟨w.heap.size, 0, none⟩), 0)] 1 ∧ Kep W w' (fun q => q = D)) := put_first D ⟨#[97]⟩ (some ⟨w.heap.size, 0, none⟩) W (.int .i64 s) 90 hWD
  have HWW : Hid (W.heap[w.heap.size]? = some (.cells #[.slice none 0 0, .slice none 0 0] 118 (0, 0)) ∧ W.heap.size = w.heap.size + 1 ∧ Below w.heap.size w W) := ⟨hWF, hWS, by rw [← hW]; exact (Below.refl _ _).alloc (Nat.le_refl _) _⟩
  rw [hN] at hsv
  rw [hsv] at HS ⊢
  clear hs hn hl hN hsv hWS hWF hWD hD
  go_enter Try.func55, Try.ntmps55
  go_wp2_with (first | (go_at_call 74; refine HFI.out.mono ?_; rintro e w1 ⟨rfl, hw1⟩; rw [hw1]; clear hw1) | (go_at_call 56; refine (name_a _).mono ?_; rintro e w1 ⟨rfl, hw1⟩; rw [hw1]; clear hw1) | (go_at_call 81; refine HPU.out.mono ?_; rintro e w2 ⟨⟨v2, rfl⟩, hd2, hm2, hk2⟩; (have HF2 : Hid (w2.heap[w.heap.size]? = some (.cells #[.slice none 0 0, .slice none 0 0] 118 (0, 0))) := (hk2.block _ (by have := HWW.out.2.1; omega) (by show ¬ (w.heap.size = D); omega)).trans HWW.out.1); (have HS2 : Hid (Src5 w2 (.slice sa N sc) bs) := HS.out.kep (fun q c f hq => (hk2.block q (by have h1 := (Array.getElem?_eq_some_iff.1 hq).1; have h2 := HWW.out.2.1; omega) (ne_tag hq HD.out.1 (by decide))).trans (HWW.out.2.2.block q (Array.getElem?_eq_some_iff.1 hq).1))); (have H2 : Hid (w2.heap[D]? = some (.cells #[.map (some W.heap.size), .int .i64 s] 90 (0, 0)) ∧ MapAt w2 W.heap.size [(⟨#[97]⟩, .pointer (some ⟨w.heap.size, 0, none⟩), 0)] 1 ∧ Kep W w2 (fun q => q = D)) := ⟨hd2, hm2, hk2⟩); clear hd2 hm2 hk2) | (go_at_call 82; refine (write_any w.heap.size (.slice none 0 0) (.slice none 0 0) 0 0 base [] [] _ bs w2 HF2.out (World.ownsRow_nil _ _ _ _) (World.ownsRow_nil _ _ _ _) (by have h1 := HD.out; have h2 := HWW.out.2.1; have h3 := H2.out.2.2.size; omega) HS2.out HL.out.1 (by have := HL.out; omega) (by decide)).mono ?_; rintro e w3 ⟨⟨v3, rfl⟩, hr3⟩; (have H3 : Hid (∃ dv' bv', w3.heap[w.heap.size]? = some (.cells #[dv', bv'] 118 (0, 0)) ∧ w3.ownsRow base 5 1 dv' (0 + bs.length) ([] ++ u8l bs) ∧ w3.ownsRow base 3 1 bv' (0 + 1) ([] ++ [.int .i64 ((0 : Nat) : Int)]) ∧ Kep w2 w3 (fun q => q = w.heap.size ∨ (Value.slice none 0 0).ownBlock = some q ∨ (Value.slice none 0 0).ownBlock = some q)) := hr3); clear hr3))
  go_ret
  obtain ⟨dv', bv', q1, q2, q3, hk3⟩ := H3.out
  obtain ⟨p1, p2, hk2⟩ := H2.out
  obtain ⟨g1, g2, g3⟩ := HWW.out
  obtain ⟨f1, f2, f3⟩ := HD.out
  have z2 := hk2.size
  have z3 := hk3.size
  rw [Nat.zero_add, List.nil_append] at q2 q3
  have hx : ∀ q, q ≠ w.heap.size → ¬ (q = w.heap.size ∨ (Value.slice none 0 0).ownBlock = some q ∨ (Value.slice none 0 0).ownBlock = some q) := fun q hq e => by
    rcases e with e | e | e
    · exact hq e
    · cases e
    · cases e
  refine ⟨rfl, ⟨W.heap.size, w.heap.size, dv', bv', ⟨⟨f2, by omega, by omega, by omega⟩, ?_, ?_, q1, q2, ?_⟩⟩, ?_⟩
  · exact (hk3.block D (by omega) (hx D (by omega))).trans p1
  · refine (hk3.block W.heap.size (Array.getElem?_eq_some_iff.1 p2).1 (hx _ (by omega))).trans p2
  · exact q3
  · have b2 : Below base W w2 := hk2.below (by omega) fun q e => by rw [e]; exact f2
    have b3 : Below base w2 w3 := hk3.below (by omega) fun q e => by
      by_cases hq : q = w.heap.size
      · omega
      · exact absurd e (hx q hq)
    exact ((g3.mono (by omega)).trans b2).trans b3
end Go.Proofs.Ytflhgphjkhplmaa

/- Bytes are cloned; a file is read; where a write ends. -/
namespace Go.Proofs.Ytflhgphjkhplmaa
open Go.RowKit
set_option linter.unusedVariables false
set_option linter.unusedSimpArgs false

theorem bel1 (w : World) (o : Obj) : Below w.heap.size w (w.alloc o) := (Below.refl _ w).alloc (Nat.le_refl _) o
set_option maxRecDepth 20000 in
set_option maxHeartbeats 1000000 in
theorem clone_any (v : Value) (bs : List Int) (w : World) (hS : Src w v bs) (hl : bs.length ≤ 9000000) : Calls Try.prog 75 #[v] w fun e w' => (∃ v', e = .returned v' ∧ w'.ownsRow w.heap.size 5 1 v' bs.length (u8l bs)) ∧ Below w.heap.size w w' := by
  rcases hS with ⟨rfl, rfl⟩ | ⟨ad, cap, rfl, hcap, hC⟩
  · have hq : ∀ w, (binOp .eql 23 (.slice none 0 0) (.slice none 0 0)).run Try.prog w = .ok (.bool true) w := fun w => by kernel_rfl
    go_enter Try.func75, Try.ntmps75
    go_wp2_with fail
    go_ret
    exact ⟨⟨_, rfl, World.ownsRow_nil _ _ _ _⟩, Below.refl _ _⟩
  · have HS : Hid (Src w (.slice (some ad) bs.length cap) bs ∧ bs.length ≤ 9000000) := ⟨.inr ⟨ad, cap, rfl, hcap, hC⟩, hl⟩
    obtain ⟨L, hL⟩ : ∃ L, bs.length = L := ⟨_, rfl⟩
    have HL : Hid (bs.length = L) := hL
    rw [hL] at HS ⊢
    have hq : ∀ w, (binOp .eql 23 (.slice (some ad) L cap) (.slice none 0 0)).run Try.prog w = .ok (.bool false) w := fun w => by kernel_rfl
    clear hcap hC hl hL
    go_enter Try.func75, Try.ntmps75
    go_wp2_with (at_builtin; (refine wpList_append_src rfl (.tmp 5) (.tmp 6) rfl w.heap.size (.slice (some ⟨w.heap.size, 0, none⟩) 0 0) 0 [] rfl (World.ownsRow_lit w #[] 0 (Nat.le_refl _) (by decide) rfl) (.slice (some ad) L cap) bs rfl (HS.out.1.later (bel1 _ _)) (by have h1 := HS.out.2; have h2 := HL.out; omega) (by simp) ?_; intro v' w' ho' hg'))
    go_ret
    refine ⟨⟨_, rfl, ?_⟩, (bel1 _ _).grown hg' (by simp) ?_⟩
    · have h := ho'
      rw [Nat.zero_add, List.nil_append, HL.out] at h
      exact h
    · intro q hq'
      simp [Value.ownBlock] at hq'
      omega


set_option maxRecDepth 20000 in
set_option maxHeartbeats 4000000 in
theorem read_one (D base B F : Nat) (s : Int) (dv bv : Value) (zs bg : List Int) (w : World) (h : One w D base B F s dv bv zs bg) (hl : zs.length ≤ 9000000) :
    Calls Try.prog 83 #[.pointer (some ⟨D, 0, none⟩), .string ⟨#[97]⟩] w fun e w' => (∃ v', e = .returned (.tuple #[v', .int .i64 0]) ∧ w'.ownsRow w.heap.size 5 1 v' zs.length (u8l zs)) ∧ Below w.heap.size w w' := by
  obtain ⟨da, dc, hdv⟩ := own_slice h.data
  have cD : w.cell? ⟨D, 0, none⟩ = some (.map (some B)) := by rw [cell_of_row _ _ _ _ _ _ h.disk]; rfl
  have cF : w.cell? ⟨F, 0, none⟩ = some dv := by rw [cell_of_row _ _ _ _ _ _ h.file]; rfl
  have HFI : Hid (Calls Try.prog 74 #[.pointer (some ⟨D, 0, none⟩), .string ⟨#[97]⟩] w fun e w' => e = .returned (.tuple #[.pointer (some ⟨F, 0, none⟩), .int .i64 0]) ∧ w' = w) := find_some D _ B 1 0 _ _ w cD h.map fnd_a
  have HC : Hid (Calls Try.prog 75 #[dv] w fun e w' => (∃ v', e = .returned v' ∧ w'.ownsRow w.heap.size 5 1 v' zs.length (u8l zs)) ∧ Below w.heap.size w w') := clone_any dv zs w (own_src h.data) hl
  obtain ⟨M, hM⟩ : ∃ M, zs.length = M := ⟨_, rfl⟩
  rw [hM] at hdv HC ⊢
  rw [hdv] at cF HC
  clear h hl hdv hM
  go_enter Try.func83, Try.ntmps83
  go_wp2_with (first | (go_at_call 74; refine HFI.out.mono ?_; rintro e w1 ⟨rfl, hw1⟩; rw [hw1]; clear hw1) | (go_at_call 75; refine HC.out.mono ?_; rintro e w2 ⟨⟨v2, rfl, ho2⟩, hb2⟩; (have H2 : Hid (w2.ownsRow w.heap.size 5 1 v2 M (u8l zs) ∧ Below w.heap.size w w2) := ⟨ho2, hb2⟩); clear ho2 hb2))
  go_ret2
  exact ⟨⟨_, rfl, H2.out.1⟩, H2.out.2⟩
end Go.Proofs.Ytflhgphjkhplmaa

/- Bytes as they lie, wherever they came from; parts of them; a clone; whether two are the same. -/
namespace Go.Proofs.Ytflhgphjkhplmaa.W
open Go.RowKit
set_option linter.unusedVariables false
set_option linter.unusedSimpArgs false

/-- Bytes as they lie. -/
structure Bz (w : World) (v : Value) (zs : List Int) : Prop where
  byt : Byt zs
  small : zs.length ≤ 2000000
  ex : ∃ a c, v = .slice a zs.length c ∧ zs.length ≤ c ∧ (a = none → c = 0) ∧ ∀ i x, zs[i]? = some x → ∃ b off, a = some ⟨b, off, none⟩ ∧ w.cell? ⟨b, off + i, none⟩ = some (.int .u8 x)
variable {w w' : World} {v : Value} {zs : List Int}
theorem Bz.newer (h : Bz w v zs) (hb : Below w.heap.size w w') : Bz w' v zs := by
  obtain ⟨a, c, h1, h2, h3, h4⟩ := h.ex
  refine ⟨h.byt, h.small, a, c, h1, h2, h3, fun i x hi => ?_⟩
  obtain ⟨b, off, e, hc⟩ := h4 i x hi
  exact ⟨b, off, e, (hb.cell (World.block_lt_of_cell? w _ hc)).trans hc⟩
theorem Bz.src (h : Bz w v zs) : Src w v zs := by
  obtain ⟨a, c, h1, h2, h3, h4⟩ := h.ex
  cases a with
  | none =>
    have hc := h3 rfl
    have : zs = [] := List.eq_nil_of_length_eq_zero (by omega)
    subst this
    subst hc
    exact .inl ⟨h1, rfl⟩
  | some ad =>
    refine .inr ⟨ad, c, h1, h2, fun j u hu => ?_⟩
    obtain ⟨x, hx, rfl⟩ : ∃ x, zs[j]? = some x ∧ Value.int .u8 x = u := by
      have : (u8l zs)[j]? = zs[j]?.map (Value.int .u8) := by simp [u8l]
      rw [this] at hu
      simpa using hu
    obtain ⟨b, off, e, hc⟩ := h4 j x hx
    obtain rfl := Option.some.inj e
    rw [Addr.add_mid]
    exact hc
theorem own_bz {base : Nat} (h : w.ownsRow base 5 1 v zs.length (u8l zs)) (hz : Byt zs) (hs : zs.length ≤ 2000000) : Bz w v zs := by
  rcases h.2 with ⟨h1, h2⟩ | ⟨g, cap, cur, h1, _, _, h3, _⟩
  · have : zs = [] := List.eq_nil_of_length_eq_zero h2
    subst this
    exact ⟨hz, hs, none, 0, h1, Nat.zero_le _, fun _ => rfl, fun i x hi => by simp at hi⟩
  · refine ⟨hz, hs, some ⟨g, 0, none⟩, cap, h1, h3, fun e => (nomatch e), fun i x hi => ⟨g, 0, rfl, ?_⟩⟩
    have h6 := h.cells (g := g) (by rw [h1]; rfl) i (.int .u8 x) (by rw [u8l, List.getElem?_map, hi]; rfl)
    rw [Addr.add_mid] at h6
    exact h6
/-- A part. -/
theorem Bz.cut {a : Option Addr} {n c : Nat} (h : Bz w (.slice a n c) zs) (i j : Nat) (hij : i ≤ j) (hj : j ≤ zs.length) : Bz w (.slice (if c = i then a else a.map (fun x => x.add i)) (j - i) (c - i)) ((zs.drop i).take (j - i)) := by
  obtain ⟨a', c', h1, h2, h3, h4⟩ := h.ex
  cases h1
  have hl : ((zs.drop i).take (j - i)).length = j - i := by simp; omega
  refine ⟨fun x hx => h.byt x (List.mem_of_mem_drop (List.mem_of_mem_take hx)), by have := h.small; omega, _, _, by rw [hl], by omega, fun e => ?_, fun k x hk => ?_⟩
  · split at e
    · rename_i hc; omega
    · cases a with
      | none => have := h3 rfl; omega
      | some ad => simp at e
  · have hk' : k < j - i := by have := (List.getElem?_eq_some_iff.1 hk).1; omega
    rw [List.getElem?_take_of_lt hk', List.getElem?_drop] at hk
    obtain ⟨b, off, e, hc⟩ := h4 (i + k) x hk
    subst e
    rw [if_neg (by omega)]
    exact ⟨b, off + i, by rw [Option.map_some, Addr.add_mid], by rw [Nat.add_assoc]; exact hc⟩
theorem Bz.cut0 {a : Option Addr} {n c : Nat} (h : Bz w (.slice a n c) zs) (j : Nat) (hj : j ≤ zs.length) : Bz w (.slice a j c) (zs.take j) := by
  obtain ⟨a', c', h1, h2, h3, h4⟩ := h.ex
  cases h1
  have hl : (zs.take j).length = j := by simp; omega
  refine ⟨fun x hx => h.byt x (List.mem_of_mem_take hx), by have := h.small; omega, _, _, by rw [hl], by omega, h3, fun k x hk => ?_⟩
  have hk' : k < j := by have := (List.getElem?_eq_some_iff.1 hk).1; omega
  rw [List.getElem?_take_of_lt hk'] at hk
  exact h4 k x hk
theorem Bz.row (h : Bz w v zs) (h0 : 0 < zs.length) : ∃ b off c, v = .slice (some ⟨b, off, none⟩) zs.length c ∧ zs.length ≤ c ∧ BRow w b off zs := by
  obtain ⟨a, c, h1, h2, h3, h4⟩ := h.ex
  obtain ⟨b, off, e, -⟩ := h4 0 zs[0] (List.getElem?_eq_getElem h0)
  refine ⟨b, off, c, by rw [h1, e], h2, fun i hi => ?_, h.byt, by have := h.small; omega⟩
  obtain ⟨b', off', e', hc⟩ := h4 i zs[i] (List.getElem?_eq_getElem hi)
  rw [e] at e'
  cases e'
  rw [hc, List.getD_eq_getElem?_getD, List.getElem?_eq_getElem hi]
  rfl
def strB (zs : List Int) : List UInt8 := zs.map fun x => UInt8.ofNat x.toNat
theorem conv_cells (w : World) (ad : Addr) (cap : Nat) (zs : List Int) (hz : Byt zs) (hC : ∀ j u, (u8l zs)[j]? = some u → w.cell? (ad.add j) = some u) :
    (convert 23 9 (.slice (some ad) zs.length cap)).run Try.prog w = .ok (.string ⟨(strB zs).toArray⟩) w := by
  have h := run_convert_bytes_back (P := Try.prog) w 23 9 5 ad cap (strB zs) Try.underlying23 Try.underlying5 Try.underlying9 (fun j hj => by
    unfold strB at hj ⊢
    rw [List.length_map] at hj
    have hb := hz (zs.getD j 0) (by rw [List.getD_eq_getElem?_getD, List.getElem?_eq_getElem hj]; exact List.getElem_mem _)
    rw [List.getD_eq_getElem?_getD, List.getElem?_eq_getElem hj] at hb
    simp only [Option.getD_some] at hb
    refine hC j _ ?_
    unfold u8l
    rw [List.getElem?_map, List.getElem?_eq_getElem hj, List.getElem_map, UInt8.toNat_ofNat_of_lt' (by show _ < 256; omega)]
    simp only [Option.map_some, Option.some.injEq, Value.int.injEq, true_and]
    omega)
  unfold strB at h
  rw [List.length_map] at h
  exact h
/-- Bytes as a text. -/
theorem Src.conv {w : World} {sv : Value} {bs : List Int} (h : Src w sv bs) (hb : Byt bs) : (convert 23 9 sv).run Try.prog w = .ok (.string ⟨(strB bs).toArray⟩) w := by
  rcases h with ⟨rfl, rfl⟩ | ⟨ad, cap, rfl, _, hC⟩
  · exact (show (convert 23 9 (.slice none 0 0)).run Try.prog w = .ok (.string ⟨#[]⟩) w by kernel_rfl)
  · exact conv_cells w ad cap bs hb hC
theorem strB_inj {a b : List Int} (ha : Byt a) (hb : Byt b) (h : strB a = strB b) : a = b := by
  induction a generalizing b with
  | nil => cases b with
    | nil => rfl
    | cons y b => simp [strB] at h
  | cons x a ih => cases b with
    | nil => simp [strB] at h
    | cons y b =>
      simp only [strB, List.map_cons, List.cons.injEq] at h
      have hx := ha x (List.mem_cons_self ..)
      have hy := hb y (List.mem_cons_self ..)
      have h1 := congrArg UInt8.toNat h.1
      rw [UInt8.toNat_ofNat_of_lt' (by show _ < 256; omega), UInt8.toNat_ofNat_of_lt' (by show _ < 256; omega)] at h1
      rw [ih (fun c hc => ha c (List.mem_cons_of_mem _ hc)) (fun c hc => hb c (List.mem_cons_of_mem _ hc)) h.2]
      congr 1
      omega

def bT (bs : List Int) : ByteArray := ⟨(strB bs).toArray⟩
theorem bT_eq {a b : List Int} (ha : Byt a) (hb : Byt b) : ((bT a).toList == (bT b).toList) = decide (a = b) := by
  unfold bT
  rw [ByteArray.toList_mk, ByteArray.toList_mk, Bool.eq_iff_iff]
  simp only [beq_iff_eq, decide_eq_true_eq]
  exact ⟨strB_inj ha hb, fun e => by rw [e]⟩
theorem Bz.conv (h : Bz w v zs) (W : World) (hW : Below w.heap.size w W) : (convert 23 9 v).run Try.prog W = .ok (.string (bT zs)) W := Src.conv (h.newer hW).src h.byt
end Go.Proofs.Ytflhgphjkhplmaa.W
