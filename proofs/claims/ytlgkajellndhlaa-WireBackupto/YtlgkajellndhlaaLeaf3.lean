/- The small functions of writing: bytes behind bytes. -/
import Derived.Test.YtlgkajellndhlaaLeaf2
namespace Go.Proofs.Ytlgkajellndhlaa
open Go.RowKit
set_option linter.unusedVariables false
set_option linter.unusedSimpArgs false

theorem or_head (a t : Int) (a0 : 0 ≤ a) (a1 : a ≤ 536870911) (t0 : 0 ≤ t) (t1 : t < 8) : bits .or .u64 (a * 8) t = a * 8 + t := by
  obtain ⟨m, rfl⟩ := Int.eq_ofNat_of_zero_le a0
  obtain ⟨n, rfl⟩ := Int.eq_ofNat_of_zero_le t0
  have h := bits_or_u64_nat (m * 8) n (by omega) (by omega)
  have h2 := Nat.two_pow_add_eq_or_of_lt (i := 3) (b := n) (by omega) m
  rw [show m * 8 = 2 ^ 3 * m from by omega, ← h2] at h
  rw [show ((m : Int) * 8) = ((2 ^ 3 * m : Nat) : Int) by omega, h]
  omega
set_option maxRecDepth 100000 in
theorem head_any (num typ : Int) (n : Int) (sa : Option Addr) (l c : Nat) (w : World) (h1 : 1 ≤ num) (h2 : num ≤ 536870911) (t0 : 0 ≤ typ) (t1 : typ < 8) :
    Calls Try.prog 34 #[.agg #[.int .i64 num, .int .i64 typ, .int .u64 n, .slice sa l c]] w fun e w' => e = .returned (.int .u64 (num * 8 + typ)) ∧ Below w.heap.size w w' := by
  have ho := or_head num typ (by omega) h2 t0 t1
  go_enter Try.func34, Try.ntmps34
  go_wp2
  go_ret
  exact ⟨rfl, bel1 _ _⟩

set_option maxRecDepth 20000 in
set_option maxHeartbeats 1000000 in
theorem appendVarint_any (base : Nat) (v : Value) (n : Nat) (xs : List Value) (m : Int) (w : World) (m0 : 0 ≤ m) (m1 : m < 18446744073709551616) (ho : w.ownsRow base 5 1 v n xs) (hb : base ≤ w.heap.size) (hn : n ≤ 90000000) :
    Calls Try.prog 35 #[v, .int .u64 m] w fun e w' => (∃ v', e = .returned v' ∧ w'.ownsRow base 5 1 v' (n + (vN m.toNat).length) (xs ++ u8l (vN m.toNat)) ∧ Gr v w v' w') := by
  have HO : Hid (w.ownsRow base 5 1 v n xs) := ho
  have HB : Hid (base ≤ w.heap.size ∧ n ≤ 90000000) := ⟨hb, hn⟩
  have HM : Hid (0 ≤ m ∧ m < 18446744073709551616) := ⟨m0, m1⟩
  clear ho hb hn
  go_enter Try.func35, Try.ntmps35
  go_wp2_with fail
  go_loopw [0, 1] (fun x y wr => ∃ (q : Int) (k : Nat) (ys : List Value), 0 ≤ q ∧ q ≤ m ∧ y = .int .u64 q ∧ wr.ownsRow base 5 1 x k ys ∧ ys ++ u8l (vN q.toNat) = xs ++ u8l (vN m.toNat) ∧ k + (vN q.toNat).length = n + (vN m.toNat).length ∧ Gr v w x wr) (fun x y wr => (intOf y).toNat)
  case atStart => exact ⟨m, n, xs, HM.out.1, Int.le_refl _, rfl, HO.out, rfl, rfl, Gr.refl _ _⟩
  case round =>
    obtain ⟨q, k, ys, q0, qm, rfl, hown, hxs, hlen, hbel⟩ := hrel
    have HOW : Hid (wr.ownsRow base 5 1 u0 k ys) := hown
    have HX : Hid (ys ++ u8l (vN q.toNat) = xs ++ u8l (vN m.toNat) ∧ k + (vN q.toNat).length = n + (vN m.toNat).length ∧ Gr v w u0 wr) := ⟨hxs, hlen, hbel⟩
    have hq : q < 18446744073709551616 := by omega
    have HK : Hid (k ≤ 100000000) := by
      have h1 := vN_le10 m.toNat (by have := HM.out; omega)
      have h2 := HB.out
      show k ≤ _
      omega
    have HBW : Hid (base ≤ wr.heap.size) := Nat.le_trans HB.out.1 hbel.size
    clear hown hxs hlen hbel
    by_cases hlt : q < 128
    · have e8 : q % 256 = q := by omega
      go_wp2_with (at_builtin; (refine wpList_append_one rfl (.tmp 15) (.tmp 18) rfl base u0 k ys rfl wr HOW.out _ rfl rfl HK.out HBW.out ?_; intro g' c' w' ho' hb'))
      go_ret
      have hv := vN_lo (n := q.toNat) (by omega)
      have hx := HX.out
      rw [hv] at hx
      refine ⟨_, rfl, ?_, hx.2.2.trans hb'⟩
      rw [← hx.1, ← hx.2.1]
      simpa [show ((q.toNat : Nat) : Int) = q by omega, e8] using ho'
    · have e8 : bits .or .u8 (q % 256) 128 = q % 128 + 128 := by
        have all : ∀ z : Fin 256, bits .or .u8 (z.val : Int) 128 = (z.val : Int) % 128 + 128 := by decide +kernel
        have h := all ⟨(q % 256).toNat, by omega⟩
        simp only at h
        rw [show (((q % 256).toNat : Nat) : Int) = q % 256 by omega] at h
        rw [h]
        omega
      go_wp2_with (at_builtin; (refine wpList_append_one rfl (.tmp 7) (.tmp 11) rfl base u0 k ys rfl wr HOW.out _ rfl rfl HK.out HBW.out ?_; intro g' c' w' ho' hb'; (have HO2 : Hid (w'.ownsRow base 5 1 (.slice (some ⟨g', 0, none⟩) (k + 1) c') (k + 1) (ys ++ u8l [q % 128 + 128])) := ho'); (have HB2 : Hid (Gr u0 wr (.slice (some ⟨g', 0, none⟩) (k + 1) c') w') := hb'); clear ho' hb'))
      go_roundw
      case rel =>
        have hv := vN_hi (n := q.toNat) (by omega)
        have hx := HX.out
        rw [hv] at hx
        refine ⟨q / 128, k + 1, _, by omega, by omega, rfl, HO2.out, ?_, ?_, hx.2.2.trans HB2.out⟩
        · rw [← hx.1, List.append_assoc, u8l_app]
          rw [show (q / 128).toNat = q.toNat / 128 by omega, show ((q.toNat % 128 + 128 : Nat) : Int) = q % 128 + 128 by omega]
          rfl
        · rw [← hx.2.1, List.length_cons, show (q / 128).toNat = q.toNat / 128 by omega]
          omega
      case measure => simp [intOf]; omega

set_option maxRecDepth 20000 in
set_option maxHeartbeats 1000000 in
theorem appendNumber_any (base : Nat) (v : Value) (n : Nat) (xs : List Value) (m : Int) (K : Nat) (w : World) (m0 : 0 ≤ m) (m1 : m < 18446744073709551616) (ho : w.ownsRow base 5 1 v n xs) (hb : base ≤ w.heap.size) (hn : n ≤ 90000000) (hK : (K : Int) ≤ 8) :
    Calls Try.prog 36 #[v, .int .u64 m, .int .i64 (K : Int)] w fun e w' => (∃ v', e = .returned v' ∧ w'.ownsRow base 5 1 v' (n + K) (xs ++ u8l (leN m.toNat K)) ∧ Gr v w v' w') := by
  have HO : Hid (w.ownsRow base 5 1 v n xs) := ho
  have HB : Hid (base ≤ w.heap.size ∧ n ≤ 90000000) := ⟨hb, hn⟩
  clear ho hb hn
  go_enter Try.func36, Try.ntmps36
  go_wp2_with fail
  go_loopw [0, 1, 8] (fun x y i wr => ∃ (q : Int) (k : Nat) (ys : List Value), 0 ≤ q ∧ q < 18446744073709551616 ∧ k ≤ K ∧ y = .int .u64 q ∧ i = .int .i64 (k : Int) ∧ wr.ownsRow base 5 1 x (n + k) ys ∧ ys ++ u8l (leN q.toNat (K - k)) = xs ++ u8l (leN m.toNat K) ∧ Gr v w x wr) (fun x y i wr => K - (intOf i).toNat)
  case atStart => exact ⟨m, 0, xs, m0, m1, by omega, rfl, rfl, HO.out, rfl, Gr.refl _ _⟩
  case round =>
    obtain ⟨q, k, ys, q0, q1, hk, rfl, rfl, hown, hxs, hbel⟩ := hrel
    have HOW : Hid (wr.ownsRow base 5 1 u0 (n + k) ys) := hown
    have HX : Hid (ys ++ u8l (leN q.toNat (K - k)) = xs ++ u8l (leN m.toNat K) ∧ Gr v w u0 wr) := ⟨hxs, hbel⟩
    have HBW : Hid (base ≤ wr.heap.size ∧ n + k ≤ 100000000) := ⟨Nat.le_trans HB.out.1 hbel.size, by have := HB.out.2; omega⟩
    clear hown hxs hbel
    by_cases hlt : k < K
    · go_wp2_with (at_builtin; (refine wpList_append_one rfl (.tmp 10) (.tmp 13) rfl base u0 (n + k) ys rfl wr HOW.out _ rfl rfl HBW.out.2 HBW.out.1 ?_; intro g' c' w' ho' hb'; (have HO2 : Hid (w'.ownsRow base 5 1 (.slice (some ⟨g', 0, none⟩) (n + k + 1) c') (n + k + 1) (ys ++ u8l [q % 256])) := ho'); (have HB2 : Hid (Gr u0 wr (.slice (some ⟨g', 0, none⟩) (n + k + 1) c') w') := hb'); clear ho' hb'))
      go_roundw
      case rel =>
        refine ⟨q / 256, k + 1, _, by omega, by omega, by omega, rfl, by go_num, HO2.out, ?_, HX.out.2.trans HB2.out⟩
        rw [← HX.out.1, List.append_assoc, u8l_app, show K - k = (K - (k + 1)) + 1 by omega]
        simp only [leN]
        rw [show (q / 256).toNat = q.toNat / 256 by omega, show ((q.toNat % 256 : Nat) : Int) = q % 256 by omega]
        rfl
      case measure => simp [intOf]; omega
    · have hkK : k = K := by omega
      subst hkK
      go_wp2_with fail
      go_ret
      refine ⟨_, rfl, ?_, HX.out.2⟩
      rw [← HX.out.1, Nat.sub_self]
      simpa [leN, u8l] using HOW.out
end Go.Proofs.Ytlgkajellndhlaa
