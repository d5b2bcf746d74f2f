import Derived.Test.YtflhgphjkhplmaaMN03
import Derived.BigQuiet
import Derived.WalkKit
import Derived.RangeFuncNested
import Derived.RangeFuncBound
import Derived.RangeFuncCalls
import Derived.RangeFuncLeaves
/- The model's sum; the model's frame. -/
namespace Go.Proofs.Ytflhgphjkhplmaa.W
open Go.RowKit
set_option linter.unusedVariables false
set_option linter.unusedSimpArgs false

variable {w w' : World} {v : Value} {zs : List Int}
set_option maxHeartbeats 1000000 in
theorem rsum_row (b off len cap : Nat) (zs : List Int) (w : World) (hl : len ≤ zs.length) (hm : (len : Int) ≤ 9223372036854775806) (hz : Byt zs)
    (hc : ∀ i, i < len → w.cell? ⟨b, off + i, none⟩ = some (.int .u8 (zs.getD i 0))) :
    Calls Try.prog 37 #[.slice (some ⟨b, off, none⟩) len cap] w fun e w' => e = .returned (.int .u32 (cpI (crI (zs.take len) 4294967295))) ∧ w' = w := by
  go_enter Try.func37, Try.ntmps37
  go_wp2
  go_loop [3, 4] (fun s i => ∃ k : Nat, k ≤ len ∧ i = .int .i64 k ∧ s = .int .u32 (crI (zs.take k) 4294967295)) (fun _ i => len - (intOf i).toNat)
  case atStart => exact ⟨0, Nat.zero_le _, rfl, rfl⟩
  case round =>
    obtain ⟨k, hk, rfl, rfl⟩ := hrel
    obtain ⟨b0, b1⟩ := cr_bd (zs.take k) (byt_take hz k) 4294967295 (by omega) (by omega)
    by_cases hlt : k < len
    · have hck := hc k hlt
      obtain ⟨z0, z1⟩ := byt_at hz k (by omega)
      have HT : Hid (crI (zs.take (k + 1)) 4294967295 = byI (bits .xor .u32 (crI (zs.take k) 4294967295) (zs.getD k 0))) := by
        show _ = _
        rw [take_snoc zs k (by omega), cr_snoc]
      clear hc
      generalize crI (zs.take k) 4294967295 = S at b0 b1 HT ⊢
      generalize zs.getD k 0 = z at hck z0 z1 HT
      obtain ⟨y0, y1⟩ := xor_bd S z b0 b1 z0 (by omega)
      go_wp2
      generalize bits BinOp.xor IntKind.u32 S z = X at y0 y1 HT ⊢
      go_loop [3, 5] (fun s i => ∃ j : Nat, j ≤ 8 ∧ i = .int .i64 j ∧ s = .int .u32 (stN j X)) (fun _ i => 8 - (intOf i).toNat)
      case atStart => exact ⟨0, by omega, rfl, rfl⟩
      case round =>
        obtain ⟨j, hj, rfl, rfl⟩ := hrel
        obtain ⟨d0, d1⟩ := stN_bd X y0 y1 j
        have HS : Hid (stN (j + 1) X = stI (stN j X)) := rfl
        by_cases hlt8 : j < 8
        · have hlt' : (j : Int) < 8 := by omega
          generalize stN j X = x at d0 d1 HS
          have hlo := low_bit x d0 d1
          by_cases c : x % 2 = 1
          · have c' : (x % 2 == 1) = true := by simpa using c
            have HX : Hid (stI x = bits .xor .u32 (x / 2) 2197175160) := by show _ = _; unfold stI; rw [if_pos c]
            clear c
            go_wp2
            go_round
            case rel => exact ⟨j + 1, by omega, by go_num, by rw [HS.out, HX.out]⟩
            case measure => simp [intOf]; omega
          · have c' : (x % 2 == 1) = false := by simpa using c
            have HX : Hid (stI x = x / 2) := by show _ = _; unfold stI; rw [if_neg c]
            clear c
            go_wp2
            go_round
            case rel => exact ⟨j + 1, by omega, by go_num, by rw [HS.out, HX.out]⟩
            case measure => simp [intOf]; omega
        · have : j = 8 := by omega
          subst this
          go_wp2
          go_round
          case rel => exact ⟨k + 1, by omega, by go_num, by rw [HT.out, stN_8]⟩
          case measure => simp [intOf]; omega
    · have : k = len := by omega
      subst this
      go_wp2
      go_ret
      exact ⟨rfl, rfl⟩


theorem rbsum_any (h : Bz w v zs) (h0 : 0 < zs.length) : Calls Try.prog 37 #[v] w fun e w' => e = .returned (.int .u32 (smI zs)) ∧ w' = w := by
  obtain ⟨b, off, c, rfl, -, hR⟩ := h.row h0
  have := rsum_row b off zs.length c zs w (Nat.le_refl _) (by have := h.small; omega) h.byt (fun i hi => hR.cell i hi)
  rwa [List.take_length] at this
theorem src_lit (w : World) (xs : List Int) : Src (w.alloc (.cells (u8l xs).toArray 5)) (.slice (some ⟨w.heap.size, 0, none⟩) xs.length xs.length) xs :=
  .inr ⟨⟨w.heap.size, 0, none⟩, xs.length, rfl, Nat.le_refl _, fun j u hu => by
    rw [Addr.add_mid, Nat.zero_add, cell_of_row _ _ _ _ _ _ (Go.heap_alloc_new _ _)]
    simpa using hu⟩
theorem leN_four (S : Nat) : leN S 4 = [((S % 256 : Nat) : Int), ((S / 256 % 256 : Nat) : Int), ((S / 65536 % 256 : Nat) : Int), ((S / 16777216 % 256 : Nat) : Int)] := by
  simp only [leN, Nat.div_div_eq_div_mul]
set_option maxRecDepth 20000 in
set_option maxHeartbeats 4000000 in
theorem rframe_any {bs : List Int} (seq : Nat) (hs : seq < 18446744073709551616) (hS : Src w v bs) (hz : Byt bs) (hl : bs.length ≤ 4000000) :
    Calls Try.prog 9 #[.int .u64 (seq : Int), v] w fun e w' => (∃ v', e = .returned (.tuple #[v', .int .i64 (frE seq bs.length)]) ∧ (frE seq bs.length = 0 → w'.ownsRow w.heap.size 5 1 v' (frI seq bs).length (u8l (frI seq bs))) ∧ (frE seq bs.length ≠ 0 → v' = .slice none 0 0)) ∧ Below w.heap.size w w' := by
  obtain ⟨a, c, rfl⟩ := hS.slice
  obtain ⟨n, hn⟩ : ∃ n, bs.length = n := ⟨_, rfl⟩
  obtain ⟨y, hy⟩ : ∃ y : Int, (seq : Int) = y := ⟨_, rfl⟩
  by_cases c1 : seq = 0
  · have : frE seq bs.length = 1 := by unfold frE; rw [if_pos c1]
    rw [this]
    subst c1
    go_enter Try.func9, Try.ntmps9
    go_wp2_with fail
    go_ret2
    exact ⟨⟨_, rfl, fun h => by omega, fun _ => rfl⟩, Below.refl _ _⟩
  · have c1' : ¬ y = 0 := by omega
    by_cases c2 : 65536 < n
    · have : frE seq bs.length = 4 := by unfold frE; rw [if_neg c1, if_pos (by omega)]
      rw [this, hy, hn]
      have c2' : (65536 : Int) < (n : Int) := by omega
      have hl' : (n : Int) ≤ 4000000 := by omega
      clear this hy hn hl hS c2 c1
      go_enter Try.func9, Try.ntmps9
      go_wp2_with fail
      go_ret2
      exact ⟨⟨_, rfl, fun h => by omega, fun _ => rfl⟩, Below.refl _ _⟩
    · have he : frE seq bs.length = 0 := by unfold frE; rw [if_neg c1, if_neg (by omega)]
      rw [he, hy, hn]
      have c2' : ¬ (65536 : Int) < (n : Int) := by omega
      have H0 : Hid (Src w (.slice a n c) bs ∧ Byt bs ∧ bs.length = n ∧ n ≤ 65536 ∧ (seq : Int) = y ∧ seq < 18446744073709551616 ∧ 0 ≤ y ∧ y < 18446744073709551616 ∧ y.toNat = seq) := ⟨by rw [← hn]; exact hS, hz, hn, by omega, hy, hs, by omega, by omega, by omega⟩
      have HP1 : Hid (Calls Try.prog 36 #[.slice none 0 0, .int .u64 y] w fun e w1 => (∃ v1, e = .returned v1 ∧ Hid (w1.ownsRow w.heap.size 5 1 v1 (vN seq).length (u8l (vN seq)) ∧ Below w.heap.size w w1))) := by
        refine (put_any (.slice none 0 0) [] y w H0.out.2.2.2.2.2.2.1 H0.out.2.2.2.2.2.2.2.1 (.inl ⟨rfl, rfl⟩) (by simp)).mono ?_
        rintro e w1 ⟨⟨v1, rfl, ho1⟩, hb1⟩
        exact ⟨v1, rfl, by have h := ho1; rw [List.nil_append, H0.out.2.2.2.2.2.2.2.2] at h; exact h, hb1⟩
      have HP2 : Hid (∀ w1 v1, Hid (w1.ownsRow w.heap.size 5 1 v1 (vN seq).length (u8l (vN seq)) ∧ Below w.heap.size w w1) → Calls Try.prog 36 #[v1, .int .u64 (n : Int)] w1 fun e w2 => (∃ v2, e = .returned v2 ∧ Hid (w2.ownsRow w.heap.size 5 1 v2 (vN seq ++ vN n).length (u8l (vN seq ++ vN n)) ∧ Below w.heap.size w w2))) := fun w1 v1 H1 => by
        refine (put_any v1 (vN seq) (n : Int) w1 (by omega) (by have := H0.out; omega) (own_src H1.out.1) (by have := vN_le10 seq H0.out.2.2.2.2.2.1; omega)).mono ?_
        rintro e w2 ⟨⟨v2, rfl, ho2⟩, hb2⟩
        exact ⟨v2, rfl, by have h := ho2; rw [Int.toNat_natCast] at h; exact own_low h H1.out.2.size, H1.out.2.trans (hb2.mono H1.out.2.size)⟩
      obtain ⟨N, hN⟩ : ∃ N, (hdI seq bs).length = N := ⟨_, rfl⟩
      have hdl := hdI_len (b := bs) hs (by omega)
      rw [hN] at hdl
      obtain ⟨s0, s1⟩ := smI_bd (hdI_byt (seq := seq) hz)
      obtain ⟨S, hS2⟩ : ∃ S, (smI (hdI seq bs)).toNat = S := ⟨_, rfl⟩
      have HSM : Hid (∀ w3 a3 k3, Hid (w3.ownsRow w.heap.size 5 1 (.slice a3 N k3) N (u8l (hdI seq bs)) ∧ Below w.heap.size w w3) → Calls Try.prog 37 #[.slice a3 N k3] w3 fun e w' => e = .returned (.int .u32 (S : Int)) ∧ w' = w3) := fun w3 a3 k3 H3 => by
        have := rbsum_any (own_bz (v := .slice a3 N k3) (zs := hdI seq bs) (by rw [hN]; exact H3.out.1) (hdI_byt hz) (by omega)) (by omega)
        rwa [show smI (hdI seq bs) = (S : Int) by omega] at this
      have HN : Hid ((hdI seq bs).length = N ∧ N ≤ 65556 ∧ (smI (hdI seq bs)).toNat = S ∧ hdI seq bs = vN seq ++ vN n ++ bs ∧ (vN seq ++ vN n).length ≤ 20 ∧ (vN seq ++ vN n).length + n = N) := by
        have h1 := vN_le10 seq hs
        have h2 := vN_le10 n (by omega)
        refine ⟨hN, by omega, hS2, by unfold hdI; rw [hn], by simp only [List.length_append]; omega, ?_⟩
        rw [← hN]
        unfold hdI
        simp only [List.length_append, hn]
      have hl' : (n : Int) ≤ 65536 := by omega
      obtain ⟨s, hs'⟩ : ∃ s : Int, (S : Int) = s := ⟨_, rfl⟩
      have HS' : Hid ((S : Int) = s) := hs'
      have q0 : s < 4294967296 := by omega
      have q1 : 0 ≤ s := by omega
      rw [hs'] at HSM
      clear hs'
      clear hS hz hn hy he hl hs c1 c2 hN hdl s0 s1 hS2
      go_enter Try.func9, Try.ntmps9
      go_wp2_with (first
        | (go_at_call 36; refine HP1.out.mono ?_; rintro e w1 ⟨v1, rfl, H1⟩; clear HP1)
        | (go_at_call 36; refine (HP2.out w1 v1 H1).mono ?_; rintro e w2 ⟨v2, rfl, H2⟩; clear HP2)
        | (at_builtin; (refine wpList_append_src rfl (.tmp 21) (.tmp 22) rfl w.heap.size v2 _ (u8l (vN seq ++ vN n)) rfl H2.out.1 (.slice a n c) bs rfl (H0.out.1.later H2.out.2) (by have := HN.out; have := H0.out; omega) H2.out.2.size ?_; intro v3 w3 ho3 hg3; (have ho4 : w3.ownsRow w.heap.size 5 1 v3 N (u8l (hdI seq bs)) := by have h := ho3; rw [H0.out.2.2.1, HN.out.2.2.2.2.2, u8l_app, ← HN.out.2.2.2.1] at h; exact h); (obtain ⟨a3, k3, hv3⟩ := own_slice ho4); subst hv3; (have H3 : Hid (w3.ownsRow w.heap.size 5 1 (.slice a3 N k3) N (u8l (hdI seq bs)) ∧ Below w.heap.size w w3) := ⟨ho4, H2.out.2.grown hg3 H2.out.2.size (fun q hq => (H2.out.1.lt q hq).1)⟩); clear ho3 hg3 ho4))
        | (go_at_call 37; refine (HSM.out w3 a3 k3 H3).mono ?_; rintro e w4 ⟨rfl, hw4⟩; rw [hw4]; clear hw4 HSM)
        | (at_builtin; (refine wpList_append_src rfl (.tmp 26) (.tmp 38) rfl w.heap.size (.slice a3 N k3) N (u8l (hdI seq bs)) rfl (H3.out.1.alloc _) (.slice (some ⟨w3.heap.size, 0, none⟩) 4 4) [s % 256, s / 256 % 256, s / 65536 % 256, s / 16777216] rfl (show Src _ _ _ from src_lit w3 [s % 256, s / 256 % 256, s / 65536 % 256, s / 16777216]) (by have := HN.out; simp; omega) (Nat.le_trans H3.out.2.size (by simp)) ?_; intro v5 w5 ho5 hg5; (have H5 : Hid (w5.ownsRow w.heap.size 5 1 v5 (N + 4) (u8l (hdI seq bs) ++ u8l [s % 256, s / 256 % 256, s / 65536 % 256, s / 16777216]) ∧ Below w.heap.size w w5) := ⟨ho5, (H3.out.2.trans ((bel1 w3 _).mono H3.out.2.size)).grown hg5 (Nat.le_trans H3.out.2.size (by simp)) (fun q hq => (H3.out.1.lt q hq).1)⟩); clear ho5 hg5)))
      go_ret2
      refine ⟨⟨_, rfl, fun _ => ?_, fun h => absurd rfl h⟩, H5.out.2⟩
      have he := HS'.out
      have hf : frI seq bs = hdI seq bs ++ [s % 256, s / 256 % 256, s / 65536 % 256, s / 16777216] := by
        unfold frI
        rw [HN.out.2.2.1, leN_four]
        congr 1
        simp only [List.cons.injEq, and_true]
        omega
      rw [hf, List.length_append, HN.out.1, ← u8l_app]
      exact H5.out.1
end Go.Proofs.Ytflhgphjkhplmaa.W

/- The model's Get: where the layer's own Get reads a number, it reads the same one; else it answers an error. -/
namespace Go.Proofs.Ytflhgphjkhplmaa.W
open Go.RowKit
set_option linter.unusedVariables false
set_option linter.unusedSimpArgs false

variable {w w' : World} {v : Value} {zs : List Int}
theorem jv_small : ∀ (l : List Int), l.length ≤ 9 → jv l < (128 : Int) ^ l.length
  | [], _ => by simp [jv]
  | c :: l, h => by
    simp only [List.length_cons] at h
    have h1 := jv_small l (by omega)
    have h2 := (jv_bd l).1
    have hp : (128 : Int) ^ (l.length + 1) = 128 ^ l.length * 128 := Int.pow_succ _ _
    simp only [jv, List.length_cons]
    have h3 : jv l * 128 % 18446744073709551616 ≤ jv l * 128 := by omega
    rw [hp]
    omega
theorem jv_snoc : ∀ (l : List Int) (c : Int), l.length ≤ 9 → 0 ≤ c → (l.length = 9 → c ≤ 1) → jv (l ++ [c]) = jv l + (c % 128) * (128 : Int) ^ l.length
  | [], c, _, h0, _ => by simp [jv]
  | d :: l, c, h, h0, h9 => by
    simp only [List.length_cons] at h h9
    have ih := jv_snoc l c (by omega) h0 (fun e => by omega)
    have h1 := jv_small l (by omega)
    have h2 := (jv_bd l).1
    rw [List.cons_append, jv, jv, ih, List.length_cons, Int.pow_succ]
    have hk : l.length = 0 ∨ l.length = 1 ∨ l.length = 2 ∨ l.length = 3 ∨ l.length = 4 ∨ l.length = 5 ∨ l.length = 6 ∨ l.length = 7 ∨ l.length = 8 := by omega
    rcases hk with e | e | e | e | e | e | e | e | e <;> rw [e] at h1 ⊢ <;> simp only [Int.reducePow] at h1 ⊢
    all_goals first | omega | (have := h9 (by omega); omega)
theorem bits_or_mul (X d : Int) (K : Nat) (hK : K ≤ 9) (x0 : 0 ≤ X) (x1 : X < (128 : Int) ^ K) (d0 : 0 ≤ d) (d1 : d < 128) (d9 : K = 9 → d ≤ 1) : bits .or .u64 X (d * (128 : Int) ^ K) = X + d * (128 : Int) ^ K := by
  obtain ⟨m, rfl⟩ := Int.eq_ofNat_of_zero_le x0
  obtain ⟨n, rfl⟩ := Int.eq_ofNat_of_zero_le d0
  have hp : (128 : Nat) ^ K = 2 ^ (7 * K) := by rw [Nat.pow_mul]
  have hm : m < 2 ^ (7 * K) := by
    rw [← hp]
    have : ((m : Nat) : Int) < ((128 ^ K : Nat) : Int) := by rw [Int.natCast_pow]; exact x1
    omega
  have hb : m < 18446744073709551616 ∧ n * 128 ^ K < 18446744073709551616 := by
    rw [hp]
    have hk : K = 0 ∨ K = 1 ∨ K = 2 ∨ K = 3 ∨ K = 4 ∨ K = 5 ∨ K = 6 ∨ K = 7 ∨ K = 8 ∨ K = 9 := by omega
    rcases hk with e | e | e | e | e | e | e | e | e | e <;> subst e <;> simp only [Nat.reduceMul, Nat.reducePow] at hm ⊢
    all_goals first | omega | (have := d9 rfl; omega)
  have h := bits_or_u64_nat m (n * 128 ^ K) hb.1 hb.2
  have h2 := Nat.two_pow_add_eq_or_of_lt hm n
  have e : ((n * 128 ^ K : Nat) : Int) = (n : Int) * (128 : Int) ^ K := by rw [Int.natCast_mul, Int.natCast_pow]; rfl
  rw [e] at h
  rw [h, Nat.or_comm, hp, Nat.mul_comm n, ← h2, ← hp, Int.natCast_add, Nat.mul_comm, e, Int.add_comm]
theorem or_step (X x M : Int) (K : Nat) (hK : K ≤ 9) (hM : M = (128 : Int) ^ K) (x0 : 0 ≤ X) (x1 : X < (128 : Int) ^ K) (c0 : 0 ≤ x) (c1 : x ≤ 255) (c9 : K = 9 → x ≤ 1) :
    bits .or .u64 X (IntKind.u64.wrap (IntKind.u64.wrap (bits .and .u8 x 127) * M)) = X + (x % 128) * (128 : Int) ^ K := by
  rw [and_127 x c0 c1, hM]
  have e1 : IntKind.u64.wrap (x % 128) = x % 128 := by rw [IntKind.wrap_u64]; omega
  have e2 : IntKind.u64.wrap (x % 128 * (128 : Int) ^ K) = x % 128 * (128 : Int) ^ K := by
    rw [IntKind.wrap_u64]
    have hk : K = 0 ∨ K = 1 ∨ K = 2 ∨ K = 3 ∨ K = 4 ∨ K = 5 ∨ K = 6 ∨ K = 7 ∨ K = 8 ∨ K = 9 := by omega
    rcases hk with e | e | e | e | e | e | e | e | e | e <;> subst e <;> simp only [Int.reducePow]
    all_goals first | omega | (have := c9 rfl; omega)
  rw [e1, e2]
  exact bits_or_mul X (x % 128) K hK x0 x1 (by omega) (by omega) (fun e => by have := c9 e; omega)
theorem getI_err {zs : List Int} {at' : Nat} (h : scan (zs.drop at') = none ∨ ∃ n, scan (zs.drop at') = some n ∧ (10 < n ∨ (n = 10 ∧ 1 < zs.getD (at' + 9) 0))) : (getI zs at').2.2 ≠ 0 := by
  unfold getI
  rcases h with h | ⟨n, h, hn⟩
  · rw [h]; simp
  · rw [h]; simp only; rw [if_pos hn]; simp
set_option maxRecDepth 20000 in
set_option maxHeartbeats 4000000 in
theorem rget_any (h : Bz w v zs) (at' : Nat) (ha : at' ≤ zs.length) : Calls Try.prog 68 #[v, .int .i64 (at' : Int)] w fun e w' => (∃ x y z : Int, e = .returned (.tuple #[.int .u64 x, .int .i64 y, .int .i64 z]) ∧ ((getI zs at').2.2 = 0 → getI zs at' = (x, y, z)) ∧ ((getI zs at').2.2 ≠ 0 → z ≠ 0)) ∧ w' = w := by
  obtain ⟨a, c, hv, hc, -, hC⟩ := h.ex
  have hs := h.small
  have hb := h.byt
  subst hv
  obtain ⟨N, hN⟩ : ∃ N, zs.length = N := ⟨_, rfl⟩
  have H0 : Hid (zs.length = N ∧ Byt zs ∧ at' ≤ N) := ⟨hN, hb, by omega⟩
  have HC : Hid (∀ i x, zs[i]? = some x → ∃ b off, a = some ⟨b, off, none⟩ ∧ w.cell? ⟨b, off + i, none⟩ = some (.int .u8 x)) := hC
  rw [hN]
  have n1 : (N : Int) ≤ 2000000 := by omega
  have n2 : (at' : Int) ≤ (N : Int) := by omega
  clear h hc hC hs hb hN ha
  go_enter Try.func68, Try.ntmps68
  go_wp2_with fail
  go_loop [7, 8, 9] (fun n i cc => ∃ k : Nat, k ≤ 10 ∧ i = .int .i64 (k : Int) ∧ at' + k ≤ N ∧ n = .int .u64 (jv ((zs.drop at').take k)) ∧ Hid (scan (zs.drop at') = (scan (zs.drop (at' + k))).map (· + k))) (fun n i cc => 10 - (intOf i).toNat)
  case atStart => exact ⟨0, by omega, rfl, by omega, by simp [jv], by first | exact trivial | (show Hid _; simp; trivial)⟩
  case round =>
    obtain ⟨k, hk, rfl, hle, rfl, HS⟩ := hrel
    have hk' : k = 0 ∨ k = 1 ∨ k = 2 ∨ k = 3 ∨ k = 4 ∨ k = 5 ∨ k = 6 ∨ k = 7 ∨ k = 8 ∨ k = 9 ∨ k = 10 := by omega
    by_cases hlt : at' + k < N
    · obtain ⟨x, hx⟩ : ∃ x, zs[at' + k]? = some x := ⟨_, List.getElem?_eq_getElem (by have := H0.out.1; omega)⟩
      obtain ⟨b, off, rfl, hcell⟩ := HC.out _ x hx
      obtain ⟨x0, x1⟩ := H0.out.2.1 x (List.mem_of_getElem? hx)
      obtain ⟨X, hX⟩ : ∃ X, jv ((zs.drop at').take k) = X := ⟨_, rfl⟩
      have X0 : 0 ≤ X := by rw [← hX]; exact (jv_bd _).1
      rw [hX]
      have hK9 : k ≤ 9 ∨ k = 10 := by omega
      have hlen : ((zs.drop at').take k).length = k := by simp; have := H0.out.1; omega
      have hsn : (zs.drop at').take (k + 1) = (zs.drop at').take k ++ [x] := by rw [List.take_add_one, List.getElem?_drop, hx]; rfl
      have HJ : Hid (k ≤ 9 → (k = 9 → x ≤ 1) → jv ((zs.drop at').take (k + 1)) = X + (x % 128) * (128 : Int) ^ k ∧ X < (128 : Int) ^ k) := fun h9 hx9 => by
        have e := jv_snoc ((zs.drop at').take k) x (by omega) x0 (fun e => hx9 (by omega))
        have e2 := jv_small ((zs.drop at').take k) (by omega)
        rw [hlen, hX] at e e2
        rw [hsn]
        exact ⟨e, e2⟩
      have hD : zs.getD (at' + k) 0 = x := by rw [List.getD_eq_getElem?_getD, hx]; rfl
      have HGT : Hid (x < 128 → scan (zs.drop at') = some (k + 1)) := fun hc => by
        rw [HS.out, scan_hit zs (at' + k) (by have := H0.out.1; omega) (by rw [hD]; exact hc)]
        simp; omega
      have HGN : Hid (¬ x < 128 → scan (zs.drop at') = (scan (zs.drop (at' + (k + 1)))).map (· + (k + 1))) := fun hc => by
        rw [HS.out, scan_miss zs (at' + k) (by have := H0.out.1; omega) (by rw [hD]; exact hc), Option.map_map, show at' + k + 1 = at' + (k + 1) by omega]
        congr 1
        funext y
        simp
        omega
      have HD : Hid (zs.getD (at' + k) 0 = x ∧ 0 ≤ X ∧ at' + k < N) := ⟨hD, X0, hlt⟩
      clear hX X0 hlen hsn hD hx HS
      rcases hk' with rfl | rfl | rfl | rfl | rfl | rfl | rfl | rfl | rfl | rfl | rfl
      · have g1 : (at' : Int) + 0 < (N : Int) := by omega
        rw [Nat.add_zero] at hcell
        have g1' : (at' : Int) < (N : Int) := by omega
        clear g1
        clear hlt hle hk hK9
        have HV : Hid (bits .or .u64 X (IntKind.u64.wrap (IntKind.u64.wrap (bits .and .u8 x 127) * 1)) = jv ((zs.drop at').take (0 + 1))) := by
          show _ = _
          obtain ⟨j1, j2⟩ := HJ.out (by decide) (fun e => by omega)
          rw [j1]
          exact or_step X x 1 0 (by decide) (by decide) HD.out.2.1 j2 x0 x1 (fun e => by omega)
        by_cases hc : x < 128
        · have HG : Hid (getI zs at' = (jv ((zs.drop at').take (0 + 1)), ((at' + (0 + 1) : Nat) : Int), 0)) := by
            show _ = _
            unfold getI
            rw [HGT.out hc]
            simp only
            rw [if_neg]
            omega
          clear HGT HGN HJ
          go_wp2_with fail
          try rw [Exit.noGoto_ret]
          go_ret3
          refine ⟨⟨_, _, _, rfl, fun _ => ?_, fun h => absurd (by rw [HG.out]) h⟩, rfl⟩
          rw [HG.out, ← HV.out]
          simp only [Prod.mk.injEq]
          exact ⟨by first | rfl | simp, by first | (simp; done) | (simp; omega), by first | trivial | rfl⟩
        · have HN2 : Hid (scan (zs.drop at') = (scan (zs.drop (at' + (0 + 1)))).map (· + (0 + 1))) := HGN.out hc
          clear HGT HGN HJ
          go_wp2_with fail
          go_round
          case rel => exact ⟨0 + 1, by decide, rfl, by have := HD.out.2.2; omega, by first | (rw [← HV.out]; done) | (rw [← HV.out]; rfl) | (rw [← HV.out]; simp), HN2⟩
          case measure => simp [intOf]
      · have g1 : (at' : Int) + 1 < (N : Int) := by omega
        clear hlt hle hk hK9
        have HV : Hid (bits .or .u64 X (IntKind.u64.wrap (IntKind.u64.wrap (bits .and .u8 x 127) * 128)) = jv ((zs.drop at').take (1 + 1))) := by
          show _ = _
          obtain ⟨j1, j2⟩ := HJ.out (by decide) (fun e => by omega)
          rw [j1]
          exact or_step X x 128 1 (by decide) (by decide) HD.out.2.1 j2 x0 x1 (fun e => by omega)
        by_cases hc : x < 128
        · have HG : Hid (getI zs at' = (jv ((zs.drop at').take (1 + 1)), ((at' + (1 + 1) : Nat) : Int), 0)) := by
            show _ = _
            unfold getI
            rw [HGT.out hc]
            simp only
            rw [if_neg]
            omega
          clear HGT HGN HJ
          go_wp2_with fail
          try rw [Exit.noGoto_ret]
          go_ret3
          refine ⟨⟨_, _, _, rfl, fun _ => ?_, fun h => absurd (by rw [HG.out]) h⟩, rfl⟩
          rw [HG.out, ← HV.out]
          simp only [Prod.mk.injEq]
          exact ⟨by first | rfl | simp, by first | (simp; done) | (simp; omega), by first | trivial | rfl⟩
        · have HN2 : Hid (scan (zs.drop at') = (scan (zs.drop (at' + (1 + 1)))).map (· + (1 + 1))) := HGN.out hc
          clear HGT HGN HJ
          go_wp2_with fail
          go_round
          case rel => exact ⟨1 + 1, by decide, rfl, by have := HD.out.2.2; omega, by first | (rw [← HV.out]; done) | (rw [← HV.out]; rfl) | (rw [← HV.out]; simp), HN2⟩
          case measure => simp [intOf]
      · have g1 : (at' : Int) + 2 < (N : Int) := by omega
        clear hlt hle hk hK9
        have HV : Hid (bits .or .u64 X (IntKind.u64.wrap (IntKind.u64.wrap (bits .and .u8 x 127) * 16384)) = jv ((zs.drop at').take (2 + 1))) := by
          show _ = _
          obtain ⟨j1, j2⟩ := HJ.out (by decide) (fun e => by omega)
          rw [j1]
          exact or_step X x 16384 2 (by decide) (by decide) HD.out.2.1 j2 x0 x1 (fun e => by omega)
        by_cases hc : x < 128
        · have HG : Hid (getI zs at' = (jv ((zs.drop at').take (2 + 1)), ((at' + (2 + 1) : Nat) : Int), 0)) := by
            show _ = _
            unfold getI
            rw [HGT.out hc]
            simp only
            rw [if_neg]
            omega
          clear HGT HGN HJ
          go_wp2_with fail
          try rw [Exit.noGoto_ret]
          go_ret3
          refine ⟨⟨_, _, _, rfl, fun _ => ?_, fun h => absurd (by rw [HG.out]) h⟩, rfl⟩
          rw [HG.out, ← HV.out]
          simp only [Prod.mk.injEq]
          exact ⟨by first | rfl | simp, by first | (simp; done) | (simp; omega), by first | trivial | rfl⟩
        · have HN2 : Hid (scan (zs.drop at') = (scan (zs.drop (at' + (2 + 1)))).map (· + (2 + 1))) := HGN.out hc
          clear HGT HGN HJ
          go_wp2_with fail
          go_round
          case rel => exact ⟨2 + 1, by decide, rfl, by have := HD.out.2.2; omega, by first | (rw [← HV.out]; done) | (rw [← HV.out]; rfl) | (rw [← HV.out]; simp), HN2⟩
          case measure => simp [intOf]
      · have g1 : (at' : Int) + 3 < (N : Int) := by omega
        clear hlt hle hk hK9
        have HV : Hid (bits .or .u64 X (IntKind.u64.wrap (IntKind.u64.wrap (bits .and .u8 x 127) * 2097152)) = jv ((zs.drop at').take (3 + 1))) := by
          show _ = _
          obtain ⟨j1, j2⟩ := HJ.out (by decide) (fun e => by omega)
          rw [j1]
          exact or_step X x 2097152 3 (by decide) (by decide) HD.out.2.1 j2 x0 x1 (fun e => by omega)
        by_cases hc : x < 128
        · have HG : Hid (getI zs at' = (jv ((zs.drop at').take (3 + 1)), ((at' + (3 + 1) : Nat) : Int), 0)) := by
            show _ = _
            unfold getI
            rw [HGT.out hc]
            simp only
            rw [if_neg]
            omega
          clear HGT HGN HJ
          go_wp2_with fail
          try rw [Exit.noGoto_ret]
          go_ret3
          refine ⟨⟨_, _, _, rfl, fun _ => ?_, fun h => absurd (by rw [HG.out]) h⟩, rfl⟩
          rw [HG.out, ← HV.out]
          simp only [Prod.mk.injEq]
          exact ⟨by first | rfl | simp, by first | (simp; done) | (simp; omega), by first | trivial | rfl⟩
        · have HN2 : Hid (scan (zs.drop at') = (scan (zs.drop (at' + (3 + 1)))).map (· + (3 + 1))) := HGN.out hc
          clear HGT HGN HJ
          go_wp2_with fail
          go_round
          case rel => exact ⟨3 + 1, by decide, rfl, by have := HD.out.2.2; omega, by first | (rw [← HV.out]; done) | (rw [← HV.out]; rfl) | (rw [← HV.out]; simp), HN2⟩
          case measure => simp [intOf]
      · have g1 : (at' : Int) + 4 < (N : Int) := by omega
        clear hlt hle hk hK9
        have HV : Hid (bits .or .u64 X (IntKind.u64.wrap (IntKind.u64.wrap (bits .and .u8 x 127) * 268435456)) = jv ((zs.drop at').take (4 + 1))) := by
          show _ = _
          obtain ⟨j1, j2⟩ := HJ.out (by decide) (fun e => by omega)
          rw [j1]
          exact or_step X x 268435456 4 (by decide) (by decide) HD.out.2.1 j2 x0 x1 (fun e => by omega)
        by_cases hc : x < 128
        · have HG : Hid (getI zs at' = (jv ((zs.drop at').take (4 + 1)), ((at' + (4 + 1) : Nat) : Int), 0)) := by
            show _ = _
            unfold getI
            rw [HGT.out hc]
            simp only
            rw [if_neg]
            omega
          clear HGT HGN HJ
          go_wp2_with fail
          try rw [Exit.noGoto_ret]
          go_ret3
          refine ⟨⟨_, _, _, rfl, fun _ => ?_, fun h => absurd (by rw [HG.out]) h⟩, rfl⟩
          rw [HG.out, ← HV.out]
          simp only [Prod.mk.injEq]
          exact ⟨by first | rfl | simp, by first | (simp; done) | (simp; omega), by first | trivial | rfl⟩
        · have HN2 : Hid (scan (zs.drop at') = (scan (zs.drop (at' + (4 + 1)))).map (· + (4 + 1))) := HGN.out hc
          clear HGT HGN HJ
          go_wp2_with fail
          go_round
          case rel => exact ⟨4 + 1, by decide, rfl, by have := HD.out.2.2; omega, by first | (rw [← HV.out]; done) | (rw [← HV.out]; rfl) | (rw [← HV.out]; simp), HN2⟩
          case measure => simp [intOf]
      · have g1 : (at' : Int) + 5 < (N : Int) := by omega
        clear hlt hle hk hK9
        have HV : Hid (bits .or .u64 X (IntKind.u64.wrap (IntKind.u64.wrap (bits .and .u8 x 127) * 34359738368)) = jv ((zs.drop at').take (5 + 1))) := by
          show _ = _
          obtain ⟨j1, j2⟩ := HJ.out (by decide) (fun e => by omega)
          rw [j1]
          exact or_step X x 34359738368 5 (by decide) (by decide) HD.out.2.1 j2 x0 x1 (fun e => by omega)
        by_cases hc : x < 128
        · have HG : Hid (getI zs at' = (jv ((zs.drop at').take (5 + 1)), ((at' + (5 + 1) : Nat) : Int), 0)) := by
            show _ = _
            unfold getI
            rw [HGT.out hc]
            simp only
            rw [if_neg]
            omega
          clear HGT HGN HJ
          go_wp2_with fail
          try rw [Exit.noGoto_ret]
          go_ret3
          refine ⟨⟨_, _, _, rfl, fun _ => ?_, fun h => absurd (by rw [HG.out]) h⟩, rfl⟩
          rw [HG.out, ← HV.out]
          simp only [Prod.mk.injEq]
          exact ⟨by first | rfl | simp, by first | (simp; done) | (simp; omega), by first | trivial | rfl⟩
        · have HN2 : Hid (scan (zs.drop at') = (scan (zs.drop (at' + (5 + 1)))).map (· + (5 + 1))) := HGN.out hc
          clear HGT HGN HJ
          go_wp2_with fail
          go_round
          case rel => exact ⟨5 + 1, by decide, rfl, by have := HD.out.2.2; omega, by first | (rw [← HV.out]; done) | (rw [← HV.out]; rfl) | (rw [← HV.out]; simp), HN2⟩
          case measure => simp [intOf]
      · have g1 : (at' : Int) + 6 < (N : Int) := by omega
        clear hlt hle hk hK9
        have HV : Hid (bits .or .u64 X (IntKind.u64.wrap (IntKind.u64.wrap (bits .and .u8 x 127) * 4398046511104)) = jv ((zs.drop at').take (6 + 1))) := by
          show _ = _
          obtain ⟨j1, j2⟩ := HJ.out (by decide) (fun e => by omega)
          rw [j1]
          exact or_step X x 4398046511104 6 (by decide) (by decide) HD.out.2.1 j2 x0 x1 (fun e => by omega)
        by_cases hc : x < 128
        · have HG : Hid (getI zs at' = (jv ((zs.drop at').take (6 + 1)), ((at' + (6 + 1) : Nat) : Int), 0)) := by
            show _ = _
            unfold getI
            rw [HGT.out hc]
            simp only
            rw [if_neg]
            omega
          clear HGT HGN HJ
          go_wp2_with fail
          try rw [Exit.noGoto_ret]
          go_ret3
          refine ⟨⟨_, _, _, rfl, fun _ => ?_, fun h => absurd (by rw [HG.out]) h⟩, rfl⟩
          rw [HG.out, ← HV.out]
          simp only [Prod.mk.injEq]
          exact ⟨by first | rfl | simp, by first | (simp; done) | (simp; omega), by first | trivial | rfl⟩
        · have HN2 : Hid (scan (zs.drop at') = (scan (zs.drop (at' + (6 + 1)))).map (· + (6 + 1))) := HGN.out hc
          clear HGT HGN HJ
          go_wp2_with fail
          go_round
          case rel => exact ⟨6 + 1, by decide, rfl, by have := HD.out.2.2; omega, by first | (rw [← HV.out]; done) | (rw [← HV.out]; rfl) | (rw [← HV.out]; simp), HN2⟩
          case measure => simp [intOf]
      · have g1 : (at' : Int) + 7 < (N : Int) := by omega
        clear hlt hle hk hK9
        have HV : Hid (bits .or .u64 X (IntKind.u64.wrap (IntKind.u64.wrap (bits .and .u8 x 127) * 562949953421312)) = jv ((zs.drop at').take (7 + 1))) := by
          show _ = _
          obtain ⟨j1, j2⟩ := HJ.out (by decide) (fun e => by omega)
          rw [j1]
          exact or_step X x 562949953421312 7 (by decide) (by decide) HD.out.2.1 j2 x0 x1 (fun e => by omega)
        by_cases hc : x < 128
        · have HG : Hid (getI zs at' = (jv ((zs.drop at').take (7 + 1)), ((at' + (7 + 1) : Nat) : Int), 0)) := by
            show _ = _
            unfold getI
            rw [HGT.out hc]
            simp only
            rw [if_neg]
            omega
          clear HGT HGN HJ
          go_wp2_with fail
          try rw [Exit.noGoto_ret]
          go_ret3
          refine ⟨⟨_, _, _, rfl, fun _ => ?_, fun h => absurd (by rw [HG.out]) h⟩, rfl⟩
          rw [HG.out, ← HV.out]
          simp only [Prod.mk.injEq]
          exact ⟨by first | rfl | simp, by first | (simp; done) | (simp; omega), by first | trivial | rfl⟩
        · have HN2 : Hid (scan (zs.drop at') = (scan (zs.drop (at' + (7 + 1)))).map (· + (7 + 1))) := HGN.out hc
          clear HGT HGN HJ
          go_wp2_with fail
          go_round
          case rel => exact ⟨7 + 1, by decide, rfl, by have := HD.out.2.2; omega, by first | (rw [← HV.out]; done) | (rw [← HV.out]; rfl) | (rw [← HV.out]; simp), HN2⟩
          case measure => simp [intOf]
      · have g1 : (at' : Int) + 8 < (N : Int) := by omega
        clear hlt hle hk hK9
        have HV : Hid (bits .or .u64 X (IntKind.u64.wrap (IntKind.u64.wrap (bits .and .u8 x 127) * 72057594037927936)) = jv ((zs.drop at').take (8 + 1))) := by
          show _ = _
          obtain ⟨j1, j2⟩ := HJ.out (by decide) (fun e => by omega)
          rw [j1]
          exact or_step X x 72057594037927936 8 (by decide) (by decide) HD.out.2.1 j2 x0 x1 (fun e => by omega)
        by_cases hc : x < 128
        · have HG : Hid (getI zs at' = (jv ((zs.drop at').take (8 + 1)), ((at' + (8 + 1) : Nat) : Int), 0)) := by
            show _ = _
            unfold getI
            rw [HGT.out hc]
            simp only
            rw [if_neg]
            omega
          clear HGT HGN HJ
          go_wp2_with fail
          try rw [Exit.noGoto_ret]
          go_ret3
          refine ⟨⟨_, _, _, rfl, fun _ => ?_, fun h => absurd (by rw [HG.out]) h⟩, rfl⟩
          rw [HG.out, ← HV.out]
          simp only [Prod.mk.injEq]
          exact ⟨by first | rfl | simp, by first | (simp; done) | (simp; omega), by first | trivial | rfl⟩
        · have HN2 : Hid (scan (zs.drop at') = (scan (zs.drop (at' + (8 + 1)))).map (· + (8 + 1))) := HGN.out hc
          clear HGT HGN HJ
          go_wp2_with fail
          go_round
          case rel => exact ⟨8 + 1, by decide, rfl, by have := HD.out.2.2; omega, by first | (rw [← HV.out]; done) | (rw [← HV.out]; rfl) | (rw [← HV.out]; simp), HN2⟩
          case measure => simp [intOf]
      · have g1 : (at' : Int) + 9 < (N : Int) := by omega
        clear hlt hle hk hK9
        by_cases c9 : x ≤ 1
        rotate_left
        · have HE : Hid ((getI zs at').2.2 ≠ 0) := by
            refine getI_err ?_
            by_cases hc : x < 128
            · exact .inr ⟨10, HGT.out hc, .inr ⟨rfl, by rw [HD.out.1]; omega⟩⟩
            · rw [HGN.out hc]
              cases hsc : scan (zs.drop (at' + 10)) with
              | none => exact .inl rfl
              | some n => exact .inr ⟨n + 10, rfl, .inl (by have := scan_le _ _ hsc; omega)⟩
          clear HGT HGN HJ
          go_wp2_with fail
          try rw [Exit.noGoto_ret]
          go_ret3
          exact ⟨⟨_, _, _, rfl, fun h => absurd h HE.out, fun _ => by decide⟩, rfl⟩
        have HV : Hid (bits .or .u64 X (IntKind.u64.wrap (IntKind.u64.wrap (bits .and .u8 x 127) * 9223372036854775808)) = jv ((zs.drop at').take (9 + 1))) := by
          show _ = _
          obtain ⟨j1, j2⟩ := HJ.out (by decide) (fun e => by exact c9)
          rw [j1]
          exact or_step X x 9223372036854775808 9 (by decide) (by decide) HD.out.2.1 j2 x0 x1 (fun e => by exact c9)
        by_cases hc : x < 128
        · have HG : Hid (getI zs at' = (jv ((zs.drop at').take (9 + 1)), ((at' + (9 + 1) : Nat) : Int), 0)) := by
            show _ = _
            unfold getI
            rw [HGT.out hc]
            simp only
            rw [if_neg]
            rintro (h | ⟨-, h⟩)
            · omega
            · rw [HD.out.1] at h; omega
          clear HGT HGN HJ
          go_wp2_with fail
          try rw [Exit.noGoto_ret]
          go_ret3
          refine ⟨⟨_, _, _, rfl, fun _ => ?_, fun h => absurd (by rw [HG.out]) h⟩, rfl⟩
          rw [HG.out, ← HV.out]
          simp only [Prod.mk.injEq]
          exact ⟨by first | rfl | simp, by first | (simp; done) | (simp; omega), by first | trivial | rfl⟩
        · omega
      · have HE : Hid ((getI zs at').2.2 ≠ 0) := by
          refine getI_err ?_
          by_cases hc : x < 128
          · exact .inr ⟨11, HGT.out hc, .inl (by decide)⟩
          · rw [HGN.out hc]
            cases hsc : scan (zs.drop (at' + 11)) with
            | none => exact .inl rfl
            | some n => exact .inr ⟨n + 11, rfl, .inl (by omega)⟩
        clear HGT HGN HJ hlt hle hk hK9
        go_wp2_with fail
        try rw [Exit.noGoto_ret]
        go_ret3
        exact ⟨⟨_, _, _, rfl, fun h => absurd h HE.out, fun _ => by decide⟩, rfl⟩
    · have HE : Hid ((getI zs at').2.2 ≠ 0) := by
        refine getI_err (.inl ?_)
        rw [HS.out, List.drop_of_length_le (by have := H0.out.1; omega)]
        rfl
      have g1 : ¬ (at' : Int) + (k : Int) < (N : Int) := by omega
      have g2 : (at' : Int) + (k : Int) ≤ 3000000 := by omega
      by_cases h10 : k < 10
      · have h10' : (k : Int) < 10 := by omega
        clear HS hk' hk hlt hle h10
        go_wp2_with fail
        try rw [Exit.noGoto_ret]
        go_ret3
        exact ⟨⟨_, _, _, rfl, fun h => absurd h HE.out, fun _ => by decide⟩, rfl⟩
      · have h10' : ¬ (k : Int) < 10 := by omega
        clear HS hk' hk hlt hle h10
        go_wp2_with fail
        try rw [Exit.noGoto_ret]
        go_ret3
        exact ⟨⟨_, _, _, rfl, fun h => absurd h HE.out, fun _ => by decide⟩, rfl⟩
end Go.Proofs.Ytflhgphjkhplmaa.W

/- The model's frame at the beginning of bytes. -/
namespace Go.Proofs.Ytflhgphjkhplmaa.W
open Go.RowKit
set_option linter.unusedVariables false
set_option linter.unusedSimpArgs false

variable {w w' : World} {v : Value} {zs : List Int}
def oneV (o : Option (Nat × List Int × Nat)) (rv : Value) : Value := match o with
  | none => .tuple #[.int .u64 0, .slice none 0 0, .int .i64 0]
  | some (n, r, e) => .tuple #[.int .u64 (n : Int), rv, .int .i64 (e : Int)]
theorem one_no {o : Option (Nat × List Int × Nat)} {w w' : World} (h : o = none) (hb : Below w.heap.size w w') : ∃ rv, Ending.returned (.tuple #[.int .u64 0, .slice none 0 0, .int .i64 0]) = .returned (oneV o rv) ∧ (∀ n r e, o = some (n, r, e) → Bz w' rv r) ∧ Below w.heap.size w w' := by
  subst h
  exact ⟨.slice none 0 0, rfl, fun _ _ _ h => (nomatch h), hb⟩
theorem drewN_below (w : World) (n : Nat) : Below w.heap.size w (w.drewN n) := ⟨rfl, rfl, rfl, Nat.le_refl _, fun _ _ => rfl⟩
set_option maxRecDepth 20000 in
set_option maxHeartbeats 4000000 in
theorem one_any (h : Bz w v zs) : Calls Try.prog 39 #[v] w fun e w' => ∃ rv, e = .returned (oneV (fatI zs 0) rv) ∧ (∀ n r e, fatI zs 0 = some (n, r, e) → Bz w' rv r) ∧ Below w.heap.size w w' := by
  obtain ⟨a, c, hv, hc, -⟩ := h.ex
  have hs := h.small
  subst hv
  have HG1 : Hid (Calls Try.prog 68 #[.slice a zs.length c, .int .i64 0] w fun e w' => (∃ x y z : Int, e = .returned (.tuple #[.int .u64 x, .int .i64 y, .int .i64 z]) ∧ ((getI zs 0).2.2 = 0 → getI zs 0 = (x, y, z)) ∧ ((getI zs 0).2.2 ≠ 0 → z ≠ 0)) ∧ w' = w) := rget_any h 0 (Nat.zero_le _)
  obtain ⟨N, hN⟩ : ∃ N, zs.length = N := ⟨_, rfl⟩
  rcases get_ok zs 0 with ⟨x, h1, h2⟩ | ⟨x, p, h1, h2, h3, h4, h5⟩
  · have HN : Hid (fatI zs 0 = none) := by
      show _ = _
      unfold fatI
      rw [h1]
      exact if_pos (by simp; omega)
    have HG : Hid (Calls Try.prog 68 #[.slice a N c, .int .i64 0] w fun e w' => ∃ x y z : Int, e = .returned (.tuple #[.int .u64 x, .int .i64 y, .int .i64 z]) ∧ ¬ z = 0 ∧ w' = w) := by
      rw [hN, h1] at HG1
      refine HG1.out.mono ?_
      rintro e w' ⟨⟨x', y', z', rfl, -, hz⟩, rfl⟩
      exact ⟨x', y', z', rfl, hz (by simp; omega), rfl⟩
    rw [hN]
    clear h hs hc h1 h2 hN HG1
    go_enter Try.func39, Try.ntmps39
    go_wp2_with (go_at_call 68; refine HG.out.mono ?_; rintro e w1 ⟨x1, y1, z1, rfl, hz1, hw1⟩; rw [hw1]; clear hw1)
    go_ret3
    exact one_no HN.out (Below.refl _ _)
  · have HGA : Hid (Calls Try.prog 68 #[.slice a N c, .int .i64 0] w fun e w' => e = .returned (.tuple #[.int .u64 x, .int .i64 (p : Int), .int .i64 0]) ∧ w' = w) := by
      rw [hN, h1] at HG1
      refine HG1.out.mono ?_
      rintro e w' ⟨⟨x', y', z', rfl, hz, -⟩, rfl⟩
      have := hz rfl
      simp only [Prod.mk.injEq] at this
      obtain ⟨rfl, rfl, rfl⟩ := this
      exact ⟨rfl, rfl⟩
    have HG2 : Hid (Calls Try.prog 68 #[.slice a zs.length c, .int .i64 (p : Int)] w fun e w' => (∃ x y z : Int, e = .returned (.tuple #[.int .u64 x, .int .i64 y, .int .i64 z]) ∧ ((getI zs p).2.2 = 0 → getI zs p = (x, y, z)) ∧ ((getI zs p).2.2 ≠ 0 → z ≠ 0)) ∧ w' = w) := rget_any h p h5
    rw [hN] at HG2
    clear HG1
    rcases get_ok zs p with ⟨x2, k1, k2⟩ | ⟨s, q, k1, k2, k3, k4, k5⟩
    · have HN : Hid (fatI zs 0 = none) := by
        show _ = _
        unfold fatI
        rw [h1]
        simp only [Int.toNat_natCast]
        rw [k1]
        rw [if_neg (by simp), if_pos (by simp; omega)]
      have HG : Hid (Calls Try.prog 68 #[.slice a N c, .int .i64 (p : Int)] w fun e w' => ∃ x y z : Int, e = .returned (.tuple #[.int .u64 x, .int .i64 y, .int .i64 z]) ∧ ¬ z = 0 ∧ w' = w) := by
        rw [k1] at HG2
        refine HG2.out.mono ?_
        rintro e w' ⟨⟨x', y', z', rfl, -, hz⟩, rfl⟩
        exact ⟨x', y', z', rfl, hz (by simp; omega), rfl⟩
      rw [hN]
      clear h hs hc h1 h2 h3 h4 h5 hN HG2 k1 k2
      go_enter Try.func39, Try.ntmps39
      go_wp2_with (first | (go_at_call 68; refine HGA.out.mono ?_; rintro e w1 ⟨rfl, hw1⟩; rw [hw1]; clear hw1 HGA) | (go_at_call 68; refine HG.out.mono ?_; rintro e w1 ⟨x1, y1, z1, rfl, hz1, hw1⟩; rw [hw1]; clear hw1 HG))
      go_ret3
      exact one_no HN.out (Below.refl _ _)
    · obtain ⟨X, rfl⟩ : ∃ X : Nat, x = (X : Int) := ⟨x.toNat, by omega⟩
      obtain ⟨S, rfl⟩ : ∃ S : Nat, s = (S : Int) := ⟨s.toNat, by omega⟩
      have HGB : Hid (Calls Try.prog 68 #[.slice a N c, .int .i64 (p : Int)] w fun e w' => e = .returned (.tuple #[.int .u64 (S : Int), .int .i64 (q : Int), .int .i64 0]) ∧ w' = w) := by
        rw [k1] at HG2
        refine HG2.out.mono ?_
        rintro e w' ⟨⟨x', y', z', rfl, hz, -⟩, rfl⟩
        have := hz rfl
        simp only [Prod.mk.injEq] at this
        obtain ⟨rfl, rfl, rfl⟩ := this
        exact ⟨rfl, rfl⟩
      clear HG2
      have hfa : fatI zs 0 = if (zs.length : Int) - (q : Int) < (S : Int) then none else if frE X ((zs.drop q).take S).length ≠ 0 then none else if zs.take (frI X ((zs.drop q).take S)).length = frI X ((zs.drop q).take S) then some (X, (zs.drop q).take S, (frI X ((zs.drop q).take S)).length) else none := by
        unfold fatI
        rw [h1]
        simp only [Int.toNat_natCast]
        rw [k1]
        simp only [Int.toNat_natCast, List.drop_zero, Nat.zero_add]
        rw [if_neg (by simp), if_neg (by simp)]
      have hq0 : (q : Int) ≤ (N : Int) := by omega
      have hN2 : (N : Int) ≤ 2000000 := by omega
      have hNc : (N : Int) ≤ (c : Int) := by omega
      by_cases hbig : 65536 < S ∨ (N : Int) - (q : Int) < (S : Int)
      · have HN : Hid (fatI zs 0 = none) := by
          show _ = _
          rw [hfa]
          split
          · rfl
          · rw [if_pos]
            rw [show ((zs.drop q).take S).length = S by simp; omega]
            unfold frE
            split
            · decide
            · rw [if_pos (by omega)]; decide
        have hS0 : (S : Int) < 18446744073709551616 := by omega
        obtain ⟨sI, hsI⟩ : ∃ sI : Int, (S : Int) = sI := ⟨_, rfl⟩
        rw [hsI] at HGB hS0
        have hbig' : 65536 < sI ∨ (¬ 65536 < sI ∧ (N : Int) - (q : Int) < sI) := by omega
        have s0 : 0 ≤ sI := by omega
        rw [hN]
        clear h hs hc h1 h2 h3 h4 h5 hN k1 k2 k3 k4 k5 hbig hfa hsI
        rcases hbig' with g | ⟨g, g2⟩
        all_goals
          go_enter Try.func39, Try.ntmps39
          go_wp2_with (first | (go_at_call 68; refine HGA.out.mono ?_; rintro e w1 ⟨rfl, hw1⟩; rw [hw1]; clear hw1 HGA) | (go_at_call 68; refine HGB.out.mono ?_; rintro e w1 ⟨rfl, hw1⟩; rw [hw1]; clear hw1 HGB))
          go_ret3
          exact one_no HN.out (Below.refl _ _)
      · obtain ⟨rc, hrc⟩ : ∃ rc, (zs.drop q).take S = rc := ⟨_, rfl⟩
        have hrl : rc.length = S := by rw [← hrc]; simp; omega
        have hcut := h.cut q (q + S) (by omega) (by omega)
        rw [Nat.add_sub_cancel_left, hrc] at hcut
        obtain ⟨a2, ha2⟩ : ∃ a2, (if c = q then a else a.map (fun x => x.add q)) = a2 := ⟨_, rfl⟩
        rw [ha2] at hcut
        rw [hrc, hrl, if_neg (by omega)] at hfa
        have HF : Hid (Calls Try.prog 9 #[.int .u64 (X : Int), .slice a2 S (c - q)] w fun e w' => (∃ v', e = .returned (.tuple #[v', .int .i64 (frE X S)]) ∧ (frE X S = 0 → w'.ownsRow w.heap.size 5 1 v' (frI X rc).length (u8l (frI X rc))) ∧ (frE X S ≠ 0 → v' = .slice none 0 0)) ∧ Below w.heap.size w w') := by
          have := rframe_any X (by omega) hcut.src hcut.byt (by omega)
          rw [hrl] at this
          exact this
        have hqs : (q : Int) + (S : Int) ≤ (c : Int) := by omega
        have hqc : (q : Int) ≤ (c : Int) := by omega
        have hS2 : (S : Int) ≤ 65536 := by omega
        have hSS : (S : Int) ≤ (N : Int) - (q : Int) := by omega
        have HK : Hid (Bz w (.slice a N c) zs ∧ Bz w (.slice a2 S (c - q)) rc ∧ zs.length = N ∧ rc.length = S) := ⟨by rw [← hN]; exact h, hcut, hN, hrl⟩
        rw [hN]
        by_cases hE : frE X S ≠ 0
        · have HN : Hid (fatI zs 0 = none) := by show _ = _; rw [hfa, if_pos hE]
          have HF2 : Hid (Calls Try.prog 9 #[.int .u64 (X : Int), .slice a2 S (c - q)] w fun e w' => ∃ y, e = .returned (.tuple #[.slice none 0 0, .int .i64 y]) ∧ (y != 0) = true ∧ Hid (Below w.heap.size w w')) := by
            refine HF.out.mono ?_
            rintro e w2 ⟨⟨v2, rfl, -, hv⟩, hb⟩
            obtain rfl := hv hE
            exact ⟨_, rfl, by rw [bne_iff_ne]; exact hE, hb⟩
          clear h hs hc h1 h2 h3 h4 h5 hN k1 k2 k3 k4 k5 hbig hfa hrc hrl hcut HF hE
          go_enter Try.func39, Try.ntmps39
          go_wp2_with (first | (go_at_call 68; refine HGA.out.mono ?_; rintro e w1 ⟨rfl, hw1⟩; rw [hw1]; clear hw1 HGA) | (go_at_call 68; refine HGB.out.mono ?_; rintro e w1 ⟨rfl, hw1⟩; rw [hw1]; clear hw1 HGB) | (go_at_call 9; refine HF2.out.mono ?_; rintro e w2 ⟨y, rfl, hy, HB2⟩))
          go_quiet (fail)
          go_wp2_with fail
          go_ret3
          exact one_no HN.out (HB2.out.trans ((drewN_below w2 _).mono HB2.out.size))
        · have hE0 : frE X S = 0 := Classical.not_not.1 hE
          obtain ⟨fr, hfr⟩ : ∃ fr, frI X rc = fr := ⟨_, rfl⟩
          rw [hfr, hE0] at HF
          rw [hfr, hE0, if_neg (by simp)] at hfa
          have hfb : Byt fr := by rw [← hfr]; exact frI_byt hcut.byt
          obtain ⟨x1, x2⟩ := frE_ok hE0
          have hfl := frI_len (seq := X) (b := rc) (by omega) (by omega)
          rw [hfr] at hfl
          obtain ⟨L, hL⟩ : ∃ L, fr.length = L := ⟨_, rfl⟩
          rw [hL] at HF hfa hfl
          have HF2 : Hid (Calls Try.prog 9 #[.int .u64 (X : Int), .slice a2 S (c - q)] w fun e w' => ∃ a4 c4, e = .returned (.tuple #[.slice a4 L c4, .int .i64 0]) ∧ Hid (w'.ownsRow w.heap.size 5 1 (.slice a4 L c4) L (u8l fr) ∧ Below w.heap.size w w')) := by
            refine HF.out.mono ?_
            rintro e w2 ⟨⟨v2, rfl, h2, -⟩, hb2⟩
            have h3 := h2 rfl
            obtain ⟨a4, c4, rfl⟩ := own_slice h3
            exact ⟨a4, c4, rfl, h3, hb2⟩
          have hLi : (L : Int) ≤ 65560 := by omega
          obtain ⟨A, hA⟩ : ∃ A, bT fr = A := ⟨_, rfl⟩
          have HCF : Hid (∀ w2 a4 c4, Hid (w2.ownsRow w.heap.size 5 1 (.slice a4 L c4) L (u8l fr) ∧ Below w.heap.size w w2) → ∀ n, (convert 23 9 (.slice a4 L c4)).run Try.prog (w2.drewN n) = .ok (.string A) (w2.drewN n)) := fun w2 a4 c4 H n => by
            rw [← hA]
            exact (own_bz (v := .slice a4 L c4) (zs := fr) (by rw [hL]; exact H.out.1) hfb (by omega)).conv _ (drewN_below w2 n)
          by_cases hLN : N < L
          · have HN : Hid (fatI zs 0 = none) := by
              show _ = _
              rw [hfa, if_neg]
              intro e
              have := congrArg List.length e
              simp at this
              omega
            have hLN' : (N : Int) < (L : Int) := by omega
            clear h hs hc h1 h2 h3 h4 h5 hN k1 k2 k3 k4 k5 hbig hfa hrc hrl hcut HF hE hE0 hfr hfb x1 x2 hfl hL hLN HCF hA
            go_enter Try.func39, Try.ntmps39
            go_wp2_with (first | (go_at_call 68; refine HGA.out.mono ?_; rintro e w1 ⟨rfl, hw1⟩; rw [hw1]; clear hw1 HGA) | (go_at_call 68; refine HGB.out.mono ?_; rintro e w1 ⟨rfl, hw1⟩; rw [hw1]; clear hw1 HGB) | (go_at_call 9; refine HF2.out.mono ?_; rintro e w2 ⟨a4, c4, rfl, H2⟩))
            go_quiet (fail)
            go_wp2_with fail
            go_ret3
            exact one_no HN.out (H2.out.2.trans ((drewN_below w2 _).mono H2.out.2.size))
          · have hLN' : decide (N < L) = false := decide_eq_false hLN
            have hLc : (L : Int) ≤ (c : Int) := by omega
            have hcut3 := HK.out.1.cut0 L (by omega)
            obtain ⟨B, hB⟩ : ∃ B, bT (zs.take L) = B := ⟨_, rfl⟩
            have HCB : Hid (∀ w2, Below w.heap.size w w2 → ∀ n, (convert 23 9 (.slice a L c)).run Try.prog (w2.drewN n) = .ok (.string B) (w2.drewN n)) := fun w2 hb n => by
              rw [← hB]
              exact hcut3.conv _ (hb.trans ((drewN_below w2 n).mono hb.size))
            have hAB : (A.toList == B.toList) = decide (zs.take L = fr) := by
              rw [← hA, ← hB, bT_eq hfb hcut3.byt]
              exact decide_eq_decide.2 eq_comm
            by_cases hpx : zs.take L = fr
            · have HN : Hid (fatI zs 0 = some (X, rc, L)) := by show _ = _; rw [hfa, if_pos hpx]
              have hab : (A.toList == B.toList) = true := by rw [hAB]; exact decide_eq_true hpx
              clear h hs hc h1 h2 h3 h4 h5 hN k1 k2 k3 k4 k5 hbig hfa hrc hrl hcut HF hE hE0 hfr hfb x1 x2 hfl hL hLN hA hB hAB hpx hcut3
              go_enter Try.func39, Try.ntmps39
              go_wp2_with (first | (go_at_call 68; refine HGA.out.mono ?_; rintro e w1 ⟨rfl, hw1⟩; rw [hw1]; clear hw1 HGA) | (go_at_call 68; refine HGB.out.mono ?_; rintro e w1 ⟨rfl, hw1⟩; rw [hw1]; clear hw1 HGB) | (go_at_call 9; refine HF2.out.mono ?_; rintro e w2 ⟨a4, c4, rfl, H2⟩; (have t1 := HCF.out w2 a4 c4 H2); (have t2 := HCB.out w2 H2.out.2)))
              go_quiet (fail)
              go_wp2_with fail
              go_quiet (fail)
              go_wp2_with fail
              rename_i nq_1
              rw [Nat.add_sub_cancel_left]
              go_ret3
              have hb : Below w.heap.size w ((w2.drewN nq_1).drewN nq) := H2.out.2.trans (((drewN_below w2 _).trans (drewN_below (w2.drewN nq_1) nq)).mono H2.out.2.size)
              refine ⟨.slice a2 S (c - q), by rw [HN.out]; rfl, fun n r e he => ?_, hb⟩
              rw [HN.out] at he
              simp only [Option.some.injEq, Prod.mk.injEq] at he
              obtain ⟨-, rfl, -⟩ := he
              exact HK.out.2.1.newer hb
            · have HN : Hid (fatI zs 0 = none) := by show _ = _; rw [hfa, if_neg hpx]
              have hab : (A.toList == B.toList) = false := by rw [hAB]; exact decide_eq_false hpx
              clear h hs hc h1 h2 h3 h4 h5 hN k1 k2 k3 k4 k5 hbig hfa hrc hrl hcut HF hE hE0 hfr hfb x1 x2 hfl hL hLN hA hB hAB hpx hcut3
              go_enter Try.func39, Try.ntmps39
              go_wp2_with (first | (go_at_call 68; refine HGA.out.mono ?_; rintro e w1 ⟨rfl, hw1⟩; rw [hw1]; clear hw1 HGA) | (go_at_call 68; refine HGB.out.mono ?_; rintro e w1 ⟨rfl, hw1⟩; rw [hw1]; clear hw1 HGB) | (go_at_call 9; refine HF2.out.mono ?_; rintro e w2 ⟨a4, c4, rfl, H2⟩; (have t1 := HCF.out w2 a4 c4 H2); (have t2 := HCB.out w2 H2.out.2)))
              go_quiet (fail)
              go_wp2_with fail
              go_ret3
              exact one_no HN.out (H2.out.2.trans ((drewN_below w2 _).mono H2.out.2.size))
end Go.Proofs.Ytflhgphjkhplmaa.W

/- A range over a function whose elements lead to memory that the sequence has made: what is told is said of an element, of the world in which it is told, and of the one ahead of it (where the round before it ended). -/
namespace Go.Proofs.Ytflhgphjkhplmaa.R
open Go Go.RowKit
set_option linter.unusedVariables false

variable {P : Program} {F : Fence} {n : Nat} {α : Type}
/-- What a sequence tells: each element x in a world in which X x holds; at its end S holds of all of them. -/
def SeqX (F : Fence) (n : Nat) (P : Program) (g : Nat) (lb : Array Value) (encs : α → Array Value) (X : List α → α → World → World → Prop) (Kp : α → World → World → Prop) (S : List α → World → Prop) (w : World) : Prop :=
  ∀ (l : Nat) (J Jx : List α → World → Prop) (W : World), Below w.heap.size w W → AbidesFrom W.heap.size J → AbidesFrom W.heap.size Jx →
    (∀ pre x V0 V, J pre V0 → Below V0.heap.size V0 V → X pre x V0 V → YieldAt F (n - 1) P l (encs x) V fun e V' => (e = .returned (.bool true) ∧ J (pre ++ [x]) V' ∧ Kp x V V') ∨ (e = .returned (.bool false) ∧ Jx (pre ++ [x]) V')) →
    J [] W → CallsIn F n P g (#[.func (.yield l) #[] #[]] ++ lb) W fun e W' => (∃ v, e = .returned v) ∧ ((∃ xs, S xs W' ∧ J xs W') ∨ ∃ pre, Jx pre W')
theorem SeqX.stops {g : Nat} {lb : Array Value} {encs : α → Array Value} {X : List α → α → World → World → Prop} {Kp : World → World → Prop} {S : List α → World → Prop} {w : World} (h : SeqX F n P g lb encs X (fun _ => Kp) S w) (N : Nat) (hN : ∀ pre : List α, pre.length < N) : SeqStopsK F n P g lb encs Kp (fun _ => True) (fun _ => True) N w := by
  intro l J Jx W hW hJ hJx hY h0
  refine (h l J Jx W hW hJ hJx (fun pre x V0 V hj hb _ => hY pre x V (hJ _ _ _ none hj ⟨hb.os, hb.tape, hb.output, hb.size, fun q hq _ => hb.block q hq⟩ (fun r e => nomatch e)) (hN pre)) h0).mono ?_
  rintro e W' ⟨hv, ⟨xs, -, hx⟩ | ⟨pre, hx⟩⟩
  · exact ⟨hv, .inl ⟨xs, trivial, hx⟩⟩
  · exact ⟨hv, .inr ⟨pre, trivial, hx⟩⟩
/-- A round that goes on. -/
def goesOn (B : Nat) (Kp : World → World → Prop) (J : World → Prop) (W : World) : Exit → Act → World → Prop
  | .normal, _, W' => KeepsFrom B W W' ∧ Kp W W' ∧ J W'
  | _, _, _ => False
theorem range_x {g : Operand} {ps : Array Tmp} {assign body : Code} {Q : Exit → Act → World → Prop} {a : Act} {w : World} (hro : F.round = none) (h1 : 1 ≤ n)
    {gf : Nat} {lb : Array Value} (hg : a.eval g = .func (.func gf) #[] lb) (hFg : F.fn gf) (eg : ∀ args w, (callFunc gf args).run P w = .ok (.enter gf args) w)
    {encs : α → Array Value} {X : List α → α → World → World → Prop} {Kp : α → World → World → Prop} {S : List α → World → Prop} {w0 : World} (hseq : SeqX F (n - 1) P gf lb encs X Kp S w0) (I : List α → World → Prop) (Ax : List α → α → Act → World → Prop)
    (hKt : ∀ {x : α} {A B C : World}, Kp x A B → Kp x B C → Kp x A C) (hKb : ∀ (pre : List α) (x : α) (a : Act) (W : World) (l : Nat) (o o' : Obj), (Ax pre x a W ∨ I (pre ++ [x]) W) → w.heap.size ≤ l → W.heap[l]? = some o → o.isCells = false → o.isWalk = false → Kp x W (W.putObj l o'))
    (hb0 : Below w0.heap.size w0 w) (hps : ∀ x, (encs x).size = ps.size) (hI : OwnFrom w.heap.size I) (hS : OwnFrom w.heap.size S) (h0 : I [] w)
    (hAx : ∀ pre x a', OwnFrom w.heap.size (fun (_ : Unit) W => Ax pre x a' W))
    (hassign : ∀ (l : Nat) (pre : List α) (x : α) (W : World) (W0 : World) (K : Act → World → Prop), I pre W0 → Below W0.heap.size W0 W → X pre x W0 W → (∀ a' W', KeepsFrom w.heap.size W W' → Kp x W W' → Ax pre x a' W' → K a' W') →
      assign.wpIn (F.inRound l) (n - 1 - 1) P (Exit.then K (fun _ _ _ => False)) { tmps := (ps.zip (encs x)).foldl (fun t (p, v) => t.setIfInBounds p v) a.tmps, defers := [] } W)
    (hbody : ∀ (l : Nat) (pre : List α) (x : α) (a' : Act) (W : World), w.heap.size ≤ l → Ax pre x a' W → body.wpIn (F.inRound l) (n - 1 - 1) P (goesOn w.heap.size (Kp x) (I (pre ++ [x])) W) a' W)
    (hdone : ∀ (D : Nat) (xs : List α) (W : World), w.heap.size ≤ D → S xs W → I xs W → W.heap[D]? = some (.deferred (some [])) → Q .normal { a with defers := { target := .collected D, args := #[] } :: a.defers } W) :
    (Code.rangeFunc g ps assign body).wpIn F n P Q a w := by
  refine wpIn_rangeFunc fun fn hfn => ?_
  rw [hro]
  let rc : LoopState → Option Code → Loop := fun st pe => { state := st, pending := pe, fn, tmps := a.tmps, params := ps, assign, body, defers := w.heap.size }
  let L := w.heap.size + 1
  let W1 := (w.alloc (.deferred (some []))).alloc (.loop (rc .ready none))
  have q1 : W1.heap[L]? = some (.loop (rc .ready none)) := by
    have := World.alloc_heap_new (w.alloc (.deferred (some []))) (.loop (rc .ready none))
    rwa [World.size_alloc] at this
  have q0 : W1.heap[w.heap.size]? = some (.deferred (some [])) := (Below.heap_alloc _ _ _ (by simp)).trans (World.alloc_heap_new w _)
  have qs : W1.heap.size = w.heap.size + 2 := by simp [W1]
  have hb1 : Below w0.heap.size w0 W1 := hb0.trans ((((Below.refl _ w).alloc (Nat.le_refl _) _).alloc (by simp) _).mono hb0.size)
  -- the caller's own invariant, with the two blocks that the statement has laid
  let J : List α → World → Prop := fun pre W => I pre W ∧ W.heap[L]? = some (.loop (rc .ready none)) ∧ W.heap[w.heap.size]? = some (.deferred (some []))
  have hJ : AbidesFrom W1.heap.size J := by
    intro s A B row hs hgr hr
    have hr2 : ∀ r, row = some r → w.heap.size ≤ r ∧ ∃ o : Obj, A.heap[r]? = some o ∧ o.isCells = false := fun r e => by
      obtain ⟨hB, o, ho, hw⟩ := hr r e
      exact ⟨by omega, o, ho, Obj.not_cells_of_walk hw⟩
    exact ⟨hI s A B row hs.1 hgr hr2, (grownBy_keeps hgr (fun r e => (hr r e).2) hs.2.1 rfl).trans hs.2.1, (grownBy_keeps hgr (fun r e => (hr r e).2) hs.2.2 rfl).trans hs.2.2⟩
  refine ⟨L, [{ target := .collected w.heap.size, args := #[] }], W1, { target := .fn (.func gf) lb, args := #[.func (.yield L) #[] #[]] }, W1, gf, #[.func (.yield L) #[] #[]] ++ lb, W1, run_enterLoop_outer _ _ _ _ _, ?_, ?_, ?_, fun _ => h1, ?_⟩
  · simp only [resolve, hg]
    simp [go_sem]
  · intro f' hf'
    simp [Target.leads] at hf'
    subst hf'
    exact hFg
  · simp [invoke, go_sem, eg]
  refine (hseq L J (fun _ _ => False) W1 hb1 hJ (fun _ _ _ _ h => h.elim) ?_ ⟨hI.alloc _ (hI.alloc _ h0), q1, q0⟩).mono ?_
  · rintro pre x V0 V hj hbV hX
    have hi := hj.1
    obtain ⟨-, hl, hk⟩ := hJ _ _ _ none hj ⟨hbV.os, hbV.tape, hbV.output, hbV.size, fun q hq _ => hbV.block q hq⟩ (fun r e => nomatch e)
    refine ⟨fn, _, assign, body, run_yield (P := P) (args := encs x) hl (hps x), roundIn_of_wpIn hfn (hassign _ pre x V V0 _ hi hbV hX ?_)⟩
    intro a' Va k1 k2 k3
    have l1 := k1.same _ _ (show w.heap.size ≤ L by omega) hl rfl
    have d1 := k1.same _ _ (Nat.le_refl _) hk rfl
    have s1 : L < Va.heap.size := (Array.getElem?_eq_some_iff.1 l1).1
    refine ⟨_, run_beginRound l1 rfl, ?_⟩
    have l2 : (Va.putObj L (.loop { rc .ready none with state := .busy })).heap[L]? = some (.loop { rc .ready none with state := .busy }) := World.putObj_heap_same s1
    have d2 : (Va.putObj L (.loop { rc .ready none with state := .busy })).heap[w.heap.size]? = some (.deferred (some [])) := (World.putObj_heap_other (by omega)).trans d1
    refine wpIn_mono (hbody _ pre x a' _ (by omega) ((hAx pre x a').putObj (s := ()) _ k3 (by omega) l1 rfl)) ?_
    intro e a3 V3 hp
    cases e with
    | normal =>
      obtain ⟨m1, m2, m3⟩ := hp
      have l3 := m1.same _ _ (show w.heap.size ≤ L by omega) l2 rfl
      have d3 := m1.same _ _ (Nat.le_refl _) d2 rfl
      have s3 : L < V3.heap.size := (Array.getElem?_eq_some_iff.1 l3).1
      refine ⟨_, _, run_endRound (P := P) none l3, .inl ⟨rfl, ⟨hI.putObj _ m3 (by omega) l3 rfl, World.putObj_heap_same s3, (World.putObj_heap_other (by omega)).trans d3⟩, ?_⟩⟩
      exact hKt k2 (hKt (hKt (hKb pre x a' _ _ _ _ (.inl k3) (by omega) l1 rfl rfl) m2) (hKb pre x a' _ _ _ _ (.inr m3) (by omega) l3 rfl rfl))
    | _ => exact hp.elim
  · rintro e W2 ⟨⟨v, rfl⟩, ⟨xs, hs, hi, hl, hk⟩ | ⟨pre, hf⟩⟩
    · exact ⟨none, _, run_endLoop (P := P) hl (by simp [rc]), hdone _ xs _ (Nat.le_refl _) (hS.putObj _ hs (by omega) hl rfl) (hI.putObj _ hi (by omega) hl rfl) ((World.putObj_heap_other (by omega)).trans hk)⟩
    · exact hf.elim
end Go.Proofs.Ytflhgphjkhplmaa.R
