import Derived.Test.YtflhgphjkhplmaaML04
import Derived.BigQuiet
/- The model's Get: where the layer's own Get reads a number, it reads the same one; else it answers an error. -/
namespace Go.Proofs.Ytflhgphjkhplmaa.W
open Go.RowKit
set_option linter.unusedVariables false
set_option linter.unusedSimpArgs false

variable {w w' : World} {v : Value} {zs : List Int}
theorem jv_small : ∀ (l : List Int), l.length ≤ 9 → jv l < (128 : Int) ^ l.length
  | [], _ => by simp [jv]
  | c :: l, h => by
    simp only [List.length_cons] at h
    have h1 := jv_small l (by omega)
    have h2 := (jv_bd l).1
    have hp : (128 : Int) ^ (l.length + 1) = 128 ^ l.length * 128 := Int.pow_succ _ _
    simp only [jv, List.length_cons]
    have h3 : jv l * 128 % 18446744073709551616 ≤ jv l * 128 := by omega
    rw [hp]
    omega
theorem jv_snoc : ∀ (l : List Int) (c : Int), l.length ≤ 9 → 0 ≤ c → (l.length = 9 → c ≤ 1) → jv (l ++ [c]) = jv l + (c % 128) * (128 : Int) ^ l.length
  | [], c, _, h0, _ => by simp [jv]
  | d :: l, c, h, h0, h9 => by
    simp only [List.length_cons] at h h9
    have ih := jv_snoc l c (by omega) h0 (fun e => by omega)
    have h1 := jv_small l (by omega)
    have h2 := (jv_bd l).1
    rw [List.cons_append, jv, jv, ih, List.length_cons, Int.pow_succ]
    have hk : l.length = 0 ∨ l.length = 1 ∨ l.length = 2 ∨ l.length = 3 ∨ l.length = 4 ∨ l.length = 5 ∨ l.length = 6 ∨ l.length = 7 ∨ l.length = 8 := by omega
    rcases hk with e | e | e | e | e | e | e | e | e <;> rw [e] at h1 ⊢ <;> simp only [Int.reducePow] at h1 ⊢
    all_goals first | omega | (have := h9 (by omega); omega)
theorem bits_or_mul (X d : Int) (K : Nat) (hK : K ≤ 9) (x0 : 0 ≤ X) (x1 : X < (128 : Int) ^ K) (d0 : 0 ≤ d) (d1 : d < 128) (d9 : K = 9 → d ≤ 1) : bits .or .u64 X (d * (128 : Int) ^ K) = X + d * (128 : Int) ^ K := by
  obtain ⟨m, rfl⟩ := Int.eq_ofNat_of_zero_le x0
  obtain ⟨n, rfl⟩ := Int.eq_ofNat_of_zero_le d0
  have hp : (128 : Nat) ^ K = 2 ^ (7 * K) := by rw [Nat.pow_mul]
  have hm : m < 2 ^ (7 * K) := by
    rw [← hp]
    have : ((m : Nat) : Int) < ((128 ^ K : Nat) : Int) := by rw [Int.natCast_pow]; exact x1
    omega
  have hb : m < 18446744073709551616 ∧ n * 128 ^ K < 18446744073709551616 := by
    rw [hp]
    have hk : K = 0 ∨ K = 1 ∨ K = 2 ∨ K = 3 ∨ K = 4 ∨ K = 5 ∨ K = 6 ∨ K = 7 ∨ K = 8 ∨ K = 9 := by omega
    rcases hk with e | e | e | e | e | e | e | e | e | e <;> subst e <;> simp only [Nat.reduceMul, Nat.reducePow] at hm ⊢
    all_goals first | omega | (have := d9 rfl; omega)
  have h := bits_or_u64_nat m (n * 128 ^ K) hb.1 hb.2
  have h2 := Nat.two_pow_add_eq_or_of_lt hm n
  have e : ((n * 128 ^ K : Nat) : Int) = (n : Int) * (128 : Int) ^ K := by rw [Int.natCast_mul, Int.natCast_pow]; rfl
  rw [e] at h
  rw [h, Nat.or_comm, hp, Nat.mul_comm n, ← h2, ← hp, Int.natCast_add, Nat.mul_comm, e, Int.add_comm]
theorem or_step (X x M : Int) (K : Nat) (hK : K ≤ 9) (hM : M = (128 : Int) ^ K) (x0 : 0 ≤ X) (x1 : X < (128 : Int) ^ K) (c0 : 0 ≤ x) (c1 : x ≤ 255) (c9 : K = 9 → x ≤ 1) :
    bits .or .u64 X (IntKind.u64.wrap (IntKind.u64.wrap (bits .and .u8 x 127) * M)) = X + (x % 128) * (128 : Int) ^ K := by
  rw [and_127 x c0 c1, hM]
  have e1 : IntKind.u64.wrap (x % 128) = x % 128 := by rw [IntKind.wrap_u64]; omega
  have e2 : IntKind.u64.wrap (x % 128 * (128 : Int) ^ K) = x % 128 * (128 : Int) ^ K := by
    rw [IntKind.wrap_u64]
    have hk : K = 0 ∨ K = 1 ∨ K = 2 ∨ K = 3 ∨ K = 4 ∨ K = 5 ∨ K = 6 ∨ K = 7 ∨ K = 8 ∨ K = 9 := by omega
    rcases hk with e | e | e | e | e | e | e | e | e | e <;> subst e <;> simp only [Int.reducePow]
    all_goals first | omega | (have := c9 rfl; omega)
  rw [e1, e2]
  exact bits_or_mul X (x % 128) K hK x0 x1 (by omega) (by omega) (fun e => by have := c9 e; omega)
theorem getI_err {zs : List Int} {at' : Nat} (h : scan (zs.drop at') = none ∨ ∃ n, scan (zs.drop at') = some n ∧ (10 < n ∨ (n = 10 ∧ 1 < zs.getD (at' + 9) 0))) : (getI zs at').2.2 ≠ 0 := by
  unfold getI
  rcases h with h | ⟨n, h, hn⟩
  · rw [h]; simp
  · rw [h]; simp only; rw [if_pos hn]; simp
set_option maxRecDepth 20000 in
set_option maxHeartbeats 4000000 in
theorem rget_any (h : Bz w v zs) (at' : Nat) (ha : at' ≤ zs.length) : Calls Try.prog 68 #[v, .int .i64 (at' : Int)] w fun e w' => (∃ x y z : Int, e = .returned (.tuple #[.int .u64 x, .int .i64 y, .int .i64 z]) ∧ ((getI zs at').2.2 = 0 → getI zs at' = (x, y, z)) ∧ ((getI zs at').2.2 ≠ 0 → z ≠ 0)) ∧ w' = w := by
  obtain ⟨a, c, hv, hc, -, hC⟩ := h.ex
  have hs := h.small
  have hb := h.byt
  subst hv
  obtain ⟨N, hN⟩ : ∃ N, zs.length = N := ⟨_, rfl⟩
  have H0 : Hid (zs.length = N ∧ Byt zs ∧ at' ≤ N) := ⟨hN, hb, by omega⟩
  have HC : Hid (∀ i x, zs[i]? = some x → ∃ b off, a = some ⟨b, off, none⟩ ∧ w.cell? ⟨b, off + i, none⟩ = some (.int .u8 x)) := hC
  rw [hN]
  have n1 : (N : Int) ≤ 2000000 := by omega
  have n2 : (at' : Int) ≤ (N : Int) := by omega
  clear h hc hC hs hb hN ha
  go_enter Try.func68, Try.ntmps68
  go_wp2_with fail
  go_loop [7, 8, 9] (fun n i cc => ∃ k : Nat, k ≤ 10 ∧ i = .int .i64 (k : Int) ∧ at' + k ≤ N ∧ n = .int .u64 (jv ((zs.drop at').take k)) ∧ Hid (scan (zs.drop at') = (scan (zs.drop (at' + k))).map (· + k))) (fun n i cc => 10 - (intOf i).toNat)
  case atStart => exact ⟨0, by omega, rfl, by omega, by simp [jv], by first | exact trivial | (show Hid _; simp; trivial)⟩
  case round =>
    obtain ⟨k, hk, rfl, hle, rfl, HS⟩ := hrel
    have hk' : k = 0 ∨ k = 1 ∨ k = 2 ∨ k = 3 ∨ k = 4 ∨ k = 5 ∨ k = 6 ∨ k = 7 ∨ k = 8 ∨ k = 9 ∨ k = 10 := by omega
    by_cases hlt : at' + k < N
    · obtain ⟨x, hx⟩ : ∃ x, zs[at' + k]? = some x := ⟨_, List.getElem?_eq_getElem (by have := H0.out.1; omega)⟩
      obtain ⟨b, off, rfl, hcell⟩ := HC.out _ x hx
      obtain ⟨x0, x1⟩ := H0.out.2.1 x (List.mem_of_getElem? hx)
      obtain ⟨X, hX⟩ : ∃ X, jv ((zs.drop at').take k) = X := ⟨_, rfl⟩
      have X0 : 0 ≤ X := by rw [← hX]; exact (jv_bd _).1
      rw [hX]
      have hK9 : k ≤ 9 ∨ k = 10 := by omega
      have hlen : ((zs.drop at').take k).length = k := by simp; have := H0.out.1; omega
      have hsn : (zs.drop at').take (k + 1) = (zs.drop at').take k ++ [x] := by rw [List.take_add_one, List.getElem?_drop, hx]; rfl
      have HJ : Hid (k ≤ 9 → (k = 9 → x ≤ 1) → jv ((zs.drop at').take (k + 1)) = X + (x % 128) * (128 : Int) ^ k ∧ X < (128 : Int) ^ k) := fun h9 hx9 => by
        have e := jv_snoc ((zs.drop at').take k) x (by omega) x0 (fun e => hx9 (by omega))
        have e2 := jv_small ((zs.drop at').take k) (by omega)
        rw [hlen, hX] at e e2
        rw [hsn]
        exact ⟨e, e2⟩
      have hD : zs.getD (at' + k) 0 = x := by rw [List.getD_eq_getElem?_getD, hx]; rfl
      have HGT : Hid (x < 128 → scan (zs.drop at') = some (k + 1)) := fun hc => by
        rw [HS.out, scan_hit zs (at' + k) (by have := H0.out.1; omega) (by rw [hD]; exact hc)]
        simp; omega
      have HGN : Hid (¬ x < 128 → scan (zs.drop at') = (scan (zs.drop (at' + (k + 1)))).map (· + (k + 1))) := fun hc => by
        rw [HS.out, scan_miss zs (at' + k) (by have := H0.out.1; omega) (by rw [hD]; exact hc), Option.map_map, show at' + k + 1 = at' + (k + 1) by omega]
        congr 1
        funext y
        simp
        omega
      have HD : Hid (zs.getD (at' + k) 0 = x ∧ 0 ≤ X ∧ at' + k < N) := ⟨hD, X0, hlt⟩
      clear hX X0 hlen hsn hD hx HS
      rcases hk' with rfl | rfl | rfl | rfl | rfl | rfl | rfl | rfl | rfl | rfl | rfl
      · have g1 : (at' : Int) + 0 < (N : Int) := by omega
        rw [Nat.add_zero] at hcell
        have g1' : (at' : Int) < (N : Int) := by omega
        clear g1
        clear hlt hle hk hK9
        have HV : Hid (bits .or .u64 X (IntKind.u64.wrap (IntKind.u64.wrap (bits .and .u8 x 127) * 1)) = jv ((zs.drop at').take (0 + 1))) := by
          show _ = _
          obtain ⟨j1, j2⟩ := HJ.out (by decide) (fun e => by omega)
          rw [j1]
          exact or_step X x 1 0 (by decide) (by decide) HD.out.2.1 j2 x0 x1 (fun e => by omega)
        by_cases hc : x < 128
        · have HG : Hid (getI zs at' = (jv ((zs.drop at').take (0 + 1)), ((at' + (0 + 1) : Nat) : Int), 0)) := by
            show _ = _
            unfold getI
            rw [HGT.out hc]
            simp only
            rw [if_neg]
            omega
          clear HGT HGN HJ
          go_wp2_with fail
          try rw [Exit.noGoto_ret]
          go_ret3
          refine ⟨⟨_, _, _, rfl, fun _ => ?_, fun h => absurd (by rw [HG.out]) h⟩, rfl⟩
          rw [HG.out, ← HV.out]
          simp only [Prod.mk.injEq]
          exact ⟨by first | rfl | simp, by first | (simp; done) | (simp; omega), by first | trivial | rfl⟩
        · have HN2 : Hid (scan (zs.drop at') = (scan (zs.drop (at' + (0 + 1)))).map (· + (0 + 1))) := HGN.out hc
          clear HGT HGN HJ
          go_wp2_with fail
          go_round
          case rel => exact ⟨0 + 1, by decide, rfl, by have := HD.out.2.2; omega, by first | (rw [← HV.out]; done) | (rw [← HV.out]; rfl) | (rw [← HV.out]; simp), HN2⟩
          case measure => simp [intOf]
      · have g1 : (at' : Int) + 1 < (N : Int) := by omega
        clear hlt hle hk hK9
        have HV : Hid (bits .or .u64 X (IntKind.u64.wrap (IntKind.u64.wrap (bits .and .u8 x 127) * 128)) = jv ((zs.drop at').take (1 + 1))) := by
          show _ = _
          obtain ⟨j1, j2⟩ := HJ.out (by decide) (fun e => by omega)
          rw [j1]
          exact or_step X x 128 1 (by decide) (by decide) HD.out.2.1 j2 x0 x1 (fun e => by omega)
        by_cases hc : x < 128
        · have HG : Hid (getI zs at' = (jv ((zs.drop at').take (1 + 1)), ((at' + (1 + 1) : Nat) : Int), 0)) := by
            show _ = _
            unfold getI
            rw [HGT.out hc]
            simp only
            rw [if_neg]
            omega
          clear HGT HGN HJ
          go_wp2_with fail
          try rw [Exit.noGoto_ret]
          go_ret3
          refine ⟨⟨_, _, _, rfl, fun _ => ?_, fun h => absurd (by rw [HG.out]) h⟩, rfl⟩
          rw [HG.out, ← HV.out]
          simp only [Prod.mk.injEq]
          exact ⟨by first | rfl | simp, by first | (simp; done) | (simp; omega), by first | trivial | rfl⟩
        · have HN2 : Hid (scan (zs.drop at') = (scan (zs.drop (at' + (1 + 1)))).map (· + (1 + 1))) := HGN.out hc
          clear HGT HGN HJ
          go_wp2_with fail
          go_round
          case rel => exact ⟨1 + 1, by decide, rfl, by have := HD.out.2.2; omega, by first | (rw [← HV.out]; done) | (rw [← HV.out]; rfl) | (rw [← HV.out]; simp), HN2⟩
          case measure => simp [intOf]
      · have g1 : (at' : Int) + 2 < (N : Int) := by omega
        clear hlt hle hk hK9
        have HV : Hid (bits .or .u64 X (IntKind.u64.wrap (IntKind.u64.wrap (bits .and .u8 x 127) * 16384)) = jv ((zs.drop at').take (2 + 1))) := by
          show _ = _
          obtain ⟨j1, j2⟩ := HJ.out (by decide) (fun e => by omega)
          rw [j1]
          exact or_step X x 16384 2 (by decide) (by decide) HD.out.2.1 j2 x0 x1 (fun e => by omega)
        by_cases hc : x < 128
        · have HG : Hid (getI zs at' = (jv ((zs.drop at').take (2 + 1)), ((at' + (2 + 1) : Nat) : Int), 0)) := by
            show _ = _
            unfold getI
            rw [HGT.out hc]
            simp only
            rw [if_neg]
            omega
          clear HGT HGN HJ
          go_wp2_with fail
          try rw [Exit.noGoto_ret]
          go_ret3
          refine ⟨⟨_, _, _, rfl, fun _ => ?_, fun h => absurd (by rw [HG.out]) h⟩, rfl⟩
          rw [HG.out, ← HV.out]
          simp only [Prod.mk.injEq]
          exact ⟨by first | rfl | simp, by first | (simp; done) | (simp; omega), by first | trivial | rfl⟩
        · have HN2 : Hid (scan (zs.drop at') = (scan (zs.drop (at' + (2 + 1)))).map (· + (2 + 1))) := HGN.out hc
          clear HGT HGN HJ
          go_wp2_with fail
          go_round
          case rel => exact ⟨2 + 1, by decide, rfl, by have := HD.out.2.2; omega, by first | (rw [← HV.out]; done) | (rw [← HV.out]; rfl) | (rw [← HV.out]; simp), HN2⟩
          case measure => simp [intOf]
      · have g1 : (at' : Int) + 3 < (N : Int) := by omega
        clear hlt hle hk hK9
        have HV : Hid (bits .or .u64 X (IntKind.u64.wrap (IntKind.u64.wrap (bits .and .u8 x 127) * 2097152)) = jv ((zs.drop at').take (3 + 1))) := by
          show _ = _
          obtain ⟨j1, j2⟩ := HJ.out (by decide) (fun e => by omega)
          rw [j1]
          exact or_step X x 2097152 3 (by decide) (by decide) HD.out.2.1 j2 x0 x1 (fun e => by omega)
        by_cases hc : x < 128
        · have HG : Hid (getI zs at' = (jv ((zs.drop at').take (3 + 1)), ((at' + (3 + 1) : Nat) : Int), 0)) := by
            show _ = _
            unfold getI
            rw [HGT.out hc]
            simp only
            rw [if_neg]
            omega
          clear HGT HGN HJ
          go_wp2_with fail
          try rw [Exit.noGoto_ret]
          go_ret3
          refine ⟨⟨_, _, _, rfl, fun _ => ?_, fun h => absurd (by rw [HG.out]) h⟩, rfl⟩
          rw [HG.out, ← HV.out]
          simp only [Prod.mk.injEq]
          exact ⟨by first | rfl | simp, by first | (simp; done) | (simp; omega), by first | trivial | rfl⟩
        · have HN2 : Hid (scan (zs.drop at') = (scan (zs.drop (at' + (3 + 1)))).map (· + (3 + 1))) := HGN.out hc
          clear HGT HGN HJ
          go_wp2_with fail
          go_round
          case rel => exact ⟨3 + 1, by decide, rfl, by have := HD.out.2.2; omega, by first | (rw [← HV.out]; done) | (rw [← HV.out]; rfl) | (rw [← HV.out]; simp), HN2⟩
          case measure => simp [intOf]
      · have g1 : (at' : Int) + 4 < (N : Int) := by omega
        clear hlt hle hk hK9
        have HV : Hid (bits .or .u64 X (IntKind.u64.wrap (IntKind.u64.wrap (bits .and .u8 x 127) * 268435456)) = jv ((zs.drop at').take (4 + 1))) := by
          show _ = _
          obtain ⟨j1, j2⟩ := HJ.out (by decide) (fun e => by omega)
          rw [j1]
          exact or_step X x 268435456 4 (by decide) (by decide) HD.out.2.1 j2 x0 x1 (fun e => by omega)
        by_cases hc : x < 128
        · have HG : Hid (getI zs at' = (jv ((zs.drop at').take (4 + 1)), ((at' + (4 + 1) : Nat) : Int), 0)) := by
            show _ = _
            unfold getI
            rw [HGT.out hc]
            simp only
            rw [if_neg]
            omega
          clear HGT HGN HJ
          go_wp2_with fail
          try rw [Exit.noGoto_ret]
          go_ret3
          refine ⟨⟨_, _, _, rfl, fun _ => ?_, fun h => absurd (by rw [HG.out]) h⟩, rfl⟩
          rw [HG.out, ← HV.out]
          simp only [Prod.mk.injEq]
          exact ⟨by first | rfl | simp, by first | (simp; done) | (simp; omega), by first | trivial | rfl⟩
        · have HN2 : Hid (scan (zs.drop at') = (scan (zs.drop (at' + (4 + 1)))).map (· + (4 + 1))) := HGN.out hc
          clear HGT HGN HJ
          go_wp2_with fail
          go_round
          case rel => exact ⟨4 + 1, by decide, rfl, by have := HD.out.2.2; omega, by first | (rw [← HV.out]; done) | (rw [← HV.out]; rfl) | (rw [← HV.out]; simp), HN2⟩
          case measure => simp [intOf]
      · have g1 : (at' : Int) + 5 < (N : Int) := by omega
        clear hlt hle hk hK9
        have HV : Hid (bits .or .u64 X (IntKind.u64.wrap (IntKind.u64.wrap (bits .and .u8 x 127) * 34359738368)) = jv ((zs.drop at').take (5 + 1))) := by
          show _ = _
          obtain ⟨j1, j2⟩ := HJ.out (by decide) (fun e => by omega)
          rw [j1]
          exact or_step X x 34359738368 5 (by decide) (by decide) HD.out.2.1 j2 x0 x1 (fun e => by omega)
        by_cases hc : x < 128
        · have HG : Hid (getI zs at' = (jv ((zs.drop at').take (5 + 1)), ((at' + (5 + 1) : Nat) : Int), 0)) := by
            show _ = _
            unfold getI
            rw [HGT.out hc]
            simp only
            rw [if_neg]
            omega
          clear HGT HGN HJ
          go_wp2_with fail
          try rw [Exit.noGoto_ret]
          go_ret3
          refine ⟨⟨_, _, _, rfl, fun _ => ?_, fun h => absurd (by rw [HG.out]) h⟩, rfl⟩
          rw [HG.out, ← HV.out]
          simp only [Prod.mk.injEq]
          exact ⟨by first | rfl | simp, by first | (simp; done) | (simp; omega), by first | trivial | rfl⟩
        · have HN2 : Hid (scan (zs.drop at') = (scan (zs.drop (at' + (5 + 1)))).map (· + (5 + 1))) := HGN.out hc
          clear HGT HGN HJ
          go_wp2_with fail
          go_round
          case rel => exact ⟨5 + 1, by decide, rfl, by have := HD.out.2.2; omega, by first | (rw [← HV.out]; done) | (rw [← HV.out]; rfl) | (rw [← HV.out]; simp), HN2⟩
          case measure => simp [intOf]
      · have g1 : (at' : Int) + 6 < (N : Int) := by omega
        clear hlt hle hk hK9
        have HV : Hid (bits .or .u64 X (IntKind.u64.wrap (IntKind.u64.wrap (bits .and .u8 x 127) * 4398046511104)) = jv ((zs.drop at').take (6 + 1))) := by
          show _ = _
          obtain ⟨j1, j2⟩ := HJ.out (by decide) (fun e => by omega)
          rw [j1]
          exact or_step X x 4398046511104 6 (by decide) (by decide) HD.out.2.1 j2 x0 x1 (fun e => by omega)
        by_cases hc : x < 128
        · have HG : Hid (getI zs at' = (jv ((zs.drop at').take (6 + 1)), ((at' + (6 + 1) : Nat) : Int), 0)) := by
            show _ = _
            unfold getI
            rw [HGT.out hc]
            simp only
            rw [if_neg]
            omega
          clear HGT HGN HJ
          go_wp2_with fail
          try rw [Exit.noGoto_ret]
          go_ret3
          refine ⟨⟨_, _, _, rfl, fun _ => ?_, fun h => absurd (by rw [HG.out]) h⟩, rfl⟩
          rw [HG.out, ← HV.out]
          simp only [Prod.mk.injEq]
          exact ⟨by first | rfl | simp, by first | (simp; done) | (simp; omega), by first | trivial | rfl⟩
        · have HN2 : Hid (scan (zs.drop at') = (scan (zs.drop (at' + (6 + 1)))).map (· + (6 + 1))) := HGN.out hc
          clear HGT HGN HJ
          go_wp2_with fail
          go_round
          case rel => exact ⟨6 + 1, by decide, rfl, by have := HD.out.2.2; omega, by first | (rw [← HV.out]; done) | (rw [← HV.out]; rfl) | (rw [← HV.out]; simp), HN2⟩
          case measure => simp [intOf]
      · have g1 : (at' : Int) + 7 < (N : Int) := by omega
        clear hlt hle hk hK9
        have HV : Hid (bits .or .u64 X (IntKind.u64.wrap (IntKind.u64.wrap (bits .and .u8 x 127) * 562949953421312)) = jv ((zs.drop at').take (7 + 1))) := by
          show _ = _
          obtain ⟨j1, j2⟩ := HJ.out (by decide) (fun e => by omega)
          rw [j1]
          exact or_step X x 562949953421312 7 (by decide) (by decide) HD.out.2.1 j2 x0 x1 (fun e => by omega)
        by_cases hc : x < 128
        · have HG : Hid (getI zs at' = (jv ((zs.drop at').take (7 + 1)), ((at' + (7 + 1) : Nat) : Int), 0)) := by
            show _ = _
            unfold getI
            rw [HGT.out hc]
            simp only
            rw [if_neg]
            omega
          clear HGT HGN HJ
          go_wp2_with fail
          try rw [Exit.noGoto_ret]
          go_ret3
          refine ⟨⟨_, _, _, rfl, fun _ => ?_, fun h => absurd (by rw [HG.out]) h⟩, rfl⟩
          rw [HG.out, ← HV.out]
          simp only [Prod.mk.injEq]
          exact ⟨by first | rfl | simp, by first | (simp; done) | (simp; omega), by first | trivial | rfl⟩
        · have HN2 : Hid (scan (zs.drop at') = (scan (zs.drop (at' + (7 + 1)))).map (· + (7 + 1))) := HGN.out hc
          clear HGT HGN HJ
          go_wp2_with fail
          go_round
          case rel => exact ⟨7 + 1, by decide, rfl, by have := HD.out.2.2; omega, by first | (rw [← HV.out]; done) | (rw [← HV.out]; rfl) | (rw [← HV.out]; simp), HN2⟩
          case measure => simp [intOf]
      · have g1 : (at' : Int) + 8 < (N : Int) := by omega
        clear hlt hle hk hK9
        have HV : Hid (bits .or .u64 X (IntKind.u64.wrap (IntKind.u64.wrap (bits .and .u8 x 127) * 72057594037927936)) = jv ((zs.drop at').take (8 + 1))) := by
          show _ = _
          obtain ⟨j1, j2⟩ := HJ.out (by decide) (fun e => by omega)
          rw [j1]
          exact or_step X x 72057594037927936 8 (by decide) (by decide) HD.out.2.1 j2 x0 x1 (fun e => by omega)
        by_cases hc : x < 128
        · have HG : Hid (getI zs at' = (jv ((zs.drop at').take (8 + 1)), ((at' + (8 + 1) : Nat) : Int), 0)) := by
            show _ = _
            unfold getI
            rw [HGT.out hc]
            simp only
            rw [if_neg]
            omega
          clear HGT HGN HJ
          go_wp2_with fail
          try rw [Exit.noGoto_ret]
          go_ret3
          refine ⟨⟨_, _, _, rfl, fun _ => ?_, fun h => absurd (by rw [HG.out]) h⟩, rfl⟩
          rw [HG.out, ← HV.out]
          simp only [Prod.mk.injEq]
          exact ⟨by first | rfl | simp, by first | (simp; done) | (simp; omega), by first | trivial | rfl⟩
        · have HN2 : Hid (scan (zs.drop at') = (scan (zs.drop (at' + (8 + 1)))).map (· + (8 + 1))) := HGN.out hc
          clear HGT HGN HJ
          go_wp2_with fail
          go_round
          case rel => exact ⟨8 + 1, by decide, rfl, by have := HD.out.2.2; omega, by first | (rw [← HV.out]; done) | (rw [← HV.out]; rfl) | (rw [← HV.out]; simp), HN2⟩
          case measure => simp [intOf]
      · have g1 : (at' : Int) + 9 < (N : Int) := by omega
        clear hlt hle hk hK9
        by_cases c9 : x ≤ 1
        rotate_left
        · have HE : Hid ((getI zs at').2.2 ≠ 0) := by
            refine getI_err ?_
            by_cases hc : x < 128
            · exact .inr ⟨10, HGT.out hc, .inr ⟨rfl, by rw [HD.out.1]; omega⟩⟩
            · rw [HGN.out hc]
              cases hsc : scan (zs.drop (at' + 10)) with
              | none => exact .inl rfl
              | some n => exact .inr ⟨n + 10, rfl, .inl (by have := scan_le _ _ hsc; omega)⟩
          clear HGT HGN HJ
          go_wp2_with fail
          try rw [Exit.noGoto_ret]
          go_ret3
          exact ⟨⟨_, _, _, rfl, fun h => absurd h HE.out, fun _ => by decide⟩, rfl⟩
        have HV : Hid (bits .or .u64 X (IntKind.u64.wrap (IntKind.u64.wrap (bits .and .u8 x 127) * 9223372036854775808)) = jv ((zs.drop at').take (9 + 1))) := by
          show _ = _
          obtain ⟨j1, j2⟩ := HJ.out (by decide) (fun e => by exact c9)
          rw [j1]
          exact or_step X x 9223372036854775808 9 (by decide) (by decide) HD.out.2.1 j2 x0 x1 (fun e => by exact c9)
        by_cases hc : x < 128
        · have HG : Hid (getI zs at' = (jv ((zs.drop at').take (9 + 1)), ((at' + (9 + 1) : Nat) : Int), 0)) := by
            show _ = _
            unfold getI
            rw [HGT.out hc]
            simp only
            rw [if_neg]
            rintro (h | ⟨-, h⟩)
            · omega
            · rw [HD.out.1] at h; omega
          clear HGT HGN HJ
          go_wp2_with fail
          try rw [Exit.noGoto_ret]
          go_ret3
          refine ⟨⟨_, _, _, rfl, fun _ => ?_, fun h => absurd (by rw [HG.out]) h⟩, rfl⟩
          rw [HG.out, ← HV.out]
          simp only [Prod.mk.injEq]
          exact ⟨by first | rfl | simp, by first | (simp; done) | (simp; omega), by first | trivial | rfl⟩
        · omega
      · have HE : Hid ((getI zs at').2.2 ≠ 0) := by
          refine getI_err ?_
          by_cases hc : x < 128
          · exact .inr ⟨11, HGT.out hc, .inl (by decide)⟩
          · rw [HGN.out hc]
            cases hsc : scan (zs.drop (at' + 11)) with
            | none => exact .inl rfl
            | some n => exact .inr ⟨n + 11, rfl, .inl (by omega)⟩
        clear HGT HGN HJ hlt hle hk hK9
        go_wp2_with fail
        try rw [Exit.noGoto_ret]
        go_ret3
        exact ⟨⟨_, _, _, rfl, fun h => absurd h HE.out, fun _ => by decide⟩, rfl⟩
    · have HE : Hid ((getI zs at').2.2 ≠ 0) := by
        refine getI_err (.inl ?_)
        rw [HS.out, List.drop_of_length_le (by have := H0.out.1; omega)]
        rfl
      have g1 : ¬ (at' : Int) + (k : Int) < (N : Int) := by omega
      have g2 : (at' : Int) + (k : Int) ≤ 3000000 := by omega
      by_cases h10 : k < 10
      · have h10' : (k : Int) < 10 := by omega
        clear HS hk' hk hlt hle h10
        go_wp2_with fail
        try rw [Exit.noGoto_ret]
        go_ret3
        exact ⟨⟨_, _, _, rfl, fun h => absurd h HE.out, fun _ => by decide⟩, rfl⟩
      · have h10' : ¬ (k : Int) < 10 := by omega
        clear HS hk' hk hlt hle h10
        go_wp2_with fail
        try rw [Exit.noGoto_ret]
        go_ret3
        exact ⟨⟨_, _, _, rfl, fun h => absurd h HE.out, fun _ => by decide⟩, rfl⟩
end Go.Proofs.Ytflhgphjkhplmaa.W

/- The model's frame at the beginning of bytes. -/
namespace Go.Proofs.Ytflhgphjkhplmaa.W
open Go.RowKit
set_option linter.unusedVariables false
set_option linter.unusedSimpArgs false

variable {w w' : World} {v : Value} {zs : List Int}
def oneV (o : Option (Nat × List Int × Nat)) (rv : Value) : Value := match o with
  | none => .tuple #[.int .u64 0, .slice none 0 0, .int .i64 0]
  | some (n, r, e) => .tuple #[.int .u64 (n : Int), rv, .int .i64 (e : Int)]
theorem one_no {o : Option (Nat × List Int × Nat)} {w w' : World} (h : o = none) (hb : Below w.heap.size w w') : ∃ rv, Ending.returned (.tuple #[.int .u64 0, .slice none 0 0, .int .i64 0]) = .returned (oneV o rv) ∧ (∀ n r e, o = some (n, r, e) → Bz w' rv r) ∧ Below w.heap.size w w' := by
  subst h
  exact ⟨.slice none 0 0, rfl, fun _ _ _ h => (nomatch h), hb⟩
theorem drewN_below (w : World) (n : Nat) : Below w.heap.size w (w.drewN n) := ⟨rfl, rfl, rfl, Nat.le_refl _, fun _ _ => rfl⟩
set_option maxRecDepth 20000 in
set_option maxHeartbeats 4000000 in
theorem one_any (h : Bz w v zs) : Calls Try.prog 39 #[v] w fun e w' => ∃ rv, e = .returned (oneV (fatI zs 0) rv) ∧ (∀ n r e, fatI zs 0 = some (n, r, e) → Bz w' rv r) ∧ Below w.heap.size w w' := by
  obtain ⟨a, c, hv, hc, -⟩ := h.ex
  have hs := h.small
  subst hv
  have HG1 : Hid (Calls Try.prog 68 #[.slice a zs.length c, .int .i64 0] w fun e w' => (∃ x y z : Int, e = .returned (.tuple #[.int .u64 x, .int .i64 y, .int .i64 z]) ∧ ((getI zs 0).2.2 = 0 → getI zs 0 = (x, y, z)) ∧ ((getI zs 0).2.2 ≠ 0 → z ≠ 0)) ∧ w' = w) := rget_any h 0 (Nat.zero_le _)
  obtain ⟨N, hN⟩ : ∃ N, zs.length = N := ⟨_, rfl⟩
  rcases get_ok zs 0 with ⟨x, h1, h2⟩ | ⟨x, p, h1, h2, h3, h4, h5⟩
  · have HN : Hid (fatI zs 0 = none) := by
      show _ = _
      unfold fatI
      rw [h1]
      exact if_pos (by simp; omega)
    have HG : Hid (Calls Try.prog 68 #[.slice a N c, .int .i64 0] w fun e w' => ∃ x y z : Int, e = .returned (.tuple #[.int .u64 x, .int .i64 y, .int .i64 z]) ∧ ¬ z = 0 ∧ w' = w) := by
      rw [hN, h1] at HG1
      refine HG1.out.mono ?_
      rintro e w' ⟨⟨x', y', z', rfl, -, hz⟩, rfl⟩
      exact ⟨x', y', z', rfl, hz (by simp; omega), rfl⟩
    rw [hN]
    clear h hs hc h1 h2 hN HG1
    go_enter Try.func39, Try.ntmps39
    go_wp2_with (go_at_call 68; refine HG.out.mono ?_; rintro e w1 ⟨x1, y1, z1, rfl, hz1, hw1⟩; rw [hw1]; clear hw1)
    go_ret3
    exact one_no HN.out (Below.refl _ _)
  · have HGA : Hid (Calls Try.prog 68 #[.slice a N c, .int .i64 0] w fun e w' => e = .returned (.tuple #[.int .u64 x, .int .i64 (p : Int), .int .i64 0]) ∧ w' = w) := by
      rw [hN, h1] at HG1
      refine HG1.out.mono ?_
      rintro e w' ⟨⟨x', y', z', rfl, hz, -⟩, rfl⟩
      have := hz rfl
      simp only [Prod.mk.injEq] at this
      obtain ⟨rfl, rfl, rfl⟩ := this
      exact ⟨rfl, rfl⟩
    have HG2 : Hid (Calls Try.prog 68 #[.slice a zs.length c, .int .i64 (p : Int)] w fun e w' => (∃ x y z : Int, e = .returned (.tuple #[.int .u64 x, .int .i64 y, .int .i64 z]) ∧ ((getI zs p).2.2 = 0 → getI zs p = (x, y, z)) ∧ ((getI zs p).2.2 ≠ 0 → z ≠ 0)) ∧ w' = w) := rget_any h p h5
    rw [hN] at HG2
    clear HG1
    rcases get_ok zs p with ⟨x2, k1, k2⟩ | ⟨s, q, k1, k2, k3, k4, k5⟩
    · have HN : Hid (fatI zs 0 = none) := by
        show _ = _
        unfold fatI
        rw [h1]
        simp only [Int.toNat_natCast]
        rw [k1]
        rw [if_neg (by simp), if_pos (by simp; omega)]
      have HG : Hid (Calls Try.prog 68 #[.slice a N c, .int .i64 (p : Int)] w fun e w' => ∃ x y z : Int, e = .returned (.tuple #[.int .u64 x, .int .i64 y, .int .i64 z]) ∧ ¬ z = 0 ∧ w' = w) := by
        rw [k1] at HG2
        refine HG2.out.mono ?_
        rintro e w' ⟨⟨x', y', z', rfl, -, hz⟩, rfl⟩
        exact ⟨x', y', z', rfl, hz (by simp; omega), rfl⟩
      rw [hN]
      clear h hs hc h1 h2 h3 h4 h5 hN HG2 k1 k2
      go_enter Try.func39, Try.ntmps39
      go_wp2_with (first | (go_at_call 68; refine HGA.out.mono ?_; rintro e w1 ⟨rfl, hw1⟩; rw [hw1]; clear hw1 HGA) | (go_at_call 68; refine HG.out.mono ?_; rintro e w1 ⟨x1, y1, z1, rfl, hz1, hw1⟩; rw [hw1]; clear hw1 HG))
      go_ret3
      exact one_no HN.out (Below.refl _ _)
    · obtain ⟨X, rfl⟩ : ∃ X : Nat, x = (X : Int) := ⟨x.toNat, by omega⟩
      obtain ⟨S, rfl⟩ : ∃ S : Nat, s = (S : Int) := ⟨s.toNat, by omega⟩
      have HGB : Hid (Calls Try.prog 68 #[.slice a N c, .int .i64 (p : Int)] w fun e w' => e = .returned (.tuple #[.int .u64 (S : Int), .int .i64 (q : Int), .int .i64 0]) ∧ w' = w) := by
        rw [k1] at HG2
        refine HG2.out.mono ?_
        rintro e w' ⟨⟨x', y', z', rfl, hz, -⟩, rfl⟩
        have := hz rfl
        simp only [Prod.mk.injEq] at this
        obtain ⟨rfl, rfl, rfl⟩ := this
        exact ⟨rfl, rfl⟩
      clear HG2
      have hfa : fatI zs 0 = if (zs.length : Int) - (q : Int) < (S : Int) then none else if frE X ((zs.drop q).take S).length ≠ 0 then none else if zs.take (frI X ((zs.drop q).take S)).length = frI X ((zs.drop q).take S) then some (X, (zs.drop q).take S, (frI X ((zs.drop q).take S)).length) else none := by
        unfold fatI
        rw [h1]
        simp only [Int.toNat_natCast]
        rw [k1]
        simp only [Int.toNat_natCast, List.drop_zero, Nat.zero_add]
        rw [if_neg (by simp), if_neg (by simp)]
      have hq0 : (q : Int) ≤ (N : Int) := by omega
      have hN2 : (N : Int) ≤ 2000000 := by omega
      have hNc : (N : Int) ≤ (c : Int) := by omega
      by_cases hbig : 65536 < S ∨ (N : Int) - (q : Int) < (S : Int)
      · have HN : Hid (fatI zs 0 = none) := by
          show _ = _
          rw [hfa]
          split
          · rfl
          · rw [if_pos]
            rw [show ((zs.drop q).take S).length = S by simp; omega]
            unfold frE
            split
            · decide
            · rw [if_pos (by omega)]; decide
        have hS0 : (S : Int) < 18446744073709551616 := by omega
        obtain ⟨sI, hsI⟩ : ∃ sI : Int, (S : Int) = sI := ⟨_, rfl⟩
        rw [hsI] at HGB hS0
        have hbig' : 65536 < sI ∨ (¬ 65536 < sI ∧ (N : Int) - (q : Int) < sI) := by omega
        have s0 : 0 ≤ sI := by omega
        rw [hN]
        clear h hs hc h1 h2 h3 h4 h5 hN k1 k2 k3 k4 k5 hbig hfa hsI
        rcases hbig' with g | ⟨g, g2⟩
        all_goals
          go_enter Try.func39, Try.ntmps39
          go_wp2_with (first | (go_at_call 68; refine HGA.out.mono ?_; rintro e w1 ⟨rfl, hw1⟩; rw [hw1]; clear hw1 HGA) | (go_at_call 68; refine HGB.out.mono ?_; rintro e w1 ⟨rfl, hw1⟩; rw [hw1]; clear hw1 HGB))
          go_ret3
          exact one_no HN.out (Below.refl _ _)
      · obtain ⟨rc, hrc⟩ : ∃ rc, (zs.drop q).take S = rc := ⟨_, rfl⟩
        have hrl : rc.length = S := by rw [← hrc]; simp; omega
        have hcut := h.cut q (q + S) (by omega) (by omega)
        rw [Nat.add_sub_cancel_left, hrc] at hcut
        obtain ⟨a2, ha2⟩ : ∃ a2, (if c = q then a else a.map (fun x => x.add q)) = a2 := ⟨_, rfl⟩
        rw [ha2] at hcut
        rw [hrc, hrl, if_neg (by omega)] at hfa
        have HF : Hid (Calls Try.prog 9 #[.int .u64 (X : Int), .slice a2 S (c - q)] w fun e w' => (∃ v', e = .returned (.tuple #[v', .int .i64 (frE X S)]) ∧ (frE X S = 0 → w'.ownsRow w.heap.size 5 1 v' (frI X rc).length (u8l (frI X rc))) ∧ (frE X S ≠ 0 → v' = .slice none 0 0)) ∧ Below w.heap.size w w') := by
          have := rframe_any X (by omega) hcut.src hcut.byt (by omega)
          rw [hrl] at this
          exact this
        have hqs : (q : Int) + (S : Int) ≤ (c : Int) := by omega
        have hqc : (q : Int) ≤ (c : Int) := by omega
        have hS2 : (S : Int) ≤ 65536 := by omega
        have hSS : (S : Int) ≤ (N : Int) - (q : Int) := by omega
        have HK : Hid (Bz w (.slice a N c) zs ∧ Bz w (.slice a2 S (c - q)) rc ∧ zs.length = N ∧ rc.length = S) := ⟨by rw [← hN]; exact h, hcut, hN, hrl⟩
        rw [hN]
        by_cases hE : frE X S ≠ 0
        · have HN : Hid (fatI zs 0 = none) := by show _ = _; rw [hfa, if_pos hE]
          have HF2 : Hid (Calls Try.prog 9 #[.int .u64 (X : Int), .slice a2 S (c - q)] w fun e w' => ∃ y, e = .returned (.tuple #[.slice none 0 0, .int .i64 y]) ∧ (y != 0) = true ∧ Hid (Below w.heap.size w w')) := by
            refine HF.out.mono ?_
            rintro e w2 ⟨⟨v2, rfl, -, hv⟩, hb⟩
            obtain rfl := hv hE
            exact ⟨_, rfl, by rw [bne_iff_ne]; exact hE, hb⟩
          clear h hs hc h1 h2 h3 h4 h5 hN k1 k2 k3 k4 k5 hbig hfa hrc hrl hcut HF hE
          go_enter Try.func39, Try.ntmps39
          go_wp2_with (first | (go_at_call 68; refine HGA.out.mono ?_; rintro e w1 ⟨rfl, hw1⟩; rw [hw1]; clear hw1 HGA) | (go_at_call 68; refine HGB.out.mono ?_; rintro e w1 ⟨rfl, hw1⟩; rw [hw1]; clear hw1 HGB) | (go_at_call 9; refine HF2.out.mono ?_; rintro e w2 ⟨y, rfl, hy, HB2⟩))
          go_quiet (fail)
          go_wp2_with fail
          go_ret3
          exact one_no HN.out (HB2.out.trans ((drewN_below w2 _).mono HB2.out.size))
        · have hE0 : frE X S = 0 := Classical.not_not.1 hE
          obtain ⟨fr, hfr⟩ : ∃ fr, frI X rc = fr := ⟨_, rfl⟩
          rw [hfr, hE0] at HF
          rw [hfr, hE0, if_neg (by simp)] at hfa
          have hfb : Byt fr := by rw [← hfr]; exact frI_byt hcut.byt
          obtain ⟨x1, x2⟩ := frE_ok hE0
          have hfl := frI_len (seq := X) (b := rc) (by omega) (by omega)
          rw [hfr] at hfl
          obtain ⟨L, hL⟩ : ∃ L, fr.length = L := ⟨_, rfl⟩
          rw [hL] at HF hfa hfl
          have HF2 : Hid (Calls Try.prog 9 #[.int .u64 (X : Int), .slice a2 S (c - q)] w fun e w' => ∃ a4 c4, e = .returned (.tuple #[.slice a4 L c4, .int .i64 0]) ∧ Hid (w'.ownsRow w.heap.size 5 1 (.slice a4 L c4) L (u8l fr) ∧ Below w.heap.size w w')) := by
            refine HF.out.mono ?_
            rintro e w2 ⟨⟨v2, rfl, h2, -⟩, hb2⟩
            have h3 := h2 rfl
            obtain ⟨a4, c4, rfl⟩ := own_slice h3
            exact ⟨a4, c4, rfl, h3, hb2⟩
          have hLi : (L : Int) ≤ 65560 := by omega
          obtain ⟨A, hA⟩ : ∃ A, bT fr = A := ⟨_, rfl⟩
          have HCF : Hid (∀ w2 a4 c4, Hid (w2.ownsRow w.heap.size 5 1 (.slice a4 L c4) L (u8l fr) ∧ Below w.heap.size w w2) → ∀ n, (convert 23 9 (.slice a4 L c4)).run Try.prog (w2.drewN n) = .ok (.string A) (w2.drewN n)) := fun w2 a4 c4 H n => by
            rw [← hA]
            exact (own_bz (v := .slice a4 L c4) (zs := fr) (by rw [hL]; exact H.out.1) hfb (by omega)).conv _ (drewN_below w2 n)
          by_cases hLN : N < L
          · have HN : Hid (fatI zs 0 = none) := by
              show _ = _
              rw [hfa, if_neg]
              intro e
              have := congrArg List.length e
              simp at this
              omega
            have hLN' : (N : Int) < (L : Int) := by omega
            clear h hs hc h1 h2 h3 h4 h5 hN k1 k2 k3 k4 k5 hbig hfa hrc hrl hcut HF hE hE0 hfr hfb x1 x2 hfl hL hLN HCF hA
            go_enter Try.func39, Try.ntmps39
            go_wp2_with (first | (go_at_call 68; refine HGA.out.mono ?_; rintro e w1 ⟨rfl, hw1⟩; rw [hw1]; clear hw1 HGA) | (go_at_call 68; refine HGB.out.mono ?_; rintro e w1 ⟨rfl, hw1⟩; rw [hw1]; clear hw1 HGB) | (go_at_call 9; refine HF2.out.mono ?_; rintro e w2 ⟨a4, c4, rfl, H2⟩))
            go_quiet (fail)
            go_wp2_with fail
            go_ret3
            exact one_no HN.out (H2.out.2.trans ((drewN_below w2 _).mono H2.out.2.size))
          · have hLN' : decide (N < L) = false := decide_eq_false hLN
            have hLc : (L : Int) ≤ (c : Int) := by omega
            have hcut3 := HK.out.1.cut0 L (by omega)
            obtain ⟨B, hB⟩ : ∃ B, bT (zs.take L) = B := ⟨_, rfl⟩
            have HCB : Hid (∀ w2, Below w.heap.size w w2 → ∀ n, (convert 23 9 (.slice a L c)).run Try.prog (w2.drewN n) = .ok (.string B) (w2.drewN n)) := fun w2 hb n => by
              rw [← hB]
              exact hcut3.conv _ (hb.trans ((drewN_below w2 n).mono hb.size))
            have hAB : (A.toList == B.toList) = decide (zs.take L = fr) := by
              rw [← hA, ← hB, bT_eq hfb hcut3.byt]
              exact decide_eq_decide.2 eq_comm
            by_cases hpx : zs.take L = fr
            · have HN : Hid (fatI zs 0 = some (X, rc, L)) := by show _ = _; rw [hfa, if_pos hpx]
              have hab : (A.toList == B.toList) = true := by rw [hAB]; exact decide_eq_true hpx
              clear h hs hc h1 h2 h3 h4 h5 hN k1 k2 k3 k4 k5 hbig hfa hrc hrl hcut HF hE hE0 hfr hfb x1 x2 hfl hL hLN hA hB hAB hpx hcut3
              go_enter Try.func39, Try.ntmps39
              go_wp2_with (first | (go_at_call 68; refine HGA.out.mono ?_; rintro e w1 ⟨rfl, hw1⟩; rw [hw1]; clear hw1 HGA) | (go_at_call 68; refine HGB.out.mono ?_; rintro e w1 ⟨rfl, hw1⟩; rw [hw1]; clear hw1 HGB) | (go_at_call 9; refine HF2.out.mono ?_; rintro e w2 ⟨a4, c4, rfl, H2⟩; (have t1 := HCF.out w2 a4 c4 H2); (have t2 := HCB.out w2 H2.out.2)))
              go_quiet (fail)
              go_wp2_with fail
              go_quiet (fail)
              go_wp2_with fail
              rename_i nq_1
              rw [Nat.add_sub_cancel_left]
              go_ret3
              have hb : Below w.heap.size w ((w2.drewN nq_1).drewN nq) := H2.out.2.trans (((drewN_below w2 _).trans (drewN_below (w2.drewN nq_1) nq)).mono H2.out.2.size)
              refine ⟨.slice a2 S (c - q), by rw [HN.out]; rfl, fun n r e he => ?_, hb⟩
              rw [HN.out] at he
              simp only [Option.some.injEq, Prod.mk.injEq] at he
              obtain ⟨-, rfl, -⟩ := he
              exact HK.out.2.1.newer hb
            · have HN : Hid (fatI zs 0 = none) := by show _ = _; rw [hfa, if_neg hpx]
              have hab : (A.toList == B.toList) = false := by rw [hAB]; exact decide_eq_false hpx
              clear h hs hc h1 h2 h3 h4 h5 hN k1 k2 k3 k4 k5 hbig hfa hrc hrl hcut HF hE hE0 hfr hfb x1 x2 hfl hL hLN hA hB hAB hpx hcut3
              go_enter Try.func39, Try.ntmps39
              go_wp2_with (first | (go_at_call 68; refine HGA.out.mono ?_; rintro e w1 ⟨rfl, hw1⟩; rw [hw1]; clear hw1 HGA) | (go_at_call 68; refine HGB.out.mono ?_; rintro e w1 ⟨rfl, hw1⟩; rw [hw1]; clear hw1 HGB) | (go_at_call 9; refine HF2.out.mono ?_; rintro e w2 ⟨a4, c4, rfl, H2⟩; (have t1 := HCF.out w2 a4 c4 H2); (have t2 := HCB.out w2 H2.out.2)))
              go_quiet (fail)
              go_wp2_with fail
              go_ret3
              exact one_no HN.out (H2.out.2.trans ((drewN_below w2 _).mono H2.out.2.size))
end Go.Proofs.Ytflhgphjkhplmaa.W

/- The sequence of good frames. -/
namespace Go.Proofs.Ytflhgphjkhplmaa.W
open Go Go.RowKit R
set_option linter.unusedVariables false
set_option linter.unusedSimpArgs false
attribute [local go_sem] Oper.semAt_some

theorem no_row {W W' : World} {q : Nat} (h : W.grownBy W' none) (hq : q < W.heap.size) : W'.heap[q]? = W.heap[q]? := h.block q hq (by simp)
theorem abides_below {β : Type} {B : Nat} {J : β → World → Prop} (h : AbidesFrom B J) {s : β} {A C : World} (hj : J s A) (hb : Below A.heap.size A C) : J s C :=
  h s A C none hj ⟨hb.os, hb.tape, hb.output, hb.size, fun q hq _ => hb.block q hq⟩ (fun r e => nomatch e)
set_option maxRecDepth 100000 in
set_option maxHeartbeats 4000000 in
theorem good_in (n l bx base : Nat) (v : Value) (zs : List Int) (J Jx : List El → World → Prop) (W : World) (hn : 3 ≤ n)
    (hA : AbidesFrom W.heap.size J) (hb0 : base ≤ W.heap.size) (hG : GB W bx v zs)
    (hY : ∀ pre x V0 V, J pre V0 → Below V0.heap.size V0 V → XE base pre x V0 V → YieldAt Fence.wide (n - 1) Try.prog l (elG x) V fun e V' =>
      (e = .returned (.bool true) ∧ J (pre ++ [x]) V' ∧ KE bx x V V') ∨ (e = .returned (.bool false) ∧ Jx (pre ++ [x]) V')) (h0 : J [] W) :
    CallsIn Fence.wide n Try.prog 66 #[.func (.yield l) #[] #[], .pointer (some ⟨bx, 0, none⟩)] W fun e W' => (∃ v, e = .returned v) ∧
      ((∃ xs : List El, (xs.map El.pl = goodI zs ∧ (∀ x ∈ xs, rowX base x W') ∧ KB bx W W') ∧ J xs W') ∨ ∃ pre, Jx pre W') := by
  obtain ⟨a, c, hv, -⟩ := hG.bz.ex
  obtain ⟨N, hN⟩ : ∃ N, zs.length = N := ⟨_, rfl⟩
  rw [hN] at hv
  subst hv
  have HG : Hid (GB W bx (.slice a N c) zs ∧ zs.length = N ∧ base ≤ W.heap.size ∧ AbidesFrom W.heap.size J) := ⟨hG, hN, hb0, hA⟩
  have ca : W.cell? ⟨bx, 0, none⟩ = some (.slice a N c) := by rw [cell_of_row _ _ _ _ _ _ hG.box]; rfl
  clear hG hN hb0 hA
  refine callsIn_of_wp Try.func66 rfl trivial ?_ rfl
  simp only [Try.ntmps66, List.size_toArray, List.length_cons, List.length_nil, Nat.reduceAdd, Nat.reduceSub, Array.replicate_succ, Array.replicate_zero, List.push_toArray, List.append_toArray, List.nil_append, List.cons_append]
  gi_wp2
  gi_loopw [3, 4] (fun x y wr => ∃ (pre : List El) (at' last k : Nat), Hid (At zs pre at' last k ∧ KB bx W wr ∧ (∀ x ∈ pre, rowX base x wr)) ∧ Hid (J pre wr) ∧ x = .int .u64 (last : Int) ∧ y = .int .i64 (at' : Int)) (fun x y _ => zs.length - (intOf y).toNat)
  case atStart => exact ⟨[], 0, 0, _, ⟨At.start zs, KB.refl _ _, fun x hx => nomatch hx⟩, h0, rfl, rfl⟩
  case round =>
    obtain ⟨pre, at', last, k, HA, HJ, rfl, rfl⟩ := hrel
    have hGr := HG.out.1.kb HA.out.2.1
    have ca : wr.cell? ⟨bx, 0, none⟩ = some (.slice a N c) := by rw [cell_of_row _ _ _ _ _ _ hGr.box]; rfl
    have HF : Hid (Calls Try.prog 67 #[.slice a N c, .int .i64 (at' : Int)] wr fun e w' => ∃ rv, e = .returned (fatV (fatI zs at') rv) ∧ (∀ n r e, fatI zs at' = some (n, r, e) → w'.ownsRow wr.heap.size 5 1 rv r.length (u8l r)) ∧ Below wr.heap.size wr w') := frameAt_any hGr.bz at' HA.out.1.le
    cases hf : fatI zs at' with
    | none =>
      rw [hf] at HF
      have HF2 : Hid (Calls Try.prog 67 #[.slice a N c, .int .i64 (at' : Int)] wr fun e w' => e = .returned (.tuple #[.agg #[.int .u64 0, .slice none 0 0], .int .i64 0, .bool false]) ∧ Hid (Below wr.heap.size wr w')) := HF.out.mono fun e w' ⟨rv, h1, h2, h3⟩ => ⟨h1, h3⟩
      have HE : Hid (pre.map El.pl = goodI zs) := HA.out.1.stop hf
      have hGlt : Hid (bx < wr.heap.size) := hGr.lt
      clear hf hGr HF
      gi_wp2_with (refine ⟨trivial, fun h => by simp [Fence.wide] at h, ?_⟩; gi_at_call 67; refine (callsIn_wide.2 HF2.out).mono ?_; rintro e w2 ⟨rfl, HB⟩)
      have hb : Below wr.heap.size wr (w2.alloc (.cells #[.int .u64 0, .slice none 0 0] 81)) := HB.out.trans ((bel1 w2 _).mono HB.out.size)
      have hlt := hGlt.out
      refine bodyPost_ret (results_none rfl _ _ _) rfl ?_
      exact ⟨⟨_, rfl⟩, .inl ⟨pre, ⟨HE.out, fun x hx => (KB.of (bx := bx) hb hlt).own (HA.out.2.2 x hx), HA.out.2.1.trans (KB.of hb hlt)⟩, abides_below HG.out.2.2.2 HJ.out hb⟩⟩
    | some q =>
      obtain ⟨m, r, e⟩ := q
      rw [hf] at HF
      obtain ⟨L, hL⟩ : ∃ L, r.length = L := ⟨_, rfl⟩
      have HF2 : Hid (Calls Try.prog 67 #[.slice a N c, .int .i64 (at' : Int)] wr fun x w' => ∃ ra rc, x = .returned (.tuple #[.agg #[.int .u64 (m : Int), .slice ra L rc], .int .i64 (e : Int), .bool true]) ∧ Hid (w'.ownsRow wr.heap.size 5 1 (.slice ra L rc) L (u8l r) ∧ Below wr.heap.size wr w')) := HF.out.mono fun x w' ⟨rv, h1, h2, h3⟩ => by
        have h4 := h2 m r e rfl
        rw [hL] at h4
        obtain ⟨ra, rc, rfl⟩ := own_slice h4
        exact ⟨ra, rc, h1, h4, h3⟩
      obtain ⟨f1, f2, f3, f4, f5, f6, f7⟩ := fatI_some hf
      have HFS : Hid (fatI zs at' = some (m, r, e) ∧ r.length = L ∧ at' < e ∧ e ≤ zs.length ∧ m < 18446744073709551616) := ⟨hf, hL, f7, f6, f2⟩
      obtain ⟨T, hT⟩ : ∃ T : Nat, (last + 1) % 18446744073709551616 = T := ⟨_, rfl⟩
      have HT : Hid ((last + 1) % 18446744073709551616 = T) := hT
      have hwr : IntKind.u64.wrap ((last : Int) + 1) = (T : Int) := by rw [← hT]; simp [IntKind.wrap_u64]
      have hGlt : Hid (bx < wr.heap.size) := hGr.lt
      by_cases hgo : 0 < at' ∧ m ≠ T
      · have HE : Hid (pre.map El.pl = goodI zs) := HA.out.1.other hf hgo.1 (by rw [hT]; exact hgo.2)
        have g1 : (0 : Int) < (at' : Int) := by omega
        have g2 : ((m : Int) == (T : Int)) = false := by rw [beq_eq_false_iff_ne]; omega
        have g2' : ¬ (m : Int) = (T : Int) := by omega
        clear hf hGr HF hL f1 f2 f3 f4 f5 f6 f7 hgo hT
        gi_wp2_with (refine ⟨trivial, fun h => by simp [Fence.wide] at h, ?_⟩; gi_at_call 67; refine (callsIn_wide.2 HF2.out).mono ?_; rintro x w2 ⟨ra, rc, rfl, HB⟩)
        have hb : Below wr.heap.size wr (w2.alloc (.cells #[.int .u64 (m : Int), .slice ra L rc] 81)) := HB.out.2.trans ((bel1 w2 _).mono HB.out.2.size)
        have hlt := hGlt.out
        refine bodyPost_ret (results_none rfl _ _ _) rfl ?_
        exact ⟨⟨_, rfl⟩, .inl ⟨pre, ⟨HE.out, fun x hx => (KB.of (bx := bx) hb hlt).own (HA.out.2.2 x hx), HA.out.2.1.trans (KB.of hb hlt)⟩, abides_below HG.out.2.2.2 HJ.out hb⟩⟩
      · have HNX : Hid (∀ rv g, ∃ k', At zs (pre ++ [⟨m, r, e, rv, g⟩]) e m k') := fun rv g => HA.out.1.next hf (by rw [hT]; exact hgo) rv g
        have hgo' : (at' : Int) ≤ 0 ∨ (0 < (at' : Int) ∧ T = m) := by omega
        clear hf hGr HF hL f1 f2 f3 f4 f5 f6 f7 hgo hT
        rcases hgo' with g1 | ⟨g1, rfl⟩
        · gi_wp2_with (refine ⟨trivial, fun h => by simp [Fence.wide] at h, ?_⟩; gi_at_call 67; refine (callsIn_wide.2 HF2.out).mono ?_; rintro x w2 ⟨ra, rc, rfl, HB⟩)
          have hbw : Below wr.heap.size wr (w2.alloc (.cells #[.int .u64 (m : Int), .slice ra L rc] 81)) := HB.out.2.trans ((bel1 w2 _).mono HB.out.2.size)
          have hnew := Go.heap_alloc_new w2 (.cells #[.int .u64 (m : Int), .slice ra L rc] 81 (0, 0))
          have hfew : pre.length ≤ 2000000 := by have h1 := HA.out.1.few; have h2 := HA.out.1.le; have h3 := HG.out.1.bz.small; omega
          have hsz : base ≤ wr.heap.size := by have h1 := HG.out.2.2.1; have h2 := HA.out.2.1.size; omega
          obtain ⟨fn, tmps, assign, body, hy, hR⟩ := hY pre ⟨m, r, e, .slice ra L rc, w2.heap.size⟩ wr _ HJ.out hbw ⟨hfew, HB.out.2.size, hnew, by unfold rowX; rw [HFS.out.2.1]; exact HB.out.1.alloc _, hsz⟩
          unfold elG at hy
          have HBW : Hid (Below wr.heap.size wr (w2.alloc (.cells #[.int .u64 (m : Int), .slice ra L rc] 81)) ∧ base ≤ wr.heap.size ∧ (w2.alloc (.cells #[.int .u64 (m : Int), .slice ra L rc] 81)).heap[w2.heap.size]? = some (.cells #[.int .u64 (m : Int), .slice ra L rc] 81 (0, 0))) := ⟨hbw, hsz, hnew⟩
          clear hbw hnew hsz hfew
          gi_wp2
          refine ⟨fun h => by simp [Fence.wide] at h, hR.mono ?_⟩
          rintro e2 W3 (⟨rfl, hJ3, hk3, hk4⟩ | ⟨rfl, hJx3⟩)
          · have hg3 := hk4.trans HBW.out.2.2
            have c3 : W3.cell? ⟨w2.heap.size, 0, none⟩ = some (.int .u64 (m : Int)) := by rw [cell_of_row _ _ _ _ _ _ hg3]; rfl
            have HN3 : Hid (J (pre ++ [⟨m, r, e, .slice ra L rc, w2.heap.size⟩]) W3 ∧ KB bx (w2.alloc (.cells #[.int .u64 (m : Int), .slice ra L rc] 81)) W3) := ⟨hJ3, hk3⟩
            clear hg3 hJ3 hk3 hk4
            gi_wp2
            go_roundw
            case rel =>
              obtain ⟨k', hk'⟩ := HNX.out (.slice ra L rc) w2.heap.size
              have hlt := hGlt.out
              have k1 : KB bx wr W3 := (KB.of HBW.out.1 hlt).trans HN3.out.2
              refine ⟨pre ++ [⟨m, r, e, .slice ra L rc, w2.heap.size⟩], e, m, k', ⟨hk', HA.out.2.1.trans k1, fun x hx => ?_⟩, (show J _ W3 from HN3.out.1), rfl, rfl⟩
              rcases List.mem_append.1 hx with hx | hx
              · exact k1.own (HA.out.2.2 x hx)
              · obtain rfl := List.mem_singleton.1 hx
                refine HN3.out.2.own ?_
                show World.ownsRow _ base 5 1 (.slice ra L rc) r.length (u8l r)
                rw [HFS.out.2.1]
                exact own_low (HB.out.1.alloc _) HBW.out.2.1
            case measure =>
              have := HFS.out
              simp [intOf]
              omega
          · gi_wp2
            refine bodyPost_ret (results_none rfl _ _ _) rfl ?_
            exact ⟨⟨_, rfl⟩, .inr ⟨_, hJx3⟩⟩
        · gi_wp2_with (refine ⟨trivial, fun h => by simp [Fence.wide] at h, ?_⟩; gi_at_call 67; refine (callsIn_wide.2 HF2.out).mono ?_; rintro x w2 ⟨ra, rc, rfl, HB⟩)
          have hbw : Below wr.heap.size wr (w2.alloc (.cells #[.int .u64 (T : Int), .slice ra L rc] 81)) := HB.out.2.trans ((bel1 w2 _).mono HB.out.2.size)
          have hnew := Go.heap_alloc_new w2 (.cells #[.int .u64 (T : Int), .slice ra L rc] 81 (0, 0))
          have hfew : pre.length ≤ 2000000 := by have h1 := HA.out.1.few; have h2 := HA.out.1.le; have h3 := HG.out.1.bz.small; omega
          have hsz : base ≤ wr.heap.size := by have h1 := HG.out.2.2.1; have h2 := HA.out.2.1.size; omega
          obtain ⟨fn, tmps, assign, body, hy, hR⟩ := hY pre ⟨T, r, e, .slice ra L rc, w2.heap.size⟩ wr _ HJ.out hbw ⟨hfew, HB.out.2.size, hnew, by unfold rowX; rw [HFS.out.2.1]; exact HB.out.1.alloc _, hsz⟩
          unfold elG at hy
          have HBW : Hid (Below wr.heap.size wr (w2.alloc (.cells #[.int .u64 (T : Int), .slice ra L rc] 81)) ∧ base ≤ wr.heap.size ∧ (w2.alloc (.cells #[.int .u64 (T : Int), .slice ra L rc] 81)).heap[w2.heap.size]? = some (.cells #[.int .u64 (T : Int), .slice ra L rc] 81 (0, 0))) := ⟨hbw, hsz, hnew⟩
          clear hbw hnew hsz hfew
          gi_wp2
          refine ⟨fun h => by simp [Fence.wide] at h, hR.mono ?_⟩
          rintro e2 W3 (⟨rfl, hJ3, hk3, hk4⟩ | ⟨rfl, hJx3⟩)
          · have hg3 := hk4.trans HBW.out.2.2
            have c3 : W3.cell? ⟨w2.heap.size, 0, none⟩ = some (.int .u64 (T : Int)) := by rw [cell_of_row _ _ _ _ _ _ hg3]; rfl
            have HN3 : Hid (J (pre ++ [⟨T, r, e, .slice ra L rc, w2.heap.size⟩]) W3 ∧ KB bx (w2.alloc (.cells #[.int .u64 (T : Int), .slice ra L rc] 81)) W3) := ⟨hJ3, hk3⟩
            clear hg3 hJ3 hk3 hk4
            gi_wp2
            go_roundw
            case rel =>
              obtain ⟨k', hk'⟩ := HNX.out (.slice ra L rc) w2.heap.size
              have hlt := hGlt.out
              have k1 : KB bx wr W3 := (KB.of HBW.out.1 hlt).trans HN3.out.2
              refine ⟨pre ++ [⟨T, r, e, .slice ra L rc, w2.heap.size⟩], e, T, k', ⟨hk', HA.out.2.1.trans k1, fun x hx => ?_⟩, (show J _ W3 from HN3.out.1), rfl, rfl⟩
              rcases List.mem_append.1 hx with hx | hx
              · exact k1.own (HA.out.2.2 x hx)
              · obtain rfl := List.mem_singleton.1 hx
                refine HN3.out.2.own ?_
                show World.ownsRow _ base 5 1 (.slice ra L rc) r.length (u8l r)
                rw [HFS.out.2.1]
                exact own_low (HB.out.1.alloc _) HBW.out.2.1
            case measure =>
              have := HFS.out
              simp [intOf]
              omega
          · gi_wp2
            refine bodyPost_ret (results_none rfl _ _ _) rfl ?_
            exact ⟨⟨_, rfl⟩, .inr ⟨_, hJx3⟩⟩
end Go.Proofs.Ytflhgphjkhplmaa.W
