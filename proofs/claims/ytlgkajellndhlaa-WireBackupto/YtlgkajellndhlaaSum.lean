/- The layer's check sum and the model's, walked over any bytes. -/
import Derived.Test.YtlgkajellndhlaaProg
import Derived.Test.YtlgkajellndhlaaCrc
import Derived.WalkKit
import Derived.WalkSpells
import Derived.WalkLawsBesides
import Derived.Handy
namespace Go.Proofs.Ytlgkajellndhlaa
open Go.RowKit

theorem ret_int {k : IntKind} {a b : Int} (h : a = b) : Ending.returned (.int k a) = .returned (.int k b) := by rw [h]

/-- n bits. -/
def stN : Nat → Int → Int
  | 0, r => r
  | n + 1, r => stI (stN n r)
theorem stN_bd (r : Int) (h0 : 0 ≤ r) (h1 : r < 4294967296) : ∀ n, 0 ≤ stN n r ∧ stN n r < 4294967296
  | 0 => ⟨h0, h1⟩
  | n + 1 => st_bd _ (stN_bd r h0 h1 n).1 (stN_bd r h0 h1 n).2
theorem stN_8 (r : Int) : stN 8 r = byI r := rfl

set_option maxHeartbeats 400000 in
theorem sumByte_any (r : Int) (w : World) (h0 : 0 ≤ r) (h1 : r < 4294967296) : Calls Try.prog 41 #[.int .u32 r] w fun e w' => e = .returned (.int .u32 (byI r)) ∧ w' = w := by
  go_enter Try.func41, Try.ntmps41
  go_wp2
  go_loop [0, 4] (fun s i => ∃ k : Nat, k ≤ 8 ∧ i = .int .i64 k ∧ s = .int .u32 (stN k r)) (fun _ i => 8 - (intOf i).toNat)
  case atStart => exact ⟨0, by omega, rfl, rfl⟩
  case round =>
    obtain ⟨k, hk, rfl, rfl⟩ := hrel
    obtain ⟨b0, b1⟩ := stN_bd r h0 h1 k
    have HS : Hid (stN (k + 1) r = stI (stN k r)) := rfl
    by_cases hlt : k < 8
    · have hlt' : (k : Int) < 8 := by omega
      generalize stN k r = x at b0 b1 HS
      have hl := low_bit x b0 b1
      by_cases c : x % 2 = 1
      · have c' : (x % 2 == 1) = true := by simpa using c
        have HX : Hid (stI x = bits .xor .u32 (x / 2) 2197175160) := by show _ = _; unfold stI; rw [if_pos c]
        clear c
        go_wp2
        go_round
        case rel => exact ⟨k + 1, by omega, by go_num, by rw [HS.out, HX.out]⟩
        case measure => simp [intOf]; omega
      · have c' : (x % 2 == 1) = false := by simpa using c
        have HX : Hid (stI x = x / 2) := by show _ = _; unfold stI; rw [if_neg c]
        clear c
        go_wp2
        go_round
        case rel => exact ⟨k + 1, by omega, by go_num, by rw [HS.out, HX.out]⟩
        case measure => simp [intOf]; omega
    · have : k = 8 := by omega
      subst this
      go_wp2
      go_ret
      exact ⟨ret_int (stN_8 r), rfl⟩

theorem take_snoc (zs : List Int) (k : Nat) (h : k < zs.length) : zs.take (k + 1) = zs.take k ++ [zs.getD k 0] := by
  rw [List.take_succ_eq_append_getElem h, List.getD_eq_getElem?_getD, List.getElem?_eq_getElem h]; rfl
theorem byt_take {zs : List Int} (h : Byt zs) (k : Nat) : Byt (zs.take k) := fun c hc => h c (List.mem_of_mem_take hc)
theorem byt_at {zs : List Int} (h : Byt zs) (k : Nat) (hk : k < zs.length) : 0 ≤ zs.getD k 0 ∧ zs.getD k 0 ≤ 255 := by
  rw [List.getD_eq_getElem?_getD, List.getElem?_eq_getElem hk]
  exact h _ (List.getElem_mem hk)

/-- What a sum comes to, of a register. -/
def cpI (r : Int) : Int := bits .xor .u32 IntKind.u32.max r

set_option maxHeartbeats 400000 in
theorem sum_row (b off len cap : Nat) (zs : List Int) (w : World) (hl : len ≤ zs.length) (hm : (len : Int) ≤ 9223372036854775806) (hz : Byt zs)
    (hc : ∀ i, i < len → w.cell? ⟨b, off + i, none⟩ = some (.int .u8 (zs.getD i 0))) :
    Calls Try.prog 30 #[.slice (some ⟨b, off, none⟩) len cap] w fun e w' => e = .returned (.int .u32 (cpI (crI (zs.take len) 4294967295))) ∧ w' = w := by
  go_enter Try.func30, Try.ntmps30
  go_wp2
  go_loop [3, 8] (fun s i => ∃ k : Nat, k ≤ len ∧ i = .int .i64 k ∧ s = .int .u32 (crI (zs.take k) 4294967295)) (fun _ i => len - (intOf i).toNat)
  case atStart => exact ⟨0, Nat.zero_le _, rfl, rfl⟩
  case round =>
    obtain ⟨k, hk, rfl, rfl⟩ := hrel
    obtain ⟨b0, b1⟩ := cr_bd (zs.take k) (byt_take hz k) 4294967295 (by omega) (by omega)
    by_cases hlt : k < len
    · have hck := hc k hlt
      obtain ⟨z0, z1⟩ := byt_at hz k (by omega)
      have HT : Hid (crI (zs.take (k + 1)) 4294967295 = byI (bits .xor .u32 (crI (zs.take k) 4294967295) (zs.getD k 0))) := by
        show _ = _
        rw [take_snoc zs k (by omega), cr_snoc]
      clear hc
      generalize crI (zs.take k) 4294967295 = S at b0 b1 HT ⊢
      generalize zs.getD k 0 = z at hck z0 z1 HT
      obtain ⟨y0, y1⟩ := xor_bd S z b0 b1 z0 (by omega)
      go_wp2_with (go_at_call 41; refine (sumByte_any _ _ y0 y1).mono ?_; rintro e w' ⟨rfl, rfl⟩)
      go_round
      case rel => exact ⟨k + 1, by omega, by go_num, by rw [HT.out]⟩
      case measure => simp [intOf]; omega
    · have : k = len := by omega
      subst this
      go_wp2
      go_ret
      exact ⟨rfl, rfl⟩

theorem cp_inj (r s : Int) (h0 : 0 ≤ r) (h1 : r < 4294967296) (g0 : 0 ≤ s) (g1 : s < 4294967296) (e : cpI r = cpI s) : r = s :=
  xor_right r s IntKind.u32.max h0 h1 g0 g1 (by decide) (by decide) e

theorem sum_none (a : Option Addr) (cap : Nat) (w : World) : Calls Try.prog 30 #[.slice a 0 cap] w fun e w' => e = .returned (.int .u32 (cpI 4294967295)) ∧ w' = w := by
  go_enter Try.func30, Try.ntmps30
  go_wp2
  go_rounds 1
  go_ret
  exact ⟨rfl, rfl⟩

end Go.Proofs.Ytlgkajellndhlaa
