/- How many bits a number takes: math/bits Len64 and LeadingZeros64, walked. -/
import Derived.Test.YtpobfcmbbabchaaXs
import Derived.Lib.BitFns
import Derived.Lib.Tables
import Derived.Lib.ItoaNum
namespace Go.Proofs.Ytpobfcmbbabchaa
open Go.RowKit

theorem tab_eq : (⟨(([0, 1, 2, 2, 3, 3, 3, 3, 4, 4, 4, 4, 4, 4, 4, 4, 5, 5, 5, 5, 5, 5, 5, 5, 5, 5, 5, 5, 5, 5, 5, 5, 6, 6, 6, 6, 6, 6, 6, 6, 6, 6, 6, 6, 6, 6, 6, 6, 6, 6, 6, 6, 6, 6, 6, 6, 6, 6, 6, 6, 6, 6, 6, 6].append [7, 7, 7, 7, 7, 7, 7, 7, 7, 7, 7, 7, 7, 7, 7, 7, 7, 7, 7, 7, 7, 7, 7, 7, 7, 7, 7, 7, 7, 7, 7, 7, 7, 7, 7, 7, 7, 7, 7, 7, 7, 7, 7, 7, 7, 7, 7, 7, 7, 7, 7, 7, 7, 7, 7, 7, 7, 7, 7, 7, 7, 7, 7, 7]).append ([8, 8, 8, 8, 8, 8, 8, 8, 8, 8, 8, 8, 8, 8, 8, 8, 8, 8, 8, 8, 8, 8, 8, 8, 8, 8, 8, 8, 8, 8, 8, 8, 8, 8, 8, 8, 8, 8, 8, 8, 8, 8, 8, 8, 8, 8, 8, 8, 8, 8, 8, 8, 8, 8, 8, 8, 8, 8, 8, 8, 8, 8, 8, 8].append [8, 8, 8, 8, 8, 8, 8, 8, 8, 8, 8, 8, 8, 8, 8, 8, 8, 8, 8, 8, 8, 8, 8, 8, 8, 8, 8, 8, 8, 8, 8, 8, 8, 8, 8, 8, 8, 8, 8, 8, 8, 8, 8, 8, 8, 8, 8, 8, 8, 8, 8, 8, 8, 8, 8, 8, 8, 8, 8, 8, 8, 8, 8, 8])).toArray⟩ : ByteArray) = Lib.len8tab := by kernel_rfl

/-- What the table holds at a place. -/
theorem tab_at (i : Int) (h : i.toNat < Lib.len8tab.size) : ((Lib.len8tab[i.toNat]'h).toNat : Int) = (Lib.bitLen i.toNat : Int) ∧ Lib.bitLen i.toNat ≤ 8 := by
  have h' : i.toNat < 256 := by rw [Lib.len8tab_size] at h; exact h
  have a := Lib.len8_eq ⟨i.toNat, h'⟩
  have b := Lib.bitLen_le8 ⟨i.toNat, h'⟩
  simp only [Lib.len8, Int.toNat_natCast] at a
  rw [getElem?_pos Lib.len8tab i.toNat h] at a
  exact ⟨a, b⟩
theorem tab_sz : (Lib.len8tab.size : Int) = 256 := by rw [Lib.len8tab_size]; rfl
theorem wrap_sum (k : Int) (b : Nat) (hk : 0 ≤ k) (hk' : k ≤ 56) (hb : b ≤ 8) : wrap64 (k + wrap64 (b : Int)) = k + b := by
  unfold wrap64; omega
theorem wrap_bare (b : Nat) (hb : b ≤ 8) : wrap64 (b : Int) = b := by
  unfold wrap64; omega
theorem end_of (y z k : Int) (hz : z.toNat < Lib.len8tab.size) (hk : 0 ≤ k) (hk' : k ≤ 56) (e : (Lib.bitLen y.toNat : Int) = k + (Lib.bitLen z.toNat : Int)) : wrap64 (k + wrap64 ((Lib.len8tab[z.toNat]'hz).toNat : Int)) = (Lib.bitLen y.toNat : Int) := by
  obtain ⟨a, b⟩ := tab_at z hz
  rw [a, wrap_sum k _ hk hk' b, e]

set_option maxHeartbeats 400000 in
theorem len64_0 (y : Int) (h0 : 0 ≤ y) (hy : y ≤ 255) (w : World) : Calls Try.prog 70 #[.int .u64 y] w fun e w' => e = .returned (.int .i64 (Lib.bitLen y.toNat)) ∧ w' = w := by
  go_enter Try.func70, Try.ntmps70
  rw [tab_eq]
  go_wp2
  go_ret
  have b := Lib.bitLen_le8' y h0 hy
  exact ⟨ret_int (by rw [Lib.len8_of y h0 hy, wrap_bare _ b, wrap_bare _ b]), rfl⟩

set_option maxHeartbeats 400000 in
theorem len64_8 (y : Int) (h0 : 256 ≤ y) (hy : y < 65536) (w : World) : Calls Try.prog 70 #[.int .u64 y] w fun e w' => e = .returned (.int .i64 (Lib.bitLen y.toNat)) ∧ w' = w := by
  go_enter Try.func70, Try.ntmps70
  rw [tab_eq]
  go_wp2
  · go_ret
    exact ⟨ret_int (end_of y (y / 256) 8 (by rw [Lib.len8tab_size]; omega) (by omega) (by omega) (by rw [Lib.bitLen_shift8 y.toNat (by omega) (by omega), show (y / 256).toNat = y.toNat / 256 from by omega]; omega)), rfl⟩
  · exfalso; have := tab_sz; omega

set_option maxHeartbeats 400000 in
theorem len64_16 (y : Int) (h0 : 65536 ≤ y) (hy : y < 16777216) (w : World) : Calls Try.prog 70 #[.int .u64 y] w fun e w' => e = .returned (.int .i64 (Lib.bitLen y.toNat)) ∧ w' = w := by
  go_enter Try.func70, Try.ntmps70
  rw [tab_eq]
  go_wp2
  · go_ret
    exact ⟨ret_int (end_of y (y / 65536) 16 (by rw [Lib.len8tab_size]; omega) (by omega) (by omega) (by rw [Lib.bitLen_shift16 y.toNat (by omega) (by omega), show (y / 65536).toNat = y.toNat / 65536 from by omega]; omega)), rfl⟩
  · exfalso; have := tab_sz; omega

set_option maxHeartbeats 400000 in
theorem len64_24 (y : Int) (h0 : 16777216 ≤ y) (hy : y < 4294967296) (w : World) : Calls Try.prog 70 #[.int .u64 y] w fun e w' => e = .returned (.int .i64 (Lib.bitLen y.toNat)) ∧ w' = w := by
  go_enter Try.func70, Try.ntmps70
  rw [tab_eq]
  go_wp2
  · go_ret
    exact ⟨ret_int (end_of y (y / 65536 / 256) 24 (by rw [Lib.len8tab_size]; omega) (by omega) (by omega) (by rw [Lib.bitLen_shift24 y.toNat (by omega) (by omega), show (y / 65536 / 256).toNat = y.toNat / 16777216 from by omega]; omega)), rfl⟩
  · exfalso; have := tab_sz; omega

set_option maxHeartbeats 400000 in
theorem len64_32 (y : Int) (h0 : 4294967296 ≤ y) (hy : y < 1099511627776) (w : World) : Calls Try.prog 70 #[.int .u64 y] w fun e w' => e = .returned (.int .i64 (Lib.bitLen y.toNat)) ∧ w' = w := by
  go_enter Try.func70, Try.ntmps70
  rw [tab_eq]
  go_wp2
  · go_ret
    exact ⟨ret_int (end_of y (y / 4294967296) 32 (by rw [Lib.len8tab_size]; omega) (by omega) (by omega) (by rw [Lib.bitLen_shift32 y.toNat (by omega) (by omega), show (y / 4294967296).toNat = y.toNat / 4294967296 from by omega]; omega)), rfl⟩
  · exfalso; have := tab_sz; omega

set_option maxHeartbeats 400000 in
theorem len64_40 (y : Int) (h0 : 1099511627776 ≤ y) (hy : y < 281474976710656) (w : World) : Calls Try.prog 70 #[.int .u64 y] w fun e w' => e = .returned (.int .i64 (Lib.bitLen y.toNat)) ∧ w' = w := by
  go_enter Try.func70, Try.ntmps70
  rw [tab_eq]
  go_wp2
  · go_ret
    exact ⟨ret_int (end_of y (y / 4294967296 / 256) 40 (by rw [Lib.len8tab_size]; omega) (by omega) (by omega) (by rw [Lib.bitLen_shift40 y.toNat (by omega) (by omega), show (y / 4294967296 / 256).toNat = y.toNat / 1099511627776 from by omega]; omega)), rfl⟩
  · exfalso; have := tab_sz; omega

set_option maxHeartbeats 400000 in
theorem len64_48 (y : Int) (h0 : 281474976710656 ≤ y) (hy : y < 72057594037927936) (w : World) : Calls Try.prog 70 #[.int .u64 y] w fun e w' => e = .returned (.int .i64 (Lib.bitLen y.toNat)) ∧ w' = w := by
  go_enter Try.func70, Try.ntmps70
  rw [tab_eq]
  go_wp2
  · go_ret
    exact ⟨ret_int (end_of y (y / 4294967296 / 65536) 48 (by rw [Lib.len8tab_size]; omega) (by omega) (by omega) (by rw [Lib.bitLen_shift48 y.toNat (by omega) (by omega), show (y / 4294967296 / 65536).toNat = y.toNat / 281474976710656 from by omega]; omega)), rfl⟩
  · exfalso; have := tab_sz; omega

set_option maxHeartbeats 400000 in
theorem len64_56 (y : Int) (h0 : 72057594037927936 ≤ y) (hy : y < 18446744073709551616) (w : World) : Calls Try.prog 70 #[.int .u64 y] w fun e w' => e = .returned (.int .i64 (Lib.bitLen y.toNat)) ∧ w' = w := by
  go_enter Try.func70, Try.ntmps70
  rw [tab_eq]
  go_wp2
  · go_ret
    exact ⟨ret_int (end_of y (y / 4294967296 / 65536 / 256) 56 (by rw [Lib.len8tab_size]; omega) (by omega) (by omega) (by rw [Lib.bitLen_shift56 y.toNat (by omega) (by omega), show (y / 4294967296 / 65536 / 256).toNat = y.toNat / 72057594037927936 from by omega]; omega)), rfl⟩
  · exfalso; have := tab_sz; omega

theorem len64_any (y : Int) (h0 : 0 ≤ y) (hy : y < 18446744073709551616) (w : World) : Calls Try.prog 70 #[.int .u64 y] w fun e w' => e = .returned (.int .i64 (Lib.bitLen y.toNat)) ∧ w' = w := by
  rcases (show y < 256 ∨ (256 ≤ y ∧ y < 65536) ∨ (65536 ≤ y ∧ y < 16777216) ∨ (16777216 ≤ y ∧ y < 4294967296) ∨ (4294967296 ≤ y ∧ y < 1099511627776) ∨ (1099511627776 ≤ y ∧ y < 281474976710656) ∨ (281474976710656 ≤ y ∧ y < 72057594037927936) ∨ 72057594037927936 ≤ y from by omega) with h | ⟨h, h'⟩ | ⟨h, h'⟩ | ⟨h, h'⟩ | ⟨h, h'⟩ | ⟨h, h'⟩ | ⟨h, h'⟩ | h
  · exact len64_0 y h0 (by omega) w
  · exact len64_8 y h h' w
  · exact len64_16 y h h' w
  · exact len64_24 y h h' w
  · exact len64_32 y h h' w
  · exact len64_40 y h h' w
  · exact len64_48 y h h' w
  · exact len64_56 y h hy w

/-- LeadingZeros64 of a number that is not 0: the number, moved up by it, has its highest bit set. -/
theorem lead_any (y : Int) (h0 : 1 ≤ y) (hy : y < 18446744073709551616) (w : World) : Calls Try.prog 69 #[.int .u64 y] w fun e w' => ∃ s : Nat, e = .returned (.int .i64 s) ∧ s ≤ 63 ∧ 9223372036854775808 ≤ y.toNat * 2 ^ s ∧ y.toNat * 2 ^ s < 18446744073709551616 ∧ w' = w := by
  obtain ⟨b1, b2, b3⟩ := Lib.bitLenAux_bounds 64 y.toNat (show y.toNat < 18446744073709551616 by omega) (by omega)
  have b4 : Lib.bitLen y.toNat ≤ 64 := Lib.bitLen_le y.toNat 64 (Nat.le_refl _) (show y.toNat < 18446744073709551616 by omega)
  have b1' : 1 ≤ Lib.bitLen y.toNat := b1
  have HB : Hid (2 ^ (Lib.bitLen y.toNat - 1) ≤ y.toNat ∧ y.toNat < 2 ^ Lib.bitLen y.toNat) := ⟨b2, b3⟩
  clear b1 b2 b3
  generalize hn : Lib.bitLen y.toNat = n at b4 b1' HB
  have HN : Hid (Lib.bitLen y.toNat = n) := hn
  clear hn
  go_enter Try.func69, Try.ntmps69
  go_wp2_with (go_at_call 70; refine (len64_any y (by omega) hy _).mono ?_; rintro e w' ⟨rfl, rfl⟩; rw [HN.out])
  go_ret
  obtain ⟨c1, c2⟩ := HB.out
  refine ⟨64 - n, ret_int (by omega), by omega, ?_, ?_, rfl⟩
  · have e : 2 ^ (n - 1) * 2 ^ (64 - n) = 9223372036854775808 := by rw [← Nat.pow_add, show n - 1 + (64 - n) = 63 from by omega]
    have := Nat.mul_le_mul_right (2 ^ (64 - n)) c1
    omega
  · have e : 2 ^ n * 2 ^ (64 - n) = 18446744073709551616 := by rw [← Nat.pow_add, show n + (64 - n) = 64 from by omega]
    have := Nat.mul_lt_mul_of_pos_right c2 (Nat.two_pow_pos (64 - n))
    omega

end Go.Proofs.Ytpobfcmbbabchaa
