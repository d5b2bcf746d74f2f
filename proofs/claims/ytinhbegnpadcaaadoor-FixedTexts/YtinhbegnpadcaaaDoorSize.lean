/- The layer's parseSize, walked over any text. -/
import Derived.Test.YtinhbegnpadcaaaDoorScan
import Derived.Deep.DeepCutAuto
namespace Go.Proofs.YtinhbegnpadcaaaDoor
open Go.RowKit

theorem scale_any (p : Int) (n : Nat) (w : World) (h0 : 0 ≤ p) (h1 : p < 1000000) (n1 : 1 ≤ n) (n2 : n ≤ 6) :
    Calls Tryd.prog 30 #[.int .u64 p, .int .i64 n] w fun e w' => e = .returned (.int .u64 (p * 10 ^ (6 - n))) ∧ w' = w := by
  rcases (show n = 1 ∨ n = 2 ∨ n = 3 ∨ n = 4 ∨ n = 5 ∨ n = 6 from by omega) with rfl | rfl | rfl | rfl | rfl | rfl
  all_goals
    go_enter Tryd.func30, Tryd.ntmps30
    go_wp2
    go_ret
    exact ⟨ret_int (by omega), rfl⟩

theorem scan_gen (l : List UInt8) (w : World) (V : Int) (n : Nat) (hm : (l.length : Int) ≤ 140737488351232) (hV : V = ((val (l.take (dn l)) % 18446744073709551616 : Nat) : Int)) (hn : n = dn l) :
    Calls Tryd.prog 29 #[.string (tx l)] w fun e w' => e = .returned (.tuple #[.int .u64 V, .int .i64 n]) ∧ w' = w := by
  subst hV
  subst hn
  exact scan_any l w hm

/-- A size, in millionths, of a text without a sign. -/
def pz (l : List UInt8) : Option Nat :=
  if dn l < 1 ∨ 13 < dn l ∨ (1 < dn l ∧ l[0]? = some 48) then none
  else match l.drop (dn l) with
    | [] => some (val (l.take (dn l)) * 1000000)
    | c :: m => if c = 46 ∧ 1 ≤ dn m ∧ dn m ≤ 6 ∧ dn m = m.length then some (val (l.take (dn l)) * 1000000 + val m * 10 ^ (6 - m.length)) else none

theorem tx_from (l : List UInt8) (n : Nat) : (tx l).extract n l.length = tx (l.drop n) := by
  rw [tx_extract, List.take_of_length_le (by simp)]
theorem whole_lt (l : List UInt8) (h : dn l ≤ 13) : val (l.take (dn l)) < 10000000000000 := by
  have h1 := val_lt (l.take (dn l)) (fun c hc => dn_isD l c hc)
  have h2 : (l.take (dn l)).length ≤ 13 := by rw [List.length_take]; omega
  have h3 : 10 ^ (l.take (dn l)).length ≤ 10 ^ 13 := Nat.pow_le_pow_right (by omega) h2
  omega

set_option maxHeartbeats 1000000 in
theorem size_no1 (l : List UInt8) (w : World) (hm : (l.length : Int) ≤ 140737488351232) (h : dn l < 1 ∨ 13 < dn l ∨ (1 < dn l ∧ l[0]? = some 48)) :
    Calls Tryd.prog 14 #[.string (tx l)] w fun e w' => e = .returned (.tuple #[.int .u64 0, .bool false]) ∧ w' = w := by
  have hsz : (tx l).size = l.length := tx_size l
  have hle := dn_le l
  have HX : Hid (∀ (k : Nat) (c : UInt8), l[k]? = some c → ∀ W, (Instr.index 9 (.string (tx l)) (.int .i64 (k : Int))).run Tryd.prog W = .ok (.int .u8 (c.toNat : Int)) W) := fun k c h W => tx_at l k c h _ W
  have v0 : 0 ≤ ((val (l.take (dn l)) % 18446744073709551616 : Nat) : Int) := by omega
  have v1 : ((val (l.take (dn l)) % 18446744073709551616 : Nat) : Int) < 18446744073709551616 := by omega
  obtain ⟨V, HV⟩ : ∃ V, Hid (V = ((val (l.take (dn l)) % 18446744073709551616 : Nat) : Int)) := ⟨_, rfl⟩
  obtain ⟨n, HN⟩ : ∃ n, Hid (n = dn l) := ⟨_, rfl⟩
  rw [← HV.out] at v0 v1
  rw [← HN.out] at h hle
  rcases (show n < 1 ∨ 13 < n ∨ ((1 < n ∧ n ≤ 13) ∧ l[0]? = some 48) from by
    rcases h with h | h | ⟨h, h'⟩
    · exact Or.inl h
    · exact Or.inr (Or.inl h)
    · rcases Nat.lt_or_ge 13 n with h2 | h2
      · exact Or.inr (Or.inl h2)
      · exact Or.inr (Or.inr ⟨⟨h, h2⟩, h'⟩)) with c | c | ⟨⟨c, c'⟩, h48⟩
  · have d : (n : Int) < 1 := by omega
    clear h c
    go_enter Tryd.func14, Tryd.ntmps14
    go_wp2_with fail
    refine (scan_gen l _ V n hm HV.out HN.out).mono ?_
    rintro e w' ⟨rfl, rfl⟩
    go_wp2
    go_ret2
    exact ⟨rfl, rfl⟩
  · have d : (13 : Int) < (n : Int) := by omega
    clear h c
    go_enter Tryd.func14, Tryd.ntmps14
    go_wp2_with (go_at_call 29; refine (scan_gen l _ V n hm HV.out HN.out).mono ?_; rintro e w' ⟨rfl, rfl⟩)
    go_ret2
    exact ⟨rfl, rfl⟩
  · have d : (1 : Int) < (n : Int) := by omega
    have d' : (n : Int) ≤ 13 := by omega
    have hix : ∀ W, (Instr.index 9 (.string (tx l)) (.int .i64 0)).run Tryd.prog W = .ok (.int .u8 48) W := fun W => tx_at l 0 48 h48 .i64 W
    clear h c c' h48
    go_enter Tryd.func14, Tryd.ntmps14
    go_wp2_with fail
    refine (scan_gen l _ V n hm HV.out HN.out).mono ?_
    rintro e w' ⟨rfl, rfl⟩
    go_wp2
    go_ret2
    exact ⟨rfl, rfl⟩

theorem tx_list (l : List UInt8) : (tx l).toList = l := ByteArray.toList_mk l
theorem em_nil : (tx []).toList.isEmpty = true := by rw [tx_list]; rfl
theorem em_cons (c : UInt8) (m : List UInt8) : (tx (c :: m)).toList.isEmpty = false := by rw [tx_list]; rfl
theorem mod_of (n : Nat) (h : n < 10000000000000) : n % 18446744073709551616 = n := Nat.mod_eq_of_lt (by omega)
/-- What holds of the whole part that is right. -/
structure Wh (l : List UInt8) (n : Nat) (V : Int) : Prop where
  hn : n = dn l
  hV : V = ((val (l.take (dn l)) % 18446744073709551616 : Nat) : Int)
  n1 : (1 : Int) ≤ (n : Int)
  n2 : (n : Int) ≤ 13
  v0 : 0 ≤ V
  v1 : V < 10000000000000
  first : ∃ c, l[0]? = some c ∧ (n ≤ 1 ∨ c ≠ 48)
  le : (n : Int) ≤ (l.length : Int)

set_option maxHeartbeats 1000000 in
/-- The whole part alone. -/
theorem size_whole (l : List UInt8) (n : Nat) (V : Int) (w : World) (hm : (l.length : Int) ≤ 140737488351232) (H : Wh l n V) (hd : l.drop n = []) :
    Calls Tryd.prog 14 #[.string (tx l)] w fun e w' => e = .returned (.tuple #[.int .u64 (V * 1000000), .bool true]) ∧ w' = w := by
  obtain ⟨hn, hV, n1, n2, v0, v1, ⟨c, hc, hc2⟩, hle⟩ := H
  have HN : Hid _ := hn
  have HV : Hid _ := hV
  have hsz : (tx l).size = l.length := tx_size l
  have hxf : (tx l).extract n l.length = tx [] := by rw [tx_from, hd]
  have hem := em_nil
  have hcb : c.toNat < 256 := UInt8.toNat_lt c
  have hix : ∀ W, (Instr.index 9 (.string (tx l)) (.int .i64 0)).run Tryd.prog W = .ok (.int .u8 (c.toNat : Int)) W := fun W => tx_at l 0 c hc .i64 W
  clear hn hV hc hd
  by_cases c1 : n ≤ 1
  · have c1' : (n : Int) ≤ 1 := by omega
    clear hc2 c1 hix
    go_enter Tryd.func14, Tryd.ntmps14
    go_wp2_with fail
    refine (scan_gen l _ V n hm HV.out HN.out).mono ?_
    rintro e w' ⟨rfl, rfl⟩
    go_wp2
    go_ret2
    exact ⟨rfl, rfl⟩
  · have c1' : (1 : Int) < (n : Int) := by omega
    have c2 : ((c.toNat : Int) == 48) = false := by
      rw [beq_eq_false_iff_ne]
      intro hh
      rcases hc2 with h | h
      · exact c1 h
      · exact h (UInt8.toNat_inj.1 (by simp; omega))
    generalize (c.toNat : Int) = C at hix c2
    clear hc2 c1 hcb
    go_enter Tryd.func14, Tryd.ntmps14
    go_wp2_with fail
    refine (scan_gen l _ V n hm HV.out HN.out).mono ?_
    rintro e w' ⟨rfl, rfl⟩
    go_wp2
    go_ret2
    exact ⟨rfl, rfl⟩

set_option maxHeartbeats 1000000 in
theorem size_nodot (l : List UInt8) (n : Nat) (V : Int) (x : UInt8) (m : List UInt8) (w : World) (hm : (l.length : Int) ≤ 140737488351232) (H : Wh l n V) (hd : l.drop n = x :: m) (hx : x ≠ 46) :
    Calls Tryd.prog 14 #[.string (tx l)] w fun e w' => e = .returned (.tuple #[.int .u64 0, .bool false]) ∧ w' = w := by
  obtain ⟨hn, hV, n1, n2, v0, v1, ⟨c, hc, hc2⟩, hle⟩ := H
  have HN : Hid _ := hn
  have HV : Hid _ := hV
  have hsz : (tx l).size = l.length := tx_size l
  have hxf : (tx l).extract n l.length = tx (x :: m) := by rw [tx_from, hd]
  have hem := em_cons x m
  have hsz2 : (tx (x :: m)).size = m.length + 1 := by rw [tx_size, List.length_cons]
  have hx2 : (tx (x :: m)).extract 1 (m.length + 1) = tx m := by rw [tx_extract, List.drop_one, List.tail_cons, List.take_of_length_le (by simp)]
  have hml : (m.length : Int) + 1 ≤ (l.length : Int) := by
    have h := congrArg List.length hd
    rw [List.length_drop, List.length_cons] at h
    omega
  have hcb : c.toNat < 256 := UInt8.toNat_lt c
  have hix : ∀ W, (Instr.index 9 (.string (tx l)) (.int .i64 0)).run Tryd.prog W = .ok (.int .u8 (c.toNat : Int)) W := fun W => tx_at l 0 c hc .i64 W
  have hix2 : ∀ W, (Instr.index 9 (.string (tx (x :: m))) (.int .i64 0)).run Tryd.prog W = .ok (.int .u8 (x.toNat : Int)) W := fun W => tx_at (x :: m) 0 x rfl .i64 W
  have hx' : ((x.toNat : Int) != 46) = true := by
    rw [bne_iff_ne]
    intro hh
    exact hx (UInt8.toNat_inj.1 (by simp; omega))
  generalize (x.toNat : Int) = X at hix2 hx'
  clear hx
  clear hn hV hc hd
  by_cases c1 : n ≤ 1
  · have c1' : (n : Int) ≤ 1 := by omega
    clear hc2 c1 hix
    go_enter Tryd.func14, Tryd.ntmps14
    go_wp2_with fail
    refine (scan_gen l _ V n hm HV.out HN.out).mono ?_
    rintro e w' ⟨rfl, rfl⟩
    go_wp2
    go_ret2
    exact ⟨rfl, rfl⟩
  · have c1' : (1 : Int) < (n : Int) := by omega
    have c2 : ((c.toNat : Int) == 48) = false := by
      rw [beq_eq_false_iff_ne]
      intro hh
      rcases hc2 with h | h
      · exact c1 h
      · exact h (UInt8.toNat_inj.1 (by simp; omega))
    generalize (c.toNat : Int) = C at hix c2
    clear hc2 c1 hcb
    go_enter Tryd.func14, Tryd.ntmps14
    go_wp2_with fail
    refine (scan_gen l _ V n hm HV.out HN.out).mono ?_
    rintro e w' ⟨rfl, rfl⟩
    go_wp2
    go_ret2
    exact ⟨rfl, rfl⟩

set_option maxHeartbeats 1000000 in
theorem size_bad (l : List UInt8) (n : Nat) (V : Int) (x : UInt8) (m : List UInt8) (w : World) (hm : (l.length : Int) ≤ 140737488351232) (H : Wh l n V) (hd : l.drop n = x :: m) (hx : x = 46) (hk : dn m < 1 ∨ 6 < dn m ∨ dn m < m.length) :
    Calls Tryd.prog 14 #[.string (tx l)] w fun e w' => e = .returned (.tuple #[.int .u64 0, .bool false]) ∧ w' = w := by
  obtain ⟨hn, hV, n1, n2, v0, v1, ⟨c, hc, hc2⟩, hle⟩ := H
  have HN : Hid _ := hn
  have HV : Hid _ := hV
  have hsz : (tx l).size = l.length := tx_size l
  have hxf : (tx l).extract n l.length = tx (x :: m) := by rw [tx_from, hd]
  have hem := em_cons x m
  have hsz2 : (tx (x :: m)).size = m.length + 1 := by rw [tx_size, List.length_cons]
  have hx2 : (tx (x :: m)).extract 1 (m.length + 1) = tx m := by rw [tx_extract, List.drop_one, List.tail_cons, List.take_of_length_le (by simp)]
  have hml : (m.length : Int) + 1 ≤ (l.length : Int) := by
    have h := congrArg List.length hd
    rw [List.length_drop, List.length_cons] at h
    omega
  have hcb : c.toNat < 256 := UInt8.toNat_lt c
  have hix : ∀ W, (Instr.index 9 (.string (tx l)) (.int .i64 0)).run Tryd.prog W = .ok (.int .u8 (c.toNat : Int)) W := fun W => tx_at l 0 c hc .i64 W
  have hix2 : ∀ W, (Instr.index 9 (.string (tx (x :: m))) (.int .i64 0)).run Tryd.prog W = .ok (.int .u8 (x.toNat : Int)) W := fun W => tx_at (x :: m) 0 x rfl .i64 W
  subst hx
  obtain ⟨K, HK⟩ : ∃ K, Hid (K = dn m) := ⟨_, rfl⟩
  obtain ⟨U, HU⟩ : ∃ U, Hid (U = ((val (m.take (dn m)) % 18446744073709551616 : Nat) : Int)) := ⟨_, rfl⟩
  have u0 : 0 ≤ U := by have := HU.out; omega
  have u1 : U < 18446744073709551616 := by have := HU.out; omega
  have hKl : (K : Int) ≤ (m.length : Int) := by have := HK.out; have := dn_le m; omega
  have hm2 : (m.length : Int) ≤ 140737488351232 := by omega
  rw [← HK.out] at hk
  have hk' : (K : Int) < 1 ∨ 6 < (K : Int) ∨ ((1 : Int) ≤ (K : Int) ∧ (K : Int) ≤ 6 ∧ (K : Int) < (m.length : Int)) := by omega
  clear hk
  clear hn hV hc hd
  by_cases c1 : n ≤ 1
  · have c1' : (n : Int) ≤ 1 := by omega
    clear hc2 c1 hix
    go_enter Tryd.func14, Tryd.ntmps14
    go_wp2_with fail
    refine (scan_gen l _ V n hm HV.out HN.out).mono ?_
    rintro e w' ⟨rfl, rfl⟩
    rcases hk' with h | h | ⟨h1, h2, h3⟩
    all_goals
      go_wp2_with (go_at_call 29; refine (scan_gen m _ U K hm2 HU.out HK.out).mono ?_; rintro e w' ⟨rfl, rfl⟩)
      go_ret2
      exact ⟨rfl, rfl⟩
  · have c1' : (1 : Int) < (n : Int) := by omega
    have c2 : ((c.toNat : Int) == 48) = false := by
      rw [beq_eq_false_iff_ne]
      intro hh
      rcases hc2 with h | h
      · exact c1 h
      · exact h (UInt8.toNat_inj.1 (by simp; omega))
    generalize (c.toNat : Int) = C at hix c2
    clear hc2 c1 hcb
    go_enter Tryd.func14, Tryd.ntmps14
    go_wp2_with fail
    refine (scan_gen l _ V n hm HV.out HN.out).mono ?_
    rintro e w' ⟨rfl, rfl⟩
    rcases hk' with h | h | ⟨h1, h2, h3⟩
    all_goals
      go_wp2_with (go_at_call 29; refine (scan_gen m _ U K hm2 HU.out HK.out).mono ?_; rintro e w' ⟨rfl, rfl⟩)
      go_ret2
      exact ⟨rfl, rfl⟩

set_option maxHeartbeats 1000000 in
theorem size_parts (l : List UInt8) (n : Nat) (V : Int) (x : UInt8) (m : List UInt8) (w : World) (hm : (l.length : Int) ≤ 140737488351232) (H : Wh l n V) (hd : l.drop n = x :: m) (hx : x = 46) (hk : 1 ≤ dn m ∧ dn m ≤ 6 ∧ dn m = m.length) :
    Calls Tryd.prog 14 #[.string (tx l)] w fun e w' => e = .returned (.tuple #[.int .u64 (V * 1000000 + (val m : Int) * 10 ^ (6 - m.length)), .bool true]) ∧ w' = w := by
  obtain ⟨hn, hV, n1, n2, v0, v1, ⟨c, hc, hc2⟩, hle⟩ := H
  have HN : Hid _ := hn
  have HV : Hid _ := hV
  have hsz : (tx l).size = l.length := tx_size l
  have hxf : (tx l).extract n l.length = tx (x :: m) := by rw [tx_from, hd]
  have hem := em_cons x m
  have hsz2 : (tx (x :: m)).size = m.length + 1 := by rw [tx_size, List.length_cons]
  have hx2 : (tx (x :: m)).extract 1 (m.length + 1) = tx m := by rw [tx_extract, List.drop_one, List.tail_cons, List.take_of_length_le (by simp)]
  have hml : (m.length : Int) + 1 ≤ (l.length : Int) := by
    have h := congrArg List.length hd
    rw [List.length_drop, List.length_cons] at h
    omega
  have hcb : c.toNat < 256 := UInt8.toNat_lt c
  have hix : ∀ W, (Instr.index 9 (.string (tx l)) (.int .i64 0)).run Tryd.prog W = .ok (.int .u8 (c.toNat : Int)) W := fun W => tx_at l 0 c hc .i64 W
  have hix2 : ∀ W, (Instr.index 9 (.string (tx (x :: m))) (.int .i64 0)).run Tryd.prog W = .ok (.int .u8 (x.toNat : Int)) W := fun W => tx_at (x :: m) 0 x rfl .i64 W
  subst hx
  obtain ⟨K, HK⟩ : ∃ K, Hid (K = dn m) := ⟨_, rfl⟩
  obtain ⟨U, HU⟩ : ∃ U, Hid (U = ((val (m.take (dn m)) % 18446744073709551616 : Nat) : Int)) := ⟨_, rfl⟩
  have u0 : 0 ≤ U := by have := HU.out; omega
  have u1 : U < 18446744073709551616 := by have := HU.out; omega
  have hKl : (K : Int) ≤ (m.length : Int) := by have := HK.out; have := dn_le m; omega
  have hm2 : (m.length : Int) ≤ 140737488351232 := by omega
  rw [← HK.out] at hk
  obtain ⟨k1, k2, k3⟩ := hk
  have k1' : (1 : Int) ≤ (K : Int) := by omega
  have k2' : (K : Int) ≤ 6 := by omega
  have k3' : (m.length : Int) ≤ (K : Int) := by omega
  have hmt : m.take (dn m) = m := List.take_of_length_le (by have := HK.out; omega)
  have hvl := val_lt m (fun c hc => dn_isD m c (by rw [hmt]; exact hc))
  have hvl2 : val m < 1000000 := by
    have : 10 ^ m.length ≤ 10 ^ 6 := Nat.pow_le_pow_right (by omega) (by omega)
    omega
  have HUV : Hid (U = (val m : Int)) := by show _ = _; have h := HU.out; rw [hmt, Nat.mod_eq_of_lt (by omega)] at h; exact h
  have u2 : U < 1000000 := by have := HUV.out; omega
  have HKm : Hid (K = m.length) := k3
  have HK1 : Hid (1 ≤ K) := k1
  have HK2 : Hid (K ≤ 6) := k2
  have hb0 : 0 ≤ U * 10 ^ (6 - K) := Int.mul_nonneg u0 (by have : (0 : Int) ≤ 10 ^ (6 - K) := Int.pow_nonneg (by omega); exact this)
  have hb1 : U * 10 ^ (6 - K) < 100000000000 := by
    have h1 : (10 : Int) ^ (6 - K) ≤ 100000 := by
      rcases (show K = 1 ∨ K = 2 ∨ K = 3 ∨ K = 4 ∨ K = 5 ∨ K = 6 from by omega) with rfl | rfl | rfl | rfl | rfl | rfl <;> decide
    have h2 : (0 : Int) ≤ 10 ^ (6 - K) := Int.pow_nonneg (by omega)
    have h3 := Int.mul_le_mul (show U ≤ 999999 by omega) h1 h2 (by omega)
    omega
  clear k1 k2 k3 hmt hvl hvl2
  clear hn hV hc hd
  by_cases c1 : n ≤ 1
  · have c1' : (n : Int) ≤ 1 := by omega
    clear hc2 c1 hix
    go_enter Tryd.func14, Tryd.ntmps14
    go_wp2_with fail
    refine (scan_gen l _ V n hm HV.out HN.out).mono ?_
    rintro e w' ⟨rfl, rfl⟩
    go_wp2_with (first | (go_at_call 29; refine (scan_gen m _ U K hm2 HU.out HK.out).mono ?_; rintro e w' ⟨rfl, rfl⟩) | (go_at_call 30; refine (scale_any U K _ u0 u2 HK1.out HK2.out).mono ?_; rintro e w' ⟨rfl, rfl⟩))
    go_ret2
    exact ⟨by rw [← HUV.out, ← HKm.out]; rfl, rfl⟩
  · have c1' : (1 : Int) < (n : Int) := by omega
    have c2 : ((c.toNat : Int) == 48) = false := by
      rw [beq_eq_false_iff_ne]
      intro hh
      rcases hc2 with h | h
      · exact c1 h
      · exact h (UInt8.toNat_inj.1 (by simp; omega))
    generalize (c.toNat : Int) = C at hix c2
    clear hc2 c1 hcb
    go_enter Tryd.func14, Tryd.ntmps14
    go_wp2_with fail
    refine (scan_gen l _ V n hm HV.out HN.out).mono ?_
    rintro e w' ⟨rfl, rfl⟩
    go_wp2_with (first | (go_at_call 29; refine (scan_gen m _ U K hm2 HU.out HK.out).mono ?_; rintro e w' ⟨rfl, rfl⟩) | (go_at_call 30; refine (scale_any U K _ u0 u2 HK1.out HK2.out).mono ?_; rintro e w' ⟨rfl, rfl⟩))
    go_ret2
    exact ⟨by rw [← HUV.out, ← HKm.out]; rfl, rfl⟩

end Go.Proofs.YtinhbegnpadcaaaDoor
