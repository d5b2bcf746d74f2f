/- The layer's parseSize and Parse, walked over any text. -/
import Derived.Test.YtinhbegnpadcaaaDoorSize
namespace Go.Proofs.YtinhbegnpadcaaaDoor
open Go.RowKit

theorem wh_of (l : List UInt8) (h : ¬ (dn l < 1 ∨ 13 < dn l ∨ (1 < dn l ∧ l[0]? = some 48))) : Wh l (dn l) ((val (l.take (dn l)) : Nat) : Int) := by
  have h1 : ¬ dn l < 1 := fun x => h (Or.inl x)
  have h2 : ¬ 13 < dn l := fun x => h (Or.inr (Or.inl x))
  have h3 : ¬ (1 < dn l ∧ l[0]? = some 48) := fun x => h (Or.inr (Or.inr x))
  have hw := whole_lt l (by omega)
  have hle := dn_le l
  refine ⟨rfl, by rw [mod_of _ hw], by omega, by omega, by omega, by omega, ?_, by omega⟩
  refine ⟨l[0]'(by omega), List.getElem?_eq_getElem _, ?_⟩
  by_cases c : dn l ≤ 1
  · exact Or.inl c
  · refine Or.inr fun e => h3 ⟨by omega, ?_⟩
    rw [List.getElem?_eq_getElem (show 0 < l.length by omega), e]

theorem size_none (l : List UInt8) (w : World) (hm : (l.length : Int) ≤ 140737488351232) (h : pz l = none) :
    Calls Tryd.prog 14 #[.string (tx l)] w fun e w' => e = .returned (.tuple #[.int .u64 0, .bool false]) ∧ w' = w := by
  unfold pz at h
  split at h
  · rename_i h1
    exact size_no1 l w hm h1
  · rename_i h1
    have H := wh_of l h1
    split at h
    · cases h
    · rename_i c m hd
      split at h
      · cases h
      · rename_i h2
        by_cases hc : c = 46
        · refine size_bad l _ _ c m w hm H hd hc ?_
          have := dn_le m
          by_cases k1 : dn m < 1
          · exact Or.inl k1
          · by_cases k2 : 6 < dn m
            · exact Or.inr (Or.inl k2)
            · refine Or.inr (Or.inr ?_)
              by_cases k3 : dn m = m.length
              · exact absurd ⟨hc, by omega, by omega, k3⟩ h2
              · omega
        · exact size_nodot l _ _ c m w hm H hd hc

theorem pw6 (k : Nat) (h1 : 1 ≤ k) (h2 : k ≤ 6) : 10 ^ k * 10 ^ (6 - k) = 1000000 := by
  rcases (show k = 1 ∨ k = 2 ∨ k = 3 ∨ k = 4 ∨ k = 5 ∨ k = 6 from by omega) with rfl | rfl | rfl | rfl | rfl | rfl <;> rfl
theorem part_lt (m : List UInt8) (h1 : 1 ≤ dn m) (h2 : dn m ≤ 6) (h3 : dn m = m.length) : val m * 10 ^ (6 - m.length) < 1000000 := by
  have hmt : m.take (dn m) = m := List.take_of_length_le (by omega)
  have hvl := val_lt m (fun c hc => dn_isD m c (by rw [hmt]; exact hc))
  rw [← pw6 m.length (by omega) (by omega)]
  exact Nat.mul_lt_mul_of_pos_right hvl (Nat.pow_pos (by omega))

theorem size_some (l : List UInt8) (n : Nat) (w : World) (hm : (l.length : Int) ≤ 140737488351232) (h : pz l = some n) :
    (n < 18446744073709551616) ∧ Calls Tryd.prog 14 #[.string (tx l)] w fun e w' => e = .returned (.tuple #[.int .u64 n, .bool true]) ∧ w' = w := by
  unfold pz at h
  split at h
  · cases h
  · rename_i h1
    have H := wh_of l h1
    have hv : val (l.take (dn l)) < 10000000000000 := by have := H.v1; omega
    split at h
    · rename_i hd
      have h := Option.some.inj h
      subst h
      refine ⟨by omega, ?_⟩
      have := size_whole l _ _ w hm H hd
      rw [show (((val (l.take (dn l)) * 1000000 : Nat)) : Int) = (val (l.take (dn l)) : Int) * 1000000 from by omega]
      exact this
    · rename_i c m hd
      split at h
      · rename_i h2
        obtain ⟨hc, k1, k2, k3⟩ := h2
        have h := Option.some.inj h
        subst h
        have hp := part_lt m k1 k2 k3
        refine ⟨by omega, ?_⟩
        have := size_parts l _ _ c m w hm H hd hc ⟨k1, k2, k3⟩
        rw [show (((val (l.take (dn l)) * 1000000 + val m * 10 ^ (6 - m.length) : Nat)) : Int) = (val (l.take (dn l)) : Int) * 1000000 + (val m : Int) * 10 ^ (6 - m.length) from by rw [Int.natCast_add, Int.natCast_mul, Int.natCast_mul, Int.natCast_pow]; rfl]
        exact this
      · cases h

/-- What the reading of a text comes to, behind its sign. -/
def pn (neg : Bool) : Option Nat → Int × Int
  | none => (0, 3)
  | some n => if 9223372036854775807 < n then (0, 1) else (sgI neg n, 0)
/-- What the reading of a text comes to. -/
def ps : List UInt8 → Int × Int
  | [] => pn false (pz [])
  | c :: m => if c = 45 then pn true (pz m) else pn false (pz (c :: m))

set_option maxHeartbeats 1000000 in
theorem parse_neg (m : List UInt8) (w : World) (hm : ((45 :: m).length : Int) ≤ 140737488351232) :
    Calls Tryd.prog 5 #[.string (tx (45 :: m))] w fun e w' => e = .returned (.tuple #[.int .i64 (pn true (pz m)).1, .int .i64 (pn true (pz m)).2]) ∧ w' = w := by
  rw [List.length_cons] at hm
  have hsz : (tx (45 :: m)).size = m.length + 1 := by rw [tx_size, List.length_cons]
  have hx1 : (tx (45 :: m)).extract 0 1 = ⟨#[45]⟩ := by rw [tx_extract]; rfl
  have hx2 : (tx (45 :: m)).extract 1 (m.length + 1) = tx m := by rw [tx_extract, List.drop_one, List.tail_cons, List.take_of_length_le (by simp)]
  have hm1 : (m.length : Int) ≤ 140737488351232 := by omega
  clear hm
  rcases hz : pz m with _ | n
  · have HZ : Hid _ := hz
    clear hz
    go_enter Tryd.func5, Tryd.ntmps5
    go_wp2_with (first | (go_at_call 14; refine (size_none m _ hm1 HZ.out).mono ?_; rintro e w' ⟨rfl, rfl⟩) | go_in)
    go_ret2
    exact ⟨rfl, rfl⟩
  · obtain ⟨hn, _⟩ := size_some m n w hm1 hz
    have HZ : Hid _ := hz
    clear hz
    have n1 : 0 ≤ (n : Int) := by omega
    have n2 : (n : Int) ≤ 18446744073709551615 := by omega
    clear hn
    by_cases c : 9223372036854775807 < n
    · have c' : (9223372036854775807 : Int) < (n : Int) := by omega
      have HE : Hid (pn true (some n) = (0, 1)) := by show _ = _; unfold pn; exact if_pos c
      clear c
      go_enter Tryd.func5, Tryd.ntmps5
      go_wp2_with (first | (go_at_call 14; refine (size_some m n _ hm1 HZ.out).2.mono ?_; rintro e w' ⟨rfl, rfl⟩) | go_in)
      go_ret2
      exact ⟨by rw [HE.out]; rfl, rfl⟩
    · have c' : (n : Int) ≤ (9223372036854775807 : Int) := by omega
      have HE : Hid (pn true (some n) = (sgI true n, 0)) := by show _ = _; unfold pn; exact if_neg c
      clear c
      go_enter Tryd.func5, Tryd.ntmps5
      go_wp2_with (first | (go_at_call 14; refine (size_some m n _ hm1 HZ.out).2.mono ?_; rintro e w' ⟨rfl, rfl⟩) | (go_at_call 15; refine (signed_any n true _ n1 n2).mono ?_; rintro e w' ⟨rfl, rfl⟩) | go_in)
      go_ret2
      exact ⟨by rw [HE.out]; rfl, rfl⟩

theorem pfx_no (c : UInt8) (m : List UInt8) (hc : c ≠ 45) (w : World) (hm1 : ((c :: m).length : Int) ≤ 140737488351232) :
    Calls Tryd.prog 28 #[.string (tx (c :: m)), .string ⟨#[45]⟩] w fun e w' => e = .returned (.bool false) ∧ w' = w := by
  have hsz : (tx (c :: m)).size = m.length + 1 := by rw [tx_size, List.length_cons]
  have hx1 : (tx (c :: m)).extract 0 1 = tx [c] := by rw [tx_extract]; rfl
  have hml : (m.length : Int) ≤ 140737488351231 := by rw [List.length_cons] at hm1; omega
  have hne : ((tx [c]).toList == [45]) = false := by
    rw [tx_list, beq_eq_false_iff_ne]
    intro h
    exact hc (List.cons.inj h).1
  clear hm1 hc
  go_enter Tryd.func28, Tryd.ntmps28
  go_wp2_with fail
  go_ret
  exact ⟨rfl, rfl⟩

set_option maxHeartbeats 1000000 in
theorem parse_pos (c : UInt8) (m : List UInt8) (hc : c ≠ 45) (w : World) (hm1 : ((c :: m).length : Int) ≤ 140737488351232) :
    Calls Tryd.prog 5 #[.string (tx (c :: m))] w fun e w' => e = .returned (.tuple #[.int .i64 (pn false (pz (c :: m))).1, .int .i64 (pn false (pz (c :: m))).2]) ∧ w' = w := by
  have HC : Hid _ := hc
  have hml : (m.length : Int) ≤ 140737488351231 := by rw [List.length_cons] at hm1; omega
  clear hm1 hc
  rcases hz : pz (c :: m) with _ | n
  · have HZ : Hid _ := hz
    clear hz
    go_enter Tryd.func5, Tryd.ntmps5
    go_wp2_with (first | (go_at_call 14; refine (size_none (c :: m) _ (by rw [List.length_cons]; omega) HZ.out).mono ?_; rintro e w' ⟨rfl, rfl⟩) | (go_at_call 28; refine (pfx_no c m HC.out _ (by rw [List.length_cons]; omega)).mono ?_; rintro e w' ⟨rfl, rfl⟩) | go_in)
    go_ret2
    exact ⟨rfl, rfl⟩
  · obtain ⟨hn, _⟩ := size_some (c :: m) n w (by rw [List.length_cons]; omega) hz
    have HZ : Hid _ := hz
    clear hz
    have n1 : 0 ≤ (n : Int) := by omega
    have n2 : (n : Int) ≤ 18446744073709551615 := by omega
    clear hn
    by_cases d : 9223372036854775807 < n
    · have d' : (9223372036854775807 : Int) < (n : Int) := by omega
      have HE : Hid (pn false (some n) = (0, 1)) := by show _ = _; unfold pn; exact if_pos d
      clear d
      go_enter Tryd.func5, Tryd.ntmps5
      go_wp2_with (first | (go_at_call 14; refine (size_some (c :: m) n _ (by rw [List.length_cons]; omega) HZ.out).2.mono ?_; rintro e w' ⟨rfl, rfl⟩) | (go_at_call 28; refine (pfx_no c m HC.out _ (by rw [List.length_cons]; omega)).mono ?_; rintro e w' ⟨rfl, rfl⟩) | go_in)
      go_ret2
      exact ⟨by rw [HE.out]; rfl, rfl⟩
    · have d' : (n : Int) ≤ (9223372036854775807 : Int) := by omega
      have HE : Hid (pn false (some n) = (sgI false n, 0)) := by show _ = _; unfold pn; exact if_neg d
      clear d
      go_enter Tryd.func5, Tryd.ntmps5
      go_wp2_with (first | (go_at_call 14; refine (size_some (c :: m) n _ (by rw [List.length_cons]; omega) HZ.out).2.mono ?_; rintro e w' ⟨rfl, rfl⟩) | (go_at_call 15; refine (signed_any n false _ n1 n2).mono ?_; rintro e w' ⟨rfl, rfl⟩) | (go_at_call 28; refine (pfx_no c m HC.out _ (by rw [List.length_cons]; omega)).mono ?_; rintro e w' ⟨rfl, rfl⟩) | go_in)
      go_ret2
      exact ⟨by rw [HE.out]; rfl, rfl⟩

set_option maxHeartbeats 1000000 in
theorem parse_nil (w : World) :
    Calls Tryd.prog 5 #[.string (tx [])] w fun e w' => e = .returned (.tuple #[.int .i64 (pn false (pz [])).1, .int .i64 (pn false (pz [])).2]) ∧ w' = w := by
  have hsz : (tx []).size = 0 := rfl
  go_enter Tryd.func5, Tryd.ntmps5
  go_wp2_with (first | (go_at_call 14; refine (size_none [] _ (by simp) rfl).mono ?_; rintro e w' ⟨rfl, rfl⟩) | go_in)
  go_ret2
  exact ⟨rfl, rfl⟩

theorem parse_any (l : List UInt8) (w : World) (hm : (l.length : Int) ≤ 140737488351232) :
    Calls Tryd.prog 5 #[.string (tx l)] w fun e w' => e = .returned (.tuple #[.int .i64 (ps l).1, .int .i64 (ps l).2]) ∧ w' = w := by
  cases l with
  | nil => exact parse_nil w
  | cons c m =>
    by_cases h : c = 45
    · subst h
      have := parse_neg m w hm
      rw [show ps (45 :: m) = pn true (pz m) from rfl]
      exact this
    · rw [show ps (c :: m) = pn false (pz (c :: m)) from if_neg h]
      exact parse_pos c m h w hm

end Go.Proofs.YtinhbegnpadcaaaDoor
