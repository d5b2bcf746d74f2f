/- Digits at the front of a text: the layer's scanDigits and scalePart, the model's digits, walked. -/
import Derived.Test.YtinhbegnpadcaaaDoorRText
import Derived.WalkMore
namespace Go.Proofs.YtinhbegnpadcaaaDoor
open Go.RowKit

/-- How many digits stand at the front. -/
def dn : List UInt8 → Nat
  | [] => 0
  | c :: l => if isD c then dn l + 1 else 0
theorem dn_le : ∀ l, dn l ≤ l.length
  | [] => Nat.le_refl _
  | c :: l => by
    have := dn_le l
    simp only [dn, List.length_cons]
    split <;> omega
theorem dn_isD : ∀ (l : List UInt8) (c : UInt8), c ∈ l.take (dn l) → isD c = true
  | [], c, h => by simp at h
  | x :: l, c, h => by
    simp only [dn] at h
    split at h
    · rename_i hx
      rw [List.take_succ_cons] at h
      rcases List.mem_cons.1 h with rfl | h
      · exact hx
      · exact dn_isD l c h
    · simp at h
/-- The first k are digits, and the next one is none, or there is none. -/
theorem dn_of : ∀ (k : Nat) (l : List UInt8), (∀ j c, j < k → l[j]? = some c → isD c = true) → k ≤ l.length → (∀ c, l[k]? = some c → isD c = false) → dn l = k
  | 0, [], _, _, _ => rfl
  | 0, c :: l, _, _, h => by
    have := h c rfl
    simp [dn, this]
  | k + 1, [], _, h, _ => by simp at h
  | k + 1, c :: l, h1, h2, h3 => by
    have hc := h1 0 c (by omega) rfl
    have := dn_of k l (fun j x hj hx => h1 (j + 1) x (by omega) (by simpa using hx)) (by simpa using h2) (fun x hx => h3 x (by simpa using hx))
    simp [dn, hc, this]

theorem take_snoc8 (l : List UInt8) (k : Nat) (c : UInt8) (h : l[k]? = some c) : l.take (k + 1) = l.take k ++ [c] := by
  obtain ⟨hk, e⟩ := List.getElem?_eq_some_iff.1 h
  rw [List.take_succ_eq_append_getElem hk, e]

set_option maxHeartbeats 1000000 in
theorem scan_any (l : List UInt8) (w : World) (hm : (l.length : Int) ≤ 140737488351232) :
    Calls Tryd.prog 29 #[.string (tx l)] w fun e w' => e = .returned (.tuple #[.int .u64 ((val (l.take (dn l)) % 18446744073709551616 : Nat) : Int), .int .i64 (dn l)]) ∧ w' = w := by
  have hsz : (tx l).size = l.length := tx_size l
  have HX : Hid (∀ (k : Nat) (c : UInt8), l[k]? = some c → ∀ W, (Instr.index 9 (.string (tx l)) (.int .i64 (k : Int))).run Tryd.prog W = .ok (.int .u8 (c.toNat : Int)) W) := fun k c h W => tx_at l k c h _ W
  go_enter Tryd.func29, Tryd.ntmps29
  go_wp2
  go_step3
  go_wp2
  go_step3
  go_wp2
  go_loop [4, 5] (fun v i => ∃ (k : Nat) (V : Int), k ≤ l.length ∧ i = .int .i64 k ∧ v = .int .u64 V ∧ V = ((val (l.take k) % 18446744073709551616 : Nat) : Int) ∧ ∀ j c, j < k → l[j]? = some c → isD c = true) (fun _ i => l.length - (intOf i).toNat)
  case atStart => exact ⟨0, _, Nat.zero_le _, rfl, rfl, rfl, fun j c hj _ => by omega⟩
  case round =>
    obtain ⟨k, V, hk, rfl, rfl, hV, hD⟩ := hrel
    have HV : Hid _ := hV
    have HD : Hid _ := hD
    have v0 : 0 ≤ V := by omega
    have v1 : V < 18446744073709551616 := by omega
    clear hV hD
    by_cases hlt : k < l.length
    · obtain ⟨c, hc⟩ : ∃ c, l[k]? = some c := ⟨_, List.getElem?_eq_getElem hlt⟩
      have hix := HX.out k c hc
      have HC : Hid _ := hc
      have hlt' : (k : Int) < (l.length : Int) := by omega
      clear hc
      have hcb : c.toNat < 256 := UInt8.toNat_lt c
      obtain ⟨C, hC⟩ : ∃ C : Int, (c.toNat : Int) = C := ⟨_, rfl⟩
      rw [hC] at hix
      have c0 : 0 ≤ C := by omega
      have c1 : C ≤ 255 := by omega
      have HCC : Hid _ := hC
      clear hC hcb
      by_cases d : 48 ≤ C ∧ C ≤ 57
      · obtain ⟨d0, d1⟩ := d
        have HN : Hid (IntKind.u64.wrap (IntKind.u64.wrap (V * 10) + (C - 48)) = ((val (l.take (k + 1)) % 18446744073709551616 : Nat) : Int)) := by
          show _ = _
          rw [take_snoc8 l k c HC.out, val_snoc, IntKind.wrap_u64, IntKind.wrap_u64, HV.out]
          have := HCC.out
          omega
        have hD2 : isD c = true := by
          have := HCC.out
          exact decide_eq_true (by omega)
        go_wp2
        go_round
        case rel =>
          refine ⟨k + 1, _, by omega, by go_num, rfl, HN.out, fun j x hj hx => ?_⟩
          rcases (show j = k ∨ j < k from by omega) with rfl | h
          · rw [HC.out] at hx
            rw [← Option.some.inj hx]
            exact hD2
          · exact HD.out j x h hx
        case measure => simp [intOf]; omega
      · have HE : Hid (dn l = k) := dn_of k l HD.out (by omega) (fun x hx => by
          rw [HC.out] at hx
          rw [← Option.some.inj hx]
          have := HCC.out
          exact decide_eq_false (by omega))
        by_cases d0 : C < 48
        · clear d
          go_wp2
          go_ret2
          exact ⟨by rw [HE.out, ← HV.out]; rfl, rfl⟩
        · have d1 : 57 < C := by omega
          clear d
          go_wp2
          go_ret2
          exact ⟨by rw [HE.out, ← HV.out]; rfl, rfl⟩
    · have hk2 : k = l.length := by omega
      have HE : Hid (dn l = k) := dn_of k l HD.out (by omega) (fun x hx => by have := (List.getElem?_eq_some_iff.1 hx).1; omega)
      have hge : (l.length : Int) ≤ (k : Int) := by omega
      clear hk2
      go_wp2
      go_ret2
      exact ⟨by rw [HE.out, ← HV.out]; rfl, rfl⟩

end Go.Proofs.YtinhbegnpadcaaaDoor
