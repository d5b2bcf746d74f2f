/- The model's digits, walked over any text, and what ParseInt makes of digits. -/
import Derived.Test.YtinhbegnpadcaaaDoorParse
import Derived.Lib.ParseIntBTie
namespace Go.Proofs.YtinhbegnpadcaaaDoor
open Go.RowKit

set_option maxHeartbeats 1000000 in
theorem digits_any (l : List UInt8) (a : Nat) (w : World) (hm : (l.length : Int) ≤ 140737488351232) (ha : (a : Int) ≤ (l.length : Int)) :
    Calls Tryd.prog 16 #[.string (tx l), .int .i64 a] w fun e w' => e = .returned (.int .i64 (dn (l.drop a))) ∧ w' = w := by
  have hsz : (tx l).size = l.length := tx_size l
  have hdl : (l.drop a).length = l.length - a := List.length_drop ..
  have HX : Hid (∀ (k : Nat) (c : UInt8), (l.drop a)[k]? = some c → ∀ W, (Instr.index 9 (.string (tx l)) (.int .i64 ((a : Int) + (k : Int)))).run Tryd.prog W = .ok (.int .u8 (c.toNat : Int)) W) := fun k c h W => tx_at l (a + k) c (by rw [List.getElem?_drop] at h; exact h) .i64 W
  have HDL : Hid _ := hdl
  clear hdl
  go_enter Tryd.func16, Tryd.ntmps16
  go_wp2
  go_loop [5] (fun i => ∃ (k : Nat), k ≤ (l.drop a).length ∧ i = .int .i64 k ∧ ∀ j c, j < k → (l.drop a)[j]? = some c → isD c = true) (fun i => l.length - (intOf i).toNat)
  case atStart => exact ⟨0, Nat.zero_le _, rfl, fun j c hj _ => by omega⟩
  case round =>
    obtain ⟨k, hk, rfl, hD⟩ := hrel
    have HD : Hid _ := hD
    have HK : Hid _ := hk
    have hk0 : 0 ≤ (k : Int) := by omega
    have hk1 : (a : Int) + (k : Int) ≤ (l.length : Int) := by have := HDL.out; omega
    clear hD hk
    by_cases hlt : (a : Int) + (k : Int) < (l.length : Int)
    · have hlt2 : k < (l.drop a).length := by have := HDL.out; omega
      obtain ⟨c, hc⟩ : ∃ c, (l.drop a)[k]? = some c := ⟨_, List.getElem?_eq_getElem hlt2⟩
      have hix := HX.out k c hc
      have HC : Hid _ := hc
      clear hc hlt2
      have hcb : c.toNat < 256 := UInt8.toNat_lt c
      obtain ⟨C, hC⟩ : ∃ C : Int, (c.toNat : Int) = C := ⟨_, rfl⟩
      rw [hC] at hix
      have c0 : 0 ≤ C := by omega
      have c1 : C ≤ 255 := by omega
      have HCC : Hid _ := hC
      clear hC hcb
      by_cases d : 48 ≤ C ∧ C ≤ 57
      · obtain ⟨d0, d1⟩ := d
        have HD2 : Hid (isD c = true) := by
          have := HCC.out
          exact decide_eq_true (by omega)
        go_wp2
        go_round
        case rel =>
          refine ⟨k + 1, by have := HDL.out; omega, by go_num, fun j x hj hx => ?_⟩
          rcases (show j = k ∨ j < k from by omega) with rfl | h
          · rw [HC.out] at hx
            rw [← Option.some.inj hx]
            exact HD2.out
          · exact HD.out j x h hx
        case measure => simp [intOf]; omega
      · have HE : Hid (dn (l.drop a) = k) := dn_of k _ HD.out HK.out (fun x hx => by
          rw [HC.out] at hx
          rw [← Option.some.inj hx]
          have := HCC.out
          exact decide_eq_false (by omega))
        by_cases d0 : C < 48
        · clear d
          go_wp2
          go_ret
          exact ⟨by rw [HE.out]; rfl, rfl⟩
        · have d1 : 57 < C := by omega
          clear d
          go_wp2
          go_ret
          exact ⟨by rw [HE.out]; rfl, rfl⟩
    · have HE : Hid (dn (l.drop a) = k) := dn_of k _ HD.out HK.out (fun x hx => by have := (List.getElem?_eq_some_iff.1 hx).1; have := HDL.out; omega)
      have hge : (l.length : Int) ≤ (a : Int) + (k : Int) := by omega
      clear hlt
      go_wp2
      go_ret
      exact ⟨by rw [HE.out]; rfl, rfl⟩

theorem puint_of (l : List UInt8) (hl : ∀ c ∈ l, isD c = true) : ∀ a, a * 10 ^ l.length + val l < 10 ^ 14 → Lib.parseUint10 a l = .ok (a * 10 ^ l.length + val l) := by
  induction l with
  | nil => intro a _; simp [Lib.parseUint10, val]
  | cons c l ih =>
    intro a h
    have hc := of_decide_eq_true (hl c (List.mem_cons_self ..))
    have e : a * 10 ^ (c :: l).length + val (c :: l) = (a * 10 + (c.toNat - 48)) * 10 ^ l.length + val l := by
      rw [val_cons, List.length_cons, Nat.pow_succ, Nat.add_mul, Nat.mul_assoc a 10, Nat.mul_comm 10, Nat.add_assoc]
    rw [e] at h ⊢
    have hp : 1 ≤ 10 ^ l.length := Nat.pow_pos (by omega)
    have hb : a * 10 + (c.toNat - 48) < 10 ^ 14 := by
      have := Nat.le_mul_of_pos_right (a * 10 + (c.toNat - 48)) hp
      omega
    unfold Lib.parseUint10
    rw [if_pos hc, if_neg (by omega), if_neg (by omega)]
    exact ih (fun x hx => hl x (List.mem_cons_of_mem _ hx)) _ h

/-- Digits, at most 13 of them, are read as their number. -/
theorem pint_of (l : List UInt8) (hl : ∀ c ∈ l, isD c = true) (h1 : 1 ≤ l.length) (h2 : l.length ≤ 13) : Lib.parseIntB 64 l = .ok (val l : Int) := by
  have hv := val_lt l hl
  have hp : 10 ^ l.length ≤ 10 ^ 13 := Nat.pow_le_pow_right (by omega) h2
  rw [Lib.parseIntB_64]
  cases l with
  | nil => simp at h1
  | cons c r =>
    have hc : 48 ≤ c.toNat ∧ c.toNat ≤ 57 := of_decide_eq_true (hl c (List.mem_cons_self ..))
    have hm : Lib.parseMag (c :: r) = .ok (val (c :: r)) := by
      unfold Lib.parseMag
      rw [if_neg (by simp), puint_of _ hl 0 (by omega)]
      simp
    unfold Lib.atoiAll
    simp only [if_neg (show ¬ (c.toNat = 43 ∨ c.toNat = 45) by omega), hm]
    rw [if_neg (by omega), if_neg (by omega), if_neg (by omega)]

theorem pint_any (l : List UInt8) (hl : ∀ c ∈ l, isD c = true) (h1 : 1 ≤ l.length) (h2 : l.length ≤ 13) (w : World) :
    Calls Tryd.prog 17 #[.string (tx l), .int .i64 10, .int .i64 64] w fun e w' => e = .returned (.tuple #[.int .i64 (val l : Int), .nilIface]) ∧ Below w.heap.size w w' := by
  refine (Tryd.strconv_ParseInt_10_at64_ok (tx l) (by rw [tx_size]; omega) _ (by have := pint_of l hl h1 h2; simpa [tx] using this) w).mono ?_
  rintro e w' ⟨rfl, h⟩
  refine ⟨rfl, ?_⟩
  rcases h with rfl | ⟨t, rfl⟩
  · exact Below.refl _ _
  · exact Lib.bytesWorld_below w 5 t

end Go.Proofs.YtinhbegnpadcaaaDoor
