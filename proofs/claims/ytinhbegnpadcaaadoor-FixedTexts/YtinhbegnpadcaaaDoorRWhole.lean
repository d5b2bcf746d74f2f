/- The model's Parse, walked over any text: texts that are read. -/
import Derived.Test.YtinhbegnpadcaaaDoorRParse
namespace Go.Proofs.YtinhbegnpadcaaaDoor
open Go.RowKit

/-- What holds of a whole part that is right. -/
structure Wr (l b : List UInt8) (a n : Nat) (V : Int) : Prop where
  hn : n = dn (l.drop a)
  n1 : (1 : Int) ≤ (n : Int)
  n2 : (n : Int) ≤ 13
  hV : V = (val (b.take n) : Int)
  v0 : 0 ≤ V
  v1 : V < 10000000000000
  first : ∃ c : UInt8, (∀ W, (Instr.index 9 (.string (tx l)) (.int .i64 (a : Int))).run Tryd.prog W = .ok (.int .u8 (c.toNat : Int)) W) ∧ (n ≤ 1 ∨ c ≠ 48)
  le : (n : Int) + (a : Int) ≤ (l.length : Int)
  ex : (tx l).extract a (a + n) = tx (b.take n)
  isd : ∀ c ∈ b.take n, isD c = true
  len : (b.take n).length = n

theorem wr_of {l b : List UInt8} {a : Nat} {mi : Bool} (H : Sg l b a mi) (h : ¬ (dn b < 1 ∨ 13 < dn b ∨ (1 < dn b ∧ b[0]? = some 48))) : Wr l b a (dn b) ((val (b.take (dn b)) : Nat) : Int) := by
  have W := wh_of b h
  have hle := dn_le b
  obtain ⟨c, hc, hc2⟩ := W.first
  have hl := H.hl
  refine ⟨by rw [H.hd], W.n1, W.n2, rfl, W.v0, W.v1, ⟨c, fun X => tx_at l a c ?_ .i64 X, hc2⟩, by omega, ?_, dn_isD b, by rw [List.length_take]; omega⟩
  · rw [← H.hd, List.getElem?_drop] at hc
    exact hc
  · rw [tx_extract, H.hd, Nat.add_sub_cancel_left]

theorem pint_gen (l : List UInt8) (n : Nat) (V : Int) (hl : ∀ c ∈ l, isD c = true) (hn : l.length = n) (h1 : (1 : Int) ≤ (n : Int)) (h2 : (n : Int) ≤ 13) (hV : V = (val l : Int)) (w : World) :
    Calls Tryd.prog 17 #[.string (tx l), .int .i64 10, .int .i64 64] w fun e w' => e = .returned (.tuple #[.int .i64 V, .nilIface]) ∧ Below w.heap.size w w' := by
  subst hV
  exact pint_any l hl (by omega) (by omega) w

theorem pn_big (mi : Bool) (V P : Int) (N : Nat) (hN : (N : Int) = V * 1000000 + P) (h : 9223372036854 < V ∨ (V = 9223372036854 ∧ 775807 < P)) (p0 : 0 ≤ P) : pn mi (some N) = (0, 1) := by
  unfold pn
  exact if_pos (by omega)
theorem pn_pos (V P : Int) (N : Nat) (hN : (N : Int) = V * 1000000 + P) (h : V < 9223372036854 ∨ (V = 9223372036854 ∧ P ≤ 775807)) (p1 : P < 1000000) : pn false (some N) = (V * 1000000 + P, 0) := by
  show (if 9223372036854775807 < N then ((0 : Int), (1 : Int)) else (sgI false N, 0)) = _
  rw [if_neg (by omega)]
  unfold sgI
  rw [if_neg (by simp)]
  rw [show ((min N 9223372036854775807 : Nat) : Int) = V * 1000000 + P by omega]
theorem pn_neg (V P : Int) (N : Nat) (hN : (N : Int) = V * 1000000 + P) (h : V < 9223372036854 ∨ (V = 9223372036854 ∧ P ≤ 775807)) (p1 : P < 1000000) : pn true (some N) = (-(V * 1000000 + P), 0) := by
  show (if 9223372036854775807 < N then ((0 : Int), (1 : Int)) else (sgI true N, 0)) = _
  rw [if_neg (by omega)]
  unfold sgI
  rw [if_pos rfl]
  rw [show ((min N 9223372036854775807 : Nat) : Int) = V * 1000000 + P by omega]

set_option maxHeartbeats 2000000 in
/-- The whole part alone. -/
theorem rp_whole (l b : List UInt8) (a n N : Nat) (mi : Bool) (V : Int) (H : Sg l b a mi) (R : Wr l b a n V) (w : World) (hm : (l.length : Int) ≤ 140737488351232) (hd : b.drop n = []) (hN : (N : Int) = V * 1000000) :
    Calls Tryd.prog 6 #[.string (tx l)] w fun e w' => e = .returned (.tuple #[.int .i64 (pn mi (some N)).1, .int .i64 (pn mi (some N)).2]) ∧ Below w.heap.size w w' := by
  have hsz : (tx l).size = l.length := tx_size l
  obtain ⟨C, c0, c1, hC, hix⟩ := H.ix
  obtain ⟨hn, n1, n2, hV, v0, v1, ⟨x, hx, hx2⟩, hle, hex, hisd, hlen⟩ := R
  have HN : Hid _ := hn
  have HV : Hid _ := hV
  have HD : Hid _ := hisd
  have HL : Hid _ := hlen
  have hend : (a : Int) + (n : Int) = (l.length : Int) := by
    have h1 := congrArg List.length hd
    rw [List.length_drop, List.length_nil] at h1
    have := H.hl
    omega
  have hxb : x.toNat < 256 := UInt8.toNat_lt x
  have hat : (1 : Int) ≤ (l.length : Int) := by omega
  have hfst : (n : Int) ≤ 1 ∨ ((1 : Int) < (n : Int) ∧ ((x.toNat : Int) == 48) = false) := by
    by_cases c : n ≤ 1
    · exact Or.inl (by omega)
    · refine Or.inr ⟨by omega, ?_⟩
      rw [beq_eq_false_iff_ne]
      intro e
      rcases hx2 with h | h
      · omega
      · exact h (UInt8.toNat_inj.1 (by simp; omega))
  have ha := H.ha
  have HNN : Hid ((N : Int) = V * 1000000 + 0) := by show _ = _; omega
  clear H hn hV hisd hlen hd hx2 hN hxb
  have hcs : 9223372036854 < V ∨ V = 9223372036854 ∨ V < 9223372036854 := by omega
  generalize (x.toNat : Int) = X at hx hfst
  cases mi
  · rw [if_neg (by simp)] at ha
    subst ha
    have hx' : ∀ W, (Instr.index 9 (.string (tx l)) (.int .i64 0)).run Tryd.prog W = .ok (.int .u8 X) W := hx
    have hex' : (tx l).extract 0 n = tx (b.take n) := by rw [← hex, Nat.zero_add]
    have hCX : C = X := by
      have h := (hix w).symm.trans (hx' w)
      injection h with h
      injection h
    subst hCX
    clear hx hx' hex
    have hge : (l.length : Int) ≤ (n : Int) := by omega
    clear hend
    rcases hcs with k | k | k
    · have HE : Hid (pn false (some N) = (0, 1)) := pn_big false V 0 N HNN.out (Or.inl k) (by omega)
      rcases hfst with h | ⟨h, h'⟩
      all_goals
        go_enter Tryd.func6, Tryd.ntmps6
        go_wp2_with (first | (go_at_call 16; refine (dg_gen l 0 n _ _ rfl hm (by omega) HN.out).mono ?_; rintro e w' ⟨rfl, rfl⟩) | (go_at_call 17; refine (pint_gen (b.take n) n V HD.out HL.out n1 n2 HV.out _).mono ?_; rintro e w' ⟨rfl, hb⟩))
        go_ret2
        exact ⟨by rw [HE.out]; rfl, hb⟩
    · have HE : Hid (pn false (some N) = (9223372036854000000, 0)) := by
        have := pn_pos V 0 N HNN.out (Or.inr ⟨k, by omega⟩) (by omega)
        rw [k] at this
        exact this
      rcases hfst with h | ⟨h, h'⟩
      all_goals
        go_enter Tryd.func6, Tryd.ntmps6
        go_wp2_with (first | (go_at_call 16; refine (dg_gen l 0 n _ _ rfl hm (by omega) HN.out).mono ?_; rintro e w' ⟨rfl, rfl⟩) | (go_at_call 17; refine (pint_gen (b.take n) n V HD.out HL.out n1 n2 HV.out _).mono ?_; rintro e w' ⟨rfl, hb⟩))
        go_ret2
        exact ⟨by rw [HE.out]; rfl, hb⟩
    · have HE : Hid (pn false (some N) = (V * 1000000, 0)) := by
        have := pn_pos V 0 N HNN.out (Or.inl k) (by omega)
        rw [Int.add_zero] at this
        exact this
      have k2 : (V == 9223372036854) = false := by rw [beq_eq_false_iff_ne]; omega
      rcases hfst with h | ⟨h, h'⟩
      all_goals
        go_enter Tryd.func6, Tryd.ntmps6
        go_wp2_with (first | (go_at_call 16; refine (dg_gen l 0 n _ _ rfl hm (by omega) HN.out).mono ?_; rintro e w' ⟨rfl, rfl⟩) | (go_at_call 17; refine (pint_gen (b.take n) n V HD.out HL.out n1 n2 HV.out _).mono ?_; rintro e w' ⟨rfl, hb⟩))
        go_ret2
        exact ⟨by rw [HE.out]; rfl, hb⟩
  · rw [if_pos rfl] at ha
    subst ha
    have hx' : ∀ W, (Instr.index 9 (.string (tx l)) (.int .i64 1)).run Tryd.prog W = .ok (.int .u8 X) W := hx
    have hex' : (tx l).extract 1 (1 + n) = tx (b.take n) := hex
    clear hx hex
    have hge : (l.length : Int) ≤ 1 + (n : Int) := by omega
    clear hend
    rcases hcs with k | k | k
    · have HE : Hid (pn true (some N) = (0, 1)) := pn_big true V 0 N HNN.out (Or.inl k) (by omega)
      rcases hfst with h | ⟨h, h'⟩
      all_goals
        go_enter Tryd.func6, Tryd.ntmps6
        go_wp2_with (first | (go_at_call 16; refine (dg_gen l 1 n _ _ rfl hm (by omega) HN.out).mono ?_; rintro e w' ⟨rfl, rfl⟩) | (go_at_call 17; refine (pint_gen (b.take n) n V HD.out HL.out n1 n2 HV.out _).mono ?_; rintro e w' ⟨rfl, hb⟩))
        go_ret2
        exact ⟨by rw [HE.out]; rfl, hb⟩
    · have HE : Hid (pn true (some N) = (-9223372036854000000, 0)) := by
        have := pn_neg V 0 N HNN.out (Or.inr ⟨k, by omega⟩) (by omega)
        rw [k] at this
        exact this
      rcases hfst with h | ⟨h, h'⟩
      all_goals
        go_enter Tryd.func6, Tryd.ntmps6
        go_wp2_with (first | (go_at_call 16; refine (dg_gen l 1 n _ _ rfl hm (by omega) HN.out).mono ?_; rintro e w' ⟨rfl, rfl⟩) | (go_at_call 17; refine (pint_gen (b.take n) n V HD.out HL.out n1 n2 HV.out _).mono ?_; rintro e w' ⟨rfl, hb⟩))
        go_ret2
        exact ⟨by rw [HE.out]; rfl, hb⟩
    · have HE : Hid (pn true (some N) = (-(V * 1000000), 0)) := by
        have := pn_neg V 0 N HNN.out (Or.inl k) (by omega)
        rw [Int.add_zero] at this
        exact this
      have k2 : (V == 9223372036854) = false := by rw [beq_eq_false_iff_ne]; omega
      rcases hfst with h | ⟨h, h'⟩
      all_goals
        go_enter Tryd.func6, Tryd.ntmps6
        go_wp2_with (first | (go_at_call 16; refine (dg_gen l 1 n _ _ rfl hm (by omega) HN.out).mono ?_; rintro e w' ⟨rfl, rfl⟩) | (go_at_call 17; refine (pint_gen (b.take n) n V HD.out HL.out n1 n2 HV.out _).mono ?_; rintro e w' ⟨rfl, hb⟩))
        go_ret2
        exact ⟨by rw [HE.out]; rfl, hb⟩

end Go.Proofs.YtinhbegnpadcaaaDoor
