/- The model's Parse, walked over any text: what stands behind the whole part is wrong. -/
import Derived.Test.YtinhbegnpadcaaaDoorRWhole
namespace Go.Proofs.YtinhbegnpadcaaaDoor
open Go.RowKit

/-- What stands behind the whole part. -/
structure Rs (l b m : List UInt8) (a n : Nat) (x : UInt8) (K : Nat) : Prop where
  ix : ∀ W, (Instr.index 9 (.string (tx l)) (.int .i64 ((a : Int) + (n : Int)))).run Tryd.prog W = .ok (.int .u8 (x.toNat : Int)) W
  hd : l.drop (a + n + 1) = m
  hl : l.length = a + n + 1 + m.length
  hK : K = dn (l.drop (a + n + 1))

theorem rs_of {l b m : List UInt8} {a n : Nat} {mi : Bool} {x : UInt8} (H : Sg l b a mi) (hd : b.drop n = x :: m) : Rs l b m a n x (dn m) := by
  have h1 : l.drop (a + n) = x :: m := by rw [← List.drop_drop, H.hd, hd]
  have h2 : l.drop (a + n + 1) = m := by rw [← List.drop_drop, h1]; rfl
  refine ⟨fun W => tx_at l (a + n) x ?_ .i64 W, h2, ?_, by rw [h2]⟩
  · have := congrArg (fun t => t[0]?) h1
    simpa [List.getElem?_drop] using this
  · have := congrArg List.length h1
    rw [List.length_drop, List.length_cons] at this
    omega

set_option maxHeartbeats 2000000 in
theorem rp_bad (l b m : List UInt8) (a n K : Nat) (mi : Bool) (V : Int) (y : UInt8) (H : Sg l b a mi) (R : Wr l b a n V) (S : Rs l b m a n y K) (w : World) (hm : (l.length : Int) ≤ 140737488351232) (h : y ≠ 46 ∨ K < 1 ∨ 6 < K ∨ K ≠ m.length) :
    Calls Tryd.prog 6 #[.string (tx l)] w fun e w' => e = .returned (.tuple #[.int .i64 0, .int .i64 3]) ∧ Below w.heap.size w w' := by
  have hsz : (tx l).size = l.length := tx_size l
  obtain ⟨C, c0, c1, hC, hix⟩ := H.ix
  obtain ⟨hn, n1, n2, hV, v0, v1, ⟨x, hx, hx2⟩, hle, hex, hisd, hlen⟩ := R
  obtain ⟨hixE, hdE, hlE, hK⟩ := S
  have HN : Hid _ := hn
  have HV : Hid _ := hV
  have HD : Hid _ := hisd
  have HL : Hid _ := hlen
  have HK : Hid _ := hK
  have HDE : Hid _ := hdE
  have hK0 : 0 ≤ (K : Int) := by omega
  have hK1 : (a : Int) + (n : Int) + 1 + (K : Int) ≤ (l.length : Int) := by have h1 := dn_le m; rw [hdE] at hK; omega
  have HKm : Hid (K = dn m) := by rw [hdE] at hK; exact hK
  have hlm : (a : Int) + (n : Int) + 1 + (m.length : Int) = (l.length : Int) := by omega
  have HLM : Hid _ := hlm
  have hxb : x.toNat < 256 := UInt8.toNat_lt x
  have hyb : y.toNat < 256 := UInt8.toNat_lt y
  have hat : (1 : Int) ≤ (l.length : Int) := by omega
  have hfst : (n : Int) ≤ 1 ∨ ((1 : Int) < (n : Int) ∧ ((x.toNat : Int) == 48) = false) := by
    by_cases c : n ≤ 1
    · exact Or.inl (by omega)
    · refine Or.inr ⟨by omega, ?_⟩
      rw [beq_eq_false_iff_ne]
      intro e
      rcases hx2 with h | h
      · omega
      · exact h (UInt8.toNat_inj.1 (by simp; omega))
  have ha := H.ha
  have hbad : ((y.toNat : Int) != 46) = true ∨ (((y.toNat : Int) != 46) = false ∧ ((K : Int) < 1 ∨ 6 < (K : Int) ∨ ((1 : Int) ≤ (K : Int) ∧ (K : Int) ≤ 6 ∧ (a : Int) + (n : Int) + 1 + (K : Int) < (l.length : Int)))) := by
    by_cases c : (y.toNat : Int) = 46
    · refine Or.inr ⟨by rw [c]; rfl, ?_⟩
      have hy : y = 46 := UInt8.toNat_inj.1 (by simp; omega)
      rcases h with h | h | h | h
      · exact absurd hy h
      · omega
      · omega
      · have := dn_le m
        have := HKm.out
        omega
    · exact Or.inl (by rw [bne_iff_ne]; exact c)
  clear H hn hV hisd hlen hx2 hxb hyb hK hdE hlE hlm h
  generalize (x.toNat : Int) = X at hx hfst
  generalize (y.toNat : Int) = Y at hixE hbad
  cases mi
  · rw [if_neg (by simp)] at ha
    subst ha
    have hx' : ∀ W, (Instr.index 9 (.string (tx l)) (.int .i64 0)).run Tryd.prog W = .ok (.int .u8 X) W := hx
    have hex' : (tx l).extract 0 n = tx (b.take n) := by rw [← hex, Nat.zero_add]
    have hCX : C = X := by
      have h := (hix w).symm.trans (hx' w)
      injection h with h
      injection h
    have hixE' : ∀ W, (Instr.index 9 (.string (tx l)) (.int .i64 (n : Int))).run Tryd.prog W = .ok (.int .u8 Y) W := by
      intro W
      have := hixE W
      rw [show (((0 : Nat) : Int) + (n : Int)) = (n : Int) by omega] at this
      exact this
    have hK1' : (n : Int) + 1 + (K : Int) ≤ (l.length : Int) := by omega
    have hlast : (n : Int) < (l.length : Int) := by omega
    have hbad' : (Y != 46) = true ∨ ((Y != 46) = false ∧ ((K : Int) < 1 ∨ 6 < (K : Int) ∨ ((1 : Int) ≤ (K : Int) ∧ (K : Int) ≤ 6 ∧ ((n : Int) + 1 + (K : Int) != (l.length : Int)) = true))) := by
      rcases hbad with h | ⟨h, h' | h' | ⟨h1, h2, h3⟩⟩
      · exact Or.inl h
      · exact Or.inr ⟨h, Or.inl h'⟩
      · exact Or.inr ⟨h, Or.inr (Or.inl h')⟩
      · exact Or.inr ⟨h, Or.inr (Or.inr ⟨h1, h2, by rw [bne_iff_ne]; omega⟩)⟩
    subst hCX
    clear hx hx' hex hixE hK1 hbad
    rcases hbad' with k | ⟨k, k | k | ⟨k1, k2, k3⟩⟩ <;> rcases hfst with h | ⟨h, h'⟩
    all_goals
      go_enter Tryd.func6, Tryd.ntmps6
      go_wp2_with fail
      refine (dg_gen l 0 n _ _ rfl hm (by omega) HN.out).mono ?_
      rintro e w' ⟨rfl, rfl⟩
      go_wp2_with fail
      refine (pint_gen (b.take n) n V HD.out HL.out n1 n2 HV.out _).mono ?_
      rintro e w' ⟨rfl, hb⟩
      go_wp2_with fail
      refine (dg_gen l (0 + n + 1) K _ _ (by omega) hm (by omega) HK.out).mono ?_
      rintro e w' ⟨rfl, rfl⟩
      go_wp2
      go_ret2
      exact ⟨rfl, hb⟩
  · rw [if_pos rfl] at ha
    subst ha
    have hx' : ∀ W, (Instr.index 9 (.string (tx l)) (.int .i64 1)).run Tryd.prog W = .ok (.int .u8 X) W := hx
    have hex' : (tx l).extract 1 (1 + n) = tx (b.take n) := hex
    have hixE' : ∀ W, (Instr.index 9 (.string (tx l)) (.int .i64 (1 + (n : Int)))).run Tryd.prog W = .ok (.int .u8 Y) W := hixE
    have hK1' : 1 + (n : Int) + 1 + (K : Int) ≤ (l.length : Int) := by omega
    have hlast : 1 + (n : Int) < (l.length : Int) := by omega
    have hbad' : (Y != 46) = true ∨ ((Y != 46) = false ∧ ((K : Int) < 1 ∨ 6 < (K : Int) ∨ ((1 : Int) ≤ (K : Int) ∧ (K : Int) ≤ 6 ∧ (1 + (n : Int) + 1 + (K : Int) != (l.length : Int)) = true))) := by
      rcases hbad with h | ⟨h, h' | h' | ⟨h1, h2, h3⟩⟩
      · exact Or.inl h
      · exact Or.inr ⟨h, Or.inl h'⟩
      · exact Or.inr ⟨h, Or.inr (Or.inl h')⟩
      · exact Or.inr ⟨h, Or.inr (Or.inr ⟨h1, h2, by rw [bne_iff_ne]; omega⟩)⟩
    clear hx hex hixE hK1 hbad
    rcases hbad' with k | ⟨k, k | k | ⟨k1, k2, k3⟩⟩ <;> rcases hfst with h | ⟨h, h'⟩
    all_goals
      go_enter Tryd.func6, Tryd.ntmps6
      go_wp2_with fail
      refine (dg_gen l 1 n _ _ rfl hm (by omega) HN.out).mono ?_
      rintro e w' ⟨rfl, rfl⟩
      go_wp2_with fail
      refine (pint_gen (b.take n) n V HD.out HL.out n1 n2 HV.out _).mono ?_
      rintro e w' ⟨rfl, hb⟩
      go_wp2_with fail
      refine (dg_gen l (1 + n + 1) K _ _ (by omega) hm (by omega) HK.out).mono ?_
      rintro e w' ⟨rfl, rfl⟩
      go_wp2
      go_ret2
      exact ⟨rfl, hb⟩

end Go.Proofs.YtinhbegnpadcaaaDoor
