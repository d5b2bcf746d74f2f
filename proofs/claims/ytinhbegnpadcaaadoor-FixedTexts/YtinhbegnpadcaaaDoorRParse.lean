/- The model's Parse, walked over any text. -/
import Derived.Test.YtinhbegnpadcaaaDoorRScan
namespace Go.Proofs.YtinhbegnpadcaaaDoor
open Go.RowKit

theorem dg_gen (l : List UInt8) (a n : Nat) (A : Int) (w : World) (hA : A = (a : Int)) (hm : (l.length : Int) ≤ 140737488351232) (ha : (a : Int) ≤ (l.length : Int)) (hn : n = dn (l.drop a)) :
    Calls Tryd.prog 16 #[.string (tx l), .int .i64 A] w fun e w' => e = .returned (.int .i64 n) ∧ w' = w := by
  subst hA
  subst hn
  exact digits_any l a w hm ha

/-- A text, its sign, and what stands behind the sign. -/
structure Sg (l b : List UInt8) (a : Nat) (mi : Bool) : Prop where
  hd : l.drop a = b
  hl : l.length = b.length + a
  ha : a = if mi then 1 else 0
  h0 : ∃ c : UInt8, l[0]? = some c ∧ (c == 45) = mi

theorem Sg.ix {l b : List UInt8} {a : Nat} {mi : Bool} (H : Sg l b a mi) : ∃ C : Int, 0 ≤ C ∧ C ≤ 255 ∧ (C == 45) = mi ∧ ∀ W, (Instr.index 9 (.string (tx l)) (.int .i64 0)).run Tryd.prog W = .ok (.int .u8 C) W := by
  obtain ⟨c, hc, hm⟩ := H.h0
  have hcb : c.toNat < 256 := UInt8.toNat_lt c
  refine ⟨(c.toNat : Int), by omega, by omega, ?_, fun W => tx_at l 0 c hc .i64 W⟩
  rw [← hm]
  by_cases h : c = 45
  · subst h
    rfl
  · rw [beq_eq_false_iff_ne.2 h, beq_eq_false_iff_ne]
    intro e
    exact h (UInt8.toNat_inj.1 (by simp; omega))

set_option maxHeartbeats 1000000 in
theorem rp_none (l b : List UInt8) (a : Nat) (mi : Bool) (H : Sg l b a mi) (w : World) (hm : (l.length : Int) ≤ 140737488351232) (h : dn b < 1 ∨ 13 < dn b ∨ (1 < dn b ∧ b[0]? = some 48)) :
    Calls Tryd.prog 6 #[.string (tx l)] w fun e w' => e = .returned (.tuple #[.int .i64 0, .int .i64 3]) ∧ w' = w := by
  have hsz : (tx l).size = l.length := tx_size l
  obtain ⟨C, c0, c1, hC, hix⟩ := H.ix
  have hat : (1 : Int) ≤ (l.length : Int) := by
    obtain ⟨c, hc, _⟩ := H.h0
    have := (List.getElem?_eq_some_iff.1 hc).1
    omega
  obtain ⟨n, HN⟩ : ∃ n, Hid (n = dn (l.drop a)) := ⟨_, rfl⟩
  have hn0 : 0 ≤ (n : Int) := by omega
  have hle : (n : Int) + (a : Int) ≤ (l.length : Int) := by have := HN.out; rw [H.hd] at this; have := dn_le b; have := H.hl; omega
  have hb0 : ∀ c, b[0]? = some c → ∀ W, (Instr.index 9 (.string (tx l)) (.int .i64 (a : Int))).run Tryd.prog W = .ok (.int .u8 (c.toNat : Int)) W := fun c h W => tx_at l a c (by rw [← H.hd, List.getElem?_drop] at h; exact h) .i64 W
  have hcs : (n : Int) < 1 ∨ 13 < (n : Int) ∨ ((1 : Int) < (n : Int) ∧ (n : Int) ≤ 13 ∧ ∀ W, (Instr.index 9 (.string (tx l)) (.int .i64 (a : Int))).run Tryd.prog W = .ok (.int .u8 48) W) := by
    have e := HN.out
    rw [H.hd] at e
    rw [← e] at h
    rcases h with h | h | ⟨h, h'⟩
    · exact Or.inl (by omega)
    · exact Or.inr (Or.inl (by omega))
    · by_cases h2 : 13 < n
      · exact Or.inr (Or.inl (by omega))
      · exact Or.inr (Or.inr ⟨by omega, by omega, hb0 48 h'⟩)
  have ha := H.ha
  clear H h hb0
  cases mi
  · rw [if_neg (by simp)] at ha
    subst ha
    rcases hcs with h | h | ⟨h1, h2, h3⟩
    · go_enter Tryd.func6, Tryd.ntmps6
      go_wp2_with (go_at_call 16; refine (dg_gen l 0 n _ _ rfl hm (by omega) HN.out).mono ?_; rintro e w' ⟨rfl, rfl⟩)
      go_ret2
      exact ⟨rfl, rfl⟩
    · go_enter Tryd.func6, Tryd.ntmps6
      go_wp2_with (go_at_call 16; refine (dg_gen l 0 n _ _ rfl hm (by omega) HN.out).mono ?_; rintro e w' ⟨rfl, rfl⟩)
      go_ret2
      exact ⟨rfl, rfl⟩
    · have h4 : ∀ W, (Instr.index 9 (.string (tx l)) (.int .i64 0)).run Tryd.prog W = .ok (.int .u8 48) W := h3
      clear h3 hix
      go_enter Tryd.func6, Tryd.ntmps6
      go_wp2_with (go_at_call 16; refine (dg_gen l 0 n _ _ rfl hm (by omega) HN.out).mono ?_; rintro e w' ⟨rfl, rfl⟩)
      go_ret2
      exact ⟨rfl, rfl⟩
  · rw [if_pos rfl] at ha
    subst ha
    rcases hcs with h | h | ⟨h1, h2, h3⟩
    · go_enter Tryd.func6, Tryd.ntmps6
      go_wp2_with (go_at_call 16; refine (dg_gen l 1 n _ _ rfl hm (by omega) HN.out).mono ?_; rintro e w' ⟨rfl, rfl⟩)
      go_ret2
      exact ⟨rfl, rfl⟩
    · go_enter Tryd.func6, Tryd.ntmps6
      go_wp2_with (go_at_call 16; refine (dg_gen l 1 n _ _ rfl hm (by omega) HN.out).mono ?_; rintro e w' ⟨rfl, rfl⟩)
      go_ret2
      exact ⟨rfl, rfl⟩
    · have h4 : ∀ W, (Instr.index 9 (.string (tx l)) (.int .i64 1)).run Tryd.prog W = .ok (.int .u8 48) W := h3
      clear h3
      go_enter Tryd.func6, Tryd.ntmps6
      go_wp2_with (go_at_call 16; refine (dg_gen l 1 n _ _ rfl hm (by omega) HN.out).mono ?_; rintro e w' ⟨rfl, rfl⟩)
      go_ret2
      exact ⟨rfl, rfl⟩

end Go.Proofs.YtinhbegnpadcaaaDoor
