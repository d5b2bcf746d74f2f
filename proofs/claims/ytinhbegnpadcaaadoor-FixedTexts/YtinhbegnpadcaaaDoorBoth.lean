/- Both Parse functions come to the same at any text, and what Text writes is read as it was. -/
import Derived.Test.YtinhbegnpadcaaaDoorRParts
namespace Go.Proofs.YtinhbegnpadcaaaDoor
open Go.RowKit

theorem rp_of (l b : List UInt8) (a : Nat) (mi : Bool) (H : Sg l b a mi) (w : World) (hm : (l.length : Int) ≤ 140737488351232) :
    Calls Tryd.prog 6 #[.string (tx l)] w fun e w' => e = .returned (.tuple #[.int .i64 (pn mi (pz b)).1, .int .i64 (pn mi (pz b)).2]) ∧ Below w.heap.size w w' := by
  by_cases h1 : dn b < 1 ∨ 13 < dn b ∨ (1 < dn b ∧ b[0]? = some 48)
  · have e : pz b = none := if_pos h1
    rw [e]
    refine (rp_none l b a mi H w hm h1).mono ?_
    rintro e w' ⟨rfl, rfl⟩
    exact ⟨rfl, Below.refl _ _⟩
  · have R := wr_of H h1
    rcases hd : b.drop (dn b) with _ | ⟨x, m⟩
    · have e : pz b = some (val (b.take (dn b)) * 1000000) := by
        unfold pz
        rw [if_neg h1, hd]
      rw [e]
      exact rp_whole l b a _ _ mi _ H R w hm hd (by omega)
    · have S := rs_of H hd
      by_cases h2 : x = 46 ∧ 1 ≤ dn m ∧ dn m ≤ 6 ∧ dn m = m.length
      · have e : pz b = some (val (b.take (dn b)) * 1000000 + val m * 10 ^ (6 - m.length)) := by
          unfold pz
          rw [if_neg h1, hd]
          exact if_pos h2
        rw [e]
        obtain ⟨h3, h4, h5, h6⟩ := h2
        refine rp_parts l b m a _ _ _ mi _ _ x H R S w hm h3 h4 h5 h6 rfl ?_
        rw [Int.natCast_add, Int.natCast_mul, Int.natCast_mul, Int.natCast_pow, h6]
        rfl
      · have e : pz b = none := by
          unfold pz
          rw [if_neg h1, hd]
          exact if_neg h2
        rw [e]
        refine rp_bad l b m a _ _ mi _ x H R S w hm ?_
        by_cases k1 : x = 46
        · by_cases k2 : dn m < 1
          · exact Or.inr (Or.inl k2)
          · by_cases k3 : 6 < dn m
            · exact Or.inr (Or.inr (Or.inl k3))
            · exact Or.inr (Or.inr (Or.inr fun k4 => h2 ⟨k1, by omega, by omega, k4⟩))
        · exact Or.inl k1

set_option maxHeartbeats 1000000 in
theorem rp_nil (w : World) :
    Calls Tryd.prog 6 #[.string (tx [])] w fun e w' => e = .returned (.tuple #[.int .i64 0, .int .i64 3]) ∧ w' = w := by
  have hsz : (tx []).size = 0 := rfl
  go_enter Tryd.func6, Tryd.ntmps6
  go_wp2_with (go_at_call 16; refine (dg_gen [] 0 0 0 _ rfl (by simp) (by simp) rfl).mono ?_; rintro e w' ⟨rfl, rfl⟩)
  go_ret2
  exact ⟨rfl, rfl⟩

theorem rparse_any (l : List UInt8) (w : World) (hm : (l.length : Int) ≤ 140737488351232) :
    Calls Tryd.prog 6 #[.string (tx l)] w fun e w' => e = .returned (.tuple #[.int .i64 (ps l).1, .int .i64 (ps l).2]) ∧ Below w.heap.size w w' := by
  cases l with
  | nil =>
    refine (rp_nil w).mono ?_
    rintro e w' ⟨rfl, rfl⟩
    exact ⟨rfl, Below.refl _ _⟩
  | cons c m =>
    by_cases h : c = 45
    · subst h
      rw [show ps (45 :: m) = pn true (pz m) from rfl]
      exact rp_of _ m 1 true ⟨rfl, by simp, rfl, 45, rfl, rfl⟩ w hm
    · rw [show ps (c :: m) = pn false (pz (c :: m)) from if_neg h]
      exact rp_of _ (c :: m) 0 false ⟨rfl, by simp, rfl, c, rfl, beq_eq_false_iff_ne.2 h⟩ w hm

theorem dn_app : ∀ (D t : List UInt8), (∀ c ∈ D, isD c = true) → dn (D ++ t) = D.length + dn t
  | [], t, _ => by simp
  | c :: D, t, h => by
    have hc := h c (List.mem_cons_self ..)
    have := dn_app D t (fun x hx => h x (List.mem_cons_of_mem _ hx))
    rw [List.cons_append]
    simp only [dn, hc, if_true, this, List.length_cons]
    omega

theorem dropWhile_split (l : List UInt8) (c : UInt8) : ∃ R, l = R ++ l.dropWhile (· == c) ∧ ∀ x ∈ R, x = c := by
  induction l with
  | nil => exact ⟨[], rfl, by simp⟩
  | cons x l ih =>
    by_cases h : (x == c) = true
    · obtain ⟨R, e, hR⟩ := ih
      refine ⟨x :: R, ?_, fun y hy => ?_⟩
      · rw [List.dropWhile_cons, if_pos h, List.cons_append, ← e]
      · rcases List.mem_cons.1 hy with rfl | hy
        · exact eq_of_beq h
        · exact hR y hy
    · exact ⟨[], by rw [List.dropWhile_cons, if_neg h]; rfl, by simp⟩
theorem trim_split (l : List UInt8) (c : UInt8) : ∃ R, l = Lib.trimRightB l c ++ R ∧ ∀ x ∈ R, x = c := by
  obtain ⟨R, e, hR⟩ := dropWhile_split l.reverse c
  refine ⟨R.reverse, ?_, fun x hx => hR x (List.mem_reverse.1 hx)⟩
  unfold Lib.trimRightB
  rw [← List.reverse_append, ← e, List.reverse_reverse]

/-- The digits of a whole part that is right. -/
theorem dec_one (W : Nat) : 1 ≤ (Lib.decDigits W).length ∧ ((Lib.decDigits W).length ≤ 1 ∨ ∃ c l, Lib.decDigits W = c :: l ∧ c ≠ 48) := by
  rcases Nat.eq_zero_or_pos W with h | h
  · subst h
    rw [Lib.decDigits_one (by omega)]
    exact ⟨by simp, Or.inl (by simp)⟩
  · obtain ⟨c, l, e, hc⟩ := (dec_spec W).2.2 h
    refine ⟨by rw [e]; simp, Or.inr ⟨c, l, e, fun h2 => hc (by rw [h2]; rfl)⟩⟩

theorem pz_cond (W : Nat) (t : List UInt8) (hW : W < 10000000000000) (ht : dn t = 0) :
    dn (Lib.decDigits W ++ t) = (Lib.decDigits W).length ∧ ¬ ((Lib.decDigits W).length < 1 ∨ 13 < (Lib.decDigits W).length ∨ (1 < (Lib.decDigits W).length ∧ (Lib.decDigits W ++ t)[0]? = some 48)) := by
  obtain ⟨h1, h2⟩ := dec_one W
  have h3 := dec_len W 12 (by omega)
  refine ⟨by rw [dn_app _ _ (dec_isD W), ht, Nat.add_zero], ?_⟩
  rintro (h | h | ⟨h, h'⟩)
  · omega
  · omega
  · rcases h2 with h2 | ⟨c, l, e, hc⟩
    · omega
    · rw [e] at h'
      exact hc (Option.some.inj h')
theorem pz_dec0 (W : Nat) (hW : W < 10000000000000) : pz (Lib.decDigits W ++ []) = some (W * 1000000) := by
  obtain ⟨hd, hc⟩ := pz_cond W [] hW rfl
  unfold pz
  rw [hd, if_neg hc, List.drop_left, List.take_left, dec_val]
theorem pz_dec1 (W : Nat) (m : List UInt8) (hW : W < 10000000000000) (h1 : 1 ≤ dn m) (h2 : dn m ≤ 6) (h3 : dn m = m.length) : pz (Lib.decDigits W ++ 46 :: m) = some (W * 1000000 + val m * 10 ^ (6 - m.length)) := by
  obtain ⟨hd, hc⟩ := pz_cond W (46 :: m) hW rfl
  unfold pz
  rw [hd, if_neg hc, List.drop_left, List.take_left, dec_val]
  exact if_pos ⟨rfl, h1, h2, h3⟩

theorem pz_text (W P : Nat) (hW : W < 10000000000000) (hP : P < 1000000) :
    pz (Lib.decDigits W ++ (if P = 0 then [] else 46 :: Lib.trimRightB (Lib.decDigits (1000000 + P)).tail 48)) = some (W * 1000000 + P) := by
  by_cases h : P = 0
  · subst h
    rw [if_pos rfl, pz_dec0 W hW, Nat.add_zero]
  · rw [if_neg h]
    obtain ⟨T, t1, t2, t3, t4⟩ := six P hP
    rw [t1, List.tail_cons]
    obtain ⟨R, e, hR⟩ := trim_split T 48
    have hz := val_zeros R hR
    have hdZ : ∀ c ∈ Lib.trimRightB T 48, isD c = true := fun c hc => t4 c (by rw [e]; exact List.mem_append_left _ hc)
    have hdn : dn (Lib.trimRightB T 48) = (Lib.trimRightB T 48).length := by
      have := dn_app (Lib.trimRightB T 48) [] hdZ
      rwa [List.append_nil] at this
    have hlen : (Lib.trimRightB T 48).length + R.length = 6 := by rw [← t2, ← List.length_append, ← e]
    have hval : val (Lib.trimRightB T 48) * 10 ^ R.length = P := by rw [← t3, e, val_app, hz, Nat.add_zero, ← e]
    have hne : 1 ≤ (Lib.trimRightB T 48).length := by
      rcases hq : Lib.trimRightB T 48 with _ | ⟨c, q⟩
      · rw [hq] at hval
        simp [val] at hval
        omega
      · simp
    rw [pz_dec1 W _ hW (by omega) (by omega) hdn, show 6 - (Lib.trimRightB T 48).length = R.length by omega, hval]

/-- What is written is read as it was. -/
theorem ps_text (v : Int) (h1 : v ≤ 9223372036854775807) : ps (tl (decide (v < 0)) (szI v / 1000000) (szI v % 1000000)) = (nrm v, 0) := by
  have hz := sz_hi v h1
  have he := sz_eq v
  have hneg := nrm_neg v
  have hT := pz_text (szI v / 1000000) (szI v % 1000000) (by omega) (by omega)
  have hsum : szI v / 1000000 * 1000000 + szI v % 1000000 = szI v := by omega
  rw [hsum] at hT
  by_cases c : v < 0
  · rw [decide_eq_true c]
    unfold tl
    rw [if_pos rfl, List.append_assoc]
    rw [List.cons_append, List.nil_append, show ∀ z, ps (45 :: z) = pn true (pz z) from fun z => rfl, hT]
    show (if 9223372036854775807 < szI v then ((0 : Int), (1 : Int)) else (sgI true (szI v), 0)) = _
    rw [if_neg (by omega)]
    unfold sgI
    rw [if_pos rfl, show (-((min (szI v) 9223372036854775807 : Nat) : Int)) = nrm v by rw [if_pos (hneg.2 c)] at he; omega]
  · rw [decide_eq_false c]
    unfold tl
    rw [if_neg (by simp), List.nil_append]
    have hfirst : ∃ x q, Lib.decDigits (szI v / 1000000) = x :: q ∧ x ≠ 45 := by
      rcases hq : Lib.decDigits (szI v / 1000000) with _ | ⟨x, q⟩
      · have := (dec_one (szI v / 1000000)).1
        rw [hq] at this
        simp at this
      · refine ⟨x, q, rfl, fun h => ?_⟩
        have := of_decide_eq_true (dec_isD (szI v / 1000000) x (by rw [hq]; exact List.mem_cons_self ..))
        rw [h] at this
        exact absurd this (by decide)
    obtain ⟨x, q, hx, hx2⟩ := hfirst
    rw [hx, List.cons_append] at hT ⊢
    rw [show ∀ z, ps (x :: z) = pn false (pz (x :: z)) from fun z => if_neg hx2, hT]
    show (if 9223372036854775807 < szI v then ((0 : Int), (1 : Int)) else (sgI false (szI v), 0)) = _
    rw [if_neg (by omega)]
    unfold sgI
    rw [if_neg (by simp), show (((min (szI v) 9223372036854775807 : Nat) : Int)) = nrm v by rw [if_neg (by omega)] at he; omega]

theorem tl_len (v : Int) (h1 : v ≤ 9223372036854775807) : (tl (decide (v < 0)) (szI v / 1000000) (szI v % 1000000)).length ≤ 30 := by
  have hz := sz_hi v h1
  have h3 := dec_len (szI v / 1000000) 12 (by omega)
  obtain ⟨T, t1, t2, _, _⟩ := six (szI v % 1000000) (by omega)
  obtain ⟨R, e, _⟩ := trim_split T 48
  have h4 : (Lib.trimRightB T 48).length + R.length = 6 := by rw [← t2, ← List.length_append, ← e]
  unfold tl
  rw [t1, List.tail_cons]
  by_cases c : szI v % 1000000 = 0
  · rw [if_pos c]
    split <;> simp <;> omega
  · rw [if_neg c]
    split <;> simp <;> omega

end Go.Proofs.YtinhbegnpadcaaaDoor
