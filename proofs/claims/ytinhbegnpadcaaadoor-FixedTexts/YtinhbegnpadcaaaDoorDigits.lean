/- Decimal digits as plain lists: their value, their form; no program in sight. -/
import Derived.Lib.ItoaNum
import Derived.Lib.ItoaMem
import Derived.Lib.TrimByte
namespace Go.Proofs.YtinhbegnpadcaaaDoor

/-- A digit. -/
def isD (c : UInt8) : Bool := decide (48 ≤ c.toNat ∧ c.toNat ≤ 57)
/-- The number of digits. -/
def val (l : List UInt8) : Nat := l.foldl (fun v c => v * 10 + (c.toNat - 48)) 0
theorem val_snoc (l : List UInt8) (c : UInt8) : val (l ++ [c]) = val l * 10 + (c.toNat - 48) := by unfold val; rw [List.foldl_append]; rfl
theorem fold_eq (l : List UInt8) : ∀ a, l.foldl (fun v c => v * 10 + (c.toNat - 48)) a = a * 10 ^ l.length + val l := by
  induction l with
  | nil => intro a; simp [val]
  | cons c l ih =>
    intro a
    have h1 := ih (a * 10 + (c.toNat - 48))
    have h2 := ih (0 * 10 + (c.toNat - 48))
    have e : val (c :: l) = (0 * 10 + (c.toNat - 48)) * 10 ^ l.length + val l := h2
    rw [List.foldl_cons, h1, e, List.length_cons, Nat.pow_succ, Nat.add_mul]
    grind
theorem val_cons (c : UInt8) (l : List UInt8) : val (c :: l) = (c.toNat - 48) * 10 ^ l.length + val l := by
  have := fold_eq l (0 * 10 + (c.toNat - 48))
  have e : val (c :: l) = (0 * 10 + (c.toNat - 48)) * 10 ^ l.length + val l := this
  rw [e]; simp
theorem val_app (l m : List UInt8) : val (l ++ m) = val l * 10 ^ m.length + val m := by
  unfold val; rw [List.foldl_append]; exact fold_eq m _
theorem val_lt (l : List UInt8) (h : ∀ c ∈ l, isD c = true) : val l < 10 ^ l.length := by
  induction l with
  | nil => simp [val]
  | cons c l ih =>
    have h1 := ih (fun x hx => h x (List.mem_cons_of_mem _ hx))
    have h2 := of_decide_eq_true (h c (List.mem_cons_self ..))
    rw [val_cons, List.length_cons, Nat.pow_succ]
    have h3 : (c.toNat - 48) * 10 ^ l.length ≤ 9 * 10 ^ l.length := Nat.mul_le_mul_right _ (by omega)
    omega
theorem ofNat_toNat (n : Nat) (h : n < 256) : (UInt8.ofNat n).toNat = n := by simp [Nat.mod_eq_of_lt h]
theorem dec_spec (u : Nat) : val (Lib.decDigits u) = u ∧ (∀ c ∈ Lib.decDigits u, isD c = true) ∧ (1 ≤ u → ∃ c l, Lib.decDigits u = c :: l ∧ c.toNat ≠ 48) := by
  induction u using Nat.strongRecOn with
  | _ u ih =>
    by_cases h : u < 10
    · rw [Lib.decDigits_one h]
      have e := ofNat_toNat (48 + u) (by omega)
      refine ⟨?_, ?_, ?_⟩
      · unfold val; simp only [List.foldl_cons, List.foldl_nil, e]; omega
      · intro c hc
        simp only [List.mem_singleton] at hc
        subst hc
        unfold isD
        rw [e]
        exact decide_eq_true (by omega)
      · intro h1
        exact ⟨_, [], rfl, by rw [e]; omega⟩
    · obtain ⟨a, b, c⟩ := ih (u / 10) (by omega)
      have e := ofNat_toNat (48 + u % 10) (by omega)
      have hd : Lib.decDigits u = Lib.decDigits (u / 10) ++ [UInt8.ofNat (48 + u % 10)] := by rw [Lib.decDigits, dif_neg h]
      rw [hd]
      refine ⟨?_, ?_, ?_⟩
      · rw [val_snoc, a, e]; omega
      · intro x hx
        rcases List.mem_append.1 hx with hx | hx
        · exact b x hx
        · simp only [List.mem_singleton] at hx
          subst hx
          unfold isD
          rw [e]
          exact decide_eq_true (by omega)
      · intro _
        obtain ⟨c0, l, e1, e2⟩ := c (by omega)
        exact ⟨c0, l ++ [UInt8.ofNat (48 + u % 10)], by rw [e1]; rfl, e2⟩
theorem dec_val (u : Nat) : val (Lib.decDigits u) = u := (dec_spec u).1
theorem dec_isD (u : Nat) : ∀ c ∈ Lib.decDigits u, isD c = true := (dec_spec u).2.1
theorem dec_len (u k : Nat) (h : u < 10 ^ (k + 1)) : (Lib.decDigits u).length ≤ k + 1 := by
  rw [Lib.decDigits_length]
  rcases Nat.lt_or_ge (k + 1) (Lib.nDigits u) with h2 | h2
  · exfalso
    obtain ⟨j, hj⟩ : ∃ j, Lib.nDigits u = j + 1 := ⟨Lib.nDigits u - 1, by omega⟩
    have hv := dec_val u
    obtain ⟨c, l, e1, e2⟩ := (dec_spec u).2.2 (by
      rcases Nat.eq_zero_or_pos u with h0 | h0
      · subst h0; rw [Lib.nDigits_small (by omega)] at h2; omega
      · exact h0)
    have hc := of_decide_eq_true (dec_isD u c (by rw [e1]; exact List.mem_cons_self ..))
    have hl : l.length = j := by
      have := Lib.decDigits_length u
      rw [e1, List.length_cons] at this
      omega
    rw [e1, val_cons, hl] at hv
    have h3 : 1 * 10 ^ j ≤ (c.toNat - 48) * 10 ^ j := Nat.mul_le_mul_right _ (by omega)
    have h4 : 10 ^ (k + 1) ≤ 10 ^ j := Nat.pow_le_pow_right (by omega) (by omega)
    omega
  · exact h2
/-- The millionths' six digits. -/
theorem six (P : Nat) (h : P < 1000000) : ∃ T, Lib.decDigits (1000000 + P) = 49 :: T ∧ T.length = 6 ∧ val T = P ∧ ∀ c ∈ T, isD c = true := by
  have hv := dec_val (1000000 + P)
  have hd := dec_isD (1000000 + P)
  obtain ⟨c, l, e1, e2⟩ := (dec_spec (1000000 + P)).2.2 (by omega)
  have hlen : (Lib.decDigits (1000000 + P)).length = 7 := by
    rw [Lib.decDigits_length]
    exact Lib.nDigits_unique 6 _ (by omega) (by omega)
  rw [e1] at hv hd hlen
  have hl : l.length = 6 := by simpa using hlen
  have hc := of_decide_eq_true (hd c (List.mem_cons_self ..))
  have hlt := val_lt l (fun x hx => hd x (List.mem_cons_of_mem _ hx))
  rw [val_cons, hl] at hv
  rw [hl] at hlt
  have hc1 : c.toNat = 49 := by omega
  have hc2 : c = 49 := UInt8.toNat_inj.1 hc1
  refine ⟨l, by rw [e1, hc2], hl, by omega, fun x hx => hd x (List.mem_cons_of_mem _ hx)⟩
/-- Zeros at the end. -/
theorem val_zeros (m : List UInt8) (h : ∀ c ∈ m, c = 48) : val m = 0 := by
  induction m with
  | nil => rfl
  | cons c l ih =>
    rw [val_cons, ih (fun x hx => h x (List.mem_cons_of_mem _ hx)), h c (List.mem_cons_self ..)]
    simp

end Go.Proofs.YtinhbegnpadcaaaDoor
