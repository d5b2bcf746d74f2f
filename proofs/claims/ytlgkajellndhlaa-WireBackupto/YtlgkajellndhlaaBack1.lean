/- What was written is read as it was; no program in sight. -/
import Derived.Test.YtlgkajellndhlaaRd4
namespace Go.Proofs.Ytlgkajellndhlaa
open Go.RowKit
set_option linter.unusedVariables false

theorem scan_vN (rest : List Int) : ∀ n : Nat, scan (vN n ++ rest) = some (vN n).length := by
  intro n
  induction n using Nat.strongRecOn with
  | ind n ih =>
    by_cases h : n < 128
    · rw [vN_lo h]
      simp only [List.cons_append, List.nil_append, scan]
      rw [if_pos (by omega)]
      rfl
    · rw [vN_hi h]
      simp only [List.cons_append, scan]
      rw [if_neg (by omega), ih (n / 128) (by omega)]
      rfl
theorem jv_vN : ∀ n : Nat, (n : Int) < 18446744073709551616 → jv (vN n) = (n : Int) := by
  intro n
  induction n using Nat.strongRecOn with
  | ind n ih =>
    intro hn
    by_cases h : n < 128
    · rw [vN_lo h]
      simp only [jv]
      omega
    · rw [vN_hi h]
      simp only [jv]
      rw [ih (n / 128) (by omega) (by omega)]
      omega
theorem vN_last : ∀ (k n : Nat), (vN n).length = k + 1 → (vN n).getD k 0 = ((n / 128 ^ k : Nat) : Int)
  | 0, n, h => by
    by_cases hn : n < 128
    · rw [vN_lo hn]; simp
    · rw [vN_hi hn] at h
      have h2 := (vN_len (n / 128))
      obtain ⟨k, e, _⟩ := h2
      simp at h
      rw [h] at e
      simp at e
  | k + 1, n, h => by
    by_cases hn : n < 128
    · rw [vN_lo hn] at h; simp at h
    · rw [vN_hi hn] at h ⊢
      have e := vN_last k (n / 128) (by simpa using h)
      rw [List.getD_cons_succ, e, Nat.div_div_eq_div_mul, Nat.pow_succ, Nat.mul_comm]
theorem drop_pre (pre l : List Int) : (pre ++ l).drop pre.length = l := by simp
theorem get_vN (pre rest : List Int) (n : Nat) (hn : (n : Int) < 18446744073709551616) : getI (pre ++ (vN n ++ rest)) pre.length = ((n : Int), ((pre.length + (vN n).length : Nat) : Int), 0) := by
  unfold getI
  rw [drop_pre, scan_vN]
  simp only
  have hl := vN_le10 n (by omega)
  rw [if_neg, List.take_left, jv_vN n hn]
  rintro (h | ⟨h, h2⟩)
  · omega
  · have e := vN_last 9 n h
    have e2 : (pre ++ (vN n ++ rest)).getD (pre.length + 9) 0 = (vN n).getD 9 0 := by
      simp only [List.getD_eq_getElem?_getD]
      rw [List.getElem?_append_right (by omega), show pre.length + 9 - pre.length = 9 by omega, List.getElem?_append_left (by omega)]
    rw [e2, e] at h2
    have : (128 : Nat) ^ 9 = 9223372036854775808 := by decide
    rw [this] at h2
    omega
theorem scan_cut : ∀ (j n : Nat), j < (vN n).length → scan ((vN n).take j) = none
  | 0, n, _ => by simp [scan]
  | j + 1, n, h => by
    by_cases hn : n < 128
    · rw [vN_lo hn] at h; simp at h
    · rw [vN_hi hn] at h ⊢
      simp only [List.take_succ_cons, scan]
      rw [if_neg (by omega), scan_cut j (n / 128) (by simpa using h)]
      rfl
theorem get_cut (pre : List Int) (n j : Nat) (h : j < (vN n).length) : getI (pre ++ (vN n).take j) pre.length = (0, 0, 8) := by
  unfold getI
  rw [drop_pre, scan_cut j n h]
theorem le_leN : ∀ (K n : Nat), leV (leN n K) = ((n % 256 ^ K : Nat) : Int)
  | 0, n => by simp [leN, leV, Nat.mod_one]
  | K + 1, n => by
    simp only [leN, leV]
    rw [le_leN K (n / 256), Nat.pow_succ, Nat.mul_comm (256 ^ K) 256, Nat.mod_mul]
    omega
theorem rn_leN (pre rest : List Int) (n K : Nat) : rnI (pre ++ (leN n K ++ rest)) pre.length K = (((n % 256 ^ K : Nat) : Int), ((pre.length + K : Nat) : Int), 0) := by
  unfold rnI
  rw [if_neg (by simp [leN_len]), drop_pre, List.take_left' (leN_len n K), le_leN]
theorem rn_cut (pre c : List Int) (K : Nat) (h : c.length < K) : rnI (pre ++ c) pre.length K = (0, 0, 8) := by
  unfold rnI
  rw [if_pos (by simp; omega)]
theorem rb_back (pre rest b : List Int) (hb : (b.length : Int) < 18446744073709551616) : rbI (pre ++ (vN b.length ++ (b ++ rest))) pre.length = (b, ((pre.length + (vN b.length ++ b).length : Nat) : Int), 0) := by
  unfold rbI
  rw [get_vN pre (b ++ rest) b.length hb]
  simp only
  rw [if_neg (by decide), if_neg (by simp; omega)]
  have e : (pre ++ (vN b.length ++ (b ++ rest))).drop (pre.length + (vN b.length).length) = b ++ rest := by
    rw [← List.append_assoc, ← List.length_append]
    exact drop_pre _ _
  rw [Int.toNat_natCast, Int.toNat_natCast, e, List.take_left]
  simp only [List.length_append, Prod.mk.injEq, true_and, and_true]
  omega
theorem rb_cut1 (pre : List Int) (n j : Nat) (h : j < (vN n).length) : rbI (pre ++ (vN n).take j) pre.length = ([], 0, 8) := by
  unfold rbI
  rw [get_cut pre n j h]
  simp
theorem rb_cut2 (pre c b : List Int) (hb : (b.length : Int) < 18446744073709551616) (h : c.length < b.length) : rbI (pre ++ (vN b.length ++ c)) pre.length = ([], 0, 8) := by
  unfold rbI
  rw [get_vN pre c b.length hb]
  simp only
  rw [if_neg (by decide), if_pos (by simp; omega)]
theorem rh_ok {f : Fd} (h : okF f = true) : rhB ((hdF f : Int) / 8) ((hdF f : Int) % 8) = true ∧ (hdF f : Int) / 8 = f.num ∧ (hdF f : Int) % 8 = f.typ ∧ (hdF f : Int) < 18446744073709551616 := by
  obtain ⟨h1, h2, h3⟩ := ok_typ h
  have e : (hdF f : Int) = f.num * 8 + f.typ := by unfold hdF; omega
  have e1 : (hdF f : Int) / 8 = f.num := by omega
  have e2 : (hdF f : Int) % 8 = f.typ := by omega
  refine ⟨?_, e1, e2, by omega⟩
  rw [e1, e2]
  unfold rhB
  have h12 : 1 ≤ f.num ∧ f.num ≤ 536870911 := ⟨h1, h2⟩
  rcases h3 with h | h | h | h <;> simp [h12, h]
/-- A field is read as it was. -/
theorem rf_back (pre rest : List Int) (f : Fd) (hf : f.Fit) (hk : okF f = true) : rfI (pre ++ (encF f ++ rest)) pre.length = (f, ((pre.length + (encF f).length : Nat) : Int), 0) := by
  obtain ⟨a1, a2, a3, a4⟩ := rh_ok hk
  have hg : getI (pre ++ (encF f ++ rest)) pre.length = ((hdF f : Int), ((pre.length + (vN (hdF f)).length : Nat) : Int), 0) := by
    unfold encF
    rw [List.append_assoc]
    exact get_vN pre _ _ a4
  unfold rfI
  rw [hg]
  simp only
  rw [if_neg (by decide), if_neg (by rw [a1]; decide), a2, a3, Int.toNat_natCast]
  have ez : pre ++ (encF f ++ rest) = (pre ++ vN (hdF f)) ++ (bodyF f ++ rest) := by simp [encF]
  have el : pre.length + (vN (hdF f)).length = (pre ++ vN (hdF f)).length := by simp
  rw [ez, el]
  have en : ((pre.length + (encF f).length : Nat) : Int) = (((pre ++ vN (hdF f)).length + (bodyF f).length : Nat) : Int) := by rw [encF_len, List.length_append]; omega
  rw [en]
  generalize pre ++ vN (hdF f) = P
  obtain ⟨_, _, h3⟩ := ok_cases hk
  have hn := hf.n
  have hs := hf.short
  obtain ⟨num, typ, n, b⟩ := f
  simp only at *
  unfold rtI
  rcases h3 with ⟨rfl, hb⟩ | ⟨rfl, hb⟩ | ⟨rfl, hb⟩ | ⟨rfl, hb5, hb⟩
  · have hb' : b = [] := List.eq_nil_of_length_eq_zero hb
    subst hb'
    rw [if_pos rfl]
    have e : bodyF ⟨num, 0, n, []⟩ = vN n := rfl
    rw [e, get_vN P rest n hn]
    simp
  · have hb' : b = [] := List.eq_nil_of_length_eq_zero hb
    subst hb'
    rw [if_neg (by decide), if_pos rfl]
    have e : bodyF ⟨num, 1, n, []⟩ = leN n 8 := rfl
    rw [e, rn_leN P rest n 8]
    simp only
    rw [if_neg (by decide), leN_len, Int.toNat_natCast, Nat.mod_eq_of_lt (by omega)]
  · rw [if_neg (by decide), if_neg (by decide), if_neg (by decide)]
    subst hb
    have e : bodyF ⟨num, 2, 0, b⟩ = vN b.length ++ b := rfl
    rw [e, List.append_assoc, rb_back P rest b (by omega)]
    simp
  · have hb' : b = [] := List.eq_nil_of_length_eq_zero hb
    subst hb'
    rw [if_neg (by decide), if_neg (by decide), if_pos rfl]
    have e : bodyF ⟨num, 5, n, []⟩ = leN n 4 := rfl
    rw [e, rn_leN P rest n 4]
    simp only
    rw [if_neg (by decide), leN_len, Int.toNat_natCast, Nat.mod_eq_of_lt (by omega)]
/-- A field that is cut is too short. -/
theorem rf_cut (pre : List Int) (f : Fd) (hf : f.Fit) (hk : okF f = true) (j : Nat) (hj : j < (encF f).length) : rfI (pre ++ (encF f).take j) pre.length = (noF, 0, 8) := by
  obtain ⟨a1, a2, a3, a4⟩ := rh_ok hk
  by_cases h1 : j < (vN (hdF f)).length
  · have hg : getI (pre ++ (encF f).take j) pre.length = (0, 0, 8) := by
      unfold encF
      rw [List.take_append_of_le_length (by omega)]
      exact get_cut pre _ j h1
    unfold rfI
    rw [hg]
    simp
  · have et : (encF f).take j = vN (hdF f) ++ (bodyF f).take (j - (vN (hdF f)).length) := by
      unfold encF
      rw [List.take_append, List.take_of_length_le (by omega)]
    rw [encF_len] at hj
    obtain ⟨i, hi⟩ : ∃ i, j - (vN (hdF f)).length = i := ⟨_, rfl⟩
    rw [et, hi]
    have hib : i < (bodyF f).length := by omega
    have hg : getI (pre ++ (vN (hdF f) ++ (bodyF f).take i)) pre.length = ((hdF f : Int), ((pre.length + (vN (hdF f)).length : Nat) : Int), 0) := get_vN pre _ _ a4
    unfold rfI
    rw [hg]
    simp only
    rw [if_neg (by decide), if_neg (by rw [a1]; decide), a2, a3, Int.toNat_natCast, ← List.append_assoc, ← List.length_append]
    generalize pre ++ vN (hdF f) = P
    obtain ⟨_, _, h3⟩ := ok_cases hk
    have hn := hf.n
    have hs := hf.short
    clear et hi hj h1 hg a1 a2 a3 a4 hk hf
    obtain ⟨num, typ, n, b⟩ := f
    simp only at *
    unfold rtI
    rcases h3 with ⟨rfl, hb⟩ | ⟨rfl, hb⟩ | ⟨rfl, hb⟩ | ⟨rfl, hb5, hb⟩
    · rw [if_pos rfl]
      have e : bodyF ⟨num, 0, n, b⟩ = vN n := rfl
      rw [e] at hib ⊢
      rw [get_cut P n i hib]
      simp
    · rw [if_neg (by decide), if_pos rfl]
      have e : bodyF ⟨num, 1, n, b⟩ = leN n 8 := rfl
      rw [e] at hib ⊢
      rw [leN_len] at hib
      rw [rn_cut P _ 8 (by simp [leN_len]; omega)]
      simp
    · rw [if_neg (by decide), if_neg (by decide), if_neg (by decide)]
      have e : bodyF ⟨num, 2, n, b⟩ = vN b.length ++ b := rfl
      rw [e] at hib ⊢
      by_cases h2 : i < (vN b.length).length
      · rw [List.take_append_of_le_length (by omega), rb_cut1 P _ i h2]
        simp
      · rw [List.take_append, List.take_of_length_le (by omega), rb_cut2 P _ b (by omega) (by simp at hib ⊢; omega)]
        simp
    · rw [if_neg (by decide), if_neg (by decide), if_pos rfl]
      have e : bodyF ⟨num, 5, n, b⟩ = leN n 4 := rfl
      rw [e] at hib ⊢
      rw [leN_len] at hib
      rw [rn_cut P _ 4 (by simp [leN_len]; omega)]
      simp
end Go.Proofs.Ytlgkajellndhlaa
