/- A message that was written is read as it was; one that is cut is too short, or has fewer fields. No program in sight. -/
import Derived.Test.YtlgkajellndhlaaBack1
namespace Go.Proofs.Ytlgkajellndhlaa
open Go.RowKit
set_option linter.unusedVariables false

theorem encF_pos (f : Fd) : 0 < (encF f).length := by
  obtain ⟨k, e, _⟩ := vN_len (hdF f)
  rw [encF_len]
  omega
theorem encL_more (fs : List Fd) : fs.length ≤ (encL fs).length := by
  induction fs with
  | nil => simp [encL]
  | cons f r ih =>
    have := encF_pos f
    simp only [encL, List.length_append, List.length_cons]
    omega
theorem rdL_next (zs : List Int) (m at' k : Nat) (f : Fd) (q : Nat) (h : at' < zs.length) (hk : k < 4096) (e : rfI zs at' = (f, (q : Int), 0)) : rdL zs (m + 1) at' k = if (rdL zs m q (k + 1)).2.1 ≠ 0 then ([], (rdL zs m q (k + 1)).2.1, (rdL zs m q (k + 1)).2.2) else (f :: (rdL zs m q (k + 1)).1, 0, 0) := by
  simp only [rdL]
  rw [if_neg (by omega), if_neg (by omega), e]
  simp only [Int.toNat_natCast]
  rw [if_neg (by decide)]
theorem rdL_stop (zs : List Int) (m at' k : Nat) (er : Int) (h : at' < zs.length) (hk : k < 4096) (he : er ≠ 0) (e : rfI zs at' = (noF, 0, er)) : rdL zs (m + 1) at' k = ([], er, (at' : Int)) := by
  simp only [rdL]
  rw [if_neg (by omega), if_neg (by omega), e]
  simp only
  rw [if_pos he]
theorem rdL_done (zs : List Int) (m at' k : Nat) (h : zs.length ≤ at') : rdL zs (m + 1) at' k = ([], 0, 0) := by
  simp only [rdL]
  rw [if_pos h]
theorem rdL_back : ∀ (bs : List Fd) (pre : List Int) (m k : Nat), (∀ f ∈ bs, f.Fit) → bs.all okF = true → bs.length < m → k + bs.length ≤ 4096 → rdL (pre ++ encL bs) m pre.length k = (bs, 0, 0)
  | [], pre, m + 1, k, _, _, _, _ => by simp [rdL, encL]
  | f :: r, pre, m + 1, k, hf, ho, hm, hk => by
    simp only [List.length_cons] at hm hk
    have hpos := encF_pos f
    have ho1 : okF f = true := List.all_eq_true.mp ho f List.mem_cons_self
    have ho2 : r.all okF = true := List.all_eq_true.mpr fun g hg => List.all_eq_true.mp ho g (List.mem_cons_of_mem _ hg)
    have e := rf_back pre (encL r) f (hf f List.mem_cons_self) ho1
    have ih := rdL_back r (pre ++ encF f) m (k + 1) (fun g hg => hf g (List.mem_cons_of_mem _ hg)) ho2 (by omega) (by omega)
    rw [List.append_assoc, List.length_append] at ih
    have ee : encL (f :: r) = encF f ++ encL r := rfl
    rw [ee, rdL_next _ m _ k f _ (by simp; omega) (by omega) e, ih]
    simp
/-- Cut anywhere. -/
theorem rdL_cut : ∀ (bs : List Fd) (pre : List Int) (m k j : Nat), (∀ f ∈ bs, f.Fit) → bs.all okF = true → ((encL bs).take j).length < m → k + bs.length ≤ 4096 → ((rdL (pre ++ (encL bs).take j) m pre.length k).2.1 = 0 ∧ (rdL (pre ++ (encL bs).take j) m pre.length k).1.length ≤ bs.length) ∨ ((rdL (pre ++ (encL bs).take j) m pre.length k).2.1 = 8 ∧ (rdL (pre ++ (encL bs).take j) m pre.length k).2.2 ≤ ((pre ++ (encL bs).take j).length : Int))
  | [], pre, m + 1, k, j, _, _, _, _ => by simp [rdL, encL]
  | f :: r, pre, m + 1, k, j, hf, ho, hm, hk => by
    simp only [List.length_cons] at hk
    have hpos := encF_pos f
    have ho1 : okF f = true := List.all_eq_true.mp ho f List.mem_cons_self
    have ho2 : r.all okF = true := List.all_eq_true.mpr fun g hg => List.all_eq_true.mp ho g (List.mem_cons_of_mem _ hg)
    by_cases hj : (encF f).length ≤ j
    · have et : (encL (f :: r)).take j = encF f ++ (encL r).take (j - (encF f).length) := by
        simp only [encL]
        rw [List.take_append, List.take_of_length_le hj]
      rw [et] at hm ⊢
      rw [List.length_append] at hm
      have e := rf_back pre ((encL r).take (j - (encF f).length)) f (hf f List.mem_cons_self) ho1
      have ih := rdL_cut r (pre ++ encF f) m (k + 1) (j - (encF f).length) (fun g hg => hf g (List.mem_cons_of_mem _ hg)) ho2 (by omega) (by omega)
      rw [List.append_assoc, List.length_append] at ih
      generalize (encL r).take (j - (encF f).length) = T at *
      rw [rdL_next _ m _ k f _ (by simp; omega) (by omega) e]
      generalize rdL (pre ++ (encF f ++ T)) m (pre.length + (encF f).length) (k + 1) = R at *
      rcases ih with ⟨h1, h2⟩ | ⟨h1, h2⟩
      · rw [if_neg (by omega)]
        exact .inl ⟨rfl, by simp; omega⟩
      · rw [if_pos (by omega)]
        exact .inr ⟨h1, h2⟩
    · have et : (encL (f :: r)).take j = (encF f).take j := by
        simp only [encL]
        rw [List.take_append_of_le_length (by omega)]
      rw [et]
      have e := rf_cut pre f (hf f List.mem_cons_self) ho1 j (by omega)
      by_cases h0 : j = 0
      · subst h0
        rw [rdL_done _ m _ k (by simp)]
        simp
      · rw [rdL_stop _ m _ k 8 (by simp [List.length_take]; omega) (by omega) (by decide) e]
        exact .inr ⟨rfl, by simp; omega⟩
/-- What was written is read as it was. -/
theorem rd_back (fs : List Fd) (hf : ∀ f ∈ fs, f.Fit) (ho : fs.all okF = true) (hn : fs.length ≤ 4096) (hl : (encL fs).length ≤ 1048576) : rdI (encL fs) = (fs, 0, 0) := by
  unfold rdI
  rw [if_neg (by omega)]
  exact rdL_back fs [] _ 0 hf ho (by have := encL_more fs; omega) (by omega)
/-- A part of what was written. -/
theorem rd_cut (fs : List Fd) (hf : ∀ f ∈ fs, f.Fit) (ho : fs.all okF = true) (hn : fs.length ≤ 4096) (hl : (encL fs).length ≤ 1048576) (j : Nat) (hj : j ≤ (encL fs).length) : ((rdI ((encL fs).take j)).2.1 = 0 ∧ (rdI ((encL fs).take j)).1.length ≤ fs.length) ∨ ((rdI ((encL fs).take j)).2.1 = 8 ∧ (rdI ((encL fs).take j)).2.2 ≤ (j : Int)) := by
  unfold rdI
  rw [if_neg (by simp [List.length_take]; omega)]
  have h := rdL_cut fs [] (((encL fs).take j).length + 1) 0 j hf ho (by omega) (by omega)
  simp only [List.nil_append, List.length_nil] at h
  have e : (((encL fs).take j).length : Int) ≤ j := by simp [List.length_take]; omega
  rcases h with h | ⟨h1, h2⟩
  · exact .inl h
  · exact .inr ⟨h1, by omega⟩
end Go.Proofs.Ytlgkajellndhlaa
