/- The model's buckets: Drop, Set. -/
import Derived.Test.YtpobfcmbbabchaaR6
namespace Go.Proofs.Ytpobfcmbbabchaa
open Go.RowKit
set_option linter.unusedVariables false
set_option linter.unusedSimpArgs false

theorem flB_one (l : List Bk) : ∀ u ∈ fl bk9 l, u.oneCell' = true := fl_one bk9_one l
set_option maxRecDepth 20000 in
set_option maxHeartbeats 4000000 in
theorem rdrop_any (T base : Nat) (sv : Value) (l : List Bk) (nm : List UInt8) (w : World) (h : RT w T base sv l) (hl : l.length ≤ 16) (hbs : base ≤ w.heap.size) :
    Calls Try.prog 29 #[.pointer (some ⟨T, 0, none⟩), .string (tx nm)] w fun e w' => e = .returned (.int .i64 (dropI l nm).1) ∧ (∃ sv', RT w' T base sv' (dropI l nm).2) ∧ Below base w w' ∧ Kx badR w w' := by
  have HF : Hid (Calls Try.prog 44 #[.pointer (some ⟨T, 0, none⟩), .string (tx nm)] w fun e w' => e = .returned (.int .i64 (ixBI l nm)) ∧ w' = w) := rfind_any T base sv l nm w h hl
  have HT : Hid (RT w T base sv l) := h
  have HBS : Hid (base ≤ w.heap.size) := hbs
  clear h hbs
  cases hx : ixB l nm with
  | none =>
    have e1 : ixBI l nm = -1 := by unfold ixBI; rw [hx]
    have HC : Hid (dropI l nm = (5, l)) := by show _ = _; unfold dropI; rw [hx]
    rw [e1] at HF
    clear hx e1
    go_enter Try.func29, Try.ntmps29
    go_wp2_with (go_at_call 44; refine HF.out.mono ?_; rintro e w2 ⟨rfl, hw2⟩; rw [hw2]; clear hw2)
    go_ret
    rw [HC.out]
    exact ⟨rfl, ⟨sv, HT.out⟩, Below.refl _ _, Kx.refl _ _⟩
  | some k =>
    obtain ⟨s, hs, hid⟩ := ixB_some l nm k hx
    clear hid
    have hk : k < l.length := (List.getElem?_eq_some_iff.1 hs).1
    have e1 : ixBI l nm = (k : Int) := by unfold ixBI; rw [hx]
    have HC : Hid (dropI l nm = (0, l.take k ++ l.drop (k + 1))) := by show _ = _; unfold dropI; rw [hx]
    rw [e1] at HF
    obtain ⟨g, c, e⟩ := own_form HT.out.row (by omega)
    subst e
    have d0 : w.cell? ⟨T, 0, none⟩ = some (.slice (some ⟨g, 0, none⟩) l.length c) := by rw [cell_of_row _ _ _ _ _ _ HT.out.tab]; rfl
    obtain ⟨n, hn⟩ : ∃ n, l.length = n := ⟨_, rfl⟩
    have HN : Hid (l.length = n) := hn
    have hcap : (n : Int) ≤ (c : Int) := by have := own_cap HT.out.row; omega
    have hkn : (k : Int) < (n : Int) := by omega
    have hn64 : (n : Int) ≤ 16 := by omega
    rw [hn] at d0
    obtain ⟨j, hj⟩ : ∃ j, k + 1 = j := ⟨_, rfl⟩
    have hj' : (k : Int) + 1 = (j : Int) := by omega
    have hjn : (j : Int) ≤ (n : Int) := by omega
    rw [hj] at HC
    have HLT : Hid (k < n ∧ n ≤ 16 ∧ j ≤ n ∧ k + 1 = j) := ⟨by omega, by omega, by omega, hj⟩
    obtain ⟨i0, hi0, hz0, hz1, hz2⟩ := info_parts info63
    have HCE : Hid (∀ q u, (fl bk9 l)[q]? = some u → w.cell? ⟨g, q, none⟩ = some u) := fun q u hu => by have h := HT.out.row.cells (g := g) rfl q u hu; rwa [Addr.add_mid, Nat.zero_add] at h
    have hkc : (k : Int) ≤ (c : Int) := by omega
    clear hx e1 hs hk hn hj hl
    go_enter Try.func29, Try.ntmps29
    go_wp2_with fail
    refine HF.out.mono ?_
    rintro e w2 ⟨rfl, hw2⟩
    rw [hw2]; clear hw2
    have HTL : Hid (T < w.heap.size ∧ g < w.heap.size) := ⟨(Array.getElem?_eq_some_iff.1 HT.out.tab).1, (own_lt HT.out.row).2⟩
    go_upto_region 6 with (at_builtin; (refine wpList_append_own _ rfl (.tmp 12) (.tmp 18) 37 rfl base 78 i0 (.agg #[.string ⟨#[]⟩, .int .i64 0, .int .i64 0, .int .i64 0, .int .i64 0, .int .i64 0, .int .i64 0, .int .i64 0, .int .i64 0]) 9 80 Try.underlying37 hi0 hz0 hz1 hz2 rfl (by decide) (.slice none 0 0) 0 [] rfl (World.ownsRow_nil _ _ _ _) ⟨g, 0, none⟩ k c (fl bk9 (l.take k)) rfl (by rw [fl_len bk9_len, List.length_take, HN.out, Nat.min_eq_left (by have := HLT.out; omega)]) (fun q u hu => by rw [Addr.add_mid, Nat.zero_add]; exact HCE.out q u (by rw [← fl_take bk9_len] at hu; rw [List.getElem?_take] at hu; split at hu; exact hu; cases hu)) (flB_one _) (by have := HLT.out; unfold maxLen; omega) (by have := HLT.out; omega) HBS.out ?_; intro v3 w3 ho3 hg3 _))
    have HO3 : Hid (w3.ownsRow base 78 9 v3 k (fl bk9 (l.take k))) := by rw [Nat.zero_add, List.nil_append] at ho3; exact ho3
    have HG3 : Hid (w.grownBy w3 none) := hg3
    obtain ⟨va, vc, hv3⟩ := own_slice HO3.out
    have hT3 : w3.heap[T]? = some (.cells #[.slice (some ⟨g, 0, none⟩) l.length c] 39 (0, 0)) := (hg3.block T HTL.out.1 (by simp [Value.ownBlock])).trans HT.out.tab
    have d3 : w3.cell? ⟨T, 0, none⟩ = some (.slice (some ⟨g, 0, none⟩) n c) := by rw [cell_of_row _ _ _ _ _ _ hT3, HN.out]; rfl
    have HT3 : Hid (w3.heap[T]? = some (.cells #[.slice (some ⟨g, 0, none⟩) l.length c] 39 (0, 0))) := hT3
    have HCE3 : Hid (∀ q u, (fl bk9 l)[q]? = some u → w3.cell? ⟨g, q, none⟩ = some u) := fun q u hu => hg3.cell (HCE.out q u hu) (by simp [Value.ownBlock])
    have HB3 : Hid (Below base w w3 ∧ Kx badR w w3) := ⟨⟨hg3.os, hg3.tape, hg3.output, hg3.size, fun q hq => HG3.out.block q (by have := HBS.out; omega) (by simp)⟩, fun p o hp _ => (HG3.out.block p (Array.getElem?_eq_some_iff.1 hp).1 (by simp)).trans hp⟩
    subst hv3
    have hbs3 : Hid (base ≤ w3.heap.size) := by have := HBS.out; have := hg3.size; show _ ≤ _; omega
    clear ho3 hg3 hT3 d0
    by_cases hjc : j < c
    · have hjc' : (j : Int) < (c : Int) := by omega
      have hcj : ¬ c = j := by omega
      go_wp2_with (at_builtin; (refine wpList_append_own _ rfl (.tmp 20) (.tmp 27) 37 rfl base 78 i0 (.agg #[.string ⟨#[]⟩, .int .i64 0, .int .i64 0, .int .i64 0, .int .i64 0, .int .i64 0, .int .i64 0, .int .i64 0, .int .i64 0]) 9 80 Try.underlying37 hi0 hz0 hz1 hz2 rfl (by decide) (.slice va k vc) k (fl bk9 (l.take k)) rfl HO3.out ⟨g, j * 9, none⟩ (n - j) (c - j) (fl bk9 (l.drop j)) rfl (by rw [fl_len bk9_len, List.length_drop, HN.out]) (fun q u hu => by rw [Addr.add_mid]; exact HCE3.out (j * 9 + q) u (by rw [← fl_drop bk9_len, List.getElem?_drop] at hu; exact hu)) (flB_one _) (by have := HLT.out; unfold maxLen; omega) (by have := HLT.out; omega) hbs3.out ?_; intro v4 w4 ho4 hg4 _; (have HO4 : Hid (w4.ownsRow base 78 9 v4 (k + (n - j)) (fl bk9 (l.take k) ++ fl bk9 (l.drop j))) := ho4); (have HG4 : Hid (w3.grownBy w4 (Value.slice va k vc).ownBlock) := hg4); (obtain ⟨xa, xc, hv4⟩ := own_slice HO4.out); subst hv4; (have hT4 : w4.heap[T]? = some (.cells #[.slice (some ⟨g, 0, none⟩) l.length c] 39 (0, 0)) := (hg4.block T (by have := HTL.out; have := HG3.out.size; omega) (own_other HO3.out HT3.out (by decide))).trans HT3.out); (have HT4 : Hid (w4.heap[T]? = some (.cells #[.slice (some ⟨g, 0, none⟩) l.length c] 39 (0, 0))) := hT4); (have e4 : w4.cell? ⟨T, 0, none⟩ = some (.slice (some ⟨g, 0, none⟩) l.length c) := (by rw [cell_of_row _ _ _ _ _ _ hT4]; rfl)); (have f4 : w4.frozen? ⟨T, 0, none⟩ = false := frozen_of_row _ _ 0 _ _ hT4); clear ho4 hg4 hT4))
      go_ret
      have hLE := HLT.out
      rw [HC.out]
      refine ⟨rfl, ⟨.slice xa (k + (n - j)) xc, ⟨row_set _ HT4.out, ?_, HT.out.low⟩⟩, ?_, ?_⟩
      · have h := own_at HO4.out (w' := w4.setCell ⟨T, 0, none⟩ (.slice xa (k + (n - j)) xc)) fun q hq => by
          obtain ⟨cur, hc⟩ := own_tag HO4.out hq
          exact Below.heap_setCell _ _ _ _ (ne_tag hc HT4.out (by decide))
        rw [fl_app, List.length_append, List.length_take, List.length_drop, HN.out, Nat.min_eq_left (by omega)]
        exact h
      · exact ((HB3.out.1).trans (grown_below HG4.out HO3.out hbs3.out)).setCell HT.out.low _
      · exact (HB3.out.2.trans (Kx.grown HG4.out HO3.out rfl)).trans (Kx.setCell HT4.out rfl _)
    · have hjc' : j = c := by have := HLT.out; omega
      have hnc : n = c := by have := HLT.out; omega
      have hnj : n - j = 0 := by omega
      have hcj0 : c - j = 0 := by omega
      go_wp2_with (at_builtin; (refine wpList_append_own _ rfl (.tmp 20) (.tmp 27) 37 rfl base 78 i0 (.agg #[.string ⟨#[]⟩, .int .i64 0, .int .i64 0, .int .i64 0, .int .i64 0, .int .i64 0, .int .i64 0, .int .i64 0, .int .i64 0]) 9 80 Try.underlying37 hi0 hz0 hz1 hz2 rfl (by decide) (.slice va k vc) k (fl bk9 (l.take k)) rfl HO3.out ⟨g, 0, none⟩ 0 0 (fl bk9 (l.drop j)) rfl (by rw [fl_len bk9_len, List.length_drop, HN.out, hnj]) (fun q u hu => by rw [List.drop_of_length_le (by rw [HN.out]; have := HLT.out; omega)] at hu; simp [fl] at hu) (flB_one _) (by have := HLT.out; unfold maxLen; omega) (by have := HLT.out; omega) hbs3.out ?_; intro v4 w4 ho4 hg4 _; (have HO4 : Hid (w4.ownsRow base 78 9 v4 (k + 0) (fl bk9 (l.take k) ++ fl bk9 (l.drop j))) := ho4); (have HG4 : Hid (w3.grownBy w4 (Value.slice va k vc).ownBlock) := hg4); (obtain ⟨xa, xc, hv4⟩ := own_slice HO4.out); subst hv4; (have hT4 : w4.heap[T]? = some (.cells #[.slice (some ⟨g, 0, none⟩) l.length c] 39 (0, 0)) := (hg4.block T (by have := HTL.out; have := HG3.out.size; omega) (own_other HO3.out HT3.out (by decide))).trans HT3.out); (have HT4 : Hid (w4.heap[T]? = some (.cells #[.slice (some ⟨g, 0, none⟩) l.length c] 39 (0, 0))) := hT4); (have e4 : w4.cell? ⟨T, 0, none⟩ = some (.slice (some ⟨g, 0, none⟩) l.length c) := (by rw [cell_of_row _ _ _ _ _ _ hT4]; rfl)); (have f4 : w4.frozen? ⟨T, 0, none⟩ = false := frozen_of_row _ _ 0 _ _ hT4); clear ho4 hg4 hT4))
      go_ret
      have hLE := HLT.out
      rw [HC.out]
      refine ⟨rfl, ⟨.slice xa (k + 0) xc, ⟨row_set _ HT4.out, ?_, HT.out.low⟩⟩, ?_, ?_⟩
      · have h := own_at HO4.out (w' := w4.setCell ⟨T, 0, none⟩ (.slice xa (k + 0) xc)) fun q hq => by
          obtain ⟨cur, hc⟩ := own_tag HO4.out hq
          exact Below.heap_setCell _ _ _ _ (ne_tag hc HT4.out (by decide))
        rw [fl_app, List.length_append, List.length_take, List.length_drop, HN.out, Nat.min_eq_left (by omega), hnj]
        exact h
      · exact ((HB3.out.1).trans (grown_below HG4.out HO3.out hbs3.out)).setCell HT.out.low _
      · exact (HB3.out.2.trans (Kx.grown HG4.out HO3.out rfl)).trans (Kx.setCell HT4.out rfl _)
end Go.Proofs.Ytpobfcmbbabchaa
