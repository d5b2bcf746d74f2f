/- Tables: a session is closed, in both. -/
import Derived.Test.YtnghgclogeefgaaX2
import Derived.Test.YtnghgclogeefgaaR3
import Derived.OwnWalk
namespace Go.Proofs.Ytnghgclogeefgaa
open Go.RowKit
set_option linter.unusedVariables false
set_option linter.unusedSimpArgs false

theorem own_other2 {w : World} {base n F size : Nat} {e t : TypeId} {v : Value} {xs : List Value} {c : Array Value} {f : Nat × Nat} (h : w.ownsRow base e size v n xs) (hF : w.heap[F]? = some (.cells c t f)) (ht : t ≠ e) : some F ≠ v.ownBlock := by
  intro hq
  obtain ⟨cur, hc⟩ := own_tag h hq.symm
  exact ne_tag hF hc ht rfl
set_option maxRecDepth 20000 in
set_option maxHeartbeats 4000000 in
theorem close_kg (T base : Nat) (last : Int) (sv : Value) (ss : List Se) (id : Int) (w : World) (h : Tb w T base last sv ss) (hl : ss.length ≤ 64) (hbs : base ≤ w.heap.size) :
    Calls Try.prog 24 #[.pointer (some ⟨T, 0, none⟩), .int .i64 id] w fun e w' => e = .returned (.int .i64 (ceI ss id)) ∧ (∃ sv', Tb w' T base last sv' (clI ss id)) ∧ Below base w w' ∧ Kg 64 68 w w' := by
  have HF : Hid (Calls Try.prog 42 #[.pointer (some ⟨T, 0, none⟩), .int .i64 id] w fun e w' => e = .returned (.tuple #[.int .i64 (ixI ss id), .bool (decide (0 ≤ ixI ss id))]) ∧ Below w.heap.size w w') := find_any T base last sv ss id w h (by omega)
  have HT : Hid (Tb w T base last sv ss) := h
  have HBS : Hid (base ≤ w.heap.size) := hbs
  clear h hbs
  cases hx : ix ss id with
  | none =>
    have e1 : ixI ss id = -1 := by unfold ixI; rw [hx]
    have HC : Hid (ceI ss id = 5 ∧ clI ss id = ss) := by unfold ceI clI; rw [hx]; exact ⟨rfl, rfl⟩
    rw [e1] at HF
    rw [show decide ((0 : Int) ≤ -1) = false from rfl] at HF
    clear hx e1
    go_enter Try.func24, Try.ntmps24
    go_wp2_with (go_at_call 42; refine HF.out.mono ?_; rintro e w2 ⟨rfl, hb2⟩)
    go_ret
    exact ⟨by rw [HC.out.1]; rfl, ⟨sv, by rw [HC.out.2]; exact HT.out.later hb2 (Nat.le_refl _)⟩, hb2.mono HBS.out, Kg.of hb2 (Nat.le_refl _)⟩
  | some k =>
    obtain ⟨s, hs, hid⟩ := ix_some ss id k hx
    clear hid
    have hk : k < ss.length := (List.getElem?_eq_some_iff.1 hs).1
    have e1 : ixI ss id = (k : Int) := by unfold ixI; rw [hx]
    have HC : Hid (ceI ss id = 0 ∧ clI ss id = ss.take k ++ ss.drop (k + 1)) := by unfold ceI clI; rw [hx]; exact ⟨rfl, rfl⟩
    rw [e1] at HF
    rw [show decide ((0 : Int) ≤ (k : Int)) = true from decide_eq_true (by omega)] at HF
    obtain ⟨g, c, e⟩ := own_form HT.out.row (by omega)
    subst e
    have hkk : (k : Int) + 1 = ((k + 1 : Nat) : Int) := by omega
    have HDE : Hid (∀ W, W.ownsRow base 68 5 (.slice (some ⟨g, 0, none⟩) ss.length c) ss.length (seL ss) → Calls Try.prog 43 #[.slice (some ⟨g, 0, none⟩) ss.length c, .int .i64 (k : Int), .int .i64 ((k : Int) + 1)] W fun e w' => e = .returned (.slice (some ⟨g, 0, none⟩) (ss.length - 1) c) ∧ w'.ownsRow base 68 5 (.slice (some ⟨g, 0, none⟩) (ss.length - 1) c) (ss.length - 1) (seL (ss.take k ++ ss.drop (k + 1))) ∧ Kp g W w') := fun W hW => by rw [hkk]; exact delete_any base g c k ss W hW hk (by omega)
    have HL : Hid ((ss.take k ++ ss.drop (k + 1)).length = ss.length - 1) := by show _ = _; rw [List.length_append, List.length_take, List.length_drop]; omega
    have hk' : (k : Int) ≤ 1000 := by omega
    generalize ss.take k ++ ss.drop (k + 1) = ss' at HC HDE HL
    generalize hnn : ss.length - 1 = m at HDE HL
    clear hx e1 hs hk hnn hkk
    go_enter Try.func24, Try.ntmps24
    go_wp2_with fail
    refine HF.out.mono ?_
    rintro e w2 ⟨rfl, hb2⟩
    have HT2 : Hid (Tb w2 T base last (.slice (some ⟨g, 0, none⟩) ss.length c) ss) := HT.out.later hb2 (Nat.le_refl _)
    have d1 : w2.cell? ⟨T, 1, none⟩ = some (.slice (some ⟨g, 0, none⟩) ss.length c) := by rw [cell_of_row _ _ _ _ _ _ HT2.out.tab]; rfl
    have HB2 : Hid (Below w.heap.size w w2) := hb2
    clear hb2
    go_wp2_with fail
    refine (HDE.out w2 HT2.out.row).mono ?_
    rintro e w3 ⟨rfl, ho3, hk3⟩
    have hgT : T ≠ g := by
      obtain ⟨cur, hc⟩ := own_tag HT2.out.row (q := g) rfl
      exact ne_tag HT2.out.tab hc (by decide)
    have HT3 : Hid (w3.heap[T]? = some (.cells #[.int .i64 last, .slice (some ⟨g, 0, none⟩) ss.length c] 64 (0, 0))) := (hk3.block T hgT).trans HT2.out.tab
    have HO3 : Hid (w3.ownsRow base 68 5 (.slice (some ⟨g, 0, none⟩) m c) m (seL ss') ∧ Below base w w3) := ⟨ho3, (HB2.out.mono HBS.out).trans (hk3.below (own_lt HT2.out.row).1)⟩
    have HKG : Hid (Kg 64 68 w w3) := by
      refine (Kg.of HB2.out (Nat.le_refl _)).trans ?_
      intro p cc t f hp n1 n2
      obtain ⟨cur, hc⟩ := own_tag HT2.out.row (q := g) rfl
      exact hk3.block p (ne_tag hp hc n2)
    have e1 : w3.cell? ⟨T, 1, none⟩ = some (.slice (some ⟨g, 0, none⟩) ss.length c) := by rw [cell_of_row _ _ _ _ _ _ HT3.out]; rfl
    have f1 : w3.frozen? ⟨T, 1, none⟩ = false := frozen_of_row _ _ 1 _ _ HT3.out
    have HGT : Hid (T ≠ g) := hgT
    clear ho3 hk3 d1 hgT
    go_wp2_with fail
    go_ret
    refine ⟨by rw [HC.out.1]; rfl, ⟨.slice (some ⟨g, 0, none⟩) m c, ?_⟩, HO3.out.2.setCell HT2.out.low _, HKG.out.trans fun p cc t f hp n1 n2 => Below.heap_setCell _ _ _ _ (ne_tag hp HT3.out n1)⟩
    rw [HC.out.2]
    refine ⟨row_set _ HT3.out, ?_, HT2.out.low⟩
    have h := own_at HO3.out.1 (w' := w3.setCell ⟨T, 1, none⟩ (.slice (some ⟨g, 0, none⟩) m c)) fun q hq => by
      obtain ⟨cur, hc⟩ := own_tag HO3.out.1 hq
      exact Below.heap_setCell _ _ _ _ (ne_tag hc HT3.out (by decide))
    rw [HL.out]
    exact h
set_option maxRecDepth 20000 in
set_option maxHeartbeats 4000000 in
theorem rclose_kg (T base : Nat) (last : Int) (sv : Value) (ss : List Se) (id : Int) (w : World) (h : RTb w T base last sv ss) (hl : ss.length ≤ 64) (hbs : base ≤ w.heap.size) :
    Calls Try.prog 25 #[.pointer (some ⟨T, 0, none⟩), .int .i64 id] w fun e w' => e = .returned (.int .i64 (ceI ss id)) ∧ (∃ sv', RTb w' T base last sv' (clI ss id)) ∧ Below base w w' ∧ Kg 39 70 w w' := by
  have HF : Hid (Calls Try.prog 41 #[.pointer (some ⟨T, 0, none⟩), .int .i64 id] w fun e w' => e = .returned (.int .i64 (ixI ss id)) ∧ w' = w) := rfind_any T base last sv ss id w h (by omega)
  have HT : Hid (RTb w T base last sv ss) := h
  have HBS : Hid (base ≤ w.heap.size) := hbs
  clear h hbs
  cases hx : ix ss id with
  | none =>
    have e1 : ixI ss id = -1 := by unfold ixI; rw [hx]
    have HC : Hid (ceI ss id = 5 ∧ clI ss id = ss) := by unfold ceI clI; rw [hx]; exact ⟨rfl, rfl⟩
    rw [e1] at HF
    clear hx e1
    go_enter Try.func25, Try.ntmps25
    go_wp2_with (go_at_call 41; refine HF.out.mono ?_; rintro e w2 ⟨rfl, hw2⟩; rw [hw2]; clear hw2)
    go_ret
    exact ⟨by rw [HC.out.1]; rfl, ⟨sv, by rw [HC.out.2]; exact HT.out⟩, Below.refl _ _, Kg.of (Below.refl w.heap.size w) (Nat.le_refl _)⟩
  | some k =>
    obtain ⟨s, hs, hid⟩ := ix_some ss id k hx
    clear hid
    have hk : k < ss.length := (List.getElem?_eq_some_iff.1 hs).1
    have e1 : ixI ss id = (k : Int) := by unfold ixI; rw [hx]
    have HC : Hid (ceI ss id = 0 ∧ clI ss id = ss.take k ++ ss.drop (k + 1)) := by unfold ceI clI; rw [hx]; exact ⟨rfl, rfl⟩
    rw [e1] at HF
    obtain ⟨g, c, e⟩ := own_form HT.out.row (by omega)
    subst e
    have d0 : w.cell? ⟨T, 0, none⟩ = some (.slice (some ⟨g, 0, none⟩) ss.length c) := by rw [cell_of_row _ _ _ _ _ _ HT.out.tab]; rfl
    obtain ⟨n, hn⟩ : ∃ n, ss.length = n := ⟨_, rfl⟩
    have HN : Hid (ss.length = n) := hn
    have hcap : (n : Int) ≤ (c : Int) := by have := own_cap HT.out.row; omega
    have hkn : (k : Int) < (n : Int) := by omega
    have hn64 : (n : Int) ≤ 64 := by omega
    rw [hn] at d0
    obtain ⟨j, hj⟩ : ∃ j, k + 1 = j := ⟨_, rfl⟩
    have hj' : (k : Int) + 1 = (j : Int) := by omega
    have hjn : (j : Int) ≤ (n : Int) := by omega
    rw [hj] at HC
    have HLT : Hid (k < n ∧ n ≤ 64 ∧ j ≤ n ∧ k + 1 = j) := ⟨by omega, by omega, by omega, hj⟩
    obtain ⟨i0, hi0, hz0, hz1, hz2⟩ := info_parts info70
    have HCE : Hid (∀ q u, (seL ss)[q]? = some u → w.cell? ⟨g, q, none⟩ = some u) := fun q u hu => by have h := HT.out.row.cells (g := g) rfl q u hu; rwa [Addr.add_mid, Nat.zero_add] at h
    have hkc : (k : Int) ≤ (c : Int) := by omega
    clear hx e1 hs hk hn hj hl
    go_enter Try.func25, Try.ntmps25
    go_wp2_with fail
    refine HF.out.mono ?_
    rintro e w2 ⟨rfl, hw2⟩
    rw [hw2]; clear hw2
    have hgT : T ≠ g := by
      obtain ⟨cur, hc⟩ := own_tag HT.out.row (q := g) rfl
      exact ne_tag HT.out.tab hc (by decide)
    have HGT : Hid (T ≠ g) := hgT
    have HTL : Hid (T < w.heap.size ∧ g < w.heap.size) := ⟨(Array.getElem?_eq_some_iff.1 HT.out.tab).1, (own_lt HT.out.row).2⟩
    clear hgT
    go_upto_region 6 with (at_builtin; (refine wpList_append_own _ rfl (.tmp 12) (.tmp 18) 37 rfl base 70 i0 (.agg #[.int .i64 0, .string ⟨#[]⟩, .string ⟨#[]⟩, .bool false, .int .i64 0]) 5 56 Try.underlying37 hi0 hz0 hz1 hz2 rfl (by decide) (.slice none 0 0) 0 [] rfl (World.ownsRow_nil _ _ _ _) ⟨g, 0, none⟩ k c (seL (ss.take k)) rfl (by rw [seL_len, List.length_take, HN.out, Nat.min_eq_left (by have := HLT.out; omega)]) (fun q u hu => by rw [Addr.add_mid, Nat.zero_add]; exact HCE.out q u (by rw [← seL_take] at hu; rw [List.getElem?_take] at hu; split at hu; exact hu; cases hu)) (seL_one _) (by have := HLT.out; unfold maxLen; omega) (by have := HLT.out; omega) HBS.out ?_; intro v3 w3 ho3 hg3 _))
    have HO3 : Hid (w3.ownsRow base 70 5 v3 k (seL (ss.take k))) := by rw [Nat.zero_add, List.nil_append] at ho3; exact ho3
    have HG3 : Hid (w.grownBy w3 none) := hg3
    obtain ⟨va, vc, hv3⟩ := own_slice HO3.out
    have hT3 : w3.heap[T]? = some (.cells #[.slice (some ⟨g, 0, none⟩) ss.length c, .int .i64 last] 39 (0, 0)) := (hg3.block T HTL.out.1 (by simp [Value.ownBlock])).trans HT.out.tab
    have d3 : w3.cell? ⟨T, 0, none⟩ = some (.slice (some ⟨g, 0, none⟩) n c) := by rw [cell_of_row _ _ _ _ _ _ hT3, HN.out]; rfl
    have HT3 : Hid (w3.heap[T]? = some (.cells #[.slice (some ⟨g, 0, none⟩) ss.length c, .int .i64 last] 39 (0, 0))) := hT3
    have HCE3 : Hid (∀ q u, (seL ss)[q]? = some u → w3.cell? ⟨g, q, none⟩ = some u) := fun q u hu => hg3.cell (HCE.out q u hu) (by simp [Value.ownBlock])
    subst hv3
    have hbs3 : Hid (base ≤ w3.heap.size) := by have := HBS.out; have := hg3.size; show _ ≤ _; omega
    clear ho3 hg3 hT3 d0
    by_cases hjc : j < c
    · have hjc' : (j : Int) < (c : Int) := by omega
      have hcj : ¬ c = j := by omega
      go_wp2_with (at_builtin; (refine wpList_append_own _ rfl (.tmp 20) (.tmp 27) 37 rfl base 70 i0 (.agg #[.int .i64 0, .string ⟨#[]⟩, .string ⟨#[]⟩, .bool false, .int .i64 0]) 5 56 Try.underlying37 hi0 hz0 hz1 hz2 rfl (by decide) (.slice va k vc) k (seL (ss.take k)) rfl HO3.out ⟨g, j * 5, none⟩ (n - j) (c - j) (seL (ss.drop j)) rfl (by rw [seL_len, List.length_drop, HN.out]) (fun q u hu => by rw [Addr.add_mid]; exact HCE3.out (j * 5 + q) u (by rw [← seL_drop, List.getElem?_drop] at hu; exact hu)) (seL_one _) (by have := HLT.out; unfold maxLen; omega) (by have := HLT.out; omega) hbs3.out ?_; intro v4 w4 ho4 hg4 _; (have HO4 : Hid (w4.ownsRow base 70 5 v4 (k + (n - j)) (seL (ss.take k) ++ seL (ss.drop j))) := ho4); (have HG4 : Hid (w3.grownBy w4 (Value.slice va k vc).ownBlock) := hg4); (obtain ⟨xa, xc, hv4⟩ := own_slice HO4.out); subst hv4; (have hT4 : w4.heap[T]? = some (.cells #[.slice (some ⟨g, 0, none⟩) ss.length c, .int .i64 last] 39 (0, 0)) := (hg4.block T (by have := HTL.out; have := HG3.out.size; omega) (own_other HO3.out HT3.out (by decide))).trans HT3.out); (have HT4 : Hid (w4.heap[T]? = some (.cells #[.slice (some ⟨g, 0, none⟩) ss.length c, .int .i64 last] 39 (0, 0))) := hT4); (have e4 : w4.cell? ⟨T, 0, none⟩ = some (.slice (some ⟨g, 0, none⟩) ss.length c) := (by rw [cell_of_row _ _ _ _ _ _ hT4]; rfl)); (have f4 : w4.frozen? ⟨T, 0, none⟩ = false := frozen_of_row _ _ 0 _ _ hT4); clear ho4 hg4 hT4))
      go_ret
      have hLE := HLT.out
      refine ⟨by rw [HC.out.1]; rfl, ⟨.slice xa (k + (n - j)) xc, ?_⟩, ?_, ?_⟩
      · rw [HC.out.2]
        refine ⟨row_set _ HT4.out, ?_, HT.out.low⟩
        have h := own_at HO4.out (w' := w4.setCell ⟨T, 0, none⟩ (.slice xa (k + (n - j)) xc)) fun q hq => by
          obtain ⟨cur, hc⟩ := own_tag HO4.out hq
          exact Below.heap_setCell _ _ _ _ (ne_tag hc HT4.out (by decide))
        rw [seL_app, List.length_append, List.length_take, List.length_drop, HN.out, Nat.min_eq_left (by omega)]
        exact h
      · have hlo := HT.out.low
        have h3 : Below base w w3 := ⟨HG3.out.os, HG3.out.tape, HG3.out.output, HG3.out.size, fun q hq => HG3.out.block q (by have := HBS.out; omega) (by simp)⟩
        have h4 : Below base w3 w4 := ⟨HG4.out.os, HG4.out.tape, HG4.out.output, HG4.out.size, fun q hq => HG4.out.block q (by have := hbs3.out; omega) (fun e => by have := (HO3.out.lt q e.symm).1; omega)⟩
        exact (h3.trans h4).setCell hlo _
      · intro p cc t f hp n1 n2
        have hpl := (Array.getElem?_eq_some_iff.1 hp).1
        have h3 : w3.heap[p]? = w.heap[p]? := HG3.out.block p hpl (by simp)
        have h4 : w4.heap[p]? = w3.heap[p]? := HG4.out.block p (by have := HG3.out.size; omega) (own_other2 HO3.out (h3.trans hp) n2)
        exact (Below.heap_setCell _ _ _ _ (ne_tag ((h4.trans h3).trans hp) HT4.out n1)).trans (h4.trans h3)
    · have hjc' : j = c := by have := HLT.out; omega
      have hnc : n = c := by have := HLT.out; omega
      have hnj : n - j = 0 := by omega
      have hcj0 : c - j = 0 := by omega
      go_wp2_with (at_builtin; (refine wpList_append_own _ rfl (.tmp 20) (.tmp 27) 37 rfl base 70 i0 (.agg #[.int .i64 0, .string ⟨#[]⟩, .string ⟨#[]⟩, .bool false, .int .i64 0]) 5 56 Try.underlying37 hi0 hz0 hz1 hz2 rfl (by decide) (.slice va k vc) k (seL (ss.take k)) rfl HO3.out ⟨g, 0, none⟩ 0 0 (seL (ss.drop j)) rfl (by rw [seL_len, List.length_drop, HN.out, hnj]) (fun q u hu => by rw [List.drop_of_length_le (by rw [HN.out]; have := HLT.out; omega)] at hu; simp [seL] at hu) (seL_one _) (by have := HLT.out; unfold maxLen; omega) (by have := HLT.out; omega) hbs3.out ?_; intro v4 w4 ho4 hg4 _; (have HO4 : Hid (w4.ownsRow base 70 5 v4 (k + 0) (seL (ss.take k) ++ seL (ss.drop j))) := ho4); (have HG4 : Hid (w3.grownBy w4 (Value.slice va k vc).ownBlock) := hg4); (obtain ⟨xa, xc, hv4⟩ := own_slice HO4.out); subst hv4; (have hT4 : w4.heap[T]? = some (.cells #[.slice (some ⟨g, 0, none⟩) ss.length c, .int .i64 last] 39 (0, 0)) := (hg4.block T (by have := HTL.out; have := HG3.out.size; omega) (own_other HO3.out HT3.out (by decide))).trans HT3.out); (have HT4 : Hid (w4.heap[T]? = some (.cells #[.slice (some ⟨g, 0, none⟩) ss.length c, .int .i64 last] 39 (0, 0))) := hT4); (have e4 : w4.cell? ⟨T, 0, none⟩ = some (.slice (some ⟨g, 0, none⟩) ss.length c) := (by rw [cell_of_row _ _ _ _ _ _ hT4]; rfl)); (have f4 : w4.frozen? ⟨T, 0, none⟩ = false := frozen_of_row _ _ 0 _ _ hT4); clear ho4 hg4 hT4))
      go_ret
      have hLE := HLT.out
      refine ⟨by rw [HC.out.1]; rfl, ⟨.slice xa (k + 0) xc, ?_⟩, ?_, ?_⟩
      · rw [HC.out.2]
        refine ⟨row_set _ HT4.out, ?_, HT.out.low⟩
        have h := own_at HO4.out (w' := w4.setCell ⟨T, 0, none⟩ (.slice xa (k + 0) xc)) fun q hq => by
          obtain ⟨cur, hc⟩ := own_tag HO4.out hq
          exact Below.heap_setCell _ _ _ _ (ne_tag hc HT4.out (by decide))
        rw [seL_app, List.length_append, List.length_take, List.length_drop, HN.out, Nat.min_eq_left (by omega), hnj]
        exact h
      · have hlo := HT.out.low
        have h3 : Below base w w3 := ⟨HG3.out.os, HG3.out.tape, HG3.out.output, HG3.out.size, fun q hq => HG3.out.block q (by have := HBS.out; omega) (by simp)⟩
        have h4 : Below base w3 w4 := ⟨HG4.out.os, HG4.out.tape, HG4.out.output, HG4.out.size, fun q hq => HG4.out.block q (by have := hbs3.out; omega) (fun e => by have := (HO3.out.lt q e.symm).1; omega)⟩
        exact (h3.trans h4).setCell hlo _
      · intro p cc t f hp n1 n2
        have hpl := (Array.getElem?_eq_some_iff.1 hp).1
        have h3 : w3.heap[p]? = w.heap[p]? := HG3.out.block p hpl (by simp)
        have h4 : w4.heap[p]? = w3.heap[p]? := HG4.out.block p (by have := HG3.out.size; omega) (own_other2 HO3.out (h3.trans hp) n2)
        exact (Below.heap_setCell _ _ _ _ (ne_tag ((h4.trans h3).trans hp) HT4.out n1)).trans (h4.trans h3)
end Go.Proofs.Ytnghgclogeefgaa
