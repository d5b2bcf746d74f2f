/- The model's cache: drop, first. -/
import Derived.Test.YtbcdaddbcjagjaaTb
namespace Go.Proofs.Ytbcdaddbcjagjaa
open Go.RowKit
set_option linter.unusedVariables false
set_option linter.unusedSimpArgs false

variable {w w' w2 W : World} {R B : Nat} {most : Int} {lv cv lv' cv' : Value} {l l' : List An} {cs cs' : List Cn}
/-- A part of the answers, read. -/
theorem MS.part {g n cap : Nat} (h : MS w R B most (.slice (some ⟨g, 0, none⟩) n cap) cv l cs) (i : Nat) {l2 : List An} (hl2 : ∀ (j : Nat) (x : An), l2[j]? = some x → l[i + j]? = some x) : ∀ (j : Nat) (u : Value), (fl fA l2)[j]? = some u → w.cell? ((⟨g, i * 4, none⟩ : Addr).add j) = some u := by
  obtain ⟨⟨a0, c0, e0, -⟩, -⟩ := h.forms
  cases e0
  intro j u hj
  have hjl := (List.getElem?_eq_some_iff.1 hj).1
  rw [fl_len fA_len] at hjl
  obtain ⟨x, hx⟩ : ∃ x, l2[j / 4]? = some x := ⟨_, List.getElem?_eq_getElem (by omega)⟩
  have e1 : (fl fA l2)[j / 4 * 4 + j % 4]? = (fA x)[j % 4]? := fl_at fA_len l2 (j / 4) x (j % 4) hx (by omega)
  rw [show j / 4 * 4 + j % 4 = j by omega, hj] at e1
  have hlx := hl2 _ _ hx
  have hlt := (List.getElem?_eq_some_iff.1 hlx).1
  have e2 := fl_at fA_len l (i + j / 4) x (j % 4) hlx (by omega)
  have e3 := h.rl.cellAt ((i + j / 4) * 4 + j % 4) (by omega)
  rw [e2, ← e1] at e3
  rw [Addr.add_mid, show i * 4 + j = (i + j / 4) * 4 + j % 4 by omega]
  exact e3
set_option maxRecDepth 20000 in
set_option maxHeartbeats 4000000 in
theorem MS.drop (h : MS w R B most lv cv l cs) (hl : (l.length : Int) ≤ 100000) {k : Nat} (hk : k < l.length) : Calls Try.prog 45 #[.pointer (some ⟨R, 0, none⟩), .int .i64 (k : Int)] w fun e w' => e = .returned (.tuple #[]) ∧ ∃ lv', MS w' R B most lv' cv (l.take k ++ l.drop (k + 1)) cs ∧ Fr (GM R lv cv) (GM R lv' cv) w w' := by
  obtain ⟨g, cap, rfl⟩ := own_form h.rl (by omega)
  have HH : Hid (MS w R B most (.slice (some ⟨g, 0, none⟩) l.length cap) cv l cs) := h
  have hcp := own_cap h.rl
  have c1 := h.cells.2.1
  obtain ⟨i, hi, hz, hsz, hby⟩ := i78_ex
  obtain ⟨n, hn⟩ : ∃ n, l.length = n := ⟨_, rfl⟩
  have HN : Hid (l.length = n ∧ k < n ∧ n ≤ cap) := by show _ ∧ _; omega
  rw [hn] at hl hk hcp c1 HH
  have hk' : (k : Int) ≤ (cap : Int) := by omega
  have hk2 : (k : Int) + 1 ≤ (n : Int) := by omega
  have hk3 : (n : Int) ≤ (cap : Int) := by omega
  have HP1 : Hid (∀ (j : Nat) (u : Value), (fl fA (l.take k))[j]? = some u → w.cell? ((⟨g, 0, none⟩ : Addr).add j) = some u) := by
    have := HH.out.part 0 (l2 := l.take k) (fun j x hx => by
      rw [List.getElem?_take] at hx
      split at hx
      · rw [Nat.zero_add]; exact hx
      · cases hx)
    exact this
  have HL1 : Hid ((fl fA (l.take k)).length = k * 4 ∧ ∀ u ∈ fl fA (l.take k), u.oneCell' = true) := ⟨by rw [fl_len fA_len, List.length_take, Nat.min_eq_left (by omega)], fl_one fA_one _⟩
  clear h hn hk hcp
  go_enter Try.func45, Try.ntmps45
  go_upto_region 2 with (at_builtin; (refine wpList_append_own _ rfl (.tmp 5) (.tmp 11) 55 rfl w.heap.size 78 i (.agg #[.string ⟨#[]⟩, .string ⟨#[]⟩, .string ⟨#[]⟩, .string ⟨#[]⟩]) 4 64 under55 hi hz hsz hby rfl (by decide) (.slice none 0 0) 0 [] rfl (World.ownsRow_nil _ _ _ _) ⟨g, 0, none⟩ k cap (fl fA (l.take k)) rfl HL1.out.1 HP1.out HL1.out.2 (by unfold maxLen; omega) (by omega) (Nat.le_refl _) ?_; intro v1 w1 ho1 hg1 _; (have H1 : Hid (w1.ownsRow w.heap.size 78 4 v1 (0 + k) ([] ++ fl fA (l.take k)) ∧ Below w.heap.size w w1) := ⟨ho1, hg1.os, hg1.tape, hg1.output, hg1.size, fun q hq => hg1.block q hq (by simp [Value.ownBlock])⟩); clear ho1 hg1))
  rw [Nat.zero_add, List.nil_append] at H1
  obtain ⟨s1, cap1, hv1⟩ := own_slice H1.out.1
  subst hv1
  have HH1 : Hid (MS w1 R B most (.slice (some ⟨g, 0, none⟩) n cap) cv l cs) := HH.out.newer H1.out.2
  clear c1
  have c1 := HH1.out.cells.2.1
  have HD : Hid (∀ (j : Nat) (x : An), (l.drop (k + 1))[j]? = some x → l[(k + 1) + j]? = some x) := fun j x hx => by rw [List.getElem?_drop] at hx; exact hx
  have HL2 : Hid ((fl fA (l.drop (k + 1))).length = (n - (k + 1)) * 4 ∧ ∀ u ∈ fl fA (l.drop (k + 1)), u.oneCell' = true) := ⟨by rw [fl_len fA_len, List.length_drop, HN.out.1], fl_one fA_one _⟩
  have HB2 : Hid (w.heap.size ≤ w1.heap.size) := H1.out.2.size
  have HKB : Hid (∀ (v2 : Value) (w2 : World), w2.ownsRow w.heap.size 78 4 v2 (k + (n - (k + 1))) (fl fA (l.take k) ++ fl fA (l.drop (k + 1))) → w1.grownBy w2 (Value.slice s1 k cap1).ownBlock → (w2.cell? ⟨R, 1, none⟩ = some (.slice (some ⟨g, 0, none⟩) n cap) ∧ w2.frozen? ⟨R, 1, none⟩ = false) ∧ MS (w2.setCell ⟨R, 1, none⟩ v2) R B most v2 cv (l.take k ++ l.drop (k + 1)) cs ∧ Fr (GM R (.slice (some ⟨g, 0, none⟩) n cap) cv) (GM R v2 cv) w (w2.setCell ⟨R, 1, none⟩ v2)) := fun v2 w2 ho hg => by
    have hb2 : Below w.heap.size w w2 := H1.out.2.trans (grown_below hg H1.out.1 HB2.out)
    have hM := HH.out.newer hb2
    have hlen : (l.take k ++ l.drop (k + 1)).length = k + (n - (k + 1)) := by rw [List.length_append, List.length_take, List.length_drop, HN.out.1, Nat.min_eq_left (by have := HN.out; omega)]
    refine ⟨⟨hM.cells.2.1, hM.cells.2.2.2 1⟩, ?_⟩
    exact HH.out.turnL hb2 (by rw [hlen, fl_app]; exact ho)
  by_cases hce : cap = k + 1
  · have hn1 : n = k + 1 := by have := HN.out; omega
    have hd : fl fA (l.drop (k + 1)) = [] := by rw [List.drop_of_length_le (by have := HN.out; omega)]; rfl
    rw [hd] at HL2
    rw [hd] at HKB
    subst hn1
    rw [Nat.sub_self] at HL2 HKB
    clear hd HD
    go_wp2_with (at_builtin; (refine wpList_append_own _ rfl (.tmp 13) (.tmp 20) 55 rfl w.heap.size 78 i (.agg #[.string ⟨#[]⟩, .string ⟨#[]⟩, .string ⟨#[]⟩, .string ⟨#[]⟩]) 4 64 under55 hi hz hsz hby rfl (by decide) (.slice s1 k cap1) k (fl fA (l.take k)) rfl H1.out.1 _ 0 _ [] rfl rfl (fun j u hu => by simp at hu) (fun u hu => by simp at hu) (by unfold maxLen; omega) (by omega) HB2.out ?_; intro v2 w2 ho2 hg2 _; obtain ⟨⟨q1, q2⟩, q3⟩ := HKB.out v2 w2 ho2 hg2; (have H2 : Hid (MS (w2.setCell ⟨R, 1, none⟩ v2) R B most v2 cv (l.take k ++ l.drop (k + 1)) cs ∧ Fr (GM R (.slice (some ⟨g, 0, none⟩) (k + 1) cap) cv) (GM R v2 cv) w (w2.setCell ⟨R, 1, none⟩ v2)) := q3); obtain ⟨s2, cap2, hv2⟩ := own_slice ho2; subst hv2; clear q3 ho2 hg2))
    go_end0
    exact ⟨rfl, _, H2.out⟩
  · have HP2 : Hid (∀ (j : Nat) (u : Value), (fl fA (l.drop (k + 1)))[j]? = some u → w1.cell? ((⟨g, (k + 1) * 4, none⟩ : Addr).add j) = some u) := HH1.out.part (k + 1) HD.out
    go_wp2_with (at_builtin; (refine wpList_append_own _ rfl (.tmp 13) (.tmp 20) 55 rfl w.heap.size 78 i (.agg #[.string ⟨#[]⟩, .string ⟨#[]⟩, .string ⟨#[]⟩, .string ⟨#[]⟩]) 4 64 under55 hi hz hsz hby rfl (by decide) (.slice s1 k cap1) k (fl fA (l.take k)) rfl H1.out.1 ⟨g, (k + 1) * 4, none⟩ (n - (k + 1)) (cap - (k + 1)) (fl fA (l.drop (k + 1))) rfl HL2.out.1 HP2.out HL2.out.2 (by unfold maxLen; omega) (by omega) HB2.out ?_; intro v2 w2 ho2 hg2 _; obtain ⟨⟨q1, q2⟩, q3⟩ := HKB.out v2 w2 ho2 hg2; (have H2 : Hid (MS (w2.setCell ⟨R, 1, none⟩ v2) R B most v2 cv (l.take k ++ l.drop (k + 1)) cs ∧ Fr (GM R (.slice (some ⟨g, 0, none⟩) n cap) cv) (GM R v2 cv) w (w2.setCell ⟨R, 1, none⟩ v2)) := q3); obtain ⟨s2, cap2, hv2⟩ := own_slice ho2; subst hv2; clear q3 ho2 hg2))
    go_end0
    exact ⟨rfl, _, H2.out⟩
end Go.Proofs.Ytbcdaddbcjagjaa
