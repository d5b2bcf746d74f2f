/- A session is taken out of a row. -/
import Derived.Test.YtnghgclogeefgaaT3
namespace Go.Proofs.Ytnghgclogeefgaa
open Go.RowKit
set_option linter.unusedVariables false
set_option linter.unusedSimpArgs false

theorem zero68 (w : World) : (zeroValue 68).run Try.prog w = .ok (.agg #[.int .i64 0, .string ⟨#[]⟩, .string ⟨#[]⟩, .bool false, .int .i64 0]) w := by kernel_rfl
def z5 : List Value := [.int .i64 0, .string ⟨#[]⟩, .string ⟨#[]⟩, .bool false, .int .i64 0]
theorem run_clear1 (w : World) (g o c : Nat) (cur : Array Value) (hg : w.heap[g]? = some (.cells cur 68 (0, 0))) (hfit : o + 5 ≤ cur.size) (ty : TypeId) :
    (Builtin.clear_ #[62] ty #[.slice (some ⟨g, o, none⟩) 1 c]).run Try.prog w = .ok (.tuple #[]) (w.setRow g (cur.toList.take o ++ z5 ++ cur.toList.drop (o + 5)).toArray) := by
  have hst := run_storeCells_at Try.prog g o 68 z5 0 cur w hg (by simpa [z5] using hfit) (by intro u hu; simp only [z5, List.mem_cons, List.mem_nil_iff, or_false] at hu; rcases hu with rfl | rfl | rfl | rfl | rfl <;> rfl)
  simp only [Nat.add_zero] at hst
  have hz : (Builtin.zeroCells (Value.agg #[.int .i64 0, .string ⟨#[]⟩, .string ⟨#[]⟩, .bool false, .int .i64 0]).cells 1).toList = z5 := by kernel_rfl
  have hl : z5.length = 5 := rfl
  rw [hl] at hst
  simp [Builtin.clear_, run_underlying Try.underlying62, zero68, hz, hst]
theorem seL_take : ∀ (ss : List Se) (i : Nat), (seL ss).take (i * 5) = seL (ss.take i)
  | [], i => by simp [seL]
  | p :: r, 0 => by simp [seL]
  | p :: r, i + 1 => by
    show (se5 p ++ seL r).take ((i + 1) * 5) = se5 p ++ seL (r.take i)
    rw [List.take_append, List.take_of_length_le (by simp [se5]; omega), show (i + 1) * 5 - (se5 p).length = i * 5 by simp [se5]; omega, seL_take r i]
theorem seL_drop : ∀ (ss : List Se) (i : Nat), (seL ss).drop (i * 5) = seL (ss.drop i)
  | [], i => by simp [seL]
  | p :: r, 0 => by simp [seL]
  | p :: r, i + 1 => by
    show (se5 p ++ seL r).drop ((i + 1) * 5) = seL (r.drop i)
    rw [List.drop_append, List.drop_of_length_le (by simp [se5]; omega), show (i + 1) * 5 - (se5 p).length = i * 5 by simp [se5]; omega, seL_drop r i]
    rfl
theorem seL_one : ∀ (ss : List Se), ∀ u ∈ seL ss, u.oneCell' = true
  | [], u, h => by simp [seL] at h
  | p :: r, u, h => by
    rcases List.mem_append.1 (show u ∈ se5 p ++ seL r from h) with h | h
    · exact se5_one p u h
    · exact seL_one r u h
theorem step_append_run {P : Program} {ops : Array Oper} {o : Oper} {a : Act} {w : World} {K : Act → World → Prop} {Q : Exit → Act → World → Prop} {E : Prop} (hgd : o.guard = none) (s x : Operand) (t : TypeId)
    (ho : o.op = .call { callee := .builtin .append, args := #[s, x], argTypes := #[t, t] }) (v1 v2 v' : Value) (w' : World) (hs : a.eval s = v1) (hx : a.eval x = v2) (hr : (Builtin.append_ #[t, t] o.type #[v1, v2]).run P w = .ok v' w') (h : K (a.put o.dst v') w') :
    if Region.wanted o (yielded ops a.tmps) = true then Oper.wp P o a w K Q else E := by
  have hw : Region.wanted o (yielded ops a.tmps) = true := by simp [Region.wanted, hgd]
  rw [if_pos hw]
  unfold Oper.wp
  simp [execOp, ho, resolve, invoke, builtin, hs, hx, hr, Result.andThen]
  exact h
set_option maxRecDepth 20000 in
set_option maxHeartbeats 4000000 in
theorem delete_any (base g cap i : Nat) (ss : List Se) (w : World) (ho : w.ownsRow base 68 5 (.slice (some ⟨g, 0, none⟩) ss.length cap) ss.length (seL ss)) (hi : i < ss.length) (hl : ss.length ≤ 1000) :
    Calls Try.prog 43 #[.slice (some ⟨g, 0, none⟩) ss.length cap, .int .i64 (i : Int), .int .i64 ((i + 1 : Nat) : Int)] w fun e w' => e = .returned (.slice (some ⟨g, 0, none⟩) (ss.length - 1) cap) ∧ w'.ownsRow base 68 5 (.slice (some ⟨g, 0, none⟩) (ss.length - 1) cap) (ss.length - 1) (seL (ss.take i ++ ss.drop (i + 1))) ∧ Kp g w w' := by
  obtain ⟨n, hn⟩ : ∃ n, ss.length = n := ⟨_, rfl⟩
  have HO : Hid (w.ownsRow base 68 5 (.slice (some ⟨g, 0, none⟩) n cap) n (seL ss)) := by rw [← hn]; exact ho
  have HN : Hid (ss.length = n) := hn
  have hcap := own_cap HO.out
  rw [hn] at hi hl ⊢
  obtain ⟨j, hj⟩ : ∃ j, i + 1 = j := ⟨_, rfl⟩
  rw [hj]
  have hne : ((i : Int) == (j : Int)) = false := by simpa using (by omega : ¬ (i : Int) = (j : Int))
  have h1 : (i : Int) ≤ (j : Int) := by omega
  have h2 : (j : Int) ≤ (n : Int) := by omega
  have h3 : (n : Int) ≤ (cap : Int) := by omega
  have h4 : (n : Int) ≤ 1000 := by omega
  obtain ⟨m, hm1⟩ : ∃ m, n - 1 = m := ⟨_, rfl⟩
  rw [hm1]
  have HM1 : Hid (n - 1 = m) := hm1
  clear ho hn hm1
  go_enter Try.func43, Try.ntmps43
  go_upto_region 5 with fail
  obtain ⟨cur, hg, hcm, hcs, htake⟩ : ∃ cur, w.heap[g]? = some (.cells cur 68 (0, 0)) ∧ cap ≤ maxLen ∧ cur.size = cap * 5 ∧ cur.toList.take (n * 5) = seL ss := by
    rcases HO.out.2 with ⟨h, _⟩ | ⟨g', cp', cur, hv, _, hc, _, h5, h6, h7⟩
    · cases h
    · cases hv; exact ⟨cur, hc, h5, h6, h7⟩
  have HC : Hid (w.heap[g]? = some (.cells cur 68 (0, 0)) ∧ cap ≤ maxLen ∧ cur.size = cap * 5 ∧ cur.toList.take (n * 5) = seL ss) := ⟨hg, hcm, hcs, htake⟩
  have hdl : (seL (ss.drop j)).length = (n - j) * 5 := by rw [seL_len, List.length_drop, HN.out]
  have hap : ∀ (x : Addr), (∀ q u, (seL (ss.drop j))[q]? = some u → w.cell? (x.add q) = some u) → (Builtin.append_ #[62, 62] 62 #[.slice (some ⟨g, 0, none⟩) i cap, .slice (some x) (n - j) (cap - j)]).run Try.prog w.drew = .ok (.slice (some ⟨g, 0, none⟩) (i + (n - j)) cap) (w.drew.setRow g (cur.toList.take (i * 5) ++ seL (ss.drop j) ++ cur.toList.drop (i * 5 + (seL (ss.drop j)).length)).toArray) := fun x hx => by
    obtain ⟨i0, hi0, hz0, hz1, hz2⟩ := info_parts info68
    have h := run_append_room (P := Try.prog) w.drew 62 62 68 i0 Try.underlying62 hi0 g i cap cur hg x (n - j) (cap - j) (seL (ss.drop j)) (by rw [hz1]; exact hdl) (fun q u hu => hx q u hu) (seL_one _) (by omega) (by rw [hz1, hdl, hcs]; omega)
    rw [hz1] at h
    exact h
  have HAP : Hid _ := hap
  clear hg hcm hcs htake hap
  by_cases hjc : j < cap
  · have hx := HAP.out ⟨g, j * 5, none⟩ (fun q u hu => by
      have hq : q < (n - j) * 5 := by rw [← hdl]; exact (List.getElem?_eq_some_iff.1 hu).1
      rw [Addr.add_mid, cell_of_row _ _ _ _ _ _ HC.out.1]
      rw [← seL_drop, List.getElem?_drop, ← HC.out.2.2.2, List.getElem?_take] at hu
      split at hu
      · simpa using hu
      · cases hu)
    clear hdl
    have hic : (i : Int) ≤ (cap : Int) := by omega
    have hjc' : (j : Int) < (cap : Int) := by omega
    have hcj : ¬ cap = j := by omega
    go_region_law (refine step_append_run rfl (.tmp 22) (.tmp 25) 62 rfl (.slice (some ⟨g, 0, none⟩) i cap) (.slice (some ⟨g, j * 5, none⟩) (n - j) (cap - j)) _ _ (by simp [Act.eval, Act.put]) (by simp [Act.eval, Act.put]) hx ?_)
    simp only [Act.put]
    have hm : i + (n - j) = m := by have := HM1.out; omega
    rw [hm]
    obtain ⟨R1, hR1⟩ : ∃ R1 : Array Value, (cur.toList.take (i * 5) ++ seL (ss.drop j) ++ cur.toList.drop (i * 5 + (seL (ss.drop j)).length)).toArray = R1 := ⟨_, rfl⟩
    obtain ⟨W1, hW1⟩ : ∃ W1, w.drew.setRow g R1 = W1 := ⟨_, rfl⟩
    have hW1' : w.drew.setRow g (cur.toList.take (i * 5) ++ (seL (ss.drop j) ++ cur.toList.drop (i * 5 + (seL (ss.drop j)).length))).toArray = W1 := by rw [← List.append_assoc, hR1]; exact hW1
    have hct : cur.toList.take (i * 5) = seL (ss.take i) := by
      rw [← seL_take, ← HC.out.2.2.2, List.take_take, Nat.min_eq_left (by omega)]
    have hdl : (seL (ss.drop j)).length = (n - j) * 5 := by rw [seL_len, List.length_drop, HN.out]
    have htl : (seL (ss.take i)).length = i * 5 := by rw [seL_len, List.length_take, HN.out, Nat.min_eq_left (by omega)]
    have HR1 : Hid (R1.size = cap * 5 ∧ R1.toList.take (m * 5) = seL (ss.take i ++ ss.drop j)) := by
      have hcs := HC.out.2.2.1
      rw [← hR1]
      refine ⟨?_, ?_⟩
      · simp only [List.size_toArray, List.length_append, List.length_drop, hct, hdl, htl, Array.length_toList, hcs]
        omega
      · show ((cur.toList.take (i * 5) ++ seL (ss.drop j)) ++ cur.toList.drop (i * 5 + (seL (ss.drop j)).length)).take (m * 5) = _
        rw [hct, ← seL_app, List.take_left']
        rw [seL_app, List.length_append, hdl, htl]
        omega
    have HG1 : Hid (W1.heap[g]? = some (.cells R1 68 (0, 0)) ∧ Kp g w W1) := by
      rw [← hW1]
      refine ⟨setRow_heap _ g cur R1 68 _ HC.out.1, ⟨rfl, rfl, rfl, by simp, fun q hq => setRow_other _ g q _ hq⟩⟩
    have hcl := run_clear1 W1 g (m * 5) (cap - m) R1 HG1.out.1 (by rw [HR1.out.1]; omega)
    obtain ⟨W2, hW2⟩ : ∃ W2, W1.setRow g (R1.toList.take (m * 5) ++ z5 ++ R1.toList.drop (m * 5 + 5)).toArray = W2 := ⟨_, rfl⟩
    have HE : Hid (W2.ownsRow base 68 5 (.slice (some ⟨g, 0, none⟩) m cap) m (seL (ss.take i ++ ss.drop j)) ∧ Kp g w W2) := by
      have h1 := HR1.out.1
      have h2 := HC.out.2.1
      have hlo := own_lt HO.out
      rw [← hW2]
      refine ⟨⟨?_, .inr ⟨g, cap, _, rfl, hlo.1, setRow_heap _ g R1 _ 68 _ HG1.out.1, by omega, h2, ?_, ?_⟩⟩, ?_⟩
      · rw [seL_app, List.length_append, hdl, htl]; omega
      · have hz : z5.length = 5 := rfl
        simp only [List.size_toArray, List.length_append, List.length_take, List.length_drop, Array.length_toList, h1, hz]
        omega
      · show ((R1.toList.take (m * 5) ++ z5) ++ R1.toList.drop (m * 5 + 5)).take (m * 5) = _
        rw [List.append_assoc, List.take_left' (by rw [List.length_take, Array.length_toList, h1]; omega)]
        exact HR1.out.2
      · exact HG1.out.2.trans ⟨rfl, rfl, rfl, by simp, fun q hq => setRow_other _ g q _ hq⟩
    rw [hW2] at hcl
    have hmn : (m : Int) < (n : Int) := by omega
    have hnm : n - m = 1 := by omega
    have hmc : (m : Int) < (cap : Int) := by omega
    have hcm' : ¬ cap = m := by omega
    try rw [hW1']
    try rw [hW1]
    clear hW1 hW1' hR1 hW2 hct hdl htl hm
    go_wp2_with fail
    go_ret
    exact ⟨rfl, HE.out.1, HE.out.2⟩
  · obtain rfl : j = n := by omega
    obtain rfl : j = cap := by omega
    have hx := HAP.out ⟨g, 0, none⟩ (fun q u hu => by rw [List.drop_of_length_le (by rw [HN.out]; exact Nat.le_refl _)] at hu; simp [seL] at hu)
    rw [Nat.sub_self] at hx
    clear hdl hjc
    have hic : (i : Int) ≤ (j : Int) := by omega
    go_region_law (refine step_append_run rfl (.tmp 22) (.tmp 25) 62 rfl (.slice (some ⟨g, 0, none⟩) i j) (.slice (some ⟨g, 0, none⟩) 0 0) _ _ (by simp [Act.eval, Act.put]) (by simp [Act.eval, Act.put]) hx ?_)
    simp only [Act.put]
    obtain rfl : i = m := by have := HM1.out; omega
    obtain ⟨R1, hR1⟩ : ∃ R1 : Array Value, (cur.toList.take (i * 5) ++ seL (ss.drop j) ++ cur.toList.drop (i * 5 + (seL (ss.drop j)).length)).toArray = R1 := ⟨_, rfl⟩
    obtain ⟨W1, hW1⟩ : ∃ W1, w.drew.setRow g R1 = W1 := ⟨_, rfl⟩
    have hW1' : w.drew.setRow g (cur.toList.take (i * 5) ++ (seL (ss.drop j) ++ cur.toList.drop (i * 5 + (seL (ss.drop j)).length))).toArray = W1 := by rw [← List.append_assoc, hR1]; exact hW1
    have hct : cur.toList.take (i * 5) = seL (ss.take i) := by
      rw [← seL_take, ← HC.out.2.2.2, List.take_take, Nat.min_eq_left (by omega)]
    have hdl : (seL (ss.drop j)).length = (j - j) * 5 := by rw [seL_len, List.length_drop, HN.out]
    have htl : (seL (ss.take i)).length = i * 5 := by rw [seL_len, List.length_take, HN.out, Nat.min_eq_left (by omega)]
    have HR1 : Hid (R1.size = j * 5 ∧ R1.toList.take (i * 5) = seL (ss.take i ++ ss.drop j)) := by
      have hcs := HC.out.2.2.1
      rw [← hR1]
      refine ⟨?_, ?_⟩
      · simp only [List.size_toArray, List.length_append, List.length_drop, hct, hdl, htl, Array.length_toList, hcs]
        omega
      · show ((cur.toList.take (i * 5) ++ seL (ss.drop j)) ++ cur.toList.drop (i * 5 + (seL (ss.drop j)).length)).take (i * 5) = _
        rw [hct, ← seL_app, List.take_left']
        rw [seL_app, List.length_append, hdl, htl]
        omega
    have HG1 : Hid (W1.heap[g]? = some (.cells R1 68 (0, 0)) ∧ Kp g w W1) := by
      rw [← hW1]
      refine ⟨setRow_heap _ g cur R1 68 _ HC.out.1, ⟨rfl, rfl, rfl, by simp, fun q hq => setRow_other _ g q _ hq⟩⟩
    have hcl := run_clear1 W1 g (i * 5) (j - i) R1 HG1.out.1 (by rw [HR1.out.1]; omega)
    obtain ⟨W2, hW2⟩ : ∃ W2, W1.setRow g (R1.toList.take (i * 5) ++ z5 ++ R1.toList.drop (i * 5 + 5)).toArray = W2 := ⟨_, rfl⟩
    have HE : Hid (W2.ownsRow base 68 5 (.slice (some ⟨g, 0, none⟩) i j) i (seL (ss.take i ++ ss.drop j)) ∧ Kp g w W2) := by
      have h1 := HR1.out.1
      have h2 := HC.out.2.1
      have hlo := own_lt HO.out
      rw [← hW2]
      refine ⟨⟨?_, .inr ⟨g, j, _, rfl, hlo.1, setRow_heap _ g R1 _ 68 _ HG1.out.1, by omega, h2, ?_, ?_⟩⟩, ?_⟩
      · rw [seL_app, List.length_append, hdl, htl]; omega
      · have hz : z5.length = 5 := rfl
        simp only [List.size_toArray, List.length_append, List.length_take, List.length_drop, Array.length_toList, h1, hz]
        omega
      · show ((R1.toList.take (i * 5) ++ z5) ++ R1.toList.drop (i * 5 + 5)).take (i * 5) = _
        rw [List.append_assoc, List.take_left' (by rw [List.length_take, Array.length_toList, h1]; omega)]
        exact HR1.out.2
      · exact HG1.out.2.trans ⟨rfl, rfl, rfl, by simp, fun q hq => setRow_other _ g q _ hq⟩
    rw [hW2] at hcl
    have hmn : (i : Int) < (j : Int) := by omega
    have hnm : j - i = 1 := by omega
    rw [hnm] at hcl
    have hcm' : ¬ j = i := by have := HM1.out; omega
    try rw [hW1']
    try rw [hW1]
    clear hW1 hW1' hR1 hW2 hct hdl htl
    go_wp2_with fail
    go_ret
    exact ⟨rfl, HE.out.1, HE.out.2⟩
end Go.Proofs.Ytnghgclogeefgaa
