/- The model's table: as it lies; the leaves, a session is looked for and told. -/
import Derived.Test.YtnghgclogeefgaaK1
namespace Go.Proofs.Ytnghgclogeefgaa
open Go.RowKit
set_option linter.unusedVariables false
set_option linter.unusedSimpArgs false

/-- The model's table: its sessions, the number told last. -/
structure RTb (w : World) (T base : Nat) (last : Int) (sv : Value) (ss : List Se) : Prop where
  tab : w.heap[T]? = some (.cells #[sv, .int .i64 last] 39 (0, 0))
  row : w.ownsRow base 70 5 sv ss.length (seL ss)
  low : base ≤ T
theorem RTb.later {w w' : World} {T base : Nat} {last : Int} {sv : Value} {ss : List Se} {B : Nat} (h : RTb w T base last sv ss) (hb : Below B w w') (hB : w.heap.size ≤ B) : RTb w' T base last sv ss := by
  have hlt := (Array.getElem?_eq_some_iff.1 h.tab).1
  exact ⟨(hb.block T (by omega)).trans h.tab, own_at h.row fun q hq => hb.block q (by have := (h.row.lt q hq).2; omega), h.low⟩
theorem RTb.kept {w w' : World} {T base : Nat} {last : Int} {sv : Value} {ss : List Se} (h : RTb w T base last sv ss) (hk : Kg 64 68 w w') : RTb w' T base last sv ss :=
  ⟨hk.row h.tab (by decide) (by decide), own_at h.row fun q hq => by obtain ⟨cur, hc⟩ := own_tag h.row hq; exact hk q _ _ _ hc (by decide) (by decide), h.low⟩
theorem Tb.kept {w w' : World} {T base : Nat} {last : Int} {sv : Value} {ss : List Se} (h : Tb w T base last sv ss) (hk : Kg 39 70 w w') : Tb w' T base last sv ss :=
  ⟨hk.row h.tab (by decide) (by decide), own_at h.row fun q hq => by obtain ⟨cur, hc⟩ := own_tag h.row hq; exact hk q _ _ _ hc (by decide) (by decide), h.low⟩
def ropP (w' : World) (T base : Nat) (e : Ending) (r : Int × Int × Int × List Se) : Prop := e = .returned (.tuple #[.int .i64 r.1, .int .i64 r.2.1]) ∧ ∃ sv', RTb w' T base r.2.2.1 sv' r.2.2.2
theorem info70 : (Try.prog.info? 70).map (fun i => (i.zero, i.size, i.bytes)) = some (some (.agg #[.int .i64 0, .string ⟨#[]⟩, .string ⟨#[]⟩, .bool false, .int .i64 0]), 5, 56) := by kernel_rfl
theorem rown_sc {W : World} {base g cap i : Nat} {ss : List Se} {s : Se} (h : W.ownsRow base 70 5 (.slice (some ⟨g, 0, none⟩) ss.length cap) ss.length (seL ss)) (hi : ss[i]? = some s) : SC W g i s := by
  have hlt := (List.getElem?_eq_some_iff.1 hi).1
  have hc : ∀ r, r < 5 → W.cell? ⟨g, i * 5 + r, none⟩ = (se5 s)[r]? := fun r hr => by
    rw [h.cellAt (i * 5 + r) (show i * 5 + r < ss.length * 5 by omega), seL_at ss i s r hi hr]
  exact ⟨by simpa [se5] using hc 0 (by omega), by simpa [se5] using hc 1 (by omega), by simpa [se5] using hc 2 (by omega), by simpa [se5] using hc 3 (by omega), by simpa [se5] using hc 4 (by omega)⟩
theorem wrong_any (now span : Int) (w : World) : Calls Try.prog 38 #[.int .i64 now, .int .i64 span] w fun e w' => e = .returned (.bool (!rsI now span)) ∧ w' = w := by
  by_cases h1 : 0 ≤ now
  · by_cases h2 : now ≤ 1125899906842624
    · by_cases h3 : 1 ≤ span
      · by_cases h4 : span ≤ 1125899906842624
        · have e : rsI now span = true := by unfold rsI; simp [h1, h2, h3, h4]
          have d4 : decide (1125899906842624 < span) = false := decide_eq_false (by omega)
          have d1 : decide (now < 0) = false := decide_eq_false (by omega)
          have d2 : decide (1125899906842624 < now) = false := decide_eq_false (by omega)
          have d3 : decide (span < 1) = false := decide_eq_false (by omega)
          rw [e]
          go_enter Try.func38, Try.ntmps38
          go_wp2
          go_ret
          exact ⟨rfl, rfl⟩
        · have e : rsI now span = false := by unfold rsI; simp [h4]
          have d4 : decide (1125899906842624 < span) = true := decide_eq_true (by omega)
          rw [e]
          go_enter Try.func38, Try.ntmps38
          go_wp2
          go_ret
          exact ⟨rfl, rfl⟩
      · have e : rsI now span = false := by unfold rsI; simp [h3]
        have h3' : span < 1 := by omega
        rw [e]
        go_enter Try.func38, Try.ntmps38
        go_wp2
        go_ret
        exact ⟨rfl, rfl⟩
    · have e : rsI now span = false := by unfold rsI; simp [h2]
      have h2' : 1125899906842624 < now := by omega
      rw [e]
      go_enter Try.func38, Try.ntmps38
      go_wp2
      go_ret
      exact ⟨rfl, rfl⟩
  · have e : rsI now span = false := by unfold rsI; simp [h1]
    have h1' : now < 0 := by omega
    rw [e]
    go_enter Try.func38, Try.ntmps38
    go_wp2
    go_ret
    exact ⟨rfl, rfl⟩
theorem rover_any (now span : Int) (w : World) (h : rsI now span = true) : Calls Try.prog 39 #[.int .i64 now, .int .i64 span] w fun e w' => e = .returned (.int .i64 (endI now span)) ∧ w' = w := by
  obtain ⟨h1, h2, h3, h4⟩ := of_decide_eq_true (show decide (0 ≤ now ∧ now ≤ 1125899906842624 ∧ 1 ≤ span ∧ span ≤ 1125899906842624) = true from h)
  clear h
  have b0 : 0 ≤ now + span := by omega
  have b1 : now + span ≤ 2251799813685248 := by omega
  by_cases c : now + span ≤ 1125899906842624
  · have e : endI now span = now + span := by unfold endI; rw [if_pos c]
    rw [e]
    go_enter Try.func39, Try.ntmps39
    go_wp2
    go_ret
    exact ⟨rfl, rfl⟩
  · have e : endI now span = 1125899906842624 := by unfold endI; rw [if_neg c]
    have c' : 1125899906842624 < now + span := by omega
    rw [e]
    go_enter Try.func39, Try.ntmps39
    go_wp2
    go_ret
    exact ⟨rfl, rfl⟩
set_option maxRecDepth 20000 in
set_option maxHeartbeats 4000000 in
theorem rfind_any (T base : Nat) (last : Int) (sv : Value) (ss : List Se) (id : Int) (w : World) (h : RTb w T base last sv ss) (hl : ss.length ≤ 1000) :
    Calls Try.prog 41 #[.pointer (some ⟨T, 0, none⟩), .int .i64 id] w fun e w' => e = .returned (.int .i64 (ixI ss id)) ∧ w' = w := by
  obtain ⟨sa, cap, hsv⟩ := own_slice h.row
  have HT : Hid (RTb w T base last sv ss) := h
  subst hsv
  have c0 : w.cell? ⟨T, 0, none⟩ = some (.slice sa ss.length cap) := by rw [cell_of_row _ _ _ _ _ _ h.tab]; rfl
  obtain ⟨n, hn⟩ : ∃ n, ss.length = n := ⟨_, rfl⟩
  have HN : Hid (ss.length = n) := hn
  rw [hn] at c0 hl
  have hl' : (n : Int) ≤ 1000 := by omega
  clear h hn hl
  go_enter Try.func41, Try.ntmps41
  go_wp2_with fail
  go_loopw [5] (fun v wr => wr = w ∧ ∃ k : Nat, k ≤ n ∧ v = .int .i64 k ∧ (∀ (j : Nat) (p : Se), j < k → ss[j]? = some p → p.num ≠ id)) (fun v wr => n - (intOf v).toNat)
  case atStart => exact ⟨rfl, 0, by omega, rfl, fun j p hj => (Nat.not_lt_zero _ hj).elim⟩
  case round =>
    obtain ⟨rfl, k, hk, rfl, hD⟩ := hrel
    have HD : Hid (∀ (j : Nat) (p : Se), j < k → ss[j]? = some p → p.num ≠ id) := hD
    clear hD
    by_cases hlt : k < n
    · have hlt' : (k : Int) < (n : Int) := by omega
      obtain ⟨s, hs⟩ : ∃ s, ss[k]? = some s := ⟨_, List.getElem?_eq_getElem (by have := HN.out; omega)⟩
      have HS : Hid (ss[k]? = some s) := hs
      obtain ⟨g, cp, hv⟩ := own_form HT.out.row (by have := HN.out; omega)
      have hsa : sa = some ⟨g, 0, none⟩ := (Value.slice.inj hv).1
      subst hsa
      obtain ⟨e0, e1, e2, e3, e4⟩ := rown_sc HT.out.row hs
      have hcap : (n : Int) ≤ (cap : Int) := by have := own_cap HT.out.row; have := HN.out; omega
      clear hs hv e1 e2 e3 e4
      cases hq : (s.num == id) with
      | true =>
        have HE : Hid (ixI ss id = (k : Int)) := by
          show _ = _
          unfold ixI
          rw [ix_hit ss id k s HD.out HS.out (by simpa using hq)]
        go_wp2_with fail
        go_ret
        exact ⟨by rw [HE.out]; rfl, rfl⟩
      | false =>
        have HN2 : Hid (∀ (j : Nat) (p : Se), j < k + 1 → ss[j]? = some p → p.num ≠ id) := by
          intro j p hj hp
          rcases (show j = k ∨ j < k from by omega) with rfl | h
          · rw [HS.out] at hp
            rw [← Option.some.inj hp]
            simpa using hq
          · exact HD.out j p h hp
        go_wp2_with fail
        go_roundw
        case rel => exact ⟨by trivial, k + 1, by omega, by go_num, HN2.out⟩
        case measure => simp [intOf]; omega
    · have hge : ¬ ((k : Int) < (n : Int)) := by omega
      have HE : Hid (ixI ss id = -1) := by
        show _ = _
        unfold ixI
        rw [ix_miss ss id (fun j p hp => HD.out j p (by have := (List.getElem?_eq_some_iff.1 hp).1; have := HN.out; omega) hp)]
      clear hlt
      go_wp2_with fail
      go_ret
      exact ⟨by rw [HE.out]; rfl, rfl⟩
set_option maxRecDepth 20000 in
set_option maxHeartbeats 4000000 in
theorem rwho_any (T base : Nat) (last : Int) (sv : Value) (ss : List Se) (id now : Int) (w : World) (h : RTb w T base last sv ss) (hl : ss.length ≤ 1000) :
    Calls Try.prog 21 #[.pointer (some ⟨T, 0, none⟩), .int .i64 id, .int .i64 now] w fun e w' => e = .returned (whoV (thI ss id now)) ∧ Below w.heap.size w w' := by
  have HT : Hid (RTb w T base last sv ss) := h
  have HFI : Hid (∀ W, RTb W T base last sv ss → Calls Try.prog 41 #[.pointer (some ⟨T, 0, none⟩), .int .i64 id] W fun e w' => e = .returned (.int .i64 (ixI ss id)) ∧ w' = W) := fun W hW => rfind_any T base last sv ss id W hW hl
  clear h
  go_enter Try.func21, Try.ntmps21
  go_wp2_with fail
  obtain ⟨W, hW⟩ : ∃ W, w.alloc (Obj.cells #[Value.string { data := #[] }, Value.string { data := #[] }, Value.bool false] 23) = W := ⟨_, rfl⟩
  have HR2 : Hid (RS w W) := by rw [← hW]; exact RS.start w
  have HTW : Hid (RTb W T base last sv ss) := HT.out.later HR2.out.bel (Nat.le_refl _)
  rw [hW]
  clear hW
  refine (HFI.out _ HTW.out).mono ?_
  rintro e w2 ⟨rfl, hw2⟩
  rw [hw2]
  clear hw2 HFI
  have z0 : W.cell? ⟨w.heap.size, 0, none⟩ = some (.string (tx [])) := by rw [cell_of_row _ _ _ _ _ _ HR2.out.res]; rfl
  have z1 : W.cell? ⟨w.heap.size, 1, none⟩ = some (.string (tx [])) := by rw [cell_of_row _ _ _ _ _ _ HR2.out.res]; rfl
  have z2 : W.cell? ⟨w.heap.size, 2, none⟩ = some (.bool false) := by rw [cell_of_row _ _ _ _ _ _ HR2.out.res]; rfl
  have f0 : W.frozen? ⟨w.heap.size, 0, none⟩ = false := frozen_of_row _ _ 0 _ _ HR2.out.res
  have f1 : W.frozen? ⟨w.heap.size, 1, none⟩ = false := frozen_of_row _ _ 1 _ _ HR2.out.res
  have f2 : W.frozen? ⟨w.heap.size, 2, none⟩ = false := frozen_of_row _ _ 2 _ _ HR2.out.res
  cases hx : ix ss id with
  | none =>
    have e1 : ixI ss id = -1 := by unfold ixI; rw [hx]
    have HO : Hid (thI ss id now = none) := by show _ = _; unfold thI; rw [hx]
    rw [e1]
    clear hx e1
    go_wp2_with fail
    refine bodyPost_ret (v := whoV none) (results_two Try.results21 _ _ w.heap.size (idV [] [] false) _ rfl rfl (load23 (HR2.out.ans [] [] false).1 rfl)) rfl ⟨by rw [HO.out], (HR2.out.ans [] [] false).2⟩
  | some k =>
    obtain ⟨s, hs, hid⟩ := ix_some ss id k hx
    clear hid
    have e1 : ixI ss id = (k : Int) := by unfold ixI; rw [hx]
    have e2 : thI ss id now = if s.til ≤ now then none else some s := by unfold thI; rw [hx]; simp only; rw [hs]
    have hk : k < ss.length := (List.getElem?_eq_some_iff.1 hs).1
    obtain ⟨g, c, e⟩ := own_form HTW.out.row (by omega)
    subst e
    obtain ⟨c0, c1, c2, c3, c4⟩ := rown_sc HTW.out.row hs
    have d1 : W.cell? ⟨T, 0, none⟩ = some (.slice (some ⟨g, 0, none⟩) ss.length c) := by rw [cell_of_row _ _ _ _ _ _ HTW.out.tab]; rfl
    have hk' : (k : Int) < (ss.length : Int) := by omega
    have hcap : (ss.length : Int) ≤ (c : Int) := by have := own_cap HTW.out.row; omega
    have hl' : (ss.length : Int) ≤ 1000 := by omega
    rw [e1]
    by_cases ct : s.til ≤ now
    · have HO : Hid (thI ss id now = none) := by show _ = _; rw [e2, if_pos ct]
      clear hx e1 e2 hs hk
      go_wp2_with fail
      refine bodyPost_ret (v := whoV none) (results_two Try.results21 _ _ w.heap.size (idV [] [] false) _ rfl rfl (load23 (HR2.out.ans [] [] false).1 rfl)) rfl ⟨by rw [HO.out], (HR2.out.ans [] [] false).2⟩
    · have HO : Hid (thI ss id now = some s) := by show _ = _; rw [e2, if_neg ct]
      have ct' : now < s.til := by omega
      clear hx e1 e2 hs hk ct
      go_wp2_with fail
      refine bodyPost_ret (v := whoV (some s)) (results_two Try.results21 _ _ w.heap.size (idV s.t s.u s.a) _ rfl rfl (load23 (HR2.out.ans s.t s.u s.a).1 rfl)) rfl ⟨by rw [HO.out], (HR2.out.ans s.t s.u s.a).2⟩
end Go.Proofs.Ytnghgclogeefgaa
