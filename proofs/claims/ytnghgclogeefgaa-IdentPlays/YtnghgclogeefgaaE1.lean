/- Sessions whose time is over, looked for. -/
import Derived.Test.YtnghgclogeefgaaX3
import Derived.Test.YtnghgclogeefgaaRN
namespace Go.Proofs.Ytnghgclogeefgaa
open Go.RowKit
set_option linter.unusedVariables false
set_option linter.unusedSimpArgs false

/-- The sessions whose time is not over. -/
def exI (ss : List Se) (now : Int) : List Se := ss.filter fun s => !decide (s.til ≤ now)
theorem isover_any (s : Se) (q : Nat) (now : Int) (w : World) (hq : w.cell? ⟨q, 0, none⟩ = some (.int .i64 now)) : Calls Try.prog 45 #[.agg #[.int .i64 s.num, .string (tx s.t), .string (tx s.u), .bool s.a, .int .i64 s.til], .pointer (some ⟨q, 0, none⟩)] w fun e w' => e = .returned (.bool (decide (s.til ≤ now))) ∧ Below w.heap.size w w' := by
  have hq2 : ∀ o, (w.alloc o).cell? ⟨q, 0, none⟩ = some (.int .i64 now) := fun o => ((bel1 w o).cell (p := ⟨q, 0, none⟩) (World.block_lt_of_cell? w _ hq)).trans hq
  have HOV : Hid (∀ W, Calls Try.prog 46 #[.agg #[.int .i64 s.num, .string (tx s.t), .string (tx s.u), .bool s.a, .int .i64 s.til], .int .i64 now] W fun e w' => e = .returned (.bool (decide (s.til ≤ now))) ∧ Below W.heap.size W w') := fun W => over_any s now W
  go_enter Try.func45, Try.ntmps45
  go_wp2_with (go_at_call 46; refine (HOV.out _).mono ?_; rintro e w2 ⟨rfl, hb2⟩)
  go_ret
  exact ⟨rfl, (bel1 _ _).trans (hb2.mono (by simp))⟩
/-- The first session whose time is over. -/
def fx : List Se → Int → Option Nat
  | [], _ => none
  | p :: r, now => if p.til ≤ now then some 0 else (fx r now).map (· + 1)
theorem fx_hit : ∀ (ss : List Se) (now : Int) (k : Nat) (s : Se), (∀ (j : Nat) (q : Se), j < k → ss[j]? = some q → ¬ q.til ≤ now) → ss[k]? = some s → s.til ≤ now → fx ss now = some k
  | [], now, k, s, _, h, _ => by simp at h
  | p :: r, now, 0, s, _, h, e => by
    simp at h
    subst h
    simp [fx, e]
  | p :: r, now, k + 1, s, h1, h, e => by
    have h0 := h1 0 p (by omega) rfl
    have := fx_hit r now k s (fun j q hj hq => h1 (j + 1) q (by omega) (by simpa using hq)) (by simpa using h) e
    simp [fx, h0, this]
theorem fx_miss : ∀ (ss : List Se) (now : Int), (∀ (j : Nat) (q : Se), ss[j]? = some q → ¬ q.til ≤ now) → fx ss now = none
  | [], now, _ => rfl
  | p :: r, now, h => by
    have h0 := h 0 p rfl
    have := fx_miss r now (fun j q hq => h (j + 1) q (by simpa using hq))
    simp [fx, h0, this]
theorem fx_some : ∀ (ss : List Se) (now : Int) (k : Nat), fx ss now = some k → k < ss.length ∧ exI (ss.take k) now = ss.take k ∧ exI (ss.take (k + 1)) now = ss.take k
  | [], now, k, h => by simp [fx] at h
  | p :: r, now, k, h => by
    simp only [fx] at h
    split at h
    · rename_i e
      have : 0 = k := by simpa using h
      subst this
      exact ⟨by simp, by simp [exI], by simp [exI, e]⟩
    · rename_i e
      cases hr : fx r now with
      | none => rw [hr] at h; simp at h
      | some j =>
        rw [hr] at h
        have : j + 1 = k := by simpa using h
        subst this
        obtain ⟨h1, h2, h3⟩ := fx_some r now j hr
        unfold exI at h2 h3 ⊢
        have e' : (!decide (p.til ≤ now)) = true := by simp [e]
        refine ⟨by simpa using h1, ?_, ?_⟩
        · rw [List.take_succ_cons, List.filter_cons, if_pos e', h2]
        · rw [List.take_succ_cons, List.filter_cons, if_pos e', h3, List.take_succ_cons]
theorem fx_none : ∀ (ss : List Se) (now : Int), fx ss now = none → exI ss now = ss
  | [], now, _ => rfl
  | p :: r, now, h => by
    simp only [fx] at h
    split at h
    · cases h
    · rename_i e
      cases hr : fx r now with
      | none =>
        have ih := fx_none r now hr
        unfold exI at ih ⊢
        rw [List.filter_cons, if_pos (by simp [e]), ih]
      | some j => rw [hr] at h; simp at h
def fxI (ss : List Se) (now : Int) : Int := match fx ss now with | some k => (k : Int) | none => -1
set_option maxRecDepth 20000 in
set_option maxHeartbeats 4000000 in
theorem indexo_any (base : Nat) (sv : Value) (ss : List Se) (q : Nat) (now : Int) (w : World) (ho : w.ownsRow base 68 5 sv ss.length (seL ss)) (hl : ss.length ≤ 1000) (hq : w.cell? ⟨q, 0, none⟩ = some (.int .i64 now)) :
    Calls Try.prog 49 #[sv, .func (.func 45) #[] #[.pointer (some ⟨q, 0, none⟩)]] w fun e w' => e = .returned (.int .i64 (fxI ss now)) ∧ Below w.heap.size w w' := by
  obtain ⟨sa, cap, rfl⟩ := own_slice ho
  have HO : Hid (w.ownsRow base 68 5 (.slice sa ss.length cap) ss.length (seL ss)) := ho
  have HQ : Hid (w.cell? ⟨q, 0, none⟩ = some (.int .i64 now)) := hq
  obtain ⟨n, hn⟩ : ∃ n, ss.length = n := ⟨_, rfl⟩
  have HN : Hid (ss.length = n) := hn
  rw [hn] at hl ⊢
  have hl' : (n : Int) ≤ 1000 := by omega
  clear ho hq hn hl
  go_enter Try.func49, Try.ntmps49
  go_wp2_with fail
  go_loopw [5, 8] (fun x v wr => ∃ k : Nat, k ≤ n ∧ v = .int .i64 k ∧ (∀ (j : Nat) (p : Se), j < k → ss[j]? = some p → ¬ p.til ≤ now) ∧ Below w.heap.size w wr) (fun x v wr => n - (intOf v).toNat)
  case atStart => exact ⟨0, by omega, rfl, fun j p hj => (Nat.not_lt_zero _ hj).elim, Below.refl _ _⟩
  case round =>
    obtain ⟨k, hk, rfl, hD, hbel⟩ := hrel
    have HD : Hid (∀ (j : Nat) (p : Se), j < k → ss[j]? = some p → ¬ p.til ≤ now) := hD
    have HB : Hid (Below w.heap.size w wr) := hbel
    clear hD hbel
    by_cases hlt : k < n
    · have hlt' : (k : Int) < (n : Int) := by omega
      obtain ⟨s, hs⟩ : ∃ s, ss[k]? = some s := ⟨_, List.getElem?_eq_getElem (by have := HN.out; omega)⟩
      have HS : Hid (ss[k]? = some s) := hs
      obtain ⟨g, cp, hv⟩ := own_form HO.out (by have := HN.out; omega)
      have hsa : sa = some ⟨g, 0, none⟩ := (Value.slice.inj hv).1
      subst hsa
      obtain ⟨c0, c1, c2, c3, c4⟩ := (own_sc HO.out hs).later HB.out (own_lt HO.out).2
      have hcap : (n : Int) ≤ (cap : Int) := by have := own_cap HO.out; have := HN.out; omega
      have HQW : Hid (wr.cell? ⟨q, 0, none⟩ = some (.int .i64 now)) := (HB.out.cell (p := ⟨q, 0, none⟩) (World.block_lt_of_cell? w _ HQ.out)).trans HQ.out
      have HIS : Hid (Calls Try.prog 45 #[.agg #[.int .i64 s.num, .string (tx s.t), .string (tx s.u), .bool s.a, .int .i64 s.til], .pointer (some ⟨q, 0, none⟩)] wr fun e w' => e = .returned (.bool (decide (s.til ≤ now))) ∧ Below wr.heap.size wr w') := isover_any s q now wr HQW.out
      clear hs hv
      by_cases hq : s.til ≤ now
      · have HE : Hid (fxI ss now = (k : Int)) := by
          show _ = _
          unfold fxI
          rw [fx_hit ss now k s HD.out HS.out hq]
        rw [decide_eq_true hq] at HIS
        clear hq
        go_wp2_with (go_at_call 45; refine HIS.out.mono ?_; rintro e w2 ⟨rfl, hb2⟩)
        go_ret
        exact ⟨by rw [HE.out]; rfl, HB.out.trans (hb2.mono HB.out.size)⟩
      · have HN2 : Hid (∀ (j : Nat) (p : Se), j < k + 1 → ss[j]? = some p → ¬ p.til ≤ now) := by
          intro j p hj hp
          rcases (show j = k ∨ j < k from by omega) with rfl | h
          · rw [HS.out] at hp
            rw [← Option.some.inj hp]
            exact hq
          · exact HD.out j p h hp
        rw [decide_eq_false hq] at HIS
        clear hq
        go_wp2_with (go_at_call 45; refine HIS.out.mono ?_; rintro e w2 ⟨rfl, hb2⟩)
        go_roundw
        case rel => exact ⟨k + 1, by omega, by go_num, fun j p hj hp => by have := HN2.out j p hj hp; omega, HB.out.trans (hb2.mono HB.out.size)⟩
        case measure => simp [intOf]; omega
    · have hge : ¬ ((k : Int) < (n : Int)) := by omega
      have HE : Hid (fxI ss now = -1) := by
        show _ = _
        unfold fxI
        rw [fx_miss ss now (fun j p hp => HD.out j p (by have := (List.getElem?_eq_some_iff.1 hp).1; have := HN.out; omega) hp)]
      clear hlt
      go_wp2_with fail
      go_ret
      exact ⟨by rw [HE.out]; rfl, HB.out⟩
end Go.Proofs.Ytnghgclogeefgaa
