/- Tables: sessions as they lie; the leaves. -/
import Derived.Test.YtnghgclogeefgaaR2
import Derived.Laws.AppendOwnNone
import Derived.Laws.IdiomStrings
import Derived.Deep.MidRow
import Derived.Deep.AppendLies
import Derived.Deep.RegionLaw
import Derived.BigRegion
namespace Go.Proofs.Ytnghgclogeefgaa
open Go.RowKit
set_option linter.unusedVariables false
set_option linter.unusedSimpArgs false

/-- A session. -/
structure Se where
  num : Int
  t : List UInt8
  u : List UInt8
  a : Bool
  til : Int
def se5 (s : Se) : List Value := [.int .i64 s.num, .string (tx s.t), .string (tx s.u), .bool s.a, .int .i64 s.til]
def seL : List Se → List Value
  | [] => []
  | p :: r => se5 p ++ seL r
theorem seL_len : ∀ ps, (seL ps).length = ps.length * 5
  | [] => rfl
  | p :: r => by simp [seL, se5, seL_len r]; omega
theorem seL_app : ∀ a b, seL (a ++ b) = seL a ++ seL b
  | [], b => rfl
  | p :: r, b => by simp [seL, seL_app r b]
theorem seL_at : ∀ (ps : List Se) (i : Nat) (p : Se) (r : Nat), ps[i]? = some p → r < 5 → (seL ps)[i * 5 + r]? = (se5 p)[r]?
  | [], i, p, r, h, _ => by simp at h
  | q :: l, 0, p, r, h, hr => by
    simp at h
    rw [← h]
    show (se5 q ++ seL l)[0 * 5 + r]? = _
    rw [List.getElem?_append_left (by simp [se5]; omega)]
    simp
  | q :: l, i + 1, p, r, h, hr => by
    simp at h
    show (se5 q ++ seL l)[(i + 1) * 5 + r]? = _
    rw [List.getElem?_append_right (by simp [se5]; omega), show (i + 1) * 5 + r - (se5 q).length = i * 5 + r by simp [se5]; omega]
    exact seL_at l i p r h hr
theorem se5_one (p : Se) : ∀ u ∈ se5 p, u.oneCell' = true := by
  intro u hu
  simp only [se5, List.mem_cons, List.mem_nil_iff, or_false] at hu
  rcases hu with rfl | rfl | rfl | rfl | rfl <;> rfl
/-- Where the first session of a number stands. -/
def ix : List Se → Int → Option Nat
  | [], _ => none
  | p :: r, id => if p.num = id then some 0 else (ix r id).map (· + 1)
theorem ix_hit : ∀ (ss : List Se) (id : Int) (k : Nat) (s : Se), (∀ (j : Nat) (q : Se), j < k → ss[j]? = some q → q.num ≠ id) → ss[k]? = some s → s.num = id → ix ss id = some k
  | [], id, k, s, _, h, _ => by simp at h
  | p :: r, id, 0, s, _, h, e => by
    simp at h
    subst h
    simp [ix, e]
  | p :: r, id, k + 1, s, h1, h, e => by
    have h0 := h1 0 p (by omega) rfl
    have := ix_hit r id k s (fun j q hj hq => h1 (j + 1) q (by omega) (by simpa using hq)) (by simpa using h) e
    simp [ix, h0, this]
theorem ix_miss : ∀ (ss : List Se) (id : Int), (∀ (j : Nat) (q : Se), ss[j]? = some q → q.num ≠ id) → ix ss id = none
  | [], id, _ => rfl
  | p :: r, id, h => by
    have h0 := h 0 p rfl
    have := ix_miss r id (fun j q hq => h (j + 1) q (by simpa using hq))
    simp [ix, h0, this]
theorem ix_some : ∀ (ss : List Se) (id : Int) (k : Nat), ix ss id = some k → ∃ s, ss[k]? = some s ∧ s.num = id
  | [], id, k, h => by simp [ix] at h
  | p :: r, id, k, h => by
    simp only [ix] at h
    split at h
    · rename_i e
      have : 0 = k := by simpa using h
      subst this
      exact ⟨p, rfl, e⟩
    · cases hr : ix r id with
      | none => rw [hr] at h; simp at h
      | some j =>
        rw [hr] at h
        have : j + 1 = k := by simpa using h
        subst this
        obtain ⟨s, h1, h2⟩ := ix_some r id j hr
        exact ⟨s, by simpa using h1, h2⟩
/-- The cells of a session in a row. -/
structure SC (W : World) (g i : Nat) (s : Se) : Prop where
  c0 : W.cell? ⟨g, i * 5, none⟩ = some (.int .i64 s.num)
  c1 : W.cell? ⟨g, i * 5 + 1, none⟩ = some (.string (tx s.t))
  c2 : W.cell? ⟨g, i * 5 + 2, none⟩ = some (.string (tx s.u))
  c3 : W.cell? ⟨g, i * 5 + 3, none⟩ = some (.bool s.a)
  c4 : W.cell? ⟨g, i * 5 + 4, none⟩ = some (.int .i64 s.til)
theorem own_sc {W : World} {base g cap i : Nat} {ss : List Se} {s : Se} (h : W.ownsRow base 68 5 (.slice (some ⟨g, 0, none⟩) ss.length cap) ss.length (seL ss)) (hi : ss[i]? = some s) : SC W g i s := by
  have hlt := (List.getElem?_eq_some_iff.1 hi).1
  have hc : ∀ r, r < 5 → W.cell? ⟨g, i * 5 + r, none⟩ = (se5 s)[r]? := fun r hr => by
    rw [h.cellAt (i * 5 + r) (show i * 5 + r < ss.length * 5 by omega), seL_at ss i s r hi hr]
  exact ⟨by simpa [se5] using hc 0 (by omega), by simpa [se5] using hc 1 (by omega), by simpa [se5] using hc 2 (by omega), by simpa [se5] using hc 3 (by omega), by simpa [se5] using hc 4 (by omega)⟩
theorem SC.later {W W' : World} {g i : Nat} {s : Se} {B : Nat} (h : SC W g i s) (hb : Below B W W') (hg : g < B) : SC W' g i s :=
  ⟨(hb.cell (p := ⟨g, i * 5, none⟩) hg).trans h.c0, (hb.cell (p := ⟨g, i * 5 + 1, none⟩) hg).trans h.c1, (hb.cell (p := ⟨g, i * 5 + 2, none⟩) hg).trans h.c2, (hb.cell (p := ⟨g, i * 5 + 3, none⟩) hg).trans h.c3, (hb.cell (p := ⟨g, i * 5 + 4, none⟩) hg).trans h.c4⟩
theorem own_form {w : World} {base size n : Nat} {e : TypeId} {v : Value} {xs : List Value} (h : w.ownsRow base e size v n xs) (hn : 0 < n) : ∃ g cap, v = .slice (some ⟨g, 0, none⟩) n cap := by
  rcases h.2 with ⟨_, h'⟩ | ⟨g, cp, cur, hv, _⟩
  · omega
  · exact ⟨g, cp, hv⟩
theorem own_slice {w : World} {base size n : Nat} {e : TypeId} {v : Value} {xs : List Value} (h : w.ownsRow base e size v n xs) : ∃ a cap, v = .slice a n cap := by
  rcases h.2 with ⟨h, h'⟩ | ⟨g, cp, cur, hv, _⟩
  · exact ⟨_, _, by rw [h, h']⟩
  · exact ⟨_, cp, hv⟩
theorem own_cap {w : World} {base size n n' g cap : Nat} {e : TypeId} {xs : List Value} (h : w.ownsRow base e size (.slice (some ⟨g, 0, none⟩) n' cap) n xs) : n ≤ cap := by
  rcases h.2 with ⟨h', _⟩ | ⟨g', cp', cur, hv, _, _, h3, _⟩
  · cases h'
  · cases hv; exact h3
theorem own_at {w w' : World} {base size n : Nat} {e : TypeId} {v : Value} {xs : List Value} (h : w.ownsRow base e size v n xs) (hk : ∀ q, v.ownBlock = some q → w'.heap[q]? = w.heap[q]?) : w'.ownsRow base e size v n xs :=
  ⟨h.1, h.2.imp id fun ⟨g, cap, cur, hv, hg, hc, r⟩ => ⟨g, cap, cur, hv, hg, (hk g (by rw [hv]; rfl)).trans hc, r⟩⟩
theorem own_lt {w : World} {base size n g cap n' : Nat} {e : TypeId} {xs : List Value} (h : w.ownsRow base e size (.slice (some ⟨g, 0, none⟩) n' cap) n xs) : base ≤ g ∧ g < w.heap.size := h.lt g rfl
theorem bel1 (w : World) (o : Obj) : Below w.heap.size w (w.alloc o) := (Below.refl _ w).alloc (Nat.le_refl _) _

def maxT : Int := 1125899906842624
def rsI (now span : Int) : Bool := decide (0 ≤ now ∧ now ≤ 1125899906842624 ∧ 1 ≤ span ∧ span ≤ 1125899906842624)
def endI (now span : Int) : Int := if now + span ≤ 1125899906842624 then now + span else 1125899906842624
theorem rspan_any (now span : Int) (w : World) : Calls Try.prog 36 #[.int .i64 now, .int .i64 span] w fun e w' => e = .returned (.bool (rsI now span)) ∧ w' = w := by
  by_cases h1 : 0 ≤ now
  · by_cases h2 : now ≤ 1125899906842624
    · by_cases h3 : 1 ≤ span
      · have e : rsI now span = decide (span ≤ 1125899906842624) := by unfold rsI; simp [h1, h2, h3]
        rw [e]
        go_enter Try.func36, Try.ntmps36
        go_wp2
        go_ret
        exact ⟨rfl, rfl⟩
      · have e : rsI now span = false := by unfold rsI; simp [h3]
        rw [e]
        go_enter Try.func36, Try.ntmps36
        go_wp2
        go_ret
        exact ⟨rfl, rfl⟩
    · have e : rsI now span = false := by unfold rsI; simp [h2]
      rw [e]
      go_enter Try.func36, Try.ntmps36
      go_wp2
      go_ret
      exact ⟨rfl, rfl⟩
  · have e : rsI now span = false := by unfold rsI; simp [h1]
    rw [e]
    go_enter Try.func36, Try.ntmps36
    go_wp2
    go_ret
    exact ⟨rfl, rfl⟩
theorem end_any (now span : Int) (w : World) (h : rsI now span = true) : Calls Try.prog 37 #[.int .i64 now, .int .i64 span] w fun e w' => e = .returned (.int .i64 (endI now span)) ∧ w' = w := by
  have h' := of_decide_eq_true h
  obtain ⟨h1, h2, h3, h4⟩ := h'
  clear h
  have b0 : 0 ≤ now + span := by omega
  have b1 : now + span ≤ 2251799813685248 := by omega
  by_cases c : now + span ≤ 1125899906842624
  · have e : endI now span = now + span := by unfold endI; rw [if_pos c]
    rw [e]
    go_enter Try.func37, Try.ntmps37
    go_wp2
    go_ret
    exact ⟨rfl, rfl⟩
  · have e : endI now span = 1125899906842624 := by unfold endI; rw [if_neg c]
    rw [e]
    go_enter Try.func37, Try.ntmps37
    go_wp2
    go_ret
    exact ⟨rfl, rfl⟩
theorem over_any (s : Se) (now : Int) (w : World) : Calls Try.prog 46 #[.agg (se5 s).toArray, .int .i64 now] w fun e w' => e = .returned (.bool (decide (s.til ≤ now))) ∧ Below w.heap.size w w' := by
  obtain ⟨x1, x2, x3, x4, x5⟩ := s
  simp only [se5]
  go_enter Try.func46, Try.ntmps46
  go_wp2
  refine bodyPost_ret (results_tmp Try.results46 _ _ _) rfl ?_
  exact ⟨rfl, bel1 _ _⟩
theorem isit_any (s : Se) (q : Nat) (id : Int) (w : World) (hq : w.cell? ⟨q, 0, none⟩ = some (.int .i64 id)) : Calls Try.prog 50 #[.agg (se5 s).toArray, .pointer (some ⟨q, 0, none⟩)] w fun e w' => e = .returned (.bool (s.num == id)) ∧ Below w.heap.size w w' := by
  obtain ⟨x1, x2, x3, x4, x5⟩ := s
  simp only [se5]
  have hq2 : ∀ o, (w.alloc o).cell? ⟨q, 0, none⟩ = some (.int .i64 id) := fun o => ((bel1 w o).cell (p := ⟨q, 0, none⟩) (World.block_lt_of_cell? w _ hq)).trans hq
  go_enter Try.func50, Try.ntmps50
  go_wp2
  go_ret
  exact ⟨rfl, bel1 _ _⟩
/-- The first session of a number, by its place; -1: there is none. -/
def ixI (ss : List Se) (id : Int) : Int := match ix ss id with | some k => (k : Int) | none => -1
set_option maxRecDepth 20000 in
set_option maxHeartbeats 4000000 in
theorem index_any (base : Nat) (sv : Value) (ss : List Se) (q : Nat) (id : Int) (w : World) (ho : w.ownsRow base 68 5 sv ss.length (seL ss)) (hl : ss.length ≤ 1000) (hq : w.cell? ⟨q, 0, none⟩ = some (.int .i64 id)) :
    Calls Try.prog 49 #[sv, .func (.func 50) #[] #[.pointer (some ⟨q, 0, none⟩)]] w fun e w' => e = .returned (.int .i64 (ixI ss id)) ∧ Below w.heap.size w w' := by
  obtain ⟨sa, cap, rfl⟩ := own_slice ho
  have HO : Hid (w.ownsRow base 68 5 (.slice sa ss.length cap) ss.length (seL ss)) := ho
  have HQ : Hid (w.cell? ⟨q, 0, none⟩ = some (.int .i64 id)) := hq
  obtain ⟨n, hn⟩ : ∃ n, ss.length = n := ⟨_, rfl⟩
  have HN : Hid (ss.length = n) := hn
  rw [hn] at hl ⊢
  have hl' : (n : Int) ≤ 1000 := by omega
  clear ho hq hn hl
  go_enter Try.func49, Try.ntmps49
  go_wp2_with fail
  go_loopw [5, 8] (fun x v wr => ∃ k : Nat, k ≤ n ∧ v = .int .i64 k ∧ (∀ (j : Nat) (p : Se), j < k → ss[j]? = some p → p.num ≠ id) ∧ Below w.heap.size w wr) (fun x v wr => n - (intOf v).toNat)
  case atStart => exact ⟨0, by omega, rfl, fun j p hj => (Nat.not_lt_zero _ hj).elim, Below.refl _ _⟩
  case round =>
    obtain ⟨k, hk, rfl, hD, hbel⟩ := hrel
    have HD : Hid (∀ (j : Nat) (p : Se), j < k → ss[j]? = some p → p.num ≠ id) := hD
    have HB : Hid (Below w.heap.size w wr) := hbel
    clear hD hbel
    by_cases hlt : k < n
    · have hlt' : (k : Int) < (n : Int) := by omega
      obtain ⟨s, hs⟩ : ∃ s, ss[k]? = some s := ⟨_, List.getElem?_eq_getElem (by have := HN.out; omega)⟩
      have HS : Hid (ss[k]? = some s) := hs
      obtain ⟨g, cp, hv⟩ := own_form HO.out (by have := HN.out; omega)
      have hsa : sa = some ⟨g, 0, none⟩ := (Value.slice.inj hv).1
      subst hsa
      obtain ⟨c0, c1, c2, c3, c4⟩ := (own_sc HO.out hs).later HB.out (own_lt HO.out).2
      have hcap : (n : Int) ≤ (cap : Int) := by have := own_cap HO.out; have := HN.out; omega
      have HQW : Hid (wr.cell? ⟨q, 0, none⟩ = some (.int .i64 id)) := (HB.out.cell (p := ⟨q, 0, none⟩) (World.block_lt_of_cell? w _ HQ.out)).trans HQ.out
      have HIS : Hid (Calls Try.prog 50 #[.agg (se5 s).toArray, .pointer (some ⟨q, 0, none⟩)] wr fun e w' => e = .returned (.bool (s.num == id)) ∧ Below wr.heap.size wr w') := isit_any s q id wr HQW.out
      clear hs hv
      cases hq : (s.num == id) with
      | true =>
        have HE : Hid (ixI ss id = (k : Int)) := by
          show _ = _
          unfold ixI
          rw [ix_hit ss id k s HD.out HS.out (by simpa using hq)]
        rw [hq] at HIS
        clear hq
        go_wp2_with (go_at_call 50; refine HIS.out.mono ?_; rintro e w2 ⟨rfl, hb2⟩)
        go_ret
        exact ⟨by rw [HE.out]; rfl, HB.out.trans (hb2.mono HB.out.size)⟩
      | false =>
        have HN2 : Hid (∀ (j : Nat) (p : Se), j < k + 1 → ss[j]? = some p → p.num ≠ id) := by
          intro j p hj hp
          rcases (show j = k ∨ j < k from by omega) with rfl | h
          · rw [HS.out] at hp
            rw [← Option.some.inj hp]
            simpa using hq
          · exact HD.out j p h hp
        rw [hq] at HIS
        clear hq
        go_wp2_with (go_at_call 50; refine HIS.out.mono ?_; rintro e w2 ⟨rfl, hb2⟩)
        go_roundw
        case rel => exact ⟨k + 1, by omega, by go_num, HN2.out, HB.out.trans (hb2.mono HB.out.size)⟩
        case measure => simp [intOf]; omega
    · have hge : ¬ ((k : Int) < (n : Int)) := by omega
      have HE : Hid (ixI ss id = -1) := by
        show _ = _
        unfold ixI
        rw [ix_miss ss id (fun j p hp => HD.out j p (by have := (List.getElem?_eq_some_iff.1 hp).1; have := HN.out; omega) hp)]
      clear hlt
      go_wp2_with fail
      go_ret
      exact ⟨by rw [HE.out]; rfl, HB.out⟩
end Go.Proofs.Ytnghgclogeefgaa
