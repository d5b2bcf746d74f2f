/- The model's buckets: times, a tenant is looked for, a bucket is filled. -/
import Derived.Test.YtpobfcmbbabchaaP0
import Derived.Test.YtpobfcmbbabchaaProg
namespace Go.Proofs.Ytpobfcmbbabchaa
open Go.RowKit
set_option linter.unusedVariables false
set_option linter.unusedSimpArgs false

def timI (n : Int) : Bool := decide (0 ≤ n ∧ n ≤ 1125899906842624)
theorem rtime_any (n : Int) (w : World) : Calls Try.prog 43 #[.int .i64 n] w fun e w' => e = .returned (.bool (timI n)) ∧ w' = w := by
  by_cases h1 : 0 ≤ n
  · by_cases h2 : n ≤ 1125899906842624
    · have e : timI n = true := by unfold timI; simp [h1, h2]
      rw [e]
      go_enter Try.func43, Try.ntmps43
      go_wp2
      go_ret
      exact ⟨rfl, rfl⟩
    · have e : timI n = false := by unfold timI; simp [h2]
      have h2' : ¬ n ≤ 1125899906842624 := h2
      rw [e]
      go_enter Try.func43, Try.ntmps43
      go_wp2
      go_ret
      exact ⟨rfl, rfl⟩
  · have e : timI n = false := by unfold timI; simp [h1]
    have h1' : n < 0 := by omega
    rw [e]
    go_enter Try.func43, Try.ntmps43
    go_wp2
    go_ret
    exact ⟨rfl, rfl⟩
/-- The model's table as it lies. -/
structure RT (w : World) (T base : Nat) (sv : Value) (l : List Bk) : Prop where
  tab : w.heap[T]? = some (.cells #[sv] 39 (0, 0))
  row : w.ownsRow base 78 9 sv l.length (fl bk9 l)
  low : base ≤ T
theorem RT.later {w w' : World} {T base : Nat} {sv : Value} {l : List Bk} {B : Nat} (h : RT w T base sv l) (hb : Below B w w') (hB : w.heap.size ≤ B) : RT w' T base sv l := by
  have hlt := (Array.getElem?_eq_some_iff.1 h.tab).1
  exact ⟨(hb.block T (by omega)).trans h.tab, own_at h.row fun q hq => hb.block q (by have := (h.row.lt q hq).2; omega), h.low⟩
/-- The types of the model's own blocks. -/
def badR (t : TypeId) : Bool := t == 39 || t == 78
theorem RT.kept {bad : TypeId → Bool} {w w' : World} {T base : Nat} {sv : Value} {l : List Bk} (h : RT w T base sv l) (hk : Kx bad w w') (h1 : bad 39 = false) (h2 : bad 78 = false) : RT w' T base sv l :=
  ⟨hk.row h.tab h1, hk.own h.row h2, h.low⟩
/-- The cells of a bucket in a row. -/
structure BC (W : World) (g i : Nat) (b : Bk) : Prop where
  c0 : W.cell? ⟨g, i * 9, none⟩ = some (.string (tx b.nm))
  c1 : W.cell? ⟨g, i * 9 + 1, none⟩ = some (.int .i64 b.rate)
  c2 : W.cell? ⟨g, i * 9 + 2, none⟩ = some (.int .i64 b.burst)
  c3 : W.cell? ⟨g, i * 9 + 3, none⟩ = some (.int .i64 b.has)
  c4 : W.cell? ⟨g, i * 9 + 4, none⟩ = some (.int .i64 b.part)
  c5 : W.cell? ⟨g, i * 9 + 5, none⟩ = some (.int .i64 b.tim)
  c6 : W.cell? ⟨g, i * 9 + 6, none⟩ = some (.int .i64 b.tk)
  c7 : W.cell? ⟨g, i * 9 + 7, none⟩ = some (.int .i64 b.rf)
  c8 : W.cell? ⟨g, i * 9 + 8, none⟩ = some (.int .i64 b.cs)
theorem own_bc {W : World} {base g cap i : Nat} {l : List Bk} {b : Bk} (h : W.ownsRow base 78 9 (.slice (some ⟨g, 0, none⟩) l.length cap) l.length (fl bk9 l)) (hi : l[i]? = some b) : BC W g i b := by
  have hlt := (List.getElem?_eq_some_iff.1 hi).1
  have hc : ∀ r, r < 9 → W.cell? ⟨g, i * 9 + r, none⟩ = (bk9 b)[r]? := fun r hr => by
    rw [h.cellAt (i * 9 + r) (show i * 9 + r < l.length * 9 by omega), fl_at bk9_len l i b r hi hr]
  exact ⟨by simpa [bk9] using hc 0 (by omega), by simpa [bk9] using hc 1 (by omega), by simpa [bk9] using hc 2 (by omega), by simpa [bk9] using hc 3 (by omega), by simpa [bk9] using hc 4 (by omega), by simpa [bk9] using hc 5 (by omega), by simpa [bk9] using hc 6 (by omega), by simpa [bk9] using hc 7 (by omega), by simpa [bk9] using hc 8 (by omega)⟩
set_option maxRecDepth 20000 in
set_option maxHeartbeats 4000000 in
theorem rfind_any (T base : Nat) (sv : Value) (l : List Bk) (nm : List UInt8) (w : World) (h : RT w T base sv l) (hl : l.length ≤ 16) :
    Calls Try.prog 44 #[.pointer (some ⟨T, 0, none⟩), .string (tx nm)] w fun e w' => e = .returned (.int .i64 (ixBI l nm)) ∧ w' = w := by
  obtain ⟨sa, cap, hsv⟩ := own_slice h.row
  have HT : Hid (RT w T base sv l) := h
  subst hsv
  have c0 : w.cell? ⟨T, 0, none⟩ = some (.slice sa l.length cap) := by rw [cell_of_row _ _ _ _ _ _ h.tab]; rfl
  obtain ⟨n, hn⟩ : ∃ n, l.length = n := ⟨_, rfl⟩
  have HN : Hid (l.length = n) := hn
  rw [hn] at c0 hl
  have hl' : (n : Int) ≤ 16 := by omega
  clear h hn hl
  go_enter Try.func44, Try.ntmps44
  go_wp2_with fail
  go_loopw [5] (fun v wr => wr = w ∧ ∃ k : Nat, k ≤ n ∧ v = .int .i64 k ∧ (∀ (j : Nat) (p : Bk), j < k → l[j]? = some p → p.nm ≠ nm)) (fun v wr => n - (intOf v).toNat)
  case atStart => exact ⟨rfl, 0, by omega, rfl, fun j p hj => (Nat.not_lt_zero _ hj).elim⟩
  case round =>
    obtain ⟨rfl, k, hk, rfl, hD⟩ := hrel
    have HD : Hid (∀ (j : Nat) (p : Bk), j < k → l[j]? = some p → p.nm ≠ nm) := hD
    clear hD
    by_cases hlt : k < n
    · have hlt' : (k : Int) < (n : Int) := by omega
      obtain ⟨s, hs⟩ : ∃ s, l[k]? = some s := ⟨_, List.getElem?_eq_getElem (by have := HN.out; omega)⟩
      have HS : Hid (l[k]? = some s) := hs
      obtain ⟨g, cp, hv⟩ := own_form HT.out.row (by have := HN.out; omega)
      have hsa : sa = some ⟨g, 0, none⟩ := (Value.slice.inj hv).1
      subst hsa
      have e0 := (own_bc HT.out.row hs).c0
      have hcap : (n : Int) ≤ (cap : Int) := by have := own_cap HT.out.row; have := HN.out; omega
      clear hs hv
      by_cases hq : s.nm = nm
      · have HE : Hid (ixBI l nm = (k : Int)) := by
          show _ = _
          unfold ixBI
          rw [ixB_hit l nm k s HD.out HS.out hq]
        rw [hq] at e0
        clear hq
        go_wp2_with fail
        go_ret
        exact ⟨by rw [HE.out]; rfl, rfl⟩
      · have HN2 : Hid (∀ (j : Nat) (p : Bk), j < k + 1 → l[j]? = some p → p.nm ≠ nm) := by
          intro j p hj hp
          rcases (show j = k ∨ j < k from by omega) with rfl | h
          · rw [HS.out] at hp
            rw [← Option.some.inj hp]
            exact hq
          · exact HD.out j p h hp
        have hq' : ((tx s.nm).toList == (tx nm).toList) = false := by rw [tx_list, tx_list]; simpa using hq
        clear hq
        go_wp2_with fail
        go_roundw
        case rel => exact ⟨by trivial, k + 1, by omega, by go_num, HN2.out⟩
        case measure => simp [intOf]; omega
    · have hge : ¬ ((k : Int) < (n : Int)) := by omega
      have HE : Hid (ixBI l nm = -1) := by
        show _ = _
        unfold ixBI
        rw [ixB_miss l nm (fun j p hp => HD.out j p (by have := (List.getElem?_eq_some_iff.1 hp).1; have := HN.out; omega) hp)]
      clear hlt
      go_wp2_with fail
      go_ret
      exact ⟨by rw [HE.out]; rfl, rfl⟩
end Go.Proofs.Ytpobfcmbbabchaa
