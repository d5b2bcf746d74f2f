/- Buckets: filling in parts, twice, up to the time that Next tells; what is taken. -/
import Derived.Test.YtpobfcmbbabchaaP0
namespace Go.Proofs.Ytpobfcmbbabchaa
open Go.RowKit
set_option linter.unusedVariables false
set_option linter.unusedSimpArgs false

/-- What a bucket holds, in parts. -/
def tot (b : Bk) : Int := b.has * 1000000000 + b.part
def wTot (b : Bk) (t x : Int) : Bk := { b with tim := t, has := x / 1000000000, part := x % 1000000000 }
/-- So many parts, at most the burst. -/
def upTo (b : Bk) (x : Int) : Int := if b.burst * 1000000000 ≤ x then b.burst * 1000000000 else x
theorem tot_pos {N : Int} {b : Bk} (h : Bok N b) : 0 ≤ tot b := by have := h.h0; have := h.p0; unfold tot; omega
theorem tot_cap {N : Int} {b : Bk} (h : Bok N b) : tot b ≤ b.burst * 1000000000 := by have := need_pos h; unfold need at this; unfold tot; omega
theorem tot_has {N : Int} {b : Bk} (h : Bok N b) : tot b / 1000000000 = b.has := by have := h.p0; have := h.p1; unfold tot; omega
theorem tot_part {N : Int} {b : Bk} (h : Bok N b) : tot b % 1000000000 = b.part := by have := h.p0; have := h.p1; unfold tot; omega
theorem cap_has (x : Int) : x * 1000000000 / 1000000000 = x := by omega
theorem cap_part (x : Int) : x * 1000000000 % 1000000000 = 0 := by omega
theorem fill_eq {N : Int} {b : Bk} (h : Bok N b) {now : Int} (hn : b.tim < now) : fillI b now = wTot b now (upTo b (tot b + (now - b.tim) * b.rate)) := by
  unfold fillI
  rw [if_neg (by omega)]
  have hc := tot_cap h
  have hp := tot_pos h
  have hr := h.r0
  have hm : 0 ≤ (now - b.tim) * b.rate := Int.mul_nonneg (by omega) hr
  have hnd : (b.burst - b.has) * 1000000000 - b.part = b.burst * 1000000000 - tot b := by unfold tot; omega
  rw [hnd]
  by_cases c1 : 0 < b.rate ∧ (b.burst * 1000000000 - tot b) / b.rate < now - b.tim
  · rw [if_pos c1]
    have := Int.lt_mul_of_ediv_lt c1.1 c1.2
    have hu : upTo b (tot b + (now - b.tim) * b.rate) = b.burst * 1000000000 := by unfold upTo; rw [if_pos (by omega)]
    rw [hu]
    unfold wTot
    rw [cap_has, cap_part]
  · rw [if_neg c1]
    by_cases c2 : b.rate = 0
    · have hz : (now - b.tim) * b.rate = 0 := by rw [c2, Int.mul_zero]
      rw [if_pos c2, hz, Int.add_zero]
      have hu : upTo b (tot b) = tot b := by unfold upTo; split <;> omega
      rw [hu]
      unfold wTot
      rw [tot_has h, tot_part h]
    · rw [if_neg c2]
      generalize (now - b.tim) * b.rate = M at hm
      have e1 : b.has + (M + b.part) / 1000000000 = (tot b + M) / 1000000000 := by unfold tot; omega
      have e2 : (M + b.part) % 1000000000 = (tot b + M) % 1000000000 := by unfold tot; omega
      rw [e1, e2]
      by_cases c3 : b.burst ≤ (tot b + M) / 1000000000
      · rw [if_pos c3]
        have hu : upTo b (tot b + M) = b.burst * 1000000000 := by unfold upTo; rw [if_pos (by omega)]
        rw [hu]
        unfold wTot
        rw [cap_has, cap_part]
      · rw [if_neg c3]
        have hu : upTo b (tot b + M) = tot b + M := by unfold upTo; rw [if_neg (by omega)]
        rw [hu]
        rfl
theorem fill_old (b : Bk) {now : Int} (hn : now ≤ b.tim) : fillI b now = b := by unfold fillI; rw [if_pos hn]
theorem tot_wTot (b : Bk) (t x : Int) : tot (wTot b t x) = x := by unfold tot wTot; simp only; omega
/-- Nothing is lost by asking often. -/
theorem fill_fill {N : Int} {b : Bk} (h : Bok N b) {x y : Int} (hxy : x ≤ y) (hy : y ≤ 1125899906842624) : fillI (fillI b x) y = fillI b y := by
  by_cases c1 : x ≤ b.tim
  · rw [fill_old b c1]
  · have c1' : b.tim < x := by omega
    by_cases c2 : y = x
    · subst c2
      have e : (fillI b y).tim = y := by rw [fill_eq h c1']; rfl
      rw [fill_old (fillI b y) (by rw [e]; exact Int.le_refl _)]
    · have hB := fill_ok h (now := x) (by omega)
      have e : (fillI b x).tim = x := by rw [fill_eq h c1']; rfl
      rw [fill_eq hB (now := y) (by rw [e]; omega), e, fill_eq h (now := y) (by omega)]
      have hX := fill_eq h c1'
      rw [hX, tot_wTot]
      have hr := h.r0
      have hm : 0 ≤ (x - b.tim) * b.rate := Int.mul_nonneg (by omega) hr
      have hm2 : 0 ≤ (y - x) * b.rate := Int.mul_nonneg (by omega) hr
      have hs : (y - b.tim) * b.rate = (x - b.tim) * b.rate + (y - x) * b.rate := by rw [← Int.add_mul]; congr 1; omega
      show wTot (wTot b x _) y (upTo (wTot b x _) (upTo b _ + (y - x) * b.rate)) = _
      have hb : ∀ z, upTo (wTot b x (upTo b (tot b + (x - b.tim) * b.rate))) z = upTo b z := fun z => rfl
      rw [hb]
      have hw : ∀ u z, wTot (wTot b x u) y z = wTot b y z := fun u z => rfl
      rw [hw, hs]
      congr 1
      unfold upTo
      generalize (x - b.tim) * b.rate = A at *
      generalize (y - x) * b.rate = B at *
      split <;> split <;> (try split) <;> omega
/-- Up to the time that Next tells there are too few, and then there are enough. -/
theorem when_enough {N : Int} {c : Bk} (h : Bok N c) {cost J : Int} (h1 : cost ≤ c.burst) (h2 : c.has < cost) (h3 : c.rate ≠ 0) (hJ : J = ((cost - c.has) * 1000000000 - c.part + c.rate - 1) / c.rate) : 1 ≤ J ∧ cost ≤ (fillI c (c.tim + J)).has ∧ (fillI c (c.tim + J - 1)).has < cost := by
  have hr : 0 < c.rate := by have := h.r0; omega
  have hp := h.p1
  have hnd : (cost - c.has) * 1000000000 - c.part = cost * 1000000000 - tot c := by unfold tot; omega
  rw [hnd] at hJ
  have hpos : 0 < cost * 1000000000 - tot c := by rw [← hnd]; omega
  generalize hD : cost * 1000000000 - tot c = D at hJ hpos
  have hq := Int.mul_ediv_add_emod (D + c.rate - 1) c.rate
  have hq1 := Int.emod_nonneg (D + c.rate - 1) (show c.rate ≠ 0 from h3)
  have hq2 := Int.emod_lt_of_pos (D + c.rate - 1) hr
  rw [← hJ] at hq
  have e1 : D ≤ J * c.rate := by rw [Int.mul_comm]; omega
  have e2 : (J - 1) * c.rate < D := by rw [Int.sub_mul, Int.one_mul, Int.mul_comm J]; omega
  have hJ1 : 1 ≤ J := by
    rcases Int.lt_or_le J 1 with hh | hh
    · exfalso
      have := Int.mul_nonneg (show 0 ≤ 0 - J by omega) (Int.le_of_lt hr)
      rw [Int.sub_mul, Int.zero_mul] at this
      omega
    · exact hh
  refine ⟨hJ1, ?_, ?_⟩
  · rw [fill_eq h (by omega), show c.tim + J - c.tim = J by omega]
    show cost ≤ upTo c _ / 1000000000
    unfold upTo
    generalize J * c.rate = M at *
    split <;> omega
  · rcases Int.lt_or_le 1 J with hh | hh
    · rw [fill_eq h (by omega), show c.tim + J - 1 - c.tim = J - 1 by omega]
      show upTo c _ / 1000000000 < cost
      unfold upTo
      generalize (J - 1) * c.rate = M at *
      split <;> omega
    · have : J = 1 := by omega
      rw [this, fill_old c (by omega)]
      exact h2
/-- What is taken is at most the burst and what came. -/
structure Vt (b : Bk) (taken : Int) : Prop where
  le : taken * 1000000000 + tot b ≤ b.burst * 1000000000 + b.tim * b.rate
theorem Vt.fill {N : Int} {b : Bk} {taken now : Int} (h : Bok N b) (v : Vt b taken) : Vt (fillI b now) taken := by
  by_cases c : now ≤ b.tim
  · rw [fill_old b c]; exact v
  · rw [fill_eq h (by omega)]
    refine ⟨?_⟩
    rw [tot_wTot]
    show taken * 1000000000 + upTo b _ ≤ b.burst * 1000000000 + now * b.rate
    have := v.le
    rw [show now * b.rate = b.tim * b.rate + (now - b.tim) * b.rate by rw [← Int.add_mul]; congr 1; omega]
    have hle : upTo b (tot b + (now - b.tim) * b.rate) ≤ tot b + (now - b.tim) * b.rate := by unfold upTo; split <;> omega
    omega
theorem Vt.paid {b : Bk} {taken cost : Int} (v : Vt b taken) : Vt (paid b cost) (taken + cost) := by
  refine ⟨?_⟩
  have := v.le
  unfold tot at this ⊢
  show (taken + cost) * 1000000000 + ((b.has - cost) * 1000000000 + b.part) ≤ b.burst * 1000000000 + b.tim * b.rate
  omega
theorem Vt.refused {b : Bk} {taken : Int} (v : Vt b taken) : Vt { b with rf := b.rf + 1 } taken := ⟨v.le⟩
theorem Vt.new (nm : List UInt8) (rate burst : Int) : Vt (newB nm rate burst 0) 0 := by
  refine ⟨?_⟩
  unfold tot newB
  simp
theorem Vt.bound {N : Int} {b : Bk} {taken now : Int} (h : Bok N b) (v : Vt b taken) (hn : b.tim ≤ now) : taken ≤ b.burst + now * b.rate / 1000000000 := by
  have := v.le
  have := tot_pos h
  have hm : b.tim * b.rate ≤ now * b.rate := Int.mul_le_mul_of_nonneg_right hn h.r0
  generalize b.tim * b.rate = A at *
  generalize now * b.rate = B at *
  omega
/-- What came, as the law reckons it. -/
theorem came_eq {now rate : Int} (h0 : 0 ≤ now) (hr : 0 ≤ rate) : now / 1000000000 * rate + now % 1000000000 * rate / 1000000000 = now * rate / 1000000000 := by
  have e : now * rate = now % 1000000000 * rate + 1000000000 * (now / 1000000000 * rate) := by
    rw [← Int.mul_assoc, ← Int.add_mul]
    congr 1
    omega
  rw [e, Int.add_mul_ediv_left _ _ (by decide)]
  omega
end Go.Proofs.Ytpobfcmbbabchaa
