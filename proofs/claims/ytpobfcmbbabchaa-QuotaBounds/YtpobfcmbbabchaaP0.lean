/- Buckets: what the calls do, over plain lists; what stays true of them. -/
import Derived.Test.YtpobfcmbbabchaaG0
namespace Go.Proofs.Ytpobfcmbbabchaa
open Go.RowKit
set_option linter.unusedVariables false
set_option linter.unusedSimpArgs false

/-- A bucket: its tenant, rate, burst, whole millionths and parts, the time, and the counts. -/
structure Bk where
  nm : List UInt8
  rate : Int
  burst : Int
  has : Int
  part : Int
  tim : Int
  tk : Int
  rf : Int
  cs : Int
def bk9 (b : Bk) : List Value := [.string (tx b.nm), .int .i64 b.rate, .int .i64 b.burst, .int .i64 b.has, .int .i64 b.part, .int .i64 b.tim, .int .i64 b.tk, .int .i64 b.rf, .int .i64 b.cs]
def bkV (b : Bk) : Value := .agg #[.string (tx b.nm), .int .i64 b.rate, .int .i64 b.burst, .int .i64 b.has, .int .i64 b.part, .int .i64 b.tim, .int .i64 b.tk, .int .i64 b.rf, .int .i64 b.cs]
theorem bk9_len (b : Bk) : (bk9 b).length = 9 := rfl
theorem bk9_one (b : Bk) : ∀ u ∈ bk9 b, u.oneCell' = true := by
  intro u hu
  simp only [bk9, List.mem_cons, List.mem_nil_iff, or_false] at hu
  rcases hu with rfl | rfl | rfl | rfl | rfl | rfl | rfl | rfl | rfl <;> rfl
/-- A bucket that is filled up to a time. -/
def fillI (b : Bk) (now : Int) : Bk :=
  if now ≤ b.tim then b
  else if 0 < b.rate ∧ ((b.burst - b.has) * 1000000000 - b.part) / b.rate < now - b.tim then { b with tim := now, has := b.burst, part := 0 }
  else if b.rate = 0 then { b with tim := now }
  else if b.burst ≤ b.has + ((now - b.tim) * b.rate + b.part) / 1000000000 then { b with tim := now, has := b.burst, part := 0 }
  else { b with tim := now, has := b.has + ((now - b.tim) * b.rate + b.part) / 1000000000, part := ((now - b.tim) * b.rate + b.part) % 1000000000 }
/-- What is true of every bucket of a table, after at most N calls. -/
structure Bok (N : Int) (b : Bk) : Prop where
  r0 : 0 ≤ b.rate
  r1 : b.rate ≤ 1000000000
  b0 : 1 ≤ b.burst
  b1 : b.burst ≤ 1000000000
  h0 : 0 ≤ b.has
  h1 : b.has ≤ b.burst
  p0 : 0 ≤ b.part
  p1 : b.part < 1000000000
  full : b.has = b.burst → b.part = 0
  t0 : 0 ≤ b.tim
  t1 : b.tim ≤ 1125899906842624
  k0 : 0 ≤ b.tk
  k1 : b.tk ≤ N
  f0 : 0 ≤ b.rf
  f1 : b.rf ≤ N
  c0 : 0 ≤ b.cs
  c1 : b.cs ≤ 4611686018427387904
theorem Bok.more {N M : Int} {b : Bk} (h : Bok N b) (hN : N ≤ M) : Bok M b :=
  ⟨h.r0, h.r1, h.b0, h.b1, h.h0, h.h1, h.p0, h.p1, h.full, h.t0, h.t1, h.k0, Int.le_trans h.k1 hN, h.f0, Int.le_trans h.f1 hN, h.c0, h.c1⟩
/-- How many parts a bucket lacks. -/
def need (b : Bk) : Int := (b.burst - b.has) * 1000000000 - b.part
theorem need_pos {N : Int} {b : Bk} (h : Bok N b) : 0 ≤ need b := by
  have := h.full; have := h.h1; have := h.p1; have := h.p0
  unfold need
  by_cases e : b.has = b.burst
  · rw [e, h.full e]; omega
  · omega
theorem need_top {N : Int} {b : Bk} (h : Bok N b) : need b ≤ 1000000000000000000 := by
  have := h.h0; have := h.b1; have := h.p0
  unfold need
  omega
/-- Where it is not filled to the brim, what comes is at most what it lacks. -/
theorem came_le {N : Int} {b : Bk} {n : Int} (h : Bok N b) (hr : 0 < b.rate) (hn : n ≤ need b / b.rate) : n * b.rate ≤ need b :=
  Int.le_trans (Int.mul_le_mul_of_nonneg_right hn (by omega)) (Int.ediv_mul_le _ (by omega))
theorem fill_ok {N : Int} {b : Bk} (h : Bok N b) {now : Int} (h1 : now ≤ 1125899906842624) : Bok N (fillI b now) := by
  have := h.b0
  unfold fillI
  split
  · exact h
  · rename_i c1
    have ht : 0 ≤ now := by have := h.t0; omega
    split
    · exact ⟨h.r0, h.r1, h.b0, h.b1, by show 0 ≤ b.burst; omega, Int.le_refl _, Int.le_refl _, by show (0 : Int) < 1000000000; decide, fun _ => rfl, ht, h1, h.k0, h.k1, h.f0, h.f1, h.c0, h.c1⟩
    · split
      · exact ⟨h.r0, h.r1, h.b0, h.b1, h.h0, h.h1, h.p0, h.p1, h.full, ht, h1, h.k0, h.k1, h.f0, h.f1, h.c0, h.c1⟩
      · rename_i c2 c3
        split
        · exact ⟨h.r0, h.r1, h.b0, h.b1, by show 0 ≤ b.burst; omega, Int.le_refl _, Int.le_refl _, by show (0 : Int) < 1000000000; decide, fun _ => rfl, ht, h1, h.k0, h.k1, h.f0, h.f1, h.c0, h.c1⟩
        · rename_i c4
          have hm : 0 ≤ (now - b.tim) * b.rate + b.part := by
            have := Int.mul_nonneg (show 0 ≤ now - b.tim by omega) h.r0
            have := h.p0
            omega
          refine ⟨h.r0, h.r1, h.b0, h.b1, ?_, ?_, Int.emod_nonneg _ (by decide), Int.emod_lt_of_pos _ (by decide), ?_, ht, h1, h.k0, h.k1, h.f0, h.f1, h.c0, h.c1⟩
          · have := Int.ediv_nonneg hm (show (0 : Int) ≤ 1000000000 by decide)
            have := h.h0
            show 0 ≤ b.has + _
            omega
          · show b.has + _ ≤ b.burst
            omega
          · intro e
            exfalso
            have e' : b.has + ((now - b.tim) * b.rate + b.part) / 1000000000 = b.burst := e
            omega
theorem fill_nm (b : Bk) (now : Int) : (fillI b now).nm = b.nm := by unfold fillI; split <;> (try rfl) <;> split <;> (try rfl) <;> split <;> (try rfl) <;> split <;> rfl
/-- Where the first bucket of a tenant stands. -/
def ixB : List Bk → List UInt8 → Option Nat
  | [], _ => none
  | p :: r, nm => if p.nm = nm then some 0 else (ixB r nm).map (· + 1)
theorem ixB_hit : ∀ (l : List Bk) (nm : List UInt8) (k : Nat) (s : Bk), (∀ (j : Nat) (q : Bk), j < k → l[j]? = some q → q.nm ≠ nm) → l[k]? = some s → s.nm = nm → ixB l nm = some k
  | [], nm, k, s, _, h, _ => by simp at h
  | p :: r, nm, 0, s, _, h, e => by
    simp at h
    subst h
    simp [ixB, e]
  | p :: r, nm, k + 1, s, h1, h, e => by
    have h0 := h1 0 p (by omega) rfl
    have := ixB_hit r nm k s (fun j q hj hq => h1 (j + 1) q (by omega) (by simpa using hq)) (by simpa using h) e
    simp [ixB, h0, this]
theorem ixB_miss : ∀ (l : List Bk) (nm : List UInt8), (∀ (j : Nat) (q : Bk), l[j]? = some q → q.nm ≠ nm) → ixB l nm = none
  | [], nm, _ => rfl
  | p :: r, nm, h => by
    have h0 := h 0 p rfl
    have := ixB_miss r nm (fun j q hq => h (j + 1) q (by simpa using hq))
    simp [ixB, h0, this]
theorem ixB_some : ∀ (l : List Bk) (nm : List UInt8) (k : Nat), ixB l nm = some k → ∃ s, l[k]? = some s ∧ s.nm = nm
  | [], nm, k, h => by simp [ixB] at h
  | p :: r, nm, k, h => by
    simp only [ixB] at h
    split at h
    · rename_i e
      have : 0 = k := by simpa using h
      subst this
      exact ⟨p, rfl, e⟩
    · cases hr : ixB r nm with
      | none => rw [hr] at h; simp at h
      | some j =>
        rw [hr] at h
        have : j + 1 = k := by simpa using h
        subst this
        obtain ⟨s, h1, h2⟩ := ixB_some r nm j hr
        exact ⟨s, by simpa using h1, h2⟩
def ixBI (l : List Bk) (nm : List UInt8) : Int := match ixB l nm with | some k => (k : Int) | none => -1
/-- A tenant's bucket, and where it stands. -/
def lookB (l : List Bk) (nm : List UInt8) : Option (Nat × Bk) := match ixB l nm with | some k => (l[k]?).map fun b => (k, b) | none => none
theorem lookB_some {l : List Bk} {nm : List UInt8} {k : Nat} {b : Bk} (h : lookB l nm = some (k, b)) : ixB l nm = some k ∧ l[k]? = some b ∧ b.nm = nm := by
  unfold lookB at h
  cases hx : ixB l nm with
  | none => rw [hx] at h; cases h
  | some j =>
    rw [hx] at h
    obtain ⟨s, h1, h2⟩ := ixB_some l nm j hx
    simp only [h1, Option.map_some, Option.some.injEq, Prod.mk.injEq] at h
    obtain ⟨rfl, rfl⟩ := h
    exact ⟨rfl, h1, h2⟩
theorem lookB_none {l : List Bk} {nm : List UInt8} (h : lookB l nm = none) : ixB l nm = none := by
  unfold lookB at h
  cases hx : ixB l nm with
  | none => rfl
  | some j =>
    rw [hx] at h
    obtain ⟨s, h1, h2⟩ := ixB_some l nm j hx
    simp [h1] at h
/-- What a call's arguments must be. -/
def okA (cost now : Int) : Bool := decide (0 ≤ cost ∧ cost ≤ 1000000000 ∧ 0 ≤ now ∧ now ≤ 1125899906842624)
def okS (rate burst now : Int) : Bool := decide (0 ≤ rate ∧ rate ≤ 1000000000 ∧ 1 ≤ burst ∧ burst ≤ 1000000000 ∧ 0 ≤ now ∧ now ≤ 1125899906842624)
def newB (nm : List UInt8) (rate burst now : Int) : Bk := ⟨nm, rate, burst, burst, 0, now, 0, 0, 0⟩
def setI (l : List Bk) (nm : List UInt8) (rate burst now : Int) : Int × List Bk :=
  if okS rate burst now = false then (1, l) else
  match ixB l nm with
  | some k => (0, l.set k (newB nm rate burst now))
  | none => if 16 ≤ l.length then (7, l) else (0, l ++ [newB nm rate burst now])
/-- A tenant's bucket at a time: where, the error, the table. -/
def atI (l : List Bk) (nm : List UInt8) (cost now : Int) : Int × Int × List Bk :=
  if okA cost now = false then (0, 1, l) else
  match lookB l nm with
  | some (k, b) => ((k : Int), 0, l.set k (fillI b now))
  | none => (0, 5, l)
def paid (c : Bk) (cost : Int) : Bk := { c with has := c.has - cost, tk := c.tk + 1, cs := if 4611686018427387904 < c.cs + cost then 4611686018427387904 else c.cs + cost }
def takeI (l : List Bk) (nm : List UInt8) (cost now : Int) : Int × List Bk :=
  if okA cost now = false then (1, l) else
  match lookB l nm with
  | some (k, b) => if (fillI b now).has < cost then (190, l.set k { fillI b now with rf := (fillI b now).rf + 1 }) else (0, l.set k (paid (fillI b now) cost))
  | none => (5, l)
def given (c : Bk) (cost : Int) : Bk := if c.burst ≤ c.has + cost then { c with has := c.burst, part := 0 } else { c with has := c.has + cost }
def giveI (l : List Bk) (nm : List UInt8) (cost now : Int) : Int × List Bk :=
  if okA cost now = false then (1, l) else
  match lookB l nm with
  | some (k, b) => (0, l.set k (given (fillI b now) cost))
  | none => (5, l)
def tokI (l : List Bk) (nm : List UInt8) (now : Int) : Int × Int × List Bk :=
  if okA 0 now = false then (0, 1, l) else
  match lookB l nm with
  | some (k, b) => ((fillI b now).has, 0, l.set k (fillI b now))
  | none => (0, 5, l)
/-- When a bucket holds so many. -/
def whenI (c : Bk) (cost : Int) : Int × Int :=
  if c.burst < cost ∨ (c.has < cost ∧ c.rate = 0) then (0, 190)
  else if cost ≤ c.has then (c.tim, 0)
  else if 1125899906842624 - c.tim < ((cost - c.has) * 1000000000 - c.part + c.rate - 1) / c.rate then (0, 1)
  else (c.tim + ((cost - c.has) * 1000000000 - c.part + c.rate - 1) / c.rate, 0)
def nextI (l : List Bk) (nm : List UInt8) (cost now : Int) : (Int × Int) × List Bk :=
  if okA cost now = false then ((0, 1), l) else
  match lookB l nm with
  | some (k, b) => (whenI (fillI b now) cost, l.set k (fillI b now))
  | none => ((0, 5), l)
def cntI (l : List Bk) (nm : List UInt8) : (Int × Int × Int) × Int :=
  match lookB l nm with
  | some (_, b) => ((b.tk, b.rf, b.cs), 0)
  | none => ((0, 0, 0), 5)
def dropI (l : List Bk) (nm : List UInt8) : Int × List Bk :=
  match ixB l nm with
  | some k => (0, l.take k ++ l.drop (k + 1))
  | none => (5, l)
/-- What is true of every table after at most N calls. -/
structure Tok (N : Int) (l : List Bk) : Prop where
  len : l.length ≤ 16
  all : ∀ b ∈ l, Bok N b
theorem Tok.nil (N : Int) : Tok N [] := ⟨by simp, by simp⟩
theorem Tok.at {N : Int} {l : List Bk} (h : Tok N l) {k : Nat} {b : Bk} (hk : l[k]? = some b) : Bok N b := h.all b (List.mem_of_getElem? hk)
theorem Tok.more {N M : Int} {l : List Bk} (h : Tok N l) (hN : N ≤ M) : Tok M l := ⟨h.len, fun b hb => (h.all b hb).more hN⟩
theorem Tok.set {N : Int} {l : List Bk} (h : Tok N l) (k : Nat) {b : Bk} (hb : Bok N b) : Tok N (l.set k b) :=
  ⟨by rw [List.length_set]; exact h.len, fun c hc => by
    rcases List.mem_or_eq_of_mem_set hc with h' | h'
    · exact h.all c h'
    · rw [h']; exact hb⟩
theorem new_ok {N : Int} (hN : 0 ≤ N) {nm : List UInt8} {rate burst now : Int} (h : okS rate burst now = true) : Bok N (newB nm rate burst now) := by
  obtain ⟨h1, h2, h3, h4, h5, h6⟩ := of_decide_eq_true h
  exact ⟨h1, h2, h3, h4, by show 0 ≤ burst; omega, Int.le_refl _, Int.le_refl _, by show (0 : Int) < 1000000000; decide, fun _ => rfl, h5, h6, Int.le_refl _, hN, Int.le_refl _, hN, Int.le_refl _, by show (0 : Int) ≤ 4611686018427387904; decide⟩
theorem set_ok {N : Int} {l : List Bk} (hN : 0 ≤ N) (h : Tok N l) (nm : List UInt8) (rate burst now : Int) : Tok N (setI l nm rate burst now).2 := by
  unfold setI
  split
  · exact h
  · rename_i c
    have hn := new_ok (nm := nm) hN (by simpa using c : okS rate burst now = true)
    split
    · exact h.set _ hn
    · split
      · exact h
      · refine ⟨by simp; omega, fun b hb => ?_⟩
        rcases List.mem_append.1 hb with h' | h'
        · exact h.all b h'
        · rw [List.mem_singleton.1 h']; exact hn
theorem ref_ok {N : Int} {b : Bk} (h : Bok N b) : Bok (N + 1) { b with rf := b.rf + 1 } :=
  ⟨h.r0, h.r1, h.b0, h.b1, h.h0, h.h1, h.p0, h.p1, h.full, h.t0, h.t1, h.k0, by have := h.k1; show b.tk ≤ N + 1; omega, by have := h.f0; show 0 ≤ b.rf + 1; omega, by have := h.f1; show b.rf + 1 ≤ N + 1; omega, h.c0, h.c1⟩
theorem paid_ok {N : Int} {b : Bk} (h : Bok N b) {cost : Int} (h0 : 0 ≤ cost) (h1 : cost ≤ b.has) : Bok (N + 1) (paid b cost) := by
  refine ⟨h.r0, h.r1, h.b0, h.b1, by show 0 ≤ b.has - cost; omega, by have := h.h1; show b.has - cost ≤ b.burst; omega, h.p0, h.p1, fun e => h.full (by have := h.h1; have e' : b.has - cost = b.burst := e; omega), h.t0, h.t1, by have := h.k0; show 0 ≤ b.tk + 1; omega, by have := h.k1; show b.tk + 1 ≤ N + 1; omega, h.f0, by have := h.f1; show b.rf ≤ N + 1; omega, ?_, ?_⟩
  · have := h.c0
    show 0 ≤ if 4611686018427387904 < b.cs + cost then 4611686018427387904 else b.cs + cost
    split <;> omega
  · show (if 4611686018427387904 < b.cs + cost then 4611686018427387904 else b.cs + cost) ≤ 4611686018427387904
    split <;> omega
theorem given_ok {N : Int} {b : Bk} (h : Bok N b) {cost : Int} (h0 : 0 ≤ cost) : Bok N (given b cost) := by
  unfold given
  split
  · exact ⟨h.r0, h.r1, h.b0, h.b1, by have := h.b0; show 0 ≤ b.burst; omega, Int.le_refl _, Int.le_refl _, by show (0 : Int) < 1000000000; decide, fun _ => rfl, h.t0, h.t1, h.k0, h.k1, h.f0, h.f1, h.c0, h.c1⟩
  · rename_i c
    exact ⟨h.r0, h.r1, h.b0, h.b1, by have := h.h0; show 0 ≤ b.has + cost; omega, by show b.has + cost ≤ b.burst; omega, h.p0, h.p1, fun e => by exfalso; have e' : b.has + cost = b.burst := e; omega, h.t0, h.t1, h.k0, h.k1, h.f0, h.f1, h.c0, h.c1⟩
theorem okA_time {cost now : Int} (h : okA cost now = true) : 0 ≤ cost ∧ cost ≤ 1000000000 ∧ 0 ≤ now ∧ now ≤ 1125899906842624 := of_decide_eq_true h
theorem take_ok {N : Int} {l : List Bk} (h : Tok N l) (nm : List UInt8) (cost now : Int) : Tok (N + 1) (takeI l nm cost now).2 := by
  unfold takeI
  split
  · exact h.more (by omega)
  · rename_i c
    have hA := okA_time (by simpa using c : okA cost now = true)
    split
    · rename_i k b hb
      have hB := fill_ok (h.at (lookB_some hb).2.1) hA.2.2.2
      split
      · exact (h.more (by omega)).set _ (ref_ok hB)
      · exact (h.more (by omega)).set _ (paid_ok hB hA.1 (by omega))
    · exact h.more (by omega)
theorem give_ok {N : Int} {l : List Bk} (h : Tok N l) (nm : List UInt8) (cost now : Int) : Tok N (giveI l nm cost now).2 := by
  unfold giveI
  split
  · exact h
  · rename_i c
    have hA := okA_time (by simpa using c : okA cost now = true)
    split
    · rename_i k b hb
      exact h.set _ (given_ok (fill_ok (h.at (lookB_some hb).2.1) hA.2.2.2) hA.1)
    · exact h
theorem tok_ok {N : Int} {l : List Bk} (h : Tok N l) (nm : List UInt8) (now : Int) : Tok N (tokI l nm now).2.2 := by
  unfold tokI
  split
  · exact h
  · rename_i c
    have hA := okA_time (by simpa using c : okA 0 now = true)
    split
    · rename_i k b hb
      exact h.set _ (fill_ok (h.at (lookB_some hb).2.1) hA.2.2.2)
    · exact h
theorem next_ok {N : Int} {l : List Bk} (h : Tok N l) (nm : List UInt8) (cost now : Int) : Tok N (nextI l nm cost now).2 := by
  unfold nextI
  split
  · exact h
  · rename_i c
    have hA := okA_time (by simpa using c : okA cost now = true)
    split
    · rename_i k b hb
      exact h.set _ (fill_ok (h.at (lookB_some hb).2.1) hA.2.2.2)
    · exact h
theorem drop_ok {N : Int} {l : List Bk} (h : Tok N l) (nm : List UInt8) : Tok N (dropI l nm).2 := by
  unfold dropI
  split
  · refine ⟨by have := h.len; simp; omega, fun b hb => h.all b ?_⟩
    rcases List.mem_append.1 hb with h' | h'
    · exact List.mem_of_mem_take h'
    · exact List.mem_of_mem_drop h'
  · exact h
end Go.Proofs.Ytpobfcmbbabchaa
