import Derived.Test.YtflhgphjkhplmaaMC14
import Derived.Test.YtflhgphjkhplmaaMC09
import Derived.BigQuiet
import Derived.Test.YtflhgphjkhplmaaMC13
import Derived.StillTailTactics
/- A log as it lies; its length, its last number, what was cut. -/
namespace Go.Proofs.Ytflhgphjkhplmaa.D
open Go.RowKit W
set_option linter.unusedVariables false
set_option linter.unusedSimpArgs false

/-- A record with its number, and its row. -/
structure Rc where
  n : Nat
  r : List Int
  rv : Value
def Rc.pl (x : Rc) : Nat × List Int := (x.n, x.r)
def e2 (x : Rc) : List Value := [.int .u64 (x.n : Int), x.rv]
theorem e2_len (x : Rc) : (e2 x).length = 2 := rfl
/-- A log, plainly: its checkpoint's number and record, the records behind it, how many bytes were cut. -/
structure Lg where
  bn : Nat
  b : List Int
  rs : List (Nat × List Int)
  cut : Nat
def seqN (g : Lg) : Nat := match g.rs.getLast? with | some x => x.1 | none => g.bn
def logC (D : Nat) (g : Lg) (bv rv : Value) : Array Value := #[.pointer (some ⟨D, 0, none⟩), .string (tx [97]), .int .u64 (g.bn : Int), bv, rv, .int .i64 (g.cut : Int)]
/-- A log as it lies, at L, on the disk at D; P: its blocks. -/
structure LG (w : World) (L D : Nat) (g : Lg) (P : Nat → Prop) : Prop where
  ex : ∃ bv rv xs, w.heap[L]? = some (.cells (logC D g bv rv) 95 (0, 0)) ∧ w.ownsRow 0 5 1 bv g.b.length (u8l g.b) ∧ w.ownsRow 0 81 2 rv xs.length (fl e2 xs) ∧ xs.map Rc.pl = g.rs ∧ (∀ x ∈ xs, w.ownsRow 0 5 1 x.rv x.r.length (u8l x.r)) ∧ ∀ q, P q ↔ q = L ∨ bv.ownBlock = some q ∨ rv.ownBlock = some q ∨ ∃ x ∈ xs, x.rv.ownBlock = some q
variable {w w' : World} {L D n : Nat} {g : Lg} {P : Nat → Prop}
theorem LG.at' (h : LG w L D g P) (hk : ∀ q, P q → w'.heap[q]? = w.heap[q]?) : LG w' L D g P := by
  obtain ⟨bv, rv, xs, h1, h2, h3, h4, h5, h6⟩ := h
  exact ⟨bv, rv, xs, (hk L ((h6 L).2 (.inl rfl))).trans h1, own_at h2 fun q hq => hk q ((h6 q).2 (.inr (.inl hq))), own_at h3 fun q hq => hk q ((h6 q).2 (.inr (.inr (.inl hq)))), h4, fun x hx => own_at (h5 x hx) fun q hq => hk q ((h6 q).2 (.inr (.inr (.inr ⟨x, hx, hq⟩)))), h6⟩
theorem LG.lt (h : LG w L D g P) : ∀ q, P q → q < w.heap.size := by
  obtain ⟨bv, rv, xs, h1, h2, h3, h4, h5, h6⟩ := h
  intro q hq
  rcases (h6 q).1 hq with rfl | e | e | ⟨x, hx, e⟩
  · exact (Array.getElem?_eq_some_iff.1 h1).1
  · exact (h2.lt q e).2
  · exact (h3.lt q e).2
  · exact ((h5 x hx).lt q e).2
theorem LG.newer (h : LG w L D g P) (hb : Below w.heap.size w w') : LG w' L D g P := h.at' fun q hq => hb.block q (h.lt q hq)
theorem LG.drewN (h : LG w L D g P) (n : Nat) : LG (w.drewN n) L D g P := h.at' fun q hq => rfl
theorem len_some (h : LG w L D g P) : Calls Try.prog 30 #[.pointer (some ⟨L, 0, none⟩)] w fun e w' => e = .returned (.int .i64 (g.rs.length : Int)) ∧ w' = w := by
  obtain ⟨bv, rv, xs, h1, h2, h3, h4, h5, h6⟩ := h
  obtain ⟨a, c, rfl⟩ := own_slice h3
  have hl : xs.length = g.rs.length := by rw [← h4, List.length_map]
  have c4 : w.cell? ⟨L, 4, none⟩ = some (.slice a xs.length c) := by rw [cell_of_row _ _ _ _ _ _ h1]; rfl
  rw [hl] at c4
  clear h1 h2 h3 h4 h5 h6 hl
  go_enter Try.func30, Try.ntmps30
  go_wp2
  go_ret
  exact ⟨rfl, rfl⟩
theorem cut_some (h : LG w L D g P) : Calls Try.prog 32 #[.pointer (some ⟨L, 0, none⟩)] w fun e w' => e = .returned (.int .i64 (g.cut : Int)) ∧ w' = w := by
  obtain ⟨bv, rv, xs, h1, -⟩ := h
  have c4 : w.cell? ⟨L, 5, none⟩ = some (.int .i64 (g.cut : Int)) := by rw [cell_of_row _ _ _ _ _ _ h1]; rfl
  clear h1
  go_enter Try.func32, Try.ntmps32
  go_wp2
  go_ret
  exact ⟨rfl, rfl⟩
theorem e2_cell {w : World} {base : Nat} {a : Option Addr} {c : Nat} {xs : List Rc} (h : w.ownsRow base 81 2 (.slice a xs.length c) xs.length (fl e2 xs)) {i : Nat} {x : Rc} (hx : xs[i]? = some x) : ∃ q, a = some ⟨q, 0, none⟩ ∧ w.cell? ⟨q, i * 2, none⟩ = some (.int .u64 (x.n : Int)) ∧ w.cell? ⟨q, i * 2 + 1, none⟩ = some x.rv := by
  have hi : i < xs.length := (List.getElem?_eq_some_iff.1 hx).1
  obtain ⟨q, c', hv⟩ := own_form h (by omega)
  cases hv
  refine ⟨q, rfl, ?_, ?_⟩
  · rw [h.cellAt (i * 2) (by omega)]
    exact fl_at e2_len xs i x 0 hx (by decide)
  · rw [h.cellAt (i * 2 + 1) (by omega)]
    exact fl_at e2_len xs i x 1 hx (by decide)
set_option maxRecDepth 20000 in
theorem seq_some (h : LG w L D g P) (hs : g.rs.length ≤ 4000000) : Calls Try.prog 31 #[.pointer (some ⟨L, 0, none⟩)] w fun e w' => e = .returned (.int .u64 (seqN g : Int)) ∧ ∃ n, w' = w.drewN n := by
  obtain ⟨bv, rv, xs, h1, h2, h3, h4, h5, h6⟩ := h
  obtain ⟨a, c, rfl⟩ := own_slice h3
  have hl : xs.length = g.rs.length := by rw [← h4, List.length_map]
  have c4 : w.cell? ⟨L, 4, none⟩ = some (.slice a xs.length c) := by rw [cell_of_row _ _ _ _ _ _ h1]; rfl
  have c2 : w.cell? ⟨L, 2, none⟩ = some (.int .u64 (g.bn : Int)) := by rw [cell_of_row _ _ _ _ _ _ h1]; rfl
  obtain ⟨N, hN⟩ : ∃ N, xs.length = N := ⟨_, rfl⟩
  cases hlast : xs.getLast? with
  | none =>
    have hx0 : xs = [] := by simpa using hlast
    have HS : Hid (seqN g = g.bn) := by show _ = _; unfold seqN; rw [← h4, hx0]; rfl
    have hN0 : N = 0 := by rw [← hN, hx0]; rfl
    rw [hN, hN0] at c4
    clear h1 h2 h3 h4 h5 h6 hl hN hlast hx0 hN0 hs
    go_enter Try.func31, Try.ntmps31
    go_wp2
    go_ret
    exact ⟨by rw [HS.out]; rfl, 0, rfl⟩
  | some x =>
    obtain ⟨ys, hys⟩ : ∃ ys, xs = ys ++ [x] := by
      rcases List.eq_nil_or_concat xs with e | ⟨ys, y, e⟩
      · rw [e] at hlast; cases hlast
      · rw [e] at hlast
        simp at hlast
        exact ⟨ys, by rw [e, hlast]; simp⟩
    have HS : Hid (seqN g = x.n) := by show _ = _; unfold seqN; rw [← h4, hys]; simp [Rc.pl]
    have hix : xs[ys.length]? = some x := by rw [hys]; simp
    obtain ⟨q, rfl, k1, -⟩ := e2_cell h3 hix
    obtain ⟨m, hm⟩ : ∃ m, ys.length = m := ⟨_, rfl⟩
    have hNm : N = m + 1 := by rw [← hN, hys]; simp [hm]
    rw [hm] at k1
    rw [hN] at c4
    have i1 : (0 : Int) < (N : Int) := by omega
    have i2 : (N : Int) - 1 = (m : Int) := by omega
    have i3 : IntKind.i64.wrap (m : Int) = (m : Int) := by rw [IntKind.wrap_i64]; omega
    have i4 : (N : Int) ≤ 4000000 := by omega
    have i5 : (m : Int) < (N : Int) := by omega
    have i6 : m < N := by omega
    clear h1 h2 h3 h4 h5 h6 hl hlast hys hix hm hNm hs hN
    go_enter Try.func31, Try.ntmps31
    go_wp2
    go_quiet (fail)
    go_wp2
    go_ret
    exact ⟨by rw [HS.out]; rfl, _, rfl⟩
end Go.Proofs.Ytflhgphjkhplmaa.D

/- The records behind a number. -/
namespace Go.Proofs.Ytflhgphjkhplmaa.D
open Go.RowKit W
set_option linter.unusedVariables false
set_option linter.unusedSimpArgs false

variable {w w' : World} {xs : List Rc}
theorem over_any (x : Rc) (q : Nat) (num : Nat) (w : World) {ra : Option Addr} {l rc : Nat} (hrv : x.rv = .slice ra l rc) (hq : w.cell? ⟨q, 0, none⟩ = some (.int .u64 (num : Int))) : Calls Try.prog 91 #[.agg #[.int .u64 (x.n : Int), x.rv], .pointer (some ⟨q, 0, none⟩)] w fun e w' => e = .returned (.bool (decide (num < x.n))) ∧ Below w.heap.size w w' := by
  have hq2 : q < w.heap.size := World.block_lt_of_cell? w _ hq
  have hne : ¬ w.heap.size = q := by omega
  have hne2 : ¬ q = w.heap.size := by omega
  rw [hrv]
  obtain ⟨m, hm⟩ : ∃ m, x.n = m := ⟨_, rfl⟩
  rw [hm]
  have hqW : (w.alloc (.cells #[.int .u64 (m : Int), .slice ra l rc] 81)).cell? ⟨q, 0, none⟩ = some (.int .u64 (num : Int)) := ((bel1 w _).cell hq2).trans hq
  clear hq hm hrv
  go_enter Try.func91, Try.ntmps91
  go_wp2
  go_ret
  refine ⟨?_, bel1 w _⟩
  show Ending.returned (.bool _) = _
  congr 2
  try simp
def ixN (xs : List Rc) (num : Nat) : Nat := (xs.takeWhile fun x => decide (x.n ≤ num)).length
theorem tw_at : ∀ (xs : List Rc) (num j : Nat) (x : Rc), j < ixN xs num → xs[j]? = some x → x.n ≤ num
  | [], num, j, x, h, hx => by simp at hx
  | y :: r, num, j, x, h, hx => by
    unfold ixN at h
    rw [List.takeWhile_cons] at h
    split at h
    · rename_i c
      cases j with
      | zero => simp at hx; rw [← hx]; simpa using c
      | succ j =>
        simp at hx h
        exact tw_at r num j x (by unfold ixN; exact h) hx
    · simp at h
theorem ix_stop : ∀ (xs : List Rc) (num k : Nat) (x : Rc), (∀ j y, j < k → xs[j]? = some y → y.n ≤ num) → xs[k]? = some x → num < x.n → ixN xs num = k
  | [], num, k, x, _, hx, _ => by simp at hx
  | y :: r, num, 0, x, _, hx, hn => by
    simp at hx
    subst hx
    unfold ixN
    rw [List.takeWhile_cons, if_neg (by simp; omega)]
    rfl
  | y :: r, num, k + 1, x, h, hx, hn => by
    have h0 := h 0 y (by omega) rfl
    unfold ixN
    rw [List.takeWhile_cons, if_pos (by simpa using h0), List.length_cons]
    exact congrArg (· + 1) (ix_stop r num k x (fun j z hj hz => h (j + 1) z (by omega) hz) (by simpa using hx) hn)
theorem ix_end : ∀ (xs : List Rc) (num : Nat), (∀ (j : Nat) (y : Rc), xs[j]? = some y → y.n ≤ num) → ixN xs num = xs.length
  | [], num, _ => rfl
  | y :: r, num, h => by
    have h0 := h 0 y rfl
    unfold ixN
    rw [List.takeWhile_cons, if_pos (by simpa using h0), List.length_cons]
    exact congrArg (· + 1) (ix_end r num (fun j z hz => h (j + 1) z hz))
def ixI (xs : List Rc) (num : Nat) : Int := if ixN xs num < xs.length then (ixN xs num : Int) else -1
set_option maxRecDepth 20000 in
set_option maxHeartbeats 4000000 in
theorem index_any (base : Nat) (sv : Value) (q num : Nat) (w : World) (ho : w.ownsRow base 81 2 sv xs.length (fl e2 xs)) (hsl : ∀ x ∈ xs, ∃ a l c, x.rv = .slice a l c) (hl : xs.length ≤ 4000000) (hq : w.cell? ⟨q, 0, none⟩ = some (.int .u64 (num : Int))) :
    Calls Try.prog 90 #[sv, .func (.func 91) #[] #[.pointer (some ⟨q, 0, none⟩)]] w fun e w' => e = .returned (.int .i64 (ixI xs num)) ∧ Below w.heap.size w w' := by
  obtain ⟨sa, cap, rfl⟩ := own_slice ho
  have HO : Hid (w.ownsRow base 81 2 (.slice sa xs.length cap) xs.length (fl e2 xs) ∧ ∀ x ∈ xs, ∃ a l c, x.rv = .slice a l c) := ⟨ho, hsl⟩
  have HQ : Hid (w.cell? ⟨q, 0, none⟩ = some (.int .u64 (num : Int))) := hq
  obtain ⟨n, hn⟩ : ∃ n, xs.length = n := ⟨_, rfl⟩
  have HN : Hid (xs.length = n) := hn
  rw [hn] at hl ⊢
  have hl' : (n : Int) ≤ 4000000 := by omega
  clear ho hq hn hl hsl
  go_enter Try.func90, Try.ntmps90
  go_wp2_with fail
  go_loopw [5, 8] (fun x v wr => ∃ k : Nat, k ≤ n ∧ v = .int .i64 k ∧ Hid (∀ (j : Nat) (p : Rc), j < k → xs[j]? = some p → p.n ≤ num) ∧ Hid (Below w.heap.size w wr)) (fun x v wr => n - (intOf v).toNat)
  case atStart => exact ⟨0, by omega, rfl, fun j p hj => (Nat.not_lt_zero _ hj).elim, Below.refl _ _⟩
  case round =>
    obtain ⟨k, hk, rfl, HD, HB⟩ := hrel
    by_cases hlt : k < n
    · have hlt' : (k : Int) < (n : Int) := by omega
      obtain ⟨s, hs⟩ : ∃ s, xs[k]? = some s := ⟨_, List.getElem?_eq_getElem (by have := HN.out; omega)⟩
      have HS : Hid (xs[k]? = some s) := hs
      obtain ⟨g, rfl, c0, c1⟩ := e2_cell HO.out.1 hs
      obtain ⟨ra, rl, rcp, hrv⟩ := HO.out.2 s (List.mem_of_getElem? hs)
      rw [hrv] at c1
      have hcap : (n : Int) ≤ (cap : Int) := by have := own_cap HO.out.1; have := HN.out; omega
      have d0 : wr.cell? ⟨g, k * 2, none⟩ = some (.int .u64 (s.n : Int)) := (HB.out.cell (World.block_lt_of_cell? w _ c0)).trans c0
      have d1 : wr.cell? ⟨g, k * 2 + 1, none⟩ = some (.slice ra rl rcp) := (HB.out.cell (World.block_lt_of_cell? w _ c1)).trans c1
      have HIS : Hid (Calls Try.prog 91 #[.agg #[.int .u64 (s.n : Int), .slice ra rl rcp], .pointer (some ⟨q, 0, none⟩)] wr fun e w' => e = .returned (.bool (decide (num < s.n))) ∧ Below wr.heap.size wr w') := by
        have := over_any s q num wr hrv ((HB.out.cell (p := ⟨q, 0, none⟩) (World.block_lt_of_cell? w _ HQ.out)).trans HQ.out)
        rwa [hrv] at this
      clear hs c0 c1 hrv
      by_cases hq : num < s.n
      · have HE : Hid (ixI xs num = (k : Int)) := by
          show _ = _
          have := ix_stop xs num k s HD.out HS.out hq
          unfold ixI
          rw [this, if_pos (by have := HN.out; omega)]
        rw [decide_eq_true hq] at HIS
        clear hq
        go_wp2_with (go_at_call 91; refine HIS.out.mono ?_; rintro e w2 ⟨rfl, hb2⟩)
        go_ret
        exact ⟨by rw [HE.out]; rfl, HB.out.trans (hb2.mono HB.out.size)⟩
      · have HN2 : Hid (∀ (j : Nat) (p : Rc), j < k + 1 → xs[j]? = some p → p.n ≤ num) := by
          intro j p hj hp
          rcases (show j = k ∨ j < k from by omega) with rfl | h
          · rw [HS.out] at hp
            rw [← Option.some.inj hp]
            omega
          · exact HD.out j p h hp
        rw [decide_eq_false hq] at HIS
        clear hq
        go_wp2_with (go_at_call 91; refine HIS.out.mono ?_; rintro e w2 ⟨rfl, hb2⟩)
        go_roundw
        case rel => exact ⟨k + 1, by omega, by go_num, HN2.out, HB.out.trans (hb2.mono HB.out.size)⟩
        case measure => simp [intOf]; omega
    · have : k = n := by omega
      subst this
      have HE : Hid (ixI xs num = -1) := by
        show _ = _
        unfold ixI
        rw [ix_end xs num (fun j y hy => HD.out j y (by have := (List.getElem?_eq_some_iff.1 hy).1; have := HN.out; omega) hy), if_neg (by omega)]
      clear hk hlt
      go_wp2_with fail
      go_ret
      exact ⟨by rw [HE.out]; rfl, HB.out⟩
end Go.Proofs.Ytflhgphjkhplmaa.D

/- behind: the records behind a number, in new memory; none, if some are missing. -/
namespace Go.Proofs.Ytflhgphjkhplmaa.D
open Go.RowKit W
set_option linter.unusedVariables false
set_option linter.unusedSimpArgs false

variable {w w' : World} {xs : List Rc}
theorem info81 : (Try.prog.info? 81).map (fun i => (i.zero, i.size, i.bytes)) = some (some (.agg #[.int .u64 0, .slice none 0 0]), 2, 32) := by kernel_rfl
theorem e2_one (hsl : ∀ x ∈ xs, ∃ a l c, x.rv = .slice a l c) : ∀ u ∈ fl e2 xs, u.oneCell' = true := by
  induction xs with
  | nil => intro u h; simp [fl] at h
  | cons x r ih =>
    intro u h
    rcases List.mem_append.1 (show u ∈ e2 x ++ fl e2 r from h) with h | h
    · obtain ⟨a, l, c, e⟩ := hsl x (by simp)
      unfold e2 at h
      rw [e] at h
      simp at h
      rcases h with rfl | rfl <;> rfl
    · exact ih (fun y hy => hsl y (by simp [hy])) u h
set_option maxRecDepth 20000 in
set_option maxHeartbeats 1000000 in
theorem cloneR_any (ad : Addr) (c : Nat) (w : World) (hC : ∀ j u, (fl e2 xs)[j]? = some u → w.cell? (ad.add j) = some u) (hsl : ∀ x ∈ xs, ∃ a l c, x.rv = .slice a l c) (hl : xs.length ≤ 4000000) : Calls Try.prog 92 #[.slice (some ad) xs.length c] w fun e w' => (∃ v', e = .returned v' ∧ w'.ownsRow w.heap.size 81 2 v' xs.length (fl e2 xs)) ∧ Below w.heap.size w w' := by
  obtain ⟨i0, hi, hz0, hz1, hz2⟩ := info_parts info81
  have HS : Hid ((∀ j u, (fl e2 xs)[j]? = some u → (w.alloc (.cells #[] 81)).cell? (ad.add j) = some u) ∧ (∀ u ∈ fl e2 xs, u.oneCell' = true) ∧ xs.length ≤ 4000000) := ⟨fun j u hu => by
    have h := hC j u hu
    exact ((bel1 w _).cell (World.block_lt_of_cell? w _ h)).trans h, e2_one hsl, hl⟩
  have HI : Hid (Try.prog.info? 81 = some i0 ∧ i0.zero = some (.agg #[.int .u64 0, .slice none 0 0]) ∧ i0.size = 2 ∧ i0.bytes = 32) := ⟨hi, hz0, hz1, hz2⟩
  obtain ⟨L, hL⟩ : ∃ L, xs.length = L := ⟨_, rfl⟩
  have HL : Hid (xs.length = L) := hL
  rw [hL] at HS ⊢
  have hq : ∀ w, (binOp .eql 93 (.slice (some ad) L c) (.slice none 0 0)).run Try.prog w = .ok (.bool false) w := fun w => by kernel_rfl
  clear hC hl hL hsl hi hz0 hz1 hz2
  go_enter Try.func92, Try.ntmps92
  go_wp2_with (at_builtin; (refine wpList_append_own _ rfl (.tmp 5) (.tmp 6) 93 rfl w.heap.size 81 i0 (.agg #[.int .u64 0, .slice none 0 0]) 2 32 Try.underlying93 HI.out.1 HI.out.2.1 HI.out.2.2.1 HI.out.2.2.2 rfl (by decide) (.slice (some ⟨w.heap.size, 0, none⟩) 0 0) 0 [] rfl (World.ownsRow_lit w #[] 0 (Nat.le_refl _) (by decide) rfl) ad L c (fl e2 xs) rfl (by rw [fl_len e2_len, HL.out]) HS.out.1 HS.out.2.1 (by have := HS.out.2.2; unfold maxLen; omega) (by have := HS.out.2.2; omega) (by simp) ?_; intro v' w' ho' hg' _))
  go_ret
  refine ⟨⟨_, rfl, ?_⟩, (bel1 _ _).grown hg' (by simp) ?_⟩
  · have h := ho'
    rw [Nat.zero_add, List.nil_append] at h
    exact h
  · intro q hq'
    simp [Value.ownBlock] at hq'
    omega
theorem own_capv2 {base size n : Nat} {e : TypeId} {a : Option Addr} {c : Nat} {xs : List Value} (h : w.ownsRow base e size (.slice a n c) n xs) : n ≤ c := by
  rcases h.2 with ⟨h1, h2⟩ | ⟨g, cp, cur, hv, _, _, h3, _⟩
  · cases h1; omega
  · cases hv; exact h3
/-- Those behind a number. -/
def bhR (xs : List Rc) (num : Nat) : List Rc := match xs[ixN xs num]? with | none => [] | some x => if 1 < x.n - num then [] else xs.drop (ixN xs num)
theorem ixN_le (xs : List Rc) (num : Nat) : ixN xs num ≤ xs.length := by
  unfold ixN
  exact (List.takeWhile_prefix _).length_le
theorem ixN_over : ∀ (xs : List Rc) (num : Nat) (x : Rc), xs[ixN xs num]? = some x → num < x.n
  | [], num, x, h => by simp at h
  | y :: r, num, x, h => by
    unfold ixN at h
    rw [List.takeWhile_cons] at h
    split at h
    · exact ixN_over r num x (by simpa [ixN] using h)
    · rename_i c
      simp at h c
      rw [← h]
      exact c
set_option maxRecDepth 20000 in
set_option maxHeartbeats 4000000 in
theorem behind_any (base : Nat) (sv : Value) (num : Nat) (w : World) (ho : w.ownsRow base 81 2 sv xs.length (fl e2 xs)) (hsl : ∀ x ∈ xs, ∃ a l c, x.rv = .slice a l c) (hl : xs.length ≤ 4000000) (hn : ∀ x ∈ xs, x.n < 18446744073709551616) :
    Calls Try.prog 84 #[sv, .int .u64 (num : Int)] w fun e w' => (∃ v', e = .returned v' ∧ w'.ownsRow w.heap.size 81 2 v' (bhR xs num).length (fl e2 (bhR xs num))) ∧ Below w.heap.size w w' := by
  obtain ⟨sa, cap, rfl⟩ := own_slice ho
  obtain ⟨W1, hW1⟩ : ∃ W1, w.alloc (.cells #[.int .u64 (num : Int)] 22) = W1 := ⟨_, rfl⟩
  have hB1 : Below w.heap.size w W1 := by rw [← hW1]; exact bel1 w _
  have hbx : Boxed W1 w.heap.size 22 (.int .u64 (num : Int)) := by rw [← hW1]; exact Boxed.new _ _ _
  have ho1 : W1.ownsRow base 81 2 (.slice sa xs.length cap) xs.length (fl e2 xs) := own_at ho fun q hq => hB1.block q (ho.lt q hq).2
  have HI : Hid (Calls Try.prog 90 #[.slice sa xs.length cap, .func (.func 91) #[] #[.pointer (some ⟨w.heap.size, 0, none⟩)]] W1 fun e w' => e = .returned (.int .i64 (ixI xs num)) ∧ Below W1.heap.size W1 w') := index_any base _ w.heap.size num W1 ho1 hsl hl hbx.cell
  have hle := ixN_le xs num
  obtain ⟨n, hnn⟩ : ∃ n, xs.length = n := ⟨_, rfl⟩
  have hcap : n ≤ cap := by rw [← hnn]; exact own_capv2 ho
  cases hx : xs[ixN xs num]? with
  | none =>
    have hE : ixI xs num = -1 := by unfold ixI; rw [if_neg (by have := List.getElem?_eq_none_iff.1 hx; omega)]
    have HR : Hid (bhR xs num = []) := by show _ = _; unfold bhR; rw [hx]
    rw [hE, hnn] at HI
    rw [hnn]
    have HB : Hid (Below w.heap.size w W1) := hB1
    clear ho hsl hl hn hB1 hbx ho1 hle hnn hx hE
    go_enter Try.func84, Try.ntmps84
    go_wp2_with (go_at_call 90; refine HI.out.mono ?_; rintro e w2 ⟨rfl, hb2⟩; (have HB2 : Hid (Below W1.heap.size W1 w2) := hb2); clear hb2)
    go_quiet (fail)
    go_wp2_with fail
    go_ret
    rw [HR.out]
    exact ⟨⟨_, rfl, World.ownsRow_nil _ _ _ _⟩, HB.out.trans ((HB2.out.trans ((drewN_below w2 _).mono HB2.out.size)).mono HB.out.size)⟩
  | some x =>
    have hlt : ixN xs num < xs.length := (List.getElem?_eq_some_iff.1 hx).1
    obtain ⟨k, hk⟩ : ∃ k, ixN xs num = k := ⟨_, rfl⟩
    have hE : ixI xs num = (k : Int) := by unfold ixI; rw [if_pos hlt, hk]
    have hov := ixN_over xs num x hx
    have hxn := hn x (List.mem_of_getElem? hx)
    rw [hk] at hx hlt
    obtain ⟨q, rfl, k1, k2⟩ := e2_cell ho1 hx
    have HX : Hid (W1.ownsRow base 81 2 (.slice (some ⟨q, 0, none⟩) xs.length cap) xs.length (fl e2 xs) ∧ (∀ y ∈ xs, ∃ a l c, y.rv = .slice a l c) ∧ xs.length = n ∧ n ≤ 4000000 ∧ k < n ∧ Below w.heap.size w W1 ∧ Boxed W1 w.heap.size 22 (.int .u64 (num : Int))) := ⟨ho1, hsl, hnn, by omega, by omega, hB1, hbx⟩
    obtain ⟨y, hy⟩ : ∃ y : Int, (x.n : Int) = y := ⟨_, rfl⟩
    obtain ⟨z, hz⟩ : ∃ z : Int, (num : Int) = z := ⟨_, rfl⟩
    rw [hy] at k1
    rw [hE, hnn] at HI
    rw [hnn]
    have hdiff : IntKind.u64.wrap (y - z) = y - z := by rw [IntKind.wrap_u64]; omega
    have i1 : (k : Int) < (n : Int) := by omega
    have i2 : (n : Int) ≤ (cap : Int) := by omega
    have i3 : (n : Int) ≤ 4000000 := by omega
    have i4 : k < n := by omega
    have hwk : IntKind.i64.wrap (k : Int) = (k : Int) := by rw [IntKind.wrap_i64]; omega
    have cbx : W1.cell? ⟨w.heap.size, 0, none⟩ = some (.int .u64 z) := by rw [← hz]; exact hbx.cell
    by_cases hgap : 1 < x.n - num
    · have HR : Hid (bhR xs num = []) := by show _ = _; unfold bhR; rw [hk, hx]; exact if_pos hgap
      have g1 : 1 < y - z := by omega
      have hW1' : w.alloc (.cells #[.int .u64 z] 22) = W1 := by rw [← hz]; exact hW1
      rw [hz]
      clear ho hsl hl hn hB1 hbx ho1 hle hnn hx hE hlt hk hov hxn k2 hgap hW1 hz hy
      go_enter Try.func84, Try.ntmps84
      go_wp2_with (go_at_call 90; refine HI.out.mono ?_; rintro e w2 ⟨rfl, hb2⟩; (have HB2 : Hid (Below W1.heap.size W1 w2) := hb2); (have c2 := (hb2.cell (World.block_lt_of_cell? _ _ k1)).trans k1); (have c3 := (hb2.cell (World.block_lt_of_cell? _ _ cbx)).trans cbx); clear hb2 k1 cbx)
      go_quiet (fail)
      go_wp2_with fail
      go_ret
      rw [HR.out]
      exact ⟨⟨_, rfl, World.ownsRow_nil _ _ _ _⟩, HX.out.2.2.2.2.2.1.trans ((HB2.out.trans ((drewN_below w2 _).mono HB2.out.size)).mono HX.out.2.2.2.2.2.1.size)⟩
    · have HR : Hid (bhR xs num = xs.drop k ∧ (xs.drop k).length = n - k) := ⟨by unfold bhR; rw [hk, hx]; exact if_neg hgap, by rw [List.length_drop, hnn]⟩
      have g1 : ¬ 1 < y - z := by omega
      have hW1' : w.alloc (.cells #[.int .u64 z] 22) = W1 := by rw [← hz]; exact hW1
      have HCL : Hid (∀ w2, Below W1.heap.size W1 w2 → Calls Try.prog 92 #[.slice (some ⟨q, k * 2, none⟩) (n - k) (cap - k)] w2 fun e w' => (∃ v', e = .returned v' ∧ w'.ownsRow w2.heap.size 81 2 v' (n - k) (fl e2 (xs.drop k))) ∧ Below w2.heap.size w2 w') := fun w2 hb => by
        have h1 := HX.out.1
        have := cloneR_any (xs := xs.drop k) ⟨q, k * 2, none⟩ (cap - k) w2 (fun j u hu => by
          rw [← fl_drop e2_len, List.getElem?_drop] at hu
          have h3 := h1.cells (g := q) rfl (k * 2 + j) u hu
          rw [Addr.add_mid, Nat.zero_add] at h3
          rw [Addr.add_mid]
          exact (hb.cell (World.block_lt_of_cell? _ _ h3)).trans h3) (fun y hy => HX.out.2.1 y (List.mem_of_mem_drop hy)) (by rw [HR.out.2]; have := HX.out; omega)
        rw [HR.out.2] at this
        exact this
      rw [hz]
      clear ho hsl hl hn hB1 hbx ho1 hle hnn hx hE hlt hk hov hxn k2 hgap hW1 hz hy
      go_enter Try.func84, Try.ntmps84
      go_wp2_with (go_at_call 90; refine HI.out.mono ?_; rintro e w2 ⟨rfl, hb2⟩; (have HB2 : Hid (Below W1.heap.size W1 w2) := hb2); (have c2 := (hb2.cell (World.block_lt_of_cell? _ _ k1)).trans k1); (have c3 := (hb2.cell (World.block_lt_of_cell? _ _ cbx)).trans cbx); clear hb2 k1 cbx)
      go_quiet (fail)
      go_wp2_with (go_at_call 92; refine (HCL.out (w2.drewN nq) (HB2.out.trans ((drewN_below w2 _).mono HB2.out.size))).mono ?_; rintro e w3 ⟨⟨v3, rfl, ho3⟩, hb3⟩; (have H3 : Hid (w3.ownsRow w2.heap.size 81 2 v3 (n - k) (fl e2 (xs.drop k)) ∧ Below w2.heap.size w2 w3) := ⟨ho3, ⟨hb3.os, hb3.tape, hb3.output, hb3.size, hb3.block⟩⟩); clear ho3 hb3)
      go_ret
      rw [HR.out.1, HR.out.2]
      obtain ⟨x1, x2, x3, x4, x5, x6, x7⟩ := HX.out
      exact ⟨⟨_, rfl, own_low H3.out.1 (Nat.le_trans x6.size HB2.out.size)⟩, x6.trans ((HB2.out.trans (H3.out.2.mono HB2.out.size)).mono x6.size)⟩
end Go.Proofs.Ytflhgphjkhplmaa.D

/- What each call does to the files: pure, with what it answers; what holds of the files between calls. -/
namespace Go.Proofs.Ytflhgphjkhplmaa.D
open Go.RowKit
set_option linter.unusedVariables false
set_option linter.unusedSimpArgs false

variable {w w' : World} {D R : Nat} {sy : Int} {F G : Nat → Prop} {dl : List Fd} {s s' : List UInt8} {x : Fd} {bs : List Int}
structure Inv (k : Nat) (sy : Int) (dl : List Fd) : Prop where
  len : dl.length ≤ 64
  each : ∀ x ∈ dl, Byt x.b ∧ x.b.length ≤ 1048576 ∧ x.ws.length ≤ k ∧ WsOk x.b.length x.ws
  lo : 0 ≤ sy
  hi : sy ≤ k
def apE (s : List UInt8) (bs : List Int) (dl : List Fd) : Int := if nameB s = false then 40 else match lkF s dl with
  | some x => if (bs.length : Int) ≤ 1048576 - x.b.length then 0 else 4
  | none => if dl.length = 64 then 7 else 0
def apD (s : List UInt8) (bs : List Int) (dl : List Fd) : List Fd := if nameB s = false then dl else match lkF s dl with
  | some x => if (bs.length : Int) ≤ 1048576 - x.b.length then resA s x bs dl else dl
  | none => if dl.length = 64 then dl else resA s ⟨s, [], []⟩ bs (insF ⟨s, [], []⟩ dl)
def syE (s : List UInt8) (dl : List Fd) : Int := match lkF s dl with | none => 5 | some _ => 0
def syD (s : List UInt8) (dl : List Fd) : List Fd := match lkF s dl with | none => dl | some x => setF s x.b [] dl
def syN (s : List UInt8) (dl : List Fd) (sy : Int) : Int := match lkF s dl with | none => sy | some _ => sy + 1
def cuE (s : List UInt8) (n : Int) (dl : List Fd) : Int := match lkF s dl with | none => 5 | some x => if n < 0 ∨ (x.b.length : Int) < n then 1 else 0
def cuD (s : List UInt8) (n : Int) (dl : List Fd) : List Fd := match lkF s dl with | none => dl | some x => if n < 0 ∨ (x.b.length : Int) < n then dl else setF s (x.b.take n.toNat) [] dl
def mvE (s s' : List UInt8) (dl : List Fd) : Int := match lkF s dl with | none => 5 | some _ => if nameB s' = false then 40 else 0
def mvD (s s' : List UInt8) (dl : List Fd) : List Fd := match lkF s dl with | none => dl | some x => if nameB s' = false then dl else renF s s' x dl
def rmE (s : List UInt8) (dl : List Fd) : Int := match lkF s dl with | none => 5 | some _ => 0
def rmD (s : List UInt8) (dl : List Fd) : List Fd := outF s dl

theorem lk_mem : ∀ {dl : List Fd} {s : List UInt8} {x : Fd}, lkF s dl = some x → x ∈ dl := fun h => by
  obtain ⟨-, a, b, rfl, -⟩ := lkF_some h
  simp
theorem insF_perm (x : Fd) : ∀ dl : List Fd, (x :: dl).Perm (insF x dl)
  | [] => .refl _
  | y :: r => by
    unfold insF
    split
    · exact (List.Perm.swap y x r).trans ((insF_perm x r).cons y)
    · exact .refl _
theorem outF_perm {dl : List Fd} (h : lkF s dl = some x) : dl.Perm (outF s dl ++ [x]) := by
  obtain ⟨-, a, b, rfl, e, -⟩ := lkF_some h
  rw [e]
  refine (List.perm_middle).trans ?_
  exact (List.perm_append_comm (l₁ := [x]) (l₂ := a ++ b))
theorem outF_mem : ∀ {dl : List Fd} {y : Fd}, y ∈ outF s dl → y ∈ dl
  | [], y, h => h
  | z :: r, y, h => by
    unfold outF at h
    split at h
    · exact List.mem_cons_of_mem _ h
    · rcases List.mem_cons.1 h with rfl | h
      · exact List.mem_cons_self ..
      · exact List.mem_cons_of_mem _ (outF_mem h)
theorem outF_len : ∀ dl : List Fd, (outF s dl).length ≤ dl.length
  | [] => Nat.le_refl _
  | z :: r => by
    unfold outF
    split
    · simp
    · have := outF_len r
      simp; omega
theorem setF_mem {b ws : List Int} : ∀ {dl : List Fd} {y : Fd}, y ∈ setF s b ws dl → y ∈ dl ∨ y = ⟨s, b, ws⟩
  | [], y, h => .inl h
  | z :: r, y, h => by
    unfold setF at h
    split at h
    · rename_i e
      rcases List.mem_cons.1 h with h | h
      · exact .inr (by rw [h, e])
      · exact .inl (List.mem_cons_of_mem _ h)
    · rcases List.mem_cons.1 h with rfl | h
      · exact .inl (List.mem_cons_self ..)
      · exact (setF_mem h).imp (List.mem_cons_of_mem _) id
theorem setF_len {b ws : List Int} : ∀ dl : List Fd, (setF s b ws dl).length = dl.length
  | [] => rfl
  | z :: r => by
    unfold setF
    split
    · rfl
    · simp [setF_len r]
theorem insF_mem {x y : Fd} {dl : List Fd} (h : y ∈ insF x dl) : y ∈ dl ∨ y = x := by
  have := (insF_perm x dl).mem_iff.2 h
  exact (List.mem_cons.1 this).symm
theorem insF_len (x : Fd) (dl : List Fd) : (insF x dl).length = dl.length + 1 := (insF_perm x dl).length_eq.symm
theorem ws_nil (n : Nat) : WsOk n [] := fun i h => absurd h (by simp)
theorem ws_app {n m : Nat} {ws : List Int} (h : WsOk n ws) : WsOk (n + m) (ws ++ [(n : Int)]) := fun i hi => by
  rw [List.length_append, List.length_singleton] at hi
  rcases Nat.lt_or_ge i ws.length with h1 | h1
  · obtain ⟨a1, a2, a3⟩ := h i h1
    have e : (ws ++ [(n : Int)]).getD i 0 = ws.getD i 0 := by simp [List.getD_eq_getElem?_getD, List.getElem?_append_left h1]
    have e2 : endI (n + m) (ws ++ [(n : Int)]) i = endI n ws i := by
      unfold endI
      rw [List.length_append, List.length_singleton, if_pos (by omega)]
      split
      · rename_i h2
        simp [List.getD_eq_getElem?_getD, List.getElem?_append_left h2]
      · have h3 : i + 1 = ws.length := by omega
        simp [List.getD_eq_getElem?_getD, h3]
    rw [e, e2]
    exact ⟨a1, a2, by push_cast; omega⟩
  · have h3 : i = ws.length := by omega
    subst h3
    have e : (ws ++ [(n : Int)]).getD ws.length 0 = (n : Int) := by simp [List.getD_eq_getElem?_getD]
    have e2 : endI (n + m) (ws ++ [(n : Int)]) ws.length = ((n + m : Nat) : Int) := by
      unfold endI
      rw [List.length_append, List.length_singleton, if_neg (by omega)]
    rw [e, e2]
    exact ⟨by omega, by push_cast; omega, Int.le_refl _⟩
theorem byt_splice {a c : List Int} {p : Nat} (ha : Byt a) (hc : Byt c) : Byt (splice a p c) := fun y hy => by
  unfold splice at hy
  rcases List.mem_append.1 hy with h | h
  · exact ha y (List.mem_of_mem_take h)
  · rcases List.mem_append.1 h with h | h
    · exact hc y h
    · exact ha y (List.mem_of_mem_drop h)
theorem byt_crS {b ws ns : List Int} (hb : Byt b) : ∀ i, Byt (crS b ws ns i).1
  | 0 => byt_splice (fun y hy => by have := List.eq_of_mem_replicate hy; omega) fun y hy => hb y (List.mem_of_mem_take hy)
  | i + 1 => by
    unfold crS crStep
    split
    · exact byt_splice (byt_crS hb i) fun y hy => hb y (List.mem_of_mem_drop (List.mem_of_mem_take hy))
    · exact byt_crS hb i
theorem crA_inv {k : Nat} {ks : List Kn} (h : Inv k sy dl) : Inv (k + 1) sy (crA dl ks) := by
  unfold crA
  split
  · refine ⟨by unfold crD; rw [List.length_map]; exact h.len, fun y hy => ?_, h.lo, by have := h.hi; push_cast; omega⟩
    obtain ⟨x, hx, rfl⟩ := List.mem_map.1 hy
    obtain ⟨a1, a2, a3, a4⟩ := h.each x hx
    have h1 := crB_len (ns := kNs x.nm ks) a4
    have h2 := (crS_len (ns := kNs x.nm ks) a4 x.ws.length (Nat.le_refl _)).2
    refine ⟨fun z hz => byt_crS a1 _ z (List.mem_of_mem_take hz), ?_, Nat.zero_le _, ws_nil _⟩
    show (crB x.b x.ws (kNs x.nm ks)).length ≤ _
    omega
  · exact ⟨h.len, fun y hy => by obtain ⟨a1, a2, a3, a4⟩ := h.each y hy; exact ⟨a1, a2, by omega, a4⟩, h.lo, by have := h.hi; push_cast; omega⟩
theorem Inv.more {k : Nat} (h : Inv k sy dl) : Inv (k + 1) sy dl := ⟨h.len, fun y hy => by obtain ⟨a1, a2, a3, a4⟩ := h.each y hy; exact ⟨a1, a2, by omega, a4⟩, h.lo, by have := h.hi; push_cast; omega⟩
theorem resA_inv {k : Nat} (h : Inv k sy dl) (hx : Byt x.b ∧ x.b.length ≤ 1048576 ∧ x.ws.length ≤ k ∧ WsOk x.b.length x.ws) (hb : Byt bs) (hl : (bs.length : Int) ≤ 1048576 - x.b.length) : Inv (k + 1) sy (resA s x bs dl) := by
  refine ⟨by unfold resA; rw [setF_len]; exact h.len, fun y hy => ?_, h.lo, by have := h.hi; push_cast; omega⟩
  rcases setF_mem hy with h1 | rfl
  · exact h.more.each y h1
  · obtain ⟨a1, a2, a3, a4⟩ := hx
    refine ⟨fun z hz => (List.mem_append.1 hz).elim (a1 z) (hb z), by rw [List.length_append]; omega, ?_, ?_⟩
    · dsimp only; split
      · omega
      · simp; omega
    · dsimp only
      rw [List.length_append]
      split
      · rename_i e
        rw [e]
        exact a4
      · exact ws_app a4
theorem ap_inv {k : Nat} (h : Inv k sy dl) (hb : Byt bs) (hl : bs.length ≤ 1048576) : Inv (k + 1) sy (apD s bs dl) := by
  unfold apD
  split
  · exact h.more
  · split
    · rename_i x hx
      split
      · exact resA_inv h (h.each x (lk_mem hx)) hb (by assumption)
      · exact h.more
    · split
      · exact h.more
      · rename_i h64
        refine resA_inv (k := k) ⟨by rw [insF_len]; have := h.len; omega, fun y hy => ?_, h.lo, h.hi⟩ ⟨(fun x hx => nomatch hx), Nat.zero_le _, Nat.zero_le _, ws_nil _⟩ hb (by simp; omega)
        rcases insF_mem hy with h1 | rfl
        · exact h.each y h1
        · exact ⟨(fun x hx => nomatch hx), by simp, Nat.zero_le _, ws_nil _⟩
theorem sy_inv {k : Nat} (h : Inv k sy dl) : Inv (k + 1) (syN s dl sy) (syD s dl) := by
  unfold syN syD
  cases hx : lkF s dl with
  | none => exact h.more
  | some x =>
    refine ⟨by dsimp only; rw [setF_len]; exact h.len, fun y hy => ?_, by have := h.lo; dsimp only; omega, by have := h.hi; dsimp only; push_cast; omega⟩
    rcases setF_mem hy with h1 | rfl
    · exact h.more.each y h1
    · obtain ⟨a1, a2, a3, a4⟩ := h.each x (lk_mem hx)
      exact ⟨a1, a2, Nat.zero_le _, ws_nil _⟩
theorem cu_inv {k : Nat} {n : Int} (h : Inv k sy dl) : Inv (k + 1) sy (cuD s n dl) := by
  unfold cuD
  cases hx : lkF s dl with
  | none => exact h.more
  | some x =>
    dsimp only
    split
    · exact h.more
    · refine ⟨by rw [setF_len]; exact h.len, fun y hy => ?_, h.lo, by have := h.hi; push_cast; omega⟩
      rcases setF_mem hy with h1 | rfl
      · exact h.more.each y h1
      · obtain ⟨a1, a2, a3, a4⟩ := h.each x (lk_mem hx)
        exact ⟨fun z hz => a1 z (List.mem_of_mem_take hz), by rw [List.length_take]; omega, Nat.zero_le _, ws_nil _⟩
theorem rm_inv {k : Nat} (h : Inv k sy dl) : Inv (k + 1) sy (rmD s dl) :=
  ⟨Nat.le_trans (outF_len dl) h.len, fun y hy => h.more.each y (outF_mem hy), h.lo, by have := h.hi; push_cast; omega⟩
theorem outF_len_lk (h : lkF s dl = some x) : (outF s dl).length + 1 = dl.length := by
  have := (outF_perm h).length_eq
  rw [List.length_append, List.length_singleton] at this
  omega
theorem mv_inv {k : Nat} (h : Inv k sy dl) : Inv (k + 1) sy (mvD s s' dl) := by
  unfold mvD
  cases hx : lkF s dl with
  | none => exact h.more
  | some x =>
    dsimp only
    split
    · exact h.more
    · unfold renF
      split
      · exact h.more
      · refine ⟨?_, fun y hy => ?_, h.lo, by have := h.hi; push_cast; omega⟩
        · rw [insF_len]
          have h1 := outF_len (s := s') (outF s dl)
          have h2 := outF_len_lk hx
          have := h.len
          omega
        · rcases insF_mem hy with h1 | rfl
          · exact h.more.each y (outF_mem (outF_mem h1))
          · exact h.more.each x (lk_mem hx)
end Go.Proofs.Ytflhgphjkhplmaa.D

/- Each call of each side, in the words of the pure steps. -/
namespace Go.Proofs.Ytflhgphjkhplmaa.D
open Go.RowKit
set_option linter.unusedVariables false
set_option linter.unusedSimpArgs false

variable {w w' : World} {D R k : Nat} {sy : Int} {F G P : Nat → Prop} {dl : List Fd} {s s' : List UInt8} {x : Fd} {bs : List Int} {sv kv : Value} {ks : List Kn}
theorem tf : ¬ (true = false) := by decide
theorem resA_new (h : lkF s dl = none) (bs : List Int) : resA s ⟨s, [], []⟩ bs (insF ⟨s, [], []⟩ dl) = insF ⟨s, bs, if bs = [] then [] else [0]⟩ dl := by
  unfold resA
  rw [(setF_ins s h).1]
  rfl
theorem ren_perm (hnd : (dl.map Fd.nm).Nodup) (h : lkF s dl = some x) : (outF s' (outF s dl) ++ [(⟨s', x.b, x.ws⟩ : Fd)]).Perm (renF s s' x dl) := by
  unfold renF
  split
  · rename_i e
    subst e
    obtain ⟨hn, -⟩ := lkF_some h
    have h2 := outF_perm h
    have h3 := (h2.map Fd.nm).nodup_iff.1 hnd
    rw [List.map_append] at h3
    have hno : lkF s (outF s dl) = none := lkF_none.2 fun hm => (List.nodup_append.1 h3).2.2 s hm s (by simp [hn]) rfl
    rw [outF_none hno, show (⟨s, x.b, x.ws⟩ : Fd) = x by rw [← hn]]
    exact h2.symm
  · exact (List.perm_append_comm (l₂ := [_])).trans (insF_perm _ _)
theorem p_append (h : DR w D F sy dl) (i : Inv k sy dl) (hk : k ≤ 1000000) (hl : (s.length : Int) ≤ 140737488351232) (hsv : SrcG w F sv bs) (hb : bs.length ≤ 1048576) :
    Calls Try.prog 55 #[.pointer (some ⟨D, 0, none⟩), .string (tx s), sv] w fun e w' => e = .returned (.int .i64 (apE s bs dl)) ∧ ∃ F', DR w' D F' sy (apD s bs dl) ∧ Fr F F' w w' := by
  unfold apE apD
  cases hn : nameB s with
  | false =>
    refine (append_key h hl hn sv).mono ?_
    rintro e w' ⟨rfl, rfl⟩
    exact ⟨rfl, F, h, Fr.refl _ _⟩
  | true =>
    rw [if_neg tf, if_neg tf]
    cases hs : lkF s dl with
    | some x =>
      obtain ⟨a1, a2, a3, a4⟩ := i.each x (lk_mem hs)
      dsimp only
      by_cases hf : (bs.length : Int) ≤ 1048576 - x.b.length
      · rw [if_pos hf, if_pos hf]
        exact append_thereG h hs hl hn hsv a2 (by omega) hf
      · rw [if_neg hf, if_neg hf]
        refine (append_size h hs hl hn (hsv w fun _ _ _ => rfl).slice a2 hf (by omega)).mono ?_
        rintro e w' ⟨rfl, rfl⟩
        exact ⟨rfl, F, h, Fr.refl _ _⟩
    | none =>
      dsimp only
      refine (append_newG h hs hl hn hsv i.len (by omega)).mono ?_
      rintro e w' ⟨he, F', h1, h2⟩
      rw [if_neg (by omega)] at he h1
      refine ⟨he, F', ?_, h2⟩
      split
      · rename_i h64
        rw [if_pos h64] at h1
        exact h1
      · rename_i h64
        rw [if_neg h64] at h1
        rw [resA_new hs]
        exact h1.perm ((List.perm_append_comm (l₂ := [_])).trans (insF_perm _ _))
theorem m_append (h : MR w R G sy dl) (i : Inv k sy dl) (hk : k ≤ 1000000) (hl : (s.length : Int) ≤ 140737488351232) (hsv : SrcG w G sv bs) (hb : bs.length ≤ 1048576) :
    Calls Try.prog 47 #[.pointer (some ⟨R, 0, none⟩), .string (tx s), sv] w fun e w' => e = .returned (.int .i64 (apE s bs dl)) ∧ ∃ G', MR w' R G' sy (apD s bs dl) ∧ Fr G G' w w' := by
  unfold apE apD
  cases hn : nameB s with
  | false =>
    refine (rappend_key h hl hn sv).mono ?_
    rintro e w' ⟨rfl, rfl⟩
    exact ⟨rfl, G, h, Fr.refl _ _⟩
  | true =>
    rw [if_neg tf, if_neg tf]
    cases hs : lkF s dl with
    | some x =>
      obtain ⟨a1, a2, a3, a4⟩ := i.each x (lk_mem hs)
      dsimp only
      by_cases hf : (bs.length : Int) ≤ 1048576 - x.b.length
      · rw [if_pos hf, if_pos hf]
        exact (rappend_ok h i.len hl hn hsv (.inl ⟨hs, rfl⟩) a2 (by omega) hf).mono fun e w' h => ⟨h.1, h.2.out⟩
      · rw [if_neg hf, if_neg hf]
        refine (rappend_size h (by have := i.len; omega) hs hl hn hsv.now.slice a2 hf (by omega)).mono ?_
        rintro e w' ⟨rfl, rfl⟩
        exact ⟨rfl, G, h, Fr.refl _ _⟩
    | none =>
      dsimp only
      have hlen := i.len
      by_cases h64 : dl.length = 64
      · rw [if_pos h64, if_pos h64]
        refine (rappend_none h hlen hs hl hn hsv.now.slice (by omega) (.inr h64)).mono ?_
        rintro e w' ⟨rfl, rfl⟩
        exact ⟨by rw [if_neg (by omega)], G, h, Fr.refl _ _⟩
      · rw [if_neg h64, if_neg h64]
        exact (rappend_ok h hlen hl hn hsv (.inr ⟨hs, by omega, rfl, rfl⟩) (by simp) (by simp) (by simp; omega)).mono fun e w' h => ⟨h.1, h.2.out⟩
theorem p_sync (h : DR w D F sy dl) (i : Inv k sy dl) (hk : k ≤ 1000000) : Calls Try.prog 52 #[.pointer (some ⟨D, 0, none⟩), .string (tx s)] w fun e w' => e = .returned (.int .i64 (syE s dl)) ∧ ∃ F', DR w' D F' (syN s dl sy) (syD s dl) ∧ Fr F F' w w' := by
  unfold syE syN syD
  cases hs : lkF s dl with
  | none =>
    refine (sync_no h hs).mono ?_
    rintro e w' ⟨rfl, rfl⟩
    exact ⟨rfl, F, h, Fr.refl _ _⟩
  | some x => exact sync_yes h hs i.lo (by have := i.hi; omega)
theorem m_sync (h : MR w R G sy dl) (i : Inv k sy dl) (hk : k ≤ 1000000) : Calls Try.prog 49 #[.pointer (some ⟨R, 0, none⟩), .string (tx s)] w fun e w' => e = .returned (.int .i64 (syE s dl)) ∧ ∃ G', MR w' R G' (syN s dl sy) (syD s dl) ∧ Fr G G' w w' := by
  have hlen := i.len
  unfold syE syN syD
  cases hs : lkF s dl with
  | none =>
    refine (rsync_no h (by omega) hs).mono ?_
    rintro e w' ⟨rfl, rfl⟩
    exact ⟨rfl, G, h, Fr.refl _ _⟩
  | some x =>
    obtain ⟨a1, a2, a3, a4⟩ := i.each x (lk_mem hs)
    exact (rsync_yes h (by omega) hs (by omega) i.lo (by have := i.hi; omega)).mono fun e w' h => ⟨h.1, h.2.out⟩
theorem p_cut (h : DR w D F sy dl) (i : Inv k sy dl) (n : Int) : Calls Try.prog 44 #[.pointer (some ⟨D, 0, none⟩), .string (tx s), .int .i64 n] w fun e w' => e = .returned (.int .i64 (cuE s n dl)) ∧ ∃ F', DR w' D F' sy (cuD s n dl) ∧ Fr F F' w w' := by
  unfold cuE cuD
  cases hs : lkF s dl with
  | none =>
    refine (cut_no h hs n).mono ?_
    rintro e w' ⟨rfl, rfl⟩
    exact ⟨rfl, F, h, Fr.refl _ _⟩
  | some x =>
    obtain ⟨a1, a2, a3, a4⟩ := i.each x (lk_mem hs)
    dsimp only
    by_cases c : n < 0 ∨ (x.b.length : Int) < n
    · rw [if_pos c, if_pos c]
      refine (cut_bad h hs (by omega) n c).mono ?_
      rintro e w' ⟨rfl, rfl⟩
      exact ⟨rfl, F, h, Fr.refl _ _⟩
    · rw [if_neg c, if_neg c]
      have := cut_yes h hs (by omega) n.toNat (by omega)
      rw [show ((n.toNat : Nat) : Int) = n by omega] at this
      exact this
theorem m_cut (h : MR w R G sy dl) (i : Inv k sy dl) (n : Int) : Calls Try.prog 51 #[.pointer (some ⟨R, 0, none⟩), .string (tx s), .int .i64 n] w fun e w' => e = .returned (.int .i64 (cuE s n dl)) ∧ ∃ G', MR w' R G' sy (cuD s n dl) ∧ Fr G G' w w' := by
  have hlen := i.len
  unfold cuE cuD
  cases hs : lkF s dl with
  | none =>
    refine (rcut_no h (by omega) hs n).mono ?_
    rintro e w' ⟨rfl, rfl⟩
    exact ⟨rfl, G, h, Fr.refl _ _⟩
  | some x =>
    obtain ⟨a1, a2, a3, a4⟩ := i.each x (lk_mem hs)
    dsimp only
    by_cases c : n < 0 ∨ (x.b.length : Int) < n
    · rw [if_pos c, if_pos c]
      refine (rcut_bad h (by omega) hs (by omega) n c).mono ?_
      rintro e w' ⟨rfl, hb⟩
      exact ⟨rfl, G, h.newer hb, Fr.newer hb⟩
    · rw [if_neg c, if_neg c]
      have := rcut_yes h (by omega) hs (by omega) n.toNat (by omega)
      rw [show ((n.toNat : Nat) : Int) = n by omega] at this
      exact this.mono fun e w' h => ⟨h.1, h.2.out⟩
theorem p_move (h : DR w D F sy dl) (hl : (s'.length : Int) ≤ 140737488351232) : Calls Try.prog 73 #[.pointer (some ⟨D, 0, none⟩), .string (tx s), .string (tx s')] w fun e w' => e = .returned (.int .i64 (mvE s s' dl)) ∧ ∃ F', DR w' D F' sy (mvD s s' dl) ∧ Fr F F' w w' := by
  unfold mvE mvD
  cases hs : lkF s dl with
  | none =>
    refine (rename_no h hs _).mono ?_
    rintro e w' ⟨rfl, rfl⟩
    exact ⟨rfl, F, h, Fr.refl _ _⟩
  | some x =>
    dsimp only
    cases hn : nameB s' with
    | false =>
      refine (rename_bad h hs hl hn).mono ?_
      rintro e w' ⟨rfl, rfl⟩
      exact ⟨rfl, F, h, Fr.refl _ _⟩
    | true =>
      rw [if_neg tf, if_neg tf]
      refine (rename_yes h hs hl hn).mono ?_
      rintro e w' ⟨he, F', h1, h2⟩
      exact ⟨he, F', h1.perm (ren_perm h.nd hs), h2⟩
theorem m_move (h : MR w R G sy dl) (i : Inv k sy dl) (hl : (s'.length : Int) ≤ 140737488351232) : Calls Try.prog 50 #[.pointer (some ⟨R, 0, none⟩), .string (tx s), .string (tx s')] w fun e w' => e = .returned (.int .i64 (mvE s s' dl)) ∧ ∃ G', MR w' R G' sy (mvD s s' dl) ∧ Fr G G' w w' := by
  have hlen := i.len
  unfold mvE mvD
  cases hs : lkF s dl with
  | none =>
    refine (rrename_no h (by omega) hs _).mono ?_
    rintro e w' ⟨rfl, rfl⟩
    exact ⟨rfl, G, h, Fr.refl _ _⟩
  | some x =>
    dsimp only
    cases hn : nameB s' with
    | false =>
      refine (rrename_bad h (by omega) hs hl hn).mono ?_
      rintro e w' ⟨rfl, rfl⟩
      exact ⟨rfl, G, h, Fr.refl _ _⟩
    | true =>
      rw [if_neg tf, if_neg tf]
      exact (rrename_yes h (by omega) hs hl hn).mono fun e w' h => ⟨h.1, h.2.out⟩
theorem p_remove (h : DR w D F sy dl) : Calls Try.prog 60 #[.pointer (some ⟨D, 0, none⟩), .string (tx s)] w fun e w' => e = .returned (.int .i64 (rmE s dl)) ∧ ∃ F', DR w' D F' sy (rmD s dl) ∧ Fr F F' w w' := by
  unfold rmE rmD
  cases hs : lkF s dl with
  | none =>
    refine (remove_no h hs).mono ?_
    rintro e w' ⟨rfl, rfl⟩
    exact ⟨rfl, F, by rw [outF_none hs]; exact h, Fr.refl _ _⟩
  | some x => exact remove_yes h hs
theorem m_remove (h : MR w R G sy dl) (i : Inv k sy dl) : Calls Try.prog 48 #[.pointer (some ⟨R, 0, none⟩), .string (tx s)] w fun e w' => e = .returned (.int .i64 (rmE s dl)) ∧ ∃ G', MR w' R G' sy (rmD s dl) ∧ Fr G G' w w' := by
  have hlen := i.len
  unfold rmE rmD
  cases hs : lkF s dl with
  | none =>
    refine (rremove_no h (by omega) hs).mono ?_
    rintro e w' ⟨rfl, rfl⟩
    exact ⟨rfl, G, by rw [outF_none hs]; exact h, Fr.refl _ _⟩
  | some x => exact (rremove_yes h (by omega) hs).mono fun e w' h => ⟨h.1, h.2.out⟩
theorem Inv.cr (i : Inv k sy dl) (hk : k ≤ 1000000) : ∀ x ∈ dl, x.b.length ≤ 2000000 ∧ x.ws.length ≤ 2000000 ∧ WsOk x.b.length x.ws := fun x hx => by
  obtain ⟨a1, a2, a3, a4⟩ := i.each x hx
  exact ⟨by omega, by omega, a4⟩
theorem p_crash (h : DR w D F sy dl) (i : Inv k sy dl) (hk : k ≤ 1000000) (hkv : KeepsAt P w kv ks) (hP : ∀ q, P q → q < w.heap.size ∧ ¬ F q) (hkl : ks.length ≤ 1048576) : Calls Try.prog 40 #[.pointer (some ⟨D, 0, none⟩), kv] w fun e w' => e = .returned (.int .i64 (wrE dl [] ks)) ∧ ∃ F', DR w' D F' sy (crA dl ks) ∧ Fr F F' w w' :=
  (crash_all h hkv hP (i.cr hk) (by omega)).mono fun e w' h => ⟨h.1, h.2.out⟩
theorem m_crash (h : MR w R G sy dl) (i : Inv k sy dl) (hk : k ≤ 1000000) (hkv : KeepsAt P w kv ks) (hP : ∀ q, P q → q < w.heap.size ∧ ¬ G q) (hkl : ks.length ≤ 1048576) : Calls Try.prog 54 #[.pointer (some ⟨R, 0, none⟩), kv] w fun e w' => e = .returned (.int .i64 (wrE dl [] ks)) ∧ ∃ G', MR w' R G' sy (crA dl ks) ∧ Fr G G' w w' :=
  (rcrash_all h hkv hP (i.cr hk) (by have := i.len; omega) (by omega)).mono fun e w' h => ⟨h.1, h.2.out⟩
end Go.Proofs.Ytflhgphjkhplmaa.D

/- A log and its disk; reading a file of it. -/
namespace Go.Proofs.Ytflhgphjkhplmaa.D
open Go Go.RowKit W R Go.Shelf
set_option linter.unusedVariables false
set_option linter.unusedSimpArgs false
attribute [local go_sem] Oper.semAt_some

variable {w w' : World} {L D k : Nat} {sy : Int} {F F' P P' : Nat → Prop} {dl : List Fd} {g : Lg} {s : List UInt8}
/-- A log beside its disk. -/
structure WS (w : World) (D L k : Nat) (F P : Nat → Prop) (sy : Int) (dl : List Fd) (g : Lg) : Prop where
  dr : DR w D F sy dl
  inv : Inv k sy dl
  lg : LG w L D g P
  ap : ∀ q, P q → ¬ F q
theorem WS.newer (h : WS w D L k F P sy dl g) (hb : Below w.heap.size w w') : WS w' D L k F P sy dl g := ⟨h.dr.newer hb, h.inv, h.lg.newer hb, h.ap⟩
def rdBs (s : List UInt8) (dl : List Fd) : List Int := match lkF s dl with | none => [] | some x => x.b
def rdEs (s : List UInt8) (dl : List Fd) : Int := match lkF s dl with | none => 5 | some _ => 0
theorem Inv.rdb (i : Inv k sy dl) (s : List UInt8) : Byt (rdBs s dl) ∧ (rdBs s dl).length ≤ 1048576 := by
  unfold rdBs
  cases h : lkF s dl with
  | none => exact ⟨fun c hc => (nomatch hc), by decide⟩
  | some x => obtain ⟨h1, h2, -⟩ := i.each x (lk_mem h); exact ⟨h1, h2⟩
theorem rd_any (h : DR w D F sy dl) (i : Inv k sy dl) (s : List UInt8) : Calls Try.prog 83 #[.pointer (some ⟨D, 0, none⟩), .string (tx s)] w fun e w' => ∃ a c, e = .returned (.tuple #[.slice a (rdBs s dl).length c, .int .i64 (rdEs s dl)]) ∧ w'.ownsRow w.heap.size 5 1 (.slice a (rdBs s dl).length c) (rdBs s dl).length (u8l (rdBs s dl)) ∧ Below w.heap.size w w' := by
  unfold rdBs rdEs
  cases hs : lkF s dl with
  | none =>
    refine (read_no h hs).mono ?_
    rintro e w' ⟨rfl, rfl⟩
    exact ⟨none, 0, rfl, World.ownsRow_nil _ _ _ _, Below.refl _ _⟩
  | some x =>
    obtain ⟨-, h2, -⟩ := i.each x (lk_mem hs)
    refine (read_yes h hs (by omega)).mono ?_
    rintro e w' ⟨⟨v, rfl, ho⟩, hb⟩
    obtain ⟨a, c, rfl⟩ := own_slice ho
    exact ⟨a, c, rfl, ho, hb⟩
def nLog : List UInt8 := [97, 46, 108, 111, 103]
def nCkp : List UInt8 := [97, 46, 99, 107, 112]
def nNew : List UInt8 := [97, 46, 99, 107, 112, 46, 110, 101, 119]
def rcE (x : El) : Rc := ⟨x.n, x.r, x.rv⟩
/-- What the loop of readRecords keeps. -/
def RrI (w : World) (B B4 B5 : Nat) (pre : List El) (W : World) : Prop :=
  (∃ rv, Boxed W B4 93 rv ∧ W.ownsRow B 81 2 rv pre.length (fl e2 (pre.map rcE))) ∧ Boxed W B5 3 (.int .i64 (lastE pre : Int)) ∧ (Below w.heap.size w W ∧ B ≤ W.heap.size) ∧ ∀ x, pre.getLast? = some x → ∃ (c : Array Value) (t : TypeId) (f : Nat × Nat), W.heap[x.g]? = some (.cells c t f)
theorem RrI.from {B B4 B5 : Nat} {pre : List El} {W W' : World} {row : Option Nat} (h : RrI w B B4 B5 pre W) (hg : W.grownBy W' row) (hr : ∀ r, row = some r → w.heap.size ≤ r ∧ ∃ o : Obj, W.heap[r]? = some o ∧ o.isCells = false) : RrI w B B4 B5 pre W' := by
  obtain ⟨⟨rv, h1, h2⟩, h4, h5, h6⟩ := h
  have hr2 := fun r e => (hr r e).2
  exact ⟨⟨rv, (grown_cells hg hr2 h1).trans h1, grown_own hg hr2 h2⟩, (grown_cells hg hr2 h4).trans h4, ⟨h5.1.grown hg h5.1.size (fun q hq => (hr q hq).1), Nat.le_trans h5.2 hg.size⟩, fun x hx => by
    obtain ⟨c, t, f, e⟩ := h6 x hx
    exact ⟨c, t, f, (grown_cells hg hr2 e).trans e⟩⟩
theorem RrI.later {B B4 B5 : Nat} {pre : List El} {W W' : World} (h : RrI w B B4 B5 pre W) (hb : Below W.heap.size W W') : RrI w B B4 B5 pre W' :=
  h.from (row := none) ⟨hb.os, hb.tape, hb.output, hb.size, fun q hq _ => hb.block q hq⟩ (fun r e => nomatch e)
/-- What an append behind a row of records keeps. -/
theorem rrW {W w9 : World} {B : Nat} {v : Value} {n : Nat} {xs us : List Value} (h : W.ownsRow B 81 2 v n xs) (hb : B ≤ W.heap.size) (hg : (W.alloc (.cells us.toArray 81)).grownBy w9 v.ownBlock) :
    (∀ (q : Nat), q < W.heap.size → v.ownBlock ≠ some q → w9.heap[q]? = W.heap[q]?) ∧ Below B W w9 ∧ KeepsOthers W w9 := by
  have hbA := bel1 W (.cells us.toArray 81)
  have hbW : Below B W w9 := (hbA.mono hb).grown hg (Nat.le_trans hb hbA.size) (fun q hq => (h.lt q hq).1)
  refine ⟨fun q hlt hq => ?_, hbW, hbW.size, fun k o hk ho => ?_⟩
  · rw [hg.block q (by simp; omega) (fun e => hq e.symm)]
    exact hbA.block q hlt
  · have hlt := (Array.getElem?_eq_some_iff.1 hk).1
    rw [hg.block k (by simp; omega) (fun e => ?_)]
    · exact (hbA.block k hlt).trans hk
    · obtain ⟨cur, hc⟩ := own_tag h e.symm
      rw [hk] at hc
      cases hc
      cases ho
theorem still_of_quiet {P : Program} {ops : Array Oper} {W : World} {Q : Act → Prop} : ∀ (l : List Oper) (a : Act), wpQuiet P ops (fun w' => w' = W) Q l a → wpStill P ops W Q l a
  | [], a, h => h
  | o :: l, a, h => by
    unfold wpQuiet at h
    unfold wpStill
    split
    · rename_i hw
      rw [if_pos hw] at h
      obtain ⟨v, h1, h2⟩ := h
      have h3 := h1 W rfl
      have h4 := still_of_quiet l _ h2
      unfold Oper.quietAt at h3
      unfold Oper.still
      generalize (execOp a.eval o).run P W = r at h3
      cases r with
      | ok n w' =>
        cases n with
        | value u => obtain ⟨e1, e2⟩ := h3; subst e1; subst e2; exact ⟨rfl, h4⟩
        | skip => obtain ⟨e1, e2⟩ := h3; subst e1; subst e2; exact ⟨rfl, h4⟩
        | enter f args => obtain ⟨e1, e2⟩ := h3; subst e1; exact ⟨rfl, v, e2, h4⟩
        | _ => exact h3.elim
      | halt x w' => exact h3.elim
    · rename_i hw
      rw [if_neg hw] at h
      exact still_of_quiet l _ h
theorem cat_log : tx [97] ++ (⟨#[46, 108, 111, 103]⟩ : ByteArray) = tx nLog := by decide
theorem cat_ckp : tx [97] ++ (⟨#[46, 99, 107, 112]⟩ : ByteArray) = tx nCkp := by decide
theorem cat_new : tx nCkp ++ (⟨#[46, 110, 101, 119]⟩ : ByteArray) = tx nNew := by decide
end Go.Proofs.Ytflhgphjkhplmaa.D
