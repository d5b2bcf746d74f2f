import Derived.Test.YtflhgphjkhplmaaMC07
import Derived.Test.YtflhgphjkhplmaaMC05
import Derived.BigQuiet
import Derived.Test.YtflhgphjkhplmaaMC06
import Derived.Laws.IdiomRangeMap
/- How many writes are pending. -/
namespace Go.Proofs.Ytflhgphjkhplmaa.D
open Go.RowKit
set_option linter.unusedVariables false
set_option linter.unusedSimpArgs false

variable {w w' : World} {D K : Nat} {F : Nat → Prop} {sy : Int} {dl : List Fd} {s s' : List UInt8} {x : Fd} {tl : List Tn}
def wsN (dl : List Fd) (s : List UInt8) : Nat := match lkF s dl with | some x => x.ws.length | none => 0
def totW (dl : List Fd) : Nat := (dl.map fun x => x.ws.length).sum
theorem sum_perm {a b : List Nat} (h : a.Perm b) : a.sum = b.sum := h.sum_nat
/-- An entry's file. -/
theorem DX.entry (h : DX w D K sy tl) (hp : (tl.map pl).Perm dl) {es : List En} (hpm : (prs es).Perm (mlT tl)) {e : En} (he : e ∈ es) : ∃ t ∈ tl, t.nm = e.nm ∧ t.L = e.q ∧ lkF e.nm dl = some (pl t) := by
  have hmem : (e.nm, e.q) ∈ mlT tl := hpm.mem_iff.1 (List.mem_map.2 ⟨e, he, rfl⟩)
  obtain ⟨t, ht, e1⟩ := List.mem_map.1 hmem
  obtain ⟨e2, e3⟩ := Prod.mk.inj e1
  have hnd : (dl.map Fd.nm).Nodup := by
    rw [← (hp.map Fd.nm).nodup_iff, pl_nm]
    exact h.nd
  have hx : pl t ∈ dl := hp.mem_iff.1 (List.mem_map.2 ⟨t, ht, rfl⟩)
  have := lkF_of hnd hx
  refine ⟨t, ht, e2, e3, ?_⟩
  rw [← e2]
  exact this
theorem wsN_sum (h : DX w D K sy tl) (hp : (tl.map pl).Perm dl) {es : List En} (hpm : (prs es).Perm (mlT tl)) : (es.map fun e => wsN dl e.nm).sum = totW dl := by
  have hnd : (dl.map Fd.nm).Nodup := by
    rw [← (hp.map Fd.nm).nodup_iff, pl_nm]
    exact h.nd
  have e1 : (es.map fun e => wsN dl e.nm) = (prs es).map fun p => wsN dl p.1 := by unfold prs; rw [List.map_map]; rfl
  have e2 : ((mlT tl).map fun p => wsN dl p.1) = (tl.map pl).map fun x => wsN dl x.nm := by unfold mlT; rw [List.map_map, List.map_map]; rfl
  rw [e1, sum_perm (hpm.map _), e2, sum_perm (hp.map _)]
  unfold totW
  congr 1
  refine List.map_congr_left fun x hx => ?_
  unfold wsN
  rw [lkF_of hnd hx]
def iLeft (es : List En) (w : World) (r : Nat) : Nat := match w.heap[r]? with | some (.mapIter _ _ seen _) => (rest es seen).length | _ => 0
theorem iLeft_at {es : List En} {r c k : Nat} {m : Option Nat} {seen : Array Nat} (h : w.heap[r]? = some (.mapIter m c seen k)) : iLeft es w r = (rest es seen).length := by
  unfold iLeft
  rw [h]
end Go.Proofs.Ytflhgphjkhplmaa.D

/- What a crash leaves of a file: plain; runs of make and min. -/
namespace Go.Proofs.Ytflhgphjkhplmaa.D
open Go.RowKit
set_option linter.unusedVariables false
set_option linter.unusedSimpArgs false

theorem row_at {w : World} {base g cap t : Nat} {f : Int → Value} {l : List Int} (h : w.ownsRow base t 1 (.slice (some ⟨g, 0, none⟩) l.length cap) l.length (l.map f)) (i : Nat) (x : Int) (hi : l[i]? = some x) : w.cell? ⟨g, i, none⟩ = some (f x) := by
  have hlt : i < l.length := (List.getElem?_eq_some_iff.1 hi).1
  rw [h.cellAt i (by omega), List.getElem?_map, hi]
  rfl
def uV (k : Int) : Value := .int .u8 k
theorem u8l_uV (b : List Int) : u8l b = b.map uV := rfl

/-- Where a file's bytes are safe. -/
def safeN (b ws : List Int) : Int := match ws with | [] => (b.length : Int) | x :: _ => x
/-- Do writes stand one behind the other? -/
def WsOk (n : Nat) (ws : List Int) : Prop := ∀ i, i < ws.length → 0 ≤ ws.getD i 0 ∧ ws.getD i 0 ≤ endI n ws i ∧ endI n ws i ≤ (n : Int)
/-- How many bytes of a write are kept. -/
def cwN (b ws ns : List Int) (i : Nat) : Int := min (ns.getD i 0) (endI b.length ws i - ws.getD i 0)
def wAt (ws : List Int) (i : Nat) : Nat := (ws.getD i 0).toNat
def crStep (b : List Int) (p : Nat) (k : Int) (st : List Int × Nat) : List Int × Nat := if 0 < k then (splice st.1 p ((b.drop p).take k.toNat), p + k.toNat) else st
def crS (b ws ns : List Int) : Nat → List Int × Nat
  | 0 => (splice (List.replicate b.length 0) 0 (b.take (safeN b ws).toNat), (safeN b ws).toNat)
  | i + 1 => crStep b (wAt ws i) (cwN b ws ns i) (crS b ws ns i)
/-- What is left. -/
def crB (b ws ns : List Int) : List Int := (crS b ws ns ws.length).1.take (crS b ws ns ws.length).2
theorem safe_ok {b ws : List Int} (h : WsOk b.length ws) : 0 ≤ safeN b ws ∧ safeN b ws ≤ (b.length : Int) := by
  cases ws with
  | nil => exact ⟨Int.natCast_nonneg _, Int.le_refl _⟩
  | cons x r =>
    have := h 0 (by simp)
    simp at this
    unfold safeN
    dsimp only
    omega
theorem crS_len {b ws ns : List Int} (h : WsOk b.length ws) : ∀ i, i ≤ ws.length → (crS b ws ns i).1.length = b.length ∧ (crS b ws ns i).2 ≤ b.length
  | 0, _ => by
    have := safe_ok h
    unfold crS
    refine ⟨?_, by dsimp only; omega⟩
    dsimp only
    rw [length_splice] <;> simp <;> omega
  | i + 1, hi => by
    obtain ⟨h1, h2⟩ := crS_len (ns := ns) h i (by omega)
    obtain ⟨w0, w1, w2⟩ := h i (by omega)
    unfold crS crStep
    split
    · rename_i hk
      have hk2 : cwN b ws ns i ≤ endI b.length ws i - ws.getD i 0 := Int.min_le_right _ _
      refine ⟨?_, by dsimp only; unfold wAt; omega⟩
      dsimp only
      rw [length_splice, h1]
      rw [List.length_take, List.length_drop]
      unfold wAt
      omega
    · exact ⟨h1, h2⟩
theorem crB_len {b ws ns : List Int} (h : WsOk b.length ws) : (crB b ws ns).length = (crS b ws ns ws.length).2 := by
  have := crS_len (ns := ns) h ws.length (Nat.le_refl _)
  unfold crB
  rw [List.length_take]
  omega
/-- Where there is no number, nothing is kept. -/
theorem crS_stop {b ws ns : List Int} : ∀ (j i : Nat), ns.length ≤ i → crS b ws ns (i + j) = crS b ws ns i
  | 0, i, _ => rfl
  | j + 1, i, h => by
    rw [show i + (j + 1) = i + j + 1 by omega, crS, crS_stop j i h]
    have : cwN b ws ns (i + j) ≤ 0 := by
      unfold cwN
      rw [List.getD_eq_getElem?_getD, List.getElem?_eq_none (by omega)]
      exact Int.min_le_left _ _
    unfold crStep
    rw [if_neg (by omega)]
theorem crS_min (b ws ns : List Int) : crS b ws ns (min ns.length ws.length) = crS b ws ns ws.length := by
  by_cases h : ns.length ≤ ws.length
  · rw [Nat.min_eq_left h]
    have := crS_stop (b := b) (ws := ws) (ns := ns) (ws.length - ns.length) ns.length (Nat.le_refl _)
    rw [← this]
    congr 1
    omega
  · rw [Nat.min_eq_right (by omega)]
theorem u8l_splice (a c : List Int) (p : Nat) : u8l (splice a p c) = splice (u8l a) p (u8l c) := by simp [u8l, splice, List.map_take, List.map_drop]
theorem made_u8 (n : Nat) : madeCells (Value.int .u8 0).cells n = (u8l (List.replicate n 0)).toArray := by
  apply Array.toList_inj.1
  apply List.ext_getElem?
  intro i
  by_cases h : i < n
  · simp [madeCells, u8l, h, Value.cells, Nat.mod_one]
  · simp [madeCells, u8l, h]
theorem make_any (n : Nat) (hn : n ≤ 2000000) (w : World) : (Instr.makeSlice 23 (.int .i64 (n : Int)) (.int .i64 (n : Int))).run Try.prog w = .ok (.slice (some ⟨w.heap.size, 0, none⟩) n n) (w.alloc (.cells (u8l (List.replicate n 0)).toArray 5)) := by
  obtain ⟨i0, hi, hz0, hz1, hz2⟩ := info_parts info5
  have h := run_make (P := Try.prog) w 23 5 i0 _ Try.underlying23 hi hz0 .i64 .i64 (n : Int) (n : Int) (by omega) (Int.le_refl _) (by rw [hz2]; omega) (by omega)
  rw [h, hz1]
  simp only [Int.toNat_natCast, Nat.mul_one]
  rw [made_u8]
end Go.Proofs.Ytflhgphjkhplmaa.D

/- A file is crashed. -/
namespace Go.Proofs.Ytflhgphjkhplmaa.D
open Go.RowKit
set_option linter.unusedVariables false
set_option linter.unusedSimpArgs false

variable {w w' : World}
/-- Numbers as they lie, in blocks that are there. -/
def NumsAt (w : World) (v : Value) (ns : List Int) : Prop := ∃ a cap, v = .slice a ns.length cap ∧ ns.length ≤ cap ∧ ∀ (i : Nat) (x : Int), ns[i]? = some x → ∃ b off, a = some ⟨b, off, none⟩ ∧ b < w.heap.size ∧ w.cell? ⟨b, off + i, none⟩ = some (iV x)
theorem NumsAt.later {v : Value} {ns : List Int} {B : Nat} (h : NumsAt w v ns) (hb : Below B w w') (hB : w.heap.size ≤ B) : NumsAt w' v ns := by
  obtain ⟨a, cap, h1, h2, h3⟩ := h
  refine ⟨a, cap, h1, h2, fun i x hi => ?_⟩
  obtain ⟨b, off, e1, e2, e3⟩ := h3 i x hi
  exact ⟨b, off, e1, by have := hb.size; omega, (hb.cell (p := ⟨b, off + i, none⟩) (by show b < B; omega)).trans e3⟩
/-- What a crash's loop keeps: the file lies as it lay, and the new row has what is kept. -/
structure KI (w wx : World) (k : Nat) (cur : List Int) : Prop where
  row : wx.heap[k]? = some (.cells (u8l cur).toArray 5 (0, 0))
  be : Below k w wx
/-- Bytes that can be copied into a row. -/
structure CpOk (W : World) (k p : Nat) (dp : Option Addr) (cs : List Int) (N L : Nat) : Prop where
  l : (u8l cs).length = N
  c : 0 < (u8l cs).length → (some ⟨k, p, none⟩ : Option Addr) = some ⟨k, p, none⟩ ∧ ∃ ad, dp = some ad ∧ ∀ j v, (u8l cs)[j]? = some v → W.cell? (ad.add j) = some v
  f : p + (u8l cs).length ≤ L
theorem getD_at {l : List Int} {i : Nat} (h : i < l.length) : l[i]? = some (l.getD i 0) := by
  rw [List.getD_eq_getElem?_getD, List.getElem?_eq_getElem h]
  rfl
set_option maxRecDepth 20000 in
set_option maxHeartbeats 4000000 in
theorem crash_any {f : Nat} {G : Nat → Prop} {b ws ns : List Int} {nv : Value} (h : FL w f G b ws) (hl : b.length ≤ 2000000) (hm : ws.length ≤ 2000000) (hok : WsOk b.length ws) (hn : NumsAt w nv ns) (hnl : (ns.length : Int) ≤ 140737488351232) :
    Calls Try.prog 70 #[.pointer (some ⟨f, 0, none⟩), nv] w fun e w' => (∃ v, e = .returned v) ∧ ∃ G', FL w' f G' (crB b ws ns) [] ∧ Fr G G' w w' := by
  have HFL : Hid (FL w f G b ws) := h
  have HNS : Hid (NumsAt w nv ns) := hn
  obtain ⟨dv, bv, g1, g2, g3, g4⟩ := h
  obtain ⟨na, nc, rfl, hnc, hcells⟩ := hn
  obtain ⟨da, dc, rfl⟩ := own_slice g2
  obtain ⟨ba, bc, rfl⟩ := own_slice g3
  have hdc := own_capv g2
  have hbc := own_capv g3
  have hlt : f < w.heap.size := (Array.getElem?_eq_some_iff.1 g1).1
  obtain ⟨W, hW⟩ : ∃ W, w.alloc (.cells (u8l (List.replicate b.length 0)).toArray 5) = W := ⟨_, rfl⟩
  have hmk := make_any b.length hl w
  rw [hW] at hmk
  have hB : Below w.heap.size w W := by rw [← hW]; exact bel1 _ _
  have HK0 : Hid (KI w W w.heap.size (List.replicate b.length 0)) := ⟨by rw [← hW]; exact Go.heap_alloc_new _ _, hB⟩
  have HC : Hid (∀ V, Below w.heap.size w V → V.cell? ⟨f, 0, none⟩ = some (.slice da b.length dc) ∧ V.cell? ⟨f, 1, none⟩ = some (.slice ba ws.length bc)) := fun V hV => by
    have r := (hV.block f hlt).trans g1
    exact ⟨by rw [cell_of_row _ _ _ _ _ _ r]; rfl, by rw [cell_of_row _ _ _ _ _ _ r]; rfl⟩
  have c0 : w.cell? ⟨f, 0, none⟩ = some (.slice da b.length dc) := (HC.out w (Below.refl _ _)).1
  obtain ⟨d0, d1⟩ := HC.out W hB
  obtain ⟨k, hk⟩ : ∃ k, w.heap.size = k := ⟨_, rfl⟩
  have HKK : Hid (w.heap.size = k) := hk
  have HOK : Hid (WsOk b.length ws ∧ 0 ≤ safeN b ws ∧ safeN b ws ≤ (b.length : Int)) := ⟨hok, safe_ok hok⟩
  have hs0 := (safe_ok hok).1
  have hs1 := (safe_ok hok).2
  obtain ⟨s0, hs⟩ : ∃ s0 : Nat, (safeN b ws).toNat = s0 := ⟨_, rfl⟩
  have hsi : safeN b ws = (s0 : Int) := by omega
  have HS : Hid (safeN b ws = (s0 : Int)) := hsi
  obtain ⟨n, hnn⟩ : ∃ n, b.length = n := ⟨_, rfl⟩
  obtain ⟨m, hmm⟩ : ∃ m, ws.length = m := ⟨_, rfl⟩
  obtain ⟨N, hNN⟩ : ∃ N, ns.length = N := ⟨_, rfl⟩
  have HN : Hid (b.length = n ∧ ws.length = m ∧ ns.length = N) := ⟨hnn, hmm, hNN⟩
  have hmi : (m : Int) ≤ (bc : Int) := by omega
  have hni : (n : Int) ≤ (dc : Int) := by omega
  have hl' : (n : Int) ≤ 2000000 := by omega
  have hm' : (m : Int) ≤ 2000000 := by omega
  have hnl' : (N : Int) ≤ 140737488351232 := by omega
  rw [hnn] at c0 d0 HC hmk HK0 hs1
  rw [hmm] at d1 HC
  rw [hNN]
  rw [hk] at hmk HK0 HC
  have hsn : (s0 : Int) ≤ (n : Int) := by omega
  have hsd : (s0 : Int) ≤ (dc : Int) := by omega
  have HG : Hid (w.ownsRow 0 5 1 (.slice da b.length dc) b.length (u8l b) ∧ w.ownsRow 0 3 1 (.slice ba ws.length bc) ws.length (ws.map iV)) := ⟨g2, g3⟩
  clear hW hB hok hs0 hs1 hsi hs hnn hmm hNN hcells g1 g2 g3 g4 hl hm hnl hdc hbc hnc hlt
  go_enter Try.func70, Try.ntmps70
  go_upto_if 25 with (fail)
  go_cut [5] from 5 to 5 (fun c wx => c = .int .i64 (s0 : Int) ∧ wx = W)
  case first =>
    by_cases hw0 : m = 0
    · subst hw0
      have e0 : (n : Int) = (s0 : Int) := by
        have h1 := HN.out
        have h2 := HS.out
        have : ws = [] := List.eq_nil_of_length_eq_zero h1.2.1
        rw [this] at h2
        have h3 : (b.length : Int) = (s0 : Int) := h2
        omega
      go_wp2_with fail
      go_meet
      exact ⟨by rw [← e0], rfl⟩
    · have hmp : (0 : Int) < (m : Int) := by omega
      obtain ⟨x, r, hxr⟩ : ∃ x r, ws = x :: r := by
        cases ws with
        | nil => exact absurd HN.out.2.1.symm hw0
        | cons x r => exact ⟨x, r, rfl⟩
      have hx : x = (s0 : Int) := by
        have h2 := HS.out
        rw [hxr] at h2
        exact h2
      obtain ⟨g, cp, hv⟩ := own_form HG.out.2 (by have := HN.out.2.1; omega)
      obtain ⟨hba, -, -⟩ := Value.slice.inj hv
      subst hba
      have z0 : W.cell? ⟨g, 0, none⟩ = some (.int .i64 (s0 : Int)) := by
        have := row_at (f := iV) (own_at HG.out.2 fun q hq => HK0.out.be.block q (by have := (HG.out.2.lt q hq).2; rw [HKK.out] at this; exact this)) 0 x (by rw [hxr]; rfl)
        rw [this, hx]
        rfl
      clear hv hxr hx hw0
      go_wp2_with fail
      go_meet
      exact ⟨rfl, rfl⟩
  obtain ⟨rfl, hwc⟩ := hcut
  rw [hwc]
  clear hwc
  have HSRC : Hid (∀ (p : Nat) (cs : List Int), (∀ j x, cs[j]? = some x → b[p + j]? = some x) → 0 < (u8l cs).length → ∃ g, da = some ⟨g, 0, none⟩ ∧ ∀ V, Below k w V → ∀ j v, (u8l cs)[j]? = some v → V.cell? ((⟨g, p, none⟩ : Addr).add j) = some v) := by
    intro p cs hcs hpos
    obtain ⟨x, hx⟩ : ∃ x, cs[0]? = some x := ⟨_, List.getElem?_eq_getElem (by simpa [u8l] using hpos)⟩
    have hb0 := (List.getElem?_eq_some_iff.1 (hcs 0 x hx)).1
    obtain ⟨g, cp, hv⟩ := own_form HG.out.1 (by omega)
    obtain ⟨hba, -, -⟩ := Value.slice.inj hv
    subst hba
    refine ⟨g, rfl, fun V hV j v hv => ?_⟩
    obtain ⟨y, hy, rfl⟩ : ∃ y, cs[j]? = some y ∧ uV y = v := by
      rw [u8l_uV, List.getElem?_map] at hv
      exact Option.map_eq_some_iff.1 hv
    have hrow : V.ownsRow 0 5 1 (.slice (some ⟨g, 0, none⟩) b.length dc) b.length (b.map uV) := own_at HG.out.1 fun q hq => hV.block q (by have := (HG.out.1.lt q hq).2; rw [HKK.out] at this; exact this)
    have := row_at (f := uV) hrow (p + j) y (hcs j y hy)
    rw [Addr.add_mid]
    exact this
  have HT0 : Hid (u8l (b.take s0) = u8l (b.take s0) ∧ (u8l (b.take s0)).length = s0) := ⟨rfl, by simp [u8l]; have := HN.out.1; omega⟩
  have HCR0 : Hid (crS b ws ns 0 = (splice (List.replicate n 0) 0 (b.take s0), s0)) := by
    show _ = _
    unfold crS
    rw [HN.out.1, HS.out]
    rfl
  have hP1 : (u8l (b.take s0)).length = Nat.min s0 n := by rw [HT0.out.2]; exact (Nat.min_eq_left (by omega)).symm
  have hP2 : 0 < (u8l (b.take s0)).length → (some ⟨k, 0, none⟩ : Option Addr) = some ⟨k, 0, none⟩ ∧ ∃ ad, da = some ad ∧ ∀ j v, (u8l (b.take s0))[j]? = some v → W.cell? (ad.add j) = some v := fun hp => by
    obtain ⟨g, e1, e2⟩ := HSRC.out 0 (b.take s0) (fun j x hj => by
      rw [Nat.zero_add]
      rw [List.getElem?_take] at hj
      split at hj
      · exact hj
      · cases hj) hp
    exact ⟨rfl, _, e1, e2 _ HK0.out.be⟩
  have hP3 : 0 + (u8l (b.take s0)).length ≤ (u8l (List.replicate n 0)).length := by rw [HT0.out.2]; simp [u8l]; omega
  have HP : Hid (CpOk W k 0 da (b.take s0) (Nat.min s0 n) (u8l (List.replicate n 0)).length) := ⟨hP1, hP2, hP3⟩
  clear hP1 hP2 hP3
  go_wp2_with (refine wpList_copy_splice rfl (.tmp 32) (.tmp 38) 23 23 rfl 5 Try.underlying23 size5 (some ⟨k, 0, none⟩) da n n s0 dc rfl rfl k 0 (u8l (List.replicate n 0)) 5 HK0.out.row (u8l (b.take s0)) HP.out.l HP.out.c HP.out.f (u8l_one _) k w HK0.out.be (Nat.le_refl _) ?_; intro w1 hg1 hb1; (have HK1 : Hid (KI w w1 k (crS b ws ns 0).1) := ⟨by rw [HCR0.out, u8l_splice]; exact hg1.out, hb1⟩); clear hg1 hb1)
  obtain ⟨q, hq⟩ : ∃ q : Nat, (if (m : Int) < (N : Int) then (m : Int) else (N : Int)) = (q : Int) := by
    split
    · exact ⟨m, rfl⟩
    · exact ⟨N, rfl⟩
  have hqm : (q : Int) ≤ (m : Int) := by split at hq <;> omega
  have HQ : Hid (q = min N m) := by show q = min N m; split at hq <;> omega
  have hqb : (q : Int) ≤ (bc : Int) := by omega
  obtain ⟨f0, f1⟩ := HC.out w1 HK1.out.be
  clear HT0 HP d0 d1 c0 hmk
  go_cut [52, 53, 54] from 52 to 54 (fun x y z wx => x = .slice ba q bc ∧ y = .int .i64 (q : Int) ∧ z = .int .i64 0 ∧ Hid (KI w wx k (crS b ws ns 0).1))
  case first =>
    by_cases hmn : (m : Int) < (N : Int)
    · rw [if_pos hmn] at hq
      obtain rfl : m = q := by omega
      go_quiet (fail)
      go_wp2_with fail
      go_meet
      exact ⟨rfl, rfl, rfl, HK1.out.row, HK1.out.be.os, HK1.out.be.tape, HK1.out.be.output, HK1.out.be.size, HK1.out.be.block⟩
    · rw [if_neg hmn] at hq
      obtain rfl : N = q := by omega
      go_quiet (fail)
      go_wp2_with fail
      go_meet
      exact ⟨rfl, rfl, rfl, HK1.out.row, HK1.out.be.os, HK1.out.be.tape, HK1.out.be.output, HK1.out.be.size, HK1.out.be.block⟩
  obtain ⟨rfl, rfl, rfl, HK2⟩ := hcut
  clear HK1 hq f0 f1
  go_wp2_with fail
  go_loopw [54, 5, 6, 7, 8] (fun i e x y z wx => ∃ j : Nat, j ≤ q ∧ i = .int .i64 (j : Int) ∧ e = .int .i64 ((crS b ws ns j).2 : Int) ∧ Hid (KI w wx k (crS b ws ns j).1)) (fun i e x y z wx => q - (intOf i).toNat)
  case atStart => exact ⟨0, Nat.zero_le _, rfl, by rw [HCR0.out], HK2⟩
  case round =>
    obtain ⟨j, hj, rfl, rfl, HI⟩ := hrel
    by_cases hjq : j < q
    · have hjm : j < m := by omega
      have hjN : j < N := by have := HQ.out; omega
      have hjq' : (j : Int) < (q : Int) := by omega
      have hjc : (j : Int) < (bc : Int) := by omega
      have hjN' : (j : Int) < (N : Int) := by omega
      have HJ : Hid (j < q ∧ j < m ∧ j < N) := ⟨hjq, hjm, hjN⟩
      obtain ⟨ok0, ok1, ok2⟩ := HOK.out.1 j (by have := HN.out; omega)
      obtain ⟨p, hp⟩ : ∃ p : Nat, wAt ws j = p := ⟨_, rfl⟩
      have hpi : ws.getD j 0 = (p : Int) := by unfold wAt at hp; omega
      obtain ⟨E, hE⟩ : ∃ E, endI b.length ws j = E := ⟨_, rfl⟩
      obtain ⟨x, hx⟩ : ∃ x, ns.getD j 0 = x := ⟨_, rfl⟩
      rw [hpi] at ok0 ok1
      rw [hE] at ok1 ok2
      rw [HN.out.1] at ok2
      have HPE : Hid (wAt ws j = p ∧ ws.getD j 0 = (p : Int) ∧ endI b.length ws j = E ∧ ns.getD j 0 = x) := ⟨hp, hpi, hE, hx⟩
      obtain ⟨K, hK⟩ : ∃ K, cwN b ws ns j = K := ⟨_, rfl⟩
      have HKD : Hid (cwN b ws ns j = K) := hK
      have hKe : (if E - (p : Int) < x then E - (p : Int) else x) = K := by
        rw [← hK]
        unfold cwN
        rw [hpi, hE, hx, Int.min_def]
        split <;> split <;> omega
      have hKle : K ≤ E - (p : Int) := by split at hKe <;> omega
      obtain ⟨g, cp, hv⟩ := own_form HG.out.2 (by have := HN.out; omega)
      obtain ⟨hba, -, -⟩ := Value.slice.inj hv
      subst hba
      have z0 : wr.cell? ⟨g, j, none⟩ = some (.int .i64 (p : Int)) := by
        have := row_at (f := iV) (own_at HG.out.2 fun q hq => HI.out.be.block q (by have := (HG.out.2.lt q hq).2; rw [HKK.out] at this; exact this)) j (p : Int) (by rw [← hpi]; exact getD_at (by have := HN.out; omega))
        exact this
      obtain ⟨na', nc', hnv, hncc, hcl⟩ := HNS.out.later HI.out.be (by rw [HKK.out]; exact Nat.le_refl _)
      obtain ⟨hna, -, hnc⟩ := Value.slice.inj hnv
      subst hna
      subst hnc
      obtain ⟨nb, no, hnb, -, n0⟩ := hcl j x (by rw [← hx]; exact getD_at (by have := HN.out; omega))
      subst hnb
      have n0' : wr.cell? ⟨nb, no + j, none⟩ = some (.int .i64 x) := n0
      have hw1 : IntKind.i64.wrap (E - (p : Int)) = E - (p : Int) := by rw [IntKind.wrap_i64]; omega
      have HE : Hid (∀ V, Below k w V → Calls Try.prog 89 #[.pointer (some ⟨f, 0, none⟩), .int .i64 (j : Int)] V fun e w' => e = .returned (.int .i64 E) ∧ ∃ n, w' = V.drewN n) := fun V hV => by
        obtain ⟨dv, bv, g1, g2, g3, g4⟩ := HFL.out.at' fun q hq => hV.block q (by have := HFL.out.lt q hq; rw [HKK.out] at this; exact this)
        obtain ⟨da', dc', rfl⟩ := own_slice g2
        refine (end_any f da' dc' b.length 0 j bv ws V g1 g3 (by have := HN.out; omega) (by have := HN.out; omega)).mono ?_
        rintro e w' ⟨rfl, rfl⟩
        exact ⟨by rw [← HPE.out.2.2.1], 0, rfl⟩
      obtain ⟨f0, f1⟩ := HC.out wr HI.out.be
      clear hv hjq hjm hjN hp hpi hE hx hK hnv hncc hcl n0 hj
      go_upto_region 8 with (fail)
      go_cut [8] from 8 to 8 (fun c wx => c = .int .i64 K ∧ Hid (KI w wx k (crS b ws ns j).1))
      case first =>
        have HQD : Hid (∀ m, KI w (wr.drewN m) k (crS b ws ns j).1) := fun m => ⟨HI.out.row, HI.out.be.os, HI.out.be.tape, HI.out.be.output, HI.out.be.size, HI.out.be.block⟩
        by_cases hlt : E - (p : Int) < x
        · rw [if_pos hlt] at hKe
          subst hKe
          go_quiet (first | (go_at_call 89; refine Calls.quiet_of (HE.out _ ?_); exact (HQD.out _).be))
          go_wp2_with fail
          go_meet
          exact ⟨rfl, HQD.out _⟩
        · rw [if_neg hlt] at hKe
          subst hKe
          go_quiet (first | (go_at_call 89; refine Calls.quiet_of (HE.out _ ?_); exact (HQD.out _).be))
          go_wp2_with fail
          go_meet
          exact ⟨rfl, HQD.out _⟩
      obtain ⟨rfl, HI2⟩ := hcut
      obtain ⟨w2, hw2⟩ : ∃ w2, wc = w2 := ⟨_, rfl⟩
      rw [hw2] at HI2 ⊢
      clear hw2 HE z0 n0' f0 f1 hKe hw1
      by_cases hKp : 0 < K
      · obtain ⟨κ, rfl⟩ : ∃ κ : Nat, K = (κ : Int) := ⟨K.toNat, by omega⟩
        have hKp' : (0 : Int) < (κ : Int) := hKp
        obtain ⟨h, hh⟩ : ∃ h : Nat, p + κ = h := ⟨_, rfl⟩
        have hhi : (p : Int) + (κ : Int) = (h : Int) := by omega
        have hwr : IntKind.i64.wrap ((p : Int) + (κ : Int)) = (h : Int) := by rw [IntKind.wrap_i64]; omega
        have hhn : (h : Int) ≤ (n : Int) := by omega
        have hhd : (h : Int) ≤ (dc : Int) := by omega
        have hpn : (p : Int) ≤ (n : Int) := by omega
        have hph : (p : Int) ≤ (h : Int) := by omega
        have hne : ¬ n = p := by omega
        have hnd : ¬ dc = p := by omega
        obtain ⟨hcl1, hcl2⟩ := crS_len (ns := ns) HOK.out.1 j (by have := HN.out; have := HJ.out; omega)
        have HU : Hid (CpOk w2 k p (match da with | some a => some ⟨a.block, p, none⟩ | none => none) ((b.drop p).take κ) κ n) := by
          have hl1 : (u8l ((b.drop p).take κ)).length = κ := by
            simp [u8l]
            have := HN.out
            omega
          refine ⟨hl1, fun hp => ?_, by rw [hl1]; omega⟩
          obtain ⟨g, e1, e2⟩ := HSRC.out p ((b.drop p).take κ) (fun j x hj => by
            rw [List.getElem?_take] at hj
            split at hj
            · rw [List.getElem?_drop] at hj
              exact hj
            · cases hj) hp
          subst e1
          exact ⟨rfl, _, rfl, e2 _ HI2.out.be⟩
        obtain ⟨g', cp', hv'⟩ := own_form HG.out.1 (by have := HN.out; omega)
        obtain ⟨hba', -, -⟩ := Value.slice.inj hv'
        subst hba'
        have HCL : Hid ((u8l (crS b ws ns j).1).length = n) := by
          show _ = _
          rw [← HN.out.1, ← hcl1]
          simp [u8l]
        have HNX : Hid (crS b ws ns (j + 1) = (splice (crS b ws ns j).1 p ((b.drop p).take κ), h)) := by
          show _ = _
          rw [crS, HKD.out, HPE.out.1]
          unfold crStep
          rw [if_pos hKp, Int.toNat_natCast, hh]
        obtain ⟨f0, -⟩ := HC.out w2 HI2.out.be
        have HCUT : Hid ((h - p : Nat) = κ) := by show _ = _; omega
        clear hv' hh hcl1 hcl2 hKle ok0 ok1 ok2 hhi
        obtain ⟨e2, he2⟩ : ∃ e2, (crS b ws ns j).2 = e2 := ⟨_, rfl⟩
        rw [he2]
        go_upto_region 10 with (fail)
        go_region_law (refine step_copy_splice rfl (.tmp 74) (.tmp 83) 23 23 rfl 5 Try.underlying23 size5 (some ⟨k, p, none⟩) (some ⟨g', p, none⟩) (n - p) (n - p) (h - p) (dc - p) (by simp [Act.eval, Act.put]) (by simp [Act.eval, Act.put]) k p (u8l (crS b ws ns j).1) 5 HI2.out.row (u8l ((b.drop p).take κ)) (by rw [HU.out.l, HCUT.out]; exact (Nat.min_eq_left (by have := HCUT.out; omega)).symm) HU.out.c (by rw [HCL.out]; exact HU.out.f) (u8l_one _) k w (by repeat (first | exact HI2.out.be | refine Below.drew ?_)) (Nat.le_refl _) ?_; intro w6 hg6 hb6; (have HK6 : Hid (KI w w6 k (crS b ws ns (j + 1)).1) := ⟨by rw [HNX.out, u8l_splice]; exact hg6.out, hb6⟩); clear hg6 hb6)
        all_goals
          rw [HU.out.l, hwr]
          go_wp2_with fail
          go_roundw
          case rel => exact ⟨j + 1, by have := HJ.out; omega, by go_num, by rw [HNX.out], HK6.out⟩
          case measure => have := HJ.out; simp [intOf]; omega
      · have hKp' : ¬ K > 0 := hKp
        have HNX : Hid (crS b ws ns (j + 1) = crS b ws ns j) := by
          show _ = _
          rw [crS, HKD.out]
          unfold crStep
          rw [if_neg hKp]
        go_wp2_with fail
        go_roundw
        case rel => exact ⟨j + 1, by have := HJ.out; omega, by go_num, by rw [HNX.out], by rw [HNX.out]; exact HI2.out⟩
        case measure => have := HJ.out; simp [intOf]; omega
    · obtain rfl : j = q := by omega
      have HEQ : Hid (crS b ws ns j = crS b ws ns ws.length) := by
        show _ = _
        rw [← crS_min, HN.out.2.1, HN.out.2.2, ← HQ.out]
      obtain ⟨hcl1, hcl2⟩ := crS_len (ns := ns) HOK.out.1 j (by have := HN.out; omega)
      obtain ⟨e2, he2⟩ : ∃ e2, (crS b ws ns j).2 = e2 := ⟨_, rfl⟩
      rw [he2] at hcl2 ⊢
      have HBL : Hid ((crB b ws ns).length = e2) := by
        show _ = _
        rw [crB_len HOK.out.1, ← HEQ.out, he2]
      have HSR : Hid (Src wr (.slice (some ⟨k, 0, none⟩) e2 n) (crB b ws ns)) := by
        refine .inr ⟨⟨k, 0, none⟩, n, by rw [HBL.out], by rw [HBL.out, ← HN.out.1]; exact hcl2, fun i u hu => ?_⟩
        rw [Addr.add_mid, Nat.zero_add, cell_of_row _ _ _ _ _ _ HI.out.row]
        have hi : i < e2 := by
          have := (List.getElem?_eq_some_iff.1 hu).1
          rw [← HBL.out]
          simpa [u8l] using this
        have hbe : crB b ws ns = (crS b ws ns j).1.take e2 := by unfold crB; rw [← HEQ.out, he2]
        rw [← hu, hbe]
        simp [u8l, List.getElem?_take, hi]
      have HE2 : Hid (e2 ≤ b.length) := hcl2
      have hen : (e2 : Int) ≤ (n : Int) := by have := HN.out; omega
      have f9 := (HFL.out.at' (w' := wr) fun q hq => HI.out.be.block q (by have := HFL.out.lt q hq; rw [HKK.out] at this; exact this))
      have HFW : Hid (wr.heap[f]? = some (.cells #[.slice da n dc, .slice ba m bc] 118 (0, 0)) ∧ f < k ∧ G f) := by
        obtain ⟨dv, bv, g1, g2, g3, g4⟩ := HFL.out
        have hlt : f < k := by rw [← HKK.out]; exact (Array.getElem?_eq_some_iff.1 g1).1
        refine ⟨?_, hlt, (g4 f).2 (.inl rfl)⟩
        rw [HI.out.be.block f hlt, g1]
        obtain ⟨c0, c1⟩ := HC.out w (Below.refl _ _)
        rw [cell_of_row _ _ _ _ _ _ g1] at c0 c1
        have e0 : dv = .slice da n dc := by simpa using c0
        have e1 : bv = .slice ba m bc := by simpa using c1
        rw [e0, e1]
      clear hcl1 hcl2 he2 HEQ f9 hjq hj
      go_wp2_with (go_at_call 75; refine (clone_any _ _ _ HSR.out (by have := HBL.out; have := HE2.out; have := HN.out; omega)).mono ?_; rintro e w7 ⟨⟨v7, rfl, ho7⟩, hb7⟩; (obtain ⟨va, vc, hv7⟩ := own_slice ho7); subst hv7; (have HO7 : Hid (w7.ownsRow wr.heap.size 5 1 (.slice va (crB b ws ns).length vc) (crB b ws ns).length (u8l (crB b ws ns)) ∧ Below wr.heap.size wr w7) := ⟨ho7, hb7⟩); (have HX7 : Hid (w7.heap[f]? = some (.cells #[.slice da n dc, .slice ba m bc] 118 (0, 0))) := (hb7.block f (Array.getElem?_eq_some_iff.1 HFW.out.1).1).trans HFW.out.1); (have s0 : w7.cell? ⟨f, 0, none⟩ = some (.slice da n dc) := (by rw [cell_of_row _ _ _ _ _ _ HX7.out]; rfl)); (have s1 : w7.frozen? ⟨f, 0, none⟩ = false := frozen_of_row _ _ 0 _ _ HX7.out); (have s2 : w7.cell? ⟨f, 1, none⟩ = some (.slice ba m bc) := (by rw [cell_of_row _ _ _ _ _ _ HX7.out]; rfl)); (have s3 : w7.frozen? ⟨f, 1, none⟩ = false := frozen_of_row _ _ 1 _ _ HX7.out); clear ho7 hb7)
      go_end0
      have b7 := HO7.out.2
      have hfr : ∀ q, q ≠ f → ((w7.setCell ⟨f, 0, none⟩ (.slice va (crB b ws ns).length vc)).setCell ⟨f, 1, none⟩ (.slice none 0 0)).heap[q]? = w7.heap[q]? := fun q hq => by
        rw [Below.heap_setCell _ _ _ _ hq, Below.heap_setCell _ _ _ _ hq]
      have z7 := b7.size
      have z1 := HI.out.be.size
      have hkk := HKK.out
      have hfk := HFW.out.2.1
      refine ⟨⟨_, rfl⟩, fun q => q = f ∨ (Value.slice va (crB b ws ns).length vc).ownBlock = some q, ⟨.slice va (crB b ws ns).length vc, .slice none 0 0, row_set _ (row_set _ HX7.out), ?_, World.ownsRow_nil _ _ _ _, fun q => ?_⟩, ?_⟩
      · refine own_low (base := wr.heap.size) (own_at HO7.out.1 fun q hq => hfr q ?_) (Nat.zero_le _)
        have := (HO7.out.1.lt q hq).1
        omega
      · simp [Value.ownBlock]
      · refine ⟨b7.os.trans HI.out.be.os, b7.tape.trans HI.out.be.tape, b7.output.trans HI.out.be.output, by simp; omega, fun q hq hn => ?_, fun q hq => ?_⟩
        · have hqf : q ≠ f := fun e => hn (e ▸ HFW.out.2.2)
          rw [hfr q hqf, b7.block q (by omega)]
          exact HI.out.be.block q (by omega)
        · rcases hq with rfl | hq
          · exact .inl HFW.out.2.2
          · have := (HO7.out.1.lt q hq).1
            exact .inr (by omega)
end Go.Proofs.Ytflhgphjkhplmaa.D

/- What is wrong of a Keep alone. -/
namespace Go.Proofs.Ytflhgphjkhplmaa.D
open Go.RowKit
set_option linter.unusedVariables false
set_option linter.unusedSimpArgs false

variable {w w' : World} {D : Nat} {F : Nat → Prop} {sy : Int} {dl : List Fd} {s : List UInt8}
def ckE (dl : List Fd) (s : List UInt8) (ns : List Int) : Int := match lkF s dl with
  | none => 5
  | some x => if x.ws.length < ns.length then 1 else if ns.any (fun k => decide (k < 0)) then 1 else 0
theorem any_yes {ns : List Int} {k : Nat} {x : Int} (h : ns[k]? = some x) (hx : x < 0) : (ns.any fun k => decide (k < 0)) = true := by
  rw [List.any_eq_true]
  exact ⟨x, List.mem_of_getElem? h, by simpa using hx⟩
theorem any_no {ns : List Int} (h : ∀ (k : Nat) (x : Int), ns[k]? = some x → 0 ≤ x) : (ns.any fun k => decide (k < 0)) = false := by
  rw [Bool.eq_false_iff]
  intro he
  obtain ⟨x, hx, hlt⟩ := List.any_eq_true.1 he
  obtain ⟨k, hk⟩ := List.getElem?_of_mem hx
  have := h k x hk
  simp at hlt
  omega
set_option maxRecDepth 20000 in
set_option maxHeartbeats 4000000 in
theorem canKeep_any (h : DR w D F sy dl) {nv : Value} {ns : List Int} (hn : NumsAt w nv ns) (hnl : (ns.length : Int) ≤ 140737488351232) (hw : ∀ x ∈ dl, x.ws.length ≤ 2000000) :
    Calls Try.prog 69 #[.pointer (some ⟨D, 0, none⟩), .agg #[.string (tx s), nv]] w fun e w' => e = .returned (.int .i64 (ckE dl s ns)) ∧ Below w.heap.size w w' := by
  obtain ⟨na, nc, rfl, hnc, hcl⟩ := hn
  obtain ⟨W, hW⟩ : ∃ W, w.alloc (.cells #[.string (tx s), .slice na ns.length nc] 86) = W := ⟨_, rfl⟩
  have hB : Below w.heap.size w W := by rw [← hW]; exact bel1 _ _
  have h2 : DR W D F sy dl := h.newer hB
  have hn2 : NumsAt W (.slice na ns.length nc) ns := NumsAt.later ⟨na, nc, rfl, hnc, hcl⟩ hB (Nat.le_refl _)
  have hx : W.heap[w.heap.size]? = some (.cells #[.string (tx s), .slice na ns.length nc] 86 (0, 0)) := by rw [← hW]; exact Go.heap_alloc_new _ _
  have x0 : W.cell? ⟨w.heap.size, 0, none⟩ = some (.string (tx s)) := by rw [cell_of_row _ _ _ _ _ _ hx]; rfl
  have x1 : W.cell? ⟨w.heap.size, 1, none⟩ = some (.slice na ns.length nc) := by rw [cell_of_row _ _ _ _ _ _ hx]; rfl
  have HB : Hid (Below w.heap.size w W) := hB
  obtain ⟨e, he⟩ : ∃ e, ckE dl s ns = e := ⟨_, rfl⟩
  rw [he]
  unfold ckE at he
  obtain ⟨p, hp⟩ : ∃ p, w.heap.size = p := ⟨_, rfl⟩
  have HPP : Hid (w.heap.size = p) := hp
  cases hs : lkF s dl with
  | none =>
    rw [hs] at he
    dsimp only at he
    subst he
    have HFI : Hid (Calls Try.prog 74 #[.pointer (some ⟨D, 0, none⟩), .string (tx s)] W fun e w' => e = .returned (.tuple #[.pointer none, .int .i64 5]) ∧ w' = W) := h2.findNo hs
    clear h h2 hs hn2 hx hB hw hnc hp hcl
    go_enter Try.func69, Try.ntmps69
    go_wp2_with (go_at_call 74; refine HFI.out.mono ?_; rintro e w1 ⟨rfl, hw1⟩; rw [hw1]; clear hw1)
    go_ret
    exact ⟨rfl, HB.out⟩
  | some x =>
    rw [hs] at he
    dsimp only at he
    obtain ⟨K, f, Ff, h3, h4, ⟨dv, bv, g1, g2, g3, g4⟩, -⟩ := h2.open hs
    have HFI : Hid (Calls Try.prog 74 #[.pointer (some ⟨D, 0, none⟩), .string (tx s)] W fun e w' => e = .returned (.tuple #[.pointer (some ⟨f, 0, none⟩), .int .i64 0]) ∧ w' = W) := find_yes h3 h4
    obtain ⟨ba, bc, rfl⟩ := own_slice g3
    have cF : W.cell? ⟨f, 1, none⟩ = some (.slice ba x.ws.length bc) := by rw [cell_of_row _ _ _ _ _ _ g1]; rfl
    have hxm : x ∈ dl := by
      obtain ⟨-, a, b, h5, -⟩ := lkF_some hs
      rw [h5]; simp
    have hwl := hw x hxm
    have HNS : Hid (NumsAt W (.slice na ns.length nc) ns) := hn2
    obtain ⟨m, hm⟩ : ∃ m, x.ws.length = m := ⟨_, rfl⟩
    obtain ⟨N, hN⟩ : ∃ N, ns.length = N := ⟨_, rfl⟩
    have HN : Hid (ns.length = N) := hN
    rw [hm] at cF he hwl
    rw [hN] at x1 he hnc HNS hnl ⊢
    have hmi : (m : Int) ≤ 2000000 := by omega
    have hnci : (N : Int) ≤ (nc : Int) := by omega
    rw [hN] at hW
    clear hcl h h2 hs hn2 hx hB hw h3 h4 g1 g2 g3 g4 hxm hwl hm hN hnc hp
    by_cases hlt : m < N
    · rw [if_pos hlt] at he
      subst he
      have hlt' : (m : Int) < (N : Int) := by omega
      clear hlt
      go_enter Try.func69, Try.ntmps69
      go_wp2_with (go_at_call 74; refine HFI.out.mono ?_; rintro e w1 ⟨rfl, hw1⟩; rw [hw1]; clear hw1)
      go_quiet (fail)
      go_wp2_with fail
      go_ret
      exact ⟨rfl, HB.out.os, HB.out.tape, HB.out.output, HB.out.size, HB.out.block⟩
    · rw [if_neg hlt] at he
      have HE : Hid ((if (ns.any fun k => decide (k < 0)) = true then (1 : Int) else 0) = e) := he
      have hlt' : ¬ (m : Int) < (N : Int) := by omega
      clear hlt he
      go_enter Try.func69, Try.ntmps69
      go_wp2_with (go_at_call 74; refine HFI.out.mono ?_; rintro e w1 ⟨rfl, hw1⟩; rw [hw1]; clear hw1)
      go_quiet (fail)
      obtain ⟨W3, hW3⟩ : ∃ W3, W.drewN nq = W3 := ⟨_, rfl⟩
      have HN3 : Hid (NumsAt W3 (.slice na N nc) ns) := by
        rw [← hW3]
        exact HNS.out
      have HB3 : Hid (Below w.heap.size w W3) := by rw [← hW3]; exact ⟨HB.out.os, HB.out.tape, HB.out.output, HB.out.size, HB.out.block⟩
      have y1 : W3.cell? ⟨w.heap.size, 1, none⟩ = some (.slice na N nc) := by rw [← hW3]; exact x1
      rw [hW3]
      clear hW3 x0 x1 cF
      go_wp2_with fail
      go_loopw [31, 8] (fun i x wr => ∃ k : Nat, k ≤ N ∧ i = .int .i64 (k : Int) ∧ wr = W3 ∧ Hid (∀ (j : Nat) (x : Int), j < k → ns[j]? = some x → 0 ≤ x)) (fun i x wr => N - (intOf i).toNat)
      case atStart => exact ⟨0, by omega, rfl, rfl, (fun j x hj => absurd hj (Nat.not_lt_zero _) : ∀ (j : Nat) (x : Int), j < 0 → ns[j]? = some x → 0 ≤ x)⟩
      case round =>
        obtain ⟨k, hk, rfl, hwr, HI⟩ := hrel
        rw [hwr]
        clear hwr
        by_cases hlt : k < N
        · have hlt' : (k : Int) < (N : Int) := by omega
          obtain ⟨u, hu⟩ : ∃ u, ns[k]? = some u := ⟨_, List.getElem?_eq_getElem (by have := HN.out; omega)⟩
          obtain ⟨na', nc', hnv, -, hcl⟩ := HN3.out
          obtain ⟨hna, -, hnc⟩ := Value.slice.inj hnv
          subst hna
          subst hnc
          obtain ⟨nb, no, hnb, -, n0⟩ := hcl k u hu
          subst hnb
          have n0' : W3.cell? ⟨nb, no + k, none⟩ = some (.int .i64 u) := n0
          have HU : Hid (ns[k]? = some u) := hu
          have HK : Hid (k < N) := hlt
          clear hnv hcl n0 hu
          by_cases hneg : u < 0
          · have HE1 : Hid (e = 1) := by
              have h1 := HE.out
              rw [any_yes HU.out hneg] at h1
              exact h1.symm
            have hn1 : decide (u < 0) = true := decide_eq_true hneg
            clear hneg
            go_wp2_with fail
            go_ret
            rw [HE1.out]
            exact ⟨rfl, HB3.out⟩
          · have hn1 : ¬ u < 0 := hneg
            have HI2 : Hid (∀ (j : Nat) (x : Int), j < k + 1 → ns[j]? = some x → 0 ≤ x) := fun j x hj hx => by
              rcases (show j = k ∨ j < k from by omega) with rfl | h
              · rw [HU.out] at hx
                rw [← Option.some.inj hx]
                omega
              · exact HI.out j x h hx
            go_wp2_with fail
            go_roundw
            case rel => exact ⟨k + 1, by have := HK.out; omega, by go_num, trivial, HI2.out⟩
            case measure => have := HK.out; simp [intOf]; omega
        · have hge : ¬ ((k : Int) < (N : Int)) := by omega
          have HE0 : Hid (e = 0) := by
            have h1 := HE.out
            rw [any_no fun j x hj => HI.out j x (by have := (List.getElem?_eq_some_iff.1 hj).1; have := HN.out; omega) hj] at h1
            exact h1.symm
          go_wp2_with fail
          go_ret
          rw [HE0.out]
          exact ⟨rfl, HB3.out⟩
end Go.Proofs.Ytflhgphjkhplmaa.D

/- Ranging over a map of one entry. -/
namespace Go.Proofs.Ytflhgphjkhplmaa
open Go.RowKit
set_option linter.unusedVariables false
set_option linter.unusedSimpArgs false

theorem under74 : Try.prog.underlying 109 = some (.map 9 3) := by kernel_rfl
theorem next_first {W : World} {it B : Nat} {s : ByteArray} {v : Value} (ty : TypeId) (hi : W.heap[it]? = some (.mapIter (some B) 1 #[] 1)) (hm : MapAt W B [(s, v, 0)] 1) :
    (Instr.next (.pointer (some ⟨it, 0, none⟩)) false ty).run Try.prog W = .ok (.tuple #[.bool true, .string s, v]) { W with heap := W.heap.setIfInBounds it (.mapIter (some B) 1 #[0] 1) } := by
  unfold MapAt ents at hm
  simp only [List.map_cons, List.map_nil] at hm
  simp only [Instr.next, getObj, Sem.run_bind, Sem.run, hi, hm, Result.andThen]
  have e : (!(#[] : Array Nat).isEmpty && !(#[{ key := Value.string s, val := v, born := 0 }] : Array MapEntry).isEmpty && (#[{ key := Value.string s, val := v, born := 0 }] : Array MapEntry).all (fun x => decide (x.born ≥ 1))) = false := rfl
  simp only [e, Bool.false_eq_true, if_false]
  simp [choose, Sem.run, Question.forced, setObj, Result.andThen, hi]
theorem next_last {W : World} {it B : Nat} {s : ByteArray} {v : Value} (ty : TypeId) (hi : W.heap[it]? = some (.mapIter (some B) 1 #[0] 1)) (hm : MapAt W B [(s, v, 0)] 1) :
    (Instr.next (.pointer (some ⟨it, 0, none⟩)) false ty).run Try.prog W = .ok (.tuple #[.bool false]) W := by
  unfold MapAt ents at hm
  simp only [List.map_cons, List.map_nil] at hm
  simp only [Instr.next, getObj, Sem.run_bind, Sem.run, hi, hm, Result.andThen]
  have e : (!(#[0] : Array Nat).isEmpty && !(#[{ key := Value.string s, val := v, born := 0 }] : Array MapEntry).isEmpty && (#[{ key := Value.string s, val := v, born := 0 }] : Array MapEntry).all (fun x => decide (x.born ≥ 1))) = false := by simp
  simp only [e, Bool.false_eq_true, if_false]
  simp [choose, Sem.run, Question.forced, Result.andThen]
theorem entry_one {W : World} {it B : Nat} {s : ByteArray} {v : Value} (hi : W.heap[it]? = some (.mapIter (some B) 1 #[0] 1)) (hm : MapAt W B [(s, v, 0)] 1) :
    (Instr.entry (.pointer (some ⟨it, 0, none⟩))).run Try.prog W = .ok (.tuple #[.string s, v]) W := by
  unfold MapAt ents at hm
  simp only [List.map_cons, List.map_nil] at hm
  have e : (#[0] : Array Nat).back? = some 0 := rfl
  simp only [Instr.entry, getObj, Sem.run_bind, Sem.run, hi, hm, Result.andThen, e]
  simp
end Go.Proofs.Ytflhgphjkhplmaa

/- Keeps as they lie; what is wrong of them; a crash, plain. -/
namespace Go.Proofs.Ytflhgphjkhplmaa.D
open Go.RowKit
set_option linter.unusedVariables false
set_option linter.unusedSimpArgs false

variable {w w' : World} {D : Nat} {F : Nat → Prop} {sy : Int} {dl : List Fd} {s : List UInt8} {P : Nat → Prop}
abbrev Kn := List UInt8 × List Int
theorem cell_same {w w' : World} {b o : Nat} (h : w'.heap[b]? = w.heap[b]?) : w'.cell? ⟨b, o, none⟩ = w.cell? ⟨b, o, none⟩ := by simp [World.cell?, h]
def NumsP (P : Nat → Prop) (w : World) (v : Value) (ns : List Int) : Prop := ∃ a cap, v = .slice a ns.length cap ∧ ns.length ≤ cap ∧ ∀ (i : Nat) (x : Int), ns[i]? = some x → ∃ b off, a = some ⟨b, off, none⟩ ∧ P b ∧ w.cell? ⟨b, off + i, none⟩ = some (iV x)
/-- Keeps as they lie, all in blocks of P. -/
def KeepsAt (P : Nat → Prop) (w : World) (v : Value) (ks : List Kn) : Prop := ∃ a cap, v = .slice a ks.length cap ∧ ks.length ≤ cap ∧ ∀ (i : Nat) (x : Kn), ks[i]? = some x → (x.2.length : Int) ≤ 140737488351232 ∧ ∃ b off nv, a = some ⟨b, off, none⟩ ∧ P b ∧ w.cell? ⟨b, off + i * 2, none⟩ = some (.string (tx x.1)) ∧ w.cell? ⟨b, off + i * 2 + 1, none⟩ = some nv ∧ NumsP P w nv x.2
theorem NumsP.at' {v : Value} {ns : List Int} (h : NumsP P w v ns) (hk : ∀ q, P q → w'.heap[q]? = w.heap[q]?) : NumsP P w' v ns := by
  obtain ⟨a, cap, h1, h2, h3⟩ := h
  refine ⟨a, cap, h1, h2, fun i x hi => ?_⟩
  obtain ⟨b, off, e1, e2, e3⟩ := h3 i x hi
  exact ⟨b, off, e1, e2, (cell_same (hk b e2)).trans e3⟩
theorem NumsP.nums {v : Value} {ns : List Int} (h : NumsP P w v ns) (hP : ∀ q, P q → q < w.heap.size) : NumsAt w v ns := by
  obtain ⟨a, cap, h1, h2, h3⟩ := h
  refine ⟨a, cap, h1, h2, fun i x hi => ?_⟩
  obtain ⟨b, off, e1, e2, e3⟩ := h3 i x hi
  exact ⟨b, off, e1, hP b e2, e3⟩
theorem KeepsAt.at' {v : Value} {ks : List Kn} (h : KeepsAt P w v ks) (hk : ∀ q, P q → w'.heap[q]? = w.heap[q]?) : KeepsAt P w' v ks := by
  obtain ⟨a, cap, h1, h2, h3⟩ := h
  refine ⟨a, cap, h1, h2, fun i x hi => ?_⟩
  obtain ⟨e0, b, off, nv, e1, e2, e3, e4, e5⟩ := h3 i x hi
  exact ⟨e0, b, off, nv, e1, e2, (cell_same (hk b e2)).trans e3, (cell_same (hk b e2)).trans e4, e5.at' hk⟩
/-- Where a name stands among the Keeps. -/
def kIx (s : List UInt8) : List Kn → Nat → Option Nat
  | [], _ => none
  | k :: r, i => if s = k.1 then some i else kIx s r (i + 1)
def kNs (s : List UInt8) (ks : List Kn) : List Int := match kIx s ks 0 with | some i => (ks.getD i ([], [])).2 | none => []
def entK : List Kn → Nat → List Ent
  | [], _ => []
  | k :: r, i => (tx k.1, .int .i64 (i : Int), i) :: entK r (i + 1)
theorem entK_app : ∀ (a : List Kn) (k : Kn) (i : Nat), entK (a ++ [k]) i = entK a i ++ [(tx k.1, .int .i64 ((i + a.length : Nat) : Int), i + a.length)]
  | [], k, i => by simp [entK]
  | x :: r, k, i => by
    rw [List.cons_append, entK, entK_app r k (i + 1)]
    simp [entK, Nat.add_comm, Nat.add_left_comm, Nat.add_assoc]
theorem fnd_entK (s : List UInt8) : ∀ (ks : List Kn) (i j : Nat), fnd (tx s) (entK ks i) j = (kIx s ks i).map fun q => (q - i + j, .int .i64 (q : Int))
  | [], i, j => rfl
  | k :: r, i, j => by
    rw [entK, fnd, kIx]
    dsimp only
    rw [tx_beq]
    by_cases h : s = k.1
    · simp [h]
    · simp only [h, decide_false, Bool.false_eq_true, if_false]
      rw [fnd_entK s r (i + 1) (j + 1)]
      cases hk : kIx s r (i + 1) with
      | none => rfl
      | some q =>
        have : i + 1 ≤ q := by
          clear fnd_entK
          revert hk
          have : ∀ (r : List Kn) (i q : Nat), kIx s r i = some q → i ≤ q := fun r => by
            induction r with
            | nil => intro i q h; simp [kIx] at h
            | cons x r ih =>
              intro i q h
              unfold kIx at h
              split at h
              · have := Option.some.inj h; omega
              · have := ih _ _ h; omega
          exact fun hk => this r (i + 1) q hk
        simp
        omega
theorem kIx_none {s : List UInt8} : ∀ {ks : List Kn} {i : Nat}, kIx s ks i = none ↔ s ∉ ks.map Prod.fst
  | [], i => by simp [kIx]
  | k :: r, i => by
    unfold kIx
    by_cases h : s = k.1
    · simp [h]
    · rw [if_neg h, kIx_none (ks := r)]
      simp [h]
theorem kIx_some {s : List UInt8} : ∀ {ks : List Kn} {i q : Nat}, kIx s ks i = some q → i ≤ q ∧ ∃ k, ks[q - i]? = some k ∧ k.1 = s
  | [], i, q, h => by simp [kIx] at h
  | x :: r, i, q, h => by
    unfold kIx at h
    split at h
    · rename_i e
      obtain rfl := Option.some.inj h
      exact ⟨Nat.le_refl _, x, by simp, e.symm⟩
    · obtain ⟨h1, k, h2, h3⟩ := kIx_some h
      refine ⟨by omega, k, ?_, h3⟩
      rw [show q - i = (q - (i + 1)) + 1 by omega, List.getElem?_cons_succ]
      exact h2
theorem kIx_lt {s : List UInt8} {ks : List Kn} {q : Nat} (h : kIx s ks 0 = some q) : q < ks.length ∧ ∃ k, ks[q]? = some k ∧ k.1 = s ∧ kNs s ks = k.2 := by
  obtain ⟨-, k, h2, h3⟩ := kIx_some h
  refine ⟨(List.getElem?_eq_some_iff.1 h2).1, k, h2, h3, ?_⟩
  unfold kNs
  rw [h]
  dsimp only
  rw [List.getD_eq_getElem?_getD, show q = q - 0 by rfl, h2]
  rfl
/-- What is wrong of Keeps, from the left. -/
def wrE (dl : List Fd) : List Kn → List Kn → Int
  | _, [] => 0
  | seen, k :: r => if k.1 ∈ seen.map Prod.fst then 6 else if ckE dl k.1 k.2 = 0 then wrE dl (seen ++ [k]) r else ckE dl k.1 k.2
theorem drop_at {α : Type} {l : List α} {j : Nat} {x : α} (h : l[j]? = some x) : l.drop j = x :: l.drop (j + 1) ∧ l.take (j + 1) = l.take j ++ [x] := by
  obtain ⟨h1, h2⟩ := List.getElem?_eq_some_iff.1 h
  refine ⟨?_, ?_⟩
  · rw [List.drop_eq_getElem_cons h1, h2]
  · rw [List.take_add_one, h]; rfl
theorem wrE_step {ks : List Kn} {j : Nat} {k : Kn} (h : ks[j]? = some k) : wrE dl (ks.take j) (ks.drop j) = if k.1 ∈ (ks.take j).map Prod.fst then 6 else if ckE dl k.1 k.2 = 0 then wrE dl (ks.take (j + 1)) (ks.drop (j + 1)) else ckE dl k.1 k.2 := by
  obtain ⟨h1, h2⟩ := drop_at h
  rw [h1, wrE, h2]
/-- A disk behind a crash. -/
def crF (ks : List Kn) (x : Fd) : Fd := ⟨x.nm, crB x.b x.ws (kNs x.nm ks), []⟩
def crD (ks : List Kn) (dl : List Fd) : List Fd := dl.map (crF ks)
def crA (dl : List Fd) (ks : List Kn) : List Fd := if wrE dl [] ks = 0 then crD ks dl else dl
abbrev MapI := Go.Proofs.Ytflhgphjkhplmaa.MapAt
/-- What a crash's range keeps. -/
structure RI (w wx : World) (D M r K c : Nat) (es : List En) (sy : Int) (dl : List Fd) (ks : List Kn) (F : Nat → Prop) (seen : Array Nat) : Prop where
  it : wx.heap[r]? = some (.mapIter (some K) c seen c)
  ix : ∃ k, MapI wx M (entK ks 0) k
  mp : MapAt wx K es c
  ex : ∃ tl, DX wx D K sy tl ∧ (prs es).Perm (mlT tl) ∧ (tl.map pl) = dl.map (fun x => if x.nm ∈ (rest es seen).map En.nm then x else crF ks x) ∧ (∀ q, CF D K tl q → (F q ∨ w.heap.size ≤ q) ∧ q ≠ M ∧ q ≠ r)
  fr : wx.os = w.os ∧ wx.tape = w.tape ∧ wx.output = w.output ∧ w.heap.size ≤ wx.heap.size
  bl : ∀ q, q < w.heap.size → ¬ F q → wx.heap[q]? = w.heap[q]?
  lo : r < wx.heap.size ∧ M < wx.heap.size ∧ w.heap.size ≤ r ∧ w.heap.size ≤ M
theorem map_put {α : Type} [DecidableEq α] {β : Type} (nm : β → α) (new : β) : ∀ (a : List β) (t : β) (b : List β), ((a ++ t :: b).map nm).Nodup → a ++ new :: b = (a ++ t :: b).map (fun y => if nm y = nm t then new else y)
  | [], t, b, h => by
    rw [List.nil_append, List.nil_append, List.map_cons, if_pos rfl]
    congr 1
    conv => lhs; rw [← List.map_id b]
    refine List.map_congr_left fun y hy => ?_
    rw [if_neg]
    · rfl
    · intro e
      exact (List.nodup_cons.1 (show (nm t :: b.map nm).Nodup from h)).1 (e ▸ List.mem_map_of_mem hy)
  | x :: a, t, b, h => by
    have h2 := List.nodup_cons.1 (show (nm x :: (a ++ t :: b).map nm).Nodup from h)
    rw [List.cons_append, List.cons_append, List.map_cons, if_neg, map_put nm new a t b h2.2]
    intro e
    exact h2.1 (e ▸ List.mem_map_of_mem (by simp))
/-- One more file is crashed. -/
theorem RI.step {V wx : World} {M r K c : Nat} {es : List En} {ks : List Kn} {seen : Array Nat} (h : RI w wx D M r K c es sy dl ks F seen) {e : En} (he : e ∈ es) (hpr : (rest es seen).Perm (e :: rest es (seen.push e.born))) (hoff : ∀ q, q ≠ r → V.heap[q]? = wx.heap[q]?) (hit : V.heap[r]? = some (.mapIter (some K) c (seen.push e.born) c)) (o1 : V.os = wx.os) (o2 : V.tape = wx.tape) (o3 : V.output = wx.output) (o4 : V.heap.size = wx.heap.size)
    (hr : K ≠ r ∧ M ≠ r ∧ K ≠ M) (hnd : (dl.map Fd.nm).Nodup) (hnde : (es.map En.nm).Nodup) (hl : ∀ x ∈ dl, x.b.length ≤ 2000000 ∧ x.ws.length ≤ 2000000 ∧ WsOk x.b.length x.ws) {nv : Value} (hn : NumsAt V nv (kNs e.nm ks)) (hnl : ((kNs e.nm ks).length : Int) ≤ 140737488351232) :
    Calls Try.prog 70 #[.pointer (some ⟨e.q, 0, none⟩), nv] V fun x w3 => (∃ v, x = .returned v) ∧ Hid (RI w w3 D M r K c es sy dl ks F (seen.push e.born)) := by
  obtain ⟨tl, k1, k2, k3, k4⟩ := h.ex
  have hrest : e.nm ∈ (rest es seen).map En.nm := (hpr.map En.nm).mem_iff.2 (by simp)
  have hV : DX V D K sy tl := k1.at' fun q hq => hoff q (k4 q hq).2.2
  obtain ⟨t, ht, t1, t2, t3⟩ := k1.entry (List.Perm.refl (tl.map pl)) k2 he
  obtain ⟨a, b, rfl⟩ := List.append_of_mem ht
  obtain ⟨x, hx, hpx⟩ : ∃ x ∈ dl, (if x.nm ∈ (rest es seen).map En.nm then x else crF ks x) = pl t := by
    have h1 : pl t ∈ (a ++ t :: b).map pl := List.mem_map.2 ⟨t, ht, rfl⟩
    rw [k3] at h1
    exact List.mem_map.1 h1
  have hxn : x.nm = e.nm := by
    have h1 : (pl t).nm = e.nm := t1
    rw [← hpx] at h1
    split at h1
    · exact h1
    · exact h1
  rw [if_pos (by rw [hxn]; exact hrest)] at hpx
  subst hpx
  obtain ⟨l1, l2, l3⟩ := hl _ hx
  have hlt := hV.lt
  rw [← t2]
  refine (crash_any (hV.lr t ht) l1 l2 l3 hn hnl).mono ?_
  rintro y w3 ⟨hy, G', g1, g2⟩
  refine ⟨hy, ?_⟩
  obtain ⟨m1, m2⟩ := hV.turn g1 g2
  have hnF : ∀ q, t.F q → CF D K (a ++ t :: b) q := fun q hq => .inr (.inr ⟨t, ht, hq⟩)
  obtain ⟨z1, z2, z3, z4⟩ := h.fr
  obtain ⟨y1, y2, y3, y4⟩ := h.lo
  have hz := g2.size
  refine ⟨(g2.block r (by omega) fun e => (k4 r (hnF r e)).2.2 rfl).trans hit, ?_, ?_, ⟨_, m1, ?_, ?_, fun q hq => ?_⟩, ⟨g2.os.trans (o1.trans z1), g2.tape.trans (o2.trans z2), g2.output.trans (o3.trans z3), by omega⟩, fun q hq hn => ?_, by omega, by omega, y3, y4⟩
  · obtain ⟨k, hk⟩ := h.ix
    exact ⟨k, ((g2.block M (by omega) fun e => (k4 M (hnF M e)).2.1 rfl).trans (hoff M hr.2.1)).trans hk⟩
  · have hKl := k1.lt K (.inr (.inl rfl))
    exact ((g2.block K (by omega) fun e => (k1.of t ht K e).2 rfl).trans (hoff K hr.1)).trans h.mp
  · have e1 : mlT (a ++ ⟨t.nm, t.L, G', crB t.b t.ws (kNs e.nm ks), []⟩ :: b) = mlT (a ++ t :: b) := by simp [mlT]
    show (prs es).Perm (mlT (a ++ ⟨t.nm, t.L, G', crB t.b t.ws (kNs e.nm ks), []⟩ :: b))
    rw [e1]
    exact k2
  · have hndr : ((rest es seen).map En.nm).Nodup := hnde.sublist ((List.filter_sublist).map _)
    have hnd2 := (hpr.map En.nm).nodup_iff.1 hndr
    rw [List.map_cons] at hnd2
    have hne := (List.nodup_cons.1 hnd2).1
    have hmem : ∀ s, s ∈ (rest es seen).map En.nm ↔ s = e.nm ∨ s ∈ (rest es (seen.push e.born)).map En.nm := fun s => by
      rw [(hpr.map En.nm).mem_iff, List.map_cons, List.mem_cons]
    have h1 : (a ++ ⟨t.nm, t.L, G', crB t.b t.ws (kNs e.nm ks), []⟩ :: b).map pl = a.map pl ++ (⟨t.nm, crB t.b t.ws (kNs e.nm ks), []⟩ : Fd) :: b.map pl := by simp [pl]
    have h2 : a.map pl ++ pl t :: b.map pl = dl.map (fun x => if x.nm ∈ (rest es seen).map En.nm then x else crF ks x) := by rw [← k3]; simp
    have hn1 : ((a.map pl ++ pl t :: b.map pl).map Fd.nm).Nodup := by
      have : (a.map pl ++ pl t :: b.map pl).map Fd.nm = (a ++ t :: b).map Tn.nm := by
        simp [pl]
        rfl
      rw [this]
      exact k1.nd
    show (a ++ ⟨t.nm, t.L, G', crB t.b t.ws (kNs e.nm ks), []⟩ :: b).map pl = _
    rw [h1, map_put Fd.nm _ _ _ _ hn1, h2, List.map_map]
    refine List.map_congr_left fun y hy => ?_
    have hpn : (pl t).nm = e.nm := t1
    simp only [Function.comp_apply]
    by_cases hye : y.nm = e.nm
    · have hyx : y = pl t := by
        have h5 := lkF_of hnd hy
        have h6 := lkF_of hnd hx
        rw [hye] at h5
        rw [hpn] at h6
        rw [h5] at h6
        exact Option.some.inj h6
      rw [if_pos ((hmem _).2 (.inl hye)), if_pos (hye.trans hpn.symm), if_neg (by rw [hye]; exact hne), hyx]
      unfold crF
      rw [hpn]
      show _ = (⟨e.nm, _, _⟩ : Fd)
      rw [← t1]
      rfl
    · have hg : (if y.nm ∈ (rest es seen).map En.nm then y else crF ks y).nm = y.nm := by split <;> rfl
      rw [if_neg (by rw [hg, hpn]; exact hye)]
      by_cases hin : y.nm ∈ (rest es (seen.push e.born)).map En.nm
      · rw [if_pos ((hmem _).2 (.inr hin)), if_pos hin]
      · rw [if_neg hin, if_neg fun e => ((hmem _).1 e).elim hye hin]
  · rcases m2.grow q hq with g | g
    · exact k4 q g
    · exact ⟨.inr (by omega), by omega, by omega⟩
  · have hnt : ¬ t.F q := fun e => by
      rcases (k4 q (hnF q e)).1 with g | g
      · exact hn g
      · omega
    rw [g2.block q (by omega) hnt, hoff q (by omega)]
    exact h.bl q hq hn
end Go.Proofs.Ytflhgphjkhplmaa.D
