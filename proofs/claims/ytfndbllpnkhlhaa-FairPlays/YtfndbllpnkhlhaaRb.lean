/- The model's scheduler: one tenant is turned; Waiting, Ahead, rest, Drop. -/
import Derived.Test.YtfndbllpnkhlhaaRa
namespace Go.Proofs.Ytfndbllpnkhlhaa
open Go.RowKit
set_option linter.unusedVariables false
set_option linter.unusedSimpArgs false

theorem fl_set1 {α : Type} {f : α → List Value} {m : Nat} (hf : ∀ x, (f x).length = m) : ∀ (ss : List α) (k : Nat) (r x : α) (j : Nat) (v : Value), ss[k]? = some r → j < m → f x = (f r).set j v → fl f (ss.set k x) = (fl f ss).set (k * m + j) v
  | [], k, r, x, j, v, h, _, _ => by simp at h
  | p :: ss, 0, r, x, j, v, h, hj, e => by
    simp at h
    subst h
    show f x ++ fl f ss = (f p ++ fl f ss).set (0 * m + j) v
    rw [Nat.zero_mul, Nat.zero_add, List.set_append_left _ _ (by rw [hf]; exact hj), e]
  | p :: ss, k + 1, r, x, j, v, h, hj, e => by
    have ih := fl_set1 hf ss k r x j v (by simpa using h) hj e
    show f p ++ fl f (ss.set k x) = (f p ++ fl f ss).set ((k + 1) * m + j) v
    have e1 : (k + 1) * m + j = (f p).length + (k * m + j) := by rw [hf, Nat.add_mul]; omega
    rw [e1, List.set_append_right _ _ (by omega), ih, Nat.add_sub_cancel_left]
variable {T base : Nat} {lv : Value} {m : List Rt} {clk clk' : Int} {srv srv' : List UInt8} {busy busy' : Bool}
/-- One tenant is turned, and the scheduler's own cells. -/
theorem RS.turn {w w' : World} {k : Nat} {r x : Rt} (h : RS w T base lv m clk srv busy) (hk : m[k]? = some r) (hb : w'.heap[T]? = some (.cells #[lv, .int .i64 clk', .string (tx srv'), .bool busy'] 39 (0, 0))) (hr : w'.ownsRow base 102 4 lv (m.set k x).length (fl rt4 (m.set k x))) (hx : w'.ownsRow base 104 4 x.v x.t.ws.length (fl wk4 x.t.ws))
    (ho : ∀ (j q : Nat) (r' : Rt), j ≠ k → m[j]? = some r' → r'.v.ownBlock = some q → w'.heap[q]? = w.heap[q]?) (hO : (∀ q, x.v.ownBlock = some q → r.v.ownBlock = some q) ∨ ∀ q, x.v.ownBlock = some q → w.heap.size ≤ q) : RS w' T base lv (m.set k x) clk' srv' busy' := by
  have hil := (List.getElem?_eq_some_iff.1 hk).1
  refine ⟨hb, hr, fun y hy => ?_, fun i j q a b ha hb' h1 h2 => ?_, h.hT⟩
  · rcases mem_set hy with ⟨e, _⟩ | ⟨j, hj, hy⟩
    · rw [e]; exact hx
    · exact own_at (h.que y (List.mem_of_getElem? hy)) fun q hq => ho j q y hj hy hq
  · by_cases ea : k = i
    · subst ea
      rw [List.getElem?_set_self hil] at ha
      have := Option.some.inj ha
      subst this
      by_cases eb : k = j
      · exact eb
      · rw [List.getElem?_set_ne eb] at hb'
        rcases hO with e | e
        · exact h.dis k j q r b hk hb' (e q h1) h2
        · have := e q h1
          have := (h.lt q (.inr (.inr ⟨b, List.mem_of_getElem? hb', h2⟩))).2
          omega
    · rw [List.getElem?_set_ne ea] at ha
      by_cases eb : k = j
      · subst eb
        rw [List.getElem?_set_self hil] at hb'
        have := Option.some.inj hb'
        subst this
        rcases hO with e | e
        · exact h.dis i k q a r ha hk h1 (e q h2)
        · have := e q h2
          have := (h.lt q (.inr (.inr ⟨a, List.mem_of_getElem? ha, h1⟩))).2
          omega
      · rw [List.getElem?_set_ne eb] at hb'
        exact h.dis i j q a b ha hb' h1 h2
/-- What kinds of blocks there are. -/
theorem RS.ne {w : World} (h : RS w T base lv m clk srv busy) : (∀ q, lv.ownBlock = some q → q ≠ T) ∧ ∀ r ∈ m, ∀ q, r.v.ownBlock = some q → q ≠ T ∧ lv.ownBlock ≠ some q := by
  refine ⟨fun q hq => ?_, fun r hr q hq => ?_⟩
  · obtain ⟨cur, hc⟩ := own_tag h.row hq
    exact ne_tag hc h.box (by decide)
  · obtain ⟨cur, hc⟩ := own_tag (h.que r hr) hq
    refine ⟨ne_tag hc h.box (by decide), fun e => ?_⟩
    obtain ⟨cur', hc'⟩ := own_tag h.row e
    exact ne_tag hc hc' (by decide) rfl
/-- From one time to another: the model's own cells and rows alone. -/
structure Km (base : Nat) (w w' : World) : Prop where
  bel : Below base w w'
  kx : Kx badR w w'
theorem Km.refl (base : Nat) (w : World) : Km base w w := ⟨Below.refl _ _, Kx.refl _ _⟩
theorem Km.trans {a b c : World} (h : Km base a b) (k : Km base b c) : Km base a c := ⟨h.bel.trans k.bel, h.kx.trans k.kx⟩
theorem Km.of {a b : World} (h : Below a.heap.size a b) (hb : base ≤ a.heap.size) : Km base a b := ⟨h.mono hb, Kx.of h (Nat.le_refl _)⟩
theorem Km.drewN {a b : World} (h : Km base a b) (n : Nat) : Km base a (b.drewN n) := h.trans ⟨⟨rfl, rfl, rfl, Nat.le_refl _, fun _ _ => rfl⟩, fun _ _ h _ => h⟩
theorem Km.cell {a b : World} {g i : Nat} {c : Array Value} {t : TypeId} (h : Km base a b) (hg : b.heap[g]? = some (.cells c t (0, 0))) (ht : badR t = true) (hb : base ≤ g) (v : Value) : Km base a (b.setCell ⟨g, i, none⟩ v) :=
  h.trans ⟨(Below.refl _ b).setCell (p := ⟨g, i, none⟩) hb v, Kx.setCell hg ht v⟩
theorem RS.bs {w : World} (h : RS w T base lv m clk srv busy) : base ≤ w.heap.size := by
  have := h.lt T (.inl rfl)
  omega
theorem drewN_heap (w : World) (n : Nat) : (w.drewN n).heap = w.heap := rfl
set_option maxRecDepth 20000 in
theorem rwait_any (nm : List UInt8) (w : World) (h : RS w T base lv m clk srv busy) (hl : m.length ≤ 16) :
    Calls Try.prog 37 #[.pointer (some ⟨T, 0, none⟩), .string (tx nm)] w fun e w' => e = .returned (.int .i64 (match lookT (rts m) nm with | some (_, t) => (t.ws.length : Int) | none => 0)) ∧ w' = w := by
  have HF : Hid (Calls Try.prog 59 #[.pointer (some ⟨T, 0, none⟩), .string (tx nm)] w fun e w' => e = .returned (.int .i64 (ixI (rts m) nm)) ∧ w' = w) := rfind_any nm w h hl
  obtain ⟨sa, cap, hsv⟩ := own_slice h.row
  subst hsv
  have c0 := h.cells.1
  unfold lookT
  unfold ixI at HF
  cases hx : ixT (rts m) nm with
  | none =>
    rw [hx] at HF
    simp only at HF ⊢
    clear h
    go_enter Try.func37, Try.ntmps37
    go_wp2_with (go_at_call 59; refine HF.out.mono ?_; rintro e w1 ⟨rfl, hw1⟩; rw [hw1]; clear hw1)
    go_ret
    exact ⟨rfl, rfl⟩
  | some k =>
    rw [hx] at HF
    simp only at HF ⊢
    obtain ⟨t, ht, _⟩ := ixT_some _ _ _ hx
    obtain ⟨r, hr, rfl⟩ := rts_of ht
    rw [ht]
    simp only [Option.map_some]
    have hkl := (List.getElem?_eq_some_iff.1 hr).1
    obtain ⟨g, cp, hv⟩ := own_form h.row (by omega)
    have hsa : sa = some ⟨g, 0, none⟩ := (Value.slice.inj hv).1
    subst hsa
    have e3 := (own_rt h.row hr).2.2.2.1
    have hcap : (m.length : Int) ≤ (cap : Int) := by have := own_cap h.row; omega
    have hkl' : (k : Int) < (m.length : Int) := by omega
    have hl' : (m.length : Int) ≤ 16 := by omega
    generalize m.length = n at *
    clear h hv hr ht
    go_enter Try.func37, Try.ntmps37
    go_wp2_with (go_at_call 59; refine HF.out.mono ?_; rintro e w1 ⟨rfl, hw1⟩; rw [hw1]; clear hw1)
    go_ret
    exact ⟨rfl, rfl⟩
theorem sumL_app (a b : List Wk) : sumL (a ++ b) = sumL a + sumL b := by
  induction a with
  | nil => simp [sumL]
  | cons x r ih => simp [sumL, ih]; omega
theorem sumL_take {l : List Wk} {i : Nat} {x : Wk} (h : l[i]? = some x) : sumL (l.take (i + 1)) = sumL (l.take i) + x.left := by
  have : l.take (i + 1) = l.take i ++ [x] := by
    rw [List.take_add_one, h]
    rfl
  rw [this, sumL_app]
  simp [sumL]
theorem sumL_bd {l : List Wk} (h : ∀ x ∈ l, 0 ≤ x.left ∧ x.left ≤ 1000) : 0 ≤ sumL l ∧ sumL l ≤ 1000 * (l.length : Int) := by
  induction l with
  | nil => simp [sumL]
  | cons x r ih =>
    have h1 := h x (by simp)
    have h2 := ih fun y hy => h y (by simp [hy])
    simp only [sumL, List.length_cons]
    omega
set_option maxRecDepth 20000 in
set_option maxHeartbeats 4000000 in
theorem rahead_any (nm : List UInt8) (w : World) (h : RS w T base lv m clk srv busy) (hl : m.length ≤ 16) (hq : ∀ r ∈ m, r.t.ws.length ≤ 16 ∧ ∀ x ∈ r.t.ws, 0 ≤ x.left ∧ x.left ≤ 1000) :
    Calls Try.prog 38 #[.pointer (some ⟨T, 0, none⟩), .string (tx nm)] w fun e w' => e = .returned (.int .i64 (match lookT (rts m) nm with | some (_, t) => sumL t.ws | none => 0)) ∧ w' = w := by
  have HF : Hid (Calls Try.prog 59 #[.pointer (some ⟨T, 0, none⟩), .string (tx nm)] w fun e w' => e = .returned (.int .i64 (ixI (rts m) nm)) ∧ w' = w) := rfind_any nm w h hl
  obtain ⟨sa, cap, hsv⟩ := own_slice h.row
  subst hsv
  have c0 := h.cells.1
  unfold lookT
  unfold ixI at HF
  cases hx : ixT (rts m) nm with
  | none =>
    rw [hx] at HF
    simp only at HF ⊢
    clear h
    go_enter Try.func38, Try.ntmps38
    go_wp2_with (go_at_call 59; refine HF.out.mono ?_; rintro e w1 ⟨rfl, hw1⟩; rw [hw1]; clear hw1)
    go_loopw [6, 7] (fun u v wr => wr = w ∧ u = .int .i64 0 ∧ v = .int .i64 0) (fun u v wr => 0)
    case atStart => exact ⟨rfl, rfl, rfl⟩
    case round =>
      obtain ⟨rfl, rfl, rfl⟩ := hrel
      go_wp2_with fail
      go_ret
      exact ⟨rfl, rfl⟩
  | some k =>
    rw [hx] at HF
    simp only at HF ⊢
    obtain ⟨t, ht, _⟩ := ixT_some _ _ _ hx
    obtain ⟨r, hr, rfl⟩ := rts_of ht
    rw [ht]
    simp only [Option.map_some]
    have hrm := List.mem_of_getElem? hr
    have hkl := (List.getElem?_eq_some_iff.1 hr).1
    obtain ⟨g, cp, hv⟩ := own_form h.row (by omega)
    have hsa : sa = some ⟨g, 0, none⟩ := (Value.slice.inj hv).1
    subst hsa
    have e3 := (own_rt h.row hr).2.2.2.1
    have hcap : (m.length : Int) ≤ (cap : Int) := by have := own_cap h.row; omega
    have hkl' : (k : Int) < (m.length : Int) := by omega
    have hl' : (m.length : Int) ≤ 16 := by omega
    have HQ : Hid (w.ownsRow base 104 4 (.slice r.a r.t.ws.length r.c) r.t.ws.length (fl wk4 r.t.ws)) := h.que r hrm
    obtain ⟨b1, b2⟩ := hq r hrm
    have HB : Hid (∀ x ∈ r.t.ws, 0 ≤ x.left ∧ x.left ≤ 1000) := b2
    obtain ⟨nw, hnw⟩ : ∃ nw, r.t.ws.length = nw := ⟨_, rfl⟩
    have HNW : Hid (r.t.ws.length = nw) := hnw
    rw [hnw] at e3 b1
    have b1' : (nw : Int) ≤ 16 := by omega
    have hk0 : (0 : Int) ≤ (k : Int) := by omega
    generalize m.length = n at *
    clear h hv hr ht hq b2 hnw
    go_enter Try.func38, Try.ntmps38
    go_wp2_with (go_at_call 59; refine HF.out.mono ?_; rintro e w1 ⟨rfl, hw1⟩; rw [hw1]; clear hw1)
    go_loopw [6, 7] (fun u v wr => wr = w ∧ ∃ i : Nat, i ≤ nw ∧ v = .int .i64 (i : Int) ∧ u = .int .i64 (sumL (r.t.ws.take i))) (fun u v wr => nw - (intOf v).toNat)
    case atStart => exact ⟨rfl, 0, by omega, rfl, rfl⟩
    case round =>
      obtain ⟨rfl, i, hi, rfl, rfl⟩ := hrel
      by_cases hlt : i < nw
      · have hlt' : (i : Int) < (nw : Int) := by omega
        obtain ⟨x, hx⟩ : ∃ x, r.t.ws[i]? = some x := ⟨_, List.getElem?_eq_getElem (by have := HNW.out; omega)⟩
        obtain ⟨gq, cq, hvq⟩ := own_form HQ.out (by have := HNW.out; omega)
        obtain ⟨ra, rc, hrr⟩ : ∃ ra rc, r.a = ra ∧ r.c = rc := ⟨_, _, rfl, rfl⟩
        have hra : r.a = some ⟨gq, 0, none⟩ := (Value.slice.inj hvq).1
        have hQ := HQ.out
        rw [hra] at hQ e3
        have x3 := (own_wk hQ hx).2.2.2.1
        have hcq : (nw : Int) ≤ (r.c : Int) := by have := own_cap hQ; have := HNW.out; omega
        obtain ⟨s0, s1⟩ := HB.out x (List.mem_of_getElem? hx)
        have hb := sumL_bd (l := r.t.ws.take i) fun y hy => HB.out y (List.mem_of_mem_take hy)
        have hln : ((r.t.ws.take i).length : Int) ≤ 16 := by rw [List.length_take]; omega
        have HS : Hid (sumL (r.t.ws.take (i + 1)) = sumL (r.t.ws.take i) + x.left) := sumL_take hx
        generalize sumL (r.t.ws.take i) = S at *
        obtain ⟨d0, d1⟩ := hb
        have d2 : S ≤ 16000 := by omega
        clear hx hvq hrr hra hQ d1 hln
        go_wp2_with fail
        go_roundw
        case rel => exact ⟨by trivial, i + 1, by omega, by go_num, by rw [HS.out]⟩
        case measure => simp [intOf]; omega
      · have hge : ¬ ((i : Int) < (nw : Int)) := by omega
        have hE : r.t.ws.take i = r.t.ws := List.take_of_length_le (by have := HNW.out; omega)
        rw [hE]
        clear hlt hE
        go_wp2_with fail
        go_ret
        exact ⟨rfl, rfl⟩
end Go.Proofs.Ytfndbllpnkhlhaa
