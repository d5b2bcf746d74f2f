/- A table beside a list of its names; texts that came in. -/
import Derived.Test.YtkigagglkmdccaaXa
import Derived.Test.YtkigagglkmdccaaAa
namespace Go.Proofs.Ytkigagglkmdccaa
open Go.ChangeShapes Go.WideShapes Go.ChangeAt Go.RowKit
set_option linter.unusedVariables false
set_option linter.unusedSimpArgs false

/-- A table that a call made itself, and a list of texts beside it. -/
def SL (w w' : World) (T : Nat) (x : Fx) (lv : Value) (ls : List (List UInt8)) : Prop := ∃ a, TR w' T a x ∧ (∀ q, TF a q → w.heap.size ≤ q) ∧ Below w.heap.size w w' ∧ (ls = [] ∨ ((∃ B, w'.ownsRow B 9 1 lv ls.length (ls.map strV)) ∧ ∀ q, lv.ownBlock = some q → ¬ TF a q))
theorem SL.below {w w1 : World} {T : Nat} {x : Fx} {lv : Value} {ls : List (List UInt8)} (h : SL w w1 T x lv ls) : Below w.heap.size w w1 := by
  obtain ⟨a, h1, h2, h3, h4⟩ := h
  exact h3
theorem SL.newer {w w1 w2 : World} {T : Nat} {x : Fx} {lv : Value} {ls : List (List UInt8)} (h : SL w w1 T x lv ls) (hb : Below w1.heap.size w1 w2) : SL w w2 T x lv ls := by
  obtain ⟨a, h1, h2, h3, h4⟩ := h
  refine ⟨a, (h1.newer hb).1, h2, h3.trans (hb.mono h3.size), h4.imp id ?_⟩
  rintro ⟨⟨B, r⟩, k⟩
  exact ⟨⟨B, own_at r fun q hq => hb.block q (r.lt q hq).2⟩, k⟩
theorem SL.fr {w w1 w2 : World} {T : Nat} {a a' : Pa} {x' : Fx} {lv : Value} {ls : List (List UInt8)} (h2 : ∀ q, TF a q → w.heap.size ≤ q) (h3 : Below w.heap.size w w1) (h4 : ls = [] ∨ ((∃ B, w1.ownsRow B 9 1 lv ls.length (ls.map strV)) ∧ ∀ q, lv.ownBlock = some q → ¬ TF a q)) (k1 : TR w2 T a' x') (k2 : Fr (TF a) (TF a') w1 w2) : SL w w2 T x' lv ls := by
  have := h3.size
  refine ⟨a', k1, k2.low h2 this, h3.trans (k2.below h2 this), h4.imp id ?_⟩
  rintro ⟨⟨B, r⟩, k⟩
  refine ⟨⟨B, own_at r fun q hq => k2.block q (r.lt q hq).2 (k q hq)⟩, fun q hq e => ?_⟩
  rcases k2.grow q e with e | e
  · exact k q hq e
  · have := (r.lt q hq).2
    omega
theorem SM.tens {w w1 : World} {T : Nat} {x : Fx} (h : SM w w1 T x) (hx : Fok x) : Calls Try.prog 17 #[.pointer (some ⟨T, 0, none⟩)] w1 fun e w2 => ∃ sv cap, e = .returned (.slice sv x.ns.length cap) ∧ SL w w2 T x (.slice sv x.ns.length cap) x.ns := by
  obtain ⟨a, h1, h2, h3⟩ := h
  refine (ttens_any h1 hx.le).mono ?_
  rintro e w2 ⟨⟨sv, cap, rfl, hr⟩, hb⟩
  refine ⟨sv, cap, rfl, a, (h1.newer hb).1, h2, h3.trans (hb.mono h3.size), hr.imp id fun r => ⟨⟨_, r⟩, fun q hq k => ?_⟩⟩
  have := (r.lt q hq).1
  have := h1.lt q k
  omega
theorem SL.push {w w1 : World} {T : Nat} {x : Fx} {lv : Value} {ls : List (List UInt8)} (h : SL w w1 T x lv ls) (hx : Fok x) (nm : List UInt8) (id cost : Int) : Calls Try.prog 13 #[.pointer (some ⟨T, 0, none⟩), .string (tx nm), .agg #[.int .i64 id, .int .i64 cost]] w1 fun e w2 => e = .returned (.int .i64 (pushX x nm id cost).1) ∧ SL w w2 T (pushX x nm id cost).2 lv ls := by
  obtain ⟨a, h1, h2, h3, h4⟩ := h
  refine (tpush_any h1 hx.up hx.le nm id cost (hx.jo nm).1).mono ?_
  rintro e w2 ⟨rfl, a', k1, k2⟩
  exact ⟨rfl, SL.fr h2 h3 h4 k1 k2⟩
theorem SL.step {w w1 : World} {T : Nat} {x : Fx} {lv : Value} {ls : List (List UInt8)} (h : SL w w1 T x lv ls) (hx : Fok x) (k : Nat) (hk : x.slot = k) (hk2 : k ≤ 1000000) : Calls Try.prog 14 #[.pointer (some ⟨T, 0, none⟩)] w1 fun e w2 => e = .returned (.agg #[.int .i64 k, .string (tx (turnF x k)), .int .i64 (srvJ x.J (turnF x k)).1.1, .int .i64 (srvJ x.J (turnF x k)).1.2.1, .bool (srvJ x.J (turnF x k)).1.2.2.1, .bool (srvJ x.J (turnF x k)).1.2.2.2]) ∧ SL w w2 T { x with slot := (k : Int) + 1, J := (srvJ x.J (turnF x k)).2 } lv ls := by
  obtain ⟨a, h1, h2, h3, h4⟩ := h
  refine (tstep_any h1 k hk hk2 hx.le hx.jo).mono ?_
  rintro e w2 ⟨rfl, a', k1, k2⟩
  exact ⟨rfl, SL.fr h2 h3 h4 k1 k2⟩
theorem SL.turn {w w1 : World} {T : Nat} {x : Fx} {lv : Value} {ls : List (List UInt8)} (h : SL w w1 T x lv ls) (hx : Fok x) (k : Nat) (hk : x.slot = k) : Calls Try.prog 18 #[.pointer (some ⟨T, 0, none⟩)] w1 fun e w2 => e = .returned (.string (tx (turnF x k))) ∧ SL w w2 T x lv ls := by
  have hh := h
  obtain ⟨a, h1, h2, h3, h4⟩ := h
  refine (turn_any h1 k hk hx.le).mono ?_
  rintro e w2 ⟨rfl, hb⟩
  exact ⟨rfl, hh.newer hb⟩
theorem SL.cell {w w1 : World} {T : Nat} {x : Fx} {sv : Option Addr} {n cap : Nat} {ls : List (List UInt8)} (h : SL w w1 T x (.slice sv n cap) ls) (hn : ls.length = n) {i : Nat} {m : List UInt8} (hi : ls[i]? = some m) : ∃ g, sv = some ⟨g, 0, none⟩ ∧ (n : Int) ≤ cap ∧ w1.cell? ⟨g, i, none⟩ = some (.string (tx m)) := by
  obtain ⟨a, h1, h2, h3, h4⟩ := h
  have hlt := (List.getElem?_eq_some_iff.1 hi).1
  rcases h4 with rfl | ⟨⟨B, r⟩, -⟩
  · simp at hi
  · subst hn
    obtain ⟨g, cp, hv⟩ := own_form r (by omega)
    have hsa : sv = some ⟨g, 0, none⟩ := (Value.slice.inj hv).1
    subst hsa
    exact ⟨g, rfl, by have := own_cap r; omega, Strs.cell (base := B) r hi⟩
/-- Jobs are of tenants alone. -/
def Jin (x : Fx) : Prop := ∀ s, x.J s ≠ [] → s ∈ x.ns
theorem Jin.push {x : Fx} (h : Jin x) (nm : List UInt8) (id cost : Int) : Jin (pushX x nm id cost).2 := by
  unfold pushX
  split
  · exact h
  · rename_i hp
    split
    · exact h
    · have hm : nm ∈ x.ns := List.mem_of_getElem? (plB_true (by simpa using hp))
      unfold pushJ
      split
      · exact h
      · intro s hs
        by_cases e : s = nm
        · rw [e]; exact hm
        · exact h s (by simpa [upd_off x.J _ e] using hs)
theorem Jin.step {x : Fx} (h : Jin x) (k : Int) (nm : List UInt8) : Jin { x with slot := k, J := (srvJ x.J nm).2 } := by
  intro s hs
  refine h s fun e => hs ?_
  show (srvJ x.J nm).2 s = []
  unfold srvJ
  cases hJ : x.J nm with
  | nil => exact e
  | cons j r =>
    obtain ⟨id, cost, n⟩ := j
    by_cases e2 : s = nm
    · rw [e2, hJ] at e; cases e
    · show upd x.J nm _ s = []
      rw [upd_off x.J _ e2]; exact e
/-- The run ahead of slot k. -/
def L3 (w wr : World) (T k : Nat) (lv : Value) (ls : List (List UInt8)) : Prop := ∃ y : Fx, Fok y ∧ y.slot = (k : Int) ∧ y.ns = ls ∧ Jin y ∧ SL w wr T y lv ls
theorem L3.newer {w w1 w2 : World} {T k : Nat} {lv : Value} {ls : List (List UInt8)} (h : L3 w w1 T k lv ls) (hb : Below w1.heap.size w1 w2) : L3 w w2 T k lv ls := by
  obtain ⟨y, h1, h2, h3, h4, h5⟩ := h
  exact ⟨y, h1, h2, h3, h4, h5.newer hb⟩
theorem L3.push {w w1 : World} {T k : Nat} {lv : Value} {ls : List (List UInt8)} (h : L3 w w1 T k lv ls) (nm : List UInt8) (id cost : Int) : Calls Try.prog 13 #[.pointer (some ⟨T, 0, none⟩), .string (tx nm), .agg #[.int .i64 id, .int .i64 cost]] w1 fun e w2 => ∃ r, e = .returned (.int .i64 r) ∧ Hid (L3 w w2 T k lv ls) := by
  obtain ⟨y, h1, h2, h3, h4, h5⟩ := h
  refine (h5.push h1 nm id cost).mono ?_
  rintro e w2 ⟨rfl, hz⟩
  exact ⟨_, rfl, _, h1.push _ _ _, (pushX_keep _ _ _ _).1.trans h2, (pushX_keep _ _ _ _).2.trans h3, h4.push _ _ _, hz⟩
/-- A slot: whose turn it was, and that nobody is served where there is no tenant. -/
theorem L3.slot {w w1 : World} {T k : Nat} {lv : Value} {ls : List (List UInt8)} (h : L3 w w1 T k lv ls) (hk : k ≤ 1000000) : ∃ tn : List UInt8, (ls = [] → tn = []) ∧ (ls ≠ [] → ls[k % ls.length]? = some tn) ∧ Calls Try.prog 18 #[.pointer (some ⟨T, 0, none⟩)] w1 fun e w2 => e = .returned (.string (tx tn)) ∧ Hid (∃ (id cost : Int) (dn so : Bool), (ls = [] → so = false) ∧ Calls Try.prog 14 #[.pointer (some ⟨T, 0, none⟩)] w2 fun e w3 => e = .returned (.agg #[.int .i64 k, .string (tx tn), .int .i64 id, .int .i64 cost, .bool dn, .bool so]) ∧ Hid (L3 w w3 T (k + 1) lv ls)) := by
  obtain ⟨y, h1, h2, h3, h4, h5⟩ := h
  refine ⟨turnF y k, fun e => ?_, fun e => ?_, (h5.turn h1 k h2).mono ?_⟩
  · unfold turnF
    rw [h3, e]
    rfl
  · unfold turnF
    rw [h3, List.getD_eq_getElem?_getD]
    have hpos : 0 < ls.length := List.length_pos_iff.2 e
    rw [List.getElem?_eq_getElem (Nat.mod_lt _ hpos)]
    rfl
  · rintro e w2 ⟨rfl, hz⟩
    refine ⟨rfl, (srvJ y.J (turnF y k)).1.1, (srvJ y.J (turnF y k)).1.2.1, (srvJ y.J (turnF y k)).1.2.2.1, (srvJ y.J (turnF y k)).1.2.2.2, fun e => ?_, (hz.step h1 k h2 hk).mono ?_⟩
    · have hJ : y.J (turnF y k) = [] := by
        cases hj : y.J (turnF y k) with
        | nil => rfl
        | cons j r =>
          have := h4 (turnF y k) (by rw [hj]; simp)
          rw [h3, e] at this
          simp at this
      unfold srvJ
      rw [hJ]
    · rintro e w3 ⟨rfl, hy⟩
      exact ⟨rfl, _, h1.step _ _, by show (k : Int) + 1 = ((k + 1 : Nat) : Int); omega, h3, h4.step _ _, hy⟩
/-- Texts as they lie. -/
structure NmsAt (W : World) (sa : Option Addr) (len cap : Nat) (xs : List (List UInt8)) : Prop where
  n : xs.length = len
  c : len ≤ cap
  l : ∀ (i : Nat) (x : List UInt8), xs[i]? = some x → ∃ b off, sa = some ⟨b, off, none⟩ ∧ b < W.heap.size ∧ W.cell? ⟨b, off + i, none⟩ = some (.string (tx x))
theorem NmsAt.later {W W' : World} {sa : Option Addr} {len cap B : Nat} {xs : List (List UInt8)} (h : NmsAt W sa len cap xs) (hb : Below B W W') (hB : W.heap.size ≤ B) : NmsAt W' sa len cap xs := by
  refine ⟨h.n, h.c, fun i o ho => ?_⟩
  obtain ⟨b, off, e, hlt, h0⟩ := h.l i o ho
  exact ⟨b, off, e, by have := hb.size; omega, (hb.cell (p := ⟨b, off + i, none⟩) (by show b < B; omega)).trans h0⟩
set_option maxRecDepth 20000 in
theorem nms_arg {H : Type} {enc : TypeId × Value → H} {W : World} {fuel : Nat} {sa : Option Addr} {len cap : Nat} {d : DataW H} {q : List MemPlace} (h : DataW.trod enc Try.prog W 0 (fun _ => true) true fuel 35 [.slice sa len cap] = some (d, q)) (hw : ∀ n ∈ d.weights Try.prog 35, n ≤ reachBytes) :
    (∃ xs, NmsAt W sa len cap xs) ∧ (len : Int) ≤ 140737488351232 := by
  have hrb : reachBytes = 140737488351232 := rfl
  rcases Deep.open_slice Try.underlying35 h with ⟨hcs, hx⟩ | ⟨a, len', cap', m, n, D, Pl, hcs, _, hl, hm, hmm, hx, hcell⟩
  · simp only [List.cons.injEq, and_true, Value.slice.injEq] at hcs
    obtain ⟨rfl, rfl, rfl⟩ := hcs
    exact ⟨⟨[], rfl, Nat.le_refl _, fun i o ho => by simp at ho⟩, by decide⟩
  · simp only [List.cons.injEq, and_true, Value.slice.injEq] at hcs
    obtain ⟨rfl, rfl, rfl⟩ := hcs
    simp only [Prod.mk.injEq] at hx
    have hmc : m = cap := by simpa using hmm
    have k9 : Try.prog.cellsOf 9 = 1 := by kernel_rfl
    rw [k9] at hcell
    have hd := hx.1
    rw [hd] at hw
    simp only [DataW.weights, Try.underlying35, List.mem_cons, List.mem_append] at hw
    refine ⟨?_, ?_⟩
    · obtain ⟨xs, h1, h2⟩ := list_of len (fun i (x : List UInt8) => ∃ b off, some a = some (⟨b, off, none⟩ : Addr) ∧ b < W.heap.size ∧ W.cell? ⟨b, off + i, none⟩ = some (.string (tx x))) (fun i hi => by
        obtain ⟨b, off, rfl⟩ : ∃ b off, a = ⟨b, off, none⟩ := by
          obtain ⟨cs, h1, _⟩ := hcell 0 (by omega)
          obtain ⟨_, hlen', hc'⟩ := World.cells?_some h1
          have h2 := hc' 0 (by omega)
          exact plain_addr (x := a) (v := cs[0]'(by omega)) (by
            have h3 : W.cell? a = cs[0]? := by simpa [Addr.add] using h2
            rw [h3]
            exact List.getElem?_eq_getElem (by omega))
        obtain ⟨cs, h1, h2⟩ := hcell i (by omega)
        rw [Addr.add_mid, Nat.mul_one] at h1
        obtain ⟨_, hlen', hc'⟩ := World.cells?_some h1
        obtain ⟨x, hx', _, _⟩ := DataW.trod_string Try.underlying9 h2
        have h3 := hc' 0 (by omega)
        rw [Addr.add_mid, hx'] at h3
        simp at h3
        exact ⟨x.data.toList, b, off, rfl, cell_block h3, by rw [← tx_at]; exact h3⟩)
      exact ⟨xs, h1, hl, h2⟩
    · have h1 := hw _ (.inl rfl)
      rw [show Try.prog.bytesOf 9 = 16 from by kernel_rfl] at h1
      simp only [List.length_map, List.length_range] at h1
      omega
end Go.Proofs.Ytkigagglkmdccaa
