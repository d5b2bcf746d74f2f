/- A table that a call made itself; the fixed run. -/
import Derived.Test.YtkigagglkmdccaaTm
namespace Go.Proofs.Ytkigagglkmdccaa
open Go.RowKit
set_option linter.unusedVariables false
set_option linter.unusedSimpArgs false

/-- A table all of whose blocks are newer than a world. -/
def SM (w w' : World) (T : Nat) (x : Fx) : Prop := ∃ a, TR w' T a x ∧ (∀ q, TF a q → w.heap.size ≤ q) ∧ Below w.heap.size w w'
theorem SM.below {w w1 : World} {T : Nat} {x : Fx} (h : SM w w1 T x) : Below w.heap.size w w1 := by
  obtain ⟨a, h1, h2, h3⟩ := h
  exact h3
theorem SM.newer {w w1 w2 : World} {T : Nat} {x : Fx} (h : SM w w1 T x) (hb : Below w1.heap.size w1 w2) : SM w w2 T x := by
  obtain ⟨a, h1, h2, h3⟩ := h
  exact ⟨a, (h1.newer hb).1, h2, h3.trans (hb.mono h3.size)⟩
theorem sm_new (w : World) : Calls Try.prog 7 #[.int .i64 1] w fun e w' => ∃ T, e = .returned (.pointer (some ⟨T, 0, none⟩)) ∧ SM w w' T newX := by
  refine (tnew_any w).mono ?_
  rintro e w' ⟨T, a, rfl, h1, h2, h3⟩
  exact ⟨T, rfl, a, h1, h2, h3⟩
theorem SM.fr {w w1 w2 : World} {T : Nat} {a a' : Pa} {x' : Fx} (h2 : ∀ q, TF a q → w.heap.size ≤ q) (h3 : Below w.heap.size w w1) (k1 : TR w2 T a' x') (k2 : Fr (TF a) (TF a') w1 w2) : SM w w2 T x' := by
  have := h3.size
  exact ⟨a', k1, k2.low h2 this, h3.trans (k2.below h2 this)⟩
theorem SM.set {w w1 : World} {T : Nat} {x : Fx} (h : SM w w1 T x) (hx : Fok x) (nm : List UInt8) (wt : Int) : Calls Try.prog 12 #[.pointer (some ⟨T, 0, none⟩), .string (tx nm), .int .i64 wt] w1 fun e w2 => e = .returned (.int .i64 (setX x nm wt).1) ∧ SM w w2 T (setX x nm wt).2 := by
  obtain ⟨a, h1, h2, h3⟩ := h
  refine (tset_any h1 hx nm wt).mono ?_
  rintro e w2 ⟨rfl, a', k1, k2⟩
  exact ⟨rfl, SM.fr h2 h3 k1 k2⟩
theorem SM.push {w w1 : World} {T : Nat} {x : Fx} (h : SM w w1 T x) (hx : Fok x) (nm : List UInt8) (id cost : Int) : Calls Try.prog 13 #[.pointer (some ⟨T, 0, none⟩), .string (tx nm), .agg #[.int .i64 id, .int .i64 cost]] w1 fun e w2 => e = .returned (.int .i64 (pushX x nm id cost).1) ∧ SM w w2 T (pushX x nm id cost).2 := by
  obtain ⟨a, h1, h2, h3⟩ := h
  refine (tpush_any h1 hx.up hx.le nm id cost (hx.jo nm).1).mono ?_
  rintro e w2 ⟨rfl, a', k1, k2⟩
  exact ⟨rfl, SM.fr h2 h3 k1 k2⟩
theorem SM.step {w w1 : World} {T : Nat} {x : Fx} (h : SM w w1 T x) (hx : Fok x) (k : Nat) (hk : x.slot = k) (hk2 : k ≤ 1000000) : Calls Try.prog 14 #[.pointer (some ⟨T, 0, none⟩)] w1 fun e w2 => e = .returned (.agg #[.int .i64 k, .string (tx (turnF x k)), .int .i64 (srvJ x.J (turnF x k)).1.1, .int .i64 (srvJ x.J (turnF x k)).1.2.1, .bool (srvJ x.J (turnF x k)).1.2.2.1, .bool (srvJ x.J (turnF x k)).1.2.2.2]) ∧ SM w w2 T { x with slot := (k : Int) + 1, J := (srvJ x.J (turnF x k)).2 } := by
  obtain ⟨a, h1, h2, h3⟩ := h
  refine (tstep_any h1 k hk hk2 hx.le hx.jo).mono ?_
  rintro e w2 ⟨rfl, a', k1, k2⟩
  exact ⟨rfl, SM.fr h2 h3 k1 k2⟩
theorem SM.within {w w1 : World} {T : Nat} {x : Fx} (h : SM w w1 T x) (hx : Fok x) (k : Nat) (hk : x.slot = k) (nm : List UInt8) (cost : Int) : Calls Try.prog 19 #[.pointer (some ⟨T, 0, none⟩), .string (tx nm), .int .i64 cost] w1 fun e w2 => e = .returned (.tuple #[.int .i64 (withinX x k nm cost).1, .int .i64 (withinX x k nm cost).2]) ∧ SM w w2 T x := by
  have hh := h
  obtain ⟨a, h1, h2, h3⟩ := h
  refine (within_any h1 hx.up hx.le k hk nm cost hx.jo).mono ?_
  rintro e w2 ⟨rfl, hb⟩
  exact ⟨rfl, hh.newer hb⟩
theorem SM.waiting {w w1 : World} {T : Nat} {x : Fx} (h : SM w w1 T x) (nm : List UInt8) : Calls Try.prog 16 #[.pointer (some ⟨T, 0, none⟩), .string (tx nm)] w1 fun e w' => e = .returned (.int .i64 ((x.J nm).length : Int)) ∧ w' = w1 := by
  obtain ⟨a, h1, h2, h3⟩ := h
  exact twait_any h1 nm
/-- The fixed run ahead of a slot. -/
def KI (w wr : World) (T k : Nat) : Prop := ∃ y : Fx, Fok y ∧ y.ns = [nA, nB] ∧ y.slot = (k : Int) ∧ y.J = knJ k ∧ SM w wr T y
theorem KI.newer {w w1 w2 : World} {T k : Nat} (h : KI w w1 T k) (hb : Below w1.heap.size w1 w2) : KI w w2 T k := by
  obtain ⟨y, h1, h2, h3, h4, h5⟩ := h
  exact ⟨y, h1, h2, h3, h4, h5.newer hb⟩
theorem KI.call {w wr : World} {T k : Nat} (h : KI w wr T k) (hk : k < 4) {dn so : Bool} (hd : decide (k = 3) = dn) (hs : decide (k % 2 = 1) = so) : ∃ (tn : ByteArray) (id cost : Int), Calls Try.prog 14 #[.pointer (some ⟨T, 0, none⟩)] wr fun e w2 => e = .returned (.agg #[.int .i64 k, .string tn, .int .i64 id, .int .i64 cost, .bool dn, .bool so]) ∧ Hid (KI w w2 T (k + 1)) := by
  obtain ⟨y, h1, h2, h3, h4, h5⟩ := h
  obtain ⟨e1, e2, e3, e4⟩ := kn_step h2 hk h4
  refine ⟨tx (turnF y k), (srvJ y.J (turnF y k)).1.1, (srvJ y.J (turnF y k)).1.2.1, (h5.step h1 k h3 (by omega)).mono ?_⟩
  rintro e w2 ⟨rfl, hz⟩
  refine ⟨by rw [e2, e3, hd, hs], _, h1.step _ _, h2, ?_, e4, hz⟩
  show (k : Int) + 1 = ((k + 1 : Nat) : Int)
  omega
set_option maxRecDepth 20000 in
set_option maxHeartbeats 4000000 in
theorem known_any (w : World) : Calls Try.prog 9 #[] w fun e w' => e = .returned (.bool true) ∧ Below w.heap.size w w' := by
  have HN : Hid (Calls Try.prog 7 #[.int .i64 1] w fun e w' => ∃ T, e = .returned (.pointer (some ⟨T, 0, none⟩)) ∧ Hid (SM w w' T newX)) := sm_new w
  go_enter Try.func9, Try.ntmps9
  go_upto_region 4 with (go_at_call 7; refine HN.out.mono ?_; rintro e w1 ⟨T, rfl, H1⟩)
  have HS1 : Hid (Calls Try.prog 12 #[.pointer (some ⟨T, 0, none⟩), .string { data := #[97] }, .int .i64 1] w1 fun e w2 => ∃ c, e = .returned (.int .i64 c) ∧ Hid (SM w w2 T (setX newX nA 1).2)) := (H1.out.set Fok.new nA 1).mono fun e w2 h => ⟨_, h.1, h.2⟩
  go_upto_region 5 with (go_at_call 12; refine HS1.out.mono ?_; rintro e w2 ⟨c1, rfl, H2⟩)
  have HS2 : Hid (Calls Try.prog 12 #[.pointer (some ⟨T, 0, none⟩), .string { data := #[98] }, .int .i64 1] w2 fun e w3 => ∃ c, e = .returned (.int .i64 c) ∧ Hid (SM w w3 T knX)) := (H2.out.set (Fok.new.set _ _) nB 1).mono fun e w2 h => ⟨_, h.1, h.2⟩
  go_upto_region 6 with (go_at_call 12; refine HS2.out.mono ?_; rintro e w3 ⟨c2, rfl, H3⟩)
  have HS3 : Hid (Calls Try.prog 19 #[.pointer (some ⟨T, 0, none⟩), .string { data := #[98] }, .int .i64 2] w3 fun e w4 => e = .returned (.tuple #[.int .i64 4, .int .i64 0]) ∧ Hid (SM w w4 T knX)) := by
    have := H3.out.within knX_ok 0 knX_slot nB 2
    rw [knX_within] at this
    exact this
  go_upto_region 7 with (go_at_call 19; refine HS3.out.mono ?_; rintro e w4 ⟨rfl, H4⟩)
  have HS4 : Hid (Calls Try.prog 13 #[.pointer (some ⟨T, 0, none⟩), .string { data := #[98] }, .agg #[.int .i64 7, .int .i64 2]] w4 fun e w5 => ∃ c, e = .returned (.int .i64 c) ∧ Hid (KI w w5 T 0)) := by
    refine (H4.out.push knX_ok nB 7 2).mono fun e w5 h => ⟨_, h.1, _, knX_ok.push _ _ _, ?_, ?_, knX_push, h.2⟩
    · rw [(pushX_keep _ _ _ _).2, knX_ns]
    · rw [(pushX_keep _ _ _ _).1, knX_slot]; rfl
  go_upto_region 8 with (go_at_call 13; refine HS4.out.mono ?_; rintro e w5 ⟨c3, rfl, H5⟩)
  clear HN HS1 HS2 HS3 HS4 H1 H2 H3 H4
  go_wp2_with fail
  go_loopw [4, 5] (fun a b wr => (a = .int .i64 0 ∧ Hid (KI w wr T 0)) ∨ (a = .int .i64 1 ∧ Hid (KI w wr T 1)) ∨ (a = .int .i64 2 ∧ Hid (KI w wr T 2)) ∨ (a = .int .i64 3 ∧ Hid (KI w wr T 3)) ∨ (a = .int .i64 4 ∧ Hid (KI w wr T 4))) (fun a b wr => 4 - (intOf a).toNat)
  case atStart => exact .inl ⟨rfl, H5⟩
  case round =>
    rcases hrel with ⟨rfl, HK⟩ | ⟨rfl, HK⟩ | ⟨rfl, HK⟩ | ⟨rfl, HK⟩ | ⟨rfl, HK⟩
    · obtain ⟨tn, id, cost, hc⟩ := HK.out.call (by decide) (dn := false) (so := false) rfl rfl
      have HC : Hid (Calls Try.prog 14 #[.pointer (some ⟨T, 0, none⟩)] wr fun e w2 => e = .returned (.agg #[.int .i64 0, .string tn, .int .i64 id, .int .i64 cost, .bool false, .bool false]) ∧ Hid (KI w w2 T 1)) := hc
      clear hc
      go_upto_region 12 with (go_at_call 14; refine HC.out.mono ?_; rintro e w2 ⟨rfl, H2⟩)
      obtain ⟨W, hW⟩ : ∃ W, w2.alloc (.cells #[.int .i64 0, .string tn, .int .i64 id, .int .i64 cost, .bool false, .bool false] 40) = W := ⟨_, rfl⟩
      have HKW : Hid (KI w W T 1) := by
        show KI w W T 1
        rw [← hW]
        exact H2.out.newer (bel1' _ _)
      have e : W.heap[w2.heap.size]? = some (.cells #[.int .i64 0, .string tn, .int .i64 id, .int .i64 cost, .bool false, .bool false] 40 (0, 0)) := by rw [← hW]; exact heap_alloc_new _ _
      obtain ⟨⟨y0, -, -, -, y4, y5⟩, -⟩ := served_cells e
      rw [hW]
      clear hW e HC H2 HK
      go_wp2_with fail
      go_roundw
      case rel => exact .inr (.inl ⟨by go_num, HKW⟩)
      case measure => first | decide | simp [intOf]
    · obtain ⟨tn, id, cost, hc⟩ := HK.out.call (by decide) (dn := false) (so := true) rfl rfl
      have HC : Hid (Calls Try.prog 14 #[.pointer (some ⟨T, 0, none⟩)] wr fun e w2 => e = .returned (.agg #[.int .i64 1, .string tn, .int .i64 id, .int .i64 cost, .bool false, .bool true]) ∧ Hid (KI w w2 T 2)) := hc
      clear hc
      go_upto_region 12 with (go_at_call 14; refine HC.out.mono ?_; rintro e w2 ⟨rfl, H2⟩)
      obtain ⟨W, hW⟩ : ∃ W, w2.alloc (.cells #[.int .i64 1, .string tn, .int .i64 id, .int .i64 cost, .bool false, .bool true] 40) = W := ⟨_, rfl⟩
      have HKW : Hid (KI w W T 2) := by
        show KI w W T 2
        rw [← hW]
        exact H2.out.newer (bel1' _ _)
      have e : W.heap[w2.heap.size]? = some (.cells #[.int .i64 1, .string tn, .int .i64 id, .int .i64 cost, .bool false, .bool true] 40 (0, 0)) := by rw [← hW]; exact heap_alloc_new _ _
      obtain ⟨⟨y0, -, -, -, y4, y5⟩, -⟩ := served_cells e
      rw [hW]
      clear hW e HC H2 HK
      go_wp2_with fail
      go_roundw
      case rel => exact .inr (.inr (.inl ⟨by go_num, HKW⟩))
      case measure => first | decide | simp [intOf]
    · obtain ⟨tn, id, cost, hc⟩ := HK.out.call (by decide) (dn := false) (so := false) rfl rfl
      have HC : Hid (Calls Try.prog 14 #[.pointer (some ⟨T, 0, none⟩)] wr fun e w2 => e = .returned (.agg #[.int .i64 2, .string tn, .int .i64 id, .int .i64 cost, .bool false, .bool false]) ∧ Hid (KI w w2 T 3)) := hc
      clear hc
      go_upto_region 12 with (go_at_call 14; refine HC.out.mono ?_; rintro e w2 ⟨rfl, H2⟩)
      obtain ⟨W, hW⟩ : ∃ W, w2.alloc (.cells #[.int .i64 2, .string tn, .int .i64 id, .int .i64 cost, .bool false, .bool false] 40) = W := ⟨_, rfl⟩
      have HKW : Hid (KI w W T 3) := by
        show KI w W T 3
        rw [← hW]
        exact H2.out.newer (bel1' _ _)
      have e : W.heap[w2.heap.size]? = some (.cells #[.int .i64 2, .string tn, .int .i64 id, .int .i64 cost, .bool false, .bool false] 40 (0, 0)) := by rw [← hW]; exact heap_alloc_new _ _
      obtain ⟨⟨y0, -, -, -, y4, y5⟩, -⟩ := served_cells e
      rw [hW]
      clear hW e HC H2 HK
      go_wp2_with fail
      go_roundw
      case rel => exact .inr (.inr (.inr (.inl ⟨by go_num, HKW⟩)))
      case measure => first | decide | simp [intOf]
    · obtain ⟨tn, id, cost, hc⟩ := HK.out.call (by decide) (dn := true) (so := true) rfl rfl
      have HC : Hid (Calls Try.prog 14 #[.pointer (some ⟨T, 0, none⟩)] wr fun e w2 => e = .returned (.agg #[.int .i64 3, .string tn, .int .i64 id, .int .i64 cost, .bool true, .bool true]) ∧ Hid (KI w w2 T 4)) := hc
      clear hc
      go_upto_region 12 with (go_at_call 14; refine HC.out.mono ?_; rintro e w2 ⟨rfl, H2⟩)
      obtain ⟨W, hW⟩ : ∃ W, w2.alloc (.cells #[.int .i64 3, .string tn, .int .i64 id, .int .i64 cost, .bool true, .bool true] 40) = W := ⟨_, rfl⟩
      have HKW : Hid (KI w W T 4) := by
        show KI w W T 4
        rw [← hW]
        exact H2.out.newer (bel1' _ _)
      have e : W.heap[w2.heap.size]? = some (.cells #[.int .i64 3, .string tn, .int .i64 id, .int .i64 cost, .bool true, .bool true] 40 (0, 0)) := by rw [← hW]; exact heap_alloc_new _ _
      obtain ⟨⟨y0, -, -, -, y4, y5⟩, -⟩ := served_cells e
      rw [hW]
      clear hW e HC H2 HK
      go_wp2_with fail
      go_roundw
      case rel => exact .inr (.inr (.inr (.inr (⟨by go_num, HKW⟩))))
      case measure => first | decide | simp [intOf]
    · have HW : Hid (Calls Try.prog 16 #[.pointer (some ⟨T, 0, none⟩), .string { data := #[98] }] wr fun e w' => e = .returned (.int .i64 0) ∧ w' = wr) := by
        obtain ⟨y, h1, h2, h3, h4, h5⟩ := HK.out
        have := h5.waiting nB
        rw [h4, show knJ 4 nB = [] from upd_at _ _ _] at this
        exact this
      go_wp2_with (go_at_call 16; refine HW.out.mono ?_; rintro e w1 ⟨rfl, hw1⟩; rw [hw1]; clear hw1)
      go_ret
      obtain ⟨y, h1, h2, h3, h4, h5⟩ := HK.out
      exact ⟨rfl, h5.below⟩
end Go.Proofs.Ytkigagglkmdccaa
