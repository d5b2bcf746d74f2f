/- The two runs of SlotsApart, between calls. -/
import Derived.Test.YtkigagglkmdccaaYt
namespace Go.Proofs.Ytkigagglkmdccaa
open Go.RowKit
set_option linter.unusedVariables false
set_option linter.unusedSimpArgs false

/-- Both tables: the same names and slot, and the same jobs of one tenant. -/
def AP (w wr : World) (T U : Nat) (own : List UInt8) (k : Nat) (ks : List (Nat × Obj)) : Prop := ∃ x y : Fx, Fok x ∧ Fok y ∧ x.slot = (k : Int) ∧ y.slot = (k : Int) ∧ x.ns = y.ns ∧ x.J own = y.J own ∧ S2 w wr T U x y ks
variable {w w1 w2 : World} {T U k : Nat} {own : List UInt8} {ks : List (Nat × Obj)}
theorem AP.newer (h : AP w w1 T U own k ks) (hb : Below w1.heap.size w1 w2) : AP w w2 T U own k ks := by
  obtain ⟨x, y, h1, h2, h3, h4, h5, h6, h7⟩ := h
  exact ⟨x, y, h1, h2, h3, h4, h5, h6, h7.newer hb⟩
theorem AP.below (h : AP w w1 T U own k ks) : Below w.heap.size w w1 := by
  obtain ⟨x, y, h1, h2, h3, h4, h5, h6, h7⟩ := h
  exact h7.below
theorem AP.keep (h : AP w w1 T U own k ks) (hb : Below w1.heap.size w1 w2) {q : Nat} {o : Obj} (hq : w2.heap[q]? = some o) (hn : w1.heap.size ≤ q) : AP w w2 T U own k ((q, o) :: ks) := by
  obtain ⟨x, y, h1, h2, h3, h4, h5, h6, h7⟩ := h
  exact ⟨x, y, h1, h2, h3, h4, h5, h6, h7.keep hb hq hn⟩
theorem AP.box (h : AP w w1 T U own k ks) (o : Obj) : AP w (w1.alloc o) T U own k ((w1.heap.size, o) :: ks) := h.keep (bel1' _ _) (heap_alloc_new _ _) (Nat.le_refl _)
theorem AP.bare (h : AP w w1 T U own k ks) : AP w w1 T U own k [] := by
  obtain ⟨x, y, h1, h2, h3, h4, h5, h6, h7⟩ := h
  exact ⟨x, y, h1, h2, h3, h4, h5, h6, h7.less (by simp)⟩
theorem AP.row (h : AP w w1 T U own k ks) {q : Nat} {o : Obj} (hp : (q, o) ∈ ks) : w1.heap[q]? = some o := by
  obtain ⟨x, y, h1, h2, h3, h4, h5, h6, h7⟩ := h
  exact h7.at' hp
/-- Another one pushes. -/
theorem AP.pushU (h : AP w w1 T U own k ks) {nm : List UInt8} (hn : nm ≠ own) (id cost : Int) : Calls Try.prog 13 #[.pointer (some ⟨U, 0, none⟩), .string (tx nm), .agg #[.int .i64 id, .int .i64 cost]] w1 fun e w2 => ∃ r, e = .returned (.int .i64 r) ∧ Hid (AP w w2 T U own k ks) := by
  obtain ⟨x, y, h1, h2, h3, h4, h5, h6, h7⟩ := h
  refine (h7.flip.push h2 nm id cost).mono ?_
  rintro e w2 ⟨rfl, hz⟩
  exact ⟨_, rfl, x, _, h1, h2.push _ _ _, h3, (pushX_keep _ _ _ _).1.trans h4, h5.trans (pushX_keep _ _ _ _).2.symm, h6.trans (pushX_off y hn id cost).symm, hz.flip⟩
theorem AP.pushT (h : AP w w1 T U own k ks) {nm : List UInt8} (hn : nm ≠ own) (id cost : Int) : Calls Try.prog 13 #[.pointer (some ⟨T, 0, none⟩), .string (tx nm), .agg #[.int .i64 id, .int .i64 cost]] w1 fun e w2 => ∃ r, e = .returned (.int .i64 r) ∧ Hid (AP w w2 T U own k ks) := by
  obtain ⟨x, y, h1, h2, h3, h4, h5, h6, h7⟩ := h
  refine (h7.push h1 nm id cost).mono ?_
  rintro e w2 ⟨rfl, hz⟩
  exact ⟨_, rfl, _, y, h1.push _ _ _, h2, (pushX_keep _ _ _ _).1.trans h3, h4, (pushX_keep _ _ _ _).2.trans h5, (pushX_off x hn id cost).trans h6, hz⟩
/-- Between the two pushes. -/
def AQ (w wr : World) (T U : Nat) (own : List UInt8) (k : Nat) (ks : List (Nat × Obj)) (id cost r : Int) : Prop := ∃ x y : Fx, Fok x ∧ Fok y ∧ x.slot = (k : Int) ∧ y.slot = (k : Int) ∧ x.ns = y.ns ∧ r = (pushX y own id cost).1 ∧ x.J own = (pushX y own id cost).2.J own ∧ S2 w wr T U x y ks
theorem AQ.row {id cost r : Int} (h : AQ w w1 T U own k ks id cost r) {q : Nat} {o : Obj} (hp : (q, o) ∈ ks) : w1.heap[q]? = some o := by
  obtain ⟨x, y, h1, h2, h3, h4, h5, h6, h7, h8⟩ := h
  exact h8.at' hp
/-- The tenant pushes, in both. -/
theorem AP.one (h : AP w w1 T U own k ks) (id cost : Int) : ∃ r : Int, Calls Try.prog 13 #[.pointer (some ⟨T, 0, none⟩), .string (tx own), .agg #[.int .i64 id, .int .i64 cost]] w1 fun e w2 => e = .returned (.int .i64 r) ∧ AQ w w2 T U own k ks id cost r := by
  obtain ⟨x, y, h1, h2, h3, h4, h5, h6, h7⟩ := h
  refine ⟨(pushX x own id cost).1, (h7.push h1 own id cost).mono ?_⟩
  rintro e w2 ⟨rfl, hz⟩
  obtain ⟨e1, e2⟩ := pushX_own h5 h6 id cost
  exact ⟨rfl, _, y, h1.push _ _ _, h2, (pushX_keep _ _ _ _).1.trans h3, h4, (pushX_keep _ _ _ _).2.trans h5, e1, e2, hz⟩
theorem AQ.two {id cost r : Int} (h : AQ w w1 T U own k ks id cost r) : Calls Try.prog 13 #[.pointer (some ⟨U, 0, none⟩), .string (tx own), .agg #[.int .i64 id, .int .i64 cost]] w1 fun e w2 => e = .returned (.int .i64 r) ∧ AP w w2 T U own k ks := by
  obtain ⟨x, y, h1, h2, h3, h4, h5, h6, h7, h8⟩ := h
  refine (h8.flip.push h2 own id cost).mono ?_
  rintro e w2 ⟨rfl, hz⟩
  exact ⟨by rw [h6], x, _, h1, h2.push _ _ _, h3, (pushX_keep _ _ _ _).1.trans h4, h5.trans (pushX_keep _ _ _ _).2.symm, h7, hz.flip⟩
/-- Between the two slots: what the second one tells. -/
def AS (w wr : World) (T U : Nat) (own : List UInt8) (k : Nat) (ks : List (Nat × Obj)) (tn : List UInt8) (id cost : Int) (dn so : Bool) : Prop := ∃ x y : Fx, Fok x ∧ Fok y ∧ x.slot = ((k + 1 : Nat) : Int) ∧ y.slot = (k : Int) ∧ x.ns = y.ns ∧ tn = turnF y k ∧ (tn = own → (id, cost, dn, so) = (srvJ y.J tn).1) ∧ x.J own = (srvJ y.J tn).2 own ∧ S2 w wr T U x y ks
theorem AS.box {tn : List UInt8} {id cost : Int} {dn so : Bool} (h : AS w w1 T U own k ks tn id cost dn so) (o : Obj) : AS w (w1.alloc o) T U own k ((w1.heap.size, o) :: ks) tn id cost dn so := by
  obtain ⟨x, y, h1, h2, h3, h4, h5, h6, h7, h8, h9⟩ := h
  exact ⟨x, y, h1, h2, h3, h4, h5, h6, h7, h8, h9.keep (bel1' _ _) (heap_alloc_new _ _) (Nat.le_refl _)⟩
theorem AP.slot (h : AP w w1 T U own k ks) (hk : k ≤ 1000000) : ∃ (tn : List UInt8) (id cost : Int) (dn so : Bool), Calls Try.prog 14 #[.pointer (some ⟨T, 0, none⟩)] w1 fun e w2 => e = .returned (.agg #[.int .i64 k, .string (tx tn), .int .i64 id, .int .i64 cost, .bool dn, .bool so]) ∧ Hid (AS w w2 T U own k ks tn id cost dn so) := by
  obtain ⟨x, y, h1, h2, h3, h4, h5, h6, h7⟩ := h
  have ht : turnF x k = turnF y k := by unfold turnF; rw [h5]
  refine ⟨turnF x k, (srvJ x.J (turnF x k)).1.1, (srvJ x.J (turnF x k)).1.2.1, (srvJ x.J (turnF x k)).1.2.2.1, (srvJ x.J (turnF x k)).1.2.2.2, (h7.step h1 k h3 hk).mono ?_⟩
  rintro e w2 ⟨rfl, hz⟩
  refine ⟨rfl, _, y, h1.step _ _, h2, by show (k : Int) + 1 = ((k + 1 : Nat) : Int); omega, h4, h5, ht, fun e => ?_, ?_, hz⟩
  · rw [e]; exact (srvJ_own h6).1
  · show (srvJ x.J (turnF x k)).2 own = (srvJ y.J (turnF x k)).2 own
    by_cases e : turnF x k = own
    · rw [e]; exact (srvJ_own h6).2
    · rw [srvJ_off _ e, srvJ_off _ e]; exact h6
theorem AS.slot {tn : List UInt8} {id cost : Int} {dn so : Bool} (h : AS w w1 T U own k ks tn id cost dn so) (hk : k ≤ 1000000) : ∃ (id' cost' : Int) (dn' so' : Bool), (tn = own → id' = id ∧ cost' = cost ∧ dn' = dn ∧ so' = so) ∧ Calls Try.prog 14 #[.pointer (some ⟨U, 0, none⟩)] w1 fun e w2 => e = .returned (.agg #[.int .i64 k, .string (tx tn), .int .i64 id', .int .i64 cost', .bool dn', .bool so']) ∧ Hid (AP w w2 T U own (k + 1) ks) := by
  obtain ⟨x, y, h1, h2, h3, h4, h5, h6, h7, h8, h9⟩ := h
  refine ⟨(srvJ y.J (turnF y k)).1.1, (srvJ y.J (turnF y k)).1.2.1, (srvJ y.J (turnF y k)).1.2.2.1, (srvJ y.J (turnF y k)).1.2.2.2, fun e => ?_, (h9.flip.step h2 k h4 hk).mono ?_⟩
  · have := h7 e
    rw [← h6, ← this]
    exact ⟨rfl, rfl, rfl, rfl⟩
  · rintro e w2 ⟨rfl, hz⟩
    exact ⟨by rw [h6], x, _, h1, h2.step _ _, h3, by show (k : Int) + 1 = ((k + 1 : Nat) : Int); omega, h5, by rw [h8, h6], hz.flip⟩
theorem AP.aheadT (h : AP w w1 T U own k ks) : ∃ n m : Int, Calls Try.prog 15 #[.pointer (some ⟨T, 0, none⟩), .string (tx own)] w1 fun e w2 => e = .returned (.int .i64 n) ∧ Hid (Calls Try.prog 15 #[.pointer (some ⟨U, 0, none⟩), .string (tx own)] w2 fun e w3 => e = .returned (.int .i64 n) ∧ Hid (AP w w3 T U own k ks ∧ Calls Try.prog 16 #[.pointer (some ⟨T, 0, none⟩), .string (tx own)] w3 (fun e w' => e = .returned (.int .i64 m) ∧ w' = w3) ∧ Calls Try.prog 16 #[.pointer (some ⟨U, 0, none⟩), .string (tx own)] w3 (fun e w' => e = .returned (.int .i64 m) ∧ w' = w3))) := by
  obtain ⟨x, y, h1, h2, h3, h4, h5, h6, h7⟩ := h
  refine ⟨sumJ (x.J own), (x.J own).length, (h7.ahead h1 own).mono ?_⟩
  rintro e w2 ⟨rfl, hz⟩
  refine ⟨rfl, (hz.flip.ahead h2 own).mono ?_⟩
  rintro e w3 ⟨rfl, hy⟩
  refine ⟨by rw [h6], ⟨x, y, h1, h2, h3, h4, h5, h6, hy.flip⟩, hy.flip.waiting own, ?_⟩
  rw [h6]
  exact hy.waiting own
/-- Ahead of the slots: tenants are set, the names lie beside. -/
def A0 (w wr : World) (T U : Nat) (ks : List (Nat × Obj)) : Prop := ∃ x y : Fx, Fok x ∧ Fok y ∧ x.slot = 0 ∧ y.slot = 0 ∧ x.ns = y.ns ∧ (x.J = fun _ => []) ∧ (y.J = fun _ => []) ∧ S2 w wr T U x y ks
/-- Between the two Sets. -/
def A1 (w wr : World) (T U : Nat) (ks : List (Nat × Obj)) (nm : List UInt8) : Prop := ∃ x y : Fx, Fok x ∧ Fok y ∧ x.slot = 0 ∧ y.slot = 0 ∧ x.ns = (setX y nm 1).2.ns ∧ (x.J = fun _ => []) ∧ (y.J = fun _ => []) ∧ S2 w wr T U x y ks
theorem A0.set (h : A0 w w1 T U ks) (nm : List UInt8) : Calls Try.prog 12 #[.pointer (some ⟨T, 0, none⟩), .string (tx nm), .int .i64 1] w1 fun e w2 => ∃ r, e = .returned (.int .i64 r) ∧ Hid (A1 w w2 T U ks nm) := by
  obtain ⟨x, y, h1, h2, h3, h4, h5, h6, h6', h7⟩ := h
  refine (h7.set h1 nm 1).mono ?_
  rintro e w2 ⟨rfl, hz⟩
  exact ⟨_, rfl, _, y, h1.set _ _, h2, (setX_slot _ _ _).1.trans h3, h4, by rw [setX_ns h6, setX_ns h6', h5], (setX_slot _ _ _).2.trans h6, h6', hz⟩
theorem A1.set {nm : List UInt8} (h : A1 w w1 T U ks nm) : Calls Try.prog 12 #[.pointer (some ⟨U, 0, none⟩), .string (tx nm), .int .i64 1] w1 fun e w2 => ∃ r, e = .returned (.int .i64 r) ∧ Hid (A0 w w2 T U ks) := by
  obtain ⟨x, y, h1, h2, h3, h4, h5, h6, h6', h7⟩ := h
  refine (h7.flip.set h2 nm 1).mono ?_
  rintro e w2 ⟨rfl, hz⟩
  exact ⟨_, rfl, x, _, h1, h2.set _ _, h3, (setX_slot _ _ _).1.trans h4, h5, h6, (setX_slot _ _ _).2.trans h6', hz.flip⟩
theorem A0.row (h : A0 w w1 T U ks) {q : Nat} {o : Obj} (hp : (q, o) ∈ ks) : w1.heap[q]? = some o := by
  obtain ⟨x, y, h1, h2, h3, h4, h5, h6, h6', h7⟩ := h
  exact h7.at' hp
theorem A1.row {nm : List UInt8} (h : A1 w w1 T U ks nm) {q : Nat} {o : Obj} (hp : (q, o) ∈ ks) : w1.heap[q]? = some o := by
  obtain ⟨x, y, h1, h2, h3, h4, h5, h6, h6', h7⟩ := h
  exact h7.at' hp
theorem A0.ap (h : A0 w w1 T U ks) (own : List UInt8) : AP w w1 T U own 0 [] := by
  obtain ⟨x, y, h1, h2, h3, h4, h5, h6, h6', h7⟩ := h
  exact ⟨x, y, h1, h2, h3, h4, h5, by rw [h6, h6'], h7.less (by simp)⟩
theorem a0_new (h : S2 w w1 T U newX newX []) (o : Obj) : A0 w (w1.alloc o) T U [(w1.heap.size, o)] := ⟨_, _, Fok.new, Fok.new, rfl, rfl, rfl, rfl, rfl, h.keep (bel1' _ _) (heap_alloc_new _ _) (Nat.le_refl _)⟩
end Go.Proofs.Ytkigagglkmdccaa
