/- General: texts, rows of structs as they lie, frames. Nothing of a program. -/
import Derived.WalkKit
import Derived.WalkMore
import Derived.BigQuiet
import Derived.LoopN
import Derived.Deep.CutRange
import Derived.Laws.AppendOwnNone
import Derived.Laws.IdiomStrings
import Derived.Laws.OwnMore
import Derived.Deep.MidRow
import Derived.Deep.AppendLies
import Derived.Deep.RegionLaw
import Derived.Deep.RegionHeld3
import Derived.BigRegion
import Derived.Shelf.Abstract
import Derived.OwnWalk
namespace Go.Proofs.Ytbcdaddbcjagjaa
open Go.RowKit
set_option linter.unusedVariables false
set_option linter.unusedSimpArgs false

/-- Bytes as a text. -/
def tx (l : List UInt8) : ByteArray := ⟨l.toArray⟩
theorem tx_list (l : List UInt8) : (tx l).toList = l := ByteArray.toList_mk l
theorem tx_inj {a b : List UInt8} (h : tx a = tx b) : a = b := by rw [← tx_list a, h, tx_list]
theorem tx_size (l : List UInt8) : (tx l).size = l.length := by simp [tx, ByteArray.size]
theorem tx_of (s : ByteArray) : s = tx s.toList := by
  obtain ⟨l, rfl⟩ : ∃ l, s = tx l := ⟨s.data.toList, by cases s; simp [tx]⟩
  rw [tx_list]

/-! Rows of structs: a list of things, each told as so many cells. -/
variable {α : Type} {f : α → List Value} {m : Nat}
def fl (f : α → List Value) : List α → List Value
  | [] => []
  | p :: r => f p ++ fl f r
theorem fl_len (hf : ∀ x, (f x).length = m) : ∀ ps, (fl f ps).length = ps.length * m
  | [] => by simp [fl]
  | p :: r => by rw [fl, List.length_append, hf, fl_len hf r, List.length_cons, Nat.add_mul, Nat.one_mul, Nat.add_comm]
theorem fl_app : ∀ a b : List α, fl f (a ++ b) = fl f a ++ fl f b
  | [], b => rfl
  | p :: r, b => by simp [fl, fl_app r b]
theorem fl_at (hf : ∀ x, (f x).length = m) : ∀ (ps : List α) (i : Nat) (p : α) (r : Nat), ps[i]? = some p → r < m → (fl f ps)[i * m + r]? = (f p)[r]?
  | [], i, p, r, h, _ => by simp at h
  | q :: l, 0, p, r, h, hr => by
    simp at h
    rw [← h, fl, List.getElem?_append_left (by rw [hf]; omega)]
    simp
  | q :: l, i + 1, p, r, h, hr => by
    simp at h
    rw [fl, List.getElem?_append_right (by rw [hf, Nat.add_mul]; omega), hf, show (i + 1) * m + r - m = i * m + r by rw [Nat.add_mul]; omega]
    exact fl_at hf l i p r h hr
theorem fl_take (hf : ∀ x, (f x).length = m) : ∀ (ss : List α) (i : Nat), (fl f ss).take (i * m) = fl f (ss.take i)
  | [], i => by simp [fl]
  | p :: r, 0 => by simp [fl]
  | p :: r, i + 1 => by
    rw [List.take_succ_cons, fl, fl, List.take_append, List.take_of_length_le (by rw [hf, Nat.add_mul]; omega), hf, show (i + 1) * m - m = i * m by rw [Nat.add_mul]; omega, fl_take hf r i]
theorem fl_drop (hf : ∀ x, (f x).length = m) : ∀ (ss : List α) (i : Nat), (fl f ss).drop (i * m) = fl f (ss.drop i)
  | [], i => by simp [fl]
  | p :: r, 0 => by simp [fl]
  | p :: r, i + 1 => by
    rw [List.drop_succ_cons, fl, List.drop_append, List.drop_of_length_le (by rw [hf, Nat.add_mul]; omega), hf, show (i + 1) * m - m = i * m by rw [Nat.add_mul]; omega, fl_drop hf r i]
    rfl
theorem fl_one (h1 : ∀ x, ∀ u ∈ f x, u.oneCell' = true) : ∀ (ss : List α), ∀ u ∈ fl f ss, u.oneCell' = true
  | [], u, h => by simp [fl] at h
  | p :: r, u, h => by
    rcases List.mem_append.1 (show u ∈ f p ++ fl f r from h) with h | h
    · exact h1 p u h
    · exact fl_one h1 r u h
/-- Cells that are put one behind the other. -/
def setN {β : Type} : List β → Nat → List β → List β
  | l, _, [] => l
  | l, i, v :: r => setN (l.set i v) (i + 1) r
theorem setN_right {β : Type} : ∀ (vs a b : List β) (i : Nat), setN (a ++ b) (a.length + i) vs = a ++ setN b i vs
  | [], a, b, i => rfl
  | v :: r, a, b, i => by
    rw [setN, List.set_append_right _ _ (by omega), show a.length + i - a.length = i by omega, Nat.add_assoc, setN_right r a (b.set i v) (i + 1)]
    rfl
theorem setN_left {β : Type} : ∀ (vs a b : List β) (i : Nat), i + vs.length = a.length → setN (a ++ b) i vs = a.take i ++ vs ++ b
  | [], a, b, i, h => by
    simp at h
    rw [h, List.take_length]
    simp [setN]
  | v :: r, a, b, i, h => by
    simp at h
    rw [setN, List.set_append_left _ _ (by omega), setN_left r (a.set i v) b (i + 1) (by simp; omega), List.take_add_one]
    simp [List.take_set_of_le, List.getElem?_set, show i < a.length by omega]
theorem fl_set (hf : ∀ x, (f x).length = m) : ∀ (ss : List α) (k : Nat) (x : α), k < ss.length → setN (fl f ss) (k * m) (f x) = fl f (ss.set k x)
  | [], k, x, h => by simp at h
  | p :: r, 0, x, h => by
    rw [fl, Nat.zero_mul, setN_left _ _ _ 0 (by rw [hf, hf]; omega)]
    simp [fl]
  | p :: r, k + 1, x, h => by
    simp at h
    rw [fl, show (k + 1) * m = (f p).length + k * m by rw [hf, Nat.add_mul]; omega, setN_right, fl_set hf r k x h]
    rfl

/-! Rows that are owned. -/
theorem own_form {w : World} {base size n : Nat} {e : TypeId} {v : Value} {xs : List Value} (h : w.ownsRow base e size v n xs) (hn : 0 < n) : ∃ g cap, v = .slice (some ⟨g, 0, none⟩) n cap := by
  rcases h.2 with ⟨_, h'⟩ | ⟨g, cp, cur, hv, _⟩
  · omega
  · exact ⟨g, cp, hv⟩
theorem own_slice {w : World} {base size n : Nat} {e : TypeId} {v : Value} {xs : List Value} (h : w.ownsRow base e size v n xs) : ∃ a cap, v = .slice a n cap := by
  rcases h.2 with ⟨h, h'⟩ | ⟨g, cp, cur, hv, _⟩
  · exact ⟨_, _, by rw [h, h']⟩
  · exact ⟨_, cp, hv⟩
theorem own_cap {w : World} {base size n n' g cap : Nat} {e : TypeId} {xs : List Value} (h : w.ownsRow base e size (.slice (some ⟨g, 0, none⟩) n' cap) n xs) : n ≤ cap := by
  rcases h.2 with ⟨h', _⟩ | ⟨g', cp', cur, hv, _, _, h3, _⟩
  · cases h'
  · cases hv; exact h3
theorem own_at {w w' : World} {base size n : Nat} {e : TypeId} {v : Value} {xs : List Value} (h : w.ownsRow base e size v n xs) (hk : ∀ q, v.ownBlock = some q → w'.heap[q]? = w.heap[q]?) : w'.ownsRow base e size v n xs :=
  ⟨h.1, h.2.imp id fun ⟨g, cap, cur, hv, hg, hc, r⟩ => ⟨g, cap, cur, hv, hg, (hk g (by rw [hv]; rfl)).trans hc, r⟩⟩
theorem own_lt {w : World} {base size n g cap n' : Nat} {e : TypeId} {xs : List Value} (h : w.ownsRow base e size (.slice (some ⟨g, 0, none⟩) n' cap) n xs) : base ≤ g ∧ g < w.heap.size := h.lt g rfl
theorem own_low {w : World} {base base' size n : Nat} {e : TypeId} {v : Value} {xs : List Value} (h : w.ownsRow base e size v n xs) (hb : base' ≤ base) : w.ownsRow base' e size v n xs :=
  ⟨h.1, h.2.imp id fun ⟨g, cap, cur, hv, hg, hc, r⟩ => ⟨g, cap, cur, hv, by omega, hc, r⟩⟩
theorem own_tag {w : World} {base size n q : Nat} {e : TypeId} {v : Value} {xs : List Value} (h : w.ownsRow base e size v n xs) (hq : v.ownBlock = some q) : ∃ cur, w.heap[q]? = some (.cells cur e (0, 0)) := by
  rcases h.2 with ⟨h1, _⟩ | ⟨g, cp, cur, hv, hg, hc, _⟩
  · rw [h1] at hq; cases hq
  · rw [hv] at hq
    have : g = q := by simpa [Value.ownBlock] using hq
    subst this
    exact ⟨cur, hc⟩
theorem ne_tag {w : World} {a b : Nat} {c c' : Array Value} {t t' : TypeId} {f f' : Nat × Nat} (h : w.heap[a]? = some (.cells c t f)) (h' : w.heap[b]? = some (.cells c' t' f')) (ht : t ≠ t') : a ≠ b := by
  intro e
  subst e
  rw [h] at h'
  cases h'
  exact ht rfl
theorem own_other {w : World} {base n F size : Nat} {e t : TypeId} {v : Value} {xs : List Value} {c : Array Value} {f : Nat × Nat} (h : w.ownsRow base e size v n xs) (hF : w.heap[F]? = some (.cells c t f)) (ht : t ≠ e) : some F ≠ v.ownBlock := by
  intro hq
  obtain ⟨cur, hc⟩ := own_tag h hq.symm
  exact ne_tag hF hc ht rfl
theorem row_set {w : World} {b i : Nat} {c : Array Value} {t : TypeId} {f : Nat × Nat} (v : Value) (h : w.heap[b]? = some (.cells c t f)) : (w.setCell ⟨b, i, none⟩ v).heap[b]? = some (.cells (c.setIfInBounds i v) t f) := by
  simp [World.setCell, Array.getElem?_modify, h]
theorem own_set {w : World} {base e size g n cap i : Nat} {xs : List Value} (h : w.ownsRow base e size (.slice (some ⟨g, 0, none⟩) n cap) n xs) (hi : i < xs.length) (v : Value) : (w.setCell ⟨g, i, none⟩ v).ownsRow base e size (.slice (some ⟨g, 0, none⟩) n cap) n (xs.set i v) := by
  refine ⟨by rw [List.length_set]; exact h.1, .inr ?_⟩
  rcases h.2 with ⟨h', _⟩ | ⟨g', cp', cur, hv, hb, hc, h3, h4, h5, h6⟩
  · cases h'
  · cases hv
    refine ⟨g, cap, cur.setIfInBounds i v, rfl, hb, row_set _ hc, h3, h4, by simpa using h5, ?_⟩
    rw [Array.toList_setIfInBounds, ← h6, List.take_set]
theorem own_setN : ∀ (vs : List Value) {w : World} {base e size g n cap i : Nat} {xs : List Value}, w.ownsRow base e size (.slice (some ⟨g, 0, none⟩) n cap) n xs → i + vs.length ≤ xs.length → (w.setCells g i vs).ownsRow base e size (.slice (some ⟨g, 0, none⟩) n cap) n (setN xs i vs)
  | [], w, base, e, size, g, n, cap, i, xs, h, hl => h
  | v :: r, w, base, e, size, g, n, cap, i, xs, h, hl => by
    simp at hl
    exact own_setN r (own_set h (by omega) v) (by simp; omega)
theorem own_put {w : World} {base e g cap k : Nat} {l : List α} (hf : ∀ x, (f x).length = m) (h : w.ownsRow base e m (.slice (some ⟨g, 0, none⟩) l.length cap) l.length (fl f l)) (hk : k < l.length) (x : α) : (w.setCells g (k * m) (f x)).ownsRow base e m (.slice (some ⟨g, 0, none⟩) (l.set k x).length cap) (l.set k x).length (fl f (l.set k x)) := by
  have h2 := own_setN (f x) (i := k * m) h (by
    rw [hf, fl_len hf]
    have := Nat.mul_le_mul_right m (show k + 1 ≤ l.length from hk)
    rw [Nat.add_mul] at this
    omega)
  rw [fl_set hf l k x hk] at h2
  rw [List.length_set]
  exact h2
theorem own_there {w : World} {base e g cap k : Nat} {l : List α} (hf : ∀ x, (f x).length = m) (h : w.ownsRow base e m (.slice (some ⟨g, 0, none⟩) l.length cap) l.length (fl f l)) (hk : k < l.length) : w.there g (k * m) m := fun j hj => by
  have hlt : k * m + j < l.length * m := by
    have := Nat.mul_le_mul_right m (show k + 1 ≤ l.length from hk)
    rw [Nat.add_mul] at this
    omega
  refine ⟨?_, h.frozenAt _⟩
  rw [h.cellAt _ hlt, List.getElem?_eq_getElem (by rw [fl_len hf]; exact hlt)]
  rfl
theorem setCs_size : ∀ (vs : List Value) (w : World) (g i : Nat), (w.setCells g i vs).heap.size = w.heap.size
  | [], w, g, i => rfl
  | v :: r, w, g, i => by rw [World.setCells, setCs_size r]; simp
theorem setCs_other : ∀ (vs : List Value) (w : World) (g i q : Nat), q ≠ g → (w.setCells g i vs).heap[q]? = w.heap[q]?
  | [], w, g, i, q, h => rfl
  | v :: r, w, g, i, q, h => by rw [World.setCells, setCs_other r _ g _ q h]; exact Below.heap_setCell _ _ _ _ h
theorem setCs_rest : ∀ (vs : List Value) (w : World) (g i : Nat), (w.setCells g i vs).os = w.os ∧ (w.setCells g i vs).tape = w.tape ∧ (w.setCells g i vs).output = w.output
  | [], w, g, i => ⟨rfl, rfl, rfl⟩
  | v :: r, w, g, i => by rw [World.setCells]; exact setCs_rest r _ g _

/-! Frames. -/
/-- All but one block lies as it lay. -/
structure Kp (g : Nat) (w w' : World) : Prop where
  os : w'.os = w.os
  tape : w'.tape = w.tape
  output : w'.output = w.output
  size : w'.heap.size = w.heap.size
  block : ∀ q, q ≠ g → w'.heap[q]? = w.heap[q]?
theorem Kp.refl (g : Nat) (w : World) : Kp g w w := ⟨rfl, rfl, rfl, rfl, fun _ _ => rfl⟩
theorem Kp.trans {g : Nat} {a b c : World} (h : Kp g a b) (k : Kp g b c) : Kp g a c :=
  ⟨k.os.trans h.os, k.tape.trans h.tape, k.output.trans h.output, k.size.trans h.size, fun q hq => (k.block q hq).trans (h.block q hq)⟩
theorem Kp.setCell {g : Nat} {a b : World} (h : Kp g a b) (i : Nat) (v : Value) : Kp g a (b.setCell ⟨g, i, none⟩ v) :=
  h.trans ⟨rfl, rfl, rfl, by simp, fun q hq => Below.heap_setCell _ _ _ _ hq⟩
theorem Kp.setCs {g : Nat} {a b : World} (h : Kp g a b) (i : Nat) (vs : List Value) : Kp g a (b.setCells g i vs) :=
  h.trans ⟨(setCs_rest vs b g i).1, (setCs_rest vs b g i).2.1, (setCs_rest vs b g i).2.2, setCs_size vs b g i, fun q hq => setCs_other vs b g i q hq⟩
theorem Kp.drewN {g : Nat} {a b : World} (h : Kp g a b) (n : Nat) : Kp g a (b.drewN n) :=
  h.trans ⟨rfl, rfl, rfl, rfl, fun q hq => rfl⟩
theorem Kp.below {g base : Nat} {a b : World} (h : Kp g a b) (hb : base ≤ g) : Below base a b :=
  ⟨h.os, h.tape, h.output, by rw [h.size]; exact Nat.le_refl _, fun k hk => h.block k (by omega)⟩
theorem bel1 (w : World) (o : Obj) : Below w.heap.size w (w.alloc o) := (Below.refl _ w).alloc (Nat.le_refl _) _
/-- What does not lie in blocks of cells of bad types lies as before. -/
def Kx (bad : TypeId → Bool) (w w' : World) : Prop := ∀ (p : Nat) (o : Obj), w.heap[p]? = some o → (∀ c t f, o = .cells c t f → bad t = false) → w'.heap[p]? = some o
theorem Kx.refl (bad : TypeId → Bool) (w : World) : Kx bad w w := fun _ _ h _ => h
theorem Kx.trans {bad : TypeId → Bool} {a b c : World} (h : Kx bad a b) (k : Kx bad b c) : Kx bad a c := fun p o hp ho => k p o (h p o hp ho) ho
theorem Kx.mono {bad more : TypeId → Bool} {a b : World} (h : Kx bad a b) (hm : ∀ t, more t = false → bad t = false) : Kx more a b := fun p o hp ho => h p o hp fun c t f e => hm t (ho c t f e)
theorem Kx.of {bad : TypeId → Bool} {w w' : World} {B : Nat} (h : Below B w w') (hB : w.heap.size ≤ B) : Kx bad w w' := fun p o hp _ => (h.block p (by have := (Array.getElem?_eq_some_iff.1 hp).1; omega)).trans hp
theorem Kx.row {bad : TypeId → Bool} {w w' : World} {p : Nat} {c : Array Value} {t : TypeId} {f : Nat × Nat} (h : Kx bad w w') (hp : w.heap[p]? = some (.cells c t f)) (ht : bad t = false) : w'.heap[p]? = some (.cells c t f) :=
  h p _ hp fun c' t' f' e => by cases e; exact ht
theorem Kx.own {bad : TypeId → Bool} {e : TypeId} {w w' : World} {base size n : Nat} {v : Value} {xs : List Value} (h : Kx bad w w') (ho : w.ownsRow base e size v n xs) (ht : bad e = false) : w'.ownsRow base e size v n xs :=
  own_at ho fun q hq => by obtain ⟨cur, hc⟩ := own_tag ho hq; rw [h.row hc ht, hc]
theorem Kx.but {bad : TypeId → Bool} {g : Nat} {w w' : World} {c : Array Value} {t : TypeId} {f : Nat × Nat} (h : ∀ q, q < w.heap.size → q ≠ g → w'.heap[q]? = w.heap[q]?) (hg : w.heap[g]? = some (.cells c t f)) (ht : bad t = true) : Kx bad w w' := fun p o hp ho => by
  refine (h p (Array.getElem?_eq_some_iff.1 hp).1 ?_).trans hp
  intro e
  subst e
  rw [hg] at hp
  have := ho c t f (Option.some.inj hp).symm
  rw [ht] at this
  cases this
theorem Kx.kp {bad : TypeId → Bool} {g : Nat} {w w' : World} {c : Array Value} {t : TypeId} {f : Nat × Nat} (h : Kp g w w') (hg : w.heap[g]? = some (.cells c t f)) (ht : bad t = true) : Kx bad w w' := Kx.but (fun q _ hq => h.block q hq) hg ht
theorem Kx.grown {bad : TypeId → Bool} {w w' : World} {base size n : Nat} {e : TypeId} {v : Value} {xs : List Value} (hg : w.grownBy w' v.ownBlock) (ho : w.ownsRow base e size v n xs) (ht : bad e = true) : Kx bad w w' := fun p o hp hb => by
  refine (hg.block p (Array.getElem?_eq_some_iff.1 hp).1 ?_).trans hp
  intro hq
  obtain ⟨cur, hc⟩ := own_tag ho hq.symm
  rw [hc] at hp
  have := hb _ _ _ (Option.some.inj hp).symm
  rw [ht] at this
  cases this
theorem Kx.setCell {bad : TypeId → Bool} {w : World} {b i : Nat} {c : Array Value} {t : TypeId} {f : Nat × Nat} (h : w.heap[b]? = some (.cells c t f)) (ht : bad t = true) (v : Value) : Kx bad w (w.setCell ⟨b, i, none⟩ v) :=
  Kx.but (fun q _ hq => Below.heap_setCell _ _ _ _ hq) h ht
/-- An append, as a frame by places. -/
theorem grown_below {w w' : World} {base e size n : Nat} {v : Value} {xs : List Value} (hg : w.grownBy w' v.ownBlock) (ho : w.ownsRow base e size v n xs) (hb : base ≤ w.heap.size) : Below base w w' :=
  ⟨hg.os, hg.tape, hg.output, hg.size, fun q hq => hg.block q (by omega) (fun e => by have := (ho.lt q e.symm).1; omega)⟩
end Go.Proofs.Ytbcdaddbcjagjaa
