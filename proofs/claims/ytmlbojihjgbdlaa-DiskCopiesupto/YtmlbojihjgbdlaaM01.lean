import Derived.WalkKit
import Derived.WalkMore
import Derived.BigQuiet
import Derived.LoopN
import Derived.Deep.CutRange
import Derived.Laws.AppendOwnNone
import Derived.Laws.IdiomStrings
import Derived.Laws.OwnMore
import Derived.Deep.MidRow
import Derived.Deep.AppendLies
import Derived.Deep.RegionLaw
import Derived.Deep.RegionHeld3
import Derived.BigRegion
import Derived.Shelf.Abstract
import Derived.OwnWalk
import Derived.Test.YtmlbojihjgbdlaaProg
import Derived.Test.YtmlbojihjgbdlaaChecked
import Derived.Maps.Own
/- General: texts, rows of structs as they lie, frames. Nothing of a program. -/
namespace Go.Proofs.Ytmlbojihjgbdlaa.D
open Go.RowKit
set_option linter.unusedVariables false
set_option linter.unusedSimpArgs false

/-- Bytes as a text. -/
def tx (l : List UInt8) : ByteArray := ⟨l.toArray⟩
theorem tx_list (l : List UInt8) : (tx l).toList = l := ByteArray.toList_mk l
theorem tx_inj {a b : List UInt8} (h : tx a = tx b) : a = b := by rw [← tx_list a, h, tx_list]
theorem tx_size (l : List UInt8) : (tx l).size = l.length := by simp [tx, ByteArray.size]
theorem tx_of (s : ByteArray) : s = tx s.toList := by
  obtain ⟨l, rfl⟩ : ∃ l, s = tx l := ⟨s.data.toList, by cases s; simp [tx]⟩
  rw [tx_list]

/-! Rows of structs: a list of things, each told as so many cells. -/
variable {α : Type} {f : α → List Value} {m : Nat}
def fl (f : α → List Value) : List α → List Value
  | [] => []
  | p :: r => f p ++ fl f r
theorem fl_len (hf : ∀ x, (f x).length = m) : ∀ ps, (fl f ps).length = ps.length * m
  | [] => by simp [fl]
  | p :: r => by rw [fl, List.length_append, hf, fl_len hf r, List.length_cons, Nat.add_mul, Nat.one_mul, Nat.add_comm]
theorem fl_app : ∀ a b : List α, fl f (a ++ b) = fl f a ++ fl f b
  | [], b => rfl
  | p :: r, b => by simp [fl, fl_app r b]
theorem fl_at (hf : ∀ x, (f x).length = m) : ∀ (ps : List α) (i : Nat) (p : α) (r : Nat), ps[i]? = some p → r < m → (fl f ps)[i * m + r]? = (f p)[r]?
  | [], i, p, r, h, _ => by simp at h
  | q :: l, 0, p, r, h, hr => by
    simp at h
    rw [← h, fl, List.getElem?_append_left (by rw [hf]; omega)]
    simp
  | q :: l, i + 1, p, r, h, hr => by
    simp at h
    rw [fl, List.getElem?_append_right (by rw [hf, Nat.add_mul]; omega), hf, show (i + 1) * m + r - m = i * m + r by rw [Nat.add_mul]; omega]
    exact fl_at hf l i p r h hr
theorem fl_take (hf : ∀ x, (f x).length = m) : ∀ (ss : List α) (i : Nat), (fl f ss).take (i * m) = fl f (ss.take i)
  | [], i => by simp [fl]
  | p :: r, 0 => by simp [fl]
  | p :: r, i + 1 => by
    rw [List.take_succ_cons, fl, fl, List.take_append, List.take_of_length_le (by rw [hf, Nat.add_mul]; omega), hf, show (i + 1) * m - m = i * m by rw [Nat.add_mul]; omega, fl_take hf r i]
theorem fl_drop (hf : ∀ x, (f x).length = m) : ∀ (ss : List α) (i : Nat), (fl f ss).drop (i * m) = fl f (ss.drop i)
  | [], i => by simp [fl]
  | p :: r, 0 => by simp [fl]
  | p :: r, i + 1 => by
    rw [List.drop_succ_cons, fl, List.drop_append, List.drop_of_length_le (by rw [hf, Nat.add_mul]; omega), hf, show (i + 1) * m - m = i * m by rw [Nat.add_mul]; omega, fl_drop hf r i]
    rfl
theorem fl_one (h1 : ∀ x, ∀ u ∈ f x, u.oneCell' = true) : ∀ (ss : List α), ∀ u ∈ fl f ss, u.oneCell' = true
  | [], u, h => by simp [fl] at h
  | p :: r, u, h => by
    rcases List.mem_append.1 (show u ∈ f p ++ fl f r from h) with h | h
    · exact h1 p u h
    · exact fl_one h1 r u h
/-- Cells that are put one behind the other. -/
def setN {β : Type} : List β → Nat → List β → List β
  | l, _, [] => l
  | l, i, v :: r => setN (l.set i v) (i + 1) r
theorem setN_right {β : Type} : ∀ (vs a b : List β) (i : Nat), setN (a ++ b) (a.length + i) vs = a ++ setN b i vs
  | [], a, b, i => rfl
  | v :: r, a, b, i => by
    rw [setN, List.set_append_right _ _ (by omega), show a.length + i - a.length = i by omega, Nat.add_assoc, setN_right r a (b.set i v) (i + 1)]
    rfl
theorem setN_left {β : Type} : ∀ (vs a b : List β) (i : Nat), i + vs.length = a.length → setN (a ++ b) i vs = a.take i ++ vs ++ b
  | [], a, b, i, h => by
    simp at h
    rw [h, List.take_length]
    simp [setN]
  | v :: r, a, b, i, h => by
    simp at h
    rw [setN, List.set_append_left _ _ (by omega), setN_left r (a.set i v) b (i + 1) (by simp; omega), List.take_add_one]
    simp [List.take_set_of_le, List.getElem?_set, show i < a.length by omega]
theorem fl_set (hf : ∀ x, (f x).length = m) : ∀ (ss : List α) (k : Nat) (x : α), k < ss.length → setN (fl f ss) (k * m) (f x) = fl f (ss.set k x)
  | [], k, x, h => by simp at h
  | p :: r, 0, x, h => by
    rw [fl, Nat.zero_mul, setN_left _ _ _ 0 (by rw [hf, hf]; omega)]
    simp [fl]
  | p :: r, k + 1, x, h => by
    simp at h
    rw [fl, show (k + 1) * m = (f p).length + k * m by rw [hf, Nat.add_mul]; omega, setN_right, fl_set hf r k x h]
    rfl

/-! Rows that are owned. -/
theorem own_form {w : World} {base size n : Nat} {e : TypeId} {v : Value} {xs : List Value} (h : w.ownsRow base e size v n xs) (hn : 0 < n) : ∃ g cap, v = .slice (some ⟨g, 0, none⟩) n cap := by
  rcases h.2 with ⟨_, h'⟩ | ⟨g, cp, cur, hv, _⟩
  · omega
  · exact ⟨g, cp, hv⟩
theorem own_slice {w : World} {base size n : Nat} {e : TypeId} {v : Value} {xs : List Value} (h : w.ownsRow base e size v n xs) : ∃ a cap, v = .slice a n cap := by
  rcases h.2 with ⟨h, h'⟩ | ⟨g, cp, cur, hv, _⟩
  · exact ⟨_, _, by rw [h, h']⟩
  · exact ⟨_, cp, hv⟩
theorem own_cap {w : World} {base size n n' g cap : Nat} {e : TypeId} {xs : List Value} (h : w.ownsRow base e size (.slice (some ⟨g, 0, none⟩) n' cap) n xs) : n ≤ cap := by
  rcases h.2 with ⟨h', _⟩ | ⟨g', cp', cur, hv, _, _, h3, _⟩
  · cases h'
  · cases hv; exact h3
theorem own_at {w w' : World} {base size n : Nat} {e : TypeId} {v : Value} {xs : List Value} (h : w.ownsRow base e size v n xs) (hk : ∀ q, v.ownBlock = some q → w'.heap[q]? = w.heap[q]?) : w'.ownsRow base e size v n xs :=
  ⟨h.1, h.2.imp id fun ⟨g, cap, cur, hv, hg, hc, r⟩ => ⟨g, cap, cur, hv, hg, (hk g (by rw [hv]; rfl)).trans hc, r⟩⟩
theorem own_lt {w : World} {base size n g cap n' : Nat} {e : TypeId} {xs : List Value} (h : w.ownsRow base e size (.slice (some ⟨g, 0, none⟩) n' cap) n xs) : base ≤ g ∧ g < w.heap.size := h.lt g rfl
theorem own_low {w : World} {base base' size n : Nat} {e : TypeId} {v : Value} {xs : List Value} (h : w.ownsRow base e size v n xs) (hb : base' ≤ base) : w.ownsRow base' e size v n xs :=
  ⟨h.1, h.2.imp id fun ⟨g, cap, cur, hv, hg, hc, r⟩ => ⟨g, cap, cur, hv, by omega, hc, r⟩⟩
theorem own_tag {w : World} {base size n q : Nat} {e : TypeId} {v : Value} {xs : List Value} (h : w.ownsRow base e size v n xs) (hq : v.ownBlock = some q) : ∃ cur, w.heap[q]? = some (.cells cur e (0, 0)) := by
  rcases h.2 with ⟨h1, _⟩ | ⟨g, cp, cur, hv, hg, hc, _⟩
  · rw [h1] at hq; cases hq
  · rw [hv] at hq
    have : g = q := by simpa [Value.ownBlock] using hq
    subst this
    exact ⟨cur, hc⟩
theorem ne_tag {w : World} {a b : Nat} {c c' : Array Value} {t t' : TypeId} {f f' : Nat × Nat} (h : w.heap[a]? = some (.cells c t f)) (h' : w.heap[b]? = some (.cells c' t' f')) (ht : t ≠ t') : a ≠ b := by
  intro e
  subst e
  rw [h] at h'
  cases h'
  exact ht rfl
theorem own_other {w : World} {base n F size : Nat} {e t : TypeId} {v : Value} {xs : List Value} {c : Array Value} {f : Nat × Nat} (h : w.ownsRow base e size v n xs) (hF : w.heap[F]? = some (.cells c t f)) (ht : t ≠ e) : some F ≠ v.ownBlock := by
  intro hq
  obtain ⟨cur, hc⟩ := own_tag h hq.symm
  exact ne_tag hF hc ht rfl
theorem row_set {w : World} {b i : Nat} {c : Array Value} {t : TypeId} {f : Nat × Nat} (v : Value) (h : w.heap[b]? = some (.cells c t f)) : (w.setCell ⟨b, i, none⟩ v).heap[b]? = some (.cells (c.setIfInBounds i v) t f) := by
  simp [World.setCell, Array.getElem?_modify, h]
theorem own_set {w : World} {base e size g n cap i : Nat} {xs : List Value} (h : w.ownsRow base e size (.slice (some ⟨g, 0, none⟩) n cap) n xs) (hi : i < xs.length) (v : Value) : (w.setCell ⟨g, i, none⟩ v).ownsRow base e size (.slice (some ⟨g, 0, none⟩) n cap) n (xs.set i v) := by
  refine ⟨by rw [List.length_set]; exact h.1, .inr ?_⟩
  rcases h.2 with ⟨h', _⟩ | ⟨g', cp', cur, hv, hb, hc, h3, h4, h5, h6⟩
  · cases h'
  · cases hv
    refine ⟨g, cap, cur.setIfInBounds i v, rfl, hb, row_set _ hc, h3, h4, by simpa using h5, ?_⟩
    rw [Array.toList_setIfInBounds, ← h6, List.take_set]
theorem own_setN : ∀ (vs : List Value) {w : World} {base e size g n cap i : Nat} {xs : List Value}, w.ownsRow base e size (.slice (some ⟨g, 0, none⟩) n cap) n xs → i + vs.length ≤ xs.length → (w.setCells g i vs).ownsRow base e size (.slice (some ⟨g, 0, none⟩) n cap) n (setN xs i vs)
  | [], w, base, e, size, g, n, cap, i, xs, h, hl => h
  | v :: r, w, base, e, size, g, n, cap, i, xs, h, hl => by
    simp at hl
    exact own_setN r (own_set h (by omega) v) (by simp; omega)
theorem own_put {w : World} {base e g cap k : Nat} {l : List α} (hf : ∀ x, (f x).length = m) (h : w.ownsRow base e m (.slice (some ⟨g, 0, none⟩) l.length cap) l.length (fl f l)) (hk : k < l.length) (x : α) : (w.setCells g (k * m) (f x)).ownsRow base e m (.slice (some ⟨g, 0, none⟩) (l.set k x).length cap) (l.set k x).length (fl f (l.set k x)) := by
  have h2 := own_setN (f x) (i := k * m) h (by
    rw [hf, fl_len hf]
    have := Nat.mul_le_mul_right m (show k + 1 ≤ l.length from hk)
    rw [Nat.add_mul] at this
    omega)
  rw [fl_set hf l k x hk] at h2
  rw [List.length_set]
  exact h2
theorem own_there {w : World} {base e g cap k : Nat} {l : List α} (hf : ∀ x, (f x).length = m) (h : w.ownsRow base e m (.slice (some ⟨g, 0, none⟩) l.length cap) l.length (fl f l)) (hk : k < l.length) : w.there g (k * m) m := fun j hj => by
  have hlt : k * m + j < l.length * m := by
    have := Nat.mul_le_mul_right m (show k + 1 ≤ l.length from hk)
    rw [Nat.add_mul] at this
    omega
  refine ⟨?_, h.frozenAt _⟩
  rw [h.cellAt _ hlt, List.getElem?_eq_getElem (by rw [fl_len hf]; exact hlt)]
  rfl
theorem setCs_size : ∀ (vs : List Value) (w : World) (g i : Nat), (w.setCells g i vs).heap.size = w.heap.size
  | [], w, g, i => rfl
  | v :: r, w, g, i => by rw [World.setCells, setCs_size r]; simp
theorem setCs_other : ∀ (vs : List Value) (w : World) (g i q : Nat), q ≠ g → (w.setCells g i vs).heap[q]? = w.heap[q]?
  | [], w, g, i, q, h => rfl
  | v :: r, w, g, i, q, h => by rw [World.setCells, setCs_other r _ g _ q h]; exact Below.heap_setCell _ _ _ _ h
theorem setCs_rest : ∀ (vs : List Value) (w : World) (g i : Nat), (w.setCells g i vs).os = w.os ∧ (w.setCells g i vs).tape = w.tape ∧ (w.setCells g i vs).output = w.output
  | [], w, g, i => ⟨rfl, rfl, rfl⟩
  | v :: r, w, g, i => by rw [World.setCells]; exact setCs_rest r _ g _

/-! Frames. -/
/-- All but one block lies as it lay. -/
structure Kp (g : Nat) (w w' : World) : Prop where
  os : w'.os = w.os
  tape : w'.tape = w.tape
  output : w'.output = w.output
  size : w'.heap.size = w.heap.size
  block : ∀ q, q ≠ g → w'.heap[q]? = w.heap[q]?
theorem Kp.refl (g : Nat) (w : World) : Kp g w w := ⟨rfl, rfl, rfl, rfl, fun _ _ => rfl⟩
theorem Kp.trans {g : Nat} {a b c : World} (h : Kp g a b) (k : Kp g b c) : Kp g a c :=
  ⟨k.os.trans h.os, k.tape.trans h.tape, k.output.trans h.output, k.size.trans h.size, fun q hq => (k.block q hq).trans (h.block q hq)⟩
theorem Kp.setCell {g : Nat} {a b : World} (h : Kp g a b) (i : Nat) (v : Value) : Kp g a (b.setCell ⟨g, i, none⟩ v) :=
  h.trans ⟨rfl, rfl, rfl, by simp, fun q hq => Below.heap_setCell _ _ _ _ hq⟩
theorem Kp.setCs {g : Nat} {a b : World} (h : Kp g a b) (i : Nat) (vs : List Value) : Kp g a (b.setCells g i vs) :=
  h.trans ⟨(setCs_rest vs b g i).1, (setCs_rest vs b g i).2.1, (setCs_rest vs b g i).2.2, setCs_size vs b g i, fun q hq => setCs_other vs b g i q hq⟩
theorem Kp.drewN {g : Nat} {a b : World} (h : Kp g a b) (n : Nat) : Kp g a (b.drewN n) :=
  h.trans ⟨rfl, rfl, rfl, rfl, fun q hq => rfl⟩
theorem Kp.below {g base : Nat} {a b : World} (h : Kp g a b) (hb : base ≤ g) : Below base a b :=
  ⟨h.os, h.tape, h.output, by rw [h.size]; exact Nat.le_refl _, fun k hk => h.block k (by omega)⟩
theorem bel1 (w : World) (o : Obj) : Below w.heap.size w (w.alloc o) := (Below.refl _ w).alloc (Nat.le_refl _) _
/-- What does not lie in blocks of cells of bad types lies as before. -/
def Kx (bad : TypeId → Bool) (w w' : World) : Prop := ∀ (p : Nat) (o : Obj), w.heap[p]? = some o → (∀ c t f, o = .cells c t f → bad t = false) → w'.heap[p]? = some o
theorem Kx.refl (bad : TypeId → Bool) (w : World) : Kx bad w w := fun _ _ h _ => h
theorem Kx.trans {bad : TypeId → Bool} {a b c : World} (h : Kx bad a b) (k : Kx bad b c) : Kx bad a c := fun p o hp ho => k p o (h p o hp ho) ho
theorem Kx.mono {bad more : TypeId → Bool} {a b : World} (h : Kx bad a b) (hm : ∀ t, more t = false → bad t = false) : Kx more a b := fun p o hp ho => h p o hp fun c t f e => hm t (ho c t f e)
theorem Kx.of {bad : TypeId → Bool} {w w' : World} {B : Nat} (h : Below B w w') (hB : w.heap.size ≤ B) : Kx bad w w' := fun p o hp _ => (h.block p (by have := (Array.getElem?_eq_some_iff.1 hp).1; omega)).trans hp
theorem Kx.row {bad : TypeId → Bool} {w w' : World} {p : Nat} {c : Array Value} {t : TypeId} {f : Nat × Nat} (h : Kx bad w w') (hp : w.heap[p]? = some (.cells c t f)) (ht : bad t = false) : w'.heap[p]? = some (.cells c t f) :=
  h p _ hp fun c' t' f' e => by cases e; exact ht
theorem Kx.own {bad : TypeId → Bool} {e : TypeId} {w w' : World} {base size n : Nat} {v : Value} {xs : List Value} (h : Kx bad w w') (ho : w.ownsRow base e size v n xs) (ht : bad e = false) : w'.ownsRow base e size v n xs :=
  own_at ho fun q hq => by obtain ⟨cur, hc⟩ := own_tag ho hq; rw [h.row hc ht, hc]
theorem Kx.but {bad : TypeId → Bool} {g : Nat} {w w' : World} {c : Array Value} {t : TypeId} {f : Nat × Nat} (h : ∀ q, q < w.heap.size → q ≠ g → w'.heap[q]? = w.heap[q]?) (hg : w.heap[g]? = some (.cells c t f)) (ht : bad t = true) : Kx bad w w' := fun p o hp ho => by
  refine (h p (Array.getElem?_eq_some_iff.1 hp).1 ?_).trans hp
  intro e
  subst e
  rw [hg] at hp
  have := ho c t f (Option.some.inj hp).symm
  rw [ht] at this
  cases this
theorem Kx.kp {bad : TypeId → Bool} {g : Nat} {w w' : World} {c : Array Value} {t : TypeId} {f : Nat × Nat} (h : Kp g w w') (hg : w.heap[g]? = some (.cells c t f)) (ht : bad t = true) : Kx bad w w' := Kx.but (fun q _ hq => h.block q hq) hg ht
theorem Kx.grown {bad : TypeId → Bool} {w w' : World} {base size n : Nat} {e : TypeId} {v : Value} {xs : List Value} (hg : w.grownBy w' v.ownBlock) (ho : w.ownsRow base e size v n xs) (ht : bad e = true) : Kx bad w w' := fun p o hp hb => by
  refine (hg.block p (Array.getElem?_eq_some_iff.1 hp).1 ?_).trans hp
  intro hq
  obtain ⟨cur, hc⟩ := own_tag ho hq.symm
  rw [hc] at hp
  have := hb _ _ _ (Option.some.inj hp).symm
  rw [ht] at this
  cases this
theorem Kx.setCell {bad : TypeId → Bool} {w : World} {b i : Nat} {c : Array Value} {t : TypeId} {f : Nat × Nat} (h : w.heap[b]? = some (.cells c t f)) (ht : bad t = true) (v : Value) : Kx bad w (w.setCell ⟨b, i, none⟩ v) :=
  Kx.but (fun q _ hq => Below.heap_setCell _ _ _ _ hq) h ht
/-- An append, as a frame by places. -/
theorem grown_below {w w' : World} {base e size n : Nat} {v : Value} {xs : List Value} (hg : w.grownBy w' v.ownBlock) (ho : w.ownsRow base e size v n xs) (hb : base ≤ w.heap.size) : Below base w w' :=
  ⟨hg.os, hg.tape, hg.output, hg.size, fun q hq => hg.block q (by omega) (fun e => by have := (ho.lt q e.symm).1; omega)⟩
end Go.Proofs.Ytmlbojihjgbdlaa.D

/- A frame by footprints. -/
namespace Go.Proofs.Ytmlbojihjgbdlaa.D
open Go.RowKit

/-- All that is not in some blocks lies as it lay; these are joined by new ones alone. -/
structure Fr (F F' : Nat → Prop) (w w' : World) : Prop where
  os : w'.os = w.os
  tape : w'.tape = w.tape
  output : w'.output = w.output
  size : w.heap.size ≤ w'.heap.size
  block : ∀ q, q < w.heap.size → ¬ F q → w'.heap[q]? = w.heap[q]?
  grow : ∀ q, F' q → F q ∨ w.heap.size ≤ q
theorem Fr.below {F F' : Nat → Prop} {w w' : World} {base : Nat} (h : Fr F F' w w') (hF : ∀ q, F q → base ≤ q) (hb : base ≤ w.heap.size) : Below base w w' :=
  ⟨h.os, h.tape, h.output, h.size, fun q hq => h.block q (by omega) fun hf => by have := hF q hf; omega⟩
theorem Fr.low {F F' : Nat → Prop} {w w' : World} {base : Nat} (h : Fr F F' w w') (hF : ∀ q, F q → base ≤ q) (hb : base ≤ w.heap.size) : ∀ q, F' q → base ≤ q := fun q hq => by
  rcases h.grow q hq with h' | h'
  · exact hF q h'
  · omega
end Go.Proofs.Ytmlbojihjgbdlaa.D

/- A disk's map: names to files. -/
namespace Go.Proofs.Ytmlbojihjgbdlaa.D
open Go.RowKit
set_option linter.unusedVariables false
set_option linter.unusedSimpArgs false

/-- An entry: the tenant's name, its queue's block, when it was born. -/
structure En where
  nm : List UInt8
  q : Nat
  born : Nat
def ents (l : List En) : List MapEntry := l.map fun p => ⟨.string (tx p.nm), .pointer (some ⟨p.q, 0, none⟩), p.born⟩
/-- Where a name stands, and its queue. -/
def fndE (s : List UInt8) : List En → Nat → Option (Nat × Nat)
  | [], _ => none
  | p :: r, i => if s = p.nm then some (i, p.q) else fndE s r (i + 1)
theorem tx_beq (s t : List UInt8) : (tx s == tx t) = decide (s = t) := by
  have e : (tx s == tx t) = (s.toArray == t.toArray) := rfl
  rw [e]
  by_cases h : s = t
  · subst h; simp
  · simp [h]
theorem ents_erase : ∀ (l : List En) (i : Nat), (ents l).eraseIdx i = ents (l.eraseIdx i)
  | [], _ => rfl
  | _ :: _, 0 => rfl
  | p :: r, i + 1 => congrArg (_ :: ·) (ents_erase r i)
theorem findNow_ents (s : List UInt8) : ∀ (l : List En) (i : Nat), Instr.findNow .string (.string (tx s)) (ents l) i = some ((fndE s l i).map fun p => (p.1, .pointer (some ⟨p.2, 0, none⟩)))
  | [], _ => rfl
  | p :: r, i => by
    have ih := findNow_ents s r (i + 1)
    unfold ents at ih ⊢
    simp only [List.map_cons, Instr.findNow, Instr.sameNow, fndE, tx_beq]
    by_cases h : s = p.nm
    · simp [h]
    · simp [h, ih]
/-- A map by texts, as it lies. -/
def MapAt (w : World) (B : Nat) (l : List En) (c : Nat) : Prop := w.heap[B]? = some (.map (ents l).toArray c)
theorem under9 : Try.prog.underlying 9 = some .string := by kernel_rfl
theorem under68 : Try.prog.underlying 68 = some (.map 9 77) := by kernel_rfl
theorem zero77 (w : World) : (zeroValue 77).run Try.prog w = .ok (.pointer none) w := by kernel_rfl
theorem run_findKey_ents (s : List UInt8) (l : List En) (w : World) : (Instr.findKey 9 (.string (tx s)) (ents l)).run Try.prog w = .ok ((fndE s l 0).map fun p => (p.1, .pointer (some ⟨p.2, 0, none⟩))) w := by
  simp [Instr.findKey, run_underlying under9, findNow_ents, Result.andThen]
theorem run_check (s : ByteArray) (b : Bool) (w : World) : (Instr.checkKey b 10000 9 (.string s)).run Try.prog w = .ok () w := MapKept.run_checkKey under9 (by trivial) b 9999
/-- What a key leads to. -/
def atE (s : List UInt8) (l : List En) : Value := match fndE s l 0 with | some p => .pointer (some ⟨p.2, 0, none⟩) | none => .pointer none
theorem run_look {w : World} {B c : Nat} {l : List En} (h : MapAt w B l c) (s : List UInt8) :
    (Instr.lookup 68 (.map (some B)) (.string (tx s)) true).run Try.prog w = .ok (.tuple #[atE s l, .bool (fndE s l 0).isSome]) w := by
  unfold MapAt at h
  unfold atE
  cases hf : fndE s l 0 with
  | none => simp [Instr.lookup, run_underlying under68, MapKept.run_getObj_map h, run_check, run_findKey_ents, hf, zero77, Result.andThen]
  | some p => simp [Instr.lookup, run_underlying under68, MapKept.run_getObj_map h, run_check, run_findKey_ents, hf, Result.andThen]
/-- No map. -/
theorem run_look_nil (w : World) (s : List UInt8) : (Instr.lookup 68 (.map none) (.string (tx s)) true).run Try.prog w = .ok (.tuple #[.pointer none, .bool false]) w := by
  have h0 := run_findKey_ents s [] w
  unfold ents fndE at h0
  simp only [List.map_nil] at h0
  simp [Instr.lookup, run_underlying under68, run_check, h0, zero77, Result.andThen]
/-- A new key. -/
theorem run_put_new {w : World} {B c : Nat} {l : List En} (h : MapAt w B l c) {s : List UInt8} (hf : fndE s l 0 = none) (q : Nat) :
    (Instr.mapUpdate 68 (.map (some B)) (.string (tx s)) (.pointer (some ⟨q, 0, none⟩))).run Try.prog w = .ok () { w with heap := w.heap.setIfInBounds B (.map (ents (l ++ [⟨s, q, c⟩])).toArray (c + 1)) } := by
  unfold MapAt at h
  have e1 : ents l ++ [{ key := .string (tx s), val := .pointer (some ⟨q, 0, none⟩), born := c }] = ents (l ++ [⟨s, q, c⟩]) := by simp [ents]
  simp [Instr.mapUpdate, run_underlying under68, MapKept.run_getObj_map h, run_check, run_findKey_ents, hf, MapKept.run_setObj_map _ h, Result.andThen]
  rw [e1]
/-- A key goes. -/
theorem run_del {w : World} {B c : Nat} {l : List En} (h : MapAt w B l c) {s : List UInt8} {i q : Nat} (hf : fndE s l 0 = some (i, q)) (ty : TypeId) :
    (Builtin.delete_ #[68, 9] ty #[.map (some B), .string (tx s)]).run Try.prog w = .ok (.tuple #[]) { w with heap := w.heap.setIfInBounds B (.map (ents (l.eraseIdx i)).toArray c) } := by
  unfold MapAt at h
  simp [Builtin.delete_, run_underlying under68, MapKept.run_getObj_map h, run_check, run_findKey_ents, hf, MapKept.run_setObj_map _ h, Result.andThen]
  rw [ents_erase]
/-- The pairs of a map, whatever their order. -/
def lkM (s : List UInt8) : List (List UInt8 × Nat) → Option Nat
  | [] => none
  | p :: r => if s = p.1 then some p.2 else lkM s r
def prs (l : List En) : List (List UInt8 × Nat) := l.map fun e => (e.nm, e.q)
theorem lkM_mem : ∀ {l : List (List UInt8 × Nat)} {s : List UInt8} {q : Nat}, lkM s l = some q → (s, q) ∈ l
  | [], s, q, h => by simp [lkM] at h
  | p :: r, s, q, h => by
    unfold lkM at h
    split at h
    · rename_i e
      have := Option.some.inj h
      subst this
      rw [e]
      exact List.mem_cons_self
    · exact List.mem_cons_of_mem _ (lkM_mem h)
theorem lkM_of : ∀ {l : List (List UInt8 × Nat)} {s : List UInt8} {q : Nat}, (l.map Prod.fst).Nodup → (s, q) ∈ l → lkM s l = some q
  | [], s, q, hn, h => by simp at h
  | p :: r, s, q, hn, h => by
    unfold lkM
    rcases List.mem_cons.1 h with h | h
    · rw [← h]; simp
    · rw [if_neg, lkM_of (List.nodup_cons.1 hn).2 h]
      intro e
      exact (List.nodup_cons.1 hn).1 (List.mem_map.2 ⟨(s, q), h, e⟩)
theorem lkM_none : ∀ {l : List (List UInt8 × Nat)} {s : List UInt8}, lkM s l = none ↔ s ∉ l.map Prod.fst
  | [], s => by simp [lkM]
  | p :: r, s => by
    unfold lkM
    by_cases e : s = p.1
    · simp [e]
    · rw [if_neg e, lkM_none (l := r)]
      simp [e]
theorem fndE_some : ∀ {l : List En} {s : List UInt8} {k i q : Nat}, fndE s l k = some (i, q) → k ≤ i ∧ ∃ e, l[i - k]? = some e ∧ e.nm = s ∧ e.q = q
  | [], s, k, i, q, h => by simp [fndE] at h
  | p :: r, s, k, i, q, h => by
    unfold fndE at h
    split at h
    · rename_i e
      obtain ⟨rfl, rfl⟩ := Prod.mk.inj (Option.some.inj h)
      exact ⟨Nat.le_refl _, p, by simp, e.symm, rfl⟩
    · obtain ⟨h1, e, h2, h3, h4⟩ := fndE_some h
      refine ⟨by omega, e, ?_, h3, h4⟩
      rw [show i - k = (i - (k + 1)) + 1 by omega, List.getElem?_cons_succ]
      exact h2
theorem fndE_lk : ∀ (l : List En) (s : List UInt8) (k : Nat), (fndE s l k).map Prod.snd = lkM s (prs l)
  | [], s, k => rfl
  | p :: r, s, k => by
    unfold fndE
    show _ = lkM s ((p.nm, p.q) :: prs r)
    unfold lkM
    by_cases e : s = p.nm
    · simp [e]
    · simp only [e, if_false]
      exact fndE_lk r s (k + 1)
theorem lkM_perm {a b : List (List UInt8 × Nat)} (h : a.Perm b) (hn : (b.map Prod.fst).Nodup) (s : List UInt8) : lkM s a = lkM s b := by
  have hna : (a.map Prod.fst).Nodup := (h.map Prod.fst).nodup_iff.2 hn
  cases hb : lkM s b with
  | none =>
    rw [lkM_none] at hb ⊢
    exact fun e => hb ((h.map Prod.fst).mem_iff.1 e)
  | some q => exact lkM_of hna (h.mem_iff.2 (lkM_mem hb))
/-- A map against pairs. -/
structure Bok (es : List En) (c : Nat) : Prop where
  nd : (es.map En.born).Nodup
  lt : ∀ e ∈ es, e.born < c
theorem Bok.put {es : List En} {c : Nat} (h : Bok es c) (s : List UInt8) (q : Nat) : Bok (es ++ [⟨s, q, c⟩]) (c + 1) := by
  refine ⟨?_, fun e he => ?_⟩
  · rw [List.map_append, List.nodup_append]
    refine ⟨h.nd, by simp, fun x hx y hy e => ?_⟩
    obtain ⟨z, hz, rfl⟩ := List.mem_map.1 hx
    have := h.lt z hz
    simp at hy
    omega
  · rcases List.mem_append.1 he with he | he
    · have := h.lt e he; omega
    · rw [List.mem_singleton.1 he]; exact Nat.lt_succ_self c
theorem Bok.del {es : List En} {c : Nat} (h : Bok es c) (i : Nat) : Bok (es.eraseIdx i) c := ⟨h.nd.sublist ((List.eraseIdx_sublist es i).map _), fun e he => h.lt e ((List.eraseIdx_sublist es i).subset he)⟩
theorem Bok.nil : Bok [] 0 := ⟨List.nodup_nil, fun e he => (nomatch he)⟩
def MM (w : World) (B : Nat) (ml : List (List UInt8 × Nat)) : Prop := ∃ es c, MapAt w B es c ∧ (prs es).Perm ml ∧ Bok es c
def ptM (o : Option Nat) : Value := match o with | some q => .pointer (some ⟨q, 0, none⟩) | none => .pointer none
theorem MM.look {w : World} {B : Nat} {ml : List (List UInt8 × Nat)} (h : MM w B ml) (hn : (ml.map Prod.fst).Nodup) (s : List UInt8) : (Instr.lookup 68 (.map (some B)) (.string (tx s)) true).run Try.prog w = .ok (.tuple #[ptM (lkM s ml), .bool (lkM s ml).isSome]) w := by
  obtain ⟨es, c, h1, h2, hB⟩ := h
  rw [run_look h1 s]
  rw [← lkM_perm h2 hn s, ← fndE_lk es s 0]
  unfold atE ptM
  cases fndE s es 0 <;> rfl
theorem MM.at' {w w' : World} {B : Nat} {ml : List (List UInt8 × Nat)} (h : MM w B ml) (hk : w'.heap[B]? = w.heap[B]?) : MM w' B ml := by
  obtain ⟨es, c, h1, h2, hB⟩ := h
  exact ⟨es, c, hk.trans h1, h2, hB⟩
theorem MM.lt {w : World} {B : Nat} {ml : List (List UInt8 × Nat)} (h : MM w B ml) : B < w.heap.size := by
  obtain ⟨es, c, h1, h2, hB⟩ := h
  exact (Array.getElem?_eq_some_iff.1 h1).1
/-- A world with another map in a block. -/
def setM (w : World) (B : Nat) (o : Obj) : World := { w with heap := w.heap.setIfInBounds B o }
theorem setM_at {w : World} {B : Nat} {o : Obj} (h : B < w.heap.size) : (setM w B o).heap[B]? = some o := by
  unfold setM
  simp [h]
theorem setM_off {w : World} {B q : Nat} {o : Obj} (h : q ≠ B) : (setM w B o).heap[q]? = w.heap[q]? := by
  unfold setM
  simp only
  rw [Array.getElem?_setIfInBounds_ne (fun e => h e.symm)]
theorem setM_size {w : World} {B : Nat} {o : Obj} : (setM w B o).heap.size = w.heap.size := by
  unfold setM
  simp
theorem MM.put {w : World} {B : Nat} {ml : List (List UInt8 × Nat)} (h : MM w B ml) {s : List UInt8} (hs : s ∉ ml.map Prod.fst) (q : Nat) : ∃ o, (Instr.mapUpdate 68 (.map (some B)) (.string (tx s)) (.pointer (some ⟨q, 0, none⟩))).run Try.prog w = .ok () (setM w B o) ∧ MM (setM w B o) B (ml ++ [(s, q)]) := by
  obtain ⟨es, c, h1, h2, hB⟩ := h
  have hf : fndE s es 0 = none := by
    have h3 := fndE_lk es s 0
    rw [lkM_none.2 (fun e => hs ((h2.map Prod.fst).mem_iff.1 e))] at h3
    cases hh : fndE s es 0 with
    | none => rfl
    | some p => rw [hh] at h3; simp at h3
  refine ⟨_, run_put_new h1 hf q, es ++ [(⟨s, q, c⟩ : En)], c + 1, setM_at (Array.getElem?_eq_some_iff.1 h1).1, ?_, hB.put s q⟩
  unfold prs
  rw [List.map_append]
  exact h2.append_right _
theorem prs_erase : ∀ (l : List En) (i : Nat), prs (l.eraseIdx i) = (prs l).eraseIdx i
  | [], _ => rfl
  | _ :: _, 0 => rfl
  | p :: r, i + 1 => congrArg (_ :: ·) (prs_erase r i)
theorem perm_idx {α : Type} : ∀ (l : List α) (i : Nat) {x : α}, l[i]? = some x → l.Perm (x :: l.eraseIdx i)
  | [], i, x, h => by simp at h
  | p :: r, 0, x, h => by
    have : p = x := by simpa using h
    subst this
    exact List.Perm.refl _
  | p :: r, i + 1, x, h => by
    have h' : r[i]? = some x := by simpa using h
    exact ((perm_idx r i h').cons p).trans (List.Perm.swap _ _ _)
theorem MM.del {w : World} {B : Nat} {ml : List (List UInt8 × Nat)} (h : MM w B ml) (hn : (ml.map Prod.fst).Nodup) {s : List UInt8} {q : Nat} (hs : (s, q) ∈ ml) (ty : TypeId) : ∃ o, (Builtin.delete_ #[68, 9] ty #[.map (some B), .string (tx s)]).run Try.prog w = .ok (.tuple #[]) (setM w B o) ∧ MM (setM w B o) B (ml.erase (s, q)) := by
  obtain ⟨es, c, h1, h2, hB⟩ := h
  have hl : lkM s (prs es) = some q := by rw [lkM_perm h2 hn s]; exact lkM_of hn hs
  have h3 := fndE_lk es s 0
  rw [hl] at h3
  obtain ⟨⟨i, q'⟩, hf, rfl⟩ : ∃ p, fndE s es 0 = some p ∧ p.2 = q := by
    cases hh : fndE s es 0 with
    | none => rw [hh] at h3; simp at h3
    | some p => rw [hh] at h3; exact ⟨p, rfl, by simpa using h3⟩
  obtain ⟨-, e, he, e1, e2⟩ := fndE_some hf
  refine ⟨_, run_del h1 hf ty, es.eraseIdx i, c, setM_at (Array.getElem?_eq_some_iff.1 h1).1, ?_, hB.del i⟩
  refine List.Perm.trans ?_ (h2.erase (s, q'))
  have hx : (prs es)[i]? = some (s, q') := by
    unfold prs
    rw [List.getElem?_map, show i = i - 0 by omega, he]
    simp [← e1, ← e2]
  have hp : (prs (es.eraseIdx i)) = (prs es).eraseIdx i := prs_erase es i
  rw [hp]
  obtain ⟨hlt, hget⟩ := List.getElem?_eq_some_iff.1 hx
  have h5 : (prs es).Perm ((s, q') :: (prs es).eraseIdx i) := by
    exact perm_idx _ i hx
  have h6 := h5.erase (s, q')
  rw [List.erase_cons_head] at h6
  exact h6.symm
end Go.Proofs.Ytmlbojihjgbdlaa.D

/- A disk that is not there. -/
namespace Go.Proofs.Ytmlbojihjgbdlaa
open Go.RowKit
set_option linter.unusedVariables false
set_option linter.unusedSimpArgs false

theorem find_nil (v : Value) (w : World) : Calls Try.prog 48 #[.pointer none, v] w fun e w' => e = .returned (.tuple #[.pointer none, .int .i64 2]) ∧ w' = w := by
  go_enter Try.func48, Try.ntmps48
  go_wp2
  go_ret2
  exact ⟨rfl, rfl⟩
theorem read_nil (v : Value) (w : World) : Calls Try.prog 20 #[.pointer none, v] w fun e w' => e = .returned (.tuple #[.slice none 0 0, .int .i64 2]) ∧ w' = w := by
  go_enter Try.func20, Try.ntmps20
  go_wp2_with (go_at_call 48; refine (find_nil _ _).mono ?_; rintro e w' ⟨rfl, rfl⟩)
  go_ret2
  exact ⟨rfl, rfl⟩
theorem len_nil (v : Value) (w : World) : Calls Try.prog 27 #[.pointer none, v] w fun e w' => e = .returned (.tuple #[.int .i64 0, .int .i64 2]) ∧ w' = w := by
  go_enter Try.func27, Try.ntmps27
  go_wp2_with (go_at_call 48; refine (find_nil _ _).mono ?_; rintro e w' ⟨rfl, rfl⟩)
  go_ret2
  exact ⟨rfl, rfl⟩
theorem files_nil (w : World) : Calls Try.prog 28 #[.pointer none] w fun e w' => e = .returned (.func (.func 51) #[] #[]) ∧ w' = w := by
  go_enter Try.func28, Try.ntmps28
  go_wp2
  go_ret
  exact ⟨rfl, rfl⟩
theorem pending_nil (w : World) : Calls Try.prog 17 #[.pointer none] w fun e w' => e = .returned (.int .i64 0) ∧ w' = w := by
  go_enter Try.func17, Try.ntmps17
  go_wp2
  go_ret
  exact ⟨rfl, rfl⟩
theorem syncs_nil (w : World) : Calls Try.prog 29 #[.pointer none] w fun e w' => e = .returned (.int .i64 0) ∧ w' = w := by
  go_enter Try.func29, Try.ntmps29
  go_wp2
  go_ret
  exact ⟨rfl, rfl⟩
theorem copy_nil (w : World) : Calls Try.prog 18 #[.pointer none] w fun e w' => e = .returned (.pointer none) ∧ w' = w := by
  go_enter Try.func18, Try.ntmps18
  go_wp2
  go_ret
  exact ⟨rfl, rfl⟩
theorem same_nil (a : Option Addr) (w : World) : Calls Try.prog 19 #[.pointer none, .pointer a] w fun e w' => e = .returned (.bool false) ∧ ∃ n, w' = w.drewN n := by
  go_enter Try.func19, Try.ntmps19
  go_wp2
  go_quiet (fail)
  go_wp2
  go_ret
  exact ⟨rfl, _, rfl⟩
theorem new_any (w : World) : Calls Try.prog 8 #[] w fun e w' => ∃ t, e = .returned (.pointer (some ⟨w.heap.size, 0, none⟩)) ∧ w' = w.alloc (.cells #[.map none, .int .i64 0] t) := by
  go_enter Try.func8, Try.ntmps8
  go_wp2
  go_ret
  exact ⟨_, rfl, rfl⟩
theorem append_nil (v u : Value) (w : World) : Calls Try.prog 23 #[.pointer none, v, u] w fun e w' => e = .returned (.int .i64 2) ∧ w' = w := by
  go_enter Try.func23, Try.ntmps23
  go_wp2_with (go_at_call 48; refine (find_nil _ _).mono ?_; rintro e w' ⟨rfl, rfl⟩)
  go_ret
  exact ⟨rfl, rfl⟩
theorem sync_nil (v : Value) (w : World) : Calls Try.prog 24 #[.pointer none, v] w fun e w' => e = .returned (.int .i64 2) ∧ w' = w := by
  go_enter Try.func24, Try.ntmps24
  go_wp2_with (go_at_call 48; refine (find_nil _ _).mono ?_; rintro e w' ⟨rfl, rfl⟩)
  go_ret
  exact ⟨rfl, rfl⟩
theorem cut_nil (v u : Value) (w : World) : Calls Try.prog 25 #[.pointer none, v, u] w fun e w' => e = .returned (.int .i64 2) ∧ w' = w := by
  go_enter Try.func25, Try.ntmps25
  go_wp2_with (go_at_call 48; refine (find_nil _ _).mono ?_; rintro e w' ⟨rfl, rfl⟩)
  go_ret
  exact ⟨rfl, rfl⟩
theorem rename_nil (v u : Value) (w : World) : Calls Try.prog 30 #[.pointer none, v, u] w fun e w' => e = .returned (.int .i64 2) ∧ w' = w := by
  go_enter Try.func30, Try.ntmps30
  go_wp2_with (go_at_call 48; refine (find_nil _ _).mono ?_; rintro e w' ⟨rfl, rfl⟩)
  go_ret
  exact ⟨rfl, rfl⟩
theorem remove_nil (v : Value) (w : World) : Calls Try.prog 26 #[.pointer none, v] w fun e w' => e = .returned (.int .i64 2) ∧ w' = w := by
  go_enter Try.func26, Try.ntmps26
  go_wp2_with (go_at_call 48; refine (find_nil _ _).mono ?_; rintro e w' ⟨rfl, rfl⟩)
  go_ret
  exact ⟨rfl, rfl⟩
theorem crash_nil (v : Value) (w : World) : Calls Try.prog 16 #[.pointer none, v] w fun e w' => e = .returned (.int .i64 2) ∧ w' = w := by
  go_enter Try.func16, Try.ntmps16
  go_wp2
  go_ret
  exact ⟨rfl, rfl⟩
end Go.Proofs.Ytmlbojihjgbdlaa

/- Maps by strings, as they lie: what a key leads to, and a new key. -/
namespace Go.Proofs.Ytmlbojihjgbdlaa
open Go.RowKit
set_option linter.unusedVariables false
set_option linter.unusedSimpArgs false

abbrev Ent := ByteArray × Value × Nat
def ents (l : List Ent) : List MapEntry := l.map fun p => ⟨.string p.1, p.2.1, p.2.2⟩
def fnd (s : ByteArray) : List Ent → Nat → Option (Nat × Value)
  | [], _ => none
  | p :: r, i => if s == p.1 then some (i, p.2.1) else fnd s r (i + 1)
theorem findNow_ents (s : ByteArray) : ∀ (l : List Ent) (i : Nat), Instr.findNow .string (.string s) (ents l) i = some (fnd s l i)
  | [], _ => rfl
  | p :: r, i => by
    have ih := findNow_ents s r (i + 1)
    unfold ents at ih ⊢
    simp only [List.map_cons, Instr.findNow, Instr.sameNow, fnd]
    by_cases h : (s == p.1) = true
    · simp [h]
    · have h' : (s == p.1) = false := by simpa using h
      simp [h', ih]
/-- A map by strings, as it lies. -/
def MapAt (w : World) (B : Nat) (l : List Ent) (c : Nat) : Prop := w.heap[B]? = some (.map (ents l).toArray c)
theorem under9 : Try.prog.underlying 9 = some .string := by kernel_rfl
theorem run_findKey_ents (s : ByteArray) (l : List Ent) (w : World) : (Instr.findKey 9 (.string s) (ents l)).run Try.prog w = .ok (fnd s l 0) w := by
  simp [Instr.findKey, run_underlying under9, findNow_ents, Result.andThen]
theorem run_check (s : ByteArray) (b : Bool) (w : World) : (Instr.checkKey b 10000 9 (.string s)).run Try.prog w = .ok () w := MapKept.run_checkKey under9 (by trivial) b 9999
/-- A key that is there. -/
theorem run_look_some {T e : TypeId} (ht : Try.prog.underlying T = some (.map 9 e)) {w : World} {B c : Nat} {l : List Ent} (h : MapAt w B l c) {s : ByteArray} {i : Nat} {v : Value} (hf : fnd s l 0 = some (i, v)) :
    (Instr.lookup T (.map (some B)) (.string s) true).run Try.prog w = .ok (.tuple #[v, .bool true]) w := by
  unfold MapAt at h
  simp [Instr.lookup, run_underlying ht, MapKept.run_getObj_map h, run_check, run_findKey_ents, hf, Result.andThen]
/-- A key that is not there. -/
theorem run_look_none {T e : TypeId} (ht : Try.prog.underlying T = some (.map 9 e)) {w : World} {z : Value} (hz : (zeroValue e).run Try.prog w = .ok z w) {B c : Nat} {l : List Ent} (h : MapAt w B l c) {s : ByteArray} (hf : fnd s l 0 = none) :
    (Instr.lookup T (.map (some B)) (.string s) true).run Try.prog w = .ok (.tuple #[z, .bool false]) w := by
  unfold MapAt at h
  simp [Instr.lookup, run_underlying ht, MapKept.run_getObj_map h, run_check, run_findKey_ents, hf, hz, Result.andThen]
/-- No map. -/
theorem run_look_nil {T e : TypeId} (ht : Try.prog.underlying T = some (.map 9 e)) {w : World} {z : Value} (hz : (zeroValue e).run Try.prog w = .ok z w) (s : ByteArray) :
    (Instr.lookup T (.map none) (.string s) true).run Try.prog w = .ok (.tuple #[z, .bool false]) w := by
  have h0 := run_findKey_ents s [] w
  unfold ents fnd at h0
  simp only [List.map_nil] at h0
  simp [Instr.lookup, run_underlying ht, run_check, h0, hz, Result.andThen]
/-- A new key. -/
theorem run_put_new {T e : TypeId} (ht : Try.prog.underlying T = some (.map 9 e)) {w : World} {B c : Nat} {l : List Ent} (h : MapAt w B l c) {s : ByteArray} (hf : fnd s l 0 = none) (v : Value) :
    (Instr.mapUpdate T (.map (some B)) (.string s) v).run Try.prog w = .ok () { w with heap := w.heap.setIfInBounds B (.map (ents (l ++ [(s, v, c)])).toArray (c + 1)) } := by
  unfold MapAt at h
  have e1 : ents l ++ [{ key := .string s, val := v, born := c }] = ents (l ++ [(s, v, c)]) := by simp [ents]
  simp [Instr.mapUpdate, run_underlying ht, MapKept.run_getObj_map h, run_check, run_findKey_ents, hf, MapKept.run_setObj_map _ h, Result.andThen]
  rw [e1]
end Go.Proofs.Ytmlbojihjgbdlaa

/- A disk's file is found, or not. -/
namespace Go.Proofs.Ytmlbojihjgbdlaa
open Go.RowKit
set_option linter.unusedVariables false
set_option linter.unusedSimpArgs false

theorem under68 : Try.prog.underlying 68 = some (.map 9 77) := by kernel_rfl
theorem zero77 (w : World) : (zeroValue 77).run Try.prog w = .ok (.pointer none) w := by kernel_rfl
theorem find_some (D : Nat) (s : ByteArray) (B c i : Nat) (l : List Ent) (a : Option Addr) (w : World) (hD : w.cell? ⟨D, 0, none⟩ = some (.map (some B))) (h : MapAt w B l c) (hf : fnd s l 0 = some (i, .pointer a)) :
    Calls Try.prog 48 #[.pointer (some ⟨D, 0, none⟩), .string s] w fun e w' => e = .returned (.tuple #[.pointer a, .int .i64 0]) ∧ w' = w := by
  have hrun := run_look_some under68 h hf
  clear h hf
  go_enter Try.func48, Try.ntmps48
  go_wp2
  go_ret2
  exact ⟨rfl, rfl⟩
theorem find_none (D : Nat) (s : ByteArray) (B c : Nat) (l : List Ent) (w : World) (hD : w.cell? ⟨D, 0, none⟩ = some (.map (some B))) (h : MapAt w B l c) (hf : fnd s l 0 = none) :
    Calls Try.prog 48 #[.pointer (some ⟨D, 0, none⟩), .string s] w fun e w' => e = .returned (.tuple #[.pointer none, .int .i64 5]) ∧ w' = w := by
  have hrun := run_look_none under68 (zero77 w) h hf
  clear h hf
  go_enter Try.func48, Try.ntmps48
  go_wp2
  go_ret2
  exact ⟨rfl, rfl⟩
theorem find_new (D : Nat) (s : ByteArray) (w : World) (hD : w.cell? ⟨D, 0, none⟩ = some (.map none)) :
    Calls Try.prog 48 #[.pointer (some ⟨D, 0, none⟩), .string s] w fun e w' => e = .returned (.tuple #[.pointer none, .int .i64 5]) ∧ w' = w := by
  have hrun := run_look_nil under68 (zero77 w) s
  go_enter Try.func48, Try.ntmps48
  go_wp2
  go_ret2
  exact ⟨rfl, rfl⟩
end Go.Proofs.Ytmlbojihjgbdlaa

/- A name of one letter; a first file is put. -/
namespace Go.Proofs.Ytmlbojihjgbdlaa
open Go.RowKit
set_option linter.unusedVariables false
set_option linter.unusedSimpArgs false

set_option maxRecDepth 20000 in
set_option maxHeartbeats 2000000 in
theorem name_a (w : World) : Calls Try.prog 9 #[.string ⟨#[97]⟩] w fun e w' => e = .returned (.bool true) ∧ w' = w := by
  go_enter Try.func9, Try.ntmps9
  go_wp2
  go_step3
  go_wp2
  go_step3
  go_wp2
  refine wp_loop_rounds 2 ?_
  rw [rounds_succ]
  go_wp2
  rw [rounds_succ]
  go_wp2
  try rw [Exit.noGoto_ret]
  go_ret
  exact ⟨rfl, rfl⟩
/-- All but some blocks lies as it lay. -/
structure Kep (w w' : World) (X : Nat → Prop) : Prop where
  os : w'.os = w.os
  tape : w'.tape = w.tape
  output : w'.output = w.output
  size : w.heap.size ≤ w'.heap.size
  block : ∀ q, q < w.heap.size → ¬ X q → w'.heap[q]? = w.heap[q]?
theorem Kep.below {w w' : World} {X : Nat → Prop} {base : Nat} (h : Kep w w' X) (hb : base ≤ w.heap.size) (hx : ∀ q, X q → base ≤ q) : Below base w w' :=
  ⟨h.os, h.tape, h.output, h.size, fun k hk => h.block k (by omega) fun e => by have := hx k e; omega⟩
/-- A block whose one cell is written. -/
theorem row_set {w : World} {b i : Nat} {c : Array Value} {t : TypeId} {f : Nat × Nat} (v : Value) (h : w.heap[b]? = some (.cells c t f)) : (w.setCell ⟨b, i, none⟩ v).heap[b]? = some (.cells (c.setIfInBounds i v) t f) := by
  simp [World.setCell, Array.getElem?_modify, h]
theorem put_size {w : World} {b : Nat} {o : Obj} : ({ w with heap := w.heap.setIfInBounds b o } : World).heap.size = w.heap.size := by simp
theorem put_same {w : World} {b : Nat} {o : Obj} (h : b < w.heap.size) : ({ w with heap := w.heap.setIfInBounds b o } : World).heap[b]? = some o := by simp [h]
theorem put_other {w : World} {b q : Nat} {o : Obj} (h : q ≠ b) : ({ w with heap := w.heap.setIfInBounds b o } : World).heap[q]? = w.heap[q]? := by simp [Array.getElem?_setIfInBounds_ne (Ne.symm h)]
set_option maxRecDepth 20000 in
set_option maxHeartbeats 2000000 in
/-- The first file of a disk. -/
theorem put_first (D : Nat) (s : ByteArray) (a : Option Addr) (w : World) (z : Value) (t : TypeId) (hD : w.heap[D]? = some (.cells #[.map none, z] t (0, 0))) :
    Calls Try.prog 44 #[.pointer (some ⟨D, 0, none⟩), .string s, .pointer a] w fun e w' => (∃ v, e = .returned v) ∧ w'.heap[D]? = some (.cells #[.map (some w.heap.size), z] t (0, 0)) ∧ MapAt w' w.heap.size [(s, .pointer a, 0)] 1 ∧ Kep w w' (fun q => q = D) := by
  have hc : w.cell? ⟨D, 0, none⟩ = some (.map none) := by rw [cell_of_row _ _ _ _ _ _ hD]; rfl
  have hz : w.frozen? ⟨D, 0, none⟩ = false := frozen_of_row _ _ 0 _ _ hD
  have q : ∀ (w : World) (r : Option Nat), (binOp .eql 68 (.map r) (.map none)).run Try.prog w = .ok (.bool r.isNone) w := fun w r => by
    cases r <;> kernel_rfl
  have hpu : ∀ W : World, MapAt W w.heap.size [] 0 → (Instr.mapUpdate 68 (.map (some w.heap.size)) (.string s) (.pointer a)).run Try.prog W = .ok () { W with heap := W.heap.setIfInBounds w.heap.size (.map (ents [(s, .pointer a, 0)]).toArray 1) } := fun W hW => run_put_new under68 hW rfl _
  have hmk : (Instr.makeMap 68 none).run Try.prog w = .ok (.map (some w.heap.size)) (w.alloc (.map #[] 0)) := run_makeMap 68 w
  have hfz : (w.alloc (.map #[] 0)).frozen? ⟨D, 0, none⟩ = false := by
    have hlt := (Array.getElem?_eq_some_iff.1 hD).1
    exact frozen_of_row _ _ 0 _ _ ((Below.heap_alloc _ _ _ hlt).trans hD)
  have hc2 : (w.alloc (.map #[] 0)).cell? ⟨D, 0, none⟩ = some (.map none) := by
    have hlt := (Array.getElem?_eq_some_iff.1 hD).1
    rw [cell_of_row _ _ _ _ _ _ ((Below.heap_alloc _ _ _ hlt).trans hD)]; rfl
  go_enter Try.func44, Try.ntmps44
  go_upto_region 2 with fail
  have hlt := (Array.getElem?_eq_some_iff.1 hD).1
  obtain ⟨W, hW⟩ : ∃ W, (w.alloc (.map #[] 0)).setCell ⟨D, 0, none⟩ (.map (some w.heap.size)) = W := ⟨_, rfl⟩
  have e1 : W.heap[D]? = some (.cells #[.map (some w.heap.size), z] t (0, 0)) := by
    rw [← hW]
    exact row_set _ ((Below.heap_alloc _ _ _ hlt).trans hD)
  have e2 : MapAt W w.heap.size [] 0 := by
    show W.heap[w.heap.size]? = _
    rw [← hW, Below.heap_setCell _ _ _ _ (by show w.heap.size ≠ D; omega)]
    exact Go.heap_alloc_new _ _
  have e3 : W.heap.size = w.heap.size + 1 := by rw [← hW]; simp
  have e4 : ∀ q, q < w.heap.size → q ≠ D → W.heap[q]? = w.heap[q]? := fun q h1 h2 => by
    rw [← hW, Below.heap_setCell _ _ _ _ h2]
    exact Below.heap_alloc _ _ _ h1
  rw [hW]
  have hput := hpu W e2
  have hcell : W.cell? ⟨D, 0, none⟩ = some (.map (some w.heap.size)) := by rw [cell_of_row _ _ _ _ _ _ e1]; rfl
  obtain ⟨B, hB⟩ : ∃ B, w.heap.size = B := ⟨_, rfl⟩
  rw [hB] at e1 e3 e4 hcell hput hlt ⊢
  have HE : Hid (W.heap[D]? = some (.cells #[.map (some B), z] t (0, 0)) ∧ W.heap.size = B + 1 ∧ (∀ q, q < B → q ≠ D → W.heap[q]? = w.heap[q]?) ∧ D < B ∧ w.heap.size = B ∧ W.os = w.os ∧ W.tape = w.tape ∧ W.output = w.output) := ⟨e1, e3, e4, hlt, hB, by rw [← hW]; rfl, by rw [← hW]; rfl, by rw [← hW]; rfl⟩
  clear hW e1 e2 e3 e4 hlt hB hD hc hz hpu hmk hfz hc2
  go_wp2
  go_end0
  obtain ⟨e1, e3, e4, hlt, hB, o1, o2, o3⟩ := HE.out
  rw [hB]
  refine ⟨⟨_, rfl⟩, ?_, ?_, ⟨o1, o2, o3, ?_, ?_⟩⟩
  · rw [put_other (by omega)]; exact e1
  · exact put_same (by omega)
  · rw [put_size]; omega
  · intro q h1 h2
    rw [put_other (by omega)]
    exact e4 q (by omega) h2
end Go.Proofs.Ytmlbojihjgbdlaa

/- Rows of bytes of the call's own; bytes that came in; an append of them. -/
namespace Go.Proofs.Ytmlbojihjgbdlaa
open Go.RowKit
set_option linter.unusedVariables false
set_option linter.unusedSimpArgs false

def Byt (zs : List Int) : Prop := ∀ c ∈ zs, 0 ≤ c ∧ c ≤ 255
theorem info5 : (Try.prog.info? 5).map (fun i => (i.zero, i.size, i.bytes)) = some (some (.int .u8 0), 1, 1) := by kernel_rfl
theorem own_form {w : World} {base size n : Nat} {e : TypeId} {v : Value} {xs : List Value} (h : w.ownsRow base e size v n xs) (hn : 0 < n) : ∃ g cap, v = .slice (some ⟨g, 0, none⟩) n cap := by
  rcases h.2 with ⟨_, h'⟩ | ⟨g, cp, cur, hv, _⟩
  · omega
  · exact ⟨g, cp, hv⟩
theorem own_slice {w : World} {base size n : Nat} {e : TypeId} {v : Value} {xs : List Value} (h : w.ownsRow base e size v n xs) : ∃ a cap, v = .slice a n cap := by
  rcases h.2 with ⟨h, h'⟩ | ⟨g, cp, cur, hv, _⟩
  · exact ⟨_, _, by rw [h, h']⟩
  · exact ⟨_, cp, hv⟩
theorem ownBlock_ge {w : World} {base size n : Nat} {e : TypeId} {v : Value} {xs : List Value} (h : w.ownsRow base e size v n xs) : ∀ k, v.ownBlock = some k → base ≤ k := fun k hk => (h.lt k hk).1
theorem own_cap {w : World} {base size n n' g cap : Nat} {e : TypeId} {xs : List Value} (h : w.ownsRow base e size (.slice (some ⟨g, 0, none⟩) n' cap) n xs) : n ≤ cap := by
  rcases h.2 with ⟨h', _⟩ | ⟨g', cp', cur, hv, _, _, h3, _⟩
  · cases h'
  · cases hv; exact h3
theorem own_kept {w w' : World} {base : Nat} {e : TypeId} {size : Nat} {v : Value} {n : Nat} {xs : List Value} (h : w.ownsRow base e size v n xs) (hb : ∀ g, base ≤ g → g < w.heap.size → w'.heap[g]? = w.heap[g]?) : w'.ownsRow base e size v n xs :=
  ⟨h.1, h.2.imp id fun ⟨g, cap, cur, hv, hg, hc, r⟩ => ⟨g, cap, cur, hv, hg, (hb g hg (Array.getElem?_eq_some_iff.1 hc).1).trans hc, r⟩⟩
theorem own_at {w w' : World} {base size n : Nat} {e : TypeId} {v : Value} {xs : List Value} (h : w.ownsRow base e size v n xs) (hk : ∀ q, v.ownBlock = some q → w'.heap[q]? = w.heap[q]?) : w'.ownsRow base e size v n xs :=
  ⟨h.1, h.2.imp id fun ⟨g, cap, cur, hv, hg, hc, r⟩ => ⟨g, cap, cur, hv, hg, (hk g (by rw [hv]; rfl)).trans hc, r⟩⟩
theorem own_low {w : World} {base base' size n : Nat} {e : TypeId} {v : Value} {xs : List Value} (h : w.ownsRow base e size v n xs) (hb : base' ≤ base) : w.ownsRow base' e size v n xs :=
  ⟨h.1, h.2.imp id fun ⟨g, cap, cur, hv, hg, hc, r⟩ => ⟨g, cap, cur, hv, by omega, hc, r⟩⟩

def u8l (zs : List Int) : List Value := zs.map (Value.int .u8)
theorem u8l_len (zs : List Int) : (u8l zs).length = zs.length := by simp [u8l]
theorem u8l_one (zs : List Int) : ∀ u ∈ u8l zs, u.oneCell' = true := by
  intro u h
  unfold u8l at h
  obtain ⟨x, _, rfl⟩ := List.mem_map.1 h
  rfl
theorem u8l_app (a b : List Int) : u8l a ++ u8l b = u8l (a ++ b) := by simp [u8l]
theorem cell_new1 (w : World) (v : Value) (t : TypeId) : ∀ j u, [v][j]? = some u → (w.alloc (.cells #[v] t)).cell? ((⟨w.heap.size, 0, none⟩ : Addr).add j) = some u := by
  intro j u h
  rw [Addr.add_mid, Nat.zero_add, cell_of_row _ _ _ _ _ _ (Go.heap_alloc_new _ _)]
  simpa using h
theorem byt_app {a b : List Int} (ha : Byt a) (hb : Byt b) : Byt (a ++ b) := fun x hx => by
  rcases List.mem_append.1 hx with h | h
  · exact ha x h
  · exact hb x h

/-- Bytes that came in. -/
def Src (w : World) (sv : Value) (bs : List Int) : Prop := (sv = .slice none 0 0 ∧ bs = []) ∨ ∃ ad cap, sv = .slice (some ad) bs.length cap ∧ bs.length ≤ cap ∧ ∀ j u, (u8l bs)[j]? = some u → w.cell? (ad.add j) = some u
theorem Src.later {w w' : World} {sv : Value} {bs : List Int} (h : Src w sv bs) (hb : Below w.heap.size w w') : Src w' sv bs := by
  rcases h with h | ⟨ad, cap, rfl, hl, hC⟩
  · exact .inl h
  · refine .inr ⟨ad, cap, rfl, hl, fun j u hu => ?_⟩
    have h := hC j u hu
    rw [hb.cell (World.block_lt_of_cell? w _ h)]
    exact h
theorem Src.slice {w : World} {sv : Value} {bs : List Int} (h : Src w sv bs) : ∃ a c, sv = .slice a bs.length c := by
  rcases h with ⟨rfl, rfl⟩ | ⟨ad, cap, rfl, _⟩
  · exact ⟨_, _, rfl⟩
  · exact ⟨_, _, rfl⟩
theorem own_src {w : World} {base : Nat} {v : Value} {zs : List Int} (h : w.ownsRow base 5 1 v zs.length (u8l zs)) : Src w v zs := by
  rcases h.2 with ⟨h1, h2⟩ | ⟨g, cap, cur, h1, _, _, h3, _⟩
  · exact .inl ⟨h1, List.eq_nil_of_length_eq_zero h2⟩
  · exact .inr ⟨⟨g, 0, none⟩, cap, h1, h3, fun j u hu => h.cells (g := g) (by rw [h1]; rfl) j u hu⟩
theorem wpList_append_src {w : World} {ops : Array Oper} {rest : List Oper} {o : Oper} {a : Act} {Q : Exit → Act → World → Prop} (hgd : o.guard = none) (s x : Operand)
    (ho : o.op = .call { callee := .builtin .append, args := #[s, x], argTypes := #[31, 31] }) (base : Nat) (v : Value) (n : Nat) (xs : List Value) (hs : a.eval s = v) (hown : w.ownsRow base 5 1 v n xs)
    (sv : Value) (bs : List Int) (hx : a.eval x = sv) (hsrc : Src w sv bs) (hb : n + bs.length ≤ 100000000) (hbase : base ≤ w.heap.size)
    (h : ∀ v' w', w'.ownsRow base 5 1 v' (n + bs.length) (xs ++ u8l bs) → w.grownBy w' v.ownBlock → wpList Try.prog ops Q rest (a.put o.dst v') w') : wpList Try.prog ops Q (o :: rest) a w := by
  obtain ⟨i0, hi, hz0, hz1, hz2⟩ := info_parts info5
  rcases hsrc with ⟨rfl, rfl⟩ | ⟨ad, cap, rfl, _, hC⟩
  · refine wpList_append_own_none hgd s x 31 ho base 5 i0 1 Try.underlying31 hi v n xs hs hown hx ?_
    refine h v w ?_ ⟨rfl, rfl, rfl, Nat.le_refl _, fun _ _ _ => rfl⟩
    simpa [u8l] using hown
  · exact wpList_append_own w hgd s x 31 ho base 5 i0 (.int .u8 0) 1 1 Try.underlying31 hi hz0 hz1 hz2 rfl (by decide) v n xs hs hown ad bs.length cap (u8l bs) hx (by simp [u8l_len]) hC (u8l_one _) (by unfold maxLen; omega) (by omega) hbase fun v' w' h1 h2 _ => h v' w' h1 h2
/-- From one row to the one that it grew to: all else lies as it lay. -/
structure Gr (v : Value) (w : World) (v' : Value) (w' : World) : Prop where
  os : w'.os = w.os
  tape : w'.tape = w.tape
  output : w'.output = w.output
  size : w.heap.size ≤ w'.heap.size
  block : ∀ k, k < w.heap.size → v.ownBlock ≠ some k → w'.heap[k]? = w.heap[k]?
  near : ∀ g, v'.ownBlock = some g → v.ownBlock = some g ∨ w.heap.size ≤ g
theorem Gr.refl (v : Value) (w : World) : Gr v w v w := ⟨rfl, rfl, rfl, Nat.le_refl _, fun _ _ _ => rfl, fun _ h => .inl h⟩
theorem Gr.trans {v v' v'' : Value} {w w' w'' : World} (h : Gr v w v' w') (k : Gr v' w' v'' w'') : Gr v w v'' w'' := by
  refine ⟨k.os.trans h.os, k.tape.trans h.tape, k.output.trans h.output, Nat.le_trans h.size k.size, fun i hi hv => ?_, fun g hg => ?_⟩
  · have hs := h.size
    refine (k.block i (by omega) ?_).trans (h.block i hi hv)
    intro e
    rcases h.near i e with h1 | h1
    · exact hv h1
    · omega
  · rcases k.near g hg with h1 | h1
    · exact h.near g h1
    · have := h.size; exact .inr (by omega)
theorem Gr.below {v v' : Value} {w w' : World} {base : Nat} (h : Gr v w v' w') (hb : base ≤ w.heap.size) (hv : ∀ k, v.ownBlock = some k → base ≤ k) : Below base w w' :=
  ⟨h.os, h.tape, h.output, h.size, fun k hk => h.block k (by omega) (fun e => by have := hv k e; omega)⟩
/-- One byte more. -/
theorem wpList_append_one {w : World} {ops : Array Oper} {rest : List Oper} {o : Oper} {a : Act} {Q : Exit → Act → World → Prop} (hgd : o.guard = none) (s x : Operand)
    (ho : o.op = .call { callee := .builtin .append, args := #[s, x], argTypes := #[31, 31] }) (base : Nat) (v : Value) (n : Nat) (xs : List Value) (hs : a.eval s = v) (V : World) (hown : V.ownsRow base 5 1 v n xs)
    (c : Int) (hw : w = V.alloc (.cells #[.int .u8 c] 5)) (hx : a.eval x = .slice (some ⟨V.heap.size, 0, none⟩) 1 1) (hb : n ≤ 100000000) (hbase : base ≤ V.heap.size)
    (h : ∀ g cap w', w'.ownsRow base 5 1 (.slice (some ⟨g, 0, none⟩) (n + 1) cap) (n + 1) (xs ++ u8l [c]) → Gr v V (.slice (some ⟨g, 0, none⟩) (n + 1) cap) w' → wpList Try.prog ops Q rest (a.put o.dst (.slice (some ⟨g, 0, none⟩) (n + 1) cap)) w') : wpList Try.prog ops Q (o :: rest) a w := by
  subst hw
  obtain ⟨i0, hi, hz0, hz1, hz2⟩ := info_parts info5
  refine wpList_append_lies _ hgd s x 31 ho base 5 i0 (.int .u8 0) 1 1 Try.underlying31 hi hz0 hz1 hz2 rfl (by decide) v n xs hs (hown.alloc _) ⟨V.heap.size, 0, none⟩ 1 1 (u8l [c]) hx rfl (cell_new1 V _ _) (u8l_one _) (by decide) (by unfold maxLen; omega) (by omega) (by simp; omega) (V.heap.size + 1) (by simp) fun g cap w' h1 h2 h3 _ => h g cap w' h1 ?_
  refine ⟨h2.os, h2.tape, h2.output, Nat.le_trans (by simp) h2.size, fun k hk hv => ?_, fun g' hg' => ?_⟩
  · rw [h2.block k (by simp; omega) (fun e => hv e.symm)]
    exact Below.heap_alloc _ _ _ hk
  · have e : g = g' := by simpa [Value.ownBlock] using hg'
    rw [← e]
    rcases h3 with h | h
    · exact .inl h
    · exact .inr (by omega)
theorem ne_tag {w : World} {k k' : Nat} {c c' : Array Value} {t t' : TypeId} {f f' : Nat × Nat} (h : w.heap[k]? = some (.cells c t f)) (h' : w.heap[k']? = some (.cells c' t' f')) (ht : t ≠ t') : k ≠ k' := by
  rintro rfl
  rw [h] at h'
  simp at h'
  exact ht h'.2.1
theorem own_tag {w : World} {base size n : Nat} {e : TypeId} {v : Value} {xs : List Value} (h : w.ownsRow base e size v n xs) {q : Nat} (hq : v.ownBlock = some q) : ∃ cur, w.heap[q]? = some (.cells cur e (0, 0)) := by
  rcases h.2 with ⟨rfl, _⟩ | ⟨g, cap, cur, rfl, _, hc, _⟩
  · cases hq
  · have : g = q := by simpa [Value.ownBlock] using hq
    exact ⟨cur, this ▸ hc⟩
end Go.Proofs.Ytmlbojihjgbdlaa
