/- The law of streams: how all stands in the midst of a round. -/
import Derived.Test.YtfdmepblhlifcaaDoorN4
import Derived.Test.YtfdmepblhlifcaaDoorB3
namespace Go.Proofs.YtfdmepblhlifcaaDoor
open Go.RowKit Go.Shelf
set_option linter.unusedVariables false
set_option linter.unusedSimpArgs false

theorem ne_tag {w : World} {k k' : Nat} {c c' : Array Value} {t t' : TypeId} {f f' : Nat × Nat} (h : w.heap[k]? = some (.cells c t f)) (h' : w.heap[k']? = some (.cells c' t' f')) (ht : t ≠ t') : k ≠ k' := by
  rintro rfl
  rw [h] at h'
  simp at h'
  exact ht h'.2.1
theorem own_tag {w : World} {base size n : Nat} {e : TypeId} {v : Value} {xs : List Value} (h : w.ownsRow base e size v n xs) {q : Nat} (hq : v.ownBlock = some q) : ∃ cur, w.heap[q]? = some (.cells cur e (0, 0)) := by
  rcases h.2 with ⟨rfl, _⟩ | ⟨g, cap, cur, rfl, _, hc, _⟩
  · cases hq
  · have : g = q := by simpa [Value.ownBlock] using hq
    exact ⟨cur, this ▸ hc⟩
theorem own_at {w w' : World} {base size n : Nat} {e : TypeId} {v : Value} {xs : List Value} (h : w.ownsRow base e size v n xs) (hk : ∀ q, v.ownBlock = some q → w'.heap[q]? = w.heap[q]?) : w'.ownsRow base e size v n xs :=
  ⟨h.1, h.2.imp id fun ⟨g, cap, cur, hv, hg, hc, r⟩ => ⟨g, cap, cur, hv, hg, (hk g (by rw [hv]; rfl)).trans hc, r⟩⟩
theorem Holds.kept {w w' : World} {p base : Nat} {zs : List Int} (h : Holds w p base zs) (hk : ∀ (k : Nat) (c : Array Value) (t : TypeId) (f : Nat × Nat), w.heap[k]? = some (Obj.cells c t f) → t ≠ 5 → w'.heap[k]? = w.heap[k]?) : Holds w' p base zs := by
  obtain ⟨pv, rest, h1, h2, h3, h4, h5⟩ := h
  refine ⟨pv, rest, h1.later (hk p _ 69 _ h1 (by decide)), h2, h3, h4, own_at h5 fun q hq => ?_⟩
  obtain ⟨cur, hc⟩ := own_tag h5 hq
  exact hk q _ 23 _ hc (by decide)

/-- How all stands in the midst of a round: the stream holds ys, the list zs. -/
structure Mid (w W : World) (p x : Nat) (ys zs : List Int) (bv : Value) (K : Int) (sv : Value) (bs : List Int) : Prop where
  bel : Below w.heap.size w W
  holds : Holds W p (p + 1) ys
  own : W.ownsRow w.heap.size 5 1 bv zs.length (u8l zs)
  box : W.heap[x]? = some (.cells #[.int .i64 K, sv] 39 (0, 0))
  hx : w.heap.size ≤ x
  hp : w.heap.size ≤ p
  src : Src W sv bs
  at_ : ∀ ad n c', 0 < n → sv = .slice (some ad) n c' → ad.block < w.heap.size
section
variable {w W W' : World} {p x : Nat} {ys zs bs : List Int} {bv sv : Value} {K : Int}
theorem Mid.later (h : Mid w W p x ys zs bv K sv bs) (hb : Below W.heap.size W W') : Mid w W' p x ys zs bv K sv bs := by
  have hB : Below w.heap.size W W' := hb.mono h.bel.size
  exact ⟨h.bel.trans hB, h.holds.later (hb.block _ (by obtain ⟨pv, rest, h1, _⟩ := h.holds; exact h1.lt)) (fun g _ hg => hb.block g hg), own_kept h.own fun g _ hg => hb.block g hg, (hb.block _ (Array.getElem?_eq_some_iff.1 h.box).1).trans h.box, h.hx, h.hp, h.src.later h.at_ hB, h.at_⟩
theorem Mid.cells (h : Mid w W p x ys zs bv K sv bs) : W.cell? ⟨x, 0, none⟩ = some (.int .i64 K) ∧ W.cell? ⟨x, 1, none⟩ = some sv :=
  ⟨cell_of_row _ _ _ _ _ _ h.box, cell_of_row _ _ _ _ _ _ h.box⟩
/-- Bytes were written to the stream. -/
theorem Mid.wrote (h : Mid w W p x ys zs bv K sv bs) {ys' : List Int} (hH : Holds W' p (p + 1) ys') (hb : Bx p (p + 1) W W') (ha : Apart p W W') : Mid w W' p x ys' zs bv K sv bs := by
  obtain ⟨pv, rest, h1, _⟩ := h.holds
  have hB : Below w.heap.size W W' := hb.below h.hp (by have := h.hp; omega)
  refine ⟨h.bel.trans hB, hH, own_at h.own fun q hq => ?_, ?_, h.hx, h.hp, h.src.later h.at_ hB, h.at_⟩
  · obtain ⟨cur, hc⟩ := own_tag h.own hq
    exact ha q _ _ _ hc (by decide) (ne_tag hc h1 (by decide))
  · exact (ha x _ _ _ h.box (by decide) (ne_tag h.box h1 (by decide))).trans h.box
/-- The bytes lent were spoilt. -/
theorem Mid.spoilt (h : Mid w W p x ys zs bv K sv bs) {n₀ g cp : Nat} {cs : List Int} (hL : Loan W n₀ g cp cs) (hn : w.heap.size ≤ n₀) (hq : ∀ q, bv.ownBlock = some q → q < n₀) (hb : Bx g W.heap.size W W') : Mid w W' p x ys zs bv K sv bs := by
  obtain ⟨l1, l2, cur, l3⟩ := hL.block
  have hB : Below w.heap.size W W' := hb.below (by omega) h.bel.size
  have hk : ∀ (k : Nat) (c : Array Value) (t : TypeId) (f : Nat × Nat), W.heap[k]? = some (Obj.cells c t f) → t ≠ 5 → W'.heap[k]? = W.heap[k]? := fun k c t f hk ht => hb.block k (Array.getElem?_eq_some_iff.1 hk).1 (ne_tag hk l3 ht)
  refine ⟨h.bel.trans hB, h.holds.kept hk, own_at h.own fun q hq' => ?_, (hk x _ _ _ h.box (by decide)).trans h.box, h.hx, h.hp, h.src.later h.at_ hB, h.at_⟩
  have h1 := hq q hq'
  exact hb.block q (h.own.lt q hq').2 (by omega)
/-- Bytes were appended to the list. -/
theorem Mid.grew (h : Mid w W p x ys zs bv K sv bs) {v : Value} {zs' : List Int} (ho : W'.ownsRow w.heap.size 5 1 v zs'.length (u8l zs')) (hg : W.grownBy W' bv.ownBlock) : Mid w W' p x ys zs' v K sv bs := by
  have hB : Below w.heap.size W W' := (Below.refl _ W).grown hg h.bel.size (ownBlock_ge h.own)
  have hk : ∀ (k : Nat) (c : Array Value) (t : TypeId) (f : Nat × Nat), W.heap[k]? = some (Obj.cells c t f) → t ≠ 5 → W'.heap[k]? = W.heap[k]? := fun k c t f hk ht => hg.block k (Array.getElem?_eq_some_iff.1 hk).1 (by
    intro e
    obtain ⟨cur, hc⟩ := own_tag h.own e.symm
    exact ne_tag hk hc ht rfl)
  exact ⟨h.bel.trans hB, h.holds.kept hk, ho, (hk x _ _ _ h.box (by decide)).trans h.box, h.hx, h.hp, h.src.later h.at_ hB, h.at_⟩
/-- The stream was begun anew, and the list. -/
theorem Mid.anew (h : Mid w W p x ys zs bv K sv bs) (hH : Holds W' p (p + 1) []) (hb : Bx p W.heap.size W W') : Mid w W' p x [] [] (.slice none 0 0) K sv bs := by
  obtain ⟨pv, rest, h1, _⟩ := h.holds
  have hB : Below w.heap.size W W' := hb.below h.hp h.bel.size
  exact ⟨h.bel.trans hB, hH, World.ownsRow_nil _ _ _ _, (hb.block x (Array.getElem?_eq_some_iff.1 h.box).1 (ne_tag h.box h1 (by decide))).trans h.box, h.hx, h.hp, h.src.later h.at_ hB, h.at_⟩
end

/-- One call of the script, as it lies. -/
structure Piece (w : World) (b o : Nat) (K : Int) (sa : Option Addr) (l c : Nat) (bs : List Int) : Prop where
  kind : w.cell? ⟨b, o, none⟩ = some (.int .i64 K)
  at_ : w.cell? ⟨b, o + 1, none⟩ = some (.slice sa l c)
  src : Src w (.slice sa l c) bs
  byt : Byt bs
  short : (bs.length : Int) ≤ 1048576
  low : ∀ ad n c', 0 < n → Value.slice sa l c = .slice (some ad) n c' → ad.block < w.heap.size

/-- How all stands ahead of a round. -/
structure Stands (w wr : World) (p : Nat) (bv : Value) (zs : List Int) : Prop where
  bel : Below w.heap.size w wr
  holds : Holds wr p (p + 1) zs
  own : wr.ownsRow w.heap.size 5 1 bv zs.length (u8l zs)
  byt : Byt zs
  short : (zs.length : Int) ≤ 2000000
  hp : w.heap.size ≤ p
/-- The round begins: the call is laid into a box. -/
theorem Stands.mid {w wr : World} {p : Nat} {bv : Value} {zs : List Int} (h : Stands w wr p bv zs) {b o : Nat} {K : Int} {sa : Option Addr} {l c : Nat} {bs : List Int} (hP : Piece w b o K sa l c bs) :
    Mid w (wr.alloc (.cells #[.int .i64 K, .slice sa l c] 39)) p wr.heap.size zs zs bv K (.slice sa l c) bs := by
  have hb : Below wr.heap.size wr (wr.alloc (.cells #[.int .i64 K, .slice sa l c] 39)) := (Below.refl _ wr).alloc (Nat.le_refl _) _
  have hB : Below w.heap.size w (wr.alloc (.cells #[.int .i64 K, .slice sa l c] 39)) := h.bel.trans (hb.mono h.bel.size)
  exact ⟨hB, h.holds.later (hb.block _ (by obtain ⟨pv, rest, h1, _⟩ := h.holds; exact h1.lt)) (fun g _ hg => hb.block g hg), h.own.alloc _, Go.heap_alloc_new _ _, h.bel.size, h.hp, hP.src.later hP.low hB, hP.low⟩
/-- What is the same of both at a round's end. -/
theorem Mid.alike {w W : World} {p x : Nat} {zs bs : List Int} {bv sv : Value} {K : Int} (h : Mid w W p x zs zs bv K sv bs) (R : Roots w) (h0 : 0 < w.heap.size) (hz : Byt zs) (hl : (zs.length : Int) ≤ 2000000) :
    Calls Tryd.prog 24 #[.pointer (some ⟨p, 0, none⟩), bv] W fun e w' => e = .returned (.bool true) ∧ Stands w w' p bv zs := by
  refine (alike_own p (p + 1) w.heap.size zs hz bv W h.holds (roots_later R h0 h.bel) (by have := h.bel.size; omega) (by omega) h.own).mono ?_
  rintro e w' ⟨he, hb⟩
  have hm := h.later hb
  exact ⟨he, hm.bel, hm.holds, hm.own, hz, hl, hm.hp⟩
section
variable {w W : World} {p x n₀ g cp M : Nat} {ys zs bs : List Int} {bv sv : Value} {K : Int}
theorem Mid.write (h : Mid w W p x ys zs bv K sv bs) (hL : Loan W n₀ g cp bs) (hM : bs.length = M) (R : Roots w) (h0 : 0 < w.heap.size) (hy : Byt ys) (hl : (ys.length : Int) + (bs.length : Int) ≤ 2000000) :
    Calls Tryd.prog 20 #[.pointer (some ⟨p, 0, none⟩), .slice (some ⟨g, 0, none⟩) M cp] W fun e w' => e = .returned (.int .i64 0) ∧ Mid w w' p x (ys ++ bs) zs bv K sv bs ∧ Loan w' n₀ g cp bs := by
  subst hM
  refine (write_loan p ys bs n₀ g cp W h.holds (roots_later R h0 h.bel) (by have := h.hp; omega) hL hy (by omega)).mono ?_
  rintro e w' ⟨he, hH, hb, ha⟩
  obtain ⟨l1, l2, cur, l3⟩ := hL.block
  obtain ⟨pv, rest, h1, _⟩ := h.holds
  exact ⟨he, h.wrote hH hb ha, hL.later (ha g _ _ _ l3 (by decide) (ne_tag l3 h1 (by decide)))⟩
theorem Mid.still (h : Mid w W p x ys zs bv K sv bs) (hL : Loan W n₀ g cp bs) (hM : bs.length = M) (hl : (bs.length : Int) ≤ 2000000) :
    Calls Tryd.prog 11 #[.slice (some ⟨g, 0, none⟩) M cp, sv] W fun e w' => e = .returned (.bool true) ∧ w' = W := by
  subst hM
  exact kept_src h.src hL (by omega)
theorem Mid.spoil (h : Mid w W p x ys zs bv K sv bs) (hL : Loan W n₀ g cp bs) (hM : bs.length = M) (hn : w.heap.size ≤ n₀) (hq : ∀ q, bv.ownBlock = some q → q < n₀) (hl : (bs.length : Int) ≤ 2000000) :
    Calls Tryd.prog 21 #[.slice (some ⟨g, 0, none⟩) M cp] W fun e w' => (∃ v, e = .returned v) ∧ Mid w w' p x ys zs bv K sv bs := by
  subst hM
  refine (spoil_any n₀ g bs.length cp bs W rfl hL.own hL.2 (by omega)).mono ?_
  rintro e w' ⟨he, hb⟩
  exact ⟨he, h.spoilt hL hn hq hb⟩
theorem Mid.reset (h : Mid w W p x ys zs bv K sv bs) :
    Calls Tryd.prog 22 #[.pointer (some ⟨p, 0, none⟩)] W fun e w' => (∃ v, e = .returned v) ∧ Mid w w' p x [] [] (.slice none 0 0) K sv bs := by
  refine (reset_holds p (p + 1) ys W h.holds).mono ?_
  rintro e w' ⟨he, hH, hb⟩
  exact ⟨he, h.anew hH hb⟩
theorem Mid.copy (h : Mid w W p x ys zs bv K sv bs) (hL : Loan W n₀ g cp bs) (hl : (ys.length : Int) ≤ 2000000) :
    Calls Tryd.prog 23 #[.pointer (some ⟨p, 0, none⟩)] W fun e w' => e = .returned (.pointer (some ⟨W.heap.size, 0, none⟩)) ∧ Mid w w' p x ys zs bv K sv bs ∧ Loan w' n₀ g cp bs ∧ Holds w' W.heap.size (W.heap.size + 1) ys ∧ Below W.heap.size W w' := by
  refine (copy_holds p (p + 1) ys W h.holds (by omega)).mono ?_
  rintro e w' ⟨he, hH, hb⟩
  obtain ⟨l1, l2, cur, l3⟩ := hL.block
  exact ⟨he, h.later hb, hL.later (hb.block g l2), hH, hb⟩
/-- The copy is written to. -/
theorem write_copy {P : Nat} (hH : Holds W P (P + 1) ys) (R : Roots W) (h0 : 0 < P) (hL : Loan W n₀ g cp bs) (hM : bs.length = M) (hy : Byt ys) (hl : (ys.length : Int) + (bs.length : Int) ≤ 2000000) :
    Calls Tryd.prog 20 #[.pointer (some ⟨P, 0, none⟩), .slice (some ⟨g, 0, none⟩) M cp] W fun e w' => e = .returned (.int .i64 0) ∧ Holds w' P (P + 1) (ys ++ bs) ∧ Below P W w' := by
  subst hM
  refine (write_loan P ys bs n₀ g cp W hH R h0 hL hy (by omega)).mono ?_
  rintro e w' ⟨he, h1, hb, ha⟩
  exact ⟨he, h1, hb.below (Nat.le_refl _) (by omega)⟩
/-- Its list as long as it is. -/
theorem own_len {base n m : Nat} {v : Value} (h : W.ownsRow base 5 1 v n (u8l zs ++ u8l bs)) (hn : n = zs.length + bs.length) : W.ownsRow base 5 1 v (zs ++ bs).length (u8l (zs ++ bs)) := by
  rw [u8l_app] at h
  rw [List.length_append, ← hn]
  exact h
end
end Go.Proofs.YtfdmepblhlifcaaDoor
