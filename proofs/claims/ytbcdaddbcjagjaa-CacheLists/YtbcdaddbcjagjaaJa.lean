/- A list of ints by keys beside rows of ints: what CacheLists keeps. -/
import Derived.Test.YtbcdaddbcjagjaaIm
import Derived.Maps.AppendAt
namespace Go.Proofs.Ytbcdaddbcjagjaa.I
open Go.RowKit
set_option linter.unusedVariables false
set_option linter.unusedSimpArgs false

def iV (k : Int) : Value := .int .i64 k
/-- A row of ints that is read. -/
def RowD (w : World) (v : Value) (ks : List Int) : Prop := (v = .slice none 0 0 ∧ ks = []) ∨ ∃ (g cap : Nat) (cur : Array Value), v = .slice (some ⟨g, 0, none⟩) ks.length cap ∧ ks.length ≤ cap ∧ w.heap[g]? = some (.cells cur 3 (0, 0)) ∧ ∀ (i : Nat) (k : Int), ks[i]? = some k → cur[i]? = some (iV k)
theorem RowD.nil (w : World) : RowD w (.slice none 0 0) [] := .inl ⟨rfl, rfl⟩
theorem RowD.form {w : World} {v : Value} {ks : List Int} (h : RowD w v ks) : ∃ sa cap, v = .slice sa ks.length cap ∧ ks.length ≤ cap := by
  rcases h with ⟨rfl, rfl⟩ | ⟨g, cap, cur, rfl, h1, -⟩
  · exact ⟨none, 0, rfl, Nat.le_refl _⟩
  · exact ⟨_, cap, rfl, h1⟩
theorem RowD.cell {w : World} {sa : Option Addr} {n cap : Nat} {ks : List Int} (h : RowD w (.slice sa n cap) ks) {i : Nat} {k : Int} (hi : ks[i]? = some k) : ∃ g, sa = some ⟨g, 0, none⟩ ∧ w.cell? ⟨g, i, none⟩ = some (.int .i64 k) := by
  rcases h with ⟨-, rfl⟩ | ⟨g, cap', cur, e, h1, h2, h3⟩
  · simp at hi
  · obtain ⟨e1, -, -⟩ := Value.slice.inj e
    refine ⟨g, e1, ?_⟩
    rw [cell_of_row _ _ _ _ _ _ h2]
    exact h3 i k hi
theorem RowD.at' {w w' : World} {v : Value} {ks : List Int} (h : RowD w v ks) (hk : ∀ g c, w.heap[g]? = some (.cells c 3 (0, 0)) → v.ownBlock = some g → w'.heap[g]? = w.heap[g]?) : RowD w' v ks := by
  rcases h with h | ⟨g, cap, cur, rfl, h1, h2, h3⟩
  · exact .inl h
  · exact .inr ⟨g, cap, cur, rfl, h1, (hk g cur h2 rfl).trans h2, h3⟩
theorem RowD.lt {w : World} {v : Value} {ks : List Int} (h : RowD w v ks) {g : Nat} (hg : v.ownBlock = some g) : g < w.heap.size := by
  rcases h with ⟨rfl, -⟩ | ⟨g', cap, cur, rfl, h1, h2, h3⟩
  · simp [Value.ownBlock] at hg
  · have : g' = g := by simpa [Value.ownBlock] using hg
    subst this
    exact (Array.getElem?_eq_some_iff.1 h2).1
theorem RowD.of {w : World} {B : Nat} {v : Value} {ks : List Int} (h : w.ownsRow B 3 1 v ks.length (ks.map iV)) : RowD w v ks := by
  rcases h.2 with ⟨h1, h2⟩ | ⟨g, cap, cur, h1, h2, h3, h4, h5, h6, h7⟩
  · exact .inl ⟨h1, List.eq_nil_of_length_eq_zero h2⟩
  · refine .inr ⟨g, cap, cur, h1, h4, h3, fun i k hi => ?_⟩
    have hlt := (List.getElem?_eq_some_iff.1 hi).1
    have e : (cur.toList.take (ks.length * 1))[i]? = some (iV k) := by rw [h7, List.getElem?_map, hi]; rfl
    rw [List.getElem?_take, if_pos (by omega)] at e
    rw [← Array.getElem?_toList]
    exact e
variable {w w1 w2 : World} {L M : Nat} {F : Nat → Prop} {most : Int} {es : List It}
/-- No row of ints is of the list's blocks. -/
theorem LR.noRow (h : LR w L M F most es) {g : Nat} {c : Array Value} (hg : w.heap[g]? = some (.cells c 3 (0, 0))) : ¬ F g := by
  obtain ⟨⟨l, h1, h2, h3⟩, -⟩ := h
  intro e
  rcases (h3 g).1 e with rfl | rfl | ⟨n, hn, rfl⟩
  · obtain ⟨cs, k, -⟩ := h1.bk
    rw [hg] at k
    cases k
  · obtain ⟨es, cc, k, -⟩ := h1.mp
    unfold MapAt at k
    rw [hg] at k
    cases k
  · obtain ⟨cs, k, -⟩ := (h1.nb n hn).1
    rw [hg] at k
    cases k
/-- Between calls: the list, and two rows. -/
def LT (w wr : World) (L : Nat) (most : Int) (es : List It) (kv : Value) (ks : List Int) (vv : Value) (vs : List Int) : Prop := ∃ M F, LR wr L M F most es ∧ (∀ q, F q → w.heap.size ≤ q) ∧ Below w.heap.size w wr ∧ RowD wr kv ks ∧ RowD wr vv vs
variable {kv vv : Value} {ks vs : List Int}
theorem LT.below (h : LT w w1 L most es kv ks vv vs) : Below w.heap.size w w1 := by
  obtain ⟨M, F, h1, h2, h3, h4, h5⟩ := h
  exact h3
theorem LT.newer (h : LT w w1 L most es kv ks vv vs) (hb : Below w1.heap.size w1 w2) : LT w w2 L most es kv ks vv vs := by
  obtain ⟨M, F, h1, h2, h3, h4, h5⟩ := h
  exact ⟨M, F, h1.newer hb, h2, h3.trans (hb.mono h3.size), h4.at' fun g c hc hg => hb.block g (h4.lt hg), h5.at' fun g c hc hg => hb.block g (h5.lt hg)⟩
theorem LT.fr {F' : Nat → Prop} {es' : List It} (h1 : LR w1 L M F most es) (h2 : ∀ q, F q → w.heap.size ≤ q) (h3 : Below w.heap.size w w1) (h4 : RowD w1 kv ks) (h5 : RowD w1 vv vs) (k1 : LR w2 L M F' most es') (k2 : Fr F F' w1 w2) : LT w w2 L most es' kv ks vv vs :=
  ⟨M, F', k1, k2.low h2 h3.size, h3.trans (k2.below h2 h3.size), h4.at' fun g c hc hg => k2.block g (h4.lt hg) (h1.noRow hc), h5.at' fun g c hc hg => k2.block g (h5.lt hg) (h1.noRow hc)⟩
theorem LT.get (h : LT w w1 L most es kv ks vv vs) (k : Int) : Calls Try.prog 10 #[.pointer (some ⟨L, 0, none⟩), .int .i64 k] w1 fun e w2 => e = .returned (gtV (lkE k es)) ∧ Hid (LT w w2 L most (getE k es) kv ks vv vs) := by
  obtain ⟨M, F, h1, h2, h3, h4, h5⟩ := h
  refine (h1.get k).mono ?_
  rintro e w2 ⟨rfl, F', k1, k2⟩
  exact ⟨rfl, LT.fr h1 h2 h3 h4 h5 k1 k2⟩
theorem LT.del (h : LT w w1 L most es kv ks vv vs) (hb : (es.length : Int) ≤ 100000) (k : Int) : Calls Try.prog 11 #[.pointer (some ⟨L, 0, none⟩), .int .i64 k] w1 fun e w2 => e = .returned (.bool (lkE k es).isSome) ∧ Hid (LT w w2 L most (outE k es) kv ks vv vs) := by
  obtain ⟨M, F, h1, h2, h3, h4, h5⟩ := h
  refine (h1.del k hb).mono ?_
  rintro e w2 ⟨rfl, F', k1, k2⟩
  exact ⟨rfl, LT.fr h1 h2 h3 h4 h5 k1 k2⟩
theorem LT.put (h : LT w w1 L most es kv ks vv vs) (hb : (es.length : Int) ≤ 100000) (k v : Int) : Calls Try.prog 12 #[.pointer (some ⟨L, 0, none⟩), .int .i64 k, .int .i64 v] w1 fun e w2 => e = .returned (.tuple #[.int .i64 (putE most ⟨k, v⟩ es).1, .bool (putE most ⟨k, v⟩ es).2.1]) ∧ Hid (LT w w2 L most (putE most ⟨k, v⟩ es).2.2 kv ks vv vs) := by
  obtain ⟨M, F, h1, h2, h3, h4, h5⟩ := h
  refine (h1.put k v hb).mono ?_
  rintro e w2 ⟨rfl, F', k1, k2⟩
  exact ⟨rfl, LT.fr h1 h2 h3 h4 h5 k1 k2⟩
theorem LT.len (h : LT w w1 L most es kv ks vv vs) : Calls Try.prog 14 #[.pointer (some ⟨L, 0, none⟩)] w1 fun e w2 => e = .returned (.int .i64 (es.length : Int)) ∧ w2 = w1 := by
  obtain ⟨M, F, h1, h2, h3, h4, h5⟩ := h
  exact h1.len
theorem LT.keys (h : LT w w1 L most es kv ks vv vs) (hb : (es.length : Int) ≤ 100000) : Calls Try.prog 13 #[.pointer (some ⟨L, 0, none⟩)] w1 fun e w2 => ∃ v, e = .returned v ∧ Hid (LT w w2 L most es kv ks vv vs ∧ RowK w2 w1.heap.size v (es.map It.key)) := by
  have hh := h
  obtain ⟨M, F, h1, h2, h3, h4, h5⟩ := h
  refine (h1.keys hb).mono ?_
  rintro e w2 ⟨v, rfl, k1, k2⟩
  exact ⟨v, rfl, hh.newer k2, k1⟩
/-- Two rows are being made beside. -/
structure LU (w wr : World) (L : Nat) (most : Int) (es : List It) (kv : Value) (ks : List Int) (vv : Value) (vs : List Int) (B : Nat) (a : Value) (xa : List Int) (b : Value) (xb : List Int) : Prop where
  t : LT w wr L most es kv ks vv vs
  base : B ≤ wr.heap.size
  wB : w.heap.size ≤ B
  ra : wr.ownsRow B 3 1 a xa.length (xa.map iV)
  rb : wr.ownsRow B 3 1 b xb.length (xb.map iV)
  ap : ∀ q, a.ownBlock = some q → b.ownBlock ≠ some q
  kB : ∀ q, kv.ownBlock = some q → q < B
  vB : ∀ q, vv.ownBlock = some q → q < B
variable {B : Nat} {a b : Value} {xa xb : List Int}
theorem LU.start (h : LT w w1 L most es kv ks vv vs) : LU w w1 L most es kv ks vv vs w1.heap.size (.slice none 0 0) [] (.slice none 0 0) [] := by
  have hh := h
  obtain ⟨M, F, h1, h2, h3, h4, h5⟩ := h
  exact ⟨hh, Nat.le_refl _, h3.size, World.ownsRow_nil _ _ _ _, World.ownsRow_nil _ _ _ _, fun q hq => by simp [Value.ownBlock] at hq, fun q hq => h4.lt hq, fun q hq => h5.lt hq⟩
theorem LU.newer (h : LU w w1 L most es kv ks vv vs B a xa b xb) (hb : Below w1.heap.size w1 w2) : LU w w2 L most es kv ks vv vs B a xa b xb :=
  ⟨h.t.newer hb, by have := h.base; have := hb.size; omega, h.wB, own_at h.ra fun q hq => hb.block q (h.ra.lt q hq).2, own_at h.rb fun q hq => hb.block q (h.rb.lt q hq).2, h.ap, h.kB, h.vB⟩
theorem LU.swap (h : LU w w1 L most es kv ks vv vs B a xa b xb) : LU w w1 L most es kv ks vv vs B b xb a xa := ⟨h.t, h.base, h.wB, h.rb, h.ra, fun q hq e => h.ap q e hq, h.kB, h.vB⟩
/-- One is put behind the first. -/
theorem LU.app (h : LU w w1 L most es kv ks vv vs B a xa b xb) {a' : Value} {x : Int} (ho : w2.ownsRow B 3 1 a' (xa.length + 1) (xa.map iV ++ [.int .i64 x])) (hg : w1.grownBy w2 a.ownBlock) (hat : a'.ownBlock = a.ownBlock ∨ a'.ownBlock = some w1.heap.size) : LU w w2 L most es kv ks vv vs B a' (xa ++ [x]) b xb := by
  have hbelow : Below B w1 w2 := grown_below hg h.ra h.base
  obtain ⟨M, F, h1, h2, h3, h4, h5⟩ := h.t
  have hnew : ∀ q, q < w1.heap.size → a.ownBlock ≠ some q → w2.heap[q]? = w1.heap[q]? := fun q hq hn => hg.block q hq fun e => hn e.symm
  have hF : ∀ q, F q → w2.heap[q]? = w1.heap[q]? := fun q hq => hnew q (h1.lt q hq) fun e => by
    obtain ⟨c, hc⟩ := own_tag h.ra e
    exact h1.noRow hc hq
  refine ⟨⟨M, F, h1.at' hF, h2, h3.trans (hbelow.mono h.wB), h4.at' fun g c hc hg' => hbelow.block g (h.kB g hg'), h5.at' fun g c hc hg' => hbelow.block g (h.vB g hg')⟩, by have := h.base; have := hg.size; omega, h.wB, ?_, own_at h.rb fun q hq => hnew q (h.rb.lt q hq).2 fun e => h.ap q e hq, fun q hq e => ?_, h.kB, h.vB⟩
  · rw [List.length_append, List.map_append]
    exact ho
  · rcases hat with e2 | e2
    · rw [e2] at hq
      exact h.ap q hq e
    · rw [e2] at hq
      have := (h.rb.lt q e).2
      have : w1.heap.size = q := by simpa using hq
      omega
end Go.Proofs.Ytbcdaddbcjagjaa.I
