/- CacheLists: what a step makes of the list; between steps. -/
import Derived.Test.YtbcdaddbcjagjaaJc
namespace Go.Proofs.Ytbcdaddbcjagjaa.I
open Go.RowKit
set_option linter.unusedVariables false
set_option linter.unusedSimpArgs false

/-- What a step of the three kinds makes of the list, ahead of Put. -/
def stE (g d : Bool) (k : Int) (es : List It) : List It := if g then getE k es else if d then outE k es else es
/-- The value that the law keeps. -/
def stV (g d : Bool) (k i : Int) (es : List It) : Int := if g then ((lkE k es).map It.v).getD 0 else if d then ((lkE k es).map It.v).getD 0 else i
/-- What the law puts ahead. -/
def stP (g d : Bool) (k i : Int) (es : List It) : List It := if g then (if (lkE k es).isSome then [⟨k, stV g d k i es⟩] else []) else if d then [] else [⟨k, i⟩]
/-- The law's own list, ahead of what goes. -/
def stL (g d : Bool) (k i : Int) (es : List It) : List It := stP g d k i es ++ outE k es
theorem stL_get {d : Bool} {k i : Int} {es : List It} : stL true d k i es = getE k es := by
  unfold stL stP stV getE
  rw [if_pos rfl, if_pos rfl]
  cases hl : lkE k es with
  | none => simp [outE_none (lkE_none.1 hl)]
  | some x =>
    have := (lkE_some hl).1
    simp
    rw [← this]
theorem stL_del {k i : Int} {es : List It} : stL false true k i es = outE k es := by
  unfold stL stP
  rw [if_neg (by decide), if_pos rfl]
  rfl
theorem stL_put {k i : Int} {es : List It} : stL false false k i es = ⟨k, i⟩ :: outE k es := by
  unfold stL stP
  rw [if_neg (by decide), if_neg (by decide)]
  rfl
theorem stL_len (g d : Bool) (k i : Int) (es : List It) : (stL g d k i es).length ≤ (outE k es).length + 1 := by
  unfold stL stP
  rw [List.length_append]
  split
  · split <;> simp <;> omega
  · split <;> simp <;> omega
theorem put_last {most : Int} {x : It} {es : List It} (hle : ((outE x.key es).length : Int) ≤ most) (h1 : 1 ≤ most) :
    (((x :: outE x.key es).length : Int) ≤ most ∧ putE most x es = (0, false, x :: outE x.key es)) ∨ (most < ((x :: outE x.key es).length : Int) ∧ ∃ (m : Nat) (y : It), (m : Int) = most ∧ (x :: outE x.key es).length = m + 1 ∧ (x :: outE x.key es)[m]? = some y ∧ putE most x es = (y.key, true, (x :: outE x.key es).take m)) := by
  by_cases c : ((x :: outE x.key es).length : Int) ≤ most
  · left
    refine ⟨c, ?_⟩
    unfold putE
    rw [if_pos c]
  · right
    have hm : (x :: outE x.key es).length = most.toNat + 1 := by simp at c ⊢; omega
    obtain ⟨y, hy⟩ : ∃ y, (x :: outE x.key es)[most.toNat]? = some y := ⟨_, List.getElem?_eq_getElem (by omega)⟩
    refine ⟨by omega, most.toNat, y, by omega, hm, hy, ?_⟩
    unfold putE
    rw [if_neg c]
    have hl : (x :: outE x.key es).getLast? = some y := by rw [List.getLast?_eq_getElem?, hm]; exact hy
    rw [hl, List.dropLast_eq_take, hm]
    rfl
variable {w wr w1 w2 : World} {L : Nat} {most : Int} {es : List It} {kv vv : Value} {ks vs : List Int}
theorem LT.keysOk (h : LT w wr L most es kv ks vv vs) : (es.map It.key).Nodup ∧ 1 ≤ most ∧ (es.length : Int) ≤ most := by
  obtain ⟨M, F, h1, h2, h3, h4, h5⟩ := h
  exact ⟨h1.ks, h1.m1, h1.le⟩
theorem LT.rows (h : LT w wr L most es kv ks vv vs) : RowD wr kv ks ∧ RowD wr vv vs := by
  obtain ⟨M, F, h1, h2, h3, h4, h5⟩ := h
  exact ⟨h4, h5⟩
/-- Between steps. -/
def LZ (w wx : World) (L : Nat) (most : Int) (es : List It) (kv vv : Value) : Prop := LT w wx L most es kv (es.map It.key) vv (es.map It.v)
/-- The two rows are handed on. -/
theorem LU.fin {kv' vv' a b : Value} {ks' vs' xa xb : List Int} {B : Nat} (h : LU w wr L most es kv' ks' vv' vs' B a xa b xb) : LT w wr L most es a xa b xb := by
  obtain ⟨M, F, h1, h2, h3, h4, h5⟩ := h.t
  exact ⟨M, F, h1, h2, h3, RowD.of h.ra, RowD.of h.rb⟩
theorem RowD.take {ks : List Int} {sa : Option Addr} {n cap m : Nat} (h : RowD w (.slice sa n cap) ks) (hm : m ≤ n) (h0 : 0 < m) : RowD w (.slice sa m cap) (ks.take m) := by
  rcases h with ⟨h1, h2⟩ | ⟨g, cap', cur, h1, h2, h3, h4⟩
  · simp at h1; omega
  · obtain ⟨e1, e2, e3⟩ := Value.slice.inj h1
    refine .inr ⟨g, cap, cur, ?_, ?_, h3, fun i k hi => h4 i k ?_⟩
    · rw [e1, List.length_take, Nat.min_eq_left (by omega)]
    · rw [List.length_take]; omega
    · rw [List.getElem?_take] at hi
      split at hi
      · exact hi
      · cases hi
theorem LT.take {s1 s2 : Option Addr} {n c1 c2 m : Nat} (h : LT w wr L most es (.slice s1 n c1) ks (.slice s2 n c2) vs) (hm : m ≤ n) (h0 : 0 < m) : LT w wr L most es (.slice s1 m c1) (ks.take m) (.slice s2 m c2) (vs.take m) := by
  obtain ⟨M, F, h1, h2, h3, h4, h5⟩ := h
  exact ⟨M, F, h1, h2, h3, h4.take hm h0, h5.take hm h0⟩
/-- All that Keys told from a place on. -/
def RowJ (w : World) (v : Value) (base : Nat) (ks : List Int) (j : Nat) : Prop := ∃ (g : Nat) (cur : Array Value), v = .slice (some ⟨g, 0, none⟩) ks.length ks.length ∧ base ≤ g ∧ w.heap[g]? = some (.cells cur 3 (0, 0)) ∧ ks.length ≤ cur.size ∧ ∀ (i : Nat) (k : Int), j ≤ i → ks[i]? = some k → cur[i]? = some (iV k)
theorem RowJ.of {v : Value} {base : Nat} {ks : List Int} (h : RowK w base v ks) : (v = .slice none 0 0 ∧ ks = []) ∨ RowJ w v base ks 0 := by
  rcases h with h | ⟨g, cur, h1, h2, h3, h4, h5⟩
  · exact .inl h
  · refine .inr ⟨g, cur, h1, h2, h3, h4, fun i k _ hi => ?_⟩
    have hlt := (List.getElem?_eq_some_iff.1 hi).1
    have e : (cur.toList.take ks.length)[i]? = some (iV k) := by rw [h5, List.getElem?_map, hi]; rfl
    rw [List.getElem?_take, if_pos hlt] at e
    rw [← Array.getElem?_toList]
    exact e
theorem RowJ.form {v : Value} {base : Nat} {ks : List Int} {j : Nat} (h : RowJ w v base ks j) : ∃ g, v = .slice (some ⟨g, 0, none⟩) ks.length ks.length := by
  obtain ⟨g, cur, h1, -⟩ := h
  exact ⟨g, h1⟩
theorem RowJ.cell {g n : Nat} {base : Nat} {ks : List Int} {j : Nat} {k : Int} (h : RowJ w (.slice (some ⟨g, 0, none⟩) n n) base ks j) (hk : ks[j]? = some k) : w.cell? ⟨g, j, none⟩ = some (.int .i64 k) ∧ w.frozen? ⟨g, j, none⟩ = false ∧ base ≤ g := by
  obtain ⟨g', cur, h1, h2, h3, h4, h5⟩ := h
  obtain ⟨e1, -, -⟩ := Value.slice.inj h1
  obtain rfl : g = g' := by simpa using e1
  refine ⟨?_, by simp [World.frozen?, h3], h2⟩
  rw [cell_of_row _ _ _ _ _ _ h3]
  exact h5 j k (Nat.le_refl _) hk
theorem RowJ.spoil {g n : Nat} {base : Nat} {ks : List Int} {j : Nat} (h : RowJ w (.slice (some ⟨g, 0, none⟩) n n) base ks j) (v : Value) : RowJ (w.setCell ⟨g, j, none⟩ v) (.slice (some ⟨g, 0, none⟩) n n) base ks (j + 1) := by
  obtain ⟨g', cur, h1, h2, h3, h4, h5⟩ := h
  obtain ⟨e1, -, -⟩ := Value.slice.inj h1
  obtain rfl : g = g' := by simpa using e1
  refine ⟨g, cur.setIfInBounds j v, h1, h2, row_set _ h3, by simpa using h4, fun i k hi hk => ?_⟩
  rw [Array.getElem?_setIfInBounds, if_neg (by omega)]
  exact h5 i k (by omega) hk
theorem RowJ.newer {v : Value} {base : Nat} {ks : List Int} {j : Nat} (h : RowJ w v base ks j) (hk : ∀ q, q < w.heap.size → w2.heap[q]? = w.heap[q]?) : RowJ w2 v base ks j := by
  obtain ⟨g, cur, h1, h2, h3, h4, h5⟩ := h
  exact ⟨g, cur, h1, h2, (hk g (Array.getElem?_eq_some_iff.1 h3).1).trans h3, h4, h5⟩
theorem i0_ex : ∃ i, Try.prog.info? 3 = some i ∧ i.zero = some (.int .i64 0) ∧ i.size = 1 ∧ i.bytes = 8 := by
  obtain ⟨i0, hi⟩ : ∃ i, Try.prog.info? 3 = some i := Option.isSome_iff_exists.1 (by kernel_rfl)
  refine ⟨i0, hi, ?_, ?_, ?_⟩
  · have h2 : (Try.prog.info? 3).map (·.zero) = some (some (.int .i64 0)) := by kernel_rfl
    rw [hi] at h2
    simpa using h2
  · have h2 : (Try.prog.info? 3).map (·.size) = some 1 := by kernel_rfl
    rw [hi] at h2
    simpa using h2
  · have h2 : (Try.prog.info? 3).map (·.bytes) = some 8 := by kernel_rfl
    rw [hi] at h2
    simpa using h2
/-- One is put behind the first row, in the walk. -/
theorem LU.wpApp {B : Nat} {a b : Value} {xa xb : List Int} (h : LU w w1 L most es kv ks vv vs B a xa b xb) {x : Int} (hlen : (xa.length : Int) ≤ 100000) {ops : Array Oper} {rest : List Oper} {o : Oper} {ac : Act} {Q : Exit → Act → World → Prop} (hgd : o.guard = none) (s t : Operand)
    (ho : o.op = .call { callee := .builtin .append, args := #[s, t], argTypes := #[22, 22] }) (hs : ac.eval s = a) (ht : ac.eval t = .slice (some ⟨w1.heap.size, 0, none⟩) 1 1)
    (k : ∀ s' n' c' w2, Hid (LU w w2 L most es kv ks vv vs B (.slice s' n' c') (xa ++ [x]) b xb) → wpList Try.prog ops Q rest (ac.put o.dst (.slice s' n' c')) w2) :
    wpList Try.prog ops Q (o :: rest) ac (w1.alloc (.cells #[.int .i64 x] 3)) := by
  obtain ⟨i0, hi, hz0, hz1, hz2⟩ := i0_ex
  have h2 := h.newer (bel1' w1 (.cells #[.int .i64 x] 3))
  refine wpList_append_own_at _ hgd s t 22 ho B 3 i0 (.int .i64 0) 1 8 under22 hi hz0 hz1 hz2 rfl (by decide) a xa.length (xa.map iV) hs h2.ra ⟨w1.heap.size, 0, none⟩ 1 1 [.int .i64 x] ht rfl (World.news_of_block (Go.heap_alloc_new _ _)) (by simp [Value.oneCell']) (by unfold maxLen; omega) (by omega) h2.base ?_
  intro v' w2 ho' hg' _ hat
  have h3 := h2.app ho' hg' hat
  obtain ⟨s', c', rfl⟩ := own_slice ho'
  exact k s' _ c' w2 h3
theorem LT.keys2 (h : LT w w1 L most es kv ks vv vs) (hb : (es.length : Int) ≤ 100000) : Calls Try.prog 13 #[.pointer (some ⟨L, 0, none⟩)] w1 fun e w2 => ∃ v, e = .returned v ∧ Hid (RowK w2 w1.heap.size v (es.map It.key) ∧ Below w1.heap.size w1 w2) := by
  obtain ⟨M, F, h1, h2, h3, h4, h5⟩ := h
  refine (h1.keys hb).mono ?_
  rintro e w2 ⟨v, rfl, k1, k2⟩
  exact ⟨v, rfl, k1, k2⟩
end Go.Proofs.Ytbcdaddbcjagjaa.I
