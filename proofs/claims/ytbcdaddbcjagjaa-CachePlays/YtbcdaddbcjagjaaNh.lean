/- A list by keys against a plain list; Get, Del, Len. -/
import Derived.Test.YtbcdaddbcjagjaaNg
namespace Go.Proofs.Ytbcdaddbcjagjaa
open Go.RowKit
set_option linter.unusedVariables false
set_option linter.unusedSimpArgs false

/-- A thing: its key, what it hangs on, its text. -/
structure It where
  key : List UInt8
  st : List UInt8
  te : List UInt8
def ct (n : Nod) : It := ⟨n.key, n.st, n.te⟩
def lkE (k : List UInt8) : List It → Option It
  | [] => none
  | x :: r => if k = x.key then some x else lkE k r
def outE (k : List UInt8) : List It → List It
  | [] => []
  | x :: r => if k = x.key then r else x :: outE k r
def getE (k : List UInt8) (es : List It) : List It := match lkE k es with | some x => x :: outE k es | none => es
theorem lkE_none : ∀ {es : List It} {k : List UInt8}, lkE k es = none ↔ k ∉ es.map It.key
  | [], k => by simp [lkE]
  | x :: r, k => by
    unfold lkE
    by_cases e : k = x.key
    · simp [e]
    · rw [if_neg e, lkE_none (es := r)]
      simp [e]
theorem lkE_mid : ∀ {a b : List It} {x : It}, (∀ y ∈ a, x.key ≠ y.key) → lkE x.key (a ++ x :: b) = some x ∧ outE x.key (a ++ x :: b) = a ++ b
  | [], b, x, h => by simp [lkE, outE]
  | y :: a, b, x, h => by
    have h1 := h y (by simp)
    have h2 := lkE_mid (a := a) (b := b) (x := x) fun z hz => h z (by simp [hz])
    simp [lkE, outE, h1, h2.1, h2.2]
theorem lkE_some : ∀ {es : List It} {k : List UInt8} {x : It}, lkE k es = some x → x.key = k ∧ ∃ a b, es = a ++ x :: b ∧ ∀ y ∈ a, x.key ≠ y.key
  | [], k, x, h => by simp [lkE] at h
  | y :: r, k, x, h => by
    unfold lkE at h
    split at h
    · rename_i e
      obtain rfl := Option.some.inj h
      exact ⟨e.symm, [], r, rfl, by simp⟩
    · rename_i e
      obtain ⟨h1, a, b, h2, h3⟩ := lkE_some h
      refine ⟨h1, y :: a, b, by rw [h2]; rfl, fun z hz => ?_⟩
      rcases List.mem_cons.1 hz with rfl | hz
      · rw [h1]; exact e
      · exact h3 z hz
theorem outE_none : ∀ {es : List It} {k : List UInt8}, k ∉ es.map It.key → outE k es = es
  | [], k, h => rfl
  | x :: r, k, h => by
    simp at h
    unfold outE
    rw [if_neg h.1, outE_none (es := r) (by simpa using h.2)]
def mlO (l : List Nod) : List (List UInt8 × Nat) := l.map fun n => (n.key, n.N)
/-- A list by keys, between calls. -/
structure LR (w : World) (L M : Nat) (F : Nat → Prop) (most : Int) (es : List It) : Prop where
  ex : ∃ l, LX w L M most (l.length : Int) l l (mlO l) ∧ es = l.map ct ∧ ∀ q, F q ↔ LF L M l q
  ks : (es.map It.key).Nodup
  m1 : 1 ≤ most
  m2 : most ≤ 1000
  le : (es.length : Int) ≤ most
variable {w w' : World} {L M : Nat} {F : Nat → Prop} {most : Int} {es : List It}
theorem mlO_fst (l : List Nod) : (mlO l).map Prod.fst = (l.map ct).map It.key := by
  unfold mlO
  rw [List.map_map, List.map_map]
  rfl
theorem LR.at' (h : LR w L M F most es) (hk : ∀ q, F q → w'.heap[q]? = w.heap[q]?) : LR w' L M F most es := by
  obtain ⟨⟨l, h1, h2, h3⟩, h4, h5, h6, h7⟩ := h
  exact ⟨⟨l, h1.at' fun q hq => hk q ((h3 q).2 hq), h2, h3⟩, h4, h5, h6, h7⟩
theorem LR.lt (h : LR w L M F most es) : ∀ q, F q → q < w.heap.size := by
  obtain ⟨⟨l, h1, h2, h3⟩, h4, h5, h6, h7⟩ := h
  exact fun q hq => h1.lt q ((h3 q).1 hq)
theorem LR.newer (h : LR w L M F most es) (hb : Below w.heap.size w w') : LR w' L M F most es := h.at' fun q hq => hb.block q (h.lt q hq)
/-- Where a key stands. -/
theorem mid_of {l : List Nod} (hk : ((l.map ct).map It.key).Nodup) {k : List UInt8} {x : It} (h : lkE k (l.map ct) = some x) : ∃ a n b, l = a ++ n :: b ∧ ct n = x ∧ n.key = k ∧ outE k (l.map ct) = (a ++ b).map ct ∧ lkM k (mlO l) = some n.N := by
  obtain ⟨h1, A, B, h2, h3⟩ := lkE_some h
  obtain ⟨a, l2, rfl, ha, hb⟩ := List.map_eq_append_iff.1 h2
  obtain ⟨n, b, rfl, hn, hb'⟩ := List.map_eq_cons_iff.1 hb
  have hkey : n.key = k := by rw [← h1, ← hn]; rfl
  refine ⟨a, n, b, rfl, hn, hkey, ?_, ?_⟩
  · have := (lkE_mid (a := A) (b := B) (x := x) h3).2
    rw [h2, ← h1, this, List.map_append, ha, hb']
  · refine lkM_of (by rw [mlO_fst]; exact hk) ?_
    unfold mlO
    exact List.mem_map.2 ⟨n, by simp, by rw [hkey]⟩
theorem none_of {l : List Nod} {k : List UInt8} (h : lkE k (l.map ct) = none) : lkM k (mlO l) = none := by
  rw [lkM_none, mlO_fst]
  exact lkE_none.1 h
theorem nd_mid {α : Type} {a b : List α} {n : α} (h : (a ++ n :: b).Nodup) : n ∉ a ++ b := by
  rw [List.nodup_append] at h
  intro e
  rcases List.mem_append.1 e with e | e
  · exact h.2.2 n e n List.mem_cons_self rfl
  · exact (List.nodup_cons.1 h.2.1).1 e
theorem mid_perm {α : Type} (a b : List α) (n : α) : (a ++ n :: b).Perm (n :: (a ++ b)) := List.perm_middle
theorem len_nil (w : World) : Calls Try.prog 35 #[.pointer none] w fun e w' => e = .returned (.int .i64 0) ∧ w' = w := by
  go_enter Try.func35, Try.ntmps35
  go_wp2
  go_ret
  exact ⟨rfl, rfl⟩
theorem LR.len (h : LR w L M F most es) : Calls Try.prog 35 #[.pointer (some ⟨L, 0, none⟩)] w fun e w' => e = .returned (.int .i64 (es.length : Int)) ∧ w' = w := by
  obtain ⟨⟨l, h1, h2, h3⟩, h4, h5, h6, h7⟩ := h
  have c1 := h1.c1
  have he : es.length = l.length := by rw [h2]; simp
  rw [he]
  clear h1 h2 h3 h4 h5 h6 h7 he
  generalize (l.length : Int) = c at *
  go_enter Try.func35, Try.ntmps35
  go_wp2
  go_ret
  exact ⟨rfl, rfl⟩
theorem find_nil (s : List UInt8) (w : World) : Calls Try.prog 48 #[.pointer none, .string (tx s)] w fun e w' => e = .returned (.pointer none) ∧ w' = w := by
  have HN : Hid (Calls Try.prog 47 #[.pointer none] w fun e w' => e = .returned (.bool true) ∧ w' = w) := none_nil w
  go_enter Try.func48, Try.ntmps48
  go_wp2_with (go_at_call 47; refine HN.out.mono ?_; rintro e w1 ⟨rfl, hw1⟩; rw [hw1]; clear hw1)
  go_ret
  exact ⟨rfl, rfl⟩
theorem del_nil (s : List UInt8) (w : World) : Calls Try.prog 53 #[.pointer none, .string (tx s)] w fun e w' => e = .returned (.bool false) ∧ w' = w := by
  have HN : Hid (Calls Try.prog 48 #[.pointer none, .string (tx s)] w fun e w' => e = .returned (.pointer none) ∧ w' = w) := find_nil s w
  go_enter Try.func53, Try.ntmps53
  go_wp2_with (go_at_call 48; refine HN.out.mono ?_; rintro e w1 ⟨rfl, hw1⟩; rw [hw1]; clear hw1)
  go_ret
  exact ⟨rfl, rfl⟩
theorem results_two {P : Program} {fn : Func} {p q : Tmp} {ty : TypeId} (h : fn.results = #[.cell p ty, .tmp q]) (tmps : Array Value) (w : World) (g : Nat) (cs : Array Value) (v : Value)
    (hp : tmps.getD p undef = .pointer (some ⟨g, 0, none⟩)) (hq : tmps.getD q undef = v) (hl : (loadVar ty ⟨g, 0, none⟩).run P w = .ok (.agg cs) w) :
    (results fn tmps).run P w = .ok (.tuple #[.agg cs, v]) w := by
  have hp' : tmps[p]?.getD undef = .pointer (some ⟨g, 0, none⟩) := by simpa using hp
  have hq' : tmps[q]?.getD undef = v := by simpa using hq
  simp [results, h, hp', hq', asAddr, hl]
theorem load76 {W : World} {g : Nat} {cs : Array Value} (h : W.heap[g]? = some (.cells cs 76 (0, 0))) (hs : cs.size = 2) : (loadVar 76 ⟨g, 0, none⟩).run Try.prog W = .ok (.agg cs) W :=
  run_loadVar_row W g 76 76 cs (0, 0) _ h Try.underlying76 rfl (by rw [hs]; kernel_rfl)
/-- The model's answer of Get. -/
def gtV (o : Option It) : Value := match o with | some x => .tuple #[.agg #[.string (tx x.st), .string (tx x.te)], .bool true] | none => .tuple #[.agg #[.string { data := #[] }, .string { data := #[] }], .bool false]
theorem get_nil (s : List UInt8) (w : World) : Calls Try.prog 40 #[.pointer none, .string (tx s)] w fun e w' => e = .returned (gtV none) ∧ Below w.heap.size w w' := by
  have HN : Hid (∀ V, Calls Try.prog 48 #[.pointer none, .string (tx s)] V fun e w' => e = .returned (.pointer none) ∧ w' = V) := fun V => find_nil s V
  go_enter Try.func40, Try.ntmps40
  go_wp2_with (go_at_call 48; refine (HN.out _).mono ?_; rintro e w1 ⟨rfl, hw1⟩; rw [hw1]; clear hw1)
  refine bodyPost_ret (v := gtV none) (results_two Try.results40 _ _ w.heap.size #[.string { data := #[] }, .string { data := #[] }] _ rfl rfl (load76 ?_ rfl)) rfl ⟨rfl, ?_⟩
  · rw [Below.heap_alloc _ _ _ (by simp)]
    exact heap_alloc_new _ _
  · exact ((bel1' w _).alloc (by simp) _)
end Go.Proofs.Ytbcdaddbcjagjaa
