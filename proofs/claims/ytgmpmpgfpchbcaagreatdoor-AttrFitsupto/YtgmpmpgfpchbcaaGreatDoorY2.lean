/- Rows of matchers: their cells, compared, cleared. -/
import Derived.Test.YtgmpmpgfpchbcaaGreatDoorY1
namespace Go.Proofs.YtgmpmpgfpchbcaaGreatDoor
open Go.RowKit Go.Shelf
set_option linter.unusedVariables false
set_option linter.unusedSimpArgs false

theorem row_setM {w : World} {b i : Nat} {c : Array Value} {t : TypeId} {f : Nat × Nat} (v : Value) (h : w.heap[b]? = some (.cells c t f)) : (w.setCell ⟨b, i, none⟩ v).heap[b]? = some (.cells (c.setIfInBounds i v) t f) := by
  simp [World.setCell, Array.getElem?_modify, h]
theorem own_setM {w : World} {base e size g n cap i : Nat} {xs : List Value} (h : w.ownsRow base e size (.slice (some ⟨g, 0, none⟩) n cap) n xs) (hi : i < xs.length) (v : Value) : (w.setCell ⟨g, i, none⟩ v).ownsRow base e size (.slice (some ⟨g, 0, none⟩) n cap) n (xs.set i v) := by
  refine ⟨by rw [List.length_set]; exact h.1, .inr ?_⟩
  rcases h.2 with ⟨h', _⟩ | ⟨g', cp', cur, hv, hb, hc, h3, h4, h5, h6⟩
  · cases h'
  · cases hv
    refine ⟨g, cap, cur.setIfInBounds i v, rfl, hb, row_setM _ hc, h3, h4, by simpa using h5, ?_⟩
    rw [Array.toList_setIfInBounds, ← h6, List.take_set]
theorem own_formM {w : World} {base size n : Nat} {e : TypeId} {v : Value} {xs : List Value} (h : w.ownsRow base e size v n xs) (hn : 0 < n) : ∃ g cap, v = .slice (some ⟨g, 0, none⟩) n cap := by
  rcases h.2 with ⟨_, h'⟩ | ⟨g, cp, cur, hv, _⟩
  · omega
  · exact ⟨g, cp, hv⟩
theorem own_capM {w : World} {base size n n' g cap : Nat} {e : TypeId} {xs : List Value} (h : w.ownsRow base e size (.slice (some ⟨g, 0, none⟩) n' cap) n xs) : n ≤ cap := by
  rcases h.2 with ⟨h', _⟩ | ⟨g', cp', cur, hv, _, _, h3, _⟩
  · cases h'
  · cases hv; exact h3
theorem own_tagM {w : World} {base size n q : Nat} {e : TypeId} {v : Value} {xs : List Value} (h : w.ownsRow base e size v n xs) (hq : v.ownBlock = some q) : ∃ cur, w.heap[q]? = some (.cells cur e (0, 0)) := by
  rcases h.2 with ⟨h1, _⟩ | ⟨g, cp, cur, hv, hg, hc, _⟩
  · rw [h1] at hq; cases hq
  · rw [hv] at hq
    have : g = q := by simpa [Value.ownBlock] using hq
    subst this
    exact ⟨cur, hc⟩
structure MC (W : World) (g i : Nat) (s : Mt) : Prop where
  c0 : W.cell? ⟨g, i * 3, none⟩ = some (.int .i64 s.op)
  c1 : W.cell? ⟨g, i * 3 + 1, none⟩ = some (.string (tx s.key))
  c2 : W.cell? ⟨g, i * 3 + 2, none⟩ = some (.string (tx s.val))
theorem own_mc {W : World} {base g cap i : Nat} {ss : List Mt} {s : Mt} (h : W.ownsRow base 30 3 (.slice (some ⟨g, 0, none⟩) ss.length cap) ss.length (mtL ss)) (hi : ss[i]? = some s) : MC W g i s := by
  have hlt := (List.getElem?_eq_some_iff.1 hi).1
  have hc : ∀ r, r < 3 → W.cell? ⟨g, i * 3 + r, none⟩ = (mt3 s)[r]? := fun r hr => by
    rw [h.cellAt (i * 3 + r) (show i * 3 + r < ss.length * 3 by omega), mtL_get ss i s hi r hr]
  exact ⟨hc 0 (by omega), hc 1 (by omega), hc 2 (by omega)⟩
/-- Matchers in an own row, as they lie. -/
theorem own_mts {w : World} {base : Nat} {v : Value} {l : List Mt} (h : w.ownsRow base 30 3 v l.length (mtL l)) (hc : ∀ x ∈ l, (x.key.length : Int) ≤ 140737488351232 ∧ (x.val.length : Int) ≤ 140737488351232) : ∃ sa cap, v = .slice sa l.length cap ∧ Mts w sa cap l := by
  rcases h.2 with ⟨h1, h2⟩ | ⟨g, cap, cur, h1, _, _, h3, _⟩
  · have hl : l = [] := List.eq_nil_of_length_eq_zero h2
    subst hl
    exact ⟨none, 0, h1, ⟨Nat.le_refl _, fun i x hx => by simp at hx, hc⟩⟩
  · subst h1
    refine ⟨_, _, rfl, ⟨h3, fun i x hx => ?_, hc⟩⟩
    have m := own_mc h hx
    exact ⟨g, 0, rfl, by rw [Nat.zero_add]; exact m.c0, by rw [Nat.zero_add]; exact m.c1, by rw [Nat.zero_add]; exact m.c2⟩
def zM (m : Nat) : List Value := (Builtin.zeroCells (Value.agg #[.int .i64 0, .string ⟨#[]⟩, .string ⟨#[]⟩]).cells m).toList
theorem zM_len (m : Nat) : (zM m).length = m * 3 := by
  unfold zM
  rw [Array.length_toList, size_zeroCells]
  rfl
theorem zM_one (m : Nat) : ∀ u ∈ zM m, u.oneCell' = true := by
  intro u hu
  unfold zM Builtin.zeroCells at hu
  simp only [Array.toList_map, List.mem_map] at hu
  obtain ⟨i, _, rfl⟩ := hu
  have h5 : i % 3 < 3 := Nat.mod_lt _ (by omega)
  have hs : (Value.agg #[.int .i64 0, .string ⟨#[]⟩, .string ⟨#[]⟩]).cells.size = 3 := rfl
  rw [hs]
  rcases (show i % 3 = 0 ∨ i % 3 = 1 ∨ i % 3 = 2 from by omega) with h | h | h <;> rw [h] <;> rfl
theorem zero30 (w : World) : (zeroValue 30).run Tryz.prog w = .ok (.agg #[.int .i64 0, .string ⟨#[]⟩, .string ⟨#[]⟩]) w := by kernel_rfl
theorem run_clearM (w : World) (g o c m : Nat) (cur : Array Value) (hm : 0 < m) (hg : w.heap[g]? = some (.cells cur 30 (0, 0))) (hfit : o + m * 3 ≤ cur.size) (ty : TypeId) :
    (Builtin.clear_ #[23] ty #[.slice (some ⟨g, o, none⟩) m c]).run Tryz.prog w = .ok (.tuple #[]) (w.setRow g (cur.toList.take o ++ zM m ++ cur.toList.drop (o + m * 3)).toArray) := by
  have hst := run_storeCells_at Tryz.prog g o 30 (zM m) 0 cur w hg (by rw [zM_len]; omega) (zM_one m)
  simp only [Nat.add_zero] at hst
  rw [zM_len] at hst
  obtain ⟨k, rfl⟩ : ∃ k, m = k + 1 := ⟨m - 1, by omega⟩
  unfold zM at hst ⊢
  simp [Builtin.clear_, run_underlying Tryz.underlying23, zero30, hst]
/-- Below a size all but one block lies as it lay. -/
structure Bg (g : Nat) (w w' : World) : Prop where
  os : w'.os = w.os
  tape : w'.tape = w.tape
  output : w'.output = w.output
  size : w.heap.size ≤ w'.heap.size
  block : ∀ q, q < w.heap.size → q ≠ g → w'.heap[q]? = w.heap[q]?
theorem Bg.refl (g : Nat) (w : World) : Bg g w w := ⟨rfl, rfl, rfl, Nat.le_refl _, fun _ _ _ => rfl⟩
theorem Bg.trans {g : Nat} {a b c : World} (h : Bg g a b) (k : Bg g b c) : Bg g a c :=
  ⟨k.os.trans h.os, k.tape.trans h.tape, k.output.trans h.output, Nat.le_trans h.size k.size, fun q hq hg => (k.block q (by have := h.size; omega) hg).trans (h.block q hq hg)⟩
theorem Bg.below {g : Nat} {a b c : World} (h : Bg g a b) (k : Below b.heap.size b c) : Bg g a c := h.trans ⟨k.os, k.tape, k.output, k.size, fun q hq _ => k.block q hq⟩
theorem Bg.set {g : Nat} {a b : World} (h : Bg g a b) (i : Nat) (v : Value) : Bg g a (b.setCell ⟨g, i, none⟩ v) := h.trans ⟨rfl, rfl, rfl, by simp, fun q _ hg => Below.heap_setCell _ _ _ _ hg⟩
theorem mtL_put : ∀ (L : List Mt) (i : Nat) (s : Mt), i < L.length → (((mtL L).set (i * 3) (.int .i64 s.op)).set (i * 3 + 1) (.string (tx s.key))).set (i * 3 + 2) (.string (tx s.val)) = mtL (L.set i s)
  | [], i, s, h => by simp at h
  | p :: r, 0, s, _ => rfl
  | p :: r, i + 1, s, h => by
    have ih := mtL_put r i s (by simpa using h)
    show (((mt3 p ++ mtL r).set ((i + 1) * 3) _).set ((i + 1) * 3 + 1) _).set ((i + 1) * 3 + 2) _ = mt3 p ++ mtL (r.set i s)
    have h5 : (mt3 p).length = 3 := rfl
    rw [List.set_append_right _ _ (by rw [h5]; omega), List.set_append_right _ _ (by rw [h5]; omega), List.set_append_right _ _ (by rw [h5]; omega), ← ih, h5]
    rw [show (i + 1) * 3 - 3 = i * 3 by omega, show (i + 1) * 3 + 1 - 3 = i * 3 + 1 by omega, show (i + 1) * 3 + 2 - 3 = i * 3 + 2 by omega]
theorem mtL_take (L : List Mt) (k : Nat) : (mtL L).take (k * 3) = mtL (L.take k) := by
  induction L generalizing k with
  | nil => simp [mtL]
  | cons p r ih =>
    cases k with
    | zero => simp [mtL]
    | succ k =>
      have := ih k
      show (mt3 p ++ mtL r).take ((k + 1) * 3) = mt3 p ++ mtL (r.take k)
      rw [← this, List.take_append, show (mt3 p).length = 3 from rfl, List.take_of_length_le (by simp [mt3]; omega), show (k + 1) * 3 - 3 = k * 3 by omega]
def CanM (x : Mt) : Prop := ((x.key.length : Int) ≤ 140737488351232 ∧ (x.val.length : Int) ≤ 140737488351232) ∧ (Lit.int .i64 x.op).wf = true
def eqM (x y : Mt) : Bool := decide (x.op = y.op ∧ x.key = y.key ∧ x.val = y.val)
theorem eqM_iff (x y : Mt) : eqM x y = true ↔ x = y := by
  unfold eqM
  rw [decide_eq_true_eq]
  constructor
  · rintro ⟨h1, h2, h3⟩
    cases x; cases y
    simp only [Mt.mk.injEq]
    exact ⟨h1, h2, h3⟩
  · rintro rfl
    exact ⟨rfl, rfl, rfl⟩
theorem eqMt (x y : Mt) (hx : CanM x) (hy : CanM y) (w : World) : (Op.equalIn 10000 30 (.agg #[.int .i64 x.op, .string (tx x.key), .string (tx x.val)]) (.agg #[.int .i64 y.op, .string (tx y.key), .string (tx y.val)])).run Tryz.prog w = .ok (eqM x y) w := by
  have c9 : Tryz.prog.cellsOf 9 = 1 := by kernel_rfl
  have c3 : Tryz.prog.cellsOf 3 = 1 := by kernel_rfl
  have c30 : Tryz.prog.cellsOf 30 = 3 := by kernel_rfl
  have hk : ∀ z : Mt, CanM z → Tryz.prog.keyLits 2 30 [.int .i64 z.op, .string (tx z.key), .string (tx z.val)] = some [.int .i64 z.op, .string (tx z.key).data.toList, .string (tx z.val).data.toList] := fun z hz => by
    have l1 : (tx z.key).size ≤ maxLen := by rw [tx_size]; unfold maxLen; have := hz.1.1; omega
    have l2 : (tx z.val).size ≤ maxLen := by rw [tx_size]; unfold maxLen; have := hz.1.2; omega
    have l3 := hz.2
    simp [Program.keyLits, Tryz.underlying30, Tryz.underlying9, Tryz.underlying3, c9, c3, c30, l1, l2, l3]
  have hf : ∀ z : Mt, Value.formed Tryz.prog 30 (.agg #[.int .i64 z.op, .string (tx z.key), .string (tx z.val)]) = true := fun z => by
    unfold Value.formed
    simp only [Tryz.underlying30, c30]
    rfl
  obtain ⟨r, hr, hiff⟩ := run_equalIn_deep (P := Tryz.prog) 9998 2 30 (by kernel_rfl) w 2 2 (.agg #[.int .i64 x.op, .string (tx x.key), .string (tx x.val)]) (.agg #[.int .i64 y.op, .string (tx y.key), .string (tx y.val)]) _ _ (hf x) (hf y) (hk x hx) (hk y hy)
  have e : r = eqM x y := by
    rw [Bool.eq_iff_iff, hiff, eqM_iff]
    have t1 : ∀ l : List UInt8, (tx l).data.toList = l := fun l => rfl
    simp only [t1]
    constructor
    · intro h
      simp only [List.cons.injEq, Lit.int.injEq, Lit.string.injEq, and_true, true_and] at h
      exact (eqM_iff x y).1 (by unfold eqM; exact decide_eq_true ⟨h.1, h.2.1, h.2.2⟩)
    · rintro rfl
      rfl
  rw [e] at hr
  exact hr
theorem quiet_eqMt {W : World} {a : Act} {o : Oper} {K : Act → Prop} (x y : Operand) (b : Bool) (ho : o.op = .binOp (if b then .neq else .eql) 30 x y 30) (u v : Array Value) (hx : a.eval x = .agg u) (hy : a.eval y = .agg v) (r : Bool) (hr : (Op.equalIn 10000 30 (.agg u) (.agg v)).run Tryz.prog W = .ok r W)
    (hk : K (a.put o.dst (.bool (if b then !r else r)))) : o.quiet Tryz.prog a (fun w' => w' = W) K := by
  have hg : Tryz.prog.eqGuardType Tryz.prog.depth 30 = false := by kernel_rfl
  have hm : Op.maxDepth = 10000 := rfl
  refine ⟨_, fun w hw => ?_, hk⟩
  subst hw
  unfold Oper.quietAt
  cases b <;> simp only [execOp, ho, hx, hy, if_true, if_false, Bool.false_eq_true] <;> simp only [eqGuard, binOp, Op.equal, hg, hm] <;> generalize Op.equalIn 10000 30 (.agg u) (.agg v) = E at hr ⊢ <;> simp [hr, go_sem, Oper.quietUpon]
theorem load30 {w : World} {b off : Nat} {x : Mt} (h0 : w.cell? ⟨b, off, none⟩ = some (.int .i64 x.op)) (h1 : w.cell? ⟨b, off + 1, none⟩ = some (.string (tx x.key))) (h2 : w.cell? ⟨b, off + 2, none⟩ = some (.string (tx x.val))) : (loadVar 30 ⟨b, off, none⟩).run Tryz.prog w = .ok (.agg #[.int .i64 x.op, .string (tx x.key), .string (tx x.val)]) w := by
  refine run_loadVar_mid w b off 30 [.int .i64 x.op, .string (tx x.key), .string (tx x.val)] _ (fun i v hv => ?_) Tryz.underlying30 rfl (by kernel_rfl)
  match i, hv with
  | 0, hv => rw [← hv]; exact h0
  | 1, hv => rw [← hv]; exact h1
  | 2, hv => rw [← hv]; exact h2
  | i + 3, hv => simp at hv
/-- The steps of Compact. -/
theorem set_dropM (L : List Mt) (a b : Nat) (s : Mt) (h : a < b) : (L.set a s).drop b = L.drop b := by rw [List.drop_set, if_pos h]
theorem set_takeM (L : List Mt) (a : Nat) (s : Mt) (h : a < L.length) : (L.set a s).take (a + 1) = L.take a ++ [s] := by
  rw [List.take_succ_eq_append_getElem (by rw [List.length_set]; exact h), List.take_set, List.set_eq_of_length_le (by rw [List.length_take]; omega)]
  simp
theorem mem_same (ss : List Mt) (b : Nat) (s : Mt) (h1 : 0 < b) (hp : ss[b - 1]? = some s) (hs : ss[b]? = some s) (x : Mt) : x ∈ ss.take (b + 1) ↔ x ∈ ss.take b := by
  obtain ⟨g1, g2⟩ := List.getElem?_eq_some_iff.1 hs
  rw [List.take_succ_eq_append_getElem g1, g2, List.mem_append, List.mem_singleton]
  refine ⟨fun h => h.elim id fun e => ?_, .inl⟩
  subst e
  refine List.mem_of_getElem? (i := b - 1) ?_
  rw [List.getElem?_take_of_lt (by omega)]
  exact hp
theorem mem_more (ss L : List Mt) (a b : Nat) (s : Mt) (ha : a < L.length) (hs : ss[b]? = some s) (h : ∀ x, x ∈ L.take a ↔ x ∈ ss.take b) (x : Mt) : x ∈ (L.set a s).take (a + 1) ↔ x ∈ ss.take (b + 1) := by
  obtain ⟨g1, g2⟩ := List.getElem?_eq_some_iff.1 hs
  rw [set_takeM L a s ha, List.take_succ_eq_append_getElem g1, g2, List.mem_append, List.mem_append, h x]
end Go.Proofs.YtgmpmpgfpchbcaaGreatDoor
