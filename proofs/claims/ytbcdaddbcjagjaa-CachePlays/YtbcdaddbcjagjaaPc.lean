/- What comes in: calls, lists of calls, lists of texts. -/
import Derived.Test.YtbcdaddbcjagjaaPb
import Derived.Deep.Slices
import Derived.OpenShut
import Derived.ProofKit
import Derived.SizedLaws
namespace Go.Proofs.Ytbcdaddbcjagjaa
open Go.ChangeShapes Go.WideShapes Go.ChangeAt Go.RowKit
set_option linter.unusedVariables false

/-- A script as it lies. -/
structure OpsAt (W : World) (sa : Option Addr) (len cap : Nat) (os : List OpF) : Prop where
  n : os.length = len
  c : len ≤ cap
  l : ∀ (i : Nat) (o : OpF), os[i]? = some o → ∃ b off, sa = some ⟨b, off, none⟩ ∧ b < W.heap.size ∧ W.cell? ⟨b, off + i * 5, none⟩ = some (.int .i64 o.kind) ∧ W.cell? ⟨b, off + i * 5 + 1, none⟩ = some (.string (tx o.nm)) ∧ W.cell? ⟨b, off + i * 5 + 2, none⟩ = some (.string (tx o.key)) ∧ W.cell? ⟨b, off + i * 5 + 3, none⟩ = some (.string (tx o.st)) ∧ W.cell? ⟨b, off + i * 5 + 4, none⟩ = some (.string (tx o.te))
theorem OpsAt.later {W W' : World} {sa : Option Addr} {len cap B : Nat} {os : List OpF} (h : OpsAt W sa len cap os) (hb : Below B W W') (hB : W.heap.size ≤ B) : OpsAt W' sa len cap os := by
  refine ⟨h.n, h.c, fun i o ho => ?_⟩
  obtain ⟨b, off, e, hlt, h0, h1, h2, h3, h4⟩ := h.l i o ho
  have hc : ∀ j, W'.cell? ⟨b, j, none⟩ = W.cell? ⟨b, j, none⟩ := fun j => hb.cell (p := ⟨b, j, none⟩) (by show b < B; omega)
  exact ⟨b, off, e, by have := hb.size; omega, (hc _).trans h0, (hc _).trans h1, (hc _).trans h2, (hc _).trans h3, (hc _).trans h4⟩
theorem plain_addr {W : World} {x : Addr} {v : Value} (h : W.cell? x = some v) : ∃ b off, x = ⟨b, off, none⟩ := by
  obtain ⟨bb, off, sp⟩ := x
  cases sp with
  | none => exact ⟨bb, off, rfl⟩
  | some q =>
    simp [World.cell?] at h
    split at h <;> simp at h
theorem cell_block {W : World} {b o : Nat} {v : Value} (h : W.cell? ⟨b, o, none⟩ = some v) : b < W.heap.size := by
  rcases Nat.lt_or_ge b W.heap.size with h' | h'
  · exact h'
  · simp [World.cell?, Array.getElem?_eq_none h'] at h
theorem tx_at (P : ByteArray) : P = tx P.data.toList := by cases P; simp [tx]
set_option maxRecDepth 20000 in
/-- A call that came in. -/
theorem op_of {H : Type} {enc : TypeId × Value → H} {W : World} {fuel : Nat} {cs : List Value} {x : DataW H × List MemPlace} (hlen : cs.length = 5) (h : DataW.trod enc Try.prog W 0 (fun _ => true) true fuel 39 cs = some x) :
    ∃ o : OpF, cs = [.int .i64 o.kind, .string (tx o.nm), .string (tx o.key), .string (tx o.st), .string (tx o.te)] := by
  obtain ⟨xs, k, hk, hxy, _, hxl, hf⟩ := DataW.trod_struct Try.underlying39 h
  match xs, hxl, cs, hlen with
  | [y0, y1, y2, y3, y4], _, [v0, v1, v2, v3, v4], _ =>
    have g0 := hf 0 _ rfl
    have g1 := hf 1 _ rfl
    have g2 := hf 2 _ rfl
    have g3 := hf 3 _ rfl
    have g4 := hf 4 _ rfl
    have k3 : Try.prog.cellsOf 3 = 1 := by kernel_rfl
    have k9 : Try.prog.cellsOf 9 = 1 := by kernel_rfl
    simp [k3, k9] at g0 g1 g2 g3 g4
    obtain ⟨K, hK, _, _⟩ := DataW.trod_int Try.underlying3 g0
    obtain ⟨A, hA, _, _⟩ := DataW.trod_string Try.underlying9 g1
    obtain ⟨B, hB, _, _⟩ := DataW.trod_string Try.underlying9 g2
    obtain ⟨C, hC, _, _⟩ := DataW.trod_string Try.underlying9 g3
    obtain ⟨D, hD, _, _⟩ := DataW.trod_string Try.underlying9 g4
    simp only [List.cons.injEq, and_true] at hK hA hB hC hD
    refine ⟨⟨K, A.data.toList, B.data.toList, C.data.toList, D.data.toList⟩, ?_⟩
    rw [hK, hA, hB, hC, hD, ← tx_at, ← tx_at, ← tx_at, ← tx_at]
set_option maxRecDepth 100000 in
theorem op_in {H : Type} {enc : TypeId × Value → H} {W : World} {r : Reach} {b0 : Nat} {v : Value} {d : DataW H} {p : List MemPlace} (hv : Value.okWide Try.prog W r b0 39 v) (h : DataW.Trod enc Try.prog W 0 (fun _ => true) true 39 v d p) : ∃ o : OpF, v = .agg #[.int .i64 o.kind, .string (tx o.nm), .string (tx o.key), .string (tx o.st), .string (tx o.te)] := by
  obtain ⟨cs, rfl, hsz⟩ := okWide_struct Try.underlying39 hv
  have k39 : Try.prog.cellsOf 39 = 5 := by kernel_rfl
  rw [k39] at hsz
  obtain ⟨fuel, hf⟩ := h
  obtain ⟨o, ho⟩ := op_of (cs := cs.toList) (by simpa using hsz) (by simpa [Value.cells] using hf)
  exact ⟨o, by rw [← Array.toArray_toList (xs := cs), ho]⟩
/-- A list out of its places. -/
theorem list_of {β : Type} (n : Nat) (R : Nat → β → Prop) (h : ∀ i, i < n → ∃ x, R i x) : ∃ l : List β, l.length = n ∧ ∀ i x, l[i]? = some x → R i x := by
  induction n with
  | zero => exact ⟨[], rfl, fun i x hx => by simp at hx⟩
  | succ n ih =>
    obtain ⟨l, h1, h2⟩ := ih fun i hi => h i (by omega)
    obtain ⟨y, hy⟩ := h n (by omega)
    refine ⟨l ++ [y], by simp [h1], fun i x hx => ?_⟩
    rcases Nat.lt_or_ge i n with hi | hi
    · rw [List.getElem?_append_left (by omega)] at hx
      exact h2 i x hx
    · have : i = n := by
        have := (List.getElem?_eq_some_iff.1 hx).1
        simp [h1] at this
        omega
      subst this
      rw [List.getElem?_append_right (by omega), h1] at hx
      simp at hx
      subst hx
      exact hy
set_option maxRecDepth 20000 in
theorem ops_arg {H : Type} {enc : TypeId × Value → H} {W : World} {fuel : Nat} {sa : Option Addr} {len cap : Nat} {d : DataW H} {q : List MemPlace} (h : DataW.trod enc Try.prog W 0 (fun _ => true) true fuel 33 [.slice sa len cap] = some (d, q)) (hw : ∀ n ∈ d.weights Try.prog 33, n ≤ reachBytes) :
    (∃ os, OpsAt W sa len cap os) ∧ (len : Int) ≤ 140737488351232 := by
  have hrb : reachBytes = 140737488351232 := rfl
  rcases Deep.open_slice Try.underlying33 h with ⟨hcs, hx⟩ | ⟨a, len', cap', m, n, D, Pl, hcs, _, hl, hm, hmm, hx, hcell⟩
  · simp only [List.cons.injEq, and_true, Value.slice.injEq] at hcs
    obtain ⟨rfl, rfl, rfl⟩ := hcs
    exact ⟨⟨[], rfl, Nat.le_refl _, fun i o ho => by simp at ho⟩, by decide⟩
  · simp only [List.cons.injEq, and_true, Value.slice.injEq] at hcs
    obtain ⟨rfl, rfl, rfl⟩ := hcs
    simp only [Prod.mk.injEq] at hx
    have hmc : m = cap := by simpa using hmm
    have k39 : Try.prog.cellsOf 39 = 5 := by kernel_rfl
    rw [k39] at hcell
    have hd := hx.1
    rw [hd] at hw
    simp only [DataW.weights, Try.underlying33, List.mem_cons, List.mem_append] at hw
    refine ⟨?_, ?_⟩
    · obtain ⟨os, h1, h2⟩ := list_of len (fun i (o : OpF) => ∃ b off, some a = some (⟨b, off, none⟩ : Addr) ∧ b < W.heap.size ∧ W.cell? ⟨b, off + i * 5, none⟩ = some (.int .i64 o.kind) ∧ W.cell? ⟨b, off + i * 5 + 1, none⟩ = some (.string (tx o.nm)) ∧ W.cell? ⟨b, off + i * 5 + 2, none⟩ = some (.string (tx o.key)) ∧ W.cell? ⟨b, off + i * 5 + 3, none⟩ = some (.string (tx o.st)) ∧ W.cell? ⟨b, off + i * 5 + 4, none⟩ = some (.string (tx o.te))) (fun i hi => by
        obtain ⟨b, off, rfl⟩ : ∃ b off, a = ⟨b, off, none⟩ := by
          obtain ⟨cs, h1, _⟩ := hcell 0 (by omega)
          obtain ⟨_, hlen', hc'⟩ := World.cells?_some h1
          have h2 := hc' 0 (by omega)
          exact plain_addr (x := a) (v := cs[0]'(by omega)) (by
            have h3 : W.cell? a = cs[0]? := by simpa [Addr.add] using h2
            rw [h3]
            exact List.getElem?_eq_getElem (by omega))
        obtain ⟨cs, h1, h2⟩ := hcell i (by omega)
        rw [Addr.add_mid] at h1
        obtain ⟨_, hlen', hc'⟩ := World.cells?_some h1
        obtain ⟨o, ho⟩ := op_of hlen' h2
        have e : ∀ j, j < 5 → W.cell? ⟨b, off + i * 5 + j, none⟩ = cs[j]? := fun j hj => by
          have h3 := hc' j (by omega)
          rwa [Addr.add_mid] at h3
        have e0 := e 0 (by omega)
        have e1 := e 1 (by omega)
        have e2 := e 2 (by omega)
        have e3 := e 3 (by omega)
        have e4 := e 4 (by omega)
        rw [ho] at e0 e1 e2 e3 e4
        simp at e0 e1 e2 e3 e4
        exact ⟨o, b, off, rfl, cell_block e0, e0, e1, e2, e3, e4⟩)
      exact ⟨os, h1, hl, h2⟩
    · have h1 := hw _ (.inl rfl)
      rw [show Try.prog.bytesOf 39 = 72 from by kernel_rfl] at h1
      simp only [List.length_map, List.length_range] at h1
      omega
/-- Texts as they lie. -/
structure NmsAt (W : World) (sa : Option Addr) (len cap : Nat) (xs : List (List UInt8)) : Prop where
  n : xs.length = len
  c : len ≤ cap
  l : ∀ (i : Nat) (x : List UInt8), xs[i]? = some x → ∃ b off, sa = some ⟨b, off, none⟩ ∧ b < W.heap.size ∧ W.cell? ⟨b, off + i, none⟩ = some (.string (tx x))
theorem NmsAt.later {W W' : World} {sa : Option Addr} {len cap B : Nat} {xs : List (List UInt8)} (h : NmsAt W sa len cap xs) (hb : Below B W W') (hB : W.heap.size ≤ B) : NmsAt W' sa len cap xs := by
  refine ⟨h.n, h.c, fun i o ho => ?_⟩
  obtain ⟨b, off, e, hlt, h0⟩ := h.l i o ho
  exact ⟨b, off, e, by have := hb.size; omega, (hb.cell (p := ⟨b, off + i, none⟩) (by show b < B; omega)).trans h0⟩
set_option maxRecDepth 20000 in
theorem nms_arg {H : Type} {enc : TypeId × Value → H} {W : World} {fuel : Nat} {sa : Option Addr} {len cap : Nat} {d : DataW H} {q : List MemPlace} (h : DataW.trod enc Try.prog W 0 (fun _ => true) true fuel 49 [.slice sa len cap] = some (d, q)) (hw : ∀ n ∈ d.weights Try.prog 49, n ≤ reachBytes) :
    (∃ xs, NmsAt W sa len cap xs) ∧ (len : Int) ≤ 140737488351232 := by
  have hrb : reachBytes = 140737488351232 := rfl
  rcases Deep.open_slice Try.underlying49 h with ⟨hcs, hx⟩ | ⟨a, len', cap', m, n, D, Pl, hcs, _, hl, hm, hmm, hx, hcell⟩
  · simp only [List.cons.injEq, and_true, Value.slice.injEq] at hcs
    obtain ⟨rfl, rfl, rfl⟩ := hcs
    exact ⟨⟨[], rfl, Nat.le_refl _, fun i o ho => by simp at ho⟩, by decide⟩
  · simp only [List.cons.injEq, and_true, Value.slice.injEq] at hcs
    obtain ⟨rfl, rfl, rfl⟩ := hcs
    simp only [Prod.mk.injEq] at hx
    have hmc : m = cap := by simpa using hmm
    have k9 : Try.prog.cellsOf 9 = 1 := by kernel_rfl
    rw [k9] at hcell
    have hd := hx.1
    rw [hd] at hw
    simp only [DataW.weights, Try.underlying49, List.mem_cons, List.mem_append] at hw
    refine ⟨?_, ?_⟩
    · obtain ⟨xs, h1, h2⟩ := list_of len (fun i (x : List UInt8) => ∃ b off, some a = some (⟨b, off, none⟩ : Addr) ∧ b < W.heap.size ∧ W.cell? ⟨b, off + i, none⟩ = some (.string (tx x))) (fun i hi => by
        obtain ⟨b, off, rfl⟩ : ∃ b off, a = ⟨b, off, none⟩ := by
          obtain ⟨cs, h1, _⟩ := hcell 0 (by omega)
          obtain ⟨_, hlen', hc'⟩ := World.cells?_some h1
          have h2 := hc' 0 (by omega)
          exact plain_addr (x := a) (v := cs[0]'(by omega)) (by
            have h3 : W.cell? a = cs[0]? := by simpa [Addr.add] using h2
            rw [h3]
            exact List.getElem?_eq_getElem (by omega))
        obtain ⟨cs, h1, h2⟩ := hcell i (by omega)
        rw [Addr.add_mid, Nat.mul_one] at h1
        obtain ⟨_, hlen', hc'⟩ := World.cells?_some h1
        obtain ⟨x, hx', _, _⟩ := DataW.trod_string Try.underlying9 h2
        have h3 := hc' 0 (by omega)
        rw [Addr.add_mid, hx'] at h3
        simp at h3
        exact ⟨x.data.toList, b, off, rfl, cell_block h3, by rw [← tx_at]; exact h3⟩)
      exact ⟨xs, h1, hl, h2⟩
    · have h1 := hw _ (.inl rfl)
      rw [show Try.prog.bytesOf 9 = 16 from by kernel_rfl] at h1
      simp only [List.length_map, List.length_range] at h1
      omega
end Go.Proofs.Ytbcdaddbcjagjaa
