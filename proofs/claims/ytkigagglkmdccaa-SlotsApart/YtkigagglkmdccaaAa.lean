/- What comes in: a script, read as a list. -/
import Derived.Test.YtkigagglkmdccaaTn
import Derived.Deep.Slices
import Derived.OpenShut
import Derived.ProofKit
import Derived.SizedLaws
namespace Go.Proofs.Ytkigagglkmdccaa
open Go.ChangeShapes Go.WideShapes Go.ChangeAt Go.RowKit
set_option linter.unusedVariables false

/-- A call. -/
structure OpF where
  kind : Int
  nm : List UInt8
  wt : Int
  id : Int
  cost : Int
/-- A script as it lies. -/
structure OpsAt (W : World) (sa : Option Addr) (len cap : Nat) (os : List OpF) : Prop where
  n : os.length = len
  c : len ≤ cap
  l : ∀ (i : Nat) (o : OpF), os[i]? = some o → ∃ b off, sa = some ⟨b, off, none⟩ ∧ b < W.heap.size ∧ W.cell? ⟨b, off + i * 5, none⟩ = some (.int .i64 o.kind) ∧ W.cell? ⟨b, off + i * 5 + 1, none⟩ = some (.string (tx o.nm)) ∧ W.cell? ⟨b, off + i * 5 + 2, none⟩ = some (.int .i64 o.wt) ∧ W.cell? ⟨b, off + i * 5 + 3, none⟩ = some (.int .i64 o.id) ∧ W.cell? ⟨b, off + i * 5 + 4, none⟩ = some (.int .i64 o.cost)
theorem OpsAt.later {W W' : World} {sa : Option Addr} {len cap B : Nat} {os : List OpF} (h : OpsAt W sa len cap os) (hb : Below B W W') (hB : W.heap.size ≤ B) : OpsAt W' sa len cap os := by
  refine ⟨h.n, h.c, fun i o ho => ?_⟩
  obtain ⟨b, off, e, hlt, h0, h1, h2, h3, h4⟩ := h.l i o ho
  have hc : ∀ j, W'.cell? ⟨b, j, none⟩ = W.cell? ⟨b, j, none⟩ := fun j => hb.cell (p := ⟨b, j, none⟩) (by show b < B; omega)
  exact ⟨b, off, e, by have := hb.size; omega, (hc _).trans h0, (hc _).trans h1, (hc _).trans h2, (hc _).trans h3, (hc _).trans h4⟩
theorem plain_addr {W : World} {x : Addr} {v : Value} (h : W.cell? x = some v) : ∃ b off, x = ⟨b, off, none⟩ := by
  obtain ⟨bb, off, sp⟩ := x
  cases sp with
  | none => exact ⟨bb, off, rfl⟩
  | some q =>
    simp [World.cell?] at h
    split at h <;> simp at h
theorem cell_block {W : World} {b o : Nat} {v : Value} (h : W.cell? ⟨b, o, none⟩ = some v) : b < W.heap.size := by
  rcases Nat.lt_or_ge b W.heap.size with h' | h'
  · exact h'
  · simp [World.cell?, Array.getElem?_eq_none h'] at h
theorem tx_at (P : ByteArray) : P = tx P.data.toList := by cases P; simp [tx]
set_option maxRecDepth 20000 in
/-- A job that came in. -/
theorem job_of {H : Type} {enc : TypeId × Value → H} {W : World} {fuel : Nat} {cs : List Value} {x : DataW H × List MemPlace} (hlen : cs.length = 2) (h : DataW.trod enc Try.prog W 0 (fun _ => true) true fuel 30 cs = some x) :
    ∃ a b : Int, cs = [.int .i64 a, .int .i64 b] := by
  obtain ⟨xs, k, hk, hxy, _, hxl, hf⟩ := DataW.trod_struct Try.underlying30 h
  match xs, hxl, cs, hlen with
  | [y0, y1], _, [v0, v1], _ =>
    have g0 := hf 0 _ rfl
    have g1 := hf 1 _ rfl
    have k2 : Try.prog.cellsOf 2 = 1 := by kernel_rfl
    simp [k2] at g0 g1
    obtain ⟨A, hA, _, _⟩ := DataW.trod_int Try.underlying2 g0
    obtain ⟨B, hB, _, _⟩ := DataW.trod_int Try.underlying2 g1
    simp only [List.cons.injEq, and_true] at hA hB
    exact ⟨A, B, by rw [hA, hB]⟩
set_option maxRecDepth 20000 in
/-- A call that came in. -/
theorem op_of {H : Type} {enc : TypeId × Value → H} {W : World} {fuel : Nat} {cs : List Value} {x : DataW H × List MemPlace} (hlen : cs.length = 5) (h : DataW.trod enc Try.prog W 0 (fun _ => true) true fuel 32 cs = some x) :
    ∃ o : OpF, cs = [.int .i64 o.kind, .string (tx o.nm), .int .i64 o.wt, .int .i64 o.id, .int .i64 o.cost] := by
  obtain ⟨xs, k, hk, hxy, _, hxl, hf⟩ := DataW.trod_struct Try.underlying32 h
  match xs, hxl, cs, hlen with
  | [y0, y1, y2, y3], _, [v0, v1, v2, v3, v4], _ =>
    have g0 := hf 0 _ rfl
    have g1 := hf 1 _ rfl
    have g2 := hf 2 _ rfl
    have g3 := hf 3 _ rfl
    have k3 : Try.prog.cellsOf 3 = 1 := by kernel_rfl
    have k9 : Try.prog.cellsOf 9 = 1 := by kernel_rfl
    have k30 : Try.prog.cellsOf 30 = 2 := by kernel_rfl
    simp [k3, k9, k30] at g0 g1 g2 g3
    obtain ⟨K, hK, _, _⟩ := DataW.trod_int Try.underlying3 g0
    obtain ⟨P, hP, _, _⟩ := DataW.trod_string Try.underlying9 g1
    obtain ⟨A, hA, _, _⟩ := DataW.trod_int Try.underlying3 g2
    obtain ⟨B, C, hB⟩ := job_of rfl g3
    simp only [List.cons.injEq, and_true] at hK hP hA hB
    refine ⟨⟨K, P.data.toList, A, B, C⟩, ?_⟩
    rw [hK, hP, hA, hB.1, hB.2, ← tx_at]
set_option maxRecDepth 100000 in
theorem op_in {H : Type} {enc : TypeId × Value → H} {W : World} {r : Reach} {b0 : Nat} {v : Value} {d : DataW H} {p : List MemPlace} (hv : Value.okWide Try.prog W r b0 32 v) (h : DataW.Trod enc Try.prog W 0 (fun _ => true) true 32 v d p) : ∃ o : OpF, v = .agg #[.int .i64 o.kind, .string (tx o.nm), .int .i64 o.wt, .int .i64 o.id, .int .i64 o.cost] := by
  obtain ⟨cs, rfl, hsz⟩ := okWide_struct Try.underlying32 hv
  have k32 : Try.prog.cellsOf 32 = 5 := by kernel_rfl
  rw [k32] at hsz
  obtain ⟨fuel, hf⟩ := h
  obtain ⟨o, ho⟩ := op_of (cs := cs.toList) (by simpa using hsz) (by simpa [Value.cells] using hf)
  exact ⟨o, by rw [← Array.toArray_toList (xs := cs), ho]⟩
/-- A list out of its places. -/
theorem list_of {β : Type} (n : Nat) (R : Nat → β → Prop) (h : ∀ i, i < n → ∃ x, R i x) : ∃ l : List β, l.length = n ∧ ∀ i x, l[i]? = some x → R i x := by
  induction n with
  | zero => exact ⟨[], rfl, fun i x hx => by simp at hx⟩
  | succ n ih =>
    obtain ⟨l, h1, h2⟩ := ih fun i hi => h i (by omega)
    obtain ⟨y, hy⟩ := h n (by omega)
    refine ⟨l ++ [y], by simp [h1], fun i x hx => ?_⟩
    rcases Nat.lt_or_ge i n with hi | hi
    · rw [List.getElem?_append_left (by omega)] at hx
      exact h2 i x hx
    · have : i = n := by
        have := (List.getElem?_eq_some_iff.1 hx).1
        simp [h1] at this
        omega
      subst this
      rw [List.getElem?_append_right (by omega), h1] at hx
      simp at hx
      subst hx
      exact hy
set_option maxRecDepth 20000 in
theorem ops_arg {H : Type} {enc : TypeId × Value → H} {W : World} {fuel : Nat} {sa : Option Addr} {len cap : Nat} {d : DataW H} {q : List MemPlace} (h : DataW.trod enc Try.prog W 0 (fun _ => true) true fuel 22 [.slice sa len cap] = some (d, q)) (hw : ∀ n ∈ d.weights Try.prog 22, n ≤ reachBytes) :
    (∃ os, OpsAt W sa len cap os) ∧ (len : Int) ≤ 140737488351232 := by
  have hrb : reachBytes = 140737488351232 := rfl
  rcases Deep.open_slice Try.underlying22 h with ⟨hcs, hx⟩ | ⟨a, len', cap', m, n, D, Pl, hcs, _, hl, hm, hmm, hx, hcell⟩
  · simp only [List.cons.injEq, and_true, Value.slice.injEq] at hcs
    obtain ⟨rfl, rfl, rfl⟩ := hcs
    exact ⟨⟨[], rfl, Nat.le_refl _, fun i o ho => by simp at ho⟩, by decide⟩
  · simp only [List.cons.injEq, and_true, Value.slice.injEq] at hcs
    obtain ⟨rfl, rfl, rfl⟩ := hcs
    simp only [Prod.mk.injEq] at hx
    have hmc : m = cap := by simpa using hmm
    have k32 : Try.prog.cellsOf 32 = 5 := by kernel_rfl
    rw [k32] at hcell
    have hd := hx.1
    rw [hd] at hw
    simp only [DataW.weights, Try.underlying22, List.mem_cons, List.mem_append] at hw
    refine ⟨?_, ?_⟩
    · obtain ⟨os, h1, h2⟩ := list_of len (fun i (o : OpF) => ∃ b off, some a = some (⟨b, off, none⟩ : Addr) ∧ b < W.heap.size ∧ W.cell? ⟨b, off + i * 5, none⟩ = some (.int .i64 o.kind) ∧ W.cell? ⟨b, off + i * 5 + 1, none⟩ = some (.string (tx o.nm)) ∧ W.cell? ⟨b, off + i * 5 + 2, none⟩ = some (.int .i64 o.wt) ∧ W.cell? ⟨b, off + i * 5 + 3, none⟩ = some (.int .i64 o.id) ∧ W.cell? ⟨b, off + i * 5 + 4, none⟩ = some (.int .i64 o.cost)) (fun i hi => by
        obtain ⟨b, off, rfl⟩ : ∃ b off, a = ⟨b, off, none⟩ := by
          obtain ⟨cs, h1, _⟩ := hcell 0 (by omega)
          obtain ⟨_, hlen', hc'⟩ := World.cells?_some h1
          have h2 := hc' 0 (by omega)
          exact plain_addr (x := a) (v := cs[0]'(by omega)) (by
            have h3 : W.cell? a = cs[0]? := by simpa [Addr.add] using h2
            rw [h3]
            exact List.getElem?_eq_getElem (by omega))
        obtain ⟨cs, h1, h2⟩ := hcell i (by omega)
        rw [Addr.add_mid] at h1
        obtain ⟨_, hlen', hc'⟩ := World.cells?_some h1
        obtain ⟨o, ho⟩ := op_of hlen' h2
        have e : ∀ j, j < 5 → W.cell? ⟨b, off + i * 5 + j, none⟩ = cs[j]? := fun j hj => by
          have h3 := hc' j (by omega)
          rwa [Addr.add_mid] at h3
        have e0 := e 0 (by omega)
        have e1 := e 1 (by omega)
        have e2 := e 2 (by omega)
        have e3 := e 3 (by omega)
        have e4 := e 4 (by omega)
        rw [ho] at e0 e1 e2 e3 e4
        simp at e0 e1 e2 e3 e4
        exact ⟨o, b, off, rfl, cell_block e0, e0, e1, e2, e3, e4⟩)
      exact ⟨os, h1, hl, h2⟩
    · have h1 := hw _ (.inl rfl)
      rw [show Try.prog.bytesOf 32 = 48 from by kernel_rfl] at h1
      simp only [List.length_map, List.length_range] at h1
      omega
end Go.Proofs.Ytkigagglkmdccaa
