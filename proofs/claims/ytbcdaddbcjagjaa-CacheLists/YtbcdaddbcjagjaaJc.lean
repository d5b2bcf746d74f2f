/- What comes in: a list of ints; the kinds of a step. -/
import Derived.Test.YtbcdaddbcjagjaaJb
import Derived.Test.YtbcdaddbcjagjaaPc
namespace Go.Proofs.Ytbcdaddbcjagjaa
open Go.ChangeShapes Go.WideShapes Go.ChangeAt Go.RowKit
set_option linter.unusedVariables false

/-- Ints as they lie. -/
structure IntsAt (W : World) (sa : Option Addr) (len cap : Nat) (xs : List Int) : Prop where
  n : xs.length = len
  c : len ≤ cap
  l : ∀ (i : Nat) (x : Int), xs[i]? = some x → ∃ b off, sa = some ⟨b, off, none⟩ ∧ b < W.heap.size ∧ W.cell? ⟨b, off + i, none⟩ = some (.int .i64 x)
theorem IntsAt.later {W W' : World} {sa : Option Addr} {len cap B : Nat} {xs : List Int} (h : IntsAt W sa len cap xs) (hb : Below B W W') (hB : W.heap.size ≤ B) : IntsAt W' sa len cap xs := by
  refine ⟨h.n, h.c, fun i x hx => ?_⟩
  obtain ⟨b, off, e, hlt, h0⟩ := h.l i x hx
  exact ⟨b, off, e, by have := hb.size; omega, (hb.cell (p := ⟨b, off + i, none⟩) (by show b < B; omega)).trans h0⟩
set_option maxRecDepth 20000 in
theorem ints_arg {H : Type} {enc : TypeId × Value → H} {W : World} {fuel : Nat} {sa : Option Addr} {len cap : Nat} {d : DataW H} {q : List MemPlace} (h : DataW.trod enc Try.prog W 0 (fun _ => true) true fuel 22 [.slice sa len cap] = some (d, q)) (hw : ∀ n ∈ d.weights Try.prog 22, n ≤ reachBytes) :
    (∃ xs, IntsAt W sa len cap xs) ∧ (len : Int) ≤ 140737488351232 := by
  have hrb : reachBytes = 140737488351232 := rfl
  rcases Deep.open_slice Try.underlying22 h with ⟨hcs, hx⟩ | ⟨a, len', cap', m, n, D, Pl, hcs, _, hl, hm, hmm, hx, hcell⟩
  · simp only [List.cons.injEq, and_true, Value.slice.injEq] at hcs
    obtain ⟨rfl, rfl, rfl⟩ := hcs
    exact ⟨⟨[], rfl, Nat.le_refl _, fun i o ho => by simp at ho⟩, by decide⟩
  · simp only [List.cons.injEq, and_true, Value.slice.injEq] at hcs
    obtain ⟨rfl, rfl, rfl⟩ := hcs
    simp only [Prod.mk.injEq] at hx
    have hmc : m = cap := by simpa using hmm
    have k3 : Try.prog.cellsOf 3 = 1 := by kernel_rfl
    rw [k3] at hcell
    have hd := hx.1
    rw [hd] at hw
    simp only [DataW.weights, Try.underlying22, List.mem_cons, List.mem_append] at hw
    refine ⟨?_, ?_⟩
    · obtain ⟨xs, h1, h2⟩ := list_of len (fun i (x : Int) => ∃ b off, some a = some (⟨b, off, none⟩ : Addr) ∧ b < W.heap.size ∧ W.cell? ⟨b, off + i, none⟩ = some (.int .i64 x)) (fun i hi => by
        obtain ⟨b, off, rfl⟩ : ∃ b off, a = ⟨b, off, none⟩ := by
          obtain ⟨cs, h1, _⟩ := hcell 0 (by omega)
          obtain ⟨_, hlen', hc'⟩ := World.cells?_some h1
          have h2 := hc' 0 (by omega)
          exact plain_addr (x := a) (v := cs[0]'(by omega)) (by
            have h3 : W.cell? a = cs[0]? := by simpa [Addr.add] using h2
            rw [h3]
            exact List.getElem?_eq_getElem (by omega))
        obtain ⟨cs, h1, h2⟩ := hcell i (by omega)
        rw [Addr.add_mid, Nat.mul_one] at h1
        obtain ⟨_, hlen', hc'⟩ := World.cells?_some h1
        obtain ⟨x, hx', _, _⟩ := DataW.trod_int Try.underlying3 h2
        have h3 := hc' 0 (by omega)
        rw [Addr.add_mid, hx'] at h3
        simp at h3
        exact ⟨x, b, off, rfl, cell_block h3, h3⟩)
      exact ⟨xs, h1, hl, h2⟩
    · have h1 := hw _ (.inl rfl)
      rw [show Try.prog.bytesOf 3 = 8 from by kernel_rfl] at h1
      simp only [List.length_map, List.length_range] at h1
      omega
end Go.Proofs.Ytbcdaddbcjagjaa
