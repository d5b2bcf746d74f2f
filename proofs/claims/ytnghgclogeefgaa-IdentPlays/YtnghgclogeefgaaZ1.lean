/- Calls that came in. -/
import Derived.Test.YtnghgclogeefgaaY1
import Derived.Deep.Slices
import Derived.OpenShut
import Derived.ProofKit
import Derived.SizedLaws
namespace Go.Proofs.Ytnghgclogeefgaa
open Go.ChangeShapes Go.WideShapes Go.ChangeAt Go.RowKit
set_option linter.unusedVariables false

theorem plain_addr {W : World} {x : Addr} {v : Value} (h : W.cell? x = some v) : ∃ b off, x = ⟨b, off, none⟩ := by
  obtain ⟨bb, off, sp⟩ := x
  cases sp with
  | none => exact ⟨bb, off, rfl⟩
  | some q =>
    simp [World.cell?] at h
    split at h <;> simp at h
theorem op_of {H : Type} {enc : TypeId × Value → H} {W : World} {fuel b o : Nat} {cs : List Value} {x : DataW H × List MemPlace} (hc : W.cells? 0 ⟨b, o, none⟩ 5 = some cs) (h : DataW.trod enc Try.prog W 0 (fun _ => true) true fuel 41 cs = some x) :
    ∃ (K I N S : Int) (P : ByteArray), W.cell? ⟨b, o, none⟩ = some (.int .i64 K) ∧ W.cell? ⟨b, o + 1, none⟩ = some (.string P) ∧ W.cell? ⟨b, o + 2, none⟩ = some (.int .i64 I) ∧ W.cell? ⟨b, o + 3, none⟩ = some (.int .i64 N) ∧ W.cell? ⟨b, o + 4, none⟩ = some (.int .i64 S) := by
  obtain ⟨_, hlen, hcell⟩ := World.cells?_some hc
  obtain ⟨xs, k, hk, hxy, _, hxl, hf⟩ := DataW.trod_struct Try.underlying41 h
  match xs, hxl, cs, hlen with
  | [y0, y1, y2, y3, y4], _, [v0, v1, v2, v3, v4], _ =>
    have g0 := hf 0 _ rfl
    have g1 := hf 1 _ rfl
    have g2 := hf 2 _ rfl
    have g3 := hf 3 _ rfl
    have g4 := hf 4 _ rfl
    have k3 : Try.prog.cellsOf 3 = 1 := by kernel_rfl
    have k2 : Try.prog.cellsOf 2 = 1 := by kernel_rfl
    have k9 : Try.prog.cellsOf 9 = 1 := by kernel_rfl
    simp [k3, k2, k9] at g0 g1 g2 g3 g4
    have e0 := hcell 0 (by omega)
    have e1 := hcell 1 (by omega)
    have e2 := hcell 2 (by omega)
    have e3 := hcell 3 (by omega)
    have e4 := hcell 4 (by omega)
    rw [Addr.add_mid] at e0 e1 e2 e3 e4
    simp at e0 e1 e2 e3 e4
    obtain ⟨K, hK, _, _⟩ := DataW.trod_int Try.underlying3 g0
    obtain ⟨P, hP, _, _⟩ := DataW.trod_string Try.underlying9 g1
    obtain ⟨I, hI, _, _⟩ := DataW.trod_int Try.underlying2 g2
    obtain ⟨N, hN, _, _⟩ := DataW.trod_int Try.underlying2 g3
    obtain ⟨S, hS, _, _⟩ := DataW.trod_int Try.underlying2 g4
    simp only [List.cons.injEq, and_true] at hK hP hI hN hS
    exact ⟨K, I, N, S, P, by rw [← hK]; exact e0, by rw [← hP]; exact e1, by rw [← hI]; exact e2, by rw [← hN]; exact e3, by rw [← hS]; exact e4⟩
theorem ops_arg {H : Type} {enc : TypeId × Value → H} {W : World} {fuel : Nat} {sa : Option Addr} {len cap : Nat} {d : DataW H} {q : List MemPlace} (h : DataW.trod enc Try.prog W 0 (fun _ => true) true fuel 33 [.slice sa len cap] = some (d, q)) :
    OpsIn W sa len cap ∧ (d = .nil ∧ len = 0 ∨ ∃ es sp, d = .slice es sp ∧ es.length = len) := by
  rcases Deep.open_slice Try.underlying33 h with ⟨hcs, hx⟩ | ⟨a, len', cap', m, n, D, Pl, hcs, _, hl, hm, hmm, hx, hcell⟩
  · simp only [List.cons.injEq, and_true, Value.slice.injEq] at hcs
    obtain ⟨rfl, rfl, rfl⟩ := hcs
    simp only [Prod.mk.injEq] at hx
    exact ⟨⟨Nat.le_refl _, fun i hi => by omega⟩, .inl ⟨hx.1, rfl⟩⟩
  · simp only [List.cons.injEq, and_true, Value.slice.injEq] at hcs
    obtain ⟨rfl, rfl, rfl⟩ := hcs
    simp only [Prod.mk.injEq] at hx
    have hmc : m = cap := by simpa using hmm
    have k41 : Try.prog.cellsOf 41 = 5 := by kernel_rfl
    rw [k41] at hcell
    refine ⟨⟨hl, fun i hi => ?_⟩, .inr ⟨_, _, hx.1, by simp⟩⟩
    obtain ⟨b, off, rfl⟩ : ∃ b off, a = ⟨b, off, none⟩ := by
      obtain ⟨cs, h1, _⟩ := hcell 0 (by omega)
      obtain ⟨_, hlen', hc'⟩ := World.cells?_some h1
      have h2 := hc' 0 (by omega)
      exact plain_addr (x := a) (v := cs[0]'(by omega)) (by
        have h3 : W.cell? a = cs[0]? := by simpa [Addr.add] using h2
        rw [h3]
        exact List.getElem?_eq_getElem (by omega))
    obtain ⟨cs, h1, h2⟩ := hcell i (by omega)
    rw [Addr.add_mid] at h1
    obtain ⟨K, I, N, S, P, c⟩ := op_of h1 h2
    exact ⟨b, off, K, I, N, S, P, rfl, c⟩
end Go.Proofs.Ytnghgclogeefgaa
