/- A node leaves its place; a node is put at the first place: what is stored. -/
import Derived.Test.YtbcdaddbcjagjaaNa
namespace Go.Proofs.Ytbcdaddbcjagjaa
open Go.RowKit
set_option linter.unusedVariables false
set_option linter.unusedSimpArgs false

/-- The same heap. -/
structure Hq (V w' : World) : Prop where
  os : w'.os = V.os
  tape : w'.tape = V.tape
  output : w'.output = V.output
  heap : w'.heap = V.heap
def pN (a : Addr) : Value := .pointer (some a)
set_option maxRecDepth 20000 in
set_option maxHeartbeats 4000000 in
theorem leave_any {w : World} {N pb po qb qo : Nat} {v1 v2 : Value} (h3 : w.cell? ⟨N, 3, none⟩ = some (.pointer (some ⟨pb, po, none⟩))) (h4 : w.cell? ⟨N, 4, none⟩ = some (.pointer (some ⟨qb, qo, none⟩))) (hp : w.cell? ⟨pb, po + 4, none⟩ = some v1) (hpf : w.frozen? ⟨pb, po + 4, none⟩ = false) (hq : w.cell? ⟨qb, qo + 3, none⟩ = some v2) (hqf : w.frozen? ⟨qb, qo + 3, none⟩ = false) (np : ¬ N = pb) (nq : ¬ N = qb) (hx : pb = qb → po = qo) :
    Calls Try.prog 51 #[.pointer (some ⟨N, 0, none⟩)] w fun e w' => e = .returned (.tuple #[]) ∧ Hq ((w.setCell ⟨pb, po + 4, none⟩ (.pointer (some ⟨qb, qo, none⟩))).setCell ⟨qb, qo + 3, none⟩ (.pointer (some ⟨pb, po, none⟩))) w' := by
  go_enter Try.func51, Try.ntmps51
  have hne : (⟨qb, qo + 3, none⟩ : Addr) ≠ ⟨pb, po + 4, none⟩ := fun e => by
    have e1 := congrArg Addr.block e
    have e2 := congrArg Addr.off e
    simp only at e1 e2
    have := hx e1.symm
    omega
  have hq2 : (w.setCell ⟨pb, po + 4, none⟩ (.pointer (some ⟨qb, qo, none⟩))).cell? ⟨qb, qo + 3, none⟩ = some v2 := by rw [World.cell?_setCell_other _ _ _ _ hne.symm]; exact hq
  clear hne hx
  go_region
  go_end0
  exact ⟨rfl, rfl, rfl, rfl, rfl⟩
set_option maxRecDepth 20000 in
set_option maxHeartbeats 4000000 in
theorem lead_any {w : World} {L N fb fo : Nat} {v1 v2 v3 : Value} (h7 : w.cell? ⟨L, 7, none⟩ = some (.pointer (some ⟨fb, fo, none⟩))) (f7 : w.frozen? ⟨L, 7, none⟩ = false) (n3 : w.cell? ⟨N, 3, none⟩ = some v1) (n3f : w.frozen? ⟨N, 3, none⟩ = false) (n4 : w.cell? ⟨N, 4, none⟩ = some v2) (n4f : w.frozen? ⟨N, 4, none⟩ = false) (hq : w.cell? ⟨fb, fo + 3, none⟩ = some v3) (hqf : w.frozen? ⟨fb, fo + 3, none⟩ = false) (nl : ¬ N = L) (nf : ¬ N = fb) (hx : fb = L → fo = 3) :
    Calls Try.prog 52 #[.pointer (some ⟨L, 0, none⟩), .pointer (some ⟨N, 0, none⟩)] w fun e w' => e = .returned (.tuple #[]) ∧ Hq ((((w.setCell ⟨N, 3, none⟩ (.pointer (some ⟨L, 3, none⟩))).setCell ⟨N, 4, none⟩ (.pointer (some ⟨fb, fo, none⟩))).setCell ⟨L, 7, none⟩ (.pointer (some ⟨N, 0, none⟩))).setCell ⟨fb, fo + 3, none⟩ (.pointer (some ⟨N, 0, none⟩))) w' := by
  have nl' : ¬ L = N := fun e => nl e.symm
  have nf' : ¬ fb = N := fun e => nf e.symm
  go_enter Try.func52, Try.ntmps52
  go_wp2_with fail
  go_region
  obtain ⟨V, hV⟩ : ∃ V, ((w.setCell ⟨N, 3, none⟩ (.pointer (some ⟨L, 3, none⟩))).setCell ⟨N, 4, none⟩ (.pointer (some ⟨fb, fo, none⟩))).drew = V := ⟨_, rfl⟩
  have HV : Hid (Hq ((w.setCell ⟨N, 3, none⟩ (.pointer (some ⟨L, 3, none⟩))).setCell ⟨N, 4, none⟩ (.pointer (some ⟨fb, fo, none⟩))) V) := by rw [← hV]; exact ⟨rfl, rfl, rfl, rfl⟩
  have far : ∀ (b o : Nat), ¬ b = N → V.cell? ⟨b, o, none⟩ = w.cell? ⟨b, o, none⟩ := fun b o hb => by
    rw [← hV]
    show ((w.setCell ⟨N, 3, none⟩ _).setCell ⟨N, 4, none⟩ _).cell? _ = _
    rw [World.cell?_setCell_other _ _ _ _ (fun e => hb (congrArg Addr.block e).symm), World.cell?_setCell_other _ _ _ _ (fun e => hb (congrArg Addr.block e).symm)]
  have fz : ∀ a, V.frozen? a = w.frozen? a := fun a => by
    rw [← hV]
    show ((w.setCell ⟨N, 3, none⟩ _).setCell ⟨N, 4, none⟩ _).frozen? _ = _
    rw [World.frozen?_setCell, World.frozen?_setCell]
  have k3 : V.cell? ⟨N, 3, none⟩ = some (.pointer (some ⟨L, 3, none⟩)) := by
    rw [← hV]
    show ((w.setCell ⟨N, 3, none⟩ _).setCell ⟨N, 4, none⟩ _).cell? _ = _
    rw [World.cell?_setCell_other _ _ _ _ (fun e => by have := congrArg Addr.off e; simp at this), World.cell?_setCell_same _ _ _ n3]
  have k4 : V.cell? ⟨N, 4, none⟩ = some (.pointer (some ⟨fb, fo, none⟩)) := by
    rw [← hV]
    show ((w.setCell ⟨N, 3, none⟩ _).setCell ⟨N, 4, none⟩ _).cell? _ = _
    rw [World.cell?_setCell_same _ _ _ (u := v2) (by rw [World.cell?_setCell_other _ _ _ _ (fun e => by have := congrArg Addr.off e; simp at this)]; exact n4)]
  have k7 := (far L 7 nl').trans h7
  have kq := (far fb (fo + 3) nf').trans hq
  have g7 := (fz ⟨L, 7, none⟩).trans f7
  have gq := (fz ⟨fb, fo + 3, none⟩).trans hqf
  have kq2 : (V.setCell ⟨L, 7, none⟩ (.pointer (some ⟨N, 0, none⟩))).cell? ⟨fb, fo + 3, none⟩ = some v3 := by
    rw [World.cell?_setCell_other _ _ _ _ (fun e => by
      have e1 := congrArg Addr.block e
      have e2 := congrArg Addr.off e
      simp only at e1 e2
      have := hx e1.symm
      omega)]
    exact kq
  rw [hV]
  clear hV far fz h7 f7 n3 n3f n4 n4f hq hqf hx
  go_wp2_with fail
  go_region
  go_end0
  obtain ⟨h1, h2, h3, h4⟩ := HV.out
  exact ⟨rfl, h1, h2, h3, by show ((V.setCell _ _).setCell _ _).heap = _; unfold World.setCell; rw [h4]; rfl⟩
end Go.Proofs.Ytbcdaddbcjagjaa
