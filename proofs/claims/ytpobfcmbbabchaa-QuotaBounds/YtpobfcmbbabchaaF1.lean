/- What is asked of the program, by the blocks that a table has: one table, and one beside another. -/
import Derived.Test.YtpobfcmbbabchaaL8
namespace Go.Proofs.Ytpobfcmbbabchaa
open Go.RowKit
set_option linter.unusedVariables false
set_option linter.unusedSimpArgs false

/-- All that is not in some blocks lies as it lay; these are joined by new ones alone. -/
structure Fr (F F' : Nat → Prop) (w w' : World) : Prop where
  os : w'.os = w.os
  tape : w'.tape = w.tape
  output : w'.output = w.output
  size : w.heap.size ≤ w'.heap.size
  block : ∀ q, q < w.heap.size → ¬ F q → w'.heap[q]? = w.heap[q]?
  grow : ∀ q, F' q → F q ∨ w.heap.size ≤ q
theorem Fr.below {F F' : Nat → Prop} {w w' : World} {base : Nat} (h : Fr F F' w w') (hF : ∀ q, F q → base ≤ q) (hb : base ≤ w.heap.size) : Below base w w' :=
  ⟨h.os, h.tape, h.output, h.size, fun q hq => h.block q (by omega) fun hf => by have := hF q hf; omega⟩
theorem Fr.low {F F' : Nat → Prop} {w w' : World} {base : Nat} (h : Fr F F' w w') (hF : ∀ q, F q → base ≤ q) (hb : base ≤ w.heap.size) : ∀ q, F' q → base ≤ q := fun q hq => by
  rcases h.grow q hq with h' | h'
  · exact hF q h'
  · omega
/-- What is asked of the program. -/
structure PrgF (PF : World → Nat → (Nat → Prop) → List Bk → Prop) (bad : TypeId → Bool) : Prop where
  b39 : bad 39 = false
  b63 : bad 78 = false
  b32 : bad 32 = false
  at' : ∀ {w w' : World} {T : Nat} {F : Nat → Prop} {l : List Bk}, PF w T F l → (∀ q, F q → w'.heap[q]? = w.heap[q]?) → PF w' T F l
  lt : ∀ {w : World} {T : Nat} {F : Nat → Prop} {l : List Bk}, PF w T F l → ∀ q, F q → q < w.heap.size
  kind : ∀ {w : World} {T : Nat} {F : Nat → Prop} {l : List Bk}, PF w T F l → ∀ q, F q → ∃ o, w.heap[q]? = some o ∧ ∀ c t f, o = .cells c t f → badR t = false
  new : ∀ w : World, Calls Try.prog 11 #[] w fun e w' => ∃ T F, e = .returned (.pointer (some ⟨T, 0, none⟩)) ∧ PF w' T F [] ∧ (∀ q, F q → w.heap.size ≤ q) ∧ Below w.heap.size w w'
  set : ∀ (N : Int) (T : Nat) (F : Nat → Prop) (l : List Bk) (nm : List UInt8) (rate burst now : Int) (w : World), PF w T F l → Tok N l → N ≤ 1000000 →
    Calls Try.prog 15 #[.pointer (some ⟨T, 0, none⟩), .string (tx nm), .int .i64 rate, .int .i64 burst, .int .i64 now] w fun e w' => e = .returned (.int .i64 (setI l nm rate burst now).1) ∧ ∃ F', PF w' T F' (setI l nm rate burst now).2 ∧ Fr F F' w w' ∧ Kx bad w w'
  take : ∀ (N : Int) (T : Nat) (F : Nat → Prop) (l : List Bk) (nm : List UInt8) (cost now : Int) (w : World), PF w T F l → Tok N l → N ≤ 1000000 →
    Calls Try.prog 16 #[.pointer (some ⟨T, 0, none⟩), .string (tx nm), .int .i64 cost, .int .i64 now] w fun e w' => e = .returned (.int .i64 (takeI l nm cost now).1) ∧ ∃ F', PF w' T F' (takeI l nm cost now).2 ∧ Fr F F' w w' ∧ Kx bad w w'
  give : ∀ (N : Int) (T : Nat) (F : Nat → Prop) (l : List Bk) (nm : List UInt8) (cost now : Int) (w : World), PF w T F l → Tok N l → N ≤ 1000000 →
    Calls Try.prog 19 #[.pointer (some ⟨T, 0, none⟩), .string (tx nm), .int .i64 cost, .int .i64 now] w fun e w' => e = .returned (.int .i64 (giveI l nm cost now).1) ∧ ∃ F', PF w' T F' (giveI l nm cost now).2 ∧ Fr F F' w w' ∧ Kx bad w w'
  tok : ∀ (N : Int) (T : Nat) (F : Nat → Prop) (l : List Bk) (nm : List UInt8) (now : Int) (w : World), PF w T F l → Tok N l → N ≤ 1000000 →
    Calls Try.prog 12 #[.pointer (some ⟨T, 0, none⟩), .string (tx nm), .int .i64 now] w fun e w' => e = .returned (.tuple #[.int .i64 (tokI l nm now).1, .int .i64 (tokI l nm now).2.1]) ∧ ∃ F', PF w' T F' (tokI l nm now).2.2 ∧ Fr F F' w w' ∧ Kx bad w w'
  next : ∀ (N : Int) (T : Nat) (F : Nat → Prop) (l : List Bk) (nm : List UInt8) (cost now : Int) (w : World), PF w T F l → Tok N l → N ≤ 1000000 →
    Calls Try.prog 17 #[.pointer (some ⟨T, 0, none⟩), .string (tx nm), .int .i64 cost, .int .i64 now] w fun e w' => e = .returned (.tuple #[.int .i64 (nextI l nm cost now).1.1, .int .i64 (nextI l nm cost now).1.2]) ∧ ∃ F', PF w' T F' (nextI l nm cost now).2 ∧ Fr F F' w w' ∧ Kx bad w w'
  cnt : ∀ (N : Int) (T : Nat) (F : Nat → Prop) (l : List Bk) (nm : List UInt8) (w : World), PF w T F l → Tok N l → N ≤ 1000000 →
    Calls Try.prog 14 #[.pointer (some ⟨T, 0, none⟩), .string (tx nm)] w fun e w' => e = .returned (cntV (cntI l nm)) ∧ ∃ F', PF w' T F' l ∧ Fr F F' w w' ∧ Kx bad w w'
  drop : ∀ (N : Int) (T : Nat) (F : Nat → Prop) (l : List Bk) (nm : List UInt8) (w : World), PF w T F l → Tok N l → N ≤ 1000000 →
    Calls Try.prog 20 #[.pointer (some ⟨T, 0, none⟩), .string (tx nm)] w fun e w' => e = .returned (.int .i64 (dropI l nm).1) ∧ ∃ F', PF w' T F' (dropI l nm).2 ∧ Fr F F' w w' ∧ Kx bad w w'
  len : ∀ (N : Int) (T : Nat) (F : Nat → Prop) (l : List Bk) (w : World), PF w T F l → Tok N l → N ≤ 1000000 →
    Calls Try.prog 21 #[.pointer (some ⟨T, 0, none⟩)] w fun e w' => e = .returned (.int .i64 (l.length : Int)) ∧ ∃ F', PF w' T F' l ∧ Fr F F' w w' ∧ Kx bad w w'
  copy : ∀ (N : Int) (T : Nat) (F : Nat → Prop) (l : List Bk) (w : World), PF w T F l → Tok N l → N ≤ 1000000 →
    Calls Try.prog 18 #[.pointer (some ⟨T, 0, none⟩)] w fun e w' => ∃ U FU, e = .returned (.pointer (some ⟨U, 0, none⟩)) ∧ PF w' U FU l ∧ (∀ q, FU q → w.heap.size ≤ q) ∧ Below w.heap.size w w'
variable {PF : World → Nat → (Nat → Prop) → List Bk → Prop} {bad : TypeId → Bool}
theorem PrgF.kx (G : PrgF PF bad) {w w' : World} {T : Nat} {F : Nat → Prop} {l : List Bk} (h : PF w T F l) (hk : Kx badR w w') : PF w' T F l := G.at' h fun q hq => by
  obtain ⟨o, h1, h2⟩ := G.kind h q hq
  rw [h1, hk q o h1 h2]
theorem PrgF.later (G : PrgF PF bad) {w w' : World} {T B : Nat} {F : Nat → Prop} {l : List Bk} (h : PF w T F l) (hb : Below B w w') (hB : w.heap.size ≤ B) : PF w' T F l := G.at' h fun q hq => hb.block q (by have := G.lt h q hq; omega)
/-- A table from a place on. -/
def P1 (PF : World → Nat → (Nat → Prop) → List Bk → Prop) (w : World) (T base : Nat) (l : List Bk) : Prop := ∃ F, PF w T F l ∧ ∀ q, F q → base ≤ q
/-- A table beside another one that rests. -/
def P2 (PF : World → Nat → (Nat → Prop) → List Bk → Prop) (U : Nat) (m : List Bk) (w : World) (T base : Nat) (l : List Bk) : Prop := ∃ F FU, PF w T F l ∧ PF w U FU m ∧ (∀ q, F q → base ≤ q) ∧ (∀ q, FU q → base ≤ q) ∧ ∀ q, F q → ¬ FU q
theorem one_step {PF : World → Nat → (Nat → Prop) → List Bk → Prop} {bad : TypeId → Bool} {w w' : World} {T base : Nat} {F F' : Nat → Prop} {l' : List Bk} (hF : ∀ q, F q → base ≤ q) (hb : base ≤ w.heap.size) (h1 : PF w' T F' l') (h2 : Fr F F' w w') (h3 : Kx bad w w') : P1 PF w' T base l' ∧ Below base w w' ∧ Kx bad w w' :=
  ⟨⟨F', h1, h2.low hF hb⟩, h2.below hF hb, h3⟩
theorem two_step (G : PrgF PF bad) {w w' : World} {T U base : Nat} {F F' FU : Nat → Prop} {m l' : List Bk} (hF : ∀ q, F q → base ≤ q) (hFU : ∀ q, FU q → base ≤ q) (hU : PF w U FU m) (hd : ∀ q, F q → ¬ FU q) (hb : base ≤ w.heap.size) (h1 : PF w' T F' l') (h2 : Fr F F' w w') (h3 : Kx bad w w') : P2 PF U m w' T base l' ∧ Below base w w' ∧ Kx bad w w' := by
  refine ⟨⟨F', FU, h1, G.at' hU fun q hq => h2.block q (G.lt hU q hq) fun hf => hd q hf hq, h2.low hF hb, hFU, fun q hq hu => ?_⟩, h2.below hF hb, h3⟩
  rcases h2.grow q hq with h' | h'
  · exact hd q h' hu
  · have := G.lt hU q hu
    omega
theorem PrgF.one (G : PrgF PF bad) : Prg (P1 PF) bad where
  b39 := G.b39
  b63 := G.b63
  b32 := G.b32
  later := fun ⟨F, h, hF⟩ hb hB => ⟨F, G.later h hb hB, hF⟩
  kept := fun ⟨F, h, hF⟩ hk => ⟨F, G.kx h hk, hF⟩
  set := fun N T base l nm rate burst now w ⟨F, h, hF⟩ ht hN hb => (G.set N T F l nm rate burst now w h ht hN).mono fun e w' ⟨h0, F', h1, h2, h3⟩ => ⟨h0, one_step hF hb h1 h2 h3⟩
  take := fun N T base l nm cost now w ⟨F, h, hF⟩ ht hN hb => (G.take N T F l nm cost now w h ht hN).mono fun e w' ⟨h0, F', h1, h2, h3⟩ => ⟨h0, one_step hF hb h1 h2 h3⟩
  give := fun N T base l nm cost now w ⟨F, h, hF⟩ ht hN hb => (G.give N T F l nm cost now w h ht hN).mono fun e w' ⟨h0, F', h1, h2, h3⟩ => ⟨h0, one_step hF hb h1 h2 h3⟩
  tok := fun N T base l nm now w ⟨F, h, hF⟩ ht hN hb => (G.tok N T F l nm now w h ht hN).mono fun e w' ⟨h0, F', h1, h2, h3⟩ => ⟨h0, one_step hF hb h1 h2 h3⟩
  next := fun N T base l nm cost now w ⟨F, h, hF⟩ ht hN hb => (G.next N T F l nm cost now w h ht hN).mono fun e w' ⟨h0, F', h1, h2, h3⟩ => ⟨h0, one_step hF hb h1 h2 h3⟩
  cnt := fun N T base l nm w ⟨F, h, hF⟩ ht hN hb => (G.cnt N T F l nm w h ht hN).mono fun e w' ⟨h0, F', h1, h2, h3⟩ => ⟨h0, one_step hF hb h1 h2 h3⟩
  drop := fun N T base l nm w ⟨F, h, hF⟩ ht hN hb => (G.drop N T F l nm w h ht hN).mono fun e w' ⟨h0, F', h1, h2, h3⟩ => ⟨h0, one_step hF hb h1 h2 h3⟩
  len := fun N T base l w ⟨F, h, hF⟩ ht hN hb => (G.len N T F l w h ht hN).mono fun e w' ⟨h0, F', h1, h2, h3⟩ => ⟨h0, one_step hF hb h1 h2 h3⟩
theorem PrgF.oneN (G : PrgF PF bad) : PrgN (P1 PF) bad where
  prg := G.one
  new := fun w => (G.new w).mono fun e w' ⟨T, F, h0, h1, h2, h3⟩ => ⟨T, h0, ⟨F, h1, h2⟩, h3⟩
theorem PrgF.two (G : PrgF PF bad) (U : Nat) (m : List Bk) : Prg (P2 PF U m) bad where
  b39 := G.b39
  b63 := G.b63
  b32 := G.b32
  later := fun ⟨F, FU, h, hu, hF, hFU, hd⟩ hb hB => ⟨F, FU, G.later h hb hB, G.later hu hb hB, hF, hFU, hd⟩
  kept := fun ⟨F, FU, h, hu, hF, hFU, hd⟩ hk => ⟨F, FU, G.kx h hk, G.kx hu hk, hF, hFU, hd⟩
  set := fun N T base l nm rate burst now w ⟨F, FU, h, hu, hF, hFU, hd⟩ ht hN hb => (G.set N T F l nm rate burst now w h ht hN).mono fun e w' ⟨h0, F', h1, h2, h3⟩ => ⟨h0, two_step G hF hFU hu hd hb h1 h2 h3⟩
  take := fun N T base l nm cost now w ⟨F, FU, h, hu, hF, hFU, hd⟩ ht hN hb => (G.take N T F l nm cost now w h ht hN).mono fun e w' ⟨h0, F', h1, h2, h3⟩ => ⟨h0, two_step G hF hFU hu hd hb h1 h2 h3⟩
  give := fun N T base l nm cost now w ⟨F, FU, h, hu, hF, hFU, hd⟩ ht hN hb => (G.give N T F l nm cost now w h ht hN).mono fun e w' ⟨h0, F', h1, h2, h3⟩ => ⟨h0, two_step G hF hFU hu hd hb h1 h2 h3⟩
  tok := fun N T base l nm now w ⟨F, FU, h, hu, hF, hFU, hd⟩ ht hN hb => (G.tok N T F l nm now w h ht hN).mono fun e w' ⟨h0, F', h1, h2, h3⟩ => ⟨h0, two_step G hF hFU hu hd hb h1 h2 h3⟩
  next := fun N T base l nm cost now w ⟨F, FU, h, hu, hF, hFU, hd⟩ ht hN hb => (G.next N T F l nm cost now w h ht hN).mono fun e w' ⟨h0, F', h1, h2, h3⟩ => ⟨h0, two_step G hF hFU hu hd hb h1 h2 h3⟩
  cnt := fun N T base l nm w ⟨F, FU, h, hu, hF, hFU, hd⟩ ht hN hb => (G.cnt N T F l nm w h ht hN).mono fun e w' ⟨h0, F', h1, h2, h3⟩ => ⟨h0, two_step G hF hFU hu hd hb h1 h2 h3⟩
  drop := fun N T base l nm w ⟨F, FU, h, hu, hF, hFU, hd⟩ ht hN hb => (G.drop N T F l nm w h ht hN).mono fun e w' ⟨h0, F', h1, h2, h3⟩ => ⟨h0, two_step G hF hFU hu hd hb h1 h2 h3⟩
  len := fun N T base l w ⟨F, FU, h, hu, hF, hFU, hd⟩ ht hN hb => (G.len N T F l w h ht hN).mono fun e w' ⟨h0, F', h1, h2, h3⟩ => ⟨h0, two_step G hF hFU hu hd hb h1 h2 h3⟩
/-- The two change their parts. -/
theorem P2.swap {PF : World → Nat → (Nat → Prop) → List Bk → Prop} {U T base : Nat} {l m : List Bk} {w : World} (h : P2 PF U m w T base l) : P2 PF T l w U base m := by
  obtain ⟨F, FU, h1, h2, h3, h4, h5⟩ := h
  exact ⟨FU, F, h2, h1, h4, h3, fun q hu hf => h5 q hf hu⟩
theorem P2.left {PF : World → Nat → (Nat → Prop) → List Bk → Prop} {U T base : Nat} {l m : List Bk} {w : World} (h : P2 PF U m w T base l) : P1 PF w T base l := by
  obtain ⟨F, FU, h1, h2, h3, h4, h5⟩ := h
  exact ⟨F, h1, h3⟩
/-- A copy. -/
theorem PrgF.copied (G : PrgF PF bad) (N : Int) (T base : Nat) (l : List Bk) (w : World) (h : P1 PF w T base l) (ht : Tok N l) (hN : N ≤ 1000000) (hb : base ≤ w.heap.size) :
    Calls Try.prog 18 #[.pointer (some ⟨T, 0, none⟩)] w fun e w' => ∃ U, e = .returned (.pointer (some ⟨U, 0, none⟩)) ∧ P2 PF U l w' T base l ∧ Below w.heap.size w w' := by
  obtain ⟨F, h1, h2⟩ := h
  refine (G.copy N T F l w h1 ht hN).mono fun e w' ⟨U, FU, h0, h3, h4, h5⟩ => ⟨U, h0, ⟨F, FU, G.later h1 h5 (Nat.le_refl _), h3, h2, fun q hq => Nat.le_trans hb (h4 q hq), fun q hq hu => ?_⟩, h5⟩
  have := G.lt h1 q hq
  have := h4 q hu
  omega
/-- A new table beside one. -/
theorem PrgF.beside (G : PrgF PF bad) (T base : Nat) (l : List Bk) (w : World) (h : P1 PF w T base l) (hb : base ≤ w.heap.size) :
    Calls Try.prog 11 #[] w fun e w' => ∃ U, e = .returned (.pointer (some ⟨U, 0, none⟩)) ∧ P2 PF T l w' U base [] ∧ Below w.heap.size w w' := by
  obtain ⟨F, h1, h2⟩ := h
  refine (G.new w).mono fun e w' ⟨U, FU, h0, h3, h4, h5⟩ => ⟨U, h0, ⟨FU, F, h3, G.later h1 h5 (Nat.le_refl _), fun q hq => Nat.le_trans hb (h4 q hq), h2, fun q hu hq => ?_⟩, h5⟩
  have := G.lt h1 q hq
  have := h4 q hu
  omega
end Go.Proofs.Ytpobfcmbbabchaa
