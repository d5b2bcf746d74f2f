/- What is asked of the program's queues; queues and a list beside them. -/
import Derived.Test.YtfndbllpnkhlhaaL1
namespace Go.Proofs.Ytfndbllpnkhlhaa
open Go.RowKit
set_option linter.unusedVariables false
set_option linter.unusedSimpArgs false

def iv (x : Int) : List Value := [.int .i64 x]
theorem iv_len (x : Int) : (iv x).length = 1 := rfl
theorem iv_one (x : Int) : ∀ u ∈ iv x, u.oneCell' = true := fun u hu => by simp [iv] at hu; subst hu; rfl
theorem iv_at : ∀ (l : List Int) (j : Nat), (fl iv l)[j]? = (l[j]?).map (Value.int .i64)
  | [], j => by simp [fl]
  | x :: r, 0 => by simp [fl, iv]
  | x :: r, j + 1 => by simp [fl, iv, iv_at r j]
/-- What is asked of the program's queues. -/
structure PrgQ (PQ : World → Nat → (Nat → Prop) → Int → List Int → Prop) : Prop where
  at' : ∀ {w w' : World} {Q : Nat} {F : Nat → Prop} {most : Int} {l : List Int}, PQ w Q F most l → (∀ q, F q → w'.heap[q]? = w.heap[q]?) → PQ w' Q F most l
  lt : ∀ {w : World} {Q : Nat} {F : Nat → Prop} {most : Int} {l : List Int}, PQ w Q F most l → ∀ q, F q → q < w.heap.size
  nothing : ∀ (most : Int) (w : World), most < 1 → Calls Try.prog 9 #[.int .i64 most] w fun e w' => e = .returned (.pointer none) ∧ Below w.heap.size w w'
  new : ∀ (most : Int) (w : World), 1 ≤ most → Calls Try.prog 9 #[.int .i64 most] w fun e w' => ∃ Q F, e = .returned (.pointer (some ⟨Q, 0, none⟩)) ∧ PQ w' Q F most [] ∧ (∀ q, F q → w.heap.size ≤ q) ∧ Below w.heap.size w w'
  push : ∀ (Q : Nat) (F : Nat → Prop) (most : Int) (l : List Int) (x : Int) (w : World), PQ w Q F most l → 1 ≤ most → l.length ≤ 1000 →
    Calls Try.prog 11 #[.pointer (some ⟨Q, 0, none⟩), .int .i64 x] w fun e w' => e = .returned (.int .i64 (if most ≤ l.length then 200 else 0)) ∧ ∃ F', PQ w' Q F' most (if most ≤ l.length then l else l ++ [x]) ∧ Fr F F' w w'
  drop : ∀ (Q : Nat) (F : Nat → Prop) (most : Int) (l : List Int) (w : World), PQ w Q F most l → 1 ≤ most → l.length ≤ 1000 →
    Calls Try.prog 12 #[.pointer (some ⟨Q, 0, none⟩)] w fun e w' => e = .returned (.int .i64 (l.length : Int)) ∧ ∃ F', PQ w' Q F' most [] ∧ Fr F F' w w'
  peek : ∀ (Q : Nat) (F : Nat → Prop) (most : Int) (l : List Int) (w : World), PQ w Q F most l → 1 ≤ most → l.length ≤ 1000 →
    Calls Try.prog 13 #[.pointer (some ⟨Q, 0, none⟩)] w fun e w' => e = .returned (.tuple #[.int .i64 (l.headD 0), .bool (!l.isEmpty)]) ∧ ∃ F', PQ w' Q F' most l ∧ Fr F F' w w'
  pop : ∀ (Q : Nat) (F : Nat → Prop) (most : Int) (l : List Int) (w : World), PQ w Q F most l → 1 ≤ most → l.length ≤ 1000 →
    Calls Try.prog 14 #[.pointer (some ⟨Q, 0, none⟩)] w fun e w' => e = .returned (.tuple #[.int .i64 (l.headD 0), .bool (!l.isEmpty)]) ∧ ∃ F', PQ w' Q F' most l.tail ∧ Fr F F' w w'
  all : ∀ (Q : Nat) (F : Nat → Prop) (most : Int) (l : List Int) (w : World), PQ w Q F most l → 1 ≤ most → l.length ≤ 1000 →
    Calls Try.prog 15 #[.pointer (some ⟨Q, 0, none⟩)] w fun e w' => ∃ a c, e = .returned (.slice a l.length c) ∧ l.length ≤ c ∧ ∃ F', PQ w' Q F' most l ∧ Fr F F' w w' ∧ (l = [] ∨ (w'.ownsRow w.heap.size 3 1 (.slice a l.length c) l.length (fl iv l) ∧ ∀ q, (Value.slice a l.length c).ownBlock = some q → ¬ F' q))
  len : ∀ (Q : Nat) (F : Nat → Prop) (most : Int) (l : List Int) (w : World), PQ w Q F most l → 1 ≤ most → l.length ≤ 1000 →
    Calls Try.prog 16 #[.pointer (some ⟨Q, 0, none⟩)] w fun e w' => e = .returned (.int .i64 (l.length : Int)) ∧ ∃ F', PQ w' Q F' most l ∧ Fr F F' w w'
variable {PQ : World → Nat → (Nat → Prop) → Int → List Int → Prop}
theorem PrgQ.later (G : PrgQ PQ) {w w' : World} {Q B : Nat} {F : Nat → Prop} {most : Int} {l : List Int} (h : PQ w Q F most l) (hb : Below B w w') (hB : w.heap.size ≤ B) : PQ w' Q F most l := G.at' h fun q hq => hb.block q (by have := G.lt h q hq; omega)
/-- A queue, a list beside it, and blocks that are in neither. -/
def QM (PQ : World → Nat → (Nat → Prop) → Int → List Int → Prop) (A : Nat → Prop) (base : Nat) (w0 w : World) (Q : Nat) (most : Int) (ql : List Int) (lv : Value) (l : List Int) : Prop :=
  ∃ F, PQ w Q F most ql ∧ (∀ q, F q → base ≤ q) ∧ Tl iv 1 w base 3 lv l ∧ (∀ q, lv.ownBlock = some q → ¬ F q) ∧ (∀ q, A q → ¬ F q ∧ lv.ownBlock ≠ some q) ∧ base ≤ w.heap.size ∧ Below base w0 w
theorem qm_call {base : Nat} {w0 w w' : World} {Q : Nat} {most : Int} {ql' : List Int} {lv : Value} {l : List Int} {F F' : Nat → Prop} (hF : ∀ q, F q → base ≤ q) (hT : Tl iv 1 w base 3 lv l) (hd : ∀ q, lv.ownBlock = some q → ¬ F q) (hb : base ≤ w.heap.size) (hB : Below base w0 w) (h1 : PQ w' Q F' most ql') (h2 : Fr F F' w w') : QM PQ (fun _ => False) base w0 w' Q most ql' lv l := by
  refine ⟨F', h1, h2.low hF hb, hT.at' fun q hq => h2.block q (hT.lt hq).2 (hd q hq), fun q hq hf => ?_, fun q hq => hq.elim, by have := h2.size; omega, hB.trans (h2.below hF hb)⟩
  rcases h2.grow q hf with h' | h'
  · exact hd q hq h'
  · have := (hT.lt hq).2
    omega
theorem QM.later (G : PrgQ PQ) {A : Nat → Prop} {base B : Nat} {w0 w w' : World} {Q : Nat} {most : Int} {ql : List Int} {lv : Value} {l : List Int} (h : QM PQ A base w0 w Q most ql lv l) (hb : Below B w w') (hB : w.heap.size ≤ B) : QM PQ A base w0 w' Q most ql lv l := by
  obtain ⟨F, h1, h2, h3, h4, h5, h6, h7⟩ := h
  exact ⟨F, G.later h1 hb hB, h2, h3.later hb hB, h4, h5, by have := hb.size; omega, h7.trans (hb.mono (by omega))⟩
theorem QM.free {A : Nat → Prop} {base : Nat} {w0 w : World} {Q : Nat} {most : Int} {ql : List Int} {lv : Value} {l : List Int} (h : QM PQ A base w0 w Q most ql lv l) : QM PQ (fun _ => False) base w0 w Q most ql lv l := by
  obtain ⟨F, h1, h2, h3, h4, h5, h6, h7⟩ := h
  exact ⟨F, h1, h2, h3, h4, fun q hq => hq.elim, h6, h7⟩
theorem QM.nil {A : Nat → Prop} {base : Nat} {w0 w : World} {Q : Nat} {most : Int} {ql : List Int} {lv : Value} {l : List Int} (h : QM PQ A base w0 w Q most ql lv l) : QM PQ (fun _ => False) base w0 w Q most ql (.slice none 0 0) [] := by
  obtain ⟨F, h1, h2, h3, h4, h5, h6, h7⟩ := h
  exact ⟨F, h1, h2, Tl.nil _ _ _, fun q hq => (nomatch hq), fun q hq => hq.elim, h6, h7⟩
theorem QM.tl {A : Nat → Prop} {base : Nat} {w0 w : World} {Q : Nat} {most : Int} {ql : List Int} {lv : Value} {l : List Int} (h : QM PQ A base w0 w Q most ql lv l) : Tl iv 1 w base 3 lv l := by
  obtain ⟨F, h1, h2, h3, h4, h5, h6, h7⟩ := h
  exact h3
theorem QM.bel {A : Nat → Prop} {base : Nat} {w0 w : World} {Q : Nat} {most : Int} {ql : List Int} {lv : Value} {l : List Int} (h : QM PQ A base w0 w Q most ql lv l) : Below base w0 w := by
  obtain ⟨F, h1, h2, h3, h4, h5, h6, h7⟩ := h
  exact h7
/-- The list's first one goes. -/
theorem QM.behind {base : Nat} {w0 w : World} {Q : Nat} {most : Int} {ql : List Int} {g o cap : Nat} {x : Int} {l : List Int} (h : QM PQ (fun _ => False) base w0 w Q most ql (.slice (some ⟨g, o, none⟩) (l.length + 1) cap) (x :: l)) : QM PQ (fun _ => False) base w0 w Q most ql (.slice (some ⟨g, if cap = 1 then o else o + 1, none⟩) l.length (cap - 1)) l := by
  obtain ⟨F, h1, h2, h3, h4, h5, h6, h7⟩ := h
  exact ⟨F, h1, h2, h3.behind iv_len, fun q hq => h4 q (by simpa [Value.ownBlock] using hq), fun q hq => hq.elim, h6, h7⟩
/-- One is put behind the list. -/
theorem QM.append (G : PrgQ PQ) {base : Nat} {w0 w w' : World} {Q : Nat} {most : Int} {ql : List Int} {lv v' : Value} {l l' : List Int} (h : QM PQ (fun _ => False) base w0 w Q most ql lv l) (hT : Tl iv 1 w' base 3 v' l') (hg : w.grownBy w' lv.ownBlock) (ho : v'.ownBlock = lv.ownBlock ∨ v'.ownBlock = some w.heap.size) : QM PQ (fun _ => False) base w0 w' Q most ql v' l' := by
  obtain ⟨F, h1, h2, h3, h4, h5, h6, h7⟩ := h
  refine ⟨F, G.at' h1 fun q hq => hg.block q (G.lt h1 q hq) fun e => h4 q e.symm hq, h2, hT, fun q hq hf => ?_, fun q hq => hq.elim, by have := hg.size; omega, h7.trans ⟨hg.os, hg.tape, hg.output, hg.size, fun q hq => hg.block q (by omega) fun e => by have := (h3.lt e.symm).1; omega⟩⟩
  rcases ho with ho | ho
  · exact h4 q (ho ▸ hq) hf
  · rw [ho] at hq
    have := G.lt h1 q hf
    cases hq
    omega
/-- A cell of a block beside them is set. -/
theorem QM.setCell (G : PrgQ PQ) {A : Nat → Prop} {base : Nat} {w0 w : World} {Q : Nat} {most : Int} {ql : List Int} {lv : Value} {l : List Int} (h : QM PQ A base w0 w Q most ql lv l) {g i : Nat} (hA : A g) (hg : base ≤ g) (v : Value) : QM PQ A base w0 (w.setCell ⟨g, i, none⟩ v) Q most ql lv l := by
  obtain ⟨F, h1, h2, h3, h4, h5, h6, h7⟩ := h
  refine ⟨F, G.at' h1 fun q hq => Below.heap_setCell _ _ _ _ fun e => (h5 g hA).1 ((show q = g from e) ▸ hq), h2, h3.at' fun q hq => Below.heap_setCell _ _ _ _ fun e => (h5 g hA).2 ((show q = g from e) ▸ hq), h4, h5, by simpa using h6, h7.setCell hg _⟩
theorem QM.push (G : PrgQ PQ) {base : Nat} {w0 w : World} {Q : Nat} {most : Int} {ql : List Int} {lv : Value} {l : List Int} (h : QM PQ (fun _ => False) base w0 w Q most ql lv l) (x : Int) (hm : 1 ≤ most) (hl : ql.length ≤ 1000) :
    Calls Try.prog 11 #[.pointer (some ⟨Q, 0, none⟩), .int .i64 x] w fun e w' => e = .returned (.int .i64 (if most ≤ ql.length then 200 else 0)) ∧ QM PQ (fun _ => False) base w0 w' Q most (if most ≤ ql.length then ql else ql ++ [x]) lv l := by
  obtain ⟨F, h1, h2, h3, h4, h5, h6, h7⟩ := h
  exact (G.push Q F most ql x w h1 hm hl).mono fun e w' ⟨h0, F', k1, k2⟩ => ⟨h0, qm_call h2 h3 h4 h6 h7 k1 k2⟩
theorem QM.drop (G : PrgQ PQ) {base : Nat} {w0 w : World} {Q : Nat} {most : Int} {ql : List Int} {lv : Value} {l : List Int} (h : QM PQ (fun _ => False) base w0 w Q most ql lv l) (hm : 1 ≤ most) (hl : ql.length ≤ 1000) :
    Calls Try.prog 12 #[.pointer (some ⟨Q, 0, none⟩)] w fun e w' => e = .returned (.int .i64 (ql.length : Int)) ∧ QM PQ (fun _ => False) base w0 w' Q most [] lv l := by
  obtain ⟨F, h1, h2, h3, h4, h5, h6, h7⟩ := h
  exact (G.drop Q F most ql w h1 hm hl).mono fun e w' ⟨h0, F', k1, k2⟩ => ⟨h0, qm_call h2 h3 h4 h6 h7 k1 k2⟩
theorem QM.peek (G : PrgQ PQ) {base : Nat} {w0 w : World} {Q : Nat} {most : Int} {ql : List Int} {lv : Value} {l : List Int} (h : QM PQ (fun _ => False) base w0 w Q most ql lv l) (hm : 1 ≤ most) (hl : ql.length ≤ 1000) :
    Calls Try.prog 13 #[.pointer (some ⟨Q, 0, none⟩)] w fun e w' => e = .returned (.tuple #[.int .i64 (ql.headD 0), .bool (!ql.isEmpty)]) ∧ QM PQ (fun _ => False) base w0 w' Q most ql lv l := by
  obtain ⟨F, h1, h2, h3, h4, h5, h6, h7⟩ := h
  exact (G.peek Q F most ql w h1 hm hl).mono fun e w' ⟨h0, F', k1, k2⟩ => ⟨h0, qm_call h2 h3 h4 h6 h7 k1 k2⟩
theorem QM.pop (G : PrgQ PQ) {base : Nat} {w0 w : World} {Q : Nat} {most : Int} {ql : List Int} {lv : Value} {l : List Int} (h : QM PQ (fun _ => False) base w0 w Q most ql lv l) (hm : 1 ≤ most) (hl : ql.length ≤ 1000) :
    Calls Try.prog 14 #[.pointer (some ⟨Q, 0, none⟩)] w fun e w' => e = .returned (.tuple #[.int .i64 (ql.headD 0), .bool (!ql.isEmpty)]) ∧ QM PQ (fun _ => False) base w0 w' Q most ql.tail lv l := by
  obtain ⟨F, h1, h2, h3, h4, h5, h6, h7⟩ := h
  exact (G.pop Q F most ql w h1 hm hl).mono fun e w' ⟨h0, F', k1, k2⟩ => ⟨h0, qm_call h2 h3 h4 h6 h7 k1 k2⟩
theorem QM.len (G : PrgQ PQ) {A : Nat → Prop} {base : Nat} {w0 w : World} {Q : Nat} {most : Int} {ql : List Int} {lv : Value} {l : List Int} {a : Option Addr} {c : Nat} (h : QM PQ A base w0 w Q most ql lv l) (hm : 1 ≤ most) (hl : ql.length ≤ 1000) (hr : ql = [] ∨ (w.ownsRow base 3 1 (.slice a ql.length c) ql.length (fl iv ql) ∧ ∀ q, (Value.slice a ql.length c).ownBlock = some q → A q)) :
    Calls Try.prog 16 #[.pointer (some ⟨Q, 0, none⟩)] w fun e w' => e = .returned (.int .i64 (ql.length : Int)) ∧ (∃ A', QM PQ A' base w0 w' Q most ql lv l ∧ (ql = [] ∨ (w'.ownsRow base 3 1 (.slice a ql.length c) ql.length (fl iv ql) ∧ ∀ q, (Value.slice a ql.length c).ownBlock = some q → A' q))) := by
  obtain ⟨F, h1, h2, h3, h4, h5, h6, h7⟩ := h
  refine (G.len Q F most ql w h1 hm hl).mono fun e w' ⟨h0, F', k1, k2⟩ => ⟨h0, ?_⟩
  obtain ⟨F2, q1, q2, q3, q4, q5, q6, q7⟩ := qm_call (PQ := PQ) h2 h3 h4 h6 h7 k1 k2
  rcases hr with hr | ⟨hr, hA⟩
  · exact ⟨fun _ => False, ⟨F2, q1, q2, q3, q4, q5, q6, q7⟩, .inl hr⟩
  · refine ⟨fun q => (Value.slice a ql.length c).ownBlock = some q, ⟨F', k1, k2.low h2 h6, h3.at' fun q hq => k2.block q (h3.lt hq).2 (h4 q hq), fun q hq hf => ?_, fun q hq => ⟨fun hf => ?_, (h5 q (hA q hq)).2⟩, by have := k2.size; omega, h7.trans (k2.below h2 h6)⟩, .inr ⟨own_at hr fun q hq => k2.block q (hr.lt q hq).2 (h5 q (hA q hq)).1, fun q hq => hq⟩⟩
    · rcases k2.grow q hf with h' | h'
      · exact h4 q hq h'
      · have := (h3.lt hq).2; omega
    · rcases k2.grow q hf with h' | h'
      · exact (h5 q (hA q hq)).1 h'
      · have := (hr.lt q hq).2; omega
theorem QM.all (G : PrgQ PQ) {base : Nat} {w0 w : World} {Q : Nat} {most : Int} {ql : List Int} {lv : Value} {l : List Int} (h : QM PQ (fun _ => False) base w0 w Q most ql lv l) (hm : 1 ≤ most) (hl : ql.length ≤ 1000) :
    Calls Try.prog 15 #[.pointer (some ⟨Q, 0, none⟩)] w fun e w' => ∃ a c, e = .returned (.slice a ql.length c) ∧ ql.length ≤ c ∧ ∃ A, QM PQ A base w0 w' Q most ql lv l ∧ (ql = [] ∨ (w'.ownsRow base 3 1 (.slice a ql.length c) ql.length (fl iv ql) ∧ ∀ q, (Value.slice a ql.length c).ownBlock = some q → A q)) := by
  obtain ⟨F, h1, h2, h3, h4, h5, h6, h7⟩ := h
  refine (G.all Q F most ql w h1 hm hl).mono fun e w' ⟨a, c, h0, hc, F', k1, k2, k3⟩ => ⟨a, c, h0, hc, ?_⟩
  rcases k3 with k3 | ⟨k3, k4⟩
  · exact ⟨fun _ => False, qm_call h2 h3 h4 h6 h7 k1 k2, .inl k3⟩
  · refine ⟨fun q => (Value.slice a ql.length c).ownBlock = some q, ⟨F', k1, k2.low h2 h6, h3.at' fun q hq => k2.block q (h3.lt hq).2 (h4 q hq), fun q hq hf => ?_, fun q hq => ⟨k4 q hq, fun e => ?_⟩, by have := k2.size; omega, h7.trans (k2.below h2 h6)⟩, .inr ⟨own_low k3 h6, fun q hq => hq⟩⟩
    · rcases k2.grow q hf with h' | h'
      · exact h4 q hq h'
      · have := (h3.lt hq).2; omega
    · have := (h3.lt e).2
      have := (k3.lt q hq).1
      omega
end Go.Proofs.Ytfndbllpnkhlhaa
