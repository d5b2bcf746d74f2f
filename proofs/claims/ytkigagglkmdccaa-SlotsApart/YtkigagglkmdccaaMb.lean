/- The jobs in fixed turns as they lie: a map of queues of tasks. -/
import Derived.Test.YtkigagglkmdccaaMa
namespace Go.Proofs.Ytkigagglkmdccaa
open Go.RowKit
set_option linter.unusedVariables false
set_option linter.unusedSimpArgs false

/-- A task: its block, its job, how many slots it needs. -/
structure Tk where
  p : Nat
  id : Int
  cost : Int
  needs : Int
def TkAt (w : World) (t : Tk) : Prop := w.heap[t.p]? = some (.cells #[.int .i64 t.id, .int .i64 t.cost, .int .i64 t.needs] 114 (0, 0))
/-- A tenant's line: its queue's block, when its entry was born, the queue's blocks, its tasks. -/
structure Lf where
  nm : List UInt8
  q : Nat
  born : Nat
  F : Nat → Prop
  ts : List Tk
def Lf.en (l : Lf) : En := ⟨l.nm, l.q, l.born⟩
def Lf.ps (l : Lf) : List Nat := l.ts.map Tk.p
/-- All the tasks' blocks. -/
def tps (ls : List Lf) : List Nat := ls.flatMap Lf.ps
structure MR (w : World) (B c : Nat) (ls : List Lf) : Prop where
  map : MapAt w B (ls.map Lf.en) c
  qs : ∀ l ∈ ls, PQ w l.q l.F 16 l.ps
  tk : ∀ l ∈ ls, ∀ t ∈ l.ts, TkAt w t
  more : ∀ l ∈ ls, l.ts ≠ []
  nm : (ls.map Lf.nm).Nodup
  ap : ∀ (i k : Nat) (a b : Lf), ls[i]? = some a → ls[k]? = some b → i ≠ k → ∀ q, a.F q → ¬ b.F q
  tp : ∀ (i k : Nat) (a b : Lf), ls[i]? = some a → ls[k]? = some b → i ≠ k → ∀ t ∈ a.ts, ∀ u ∈ b.ts, t.p ≠ u.p
  tn : ∀ l ∈ ls, l.ps.Nodup
/-- The blocks of all. -/
def MF (B : Nat) (ls : List Lf) (q : Nat) : Prop := q = B ∨ (∃ l ∈ ls, l.F q) ∨ q ∈ tps ls
theorem mem_tps {ls : List Lf} {q : Nat} : q ∈ tps ls ↔ ∃ l ∈ ls, ∃ t ∈ l.ts, t.p = q := by
  simp [tps, Lf.ps]
/-- What kinds of blocks a queue has. -/
theorem PQ.kind {w : World} {Q : Nat} {F : Nat → Prop} {most : Int} {l : List Nat} (h : PQ w Q F most l) {q : Nat} (hq : F q) : ∃ cs t, w.heap[q]? = some (.cells cs t (0, 0)) ∧ (t = 136 ∨ t = 111) := by
  obtain ⟨sv, h1, h2⟩ := h
  rcases (h2 q).1 hq with rfl | k
  · exact ⟨_, _, h1.box, .inl rfl⟩
  · obtain ⟨cur, hc⟩ := tl_tag h1.items k
    exact ⟨_, _, hc, .inr rfl⟩
theorem MR.q_ne_map {w : World} {B c : Nat} {ls : List Lf} (h : MR w B c ls) {l : Lf} (hl : l ∈ ls) {q : Nat} (hq : l.F q) : q ≠ B := fun e => by
  obtain ⟨cs, t, k, _⟩ := (h.qs l hl).kind hq
  have := h.map
  unfold MapAt at this
  rw [e, this] at k
  cases k
theorem MR.t_ne_map {w : World} {B c : Nat} {ls : List Lf} (h : MR w B c ls) {l : Lf} (hl : l ∈ ls) {t : Tk} (ht : t ∈ l.ts) : t.p ≠ B := fun e => by
  have k := h.tk l hl t ht
  have := h.map
  unfold MapAt at this
  unfold TkAt at k
  rw [e, this] at k
  cases k
theorem MR.t_ne_q {w : World} {B c : Nat} {ls : List Lf} (h : MR w B c ls) {l m : Lf} (hl : l ∈ ls) (hm : m ∈ ls) {t : Tk} (ht : t ∈ l.ts) : ¬ m.F t.p := fun e => by
  obtain ⟨cs, ty, k, hty⟩ := (h.qs m hm).kind e
  have k2 := h.tk l hl t ht
  unfold TkAt at k2
  rw [k2] at k
  rcases hty with rfl | rfl <;> cases k
theorem MR.lt {w : World} {B c : Nat} {ls : List Lf} (h : MR w B c ls) : ∀ q, MF B ls q → q < w.heap.size := by
  rintro q (rfl | ⟨l, hl, hq⟩ | hq)
  · exact (Array.getElem?_eq_some_iff.1 h.map).1
  · exact (h.qs l hl).lt q hq
  · obtain ⟨l, hl, t, ht, rfl⟩ := mem_tps.1 hq
    exact (Array.getElem?_eq_some_iff.1 (h.tk l hl t ht)).1
theorem MR.at' {w w' : World} {B c : Nat} {ls : List Lf} (h : MR w B c ls) (hk : ∀ q, MF B ls q → w'.heap[q]? = w.heap[q]?) : MR w' B c ls where
  map := (hk B (.inl rfl)).trans h.map
  qs := fun l hl => (h.qs l hl).at' fun q hq => hk q (.inr (.inl ⟨l, hl, hq⟩))
  tk := fun l hl t ht => (hk t.p (.inr (.inr (mem_tps.2 ⟨l, hl, t, ht, rfl⟩)))).trans (h.tk l hl t ht)
  more := h.more
  nm := h.nm
  ap := h.ap
  tp := h.tp
  tn := h.tn
/-- The line of a name. -/
def lnF (s : List UInt8) (ls : List Lf) : Option Lf := ls.find? fun l => decide (s = l.nm)
theorem fndE_none {s : List UInt8} : ∀ (ls : List Lf) (i : Nat), lnF s ls = none → fndE s (ls.map Lf.en) i = none
  | [], _, _ => rfl
  | l :: r, i, h => by
    unfold lnF at h
    rw [List.find?_cons] at h
    by_cases e : s = l.nm
    · simp [e] at h
    · simp only [e, decide_false] at h
      simp only [List.map_cons, fndE, Lf.en, e, if_false]
      exact fndE_none r (i + 1) h
theorem fndE_some {s : List UInt8} : ∀ (ls : List Lf) (i : Nat) {l : Lf}, lnF s ls = some l → ∃ j, fndE s (ls.map Lf.en) i = some (i + j, l.q) ∧ ls[j]? = some l ∧ l.nm = s
  | [], _, _, h => by simp [lnF] at h
  | m :: r, i, l, h => by
    unfold lnF at h
    rw [List.find?_cons] at h
    by_cases e : s = m.nm
    · simp only [e, decide_true] at h
      cases h
      exact ⟨0, by simp [fndE, Lf.en, e], rfl, e.symm⟩
    · simp only [e, decide_false] at h
      obtain ⟨j, h1, h2, h3⟩ := fndE_some r (i + 1) h
      refine ⟨j + 1, ?_, h2, h3⟩
      simp only [List.map_cons, fndE, Lf.en, e, if_false]
      rw [show i + (j + 1) = i + 1 + j by omega]
      exact h1
/-- The jobs of a name. -/
def tsF (s : List UInt8) (ls : List Lf) : List Tk := ((lnF s ls).map Lf.ts).getD []
theorem ilen_nil (w : World) : Calls Try.prog 80 #[.pointer none] w fun e w' => e = .returned (.int .i64 0) ∧ w' = w := by
  go_enter Try.func80, Try.ntmps80
  go_wp2
  go_ret
  exact ⟨rfl, rfl⟩
theorem len_at {w : World} {B c : Nat} {ls : List Lf} (h : MR w B c ls) (s : List UInt8) : Calls Try.prog 80 #[atE s (ls.map Lf.en)] w fun e w' => e = .returned (.int .i64 ((tsF s ls).length : Int)) ∧ w' = w := by
  unfold atE tsF
  cases hf : lnF s ls with
  | none =>
    rw [fndE_none ls 0 hf]
    exact ilen_nil w
  | some l =>
    obtain ⟨j, h1, h2, h3⟩ := fndE_some ls 0 hf
    rw [h1]
    obtain ⟨sv, k1, _⟩ := h.qs l (List.mem_of_getElem? h2)
    have := ilen_any l.q 16 sv l.ps w k1
    simpa [Lf.ps] using this
set_option maxRecDepth 20000 in
/-- turns.waiting. -/
theorem mwait_any {w : World} {B c : Nat} {ls : List Lf} (h : MR w B c ls) (s : List UInt8) : Calls Try.prog 44 #[.map (some B), .string (tx s)] w fun e w' => e = .returned (.int .i64 ((tsF s ls).length : Int)) ∧ w' = w := by
  have HL : Hid (Calls Try.prog 80 #[atE s (ls.map Lf.en)] w fun e w' => e = .returned (.int .i64 ((tsF s ls).length : Int)) ∧ w' = w) := len_at h s
  have hk := run_look h.map s
  clear h
  generalize atE s (ls.map Lf.en) = v at HL hk
  generalize (tsF s ls).length = n at HL ⊢
  go_enter Try.func44, Try.ntmps44
  go_wp2_with (go_at_call 80; refine HL.out.mono ?_; rintro e w1 ⟨rfl, hw1⟩; rw [hw1]; clear hw1)
  go_ret
  exact ⟨rfl, rfl⟩
theorem mwait_nil (w : World) (s : List UInt8) : Calls Try.prog 44 #[.map none, .string (tx s)] w fun e w' => e = .returned (.int .i64 0) ∧ w' = w := by
  have hk := run_look_nil w s
  go_enter Try.func44, Try.ntmps44
  go_wp2_with (go_at_call 80; refine (ilen_nil _).mono ?_; rintro e w1 ⟨rfl, hw1⟩; rw [hw1]; clear hw1)
  go_ret
  exact ⟨rfl, rfl⟩
end Go.Proofs.Ytkigagglkmdccaa
