/- A table of fixed turns as it lies; Waiting, bound, Turn. -/
import Derived.Test.YtkigagglkmdccaaMh
import Derived.Test.YtkigagglkmdccaaNc
import Derived.Test.YtkigagglkmdccaaNe
import Derived.Test.YtkigagglkmdccaaKm
import Derived.Test.YtkigagglkmdccaaZa
import Derived.Test.YtkigagglkmdccaaZb
namespace Go.Proofs.Ytkigagglkmdccaa
open Go.RowKit
set_option linter.unusedVariables false
set_option linter.unusedSimpArgs false

/-- What else lies in the block of a table of fixed turns. -/
def Xt (slot : Int) (nv wv : Value) (B : Nat) : Ext := ⟨.int .i64 1, .int .i64 slot, nv, wv, .map (some B)⟩
/-- The parts of a table: names, weights, the map's block, the scheduler's blocks, the map's blocks. -/
structure Pa where
  nv : Value
  wv : Value
  B : Nat
  FS : Nat → Prop
  FM : Nat → Prop
/-- A plain table of fixed turns: the next slot's number, names, weights, the scheduler, the jobs. -/
structure Fx where
  slot : Int
  ns : List (List UInt8)
  wts : List Int
  s : Sc
  J : List UInt8 → List Wn
structure TR (w : World) (T : Nat) (a : Pa) (x : Fx) : Prop where
  sched : PF (Xt x.slot a.nv a.wv a.B) w T a.FS x.s
  names : RowS w a.nv x.ns
  weights : RowI w a.wv x.wts
  jobs : MP w a.B a.FM x.J
def TF (a : Pa) (q : Nat) : Prop := a.FS q ∨ a.nv.ownBlock = some q ∨ a.wv.ownBlock = some q ∨ a.FM q
/-- The kinds of a scheduler's blocks. -/
theorem PF.kind {X : Ext} {w : World} {T : Nat} {F : Nat → Prop} {s : Sc} (h : PF X w T F s) {q : Nat} (hq : F q) : ∃ cs t, w.heap[q]? = some (.cells cs t (0, 0)) ∧ (t = 65 ∨ t = 131 ∨ t = 130 ∨ t = 134 ∨ t = 99) := by
  obtain ⟨lv, m, srv, had, h1, h2, h3, h4⟩ := h
  rcases (h4 q).1 hq with rfl | hq | ⟨r, hr, rfl | rfl | hq⟩
  · exact ⟨_, _, h1.box, .inl rfl⟩
  · obtain ⟨cur, hc⟩ := own_tag h1.row hq
    exact ⟨_, _, hc, .inr (.inl rfl)⟩
  · exact ⟨_, _, h1.each r hr, .inr (.inr (.inl rfl))⟩
  · exact ⟨_, _, (h1.que r hr).box, .inr (.inr (.inr (.inl rfl)))⟩
  · obtain ⟨cur, hc⟩ := tl_tag (h1.que r hr).items hq
    exact ⟨_, _, hc, .inr (.inr (.inr (.inr rfl)))⟩
theorem MP.kind {w : World} {B : Nat} {F : Nat → Prop} {J : List UInt8 → List Wn} (h : MP w B F J) {q : Nat} (hq : F q) : (∃ es c, w.heap[q]? = some (.map es c)) ∨ ∃ cs t, w.heap[q]? = some (.cells cs t (0, 0)) ∧ (t = 136 ∨ t = 111 ∨ t = 114) := by
  obtain ⟨c, ls, h1, h2, h3⟩ := h
  rcases (h3 q).1 hq with rfl | ⟨l, hl, hq⟩ | hq
  · exact .inl ⟨_, _, h1.map⟩
  · obtain ⟨cs, t, k, hty⟩ := (h1.qs l hl).kind hq
    exact .inr ⟨cs, t, k, hty.elim .inl fun e => .inr (.inl e)⟩
  · obtain ⟨l, hl, t, ht, rfl⟩ := mem_tps.1 hq
    exact .inr ⟨_, _, h1.tk l hl t ht, .inr (.inr rfl)⟩
/-- No block is of two parts. -/
theorem TR.apart {w : World} {T : Nat} {a : Pa} {x : Fx} (h : TR w T a x) (q : Nat) : (a.FS q → ¬ a.FM q ∧ a.nv.ownBlock ≠ some q ∧ a.wv.ownBlock ≠ some q) ∧ (a.FM q → a.nv.ownBlock ≠ some q ∧ a.wv.ownBlock ≠ some q) ∧ (a.nv.ownBlock = some q → a.wv.ownBlock ≠ some q) := by
  have kn : a.nv.ownBlock = some q → ∃ cs, w.heap[q]? = some (.cells cs 9 (0, 0)) := fun k => own_tag h.names k
  have kw : a.wv.ownBlock = some q → ∃ cs, w.heap[q]? = some (.cells cs 3 (0, 0)) := fun k => own_tag h.weights k
  refine ⟨fun k => ⟨fun k' => ?_, fun k' => ?_, fun k' => ?_⟩, fun k => ⟨fun k' => ?_, fun k' => ?_⟩, fun k k' => ?_⟩
  · obtain ⟨cs, t, e, ht⟩ := h.sched.kind k
    rcases h.jobs.kind k' with ⟨es, c, e'⟩ | ⟨cs', t', e', ht'⟩
    · rw [e] at e'; cases e'
    · rw [e] at e'
      rcases ht with rfl | rfl | rfl | rfl | rfl <;> rcases ht' with rfl | rfl | rfl <;> cases e'
  · obtain ⟨cs, t, e, ht⟩ := h.sched.kind k
    obtain ⟨cs', e'⟩ := kn k'
    rw [e] at e'
    rcases ht with rfl | rfl | rfl | rfl | rfl <;> cases e'
  · obtain ⟨cs, t, e, ht⟩ := h.sched.kind k
    obtain ⟨cs', e'⟩ := kw k'
    rw [e] at e'
    rcases ht with rfl | rfl | rfl | rfl | rfl <;> cases e'
  · obtain ⟨cs', e'⟩ := kn k'
    rcases h.jobs.kind k with ⟨es, c, e⟩ | ⟨cs, t, e, ht⟩
    · rw [e] at e'; cases e'
    · rw [e] at e'
      rcases ht with rfl | rfl | rfl <;> cases e'
  · obtain ⟨cs', e'⟩ := kw k'
    rcases h.jobs.kind k with ⟨es, c, e⟩ | ⟨cs, t, e, ht⟩
    · rw [e] at e'; cases e'
    · rw [e] at e'
      rcases ht with rfl | rfl | rfl <;> cases e'
  · obtain ⟨cs, e⟩ := kn k
    obtain ⟨cs', e'⟩ := kw k'
    rw [e] at e'
    cases e'
theorem TR.at' {w w' : World} {T : Nat} {a : Pa} {x : Fx} (h : TR w T a x) (hk : ∀ q, TF a q → w'.heap[q]? = w.heap[q]?) : TR w' T a x :=
  ⟨h.sched.at' fun q hq => hk q (.inl hq), own_at h.names fun q hq => hk q (.inr (.inl hq)), own_at h.weights fun q hq => hk q (.inr (.inr (.inl hq))), h.jobs.at' fun q hq => hk q (.inr (.inr (.inr hq)))⟩
theorem TR.lt {w : World} {T : Nat} {a : Pa} {x : Fx} (h : TR w T a x) : ∀ q, TF a q → q < w.heap.size := by
  rintro q (hq | hq | hq | hq)
  · exact h.sched.lt q hq
  · obtain ⟨cs, e⟩ := own_tag h.names hq
    exact (Array.getElem?_eq_some_iff.1 e).1
  · obtain ⟨cs, e⟩ := own_tag h.weights hq
    exact (Array.getElem?_eq_some_iff.1 e).1
  · exact h.jobs.lt q hq
theorem TR.cells {w : World} {T : Nat} {a : Pa} {x : Fx} (h : TR w T a x) : w.cell? ⟨T, 0, none⟩ = some (.int .i64 1) ∧ w.cell? ⟨T, 1, none⟩ = some (.int .i64 x.slot) ∧ w.cell? ⟨T, 2, none⟩ = some a.nv ∧ w.cell? ⟨T, 3, none⟩ = some a.wv ∧ w.cell? ⟨T, 8, none⟩ = some (.map (some a.B)) := by
  obtain ⟨lv, m, srv, had, h1, h2, h3, h4⟩ := h.sched
  have e := h1.box
  exact ⟨by rw [cell_of_row _ _ _ _ _ _ e]; rfl, by rw [cell_of_row _ _ _ _ _ _ e]; rfl, by rw [cell_of_row _ _ _ _ _ _ e]; rfl, by rw [cell_of_row _ _ _ _ _ _ e]; rfl, by rw [cell_of_row _ _ _ _ _ _ e]; rfl⟩
set_option maxRecDepth 20000 in
/-- Waiting. -/
theorem twait_any {w : World} {T : Nat} {a : Pa} {x : Fx} (h : TR w T a x) (nm : List UInt8) : Calls Try.prog 16 #[.pointer (some ⟨T, 0, none⟩), .string (tx nm)] w fun e w' => e = .returned (.int .i64 ((x.J nm).length : Int)) ∧ w' = w := by
  have HW : Hid (Calls Try.prog 44 #[.map (some a.B), .string (tx nm)] w fun e w' => e = .returned (.int .i64 ((x.J nm).length : Int)) ∧ w' = w) := mwait_mp h.jobs nm
  obtain ⟨c0, -, -, -, c8⟩ := h.cells
  clear h
  generalize (x.J nm).length = n at HW ⊢
  go_enter Try.func16, Try.ntmps16
  go_wp2_with (go_at_call 44; refine HW.out.mono ?_; rintro e w1 ⟨rfl, hw1⟩; rw [hw1]; clear hw1)
  go_ret
  exact ⟨rfl, rfl⟩
theorem run_len_map {w : World} {B : Nat} {l : List En} {c : Nat} (h : MapAt w B l c) (ty : TypeId) : (Builtin.len_ #[63] ty #[.map (some B)]).run Try.prog w = .ok (.int .i64 (l.length : Int)) w := by
  unfold MapAt at h
  simp [Builtin.len_, run_underlying under63, MapKept.run_getObj_map h, Result.andThen, ents, goInt]
end Go.Proofs.Ytkigagglkmdccaa
