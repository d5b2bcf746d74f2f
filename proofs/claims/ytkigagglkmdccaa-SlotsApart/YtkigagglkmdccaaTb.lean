/- A table of fixed turns: bound, Turn, canCost, Slot. -/
import Derived.Test.YtkigagglkmdccaaTa
import Derived.BigQuiet
namespace Go.Proofs.Ytkigagglkmdccaa
open Go.RowKit
set_option linter.unusedVariables false
set_option linter.unusedSimpArgs false

theorem MP.len {w : World} {B : Nat} {F : Nat → Prop} {J : List UInt8 → List Wn} (h : MP w B F J) (ty : TypeId) : ∃ n : Nat, (Builtin.len_ #[63] ty #[.map (some B)]).run Try.prog w = .ok (.int .i64 (n : Int)) w ∧ ((0 : Int) < n ↔ ∃ s, J s ≠ []) := by
  obtain ⟨c, ls, h1, h2, h3⟩ := h
  refine ⟨(ls.map Lf.en).length, run_len_map h1.map ty, ?_⟩
  rw [List.length_map]
  constructor
  · intro k
    cases ls with
    | nil => simp at k
    | cons l r =>
      refine ⟨l.nm, ?_⟩
      rw [← h2, tsW_some (l := l) (by rw [lnF_cons, if_pos rfl])]
      intro e
      exact h1.more l (List.mem_cons_self ..) (List.map_eq_nil_iff.1 e)
  · rintro ⟨s, hs⟩
    cases ls with
    | nil => exact absurd (h2 s).symm hs
    | cons l r => simp only [List.length_cons]; omega
open Classical in
/-- What bound tells. -/
noncomputable def bndB (x : Fx) (nm : List UInt8) : Bool := if plB x.ns nm then !(x.J nm).isEmpty else decide (∃ s, x.J s ≠ [])
set_option maxRecDepth 20000 in
theorem bound_any {w : World} {T : Nat} {a : Pa} {x : Fx} (h : TR w T a x) (hu : Up x.ns) (hl : x.ns.length ≤ 16) (nm : List UInt8) : Calls Try.prog 31 #[.pointer (some ⟨T, 0, none⟩), .string (tx nm)] w fun e w' => e = .returned (.bool (bndB x nm)) ∧ w' = w := by
  have HW : Hid (Calls Try.prog 44 #[.map (some a.B), .string (tx nm)] w fun e w' => e = .returned (.int .i64 ((x.J nm).length : Int)) ∧ w' = w) := mwait_mp h.jobs nm
  obtain ⟨c0, -, c2, -, c8⟩ := h.cells
  obtain ⟨n, hn, hn2⟩ := h.jobs.len 3
  obtain ⟨sa, cap, hsl⟩ := own_slice h.names
  have HB : Hid (Calls Try.prog 33 #[.slice sa x.ns.length cap, .string (tx nm)] w fun e w' => e = .returned (.tuple #[.int .i64 (plI x.ns nm : Nat), .bool (plB x.ns nm)]) ∧ w' = w) := bsearch_any 0 sa x.ns.length cap x.ns nm w (hsl ▸ h.names) hu hl rfl
  rw [hsl] at c2
  clear h hsl
  cases hp : plB x.ns nm with
  | true =>
    rw [hp] at HB
    have HE : Hid (decide (0 < (x.J nm).length) = bndB x nm) := by
      show _ = _
      unfold bndB
      rw [hp]
      cases x.J nm <;> simp
    generalize bndB x nm = bb at HE ⊢
    generalize (x.J nm).length = k at HW HE
    go_enter Try.func31, Try.ntmps31
    go_wp2_with (first | (go_at_call 33; refine HB.out.mono ?_; rintro e w1 ⟨rfl, hw1⟩; rw [hw1]; clear hw1) | (go_at_call 44; refine HW.out.mono ?_; rintro e w1 ⟨rfl, hw1⟩; rw [hw1]; clear hw1))
    go_ret
    exact ⟨by rw [← HE.out]; rfl, rfl⟩
  | false =>
    rw [hp] at HB
    have HE : Hid (decide (0 < n) = bndB x nm) := by
      show _ = _
      unfold bndB
      rw [hp, if_neg (by decide), decide_eq_decide]
      exact ⟨fun k => hn2.1 (by omega), fun k => by have := hn2.2 k; omega⟩
    generalize bndB x nm = bb at HE ⊢
    clear hn2
    go_enter Try.func31, Try.ntmps31
    go_wp2_with (go_at_call 33; refine HB.out.mono ?_; rintro e w1 ⟨rfl, hw1⟩; rw [hw1]; clear hw1)
    go_ret
    exact ⟨by rw [← HE.out]; rfl, rfl⟩
theorem cost_any (c : Int) (w : World) : Calls Try.prog 37 #[.int .i64 c] w fun e w' => e = .returned (.bool (decide (1 ≤ c) && decide (c ≤ 1000))) ∧ w' = w := by
  by_cases h1 : 1 ≤ c
  · go_enter Try.func37, Try.ntmps37
    go_wp2
    go_ret
    exact ⟨by simp [h1], rfl⟩
  · go_enter Try.func37, Try.ntmps37
    go_wp2
    go_ret
    exact ⟨by have : ¬ 1 ≤ c := by omega
              simp [this], rfl⟩
theorem tslot_any {w : World} {T : Nat} {a : Pa} {x : Fx} (h : TR w T a x) : Calls Try.prog 21 #[.pointer (some ⟨T, 0, none⟩)] w fun e w' => e = .returned (.int .i64 x.slot) ∧ w' = w := by
  obtain ⟨-, c1, -, -, -⟩ := h.cells
  clear h
  go_enter Try.func21, Try.ntmps21
  go_wp2
  go_ret
  exact ⟨rfl, rfl⟩
end Go.Proofs.Ytkigagglkmdccaa
