/- Tables: a session is closed. -/
import Derived.Test.YtnghgclogeefgaaX1
namespace Go.Proofs.Ytnghgclogeefgaa
open Go.RowKit
set_option linter.unusedVariables false
set_option linter.unusedSimpArgs false

def clI (ss : List Se) (id : Int) : List Se := match ix ss id with | some k => ss.take k ++ ss.drop (k + 1) | none => ss
def ceI (ss : List Se) (id : Int) : Int := match ix ss id with | some k => 0 | none => 5
theorem clI_len (ss : List Se) (id : Int) : (clI ss id).length ≤ ss.length := by
  unfold clI
  split
  · rw [List.length_append, List.length_take, List.length_drop]; omega
  · exact Nat.le_refl _
set_option maxRecDepth 20000 in
set_option maxHeartbeats 4000000 in
theorem close_any (T base : Nat) (last : Int) (sv : Value) (ss : List Se) (id : Int) (w : World) (h : Tb w T base last sv ss) (hl : ss.length ≤ 64) (hbs : base ≤ w.heap.size) :
    Calls Try.prog 24 #[.pointer (some ⟨T, 0, none⟩), .int .i64 id] w fun e w' => e = .returned (.int .i64 (ceI ss id)) ∧ (∃ sv', Tb w' T base last sv' (clI ss id)) ∧ Below base w w' := by
  have HF : Hid (Calls Try.prog 42 #[.pointer (some ⟨T, 0, none⟩), .int .i64 id] w fun e w' => e = .returned (.tuple #[.int .i64 (ixI ss id), .bool (decide (0 ≤ ixI ss id))]) ∧ Below w.heap.size w w') := find_any T base last sv ss id w h (by omega)
  have HT : Hid (Tb w T base last sv ss) := h
  have HBS : Hid (base ≤ w.heap.size) := hbs
  clear h hbs
  cases hx : ix ss id with
  | none =>
    have e1 : ixI ss id = -1 := by unfold ixI; rw [hx]
    have HC : Hid (ceI ss id = 5 ∧ clI ss id = ss) := by unfold ceI clI; rw [hx]; exact ⟨rfl, rfl⟩
    rw [e1] at HF
    rw [show decide ((0 : Int) ≤ -1) = false from rfl] at HF
    clear hx e1
    go_enter Try.func24, Try.ntmps24
    go_wp2_with (go_at_call 42; refine HF.out.mono ?_; rintro e w2 ⟨rfl, hb2⟩)
    go_ret
    exact ⟨by rw [HC.out.1]; rfl, ⟨sv, by rw [HC.out.2]; exact HT.out.later hb2 (Nat.le_refl _)⟩, hb2.mono HBS.out⟩
  | some k =>
    obtain ⟨s, hs, hid⟩ := ix_some ss id k hx
    clear hid
    have hk : k < ss.length := (List.getElem?_eq_some_iff.1 hs).1
    have e1 : ixI ss id = (k : Int) := by unfold ixI; rw [hx]
    have HC : Hid (ceI ss id = 0 ∧ clI ss id = ss.take k ++ ss.drop (k + 1)) := by unfold ceI clI; rw [hx]; exact ⟨rfl, rfl⟩
    rw [e1] at HF
    rw [show decide ((0 : Int) ≤ (k : Int)) = true from decide_eq_true (by omega)] at HF
    obtain ⟨g, c, e⟩ := own_form HT.out.row (by omega)
    subst e
    have hkk : (k : Int) + 1 = ((k + 1 : Nat) : Int) := by omega
    have HDE : Hid (∀ W, W.ownsRow base 68 5 (.slice (some ⟨g, 0, none⟩) ss.length c) ss.length (seL ss) → Calls Try.prog 43 #[.slice (some ⟨g, 0, none⟩) ss.length c, .int .i64 (k : Int), .int .i64 ((k : Int) + 1)] W fun e w' => e = .returned (.slice (some ⟨g, 0, none⟩) (ss.length - 1) c) ∧ w'.ownsRow base 68 5 (.slice (some ⟨g, 0, none⟩) (ss.length - 1) c) (ss.length - 1) (seL (ss.take k ++ ss.drop (k + 1))) ∧ Kp g W w') := fun W hW => by rw [hkk]; exact delete_any base g c k ss W hW hk (by omega)
    have HL : Hid ((ss.take k ++ ss.drop (k + 1)).length = ss.length - 1) := by show _ = _; rw [List.length_append, List.length_take, List.length_drop]; omega
    have hk' : (k : Int) ≤ 1000 := by omega
    generalize ss.take k ++ ss.drop (k + 1) = ss' at HC HDE HL
    generalize hnn : ss.length - 1 = m at HDE HL
    clear hx e1 hs hk hnn hkk
    go_enter Try.func24, Try.ntmps24
    go_wp2_with fail
    refine HF.out.mono ?_
    rintro e w2 ⟨rfl, hb2⟩
    have HT2 : Hid (Tb w2 T base last (.slice (some ⟨g, 0, none⟩) ss.length c) ss) := HT.out.later hb2 (Nat.le_refl _)
    have d1 : w2.cell? ⟨T, 1, none⟩ = some (.slice (some ⟨g, 0, none⟩) ss.length c) := by rw [cell_of_row _ _ _ _ _ _ HT2.out.tab]; rfl
    have HB2 : Hid (Below w.heap.size w w2) := hb2
    clear hb2
    go_wp2_with fail
    refine (HDE.out w2 HT2.out.row).mono ?_
    rintro e w3 ⟨rfl, ho3, hk3⟩
    have hgT : T ≠ g := by
      obtain ⟨cur, hc⟩ := own_tag HT2.out.row (q := g) rfl
      exact ne_tag HT2.out.tab hc (by decide)
    have HT3 : Hid (w3.heap[T]? = some (.cells #[.int .i64 last, .slice (some ⟨g, 0, none⟩) ss.length c] 64 (0, 0))) := (hk3.block T hgT).trans HT2.out.tab
    have HO3 : Hid (w3.ownsRow base 68 5 (.slice (some ⟨g, 0, none⟩) m c) m (seL ss') ∧ Below base w w3) := ⟨ho3, (HB2.out.mono HBS.out).trans (hk3.below (own_lt HT2.out.row).1)⟩
    have e1 : w3.cell? ⟨T, 1, none⟩ = some (.slice (some ⟨g, 0, none⟩) ss.length c) := by rw [cell_of_row _ _ _ _ _ _ HT3.out]; rfl
    have f1 : w3.frozen? ⟨T, 1, none⟩ = false := frozen_of_row _ _ 1 _ _ HT3.out
    have HGT : Hid (T ≠ g) := hgT
    clear ho3 hk3 d1 hgT
    go_wp2_with fail
    go_ret
    refine ⟨by rw [HC.out.1]; rfl, ⟨.slice (some ⟨g, 0, none⟩) m c, ?_⟩, HO3.out.2.setCell HT2.out.low _⟩
    rw [HC.out.2]
    refine ⟨row_set _ HT3.out, ?_, HT2.out.low⟩
    have h := own_at HO3.out.1 (w' := w3.setCell ⟨T, 1, none⟩ (.slice (some ⟨g, 0, none⟩) m c)) fun q hq => by
      obtain ⟨cur, hc⟩ := own_tag HO3.out.1 hq
      exact Below.heap_setCell _ _ _ _ (ne_tag hc HT3.out (by decide))
    rw [HL.out]
    exact h
end Go.Proofs.Ytnghgclogeefgaa
