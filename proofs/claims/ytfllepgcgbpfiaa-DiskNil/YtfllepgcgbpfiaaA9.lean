/- Where a write ends. -/
import Derived.Test.YtfllepgcgbpfiaaA8
namespace Go.Proofs.Ytfllepgcgbpfiaa
open Go.RowKit
set_option linter.unusedVariables false
set_option linter.unusedSimpArgs false

theorem i64_at {w : World} {base g cap : Nat} {bg : List Int} (h : w.ownsRow base 3 1 (.slice (some ⟨g, 0, none⟩) bg.length cap) bg.length (i64l bg)) (i : Nat) (hi : i < bg.length) : w.cell? ⟨g, i, none⟩ = some (.int .i64 (bg.getD i 0)) := by
  rw [h.cellAt i (by omega)]
  unfold i64l
  rw [List.getElem?_map, List.getElem?_eq_getElem hi, List.getD_eq_getElem?_getD, List.getElem?_eq_getElem hi]
  rfl
def endI (n : Nat) (bg : List Int) (i : Nat) : Int := if i + 1 < bg.length then bg.getD (i + 1) 0 else (n : Int)
set_option maxRecDepth 20000 in
set_option maxHeartbeats 4000000 in
theorem end_any (F : Nat) (da : Option Addr) (dc n base i : Nat) (bv : Value) (bg : List Int) (w : World) (hF : w.heap[F]? = some (.cells #[.slice da n dc, bv] 80 (0, 0))) (hb : w.ownsRow base 3 1 bv bg.length (i64l bg)) (hi : i < bg.length) (hl : bg.length ≤ 10000000) :
    Calls Try.prog 60 #[.pointer (some ⟨F, 0, none⟩), .int .i64 (i : Int)] w fun e w' => e = .returned (.int .i64 (endI n bg i)) ∧ w' = w := by
  obtain ⟨g, cap, rfl⟩ := own_form hb (by omega)
  have c0 : w.cell? ⟨F, 0, none⟩ = some (.slice da n dc) := by rw [cell_of_row _ _ _ _ _ _ hF]; rfl
  have c1 : w.cell? ⟨F, 1, none⟩ = some (.slice (some ⟨g, 0, none⟩) bg.length cap) := by rw [cell_of_row _ _ _ _ _ _ hF]; rfl
  by_cases h : i + 1 < bg.length
  · have hc := i64_at hb (i + 1) h
    have he : endI n bg i = bg.getD (i + 1) 0 := by unfold endI; rw [if_pos h]
    rw [he]
    generalize bg.getD (i + 1) 0 = X at *
    have hlt : (i : Int) + 1 < (bg.length : Int) := by omega
    have hl' : (bg.length : Int) ≤ 10000000 := by omega
    have hcap : (bg.length : Int) ≤ (cap : Int) := by have := own_cap hb; omega
    generalize bg.length = m at *
    obtain ⟨k, hk⟩ : ∃ k : Nat, i + 1 = k := ⟨_, rfl⟩
    rw [hk] at hc
    have hk' : (i : Int) + 1 = (k : Int) := by omega
    clear hb hF hi hl he h
    go_enter Try.func60, Try.ntmps60
    go_wp2
    go_ret
    exact ⟨rfl, rfl⟩
  · have he : endI n bg i = (n : Int) := by unfold endI; rw [if_neg h]
    rw [he]
    have hlt : ¬ ((i : Int) + 1 < (bg.length : Int)) := by omega
    have hl' : (bg.length : Int) ≤ 10000000 := by omega
    have hi' : (i : Int) < (bg.length : Int) := by omega
    generalize bg.length = m at *
    clear hb hF hi hl he h
    go_enter Try.func60, Try.ntmps60
    go_wp2
    go_ret
    exact ⟨rfl, rfl⟩
end Go.Proofs.Ytfllepgcgbpfiaa
