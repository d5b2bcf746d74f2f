/- A plain table of fixed turns stays in order. -/
import Derived.Test.YtkigagglkmdccaaTl
namespace Go.Proofs.Ytkigagglkmdccaa
open Go.RowKit
set_option linter.unusedVariables false
set_option linter.unusedSimpArgs false

def newX : Fx := ⟨0, [], [], newS, fun _ => []⟩
theorem Fok.new : Fok newX where
  up := by unfold newX Up; simp
  ns := rfl
  wl := rfl
  le := by simp [newX]
  ok := new_ok (Int.le_refl 0)
  no := by simp [newX, newS]
  jo := fun s => by simp [newX]
theorem upd_at (J : List UInt8 → List Wn) (s : List UInt8) (l : List Wn) : upd J s l s = l := by unfold upd; rw [if_pos rfl]
theorem upd_off (J : List UInt8 → List Wn) {s s' : List UInt8} (l : List Wn) (h : s' ≠ s) : upd J s l s' = J s' := by unfold upd; rw [if_neg h]
theorem Jok.upd {J : List UInt8 → List Wn} (h : Jok J) (s : List UInt8) {l : List Wn} (hl : l.length ≤ 16) (hj : ∀ j ∈ l, 1 ≤ j.2.2 ∧ j.2.2 ≤ 1000) : Jok (Ytkigagglkmdccaa.upd J s l) := fun s' => by
  by_cases e : s' = s
  · rw [e, upd_at]; exact ⟨hl, hj⟩
  · rw [upd_off J l e]; exact h s'
theorem Jok.push {J : List UInt8 → List Wn} (h : Jok J) (s : List UInt8) (id cost : Int) (hc : 1 ≤ cost ∧ cost ≤ 1000) : Jok (pushJ J s id cost).2 := by
  unfold pushJ
  split
  · exact h
  · rename_i hl
    refine h.upd s (by simp; omega) fun j hj => ?_
    rcases List.mem_append.1 hj with hj | hj
    · exact (h s).2 j hj
    · obtain rfl := List.mem_singleton.1 hj
      exact hc
theorem Jok.srv {J : List UInt8 → List Wn} (h : Jok J) (s : List UInt8) : Jok (srvJ J s).2 := by
  have h0 := h s
  unfold srvJ
  cases hJ : J s with
  | nil => exact h
  | cons j r =>
    obtain ⟨id, cost, n⟩ := j
    rw [hJ] at h0
    obtain ⟨h1, h2⟩ := h0
    have h3 := h2 (id, cost, n) (by simp)
    refine h.upd s ?_ ?_
    · split
      · simp at h1; omega
      · simpa using h1
    · split
      · exact fun j hj => h2 j (by simp [hj])
      · rename_i hn
        intro j hj
        rcases List.mem_cons.1 hj with rfl | hj
        · exact ⟨by show 1 ≤ n - 1; omega, by show n - 1 ≤ 1000; have := h3.2; simp at this; omega⟩
        · exact h2 j (by simp [hj])
theorem Fok.push {x : Fx} (hx : Fok x) (nm : List UInt8) (id cost : Int) : Fok (pushX x nm id cost).2 := by
  unfold pushX
  split
  · exact hx
  · split
    · exact hx
    · rename_i hc
      exact ⟨hx.up, hx.ns, hx.wl, hx.le, hx.ok, hx.no, hx.jo.push nm id cost (by omega)⟩
theorem Fok.step {x : Fx} (hx : Fok x) (k : Int) (s : List UInt8) : Fok { x with slot := k, J := (srvJ x.J s).2 } := ⟨hx.up, hx.ns, hx.wl, hx.le, hx.ok, hx.no, hx.jo.srv s⟩
theorem setX_slot (x : Fx) (nm : List UInt8) (wt : Int) : (setX x nm wt).2.slot = x.slot ∧ (setX x nm wt).2.J = x.J := by
  unfold setX
  repeat' split
  all_goals exact ⟨rfl, rfl⟩
theorem pushX_keep (x : Fx) (nm : List UInt8) (id cost : Int) : (pushX x nm id cost).2.slot = x.slot ∧ (pushX x nm id cost).2.ns = x.ns := by
  unfold pushX
  repeat' split
  all_goals exact ⟨rfl, rfl⟩
/-- The names behind a Set where nobody waits. -/
theorem setX_ns {x : Fx} (hJ : x.J = fun _ => []) (nm : List UInt8) : (setX x nm 1).2.ns = if plB x.ns nm = true then x.ns else if 16 ≤ x.ns.length then x.ns else putN x.ns (plI x.ns nm) nm := by
  have hb : bndB x nm = false := by unfold bndB; rw [hJ]; simp
  unfold setX
  rw [if_neg (by omega), if_neg (by rw [hb]; decide)]
  repeat' split
  all_goals rfl
def nA : List UInt8 := [97]
def nB : List UInt8 := [98]
noncomputable def knX : Fx := (setX (setX newX nA 1).2 nB 1).2
theorem knX_ns : knX.ns = [nA, nB] := by
  unfold knX
  have h1 : (setX newX nA 1).2.ns = [nA] := by
    rw [setX_ns rfl]
    decide
  rw [setX_ns (setX_slot _ _ _).2, h1]
  decide
theorem knX_J : knX.J = fun _ => [] := by
  unfold knX
  rw [(setX_slot _ _ _).2, (setX_slot _ _ _).2]
  rfl
theorem knX_slot : knX.slot = 0 := by
  unfold knX
  rw [(setX_slot _ _ _).1, (setX_slot _ _ _).1]
  rfl
theorem knX_ok : Fok knX := (Fok.new.set _ _).set _ _
theorem knX_within : withinX knX 0 nB 2 = (4, 0) := by
  unfold withinX
  rw [knX_ns, knX_J]
  decide
theorem knX_push : (pushX knX nB 7 2).2.J = upd (fun _ => []) nB [(7, 2, 2)] := by
  unfold pushX
  rw [knX_ns, knX_J, if_neg (by decide), if_neg (by decide)]
  unfold pushJ
  rw [if_neg (by decide)]
  rfl
/-- What b has ahead of a slot. -/
def knL : Nat → List Wn
  | 0 => [(7, 2, 2)]
  | 1 => [(7, 2, 2)]
  | 2 => [(7, 2, 1)]
  | 3 => [(7, 2, 1)]
  | _ => []
def knJ (k : Nat) : List UInt8 → List Wn := upd (fun _ => []) nB (knL k)
theorem kn_step {x : Fx} (hn : x.ns = [nA, nB]) {k : Nat} (hk : k < 4) (hJ : x.J = knJ k) : turnF x k = (if k % 2 = 1 then nB else nA) ∧ (srvJ x.J (turnF x k)).1.2.2.1 = decide (k = 3) ∧ (srvJ x.J (turnF x k)).1.2.2.2 = decide (k % 2 = 1) ∧ (srvJ x.J (turnF x k)).2 = knJ (k + 1) := by
  have h0 : turnF x k = (if k % 2 = 1 then nB else nA) := by
    unfold turnF
    rw [hn]
    rcases (show k = 0 ∨ k = 1 ∨ k = 2 ∨ k = 3 by omega) with rfl | rfl | rfl | rfl <;> rfl
  have hu : ∀ l m : List Wn, upd (upd (fun _ => []) nB l) nB m = upd (fun _ => []) nB m := fun l m => by
    funext s
    unfold upd
    by_cases e : s = nB <;> simp [e]
  have hA : ∀ l : List Wn, upd (fun _ => []) nB l nA = [] := fun l => upd_off _ _ (by decide)
  refine ⟨h0, ?_⟩
  rw [h0, hJ]
  unfold srvJ knJ
  rcases (show k = 0 ∨ k = 1 ∨ k = 2 ∨ k = 3 by omega) with rfl | rfl | rfl | rfl
  · rw [if_neg (by decide), hA]; exact ⟨rfl, rfl, rfl⟩
  · rw [if_pos (by decide), upd_at]; exact ⟨rfl, rfl, hu _ _⟩
  · rw [if_neg (by decide), hA]; exact ⟨rfl, rfl, rfl⟩
  · rw [if_pos (by decide), upd_at]; exact ⟨rfl, rfl, hu _ _⟩
end Go.Proofs.Ytkigagglkmdccaa
