/- The model's cache: Get, Counts, New. -/
import Derived.Test.YtbcdaddbcjagjaaTg
namespace Go.Proofs.Ytbcdaddbcjagjaa
open Go.RowKit
set_option linter.unusedVariables false
set_option linter.unusedSimpArgs false

variable {w w' w2 W : World} {R B : Nat} {most : Int} {lv cv lv' cv' : Value} {l l' : List An} {cs cs' : List Cn}
theorem fl_one_h : ∀ {cs : List Cn} {i : Nat} {c : Cn} (v : Int), cs[i]? = some c → (fl fC cs).set (i * 3 + 1) (.int .i64 v) = fl fC (cs.set i ⟨c.tn, v, c.m⟩)
  | [], i, c, v, h => by simp at h
  | x :: r, 0, c, v, h => by
    have e : x = c := by simpa using h
    subst e
    rfl
  | x :: r, i + 1, c, v, h => by
    have ih := fl_one_h (cs := r) (i := i) (c := c) v (by simpa using h)
    rw [List.set_cons_succ, fl, fl, List.set_append_right _ _ (by rw [fC_len]; omega), fC_len, show (i + 1) * 3 + 1 - 3 = i * 3 + 1 by omega, ih]
theorem fl_one_m : ∀ {cs : List Cn} {i : Nat} {c : Cn} (v : Int), cs[i]? = some c → (fl fC cs).set (i * 3 + 2) (.int .i64 v) = fl fC (cs.set i ⟨c.tn, c.h, v⟩)
  | [], i, c, v, h => by simp at h
  | x :: r, 0, c, v, h => by
    have e : x = c := by simpa using h
    subst e
    rfl
  | x :: r, i + 1, c, v, h => by
    have ih := fl_one_m (cs := r) (i := i) (c := c) v (by simpa using h)
    rw [List.set_cons_succ, fl, fl, List.set_append_right _ _ (by rw [fC_len]; omega), fC_len, show (i + 1) * 3 + 2 - 3 = i * 3 + 2 by omega, ih]
theorem MS.pokeC {g n cap j : Nat} {v : Value} (h : MS w R B most lv (.slice (some ⟨g, 0, none⟩) n cap) l cs) (hl : cs'.length = cs.length) (hj : j < (fl fC cs).length) (he : (fl fC cs).set j v = fl fC cs') : MS (w.setCell ⟨g, j, none⟩ v) R B most lv (.slice (some ⟨g, 0, none⟩) n cap) l cs' ∧ Fr (GM R lv (.slice (some ⟨g, 0, none⟩) n cap)) (GM R lv (.slice (some ⟨g, 0, none⟩) n cap)) w (w.setCell ⟨g, j, none⟩ v) := by
  obtain ⟨t1, t2⟩ := h.tags
  have hgR : g ≠ R := t2 g rfl
  refine ⟨⟨(Below.heap_setCell _ _ _ _ (show R ≠ g from fun e => hgR e.symm)).trans h.box, own_at h.rl fun q hq => Below.heap_setCell _ _ _ _ (show q ≠ g from fun e => (t1 q hq).2 (by rw [e]; rfl)), ?_, h.rb⟩, ⟨rfl, rfl, rfl, by simp, fun q hq hn => Below.heap_setCell _ _ _ _ (show q ≠ g from fun e => hn (.inr (.inr (by rw [e]; rfl)))), fun q hq => .inl hq⟩⟩
  obtain ⟨⟨a0, c0, e0, -⟩, ⟨a1, c1, e1, -⟩⟩ := h.forms
  cases e1
  rw [hl, ← he]
  exact own_set h.rc hj v
/-- A tenant's counts. -/
def lkN (s : List UInt8) : List Cn → Int × Int
  | [] => (0, 0)
  | c :: r => if c.tn = s then (c.h, c.m) else lkN s r
def bumpH (s : List UInt8) (cs : List Cn) : List Cn := match (addN s cs)[idxN s cs]? with | some c => (addN s cs).set (idxN s cs) ⟨c.tn, c.h + 1, c.m⟩ | none => addN s cs
def bumpM (s : List UInt8) (cs : List Cn) : List Cn := match (addN s cs)[idxN s cs]? with | some c => (addN s cs).set (idxN s cs) ⟨c.tn, c.h, c.m + 1⟩ | none => addN s cs
theorem fndN_lk : ∀ {cs : List Cn} {s : List UInt8} {i k : Nat}, fndN s cs i = some k → ∃ c, cs[k - i]? = some c ∧ (c.h, c.m) = lkN s cs ∧ ∀ x, ∀ (p q : Int), lkN x (cs.set (k - i) ⟨c.tn, p, q⟩) = if x = s then (p, q) else lkN x cs
  | [], s, i, k, h => by simp [fndN] at h
  | a :: r, s, i, k, h => by
    unfold fndN at h
    split at h
    · rename_i e
      obtain rfl := Option.some.inj h
      refine ⟨a, by simp, by rw [lkN, if_pos e], fun x p q => ?_⟩
      rw [Nat.sub_self, List.set_cons_zero, lkN, lkN]
      by_cases e2 : x = s
      · rw [if_pos (by rw [e2]; exact e), if_pos e2]
      · rw [if_neg (fun e3 => e2 (by rw [← e3]; exact e)), if_neg e2, if_neg (fun e3 => e2 (by rw [← e3]; exact e))]
    · rename_i e
      obtain ⟨h1, -⟩ := fndN_at h
      obtain ⟨c, h2, h3, h4⟩ := fndN_lk h
      refine ⟨c, by rw [show k - i = (k - (i + 1)) + 1 by omega, List.getElem?_cons_succ]; exact h2, by rw [h3, lkN, if_neg e], fun x p q => ?_⟩
      rw [show k - i = (k - (i + 1)) + 1 by omega, List.set_cons_succ, lkN, lkN, h4]
      by_cases e2 : x = s
      · rw [if_pos e2, if_neg (fun e3 => e (by rw [← e2]; exact e3)), if_pos e2]
      · rw [if_neg e2, if_neg e2]
theorem lkN_none : ∀ {cs : List Cn} {s : List UInt8} {i : Nat}, fndN s cs i = none → lkN s cs = (0, 0) ∧ ∀ x (p q : Int), lkN x (cs ++ [⟨s, p, q⟩]) = if x = s then (p, q) else lkN x cs
  | [], s, i, h => ⟨rfl, fun x p q => by
    show (if s = x then (p, q) else (0, 0)) = _
    by_cases e : x = s
    · rw [if_pos e.symm, if_pos e]
    · rw [if_neg (fun e2 => e e2.symm), if_neg e]; rfl⟩
  | a :: r, s, i, h => by
    unfold fndN at h
    split at h
    · cases h
    · rename_i e
      obtain ⟨h1, h2⟩ := lkN_none h
      refine ⟨by rw [lkN, if_neg e]; exact h1, fun x p q => ?_⟩
      rw [List.cons_append, lkN, lkN, h2]
      by_cases e2 : x = s
      · rw [if_pos e2, if_neg (fun e3 => e (by rw [← e2]; exact e3)), if_pos e2]
      · rw [if_neg e2, if_neg e2]
theorem addN_lk (s : List UInt8) (cs : List Cn) : ∃ c, (addN s cs)[idxN s cs]? = some c ∧ (c.h, c.m) = lkN s cs ∧ ∀ x, ∀ (p q : Int), lkN x ((addN s cs).set (idxN s cs) ⟨c.tn, p, q⟩) = if x = s then (p, q) else lkN x cs := by
  unfold addN idxN
  cases hf : fndN s cs 0 with
  | some k =>
    obtain ⟨c, h1, h2, h3⟩ := fndN_lk hf
    exact ⟨c, h1, h2, h3⟩
  | none =>
    obtain ⟨h1, h2⟩ := lkN_none hf
    refine ⟨⟨s, 0, 0⟩, by simp, h1.symm, fun x p q => ?_⟩
    rw [← h2]
    congr 1
    simp
theorem bumpH_lk (s : List UInt8) (cs : List Cn) (x : List UInt8) : lkN x (bumpH s cs) = if x = s then ((lkN s cs).1 + 1, (lkN s cs).2) else lkN x cs := by
  obtain ⟨c, h1, h2, h3⟩ := addN_lk s cs
  unfold bumpH
  rw [h1, ← h2]
  exact h3 x _ _
theorem bumpM_lk (s : List UInt8) (cs : List Cn) (x : List UInt8) : lkN x (bumpM s cs) = if x = s then ((lkN s cs).1, (lkN s cs).2 + 1) else lkN x cs := by
  obtain ⟨c, h1, h2, h3⟩ := addN_lk s cs
  unfold bumpM
  rw [h1, ← h2]
  exact h3 x _ _
theorem addN_same (s : List UInt8) (cs : List Cn) (x : List UInt8) : lkN x (addN s cs) = lkN x cs := by
  unfold addN
  cases hf : fndN s cs 0 with
  | some k => rfl
  | none =>
    obtain ⟨h1, h2⟩ := lkN_none hf
    show lkN x (cs ++ [⟨s, 0, 0⟩]) = _
    rw [h2]
    by_cases e : x = s
    · rw [if_pos e, e, h1]
    · rw [if_neg e]
theorem bump_len (s : List UInt8) (cs : List Cn) : (bumpH s cs).length = (addN s cs).length ∧ (bumpM s cs).length = (addN s cs).length := by
  unfold bumpH bumpM
  split <;> simp
theorem newM_some (most : Int) (h1 : 1 ≤ most) (h2 : most ≤ 64) (w : World) : Calls Try.prog 16 #[.int .i64 most] w fun e w' => e = .returned (.pointer (some ⟨w.heap.size, 0, none⟩)) ∧ MS w' w.heap.size w.heap.size most (.slice none 0 0) (.slice none 0 0) [] [] ∧ Below w.heap.size w w' := by
  have h1' : ¬ most < 1 := by omega
  have h2' : ¬ 64 < most := by omega
  clear h1 h2
  go_enter Try.func16, Try.ntmps16
  go_wp2
  go_ret
  exact ⟨rfl, ⟨heap_alloc_new _ _, World.ownsRow_nil _ _ _ _, World.ownsRow_nil _ _ _ _, Nat.le_refl _⟩, bel1' w _⟩
theorem newM_none (most : Int) (h : most < 1 ∨ 64 < most) (w : World) : Calls Try.prog 16 #[.int .i64 most] w fun e w' => e = .returned (.pointer none) ∧ w' = w := by
  by_cases c : most < 1
  · clear h
    go_enter Try.func16, Try.ntmps16
    go_wp2
    go_ret
    exact ⟨rfl, rfl⟩
  · have c2 : 64 < most := by omega
    clear h
    go_enter Try.func16, Try.ntmps16
    go_wp2
    go_ret
    exact ⟨rfl, rfl⟩
end Go.Proofs.Ytbcdaddbcjagjaa
