/- A scheduler: what the calls do, over plain lists; what stays in bounds. -/
import Derived.Test.YtkigagglkmdccaaG1
namespace Go.Proofs.Ytkigagglkmdccaa
open Go.RowKit
set_option linter.unusedVariables false
set_option linter.unusedSimpArgs false

/-- A job that is not done: its number and cost, where it starts, how many slots it needs yet. -/
structure Wk where
  id : Int
  cost : Int
  start : Int
  left : Int
/-- A tenant: its name, weight, last end, jobs. -/
structure Tn where
  nm : List UInt8
  wt : Int
  fin : Int
  ws : List Wk
structure Sc where
  ts : List Tn
  clk : Int
  srv : List UInt8
  busy : Bool
/-- Texts, byte by byte. -/
def ltB : List UInt8 → List UInt8 → Bool
  | _, [] => false
  | [], _ :: _ => true
  | a :: r, b :: s => decide (a < b) || (a == b && ltB r s)
def ixT : List Tn → List UInt8 → Option Nat
  | [], _ => none
  | p :: r, nm => if p.nm = nm then some 0 else (ixT r nm).map (· + 1)
theorem ixT_some : ∀ (l : List Tn) (nm : List UInt8) (k : Nat), ixT l nm = some k → ∃ s, l[k]? = some s ∧ s.nm = nm
  | [], nm, k, h => by simp [ixT] at h
  | p :: r, nm, k, h => by
    simp only [ixT] at h
    split at h
    · rename_i e
      have : 0 = k := by simpa using h
      subst this
      exact ⟨p, rfl, e⟩
    · cases hr : ixT r nm with
      | none => rw [hr] at h; simp at h
      | some j =>
        rw [hr] at h
        have : j + 1 = k := by simpa using h
        subst this
        obtain ⟨s, h1, h2⟩ := ixT_some r nm j hr
        exact ⟨s, by simpa using h1, h2⟩
def lookT (l : List Tn) (nm : List UInt8) : Option (Nat × Tn) := match ixT l nm with | some k => (l[k]?).map fun b => (k, b) | none => none
theorem lookT_some {l : List Tn} {nm : List UInt8} {k : Nat} {b : Tn} (h : lookT l nm = some (k, b)) : ixT l nm = some k ∧ l[k]? = some b ∧ b.nm = nm := by
  unfold lookT at h
  cases hx : ixT l nm with
  | none => rw [hx] at h; cases h
  | some j =>
    rw [hx] at h
    obtain ⟨s, h1, h2⟩ := ixT_some l nm j hx
    simp only [h1, Option.map_some, Option.some.injEq, Prod.mk.injEq] at h
    obtain ⟨rfl, rfl⟩ := h
    exact ⟨rfl, h1, h2⟩
/-- A tenant is put in order of the names. -/
def insT (t : Tn) : List Tn → List Tn
  | [] => [t]
  | p :: r => if ltB p.nm t.nm then p :: insT t r else t :: p :: r
def setS (s : Sc) (nm : List UInt8) (wt : Int) : Int × Sc :=
  if ¬ (1 ≤ wt ∧ wt ≤ 16) then (1, s) else
  match lookT s.ts nm with
  | some (k, t) => if t.ws ≠ [] then (200, s) else (0, { s with ts := s.ts.set k { t with wt := wt, fin := s.clk } })
  | none => if 16 ≤ s.ts.length then (7, s) else (0, { s with ts := insT ⟨nm, wt, s.clk, []⟩ s.ts })
/-- Where a job that is pushed starts. -/
def begins (clk fin : Int) : Int := if fin < clk then clk else fin
def pushS (s : Sc) (nm : List UInt8) (id cost : Int) : Int × Sc :=
  match lookT s.ts nm with
  | none => (5, s)
  | some (k, t) =>
    if ¬ (1 ≤ cost ∧ cost ≤ 1000) then (1, s)
    else if 16 ≤ t.ws.length then (200, s)
    else (0, { s with ts := s.ts.set k { t with fin := begins s.clk t.fin + cost * 720720 / t.wt, ws := t.ws ++ [⟨id, cost, begins s.clk t.fin, cost⟩] } })
/-- Whose first job has the least start. -/
def nxt : List Tn → Nat → Option (Nat × Int) → Option (Nat × Int)
  | [], _, a => a
  | t :: r, i, a => nxt r (i + 1) (match t.ws with | [] => a | w :: _ => match a with | none => some (i, w.start) | some (k, st) => if w.start < st then some (i, w.start) else some (k, st))
def leftS : List Tn → Nat
  | [] => 0
  | t :: r => t.ws.length + leftS r
def restS (s : Sc) : Sc := { s with ts := s.ts.map fun t => { t with fin := 0 }, clk := 0 }
/-- What a slot tells: whose job, its number and cost, is it done, was there one. -/
structure Ans where
  nm : List UInt8
  id : Int
  cost : Int
  don : Bool
  some : Bool
def noAns : Ans := ⟨[], 0, 0, false, false⟩
/-- A slot for the tenant at a place. -/
def serveS (s : Sc) (k : Nat) (t : Tn) (w : Wk) (r : List Wk) : Ans × Sc :=
  if 1 < w.left then (⟨t.nm, w.id, w.cost, false, true⟩, { s with ts := s.ts.set k { t with ws := { w with left := w.left - 1 } :: r }, busy := true })
  else
    (⟨t.nm, w.id, w.cost, true, true⟩,
      if leftS (s.ts.set k { t with ws := r }) = 0 then restS { s with ts := s.ts.set k { t with ws := r }, busy := false }
      else { s with ts := s.ts.set k { t with ws := r }, busy := false })
def stepS (s : Sc) : Ans × Sc :=
  if s.busy then
    match lookT s.ts s.srv with
    | some (k, t) => (match t.ws with | w :: r => serveS s k t w r | [] => (noAns, s))
    | none => (noAns, s)
  else
    match nxt s.ts 0 none with
    | some (k, _) => (match s.ts[k]? with
      | some t => (match t.ws with | w :: r => serveS { s with clk := w.start, srv := t.nm } k t w r | [] => (noAns, s))
      | none => (noAns, s))
    | none => (noAns, s)
def waitS (s : Sc) (nm : List UInt8) : Int := match lookT s.ts nm with | some (_, t) => (t.ws.length : Int) | none => 0
def sumL : List Wk → Int
  | [] => 0
  | w :: r => w.left + sumL r
def aheadS (s : Sc) (nm : List UInt8) : Int := match lookT s.ts nm with | some (_, t) => sumL t.ws | none => 0
def sumW : List Tn → Int
  | [] => 0
  | t :: r => t.wt + sumW r
def dropS (s : Sc) : Int × Sc := ((leftS s.ts : Int), { ts := s.ts.map fun t => { t with fin := 0, ws := [] }, clk := 0, srv := s.srv, busy := false })
def newS : Sc := ⟨[], 0, [], false⟩

/-! Bounds, behind at most N jobs that were pushed. -/
structure Wok (N : Int) (w : Wk) : Prop where
  c0 : 1 ≤ w.cost
  c1 : w.cost ≤ 1000
  s0 : 0 ≤ w.start
  s1 : w.start ≤ N * 720720000
  l0 : 1 ≤ w.left
  l1 : w.left ≤ w.cost
structure Tnok (N : Int) (t : Tn) : Prop where
  w0 : 1 ≤ t.wt
  w1 : t.wt ≤ 16
  f0 : 0 ≤ t.fin
  f1 : t.fin ≤ N * 720720000
  n : t.ws.length ≤ 16
  all : ∀ w ∈ t.ws, Wok N w
structure Sok (N : Int) (s : Sc) : Prop where
  k0 : 0 ≤ s.clk
  k1 : s.clk ≤ N * 720720000
  n : s.ts.length ≤ 16
  all : ∀ t ∈ s.ts, Tnok N t
theorem Wok.more {N M : Int} {w : Wk} (h : Wok N w) (hN : N ≤ M) : Wok M w := ⟨h.c0, h.c1, h.s0, by have := h.s1; omega, h.l0, h.l1⟩
theorem Tnok.more {N M : Int} {t : Tn} (h : Tnok N t) (hN : N ≤ M) : Tnok M t := ⟨h.w0, h.w1, h.f0, by have := h.f1; omega, h.n, fun w hw => (h.all w hw).more hN⟩
theorem Sok.more {N M : Int} {s : Sc} (h : Sok N s) (hN : N ≤ M) : Sok M s := ⟨h.k0, by have := h.k1; omega, h.n, fun t ht => (h.all t ht).more hN⟩
theorem Sok.at' {N : Int} {s : Sc} (h : Sok N s) {k : Nat} {t : Tn} (hk : s.ts[k]? = some t) : Tnok N t := h.all t (List.mem_of_getElem? hk)
theorem new_ok {N : Int} (hN : 0 ≤ N) : Sok N newS := ⟨Int.le_refl _, by show (0 : Int) ≤ _; omega, by simp [newS], by simp [newS]⟩
theorem mem_ins (t : Tn) : ∀ (l : List Tn) (x : Tn), x ∈ insT t l → x = t ∨ x ∈ l
  | [], x, h => by simp [insT] at h; exact .inl h
  | p :: r, x, h => by
    unfold insT at h
    split at h
    · rcases List.mem_cons.1 h with h | h
      · exact .inr (by simp [h])
      · rcases mem_ins t r x h with h | h
        · exact .inl h
        · exact .inr (by simp [h])
    · rcases List.mem_cons.1 h with h | h
      · exact .inl h
      · exact .inr h
theorem len_ins (t : Tn) : ∀ l : List Tn, (insT t l).length = l.length + 1
  | [] => rfl
  | p :: r => by unfold insT; split <;> simp [len_ins t r]
theorem setAll {N : Int} {l : List Tn} (h : ∀ t ∈ l, Tnok N t) (k : Nat) {t : Tn} (ht : Tnok N t) : ∀ x ∈ l.set k t, Tnok N x := fun x hx => by
  rcases List.mem_or_eq_of_mem_set hx with h' | h'
  · exact h x h'
  · rw [h']; exact ht
theorem set_ok {N : Int} {s : Sc} (h : Sok N s) (nm : List UInt8) (wt : Int) : Sok N (setS s nm wt).2 := by
  unfold setS
  split
  · exact h
  · rename_i c
    have c' : 1 ≤ wt ∧ wt ≤ 16 := by omega
    split
    · rename_i k t hk
      have ht := h.at' (lookT_some hk).2.1
      split
      · exact h
      · exact ⟨h.k0, h.k1, by simpa using h.n, setAll h.all k ⟨c'.1, c'.2, h.k0, h.k1, ht.n, ht.all⟩⟩
    · split
      · exact h
      · refine ⟨h.k0, h.k1, by show (insT _ _).length ≤ 16; rw [len_ins]; omega, fun t ht => ?_⟩
        rcases mem_ins _ _ _ ht with h' | h'
        · rw [h']; exact ⟨c'.1, c'.2, h.k0, h.k1, by simp, by simp⟩
        · exact h.all t h'
theorem begins_in {N clk fin : Int} (h0 : 0 ≤ clk) (h1 : clk ≤ N) (h2 : 0 ≤ fin) (h3 : fin ≤ N) : 0 ≤ begins clk fin ∧ begins clk fin ≤ N := by unfold begins; split <;> omega
theorem push_ok {N : Int} {s : Sc} (hN : 0 ≤ N) (h : Sok N s) (nm : List UInt8) (id cost : Int) : Sok (N + 1) (pushS s nm id cost).2 := by
  unfold pushS
  split
  · exact h.more (by omega)
  · rename_i k t hk
    have ht := h.at' (lookT_some hk).2.1
    split
    · exact h.more (by omega)
    · rename_i c
      have c' : 1 ≤ cost ∧ cost ≤ 1000 := by omega
      split
      · exact h.more (by omega)
      · have hb := begins_in h.k0 h.k1 ht.f0 ht.f1
        have hm := h.more (show N ≤ N + 1 by omega)
        have hd0 : 0 ≤ cost * 720720 / t.wt := Int.ediv_nonneg (by omega) (by have := ht.w0; omega)
        have hd1 : cost * 720720 / t.wt ≤ cost * 720720 := Int.ediv_le_self _ (by omega)
        refine ⟨hm.k0, hm.k1, by simpa using hm.n, setAll hm.all k ⟨ht.w0, ht.w1, ?_, ?_, by show (t.ws ++ [_]).length ≤ 16; simp; omega, fun w hw => ?_⟩⟩
        · show 0 ≤ begins _ _ + _; omega
        · show begins _ _ + _ ≤ _; omega
        · rcases List.mem_append.1 hw with h' | h'
          · exact (ht.all w h').more (by omega)
          · rw [List.mem_singleton.1 h']
            exact ⟨c'.1, c'.2, hb.1, by show begins _ _ ≤ _; omega, c'.1, Int.le_refl _⟩
theorem rest_ok {N : Int} (hN : 0 ≤ N) {s : Sc} (h : Sok N s) : Sok N (restS s) := by
  refine ⟨Int.le_refl _, by show (0 : Int) ≤ _; omega, by simpa [restS] using h.n, fun t ht => ?_⟩
  obtain ⟨x, hx, rfl⟩ := List.mem_map.1 ht
  have := h.all x hx
  exact ⟨this.w0, this.w1, Int.le_refl _, by show (0 : Int) ≤ _; omega, this.n, this.all⟩
theorem drop_ok {N : Int} (hN : 0 ≤ N) {s : Sc} (h : Sok N s) : Sok N (dropS s).2 := by
  refine ⟨Int.le_refl _, by show (0 : Int) ≤ _; omega, by simpa [dropS] using h.n, fun t ht => ?_⟩
  obtain ⟨x, hx, rfl⟩ := List.mem_map.1 ht
  have := h.all x hx
  exact ⟨this.w0, this.w1, Int.le_refl _, by show (0 : Int) ≤ _; omega, by simp, by simp⟩
theorem serve_ok {N : Int} (hN : 0 ≤ N) {s : Sc} (h : Sok N s) {k : Nat} {t : Tn} {w : Wk} {r : List Wk} (ht : Tnok N t) (hw : t.ws = w :: r) : Sok N (serveS s k t w r).2 := by
  have hW := ht.all w (by rw [hw]; simp)
  have hn := ht.n
  rw [hw] at hn
  simp at hn
  unfold serveS
  split
  · rename_i c
    refine ⟨h.k0, h.k1, by simpa using h.n, setAll h.all k ⟨ht.w0, ht.w1, ht.f0, ht.f1, by simp; omega, fun x hx => ?_⟩⟩
    rcases List.mem_cons.1 hx with h' | h'
    · rw [h']; exact ⟨hW.c0, hW.c1, hW.s0, hW.s1, by show 1 ≤ w.left - 1; omega, by have := hW.l1; show w.left - 1 ≤ w.cost; omega⟩
    · exact ht.all x (by rw [hw]; simp [h'])
  · have h2 : Sok N { s with ts := s.ts.set k { t with ws := r }, busy := false } := ⟨h.k0, h.k1, by simpa using h.n, setAll h.all k ⟨ht.w0, ht.w1, ht.f0, ht.f1, by show r.length ≤ 16; omega, fun x hx => ht.all x (by rw [hw]; simp [hx])⟩⟩
    show Sok N (if _ then _ else _)
    split
    · exact rest_ok hN h2
    · exact h2
theorem step_ok {N : Int} (hN : 0 ≤ N) {s : Sc} (h : Sok N s) : Sok N (stepS s).2 := by
  unfold stepS
  split
  · split
    · rename_i k t hk
      have ht := h.at' (lookT_some hk).2.1
      split
      · rename_i w r hw; exact serve_ok hN h ht hw
      · exact h
    · exact h
  · split
    · split
      · rename_i k st hk t ht'
        have ht := h.at' ht'
        split
        · rename_i w r hw
          have hW := ht.all w (by rw [hw]; simp)
          have h2 : Sok N { s with clk := w.start, srv := t.nm } := ⟨hW.s0, hW.s1, h.n, h.all⟩
          exact serve_ok hN h2 ht hw
        · exact h
      · exact h
    · exact h
end Go.Proofs.Ytkigagglkmdccaa
