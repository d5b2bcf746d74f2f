/- The jobs in fixed turns: what each name has; a job is pushed. -/
import Derived.Test.YtkigagglkmdccaaMc
namespace Go.Proofs.Ytkigagglkmdccaa
open Go.RowKit
set_option linter.unusedVariables false
set_option linter.unusedSimpArgs false

theorem lnF_cons (s : List UInt8) (l : Lf) (r : List Lf) : lnF s (l :: r) = if s = l.nm then some l else lnF s r := by
  unfold lnF
  rw [List.find?_cons]
  by_cases e : s = l.nm <;> simp [e]
theorem lnF_mem {s : List UInt8} {ls : List Lf} (h : s ∉ ls.map Lf.nm) : lnF s ls = none := by
  unfold lnF
  rw [List.find?_eq_none]
  intro l hl
  simp only [decide_eq_true_eq]
  exact fun e => h (List.mem_map.2 ⟨l, hl, e.symm⟩)
theorem lnF_nmem {s : List UInt8} {ls : List Lf} (h : lnF s ls = none) : s ∉ ls.map Lf.nm := fun k => by
  obtain ⟨l, hl, e⟩ := List.mem_map.1 k
  unfold lnF at h
  rw [List.find?_eq_none] at h
  exact h l hl (by simp [e])
theorem lnF_set : ∀ (ls : List Lf) (j : Nat) (l l' : Lf) (s : List UInt8), ls[j]? = some l → l'.nm = l.nm → (ls.map Lf.nm).Nodup → lnF s (ls.set j l') = if s = l.nm then some l' else lnF s ls
  | [], _, _, _, _, h, _, _ => by cases h
  | a :: r, 0, l, l', s, h, e, _ => by
    have : a = l := by simpa using h
    subst this
    rw [List.set_cons_zero, lnF_cons, lnF_cons, e]
    by_cases k : s = a.nm <;> simp [k]
  | a :: r, j + 1, l, l', s, h, e, hn => by
    have h' : r[j]? = some l := by simpa using h
    rw [List.map_cons, List.nodup_cons] at hn
    have hne : a.nm ≠ l.nm := fun k => hn.1 (k ▸ List.mem_map.2 ⟨l, List.mem_of_getElem? h', rfl⟩)
    rw [List.set_cons_succ, lnF_cons, lnF_cons, lnF_set r j l l' s h' e hn.2]
    by_cases k : s = a.nm
    · subst k; simp [hne]
    · simp [k]
theorem lnF_erase : ∀ (ls : List Lf) (j : Nat) (l : Lf) (s : List UInt8), ls[j]? = some l → (ls.map Lf.nm).Nodup → lnF s (ls.eraseIdx j) = if s = l.nm then none else lnF s ls
  | [], _, _, _, h, _ => by cases h
  | a :: r, 0, l, s, h, hn => by
    have : a = l := by simpa using h
    subst this
    rw [List.map_cons, List.nodup_cons] at hn
    rw [List.eraseIdx_cons_zero, lnF_cons]
    by_cases k : s = a.nm
    · subst k; simp [lnF_mem hn.1]
    · simp [k]
  | a :: r, j + 1, l, s, h, hn => by
    have h' : r[j]? = some l := by simpa using h
    rw [List.map_cons, List.nodup_cons] at hn
    have hne : a.nm ≠ l.nm := fun k => hn.1 (k ▸ List.mem_map.2 ⟨l, List.mem_of_getElem? h', rfl⟩)
    rw [List.eraseIdx_cons_succ, lnF_cons, lnF_cons, lnF_erase r j l s h' hn.2]
    by_cases k : s = a.nm
    · subst k; simp [hne]
    · simp [k]
theorem lnF_add (ls : List Lf) (l : Lf) (s : List UInt8) (hn : l.nm ∉ ls.map Lf.nm) : lnF s (ls ++ [l]) = if s = l.nm then some l else lnF s ls := by
  induction ls with
  | nil => rw [List.nil_append, lnF_cons]
  | cons a r ih =>
    rw [List.map_cons, List.mem_cons] at hn
    rw [List.cons_append, lnF_cons, lnF_cons, ih fun k => hn (.inr k)]
    by_cases k : s = a.nm
    · subst k
      have : a.nm ≠ l.nm := fun e => hn (.inl e.symm)
      simp [this]
    · simp [k]
/-- A job, and what it needs. -/
abbrev Wn := Int × Int × Int
def Tk.w (t : Tk) : Wn := (t.id, t.cost, t.needs)
def tsW (s : List UInt8) (ls : List Lf) : List Wn := (tsF s ls).map Tk.w
/-- The map against what each name has. -/
def MP (w : World) (B : Nat) (F : Nat → Prop) (J : List UInt8 → List Wn) : Prop := ∃ c ls, MR w B c ls ∧ (∀ s, tsW s ls = J s) ∧ ∀ q, F q ↔ MF B ls q
def upd (J : List UInt8 → List Wn) (s : List UInt8) (l : List Wn) : List UInt8 → List Wn := fun s' => if s' = s then l else J s'
theorem MP.lt {w : World} {B : Nat} {F : Nat → Prop} {J : List UInt8 → List Wn} (h : MP w B F J) : ∀ q, F q → q < w.heap.size := by
  obtain ⟨c, ls, h1, h2, h3⟩ := h
  exact fun q hq => h1.lt q ((h3 q).1 hq)
theorem MP.at' {w w' : World} {B : Nat} {F : Nat → Prop} {J : List UInt8 → List Wn} (h : MP w B F J) (hk : ∀ q, F q → w'.heap[q]? = w.heap[q]?) : MP w' B F J := by
  obtain ⟨c, ls, h1, h2, h3⟩ := h
  exact ⟨c, ls, h1.at' fun q hq => hk q ((h3 q).2 hq), h2, h3⟩
theorem MP.new (w : World) : MP (w.alloc (.map #[] 0)) w.heap.size (fun q => q = w.heap.size) fun _ => [] := by
  refine ⟨0, [], ⟨heap_alloc_new _ _, fun l hl => (nomatch hl), fun l hl => (nomatch hl), fun l hl => (nomatch hl), List.nodup_nil, fun i k a b h => by simp at h, fun i k a b h => by simp at h, fun l hl => (nomatch hl)⟩, fun s => rfl, fun q => ?_⟩
  simp [MF, tps]
theorem mwait_mp {w : World} {B : Nat} {F : Nat → Prop} {J : List UInt8 → List Wn} (h : MP w B F J) (s : List UInt8) : Calls Try.prog 44 #[.map (some B), .string (tx s)] w fun e w' => e = .returned (.int .i64 ((J s).length : Int)) ∧ w' = w := by
  obtain ⟨c, ls, h1, h2, h3⟩ := h
  have := mwait_any h1 s
  rwa [show (tsF s ls).length = (J s).length by rw [← h2 s]; simp [tsW]] at this
/-- A job behind a line that is there. -/
theorem push_old {w : World} {B c j : Nat} {ls : List Lf} {l : Lf} (h : MR w B c ls) (hj : ls[j]? = some l) (hlen : l.ts.length ≤ 16) (id cost : Int) (W : World) (x : Nat) (hb : Below w.heap.size w W) (hx : w.heap.size ≤ x) (ht : TkAt W ⟨x, id, cost, cost⟩) :
    Calls Try.prog 68 #[.pointer (some ⟨l.q, 0, none⟩), .pointer (some ⟨x, 0, none⟩)] W fun e w' => e = .returned (.int .i64 (if 16 ≤ l.ts.length then 200 else 0)) ∧ ∃ F', MP w' B F' (upd (tsW · ls) l.nm (if 16 ≤ l.ts.length then l.ts.map Tk.w else l.ts.map Tk.w ++ [(id, cost, cost)])) ∧ Fr (MF B ls) F' w w' := by
  have hl := List.mem_of_getElem? hj
  have hW : MR W B c ls := h.at' fun q hq => hb.block q (h.lt q hq)
  have hps : l.ps.length = l.ts.length := by simp [Lf.ps]
  have hxw : x < W.heap.size := (Array.getElem?_eq_some_iff.1 ht).1
  have hnx : ¬ MF B ls x := fun k => by have := h.lt x k; omega
  have hnF : ¬ l.F x := fun k => hnx (.inr (.inl ⟨l, hl, k⟩))
  have hin : ∀ q, l.F q → MF B ls q := fun q hq => .inr (.inl ⟨l, hl, hq⟩)
  have hip : ∀ q, q ∈ l.ps → MF B ls q := fun q hq => by
    obtain ⟨t, h1, h2⟩ := List.mem_map.1 hq
    exact .inr (.inr (mem_tps.2 ⟨l, hl, t, h1, h2⟩))
  by_cases hf : 16 ≤ l.ts.length
  · rw [if_pos hf, if_pos hf]
    refine (ipush_full l.q l.F 16 l.ps x W (hW.qs l hl) (by omega) (by omega)).mono ?_
    rintro e w' ⟨rfl, F', k1, k2⟩
    refine ⟨rfl, MF B (ls.set j ⟨l.nm, l.q, l.born, F', l.ts⟩), ⟨c, ls.set j ⟨l.nm, l.q, l.born, F', l.ts⟩, ?_, ?_, fun q => Iff.rfl⟩, ?_⟩
    · refine hW.turn hj rfl k1 (h.more l hl) (fun t htm => ?_) (fun t htm => .inl (List.mem_map.2 ⟨t, htm, rfl⟩)) (h.tn l hl) (fun q hq hnq _ => k2.block q (hW.lt q hq) hnq) (fun q hq => ?_)
      · have hlt := hW.lt t.p (hip t.p (List.mem_map.2 ⟨t, htm, rfl⟩))
        exact (k2.block t.p hlt (hW.t_ne_q hl hl htm)).trans (hW.tk l hl t htm)
      · rcases k2.grow q hq with h' | h'
        · exact .inl h'
        · exact .inr fun k => by have := hW.lt q k; omega
    · intro s
      unfold upd tsW tsF
      rw [lnF_set ls j l ⟨l.nm, l.q, l.born, F', l.ts⟩ s hj rfl h.nm]
      by_cases e : s = l.nm <;> simp [e]
    · refine ⟨k2.os.trans hb.os, k2.tape.trans hb.tape, k2.output.trans hb.output, Nat.le_trans hb.size k2.size, fun q hq hnq => (k2.block q (Nat.lt_of_lt_of_le hq hb.size) fun k => hnq (hin q k)).trans (hb.block q hq), fun q hq => ?_⟩
      rcases MF.turn hj hq with k | k | k
      · exact .inl k
      · rcases k2.grow q k with h' | h'
        · exact .inl (hin q h')
        · exact .inr (Nat.le_trans hb.size h')
      · exact .inl (hip q k)
  · rw [if_neg hf, if_neg hf]
    refine (ipush_any l.q l.F 16 l.ps x W (hW.qs l hl) (by omega) (by omega)).mono ?_
    rintro e w' ⟨rfl, F', k1, k2⟩
    have hps2 : (⟨l.nm, l.q, l.born, F', l.ts ++ [⟨x, id, cost, cost⟩]⟩ : Lf).ps = l.ps ++ [x] := by simp [Lf.ps]
    refine ⟨rfl, MF B (ls.set j ⟨l.nm, l.q, l.born, F', l.ts ++ [⟨x, id, cost, cost⟩]⟩), ⟨c, ls.set j ⟨l.nm, l.q, l.born, F', l.ts ++ [⟨x, id, cost, cost⟩]⟩, ?_, ?_, fun q => Iff.rfl⟩, ?_⟩
    · refine hW.turn hj rfl (by rw [hps2]; exact k1) (by simp) (fun t htm => ?_) (fun t htm => ?_) ?_ (fun q hq hnq _ => k2.block q (hW.lt q hq) hnq) (fun q hq => ?_)
      · rcases List.mem_append.1 htm with htm | htm
        · have hlt := hW.lt t.p (hip t.p (List.mem_map.2 ⟨t, htm, rfl⟩))
          exact (k2.block t.p hlt (hW.t_ne_q hl hl htm)).trans (hW.tk l hl t htm)
        · rw [List.mem_singleton.1 htm]
          exact (k2.block x hxw hnF).trans ht
      · rcases List.mem_append.1 htm with htm | htm
        · exact .inl (List.mem_map.2 ⟨t, htm, rfl⟩)
        · rw [List.mem_singleton.1 htm]
          exact .inr hnx
      · rw [hps2, List.nodup_append]
        refine ⟨h.tn l hl, by simp, fun a ha b hb e => ?_⟩
        have : b = x := by simpa using hb
        exact hnx (this ▸ e ▸ hip a ha)
      · rcases k2.grow q hq with h' | h'
        · exact .inl h'
        · exact .inr fun k => by have := hW.lt q k; omega
    · intro s
      unfold upd tsW tsF
      rw [lnF_set ls j l ⟨l.nm, l.q, l.born, F', l.ts ++ [(⟨x, id, cost, cost⟩ : Tk)]⟩ s hj rfl h.nm]
      by_cases e : s = l.nm <;> simp [e, Tk.w]
    · refine ⟨k2.os.trans hb.os, k2.tape.trans hb.tape, k2.output.trans hb.output, Nat.le_trans hb.size k2.size, fun q hq hnq => (k2.block q (Nat.lt_of_lt_of_le hq hb.size) fun k => hnq (hin q k)).trans (hb.block q hq), fun q hq => ?_⟩
      rcases MF.turn hj hq with k | k | k
      · exact .inl k
      · rcases k2.grow q k with h' | h'
        · exact .inl (hin q h')
        · exact .inr (Nat.le_trans hb.size h')
      · rw [hps2] at k
        rcases List.mem_append.1 k with k | k
        · exact .inl (hip q k)
        · rw [List.mem_singleton.1 k]
          exact .inr hx
end Go.Proofs.Ytkigagglkmdccaa
