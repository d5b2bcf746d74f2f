/- The jobs in fixed turns: a line goes; what a slot does to a line. -/
import Derived.Test.YtkigagglkmdccaaMe
namespace Go.Proofs.Ytkigagglkmdccaa
open Go.RowKit
set_option linter.unusedVariables false
set_option linter.unusedSimpArgs false

theorem erase_get {α : Type} {ls : List α} {j i : Nat} {m : α} (h : (ls.eraseIdx j)[i]? = some m) : ls[if i < j then i else i + 1]? = some m := by
  rw [List.getElem?_eraseIdx] at h
  by_cases k : i < j <;> simpa [k] using h
/-- A line goes. -/
theorem MR.drop {w w' : World} {B c j : Nat} {ls : List Lf} {l : Lf} (h : MR w B c ls) (hj : ls[j]? = some l) (hmap : MapAt w' B ((ls.eraseIdx j).map Lf.en) c) (hk : ∀ q, MF B ls q → q ≠ B → ¬ l.F q → q ∉ l.ps → w'.heap[q]? = w.heap[q]?) : MR w' B c (ls.eraseIdx j) := by
  have hl := List.mem_of_getElem? hj
  have hsub : ∀ m ∈ ls.eraseIdx j, ∃ i, i ≠ j ∧ ls[i]? = some m := fun m hm => by
    obtain ⟨i, hi⟩ := List.getElem?_of_mem hm
    have := erase_get hi
    exact ⟨_, by split <;> omega, this⟩
  have hps : ∀ {q}, q ∈ l.ps → ∃ t ∈ l.ts, t.p = q := fun hq => by simpa [Lf.ps] using hq
  refine ⟨hmap, ?_, ?_, ?_, ?_, ?_, ?_, ?_⟩
  · intro m hm
    obtain ⟨i, hi, hg⟩ := hsub m hm
    have hmm := List.mem_of_getElem? hg
    refine (h.qs m hmm).at' fun q hq => hk q (.inr (.inl ⟨m, hmm, hq⟩)) (h.q_ne_map hmm hq) (h.ap i j m l hg hj hi q hq) fun k => ?_
    obtain ⟨t, h1, rfl⟩ := hps k
    exact h.t_ne_q hl hmm h1 hq
  · intro m hm t ht
    obtain ⟨i, hi, hg⟩ := hsub m hm
    have hmm := List.mem_of_getElem? hg
    refine (hk t.p (.inr (.inr (mem_tps.2 ⟨m, hmm, t, ht, rfl⟩))) (h.t_ne_map hmm ht) (h.t_ne_q hmm hl ht) fun k => ?_).trans (h.tk m hmm t ht)
    obtain ⟨u, h1, h2⟩ := hps k
    exact h.tp i j m l hg hj hi t ht u h1 h2.symm
  · intro m hm
    obtain ⟨i, hi, hg⟩ := hsub m hm
    exact h.more m (List.mem_of_getElem? hg)
  · have : List.Sublist ((ls.eraseIdx j).map Lf.nm) (ls.map Lf.nm) := (List.eraseIdx_sublist ls j).map _
    exact this.nodup h.nm
  · intro i k a b ha hb hik q hq hq2
    exact h.ap _ _ a b (erase_get ha) (erase_get hb) (by split <;> split <;> omega) q hq hq2
  · intro i k a b ha hb hik t ht u hu
    exact h.tp _ _ a b (erase_get ha) (erase_get hb) (by split <;> split <;> omega) t ht u hu
  · intro m hm
    obtain ⟨i, hi, hg⟩ := hsub m hm
    exact h.tn m (List.mem_of_getElem? hg)
theorem MF.drop {B j : Nat} {ls : List Lf} {q : Nat} (hq : MF B (ls.eraseIdx j) q) : MF B ls q := by
  have hs : ∀ m ∈ ls.eraseIdx j, m ∈ ls := fun m hm => (List.eraseIdx_sublist ls j).subset hm
  rcases hq with rfl | ⟨m, hm, hq⟩ | hq
  · exact .inl rfl
  · exact .inr (.inl ⟨m, hs m hm, hq⟩)
  · obtain ⟨m, hm, t, ht, rfl⟩ := mem_tps.1 hq
    exact .inr (.inr (mem_tps.2 ⟨m, hs m hm, t, ht, rfl⟩))
/-- turns.waiting, where only the queue of the name is known. -/
theorem mwait_at {w : World} {B c q : Nat} {F : Nat → Prop} {es : List En} {ps : List Nat} (hm : MapAt w B es c) (s : List UInt8) (hat : atE s es = .pointer (some ⟨q, 0, none⟩)) (hq : PQ w q F 16 ps) : Calls Try.prog 44 #[.map (some B), .string (tx s)] w fun e w' => e = .returned (.int .i64 (ps.length : Int)) ∧ w' = w := by
  obtain ⟨sv, k1, _⟩ := hq
  have HL : Hid (Calls Try.prog 80 #[.pointer (some ⟨q, 0, none⟩)] w fun e w' => e = .returned (.int .i64 (ps.length : Int)) ∧ w' = w) := ilen_any q 16 sv ps w k1
  have hk := run_look hm s
  rw [hat] at hk
  clear hm k1 hat
  generalize ps.length = n at HL ⊢
  go_enter Try.func44, Try.ntmps44
  go_wp2_with (go_at_call 80; refine HL.out.mono ?_; rintro e w1 ⟨rfl, hw1⟩; rw [hw1]; clear hw1)
  go_ret
  exact ⟨rfl, rfl⟩
theorem ipeek_nil (w : World) : Calls Try.prog 69 #[.pointer none] w fun e w' => e = .returned (.tuple #[.pointer none, .bool false]) ∧ w' = w := by
  go_enter Try.func69, Try.ntmps69
  go_wp2_with (go_at_call 80; refine (ilen_nil _).mono ?_; rintro e w1 ⟨rfl, hw1⟩; rw [hw1]; clear hw1)
  go_ret2
  exact ⟨rfl, rfl⟩
/-- The first task has had a slot. -/
theorem MR.had {w : World} {B c j : Nat} {ls : List Lf} {l : Lf} {t : Tk} {r : List Tk} (h : MR w B c ls) (hj : ls[j]? = some l) (hts : l.ts = t :: r) (n : Int) : MR (w.setCell ⟨t.p, 2, none⟩ (.int .i64 n)) B c (ls.set j ⟨l.nm, l.q, l.born, l.F, ⟨t.p, t.id, t.cost, n⟩ :: r⟩) := by
  have hl := List.mem_of_getElem? hj
  have htm : t ∈ l.ts := by rw [hts]; exact List.mem_cons_self ..
  have hps : (⟨l.nm, l.q, l.born, l.F, ⟨t.p, t.id, t.cost, n⟩ :: r⟩ : Lf).ps = l.ps := by simp [Lf.ps, hts]
  have hnd := h.tn l hl
  have hrow := h.tk l hl t htm
  unfold TkAt at hrow
  have hoth : ∀ q, q ≠ t.p → (w.setCell ⟨t.p, 2, none⟩ (.int .i64 n)).heap[q]? = w.heap[q]? := fun q hq => Below.heap_setCell _ _ _ _ hq
  refine h.turn hj rfl ?_ (by simp) (fun u hu => ?_) (fun u hu => .inl ?_) (by rw [hps]; exact hnd) (fun q hq hnF hnp => hoth q fun e => hnp (e ▸ List.mem_map.2 ⟨t, htm, rfl⟩)) (fun q hq => .inl hq)
  · rw [hps]
    exact (h.qs l hl).at' fun q hq => hoth q fun e => h.t_ne_q hl hl htm (e ▸ hq)
  · rcases List.mem_cons.1 hu with rfl | hu
    · exact row_set _ hrow
    · have hum : u ∈ l.ts := by rw [hts]; exact List.mem_cons_of_mem _ hu
      refine (hoth u.p fun e => ?_).trans (h.tk l hl u hum)
      unfold Lf.ps at hnd
      rw [hts, List.map_cons, List.nodup_cons] at hnd
      exact hnd.1 (e ▸ List.mem_map.2 ⟨u, hu, rfl⟩)
  · have : u.p ∈ (⟨l.nm, l.q, l.born, l.F, ⟨t.p, t.id, t.cost, n⟩ :: r⟩ : Lf).ps := List.mem_map.2 ⟨u, hu, rfl⟩
    rwa [hps] at this
end Go.Proofs.Ytkigagglkmdccaa
