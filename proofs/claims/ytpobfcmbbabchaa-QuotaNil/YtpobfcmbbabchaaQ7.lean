/- The program's table against the plain list: New, Counts, Len. -/
import Derived.Test.YtpobfcmbbabchaaQ6
namespace Go.Proofs.Ytpobfcmbbabchaa
open Go.RowKit
set_option linter.unusedVariables false
set_option linter.unusedSimpArgs false

theorem PF.at' {w w' : World} {T : Nat} {F : Nat → Prop} {l : List Bk} (h : PF w T F l) (hk : ∀ q, F q → w'.heap[q]? = w.heap[q]?) : PF w' T F l := by
  obtain ⟨sv, m, h1, h2, h3⟩ := h
  exact ⟨sv, m, h1.at' fun q hq => hk q ((h3 q).2 hq), h2, h3⟩
theorem PF.lt {w : World} {T : Nat} {F : Nat → Prop} {l : List Bk} (h : PF w T F l) : ∀ q, F q → q < w.heap.size := by
  obtain ⟨sv, m, h1, h2, h3⟩ := h
  exact fun q hq => h1.lt q ((h3 q).1 hq)
theorem PF.kind {w : World} {T : Nat} {F : Nat → Prop} {l : List Bk} (h : PF w T F l) : ∀ q, F q → ∃ o, w.heap[q]? = some o ∧ ∀ c t f, o = .cells c t f → badR t = false := by
  obtain ⟨sv, m, h1, h2, h3⟩ := h
  exact fun q hq => h1.kind q ((h3 q).1 hq)
/-- Only new blocks. -/
theorem PF.new {w w' : World} {T : Nat} {F : Nat → Prop} {l : List Bk} (h : PF w T F l) (hb : Below w.heap.size w w') : ∃ F', PF w' T F' l ∧ Fr F F' w w' ∧ Kx badQ w w' :=
  ⟨F, h.at' fun q hq => hb.block q (h.lt q hq), ⟨hb.os, hb.tape, hb.output, hb.size, fun q hq _ => hb.block q hq, fun q hq => .inl hq⟩, Kx.of hb (Nat.le_refl _)⟩
theorem new_any (w : World) : Calls Try.prog 11 #[] w fun e w' => ∃ T F, e = .returned (.pointer (some ⟨T, 0, none⟩)) ∧ PF w' T F [] ∧ (∀ q, F q → w.heap.size ≤ q) ∧ Below w.heap.size w w' := by
  go_enter Try.func11, Try.ntmps11
  go_wp2
  go_ret
  refine ⟨w.heap.size, foot w.heap.size (.slice none 0 0) [], rfl, ⟨.slice none 0 0, [], ⟨heap_alloc_new _ _, ?_, fun p b hp => by simp at hp, List.Pairwise.nil, List.Pairwise.nil⟩, List.Perm.refl _, fun q => Iff.rfl⟩, ?_, bel1 w _⟩
  · exact ⟨rfl, .inl ⟨rfl, rfl⟩⟩
  · rintro q (rfl | hq | hq)
    · exact Nat.le_refl _
    · cases hq
    · simp [pts] at hq
theorem load41 {W : World} {g : Nat} {cs : Array Value} (h : W.heap[g]? = some (.cells cs 41 (0, 0))) (hs : cs.size = 3) : (loadVar 41 ⟨g, 0, none⟩).run Try.prog W = .ok (.agg cs) W :=
  run_loadVar_row W g 41 41 cs (0, 0) _ h Try.underlying41 rfl (by rw [hs]; kernel_rfl)
set_option maxRecDepth 20000 in
set_option maxHeartbeats 4000000 in
theorem cnt_any (N : Int) (T : Nat) (F : Nat → Prop) (l : List Bk) (nm : List UInt8) (w : World) (h : PF w T F l) (ht : Tok N l) (hN : N ≤ 1000000) :
    Calls Try.prog 14 #[.pointer (some ⟨T, 0, none⟩), .string (tx nm)] w fun e w' => e = .returned (cntV (cntI l nm)) ∧ ∃ F', PF w' T F' l ∧ Fr F F' w w' ∧ Kx badQ w w' := by
  have HN : Hid (∀ w' : World, Below w.heap.size w w' → ∃ F', PF w' T F' l ∧ Fr F F' w w' ∧ Kx badQ w w') := fun w' hb => h.new hb
  obtain ⟨sv, m, hp, hl, ⟨i, p, b, k, hf, hx, hput⟩ | ⟨hf, hx⟩⟩ := h.look ht.len nm
  · have HR : Hid (cntI l nm = ((b.tk, b.rf, b.cs), 0)) := by show _ = _; unfold cntI; rw [hx]
    have HF : Hid (∀ W : World, Below w.heap.size w W → Calls Try.prog 31 #[.pointer (some ⟨T, 0, none⟩), .string (tx nm)] W fun e w' => e = .returned (.tuple #[.pointer (some ⟨p, 1, none⟩), .int .i64 0]) ∧ w' = W) := fun W hb => by
      have := find_any T sv m nm W (hp.at' fun q hq => hb.block q (hp.lt q hq)) hl
      rw [hf] at this
      exact this
    have hrow := hp.each p b (List.mem_of_getElem? (fnd_some hf).2.2.1)
    obtain ⟨c0, c1, c2, c3, c4, c5, c6, c7⟩ := row8_cells hrow
    have hpl := (Array.getElem?_eq_some_iff.1 hrow).1
    have hT := (Array.getElem?_eq_some_iff.1 hp.tab).1
    clear h ht hp hl hf hx hput hrow c0 c1 c2 c3 c4
    go_enter Try.func14, Try.ntmps14
    go_wp2_with (go_at_call 31; refine (HF.out _ (bel1 w _)).mono ?_; rintro e w1 ⟨rfl, hw1⟩; rw [hw1]; clear hw1)
    refine bodyPost_ret (v := cntV ((b.tk, b.rf, b.cs), 0)) (results_two Try.results14 _ _ w.heap.size _ _ rfl rfl (load41 (heap_alloc_new _ _) rfl)) rfl ⟨by rw [HR.out], HN.out _ (bel1 w _)⟩
  · have HR : Hid (cntI l nm = ((0, 0, 0), 5)) := by show _ = _; unfold cntI; rw [hx]
    have HF : Hid (∀ W : World, Below w.heap.size w W → Calls Try.prog 31 #[.pointer (some ⟨T, 0, none⟩), .string (tx nm)] W fun e w' => e = .returned (.tuple #[.pointer none, .int .i64 5]) ∧ w' = W) := fun W hb => by
      have := find_any T sv m nm W (hp.at' fun q hq => hb.block q (hp.lt q hq)) hl
      rw [hf] at this
      exact this
    clear h ht hp hl hf hx
    go_enter Try.func14, Try.ntmps14
    go_wp2_with (go_at_call 31; refine (HF.out _ (bel1 w _)).mono ?_; rintro e w1 ⟨rfl, hw1⟩; rw [hw1]; clear hw1)
    refine bodyPost_ret (v := cntV ((0, 0, 0), 5)) (results_two Try.results14 _ _ w.heap.size _ _ rfl rfl (load41 (heap_alloc_new _ _) rfl)) rfl ⟨by rw [HR.out], HN.out _ (bel1 w _)⟩
theorem rlen_any (T : Nat) (sa : Option Addr) (n cap : Nat) (w : World) (c0 : w.cell? ⟨T, 0, none⟩ = some (.slice sa n cap)) :
    Calls Try.prog 41 #[.pointer (some ⟨T, 0, none⟩)] w fun e w' => e = .returned (.int .i64 n) ∧ w' = w := by
  go_enter Try.func41, Try.ntmps41
  go_wp2
  go_ret
  exact ⟨rfl, rfl⟩
theorem len_any (N : Int) (T : Nat) (F : Nat → Prop) (l : List Bk) (w : World) (h : PF w T F l) (ht : Tok N l) (hN : N ≤ 1000000) :
    Calls Try.prog 21 #[.pointer (some ⟨T, 0, none⟩)] w fun e w' => e = .returned (.int .i64 (l.length : Int)) ∧ ∃ F', PF w' T F' l ∧ Fr F F' w w' ∧ Kx badQ w w' := by
  have HS : Hid (∃ F', PF w T F' l ∧ Fr F F' w w ∧ Kx badQ w w) := h.same
  obtain ⟨sv, m, h1, h2, h3⟩ := h
  have hlen : (pts m).length = l.length := by have := h2.length_eq; unfold bks at this; unfold pts; simpa using this
  obtain ⟨sa, cap, hv⟩ := own_slice h1.row
  rw [hlen] at hv
  subst hv
  have HL : Hid (∀ W, W = w → Calls Try.prog 41 #[.pointer (some ⟨T, 0, none⟩)] W fun e w' => e = .returned (.int .i64 (l.length : Int)) ∧ w' = W) := fun W e => by
    subst e
    exact rlen_any T sa l.length cap W h1.cell
  clear h1 h2 h3 hlen ht
  go_enter Try.func21, Try.ntmps21
  go_wp2_with (go_at_call 41; refine (HL.out _ rfl).mono ?_; rintro e w1 ⟨rfl, hw1⟩; rw [hw1]; clear hw1)
  go_ret
  exact ⟨rfl, HS.out⟩
end Go.Proofs.Ytpobfcmbbabchaa
