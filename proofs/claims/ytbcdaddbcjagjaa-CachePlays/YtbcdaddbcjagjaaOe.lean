/- drop, Forget, Counts of a cache. -/
import Derived.Test.YtbcdaddbcjagjaaOd
namespace Go.Proofs.Ytbcdaddbcjagjaa
open Go.RowKit
set_option linter.unusedVariables false
set_option linter.unusedSimpArgs false

variable {w w' : World} {C : Nat} {F : Nat → Prop} {most : Int} {E : List UInt8 → List It} {N : List UInt8 → Int × Int}
theorem outE_some {es : List It} {k : List UInt8} {x : It} (h : lkE k es = some x) : es ≠ [] := by
  rintro rfl
  simp [lkE] at h
set_option maxRecDepth 20000 in
set_option maxHeartbeats 4000000 in
theorem CR.drop (h : CR w C F most E N) (s k : List UInt8) : Calls Try.prog 41 #[.pointer (some ⟨C, 0, none⟩), .string (tx s), .string (tx k)] w fun e w' => e = .returned (.tuple #[]) ∧ ∃ F', CR w' C F' most (updE E s (outE k (E s))) N ∧ Fr F F' w w' := by
  by_cases hs : E s = []
  · obtain ⟨K, T, c0, c1, hl, -⟩ := h.shut hs
    have HC : Hid (CR w C F most (updE E s (outE k (E s))) N) := by
      rw [hs]
      have := h.same (s := s)
      rw [hs] at this
      exact this
    have HD : Hid (Calls Try.prog 53 #[.pointer none, .string (tx k)] w fun e w' => e = .returned (.bool false) ∧ w' = w) := del_nil k w
    clear h hs c0
    go_enter Try.func41, Try.ntmps41
    go_wp2_with (go_at_call 53; refine HD.out.mono ?_; rintro e w1 ⟨rfl, hw1⟩; rw [hw1]; clear hw1)
    go_end0
    exact ⟨rfl, F, HC.out, Fr.refl _ _⟩
  · obtain ⟨K, L, M, FL, c1, hl, hlr, hFL, hturn, hhole, -⟩ := h.open hs
    have HD : Hid (Calls Try.prog 53 #[.pointer (some ⟨L, 0, none⟩), .string (tx k)] w fun e w' => e = .returned (.bool (lkE k (E s)).isSome) ∧ Hid (∃ F', LR w' L M F' most (outE k (E s)) ∧ Fr FL F' w w')) := hlr.del k
    have HT : Hid (∀ w' F' es', es' ≠ [] → LR w' L M F' most es' → Fr FL F' w w' → ∃ F'', CR w' C F'' most (updE E s es') N ∧ Fr F F'' w w') := hturn
    have HH : Hid (∀ w' F', LR w' L M F' most [] → Fr FL F' w w' → w'.cell? ⟨C, 1, none⟩ = some (.map (some K)) ∧ ∃ o, (Builtin.delete_ #[70, 9] 0 #[.map (some K), .string (tx s)]).run Try.prog w' = .ok (.tuple #[]) (setM w' K o) ∧ ∃ F'', CR (setM w' K o) C F'' most (updE E s []) N ∧ Fr F F'' w (setM w' K o)) := hhole
    have HS : Hid (E s ≠ []) := hs
    clear h hs hlr hFL hturn hhole
    cases hk : lkE k (E s) with
    | none =>
      rw [hk] at HD
      have HO : Hid (outE k (E s) = E s) := outE_none (lkE_none.1 hk)
      have HD' : Hid (Calls Try.prog 53 #[.pointer (some ⟨L, 0, none⟩), .string (tx k)] w fun e w' => e = .returned (.bool false) ∧ Hid (∃ F', LR w' L M F' most (outE k (E s)) ∧ Fr FL F' w w')) := HD.out
      clear hk HD
      go_enter Try.func41, Try.ntmps41
      go_wp2_with (go_at_call 53; refine HD'.out.mono ?_; rintro e w1 ⟨rfl, H1⟩)
      go_end0
      obtain ⟨F', k1, k2⟩ := H1.out
      exact ⟨rfl, HT.out w1 F' _ (by rw [HO.out]; exact HS.out) k1 k2⟩
    | some x =>
      rw [hk] at HD
      have HD' : Hid (Calls Try.prog 53 #[.pointer (some ⟨L, 0, none⟩), .string (tx k)] w fun e w' => e = .returned (.bool true) ∧ Hid (∃ F', LR w' L M F' most (outE k (E s)) ∧ Fr FL F' w w')) := HD.out
      clear hk HD
      by_cases ho : outE k (E s) = []
      · have HO : Hid (outE k (E s) = []) := ho
        rw [ho] at HD' ⊢
        clear ho
        have HLEN : Hid (∀ V F', LR V L M F' most [] → Calls Try.prog 35 #[.pointer (some ⟨L, 0, none⟩)] V fun e w' => e = .returned (.int .i64 0) ∧ w' = V) := fun V F' hV => hV.len
        go_enter Try.func41, Try.ntmps41
        go_upto_region 2 with (first | (go_at_call 53; refine HD'.out.mono ?_; rintro e w1 ⟨rfl, H1⟩; (have HLN : Hid (Calls Try.prog 35 #[.pointer (some ⟨L, 0, none⟩)] w1 fun e w' => e = .returned (.int .i64 0) ∧ w' = w1) := (by obtain ⟨F', k1, k2⟩ := H1.out; exact HLEN.out w1 F' k1))) | (go_at_call 35; refine HLN.out.mono ?_; rintro e w2 ⟨rfl, hw2⟩; rw [hw2]; clear hw2))
        obtain ⟨F', k1, k2⟩ := H1.out
        obtain ⟨d1, o, hdel, F'', d2, d3⟩ := HH.out w1 F' k1 k2
        have HR : Hid (CR (setM w1 K o) C F'' most (updE E s []) N ∧ Fr F F'' w (setM w1 K o)) := ⟨d2, d3⟩
        generalize setM w1 K o = V at *
        clear k1 k2 d2 d3 c1 hl
        go_wp2_with fail
        go_end0
        exact ⟨rfl, F'', HR.out⟩
      · have HO : Hid (outE k (E s) ≠ []) := ho
        have hp : ¬ ((outE k (E s)).length : Int) = 0 := fun e => ho (List.eq_nil_of_length_eq_zero (by omega))
        have HLEN : Hid (∀ V F', LR V L M F' most (outE k (E s)) → Calls Try.prog 35 #[.pointer (some ⟨L, 0, none⟩)] V fun e w' => e = .returned (.int .i64 ((outE k (E s)).length : Int)) ∧ w' = V) := fun V F' hV => hV.len
        clear ho
        generalize hc : ((outE k (E s)).length : Int) = c at hp HLEN
        have hp' : (c == 0) = false := by simpa using hp
        clear hc
        go_enter Try.func41, Try.ntmps41
        go_wp2_with (first | (go_at_call 53; refine HD'.out.mono ?_; rintro e w1 ⟨rfl, H1⟩; (have HLN : Hid (Calls Try.prog 35 #[.pointer (some ⟨L, 0, none⟩)] w1 fun e w' => e = .returned (.int .i64 c) ∧ w' = w1) := (by obtain ⟨F', k1, k2⟩ := H1.out; exact HLEN.out w1 F' k1))) | (go_at_call 35; refine HLN.out.mono ?_; rintro e w2 ⟨rfl, hw2⟩; rw [hw2]; clear hw2))
        go_end0
        obtain ⟨F', k1, k2⟩ := H1.out
        exact ⟨rfl, HT.out w1 F' _ HO.out k1 k2⟩
theorem cforget_nil (s : List UInt8) (w : World) : Calls Try.prog 24 #[.pointer none, .string (tx s)] w fun e w' => e = .returned (.int .i64 0) ∧ w' = w := by
  have HL : Hid (Calls Try.prog 18 #[.pointer none, .string (tx s)] w fun e w' => e = .returned (.int .i64 0) ∧ w' = w) := clen_nil s w
  go_enter Try.func24, Try.ntmps24
  go_wp2_with (go_at_call 18; refine HL.out.mono ?_; rintro e w1 ⟨rfl, hw1⟩; rw [hw1]; clear hw1)
  go_ret
  exact ⟨rfl, rfl⟩
set_option maxRecDepth 20000 in
set_option maxHeartbeats 4000000 in
theorem CR.forget (h : CR w C F most E N) (s : List UInt8) : Calls Try.prog 24 #[.pointer (some ⟨C, 0, none⟩), .string (tx s)] w fun e w' => e = .returned (.int .i64 ((E s).length : Int)) ∧ ∃ F', CR w' C F' most (updE E s []) N ∧ Fr F F' w w' := by
  have HL : Hid (Calls Try.prog 18 #[.pointer (some ⟨C, 0, none⟩), .string (tx s)] w fun e w' => e = .returned (.int .i64 ((E s).length : Int)) ∧ w' = w) := h.len s
  by_cases hs : E s = []
  · have HC : Hid (CR w C F most (updE E s []) N) := by
      have := h.same (s := s)
      rw [hs] at this
      exact this
    rw [hs] at HL ⊢
    clear h hs
    go_enter Try.func24, Try.ntmps24
    go_wp2_with (go_at_call 18; refine HL.out.mono ?_; rintro e w1 ⟨rfl, hw1⟩; rw [hw1]; clear hw1)
    go_ret
    exact ⟨rfl, F, HC.out, Fr.refl _ _⟩
  · obtain ⟨K, L, M, FL, c1, hl, hlr, hFL, hturn, hhole, o, hdel, F'', d2, d3⟩ := h.open hs
    have hp : 0 < ((E s).length : Int) := by have := List.length_pos_iff.2 hs; omega
    have HR : Hid (CR (setM w K o) C F'' most (updE E s []) N ∧ Fr F F'' w (setM w K o)) := ⟨d2, d3⟩
    clear h hs hlr hFL hturn hhole hl d2 d3
    generalize setM w K o = V at *
    generalize ((E s).length : Int) = c at *
    go_enter Try.func24, Try.ntmps24
    go_wp2_with (go_at_call 18; refine HL.out.mono ?_; rintro e w1 ⟨rfl, hw1⟩; rw [hw1]; clear hw1)
    go_ret
    exact ⟨rfl, F'', HR.out⟩
theorem row43 {W : World} {g : Nat} {a b : Value} (e : W.heap[g]? = some (.cells #[a, b] 43 (0, 0))) : W.cell? ⟨g, 0, none⟩ = some a ∧ W.cell? ⟨g, 1, none⟩ = some b ∧ W.frozen? ⟨g, 0, none⟩ = false ∧ W.frozen? ⟨g, 1, none⟩ = false :=
  ⟨by rw [cell_of_row _ _ _ _ _ _ e]; rfl, by rw [cell_of_row _ _ _ _ _ _ e]; rfl, by simp [World.frozen?, e], by simp [World.frozen?, e]⟩
theorem ccounts_nil (s : List UInt8) (w : World) : Calls Try.prog 20 #[.pointer none, .string (tx s)] w fun e w' => e = .returned (cV (0, 0)) ∧ Below w.heap.size w w' := by
  go_enter Try.func20, Try.ntmps20
  go_wp2_with fail
  refine bodyPost_ret (v := cV (0, 0)) (results_cell_row Try.results20 _ _ w.heap.size 43 #[.int .i64 0, .int .i64 0] (0, 0) _ rfl (heap_alloc_new _ _) Try.underlying43 rfl (by kernel_rfl)) rfl ⟨rfl, bel1' w _⟩
set_option maxRecDepth 20000 in
set_option maxHeartbeats 4000000 in
theorem CR.count (h : CR w C F most E N) (s : List UInt8) : Calls Try.prog 20 #[.pointer (some ⟨C, 0, none⟩), .string (tx s)] w fun e w' => e = .returned (cV (N s)) ∧ Below w.heap.size w w' := by
  obtain ⟨W0, hW0⟩ : ∃ W, w.alloc (.cells #[.int .i64 0, .int .i64 0] 43) = W := ⟨_, rfl⟩
  have hb0 : Below w.heap.size w W0 := by rw [← hW0]; exact bel1' _ _
  have hg0 : W0.heap[w.heap.size]? = some (.cells #[.int .i64 0, .int .i64 0] 43 (0, 0)) := by rw [← hW0]; exact heap_alloc_new _ _
  obtain ⟨D, c2, hl, -⟩ := (h.newer hb0).counts s
  have HG : Hid (W0.heap[w.heap.size]? = some (.cells #[.int .i64 0, .int .i64 0] 43 (0, 0)) ∧ Below w.heap.size w W0) := ⟨hg0, hb0⟩
  obtain ⟨y0, y1, z0, z1⟩ := row43 hg0
  clear h hb0 hg0
  obtain ⟨⟨H, Ms⟩, hN⟩ : ∃ p, N s = p := ⟨_, rfl⟩
  rw [hN] at hl ⊢
  have hl' : (Instr.lookup 71 (.map (some D)) (.string (tx s)) false).run Try.prog W0 = .ok (.agg #[.int .i64 H, .int .i64 Ms]) W0 := hl
  clear hl hN
  go_enter Try.func20, Try.ntmps20
  go_wp2_with fail
  obtain ⟨V, hV⟩ : ∃ V, (W0.setCell ⟨w.heap.size, 0, none⟩ (.int .i64 H)).setCell ⟨w.heap.size, 1, none⟩ (.int .i64 Ms) = V := ⟨_, rfl⟩
  have hr : V.heap[w.heap.size]? = some (.cells #[.int .i64 H, .int .i64 Ms] 43 (0, 0)) := by rw [← hV]; exact row_set _ (row_set _ HG.out.1)
  have hb : Below w.heap.size w V := by
    rw [← hV]
    refine (HG.out.2.setCell ?_ _).setCell ?_ _ <;> exact Nat.le_refl _
  rw [hV]
  refine bodyPost_ret (v := cV (H, Ms)) (results_cell_row Try.results20 _ _ w.heap.size 43 #[.int .i64 H, .int .i64 Ms] (0, 0) _ rfl hr Try.underlying43 rfl (by kernel_rfl)) rfl ⟨rfl, hb⟩
end Go.Proofs.Ytbcdaddbcjagjaa
