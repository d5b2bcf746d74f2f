/- step's Get, Forget and the others; step. -/
import Derived.Test.YtbcdaddbcjagjaaRc
namespace Go.Proofs.Ytbcdaddbcjagjaa
open Go.RowKit
set_option linter.unusedVariables false
set_option linter.unusedSimpArgs false
variable {w w' : World} {C R : Nat} {F : Nat → Prop} {most : Int} {E : List UInt8 → List It} {N : List UInt8 → Int × Int}
set_option maxRecDepth 20000 in
set_option maxHeartbeats 4000000 in
theorem step_forget (h : CR w C F most E N) (hR : RB w R (.slice none 0 0) (.slice none 0 0)) (hRF : ¬ F R) (kind : Int) (s k st te : List UInt8) (hk : kind = 4) : Calls Try.prog 17 #[.pointer (some ⟨C, 0, none⟩), .pointer (some ⟨R, 0, none⟩), .agg #[.int .i64 kind, .string (tx s), .string (tx k), .string (tx st), .string (tx te)]] w fun e w' => ∃ b, e = .returned (.bool b) ∧ Hid (Aft w w' C R F most s E N) := by
  obtain ⟨W, hW⟩ : ∃ W, w.alloc (.cells #[.int .i64 kind, .string (tx s), .string (tx k), .string (tx st), .string (tx te)] 39) = W := ⟨_, rfl⟩
  have hbW : Below w.heap.size w W := by rw [← hW]; exact bel1' _ _
  have hgW : W.heap[w.heap.size]? = some (.cells #[.int .i64 kind, .string (tx s), .string (tx k), .string (tx st), .string (tx te)] 39 (0, 0)) := by rw [← hW]; exact heap_alloc_new _ _
  have hlt : R < w.heap.size := (Array.getElem?_eq_some_iff.1 hR).1
  have hRW : RB W R (.slice none 0 0) (.slice none 0 0) := (hbW.block R hlt).trans hR
  have hsW : W.heap.size = w.heap.size + 1 := by rw [← hW]; simp
  -- behind the cache's call: the box and the model lie as before
  have HA : Hid (Calls Try.prog 24 #[.pointer (some ⟨C, 0, none⟩), .string (tx s)] W.drew fun e w' => e = .returned (.int .i64 ((E s).length : Int)) ∧ Hid (Aft w w' C R F most s E N ∧ RB w' R (.slice none 0 0) (.slice none 0 0) ∧ w'.heap[w.heap.size]? = some (.cells #[.int .i64 kind, .string (tx s), .string (tx k), .string (tx st), .string (tx te)] 39 (0, 0)))) := by
    refine ((h.newer (hbW.trans ((drew_below W).mono hbW.size))).forget s).mono ?_
    rintro e w1 ⟨rfl, F', k1, k2⟩
    have f1 : Fr F F' w w1 := (Fr.newer (hbW.trans ((drew_below W).mono hbW.size))).trans' k2
    refine ⟨rfl, Aft.of hRF hlt k1 (oth_forget s) f1, (f1.block R hlt hRF).trans hR, ?_⟩
    exact (k2.block _ (by show _ < W.heap.size; omega) fun e => by have := h.lt _ e; omega).trans hgW
  have HC : Hid (∀ w1, Aft w w1 C R F most s E N ∧ RB w1 R (.slice none 0 0) (.slice none 0 0) ∧ w1.heap[w.heap.size]? = some (.cells #[.int .i64 kind, .string (tx s), .string (tx k), .string (tx st), .string (tx te)] 39 (0, 0)) → Calls Try.prog 34 #[.pointer (some ⟨R, 0, none⟩), .string (tx s)] w1 fun e w' => ∃ r, e = .returned (.int .i64 r) ∧ Hid (Aft w w' C R F most s E N ∧ w'.heap[w.heap.size]? = some (.cells #[.int .i64 kind, .string (tx s), .string (tx k), .string (tx st), .string (tx te)] 39 (0, 0)))) := fun w1 ⟨a1, a2, a3⟩ => by
    refine (rforget0 a2 s).mono ?_
    rintro e w2 ⟨r, rfl, m⟩
    exact ⟨r, rfl, a1.model m, (m.block _ (Array.getElem?_eq_some_iff.1 a3).1 (show w.heap.size ≠ R by omega)).trans a3⟩
  obtain ⟨y0, y1, y2, y3, y4⟩ := op5 hgW
  have HOP : Hid (∀ V : World, V.heap[w.heap.size]? = some (.cells #[.int .i64 kind, .string (tx s), .string (tx k), .string (tx st), .string (tx te)] 39 (0, 0)) → V.cell? ⟨w.heap.size, 1, none⟩ = some (.string (tx s)) ∧ V.cell? ⟨w.heap.size, 2, none⟩ = some (.string (tx k)) ∧ V.cell? ⟨w.heap.size, 3, none⟩ = some (.string (tx st)) ∧ V.cell? ⟨w.heap.size, 4, none⟩ = some (.string (tx te))) := fun V hV => (op5 hV).2
  clear h hR hRF hbW hgW hlt hRW hsW
  obtain ⟨p, hp⟩ : ∃ p, w.heap.size = p := ⟨_, rfl⟩
  rw [hp] at y0 y1 y2 y3 y4 HA HC HOP
  subst hk
  all_goals
    go_enter Try.func17, Try.ntmps17
    go_upto_region 11 with (fail)
    clear hW
    try rw [hp]
    clear hp y0
    go_region_held3 (fun w' => w'.cell? ⟨p, 1, none⟩ = some (.string (tx s)) ∧ w'.cell? ⟨p, 2, none⟩ = some (.string (tx k)) ∧ w'.cell? ⟨p, 3, none⟩ = some (.string (tx st)) ∧ w'.cell? ⟨p, 4, none⟩ = some (.string (tx te))) (first | exact K9 | exact K8 | go_keep) (first | (go_at_call 24; refine HA.out.mono ?_; rintro e w8 ⟨rfl, HM8⟩; (have K8 := HOP.out w8 HM8.out.2.2); clear HA) | (go_at_call 34; refine (HC.out _ HM8.out).mono ?_; rintro e w9 ⟨r, rfl, HM9⟩; (have K9 := HOP.out w9 HM9.out.2)))
    all_goals
      go_wp2_with fail
      go_ret
      exact ⟨_, rfl, HM9.out.1⟩
set_option maxRecDepth 20000 in
set_option maxHeartbeats 4000000 in
theorem step_get (h : CR w C F most E N) (hR : RB w R (.slice none 0 0) (.slice none 0 0)) (hRF : ¬ F R) (kind : Int) (s k st te : List UInt8) (hk : kind = 2 ∨ kind = 3) (hN : 0 ≤ (N s).1 ∧ (N s).1 ≤ 1000000 ∧ 0 ≤ (N s).2 ∧ (N s).2 ≤ 1000000) : Calls Try.prog 17 #[.pointer (some ⟨C, 0, none⟩), .pointer (some ⟨R, 0, none⟩), .agg #[.int .i64 kind, .string (tx s), .string (tx k), .string (tx st), .string (tx te)]] w fun e w' => ∃ b, e = .returned (.bool b) ∧ Hid (Aft w w' C R F most s E N) := by
  obtain ⟨W, hW⟩ : ∃ W, w.alloc (.cells #[.int .i64 kind, .string (tx s), .string (tx k), .string (tx st), .string (tx te)] 39) = W := ⟨_, rfl⟩
  have hbW : Below w.heap.size w W := by rw [← hW]; exact bel1' _ _
  have hgW : W.heap[w.heap.size]? = some (.cells #[.int .i64 kind, .string (tx s), .string (tx k), .string (tx st), .string (tx te)] 39 (0, 0)) := by rw [← hW]; exact heap_alloc_new _ _
  have hlt : R < w.heap.size := (Array.getElem?_eq_some_iff.1 hR).1
  have hRW : RB W R (.slice none 0 0) (.slice none 0 0) := (hbW.block R hlt).trans hR
  have hsW : W.heap.size = w.heap.size + 1 := by rw [← hW]; simp
  -- behind the cache's call: the box and the model lie as before
  have HA : Hid (Calls Try.prog 23 #[.pointer (some ⟨C, 0, none⟩), .string (tx s), .string (tx k), .string (tx st)] W fun e w' => e = .returned (.tuple #[.string (tx (getT (lkE k (E s)) st)), .bool (hitB (lkE k (E s)) st)]) ∧ Hid (Aft w w' C R F most s E N ∧ RB w' R (.slice none 0 0) (.slice none 0 0) ∧ w'.heap[w.heap.size]? = some (.cells #[.int .i64 kind, .string (tx s), .string (tx k), .string (tx st), .string (tx te)] 39 (0, 0)))) := by
    refine ((h.newer hbW).get s k st hN).mono ?_
    rintro e w1 ⟨rfl, F', k1, k2⟩
    have f1 : Fr F F' w w1 := (Fr.newer hbW).trans' k2
    refine ⟨rfl, Aft.of hRF hlt k1 (oth_get s k st _) f1, (f1.block R hlt hRF).trans hR, ?_⟩
    exact (k2.block _ (by show _ < W.heap.size; omega) fun e => by have := h.lt _ e; omega).trans hgW
  have HC : Hid (∀ w1, Aft w w1 C R F most s E N ∧ RB w1 R (.slice none 0 0) (.slice none 0 0) ∧ w1.heap[w.heap.size]? = some (.cells #[.int .i64 kind, .string (tx s), .string (tx k), .string (tx st), .string (tx te)] 39 (0, 0)) → Calls Try.prog 33 #[.pointer (some ⟨R, 0, none⟩), .string (tx s), .string (tx k), .string (tx st)] w1 fun e w' => ∃ t o, e = .returned (.tuple #[.string t, .bool o]) ∧ Hid (Aft w w' C R F most s E N ∧ w'.heap[w.heap.size]? = some (.cells #[.int .i64 kind, .string (tx s), .string (tx k), .string (tx st), .string (tx te)] 39 (0, 0)))) := fun w1 ⟨a1, a2, a3⟩ => by
    refine (rget0 a2 s k st).mono ?_
    rintro e w2 ⟨t, o, rfl, m⟩
    exact ⟨t, o, rfl, a1.model m, (m.block _ (Array.getElem?_eq_some_iff.1 a3).1 (show w.heap.size ≠ R by omega)).trans a3⟩
  obtain ⟨y0, y1, y2, y3, y4⟩ := op5 hgW
  have HOP : Hid (∀ V : World, V.heap[w.heap.size]? = some (.cells #[.int .i64 kind, .string (tx s), .string (tx k), .string (tx st), .string (tx te)] 39 (0, 0)) → V.cell? ⟨w.heap.size, 1, none⟩ = some (.string (tx s)) ∧ V.cell? ⟨w.heap.size, 2, none⟩ = some (.string (tx k)) ∧ V.cell? ⟨w.heap.size, 3, none⟩ = some (.string (tx st)) ∧ V.cell? ⟨w.heap.size, 4, none⟩ = some (.string (tx te))) := fun V hV => (op5 hV).2
  clear h hR hRF hN hbW hgW hlt hRW hsW
  obtain ⟨p, hp⟩ : ∃ p, w.heap.size = p := ⟨_, rfl⟩
  rw [hp] at y0 y1 y2 y3 y4 HA HC HOP
  rcases hk with rfl | rfl
  all_goals
    go_enter Try.func17, Try.ntmps17
    go_upto_region 7 with (fail)
    clear hW
    try rw [hp]
    clear hp y0
    go_upto_region 8 with (go_at_call 23; refine HA.out.mono ?_; rintro e w8 ⟨rfl, HM8⟩)
    obtain ⟨z1, z2, z3, z4⟩ := HOP.out w8 HM8.out.2.2
    clear y1 y2 y3 y4 HA
    go_upto_region 9 with (go_at_call 33; refine (HC.out _ HM8.out).mono ?_; rintro e w9 ⟨t, o, rfl, HM9⟩)
    generalize tx (getT (lkE k (E s)) st) = T1
    generalize hitB (lkE k (E s)) st = B1
    obtain ⟨q1, hq1⟩ : ∃ q1, (T1.toList == t.toList) = q1 := ⟨_, rfl⟩
    cases q1
    all_goals
      go_wp2_with fail
      go_ret
      exact ⟨_, rfl, HM9.out.1⟩
set_option maxRecDepth 20000 in
set_option maxHeartbeats 4000000 in
theorem step_else (h : CR w C F most E N) (hR : RB w R (.slice none 0 0) (.slice none 0 0)) (hRF : ¬ F R) (kind : Int) (s k st te : List UInt8) (h0 : kind ≠ 0) (h1 : kind ≠ 1) (h2 : kind ≠ 2) (h3 : kind ≠ 3) (h4 : kind ≠ 4) (h5 : kind ≠ 5) : Calls Try.prog 17 #[.pointer (some ⟨C, 0, none⟩), .pointer (some ⟨R, 0, none⟩), .agg #[.int .i64 kind, .string (tx s), .string (tx k), .string (tx st), .string (tx te)]] w fun e w' => ∃ b, e = .returned (.bool b) ∧ Hid (Aft w w' C R F most s E N) := by
  obtain ⟨W, hW⟩ : ∃ W, w.alloc (.cells #[.int .i64 kind, .string (tx s), .string (tx k), .string (tx st), .string (tx te)] 39) = W := ⟨_, rfl⟩
  have hbW : Below w.heap.size w W := by rw [← hW]; exact bel1' _ _
  have hgW : W.heap[w.heap.size]? = some (.cells #[.int .i64 kind, .string (tx s), .string (tx k), .string (tx st), .string (tx te)] 39 (0, 0)) := by rw [← hW]; exact heap_alloc_new _ _
  have hlt : R < w.heap.size := (Array.getElem?_eq_some_iff.1 hR).1
  have HA : Hid (Aft w W C R F most s E N) := Aft.of hRF hlt (h.newer hbW) (oth_refl s) (Fr.newer hbW)
  obtain ⟨y0, -⟩ := op5 hgW
  have g0 : (kind == 0) = false := by simpa using h0
  have g1 : (kind == 1) = false := by simpa using h1
  have g2 : (kind == 2) = false := by simpa using h2
  have g3 : (kind == 3) = false := by simpa using h3
  have g4 : (kind == 4) = false := by simpa using h4
  have g5 : (kind == 5) = false := by simpa using h5
  clear h hR hRF hbW hgW hlt h0 h1 h2 h3 h4 h5
  go_enter Try.func17, Try.ntmps17
  go_wp2_with fail
  go_ret
  exact ⟨_, rfl, HA.out⟩
theorem step_any (h : CR w C F most E N) (hR : RB w R (.slice none 0 0) (.slice none 0 0)) (hRF : ¬ F R) (kind : Int) (s k st te : List UInt8) (hk : kind ≠ 5) (hS : ∃ S : List (List UInt8), S.length ≤ 15 ∧ ∀ x, E x ≠ [] → x ∈ S) (hN : 0 ≤ (N s).1 ∧ (N s).1 ≤ 1000000 ∧ 0 ≤ (N s).2 ∧ (N s).2 ≤ 1000000) : Calls Try.prog 17 #[.pointer (some ⟨C, 0, none⟩), .pointer (some ⟨R, 0, none⟩), .agg #[.int .i64 kind, .string (tx s), .string (tx k), .string (tx st), .string (tx te)]] w fun e w' => ∃ b, e = .returned (.bool b) ∧ Hid (Aft w w' C R F most s E N) := by
  by_cases c01 : kind = 0 ∨ kind = 1
  · exact step_put h hR hRF kind s k st te c01 hS
  · by_cases c23 : kind = 2 ∨ kind = 3
    · exact step_get h hR hRF kind s k st te c23 hN
    · by_cases c4 : kind = 4
      · exact step_forget h hR hRF kind s k st te c4
      · exact step_else h hR hRF kind s k st te (by omega) (by omega) (by omega) (by omega) c4 hk
end Go.Proofs.Ytbcdaddbcjagjaa
