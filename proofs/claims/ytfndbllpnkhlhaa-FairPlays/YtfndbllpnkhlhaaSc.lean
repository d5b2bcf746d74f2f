/- One call of both schedulers: Drop, Step; what can be seen of both. -/
import Derived.Test.YtfndbllpnkhlhaaSb
namespace Go.Proofs.Ytfndbllpnkhlhaa
open Go.RowKit
set_option linter.unusedVariables false
set_option linter.unusedSimpArgs false

variable {T R base : Nat} {s : Sc} {w0 w : World} {N : Int}
theorem rok {b : Sc} {m : List Rt} (h : Sok N b) (h2 : rts m = b.ts) : m.length ≤ 16 ∧ ∀ r ∈ m, Tnok N r.t := ⟨by have := h.n; rw [← h2] at this; simpa [rts] using this, fun r hr => h.all r.t (by rw [← h2]; exact List.mem_map.2 ⟨r, hr, rfl⟩)⟩
theorem rdropS_any (s : Sc) (w : World) (h : RP w R base s) (hs : Sok N s) :
    Calls Try.prog 34 #[.pointer (some ⟨R, 0, none⟩)] w fun e w' => e = .returned (.int .i64 (dropS s).1) ∧ RP w' R base (dropS s).2 ∧ Km base w w' := by
  obtain ⟨lv, m, h1, h2⟩ := h
  obtain ⟨k1, k2⟩ := rok hs h2
  refine (rdrop_any w h1 k1 fun r hr => (k2 r hr).n).mono fun e w' ⟨g1, g2, g3⟩ => ⟨?_, ⟨_, _, g2, ?_⟩, g3⟩
  · rw [g1, rleft_sum, h2]
    rfl
  · show rts _ = s.ts.map _
    rw [← h2]
    unfold rts
    rw [List.map_map, List.map_map, List.map_map]
    rfl
set_option maxRecDepth 20000 in
set_option maxHeartbeats 4000000 in
theorem step4 (o : OpF) (h : Mid T R base s s w0 w) (hs : Sok N s) (hN : N ≤ 100000) (hk : o.kind = 4) :
    Calls Try.prog 18 #[.pointer (some ⟨T, 0, none⟩), .pointer (some ⟨R, 0, none⟩), opV o] w fun e w' => e = .returned (.bool true) ∧ Mid T R base (opS s o) (opS s o) w0 w' := by
  have HM : Hid (Mid T R base s s w0 w) := h
  have HT : Hid (Sok N s ∧ N ≤ 100000) := ⟨hs, hN⟩
  have HS : Hid (opS s o = (dropS s).2) := by show _ = _; unfold opS; rw [if_neg (by omega), if_neg (by omega), if_pos hk]
  obtain ⟨kind, nm, wt, id, cost⟩ := o
  simp only at hk HS
  subst hk
  show Calls Try.prog 18 #[_, _, .agg #[.int .i64 4, .string (tx nm), .int .i64 wt, .int .i64 id, .int .i64 cost]] w _
  have HA : Hid (∀ W, Mid T R base s s w0 W → Calls Try.prog 30 #[.pointer (some ⟨T, 0, none⟩)] W fun e w' => e = .returned (.int .i64 (dropS s).1) ∧ Mid T R base (dropS s).2 s w0 w') := fun W hW => by
    obtain ⟨F, f1, f2⟩ := hW.pf
    exact (prgSX.drop N T F s W f1 HT.out.1 HT.out.2).mono fun e w' ⟨h1, F', h2, h3⟩ => ⟨h1, (hW.prog f1 f2 h2 h3).1⟩
  have HC : Hid (∀ W, Mid T R base (dropS s).2 s w0 W → Calls Try.prog 34 #[.pointer (some ⟨R, 0, none⟩)] W fun e w' => e = .returned (.int .i64 (dropS s).1) ∧ Mid T R base (dropS s).2 (dropS s).2 w0 w') := fun W hW =>
    (rdropS_any s W hW.rp HT.out.1).mono fun e w' ⟨h1, h2, h3⟩ => ⟨h1, (hW.model h2 h3).1⟩
  generalize (dropS s).1 = A1 at HA HC
  obtain ⟨W, hW⟩ : ∃ W, w.alloc (.cells #[.int .i64 4, .string (tx nm), .int .i64 wt, .int .i64 id, .int .i64 cost] 44) = W := ⟨_, rfl⟩
  have HMW : Hid (Mid T R base s s w0 W) := by rw [← hW]; exact HM.out.later (bel1 w _) (Nat.le_refl _)
  have y0 : W.cell? ⟨w.heap.size, 0, none⟩ = some (.int .i64 4) := by
    have : W.heap[w.heap.size]? = some (.cells #[.int .i64 4, .string (tx nm), .int .i64 wt, .int .i64 id, .int .i64 cost] 44 (0, 0)) := by rw [← hW]; exact heap_alloc_new _ _
    rw [cell_of_row _ _ _ _ _ _ this]; rfl
  clear h hs hN HM
  go_enter Try.func18, Try.ntmps18
  go_wp2_with (first | (go_at_call 30; refine (HA.out _ HMW.out).mono ?_; rintro e w8 ⟨rfl, hm8⟩; (have HM8 : Hid (Mid T R base (dropS s).2 s w0 w8) := hm8); clear hm8) | (go_at_call 34; refine (HC.out _ HM8.out).mono ?_; rintro e w9 ⟨rfl, hm9⟩; (have HM9 : Hid (Mid T R base (dropS s).2 (dropS s).2 w0 w9) := hm9); clear hm9))
  go_ret
  exact ⟨by simp, by rw [HS.out]; exact HM9.out⟩
set_option maxRecDepth 20000 in
set_option maxHeartbeats 4000000 in
theorem step9 (o : OpF) (h : Mid T R base s s w0 w) (hs : Sok N s) (hN : N ≤ 100000) (hk : o.kind < 0 ∨ 4 < o.kind) :
    Calls Try.prog 18 #[.pointer (some ⟨T, 0, none⟩), .pointer (some ⟨R, 0, none⟩), opV o] w fun e w' => e = .returned (.bool true) ∧ Mid T R base (opS s o) (opS s o) w0 w' := by
  have HM : Hid (Mid T R base s s w0 w) := h
  have HT : Hid (Sok N s ∧ N ≤ 100000) := ⟨hs, hN⟩
  have HS : Hid (opS s o = (stepS s).2) := by show _ = _; unfold opS; rw [if_neg (by omega), if_neg (by omega), if_neg (by omega)]
  obtain ⟨kind, nm, wt, id, cost⟩ := o
  simp only at hk HS
  show Calls Try.prog 18 #[_, _, .agg #[.int .i64 kind, .string (tx nm), .int .i64 wt, .int .i64 id, .int .i64 cost]] w _
  have hbok : Bok s := by
    obtain ⟨F, f1, f2⟩ := h.pf
    exact f1.bok
  have HA : Hid (∀ W, Mid T R base s s w0 W → Calls Try.prog 22 #[.pointer (some ⟨T, 0, none⟩)] W fun e w' => e = .returned (.tuple #[.string (tx (stepS s).1.nm), .agg #[.int .i64 (stepS s).1.id, .int .i64 (stepS s).1.cost], .bool (stepS s).1.don, .bool (stepS s).1.some]) ∧ Mid T R base (stepS s).2 s w0 w') := fun W hW => by
    obtain ⟨F, f1, f2⟩ := hW.pf
    exact (prgS.step N T F s W f1 HT.out.1 HT.out.2).mono fun e w' ⟨h1, F', h2, h3⟩ => ⟨h1, (hW.prog f1 f2 h2 h3).1⟩
  have HC : Hid (∀ W, Mid T R base (stepS s).2 s w0 W → Calls Try.prog 35 #[.pointer (some ⟨R, 0, none⟩)] W fun e w' => e = .returned (.tuple #[.string (tx (stepS s).1.nm), .agg #[.int .i64 (stepS s).1.id, .int .i64 (stepS s).1.cost], .bool (stepS s).1.don, .bool (stepS s).1.some]) ∧ Mid T R base (stepS s).2 (stepS s).2 w0 w' ∧ Kx badB W w') := fun W hW =>
    (rstep_any N s W hW.rp HT.out.1 hbok).mono fun e w' ⟨h1, h2, h3⟩ => ⟨h1, hW.model h2 h3⟩
  generalize (stepS s).1.nm = A1 at HA HC
  generalize (stepS s).1.id = A2 at HA HC
  generalize (stepS s).1.cost = A3 at HA HC
  generalize (stepS s).1.don = A4 at HA HC
  generalize (stepS s).1.some = A5 at HA HC
  obtain ⟨W, hW⟩ : ∃ W, w.alloc (.cells #[.int .i64 kind, .string (tx nm), .int .i64 wt, .int .i64 id, .int .i64 cost] 44) = W := ⟨_, rfl⟩
  have HMW : Hid (Mid T R base s s w0 W) := by rw [← hW]; exact HM.out.later (bel1 w _) (Nat.le_refl _)
  have y0 : W.cell? ⟨w.heap.size, 0, none⟩ = some (.int .i64 kind) := by
    have : W.heap[w.heap.size]? = some (.cells #[.int .i64 kind, .string (tx nm), .int .i64 wt, .int .i64 id, .int .i64 cost] 44 (0, 0)) := by rw [← hW]; exact heap_alloc_new _ _
    rw [cell_of_row _ _ _ _ _ _ this]; rfl
  have k0 : (kind == 0) = false := by simp; omega
  have k1 : (kind == 1) = false := by simp; omega
  have k2 : (kind == 2) = false := by simp; omega
  have k3 : (kind == 3) = false := by simp; omega
  have k4 : (kind == 4) = false := by simp; omega
  have HAL : Hid (∀ w8 : World, Mid T R base (stepS s).2 s w0 w8 → ∃ V8, w8.alloc (.cells #[.int .i64 A2, .int .i64 A3] 42) = V8 ∧ Mid T R base (stepS s).2 s w0 V8 ∧ V8.heap[w8.heap.size]? = some (.cells #[.int .i64 A2, .int .i64 A3] 42 (0, 0))) := fun w8 h8 => ⟨_, rfl, h8.later (bel1 w8 _) (Nat.le_refl _), heap_alloc_new _ _⟩
  have HAM : Hid (∀ (V8 w9 : World) (p : Nat), V8.heap[p]? = some (.cells #[.int .i64 A2, .int .i64 A3] 42 (0, 0)) → Kx badB V8 w9 → Mid T R base (stepS s).2 (stepS s).2 w0 w9 → ∃ V9, w9.alloc (.cells #[.int .i64 A2, .int .i64 A3] 42) = V9 ∧ Mid T R base (stepS s).2 (stepS s).2 w0 V9 ∧ V9.cell? ⟨p, 0, none⟩ = some (.int .i64 A2) ∧ V9.cell? ⟨p, 1, none⟩ = some (.int .i64 A3) ∧ V9.cell? ⟨w9.heap.size, 0, none⟩ = some (.int .i64 A2) ∧ V9.cell? ⟨w9.heap.size, 1, none⟩ = some (.int .i64 A3)) := fun V8 w9 p h8 hk h9 => by
    have hp9 := hk.row h8 (by decide)
    have hp : (w9.alloc (.cells #[.int .i64 A2, .int .i64 A3] 42)).heap[p]? = some (.cells #[.int .i64 A2, .int .i64 A3] 42 (0, 0)) := (Below.heap_alloc _ _ _ (Array.getElem?_eq_some_iff.1 hp9).1).trans hp9
    have hq : (w9.alloc (.cells #[.int .i64 A2, .int .i64 A3] 42)).heap[w9.heap.size]? = some (.cells #[.int .i64 A2, .int .i64 A3] 42 (0, 0)) := heap_alloc_new _ _
    exact ⟨_, rfl, h9.later (bel1 w9 _) (Nat.le_refl _), by rw [cell_of_row _ _ _ _ _ _ hp]; rfl, by rw [cell_of_row _ _ _ _ _ _ hp]; rfl, by rw [cell_of_row _ _ _ _ _ _ hq]; rfl, by rw [cell_of_row _ _ _ _ _ _ hq]; rfl⟩
  clear h hs hN HM hk hbok
  go_enter Try.func18, Try.ntmps18
  go_wp2_with (first | (go_at_call 22; refine (HA.out _ HMW.out).mono ?_; rintro e w8 ⟨rfl, hm8⟩; (obtain ⟨V8, hV8, hm, hp8⟩ := HAL.out w8 hm8); (have HM8 : Hid (Mid T R base (stepS s).2 s w0 V8) := hm); (have HP8 : Hid (V8.heap[w8.heap.size]? = some (.cells #[.int .i64 A2, .int .i64 A3] 42 (0, 0))) := hp8); clear hm8 hm hp8) | (go_at_call 35; refine (HC.out _ HM8.out).mono ?_; rintro e w9 ⟨rfl, hm9, hk9⟩; (obtain ⟨V9, hV9, hm, z0, z1, z2, z3⟩ := HAM.out _ w9 _ HP8.out hk9 hm9); (have HM9 : Hid (Mid T R base (stepS s).2 (stepS s).2 w0 V9) := hm); clear hm9 hk9 hm))
  go_ret
  exact ⟨by simp, by rw [HS.out]; exact HM9.out⟩
end Go.Proofs.Ytfndbllpnkhlhaa
