/- One call of both schedulers: Set, Push. -/
import Derived.Test.YtfndbllpnkhlhaaSa
namespace Go.Proofs.Ytfndbllpnkhlhaa
open Go.RowKit
set_option linter.unusedVariables false
set_option linter.unusedSimpArgs false

def opV (o : OpF) : Value := .agg #[.int .i64 o.kind, .string (tx o.nm), .int .i64 o.wt, .int .i64 o.id, .int .i64 o.cost]
def opS (s : Sc) (o : OpF) : Sc := if o.kind = 0 then (setS s o.nm o.wt).2 else if 1 ≤ o.kind ∧ o.kind ≤ 3 then (pushS s o.nm o.id o.cost).2 else if o.kind = 4 then (dropS s).2 else (stepS s).2
theorem opS_ok {N : Int} (hN : 0 ≤ N) {s : Sc} (h : Sok N s) (o : OpF) : Sok (N + 1) (opS s o) := by
  unfold opS
  split
  · exact (set_ok h _ _).more (by omega)
  · split
    · exact push_ok hN h _ _ _
    · split
      · exact (drop_ok hN h).more (by omega)
      · exact (step_ok hN h).more (by omega)
variable {T R base : Nat} {s : Sc} {w0 w : World} {N : Int}
set_option maxRecDepth 20000 in
set_option maxHeartbeats 4000000 in
theorem step0 (o : OpF) (h : Mid T R base s s w0 w) (hs : Sok N s) (hN : N ≤ 100000) (hk : o.kind = 0) :
    Calls Try.prog 18 #[.pointer (some ⟨T, 0, none⟩), .pointer (some ⟨R, 0, none⟩), opV o] w fun e w' => e = .returned (.bool true) ∧ Mid T R base (opS s o) (opS s o) w0 w' := by
  have HM : Hid (Mid T R base s s w0 w) := h
  have HT : Hid (Sok N s ∧ N ≤ 100000) := ⟨hs, hN⟩
  have HS : Hid (opS s o = (setS s o.nm o.wt).2) := by show _ = _; unfold opS; rw [if_pos hk]
  obtain ⟨kind, nm, wt, id, cost⟩ := o
  simp only at hk HS
  subst hk
  show Calls Try.prog 18 #[_, _, .agg #[.int .i64 0, .string (tx nm), .int .i64 wt, .int .i64 id, .int .i64 cost]] w _
  have HA : Hid (∀ W, Mid T R base s s w0 W → Calls Try.prog 20 #[.pointer (some ⟨T, 0, none⟩), .string (tx nm), .int .i64 wt] W fun e w' => e = .returned (.int .i64 (setS s nm wt).1) ∧ Mid T R base (setS s nm wt).2 s w0 w' ∧ Kx badB W w') := fun W hW => by
    obtain ⟨F, f1, f2⟩ := hW.pf
    exact (prgS.set N T F s nm wt W f1 HT.out.1 HT.out.2).mono fun e w' ⟨h1, F', h2, h3⟩ => ⟨h1, hW.prog f1 f2 h2 h3⟩
  have HC : Hid (∀ W, Mid T R base (setS s nm wt).2 s w0 W → Calls Try.prog 32 #[.pointer (some ⟨R, 0, none⟩), .string (tx nm), .int .i64 wt] W fun e w' => e = .returned (.int .i64 (setS s nm wt).1) ∧ Mid T R base (setS s nm wt).2 (setS s nm wt).2 w0 w' ∧ Kx badB W w') := fun W hW =>
    (rset_any s nm wt W hW.rp HT.out.1.n).mono fun e w' ⟨h1, h2, h3⟩ => ⟨h1, hW.model h2 h3⟩
  generalize (setS s nm wt).1 = A1 at HA HC
  clear h hs hN
  go_enter Try.func18, Try.ntmps18
  go_wp2_with fail
  obtain ⟨W, hW⟩ : ∃ W, w.alloc (.cells #[.int .i64 0, .string (tx nm), .int .i64 wt, .int .i64 id, .int .i64 cost] 44) = W := ⟨_, rfl⟩
  have HP : Hid (W.heap[w.heap.size]? = some (.cells #[.int .i64 0, .string (tx nm), .int .i64 wt, .int .i64 id, .int .i64 cost] 44 (0, 0))) := by show _ = _; rw [← hW]; exact heap_alloc_new _ _
  have HMW : Hid (Mid T R base s s w0 W) := by rw [← hW]; exact HM.out.later (bel1 w _) (Nat.le_refl _)
  rw [hW]
  clear hW HM
  generalize w.heap.size = p at HP ⊢
  have HCW : Hid (∀ V, Kx badB W V → V.cell? ⟨p, 1, none⟩ = some (.string (tx nm)) ∧ V.cell? ⟨p, 2, none⟩ = some (.int .i64 wt)) := fun V hV => by
    have h := hV.row HP.out (by decide)
    exact ⟨by rw [cell_of_row _ _ _ _ _ _ h]; rfl, by rw [cell_of_row _ _ _ _ _ _ h]; rfl⟩
  obtain ⟨y1, y4⟩ := HCW.out W (Kx.refl _ _)
  go_region_held3 (fun w' => w'.cell? ⟨p, 1, none⟩ = some (.string (tx nm)) ∧ w'.cell? ⟨p, 2, none⟩ = some (.int .i64 wt)) (first | exact K9 | exact K8 | go_keep) (first | (go_at_call 20; refine (HA.out _ HMW.out.drew).mono ?_; rintro e w8 ⟨rfl, hm8, hk8⟩; (have HM8 : Hid (Mid T R base (setS s nm wt).2 s w0 w8) := hm8); (have HK8 : Hid (Kx badB W w8) := hk8); (have K8 := HCW.out w8 hk8); clear hm8 hk8 HMW) | (go_at_call 32; refine (HC.out _ HM8.out).mono ?_; rintro e w9 ⟨rfl, hm9, hk9⟩; (have HM9 : Hid (Mid T R base (setS s nm wt).2 (setS s nm wt).2 w0 w9) := hm9); (have K9 := HCW.out w9 (HK8.out.trans hk9)); clear hm9 hk9))
  go_wp2_with fail
  go_ret
  exact ⟨by simp, by rw [HS.out]; exact HM9.out⟩
set_option maxRecDepth 20000 in
set_option maxHeartbeats 4000000 in
theorem step1 (o : OpF) (h : Mid T R base s s w0 w) (hs : Sok N s) (hN : N ≤ 100000) (hk : o.kind = 1) :
    Calls Try.prog 18 #[.pointer (some ⟨T, 0, none⟩), .pointer (some ⟨R, 0, none⟩), opV o] w fun e w' => e = .returned (.bool true) ∧ Mid T R base (opS s o) (opS s o) w0 w' := by
  have HM : Hid (Mid T R base s s w0 w) := h
  have HT : Hid (Sok N s ∧ N ≤ 100000) := ⟨hs, hN⟩
  have HS : Hid (opS s o = (pushS s o.nm o.id o.cost).2) := by show _ = _; unfold opS; rw [if_neg (by omega), if_pos (by omega)]
  obtain ⟨kind, nm, wt, id, cost⟩ := o
  simp only at hk HS
  subst hk
  show Calls Try.prog 18 #[_, _, .agg #[.int .i64 1, .string (tx nm), .int .i64 wt, .int .i64 id, .int .i64 cost]] w _
  have HA : Hid (∀ W, Mid T R base s s w0 W → Calls Try.prog 21 #[.pointer (some ⟨T, 0, none⟩), .string (tx nm), .agg #[.int .i64 id, .int .i64 cost]] W fun e w' => e = .returned (.int .i64 (pushS s nm id cost).1) ∧ Mid T R base (pushS s nm id cost).2 s w0 w' ∧ Kx badB W w') := fun W hW => by
    obtain ⟨F, f1, f2⟩ := hW.pf
    exact (prgS.push N T F s nm id cost W f1 HT.out.1 HT.out.2).mono fun e w' ⟨h1, F', h2, h3⟩ => ⟨h1, hW.prog f1 f2 h2 h3⟩
  have HC : Hid (∀ W, Mid T R base (pushS s nm id cost).2 s w0 W → Calls Try.prog 33 #[.pointer (some ⟨R, 0, none⟩), .string (tx nm), .agg #[.int .i64 id, .int .i64 cost]] W fun e w' => e = .returned (.int .i64 (pushS s nm id cost).1) ∧ Mid T R base (pushS s nm id cost).2 (pushS s nm id cost).2 w0 w' ∧ Kx badB W w') := fun W hW =>
    (rpush_any N s nm id cost W hW.rp HT.out.1 HT.out.2).mono fun e w' ⟨h1, h2, h3⟩ => ⟨h1, hW.model h2 h3⟩
  generalize (pushS s nm id cost).1 = A1 at HA HC
  clear h hs hN
  go_enter Try.func18, Try.ntmps18
  go_wp2_with fail
  obtain ⟨W, hW⟩ : ∃ W, w.alloc (.cells #[.int .i64 1, .string (tx nm), .int .i64 wt, .int .i64 id, .int .i64 cost] 44) = W := ⟨_, rfl⟩
  have HP : Hid (W.heap[w.heap.size]? = some (.cells #[.int .i64 1, .string (tx nm), .int .i64 wt, .int .i64 id, .int .i64 cost] 44 (0, 0))) := by show _ = _; rw [← hW]; exact heap_alloc_new _ _
  have HMW : Hid (Mid T R base s s w0 W) := by rw [← hW]; exact HM.out.later (bel1 w _) (Nat.le_refl _)
  rw [hW]
  clear hW HM
  generalize w.heap.size = p at HP ⊢
  have HCW : Hid (∀ V, Kx badB W V → V.cell? ⟨p, 1, none⟩ = some (.string (tx nm)) ∧ V.cell? ⟨p, 3, none⟩ = some (.int .i64 id) ∧ V.cell? ⟨p, 4, none⟩ = some (.int .i64 cost)) := fun V hV => by
    have h := hV.row HP.out (by decide)
    exact ⟨by rw [cell_of_row _ _ _ _ _ _ h]; rfl, by rw [cell_of_row _ _ _ _ _ _ h]; rfl, by rw [cell_of_row _ _ _ _ _ _ h]; rfl⟩
  obtain ⟨y1, y3, y4⟩ := HCW.out W (Kx.refl _ _)
  go_region_held3 (fun w' => w'.cell? ⟨p, 1, none⟩ = some (.string (tx nm)) ∧ w'.cell? ⟨p, 3, none⟩ = some (.int .i64 id) ∧ w'.cell? ⟨p, 4, none⟩ = some (.int .i64 cost)) (first | exact K9 | exact K8 | go_keep) (first | (go_at_call 21; refine (HA.out _ HMW.out.drew).mono ?_; rintro e w8 ⟨rfl, hm8, hk8⟩; (have HM8 : Hid (Mid T R base (pushS s nm id cost).2 s w0 w8) := hm8); (have HK8 : Hid (Kx badB W w8) := hk8); (have K8 := HCW.out w8 hk8); clear hm8 hk8 HMW) | (go_at_call 33; refine (HC.out _ HM8.out).mono ?_; rintro e w9 ⟨rfl, hm9, hk9⟩; (have HM9 : Hid (Mid T R base (pushS s nm id cost).2 (pushS s nm id cost).2 w0 w9) := hm9); (have K9 := HCW.out w9 (HK8.out.trans hk9)); clear hm9 hk9))
  go_wp2_with fail
  go_ret
  exact ⟨by simp, by rw [HS.out]; exact HM9.out⟩
set_option maxRecDepth 20000 in
set_option maxHeartbeats 4000000 in
theorem step2 (o : OpF) (h : Mid T R base s s w0 w) (hs : Sok N s) (hN : N ≤ 100000) (hk : o.kind = 2) :
    Calls Try.prog 18 #[.pointer (some ⟨T, 0, none⟩), .pointer (some ⟨R, 0, none⟩), opV o] w fun e w' => e = .returned (.bool true) ∧ Mid T R base (opS s o) (opS s o) w0 w' := by
  have HM : Hid (Mid T R base s s w0 w) := h
  have HT : Hid (Sok N s ∧ N ≤ 100000) := ⟨hs, hN⟩
  have HS : Hid (opS s o = (pushS s o.nm o.id o.cost).2) := by show _ = _; unfold opS; rw [if_neg (by omega), if_pos (by omega)]
  obtain ⟨kind, nm, wt, id, cost⟩ := o
  simp only at hk HS
  subst hk
  show Calls Try.prog 18 #[_, _, .agg #[.int .i64 2, .string (tx nm), .int .i64 wt, .int .i64 id, .int .i64 cost]] w _
  have HA : Hid (∀ W, Mid T R base s s w0 W → Calls Try.prog 21 #[.pointer (some ⟨T, 0, none⟩), .string (tx nm), .agg #[.int .i64 id, .int .i64 cost]] W fun e w' => e = .returned (.int .i64 (pushS s nm id cost).1) ∧ Mid T R base (pushS s nm id cost).2 s w0 w' ∧ Kx badB W w') := fun W hW => by
    obtain ⟨F, f1, f2⟩ := hW.pf
    exact (prgS.push N T F s nm id cost W f1 HT.out.1 HT.out.2).mono fun e w' ⟨h1, F', h2, h3⟩ => ⟨h1, hW.prog f1 f2 h2 h3⟩
  have HC : Hid (∀ W, Mid T R base (pushS s nm id cost).2 s w0 W → Calls Try.prog 33 #[.pointer (some ⟨R, 0, none⟩), .string (tx nm), .agg #[.int .i64 id, .int .i64 cost]] W fun e w' => e = .returned (.int .i64 (pushS s nm id cost).1) ∧ Mid T R base (pushS s nm id cost).2 (pushS s nm id cost).2 w0 w' ∧ Kx badB W w') := fun W hW =>
    (rpush_any N s nm id cost W hW.rp HT.out.1 HT.out.2).mono fun e w' ⟨h1, h2, h3⟩ => ⟨h1, hW.model h2 h3⟩
  generalize (pushS s nm id cost).1 = A1 at HA HC
  clear h hs hN
  go_enter Try.func18, Try.ntmps18
  go_wp2_with fail
  obtain ⟨W, hW⟩ : ∃ W, w.alloc (.cells #[.int .i64 2, .string (tx nm), .int .i64 wt, .int .i64 id, .int .i64 cost] 44) = W := ⟨_, rfl⟩
  have HP : Hid (W.heap[w.heap.size]? = some (.cells #[.int .i64 2, .string (tx nm), .int .i64 wt, .int .i64 id, .int .i64 cost] 44 (0, 0))) := by show _ = _; rw [← hW]; exact heap_alloc_new _ _
  have HMW : Hid (Mid T R base s s w0 W) := by rw [← hW]; exact HM.out.later (bel1 w _) (Nat.le_refl _)
  rw [hW]
  clear hW HM
  generalize w.heap.size = p at HP ⊢
  have HCW : Hid (∀ V, Kx badB W V → V.cell? ⟨p, 1, none⟩ = some (.string (tx nm)) ∧ V.cell? ⟨p, 3, none⟩ = some (.int .i64 id) ∧ V.cell? ⟨p, 4, none⟩ = some (.int .i64 cost)) := fun V hV => by
    have h := hV.row HP.out (by decide)
    exact ⟨by rw [cell_of_row _ _ _ _ _ _ h]; rfl, by rw [cell_of_row _ _ _ _ _ _ h]; rfl, by rw [cell_of_row _ _ _ _ _ _ h]; rfl⟩
  obtain ⟨y1, y3, y4⟩ := HCW.out W (Kx.refl _ _)
  go_region_held3 (fun w' => w'.cell? ⟨p, 1, none⟩ = some (.string (tx nm)) ∧ w'.cell? ⟨p, 3, none⟩ = some (.int .i64 id) ∧ w'.cell? ⟨p, 4, none⟩ = some (.int .i64 cost)) (first | exact K9 | exact K8 | go_keep) (first | (go_at_call 21; refine (HA.out _ HMW.out.drew).mono ?_; rintro e w8 ⟨rfl, hm8, hk8⟩; (have HM8 : Hid (Mid T R base (pushS s nm id cost).2 s w0 w8) := hm8); (have HK8 : Hid (Kx badB W w8) := hk8); (have K8 := HCW.out w8 hk8); clear hm8 hk8 HMW) | (go_at_call 33; refine (HC.out _ HM8.out).mono ?_; rintro e w9 ⟨rfl, hm9, hk9⟩; (have HM9 : Hid (Mid T R base (pushS s nm id cost).2 (pushS s nm id cost).2 w0 w9) := hm9); (have K9 := HCW.out w9 (HK8.out.trans hk9)); clear hm9 hk9))
  go_wp2_with fail
  go_ret
  exact ⟨by simp, by rw [HS.out]; exact HM9.out⟩
set_option maxRecDepth 20000 in
set_option maxHeartbeats 4000000 in
theorem step3 (o : OpF) (h : Mid T R base s s w0 w) (hs : Sok N s) (hN : N ≤ 100000) (hk : o.kind = 3) :
    Calls Try.prog 18 #[.pointer (some ⟨T, 0, none⟩), .pointer (some ⟨R, 0, none⟩), opV o] w fun e w' => e = .returned (.bool true) ∧ Mid T R base (opS s o) (opS s o) w0 w' := by
  have HM : Hid (Mid T R base s s w0 w) := h
  have HT : Hid (Sok N s ∧ N ≤ 100000) := ⟨hs, hN⟩
  have HS : Hid (opS s o = (pushS s o.nm o.id o.cost).2) := by show _ = _; unfold opS; rw [if_neg (by omega), if_pos (by omega)]
  obtain ⟨kind, nm, wt, id, cost⟩ := o
  simp only at hk HS
  subst hk
  show Calls Try.prog 18 #[_, _, .agg #[.int .i64 3, .string (tx nm), .int .i64 wt, .int .i64 id, .int .i64 cost]] w _
  have HA : Hid (∀ W, Mid T R base s s w0 W → Calls Try.prog 21 #[.pointer (some ⟨T, 0, none⟩), .string (tx nm), .agg #[.int .i64 id, .int .i64 cost]] W fun e w' => e = .returned (.int .i64 (pushS s nm id cost).1) ∧ Mid T R base (pushS s nm id cost).2 s w0 w' ∧ Kx badB W w') := fun W hW => by
    obtain ⟨F, f1, f2⟩ := hW.pf
    exact (prgS.push N T F s nm id cost W f1 HT.out.1 HT.out.2).mono fun e w' ⟨h1, F', h2, h3⟩ => ⟨h1, hW.prog f1 f2 h2 h3⟩
  have HC : Hid (∀ W, Mid T R base (pushS s nm id cost).2 s w0 W → Calls Try.prog 33 #[.pointer (some ⟨R, 0, none⟩), .string (tx nm), .agg #[.int .i64 id, .int .i64 cost]] W fun e w' => e = .returned (.int .i64 (pushS s nm id cost).1) ∧ Mid T R base (pushS s nm id cost).2 (pushS s nm id cost).2 w0 w' ∧ Kx badB W w') := fun W hW =>
    (rpush_any N s nm id cost W hW.rp HT.out.1 HT.out.2).mono fun e w' ⟨h1, h2, h3⟩ => ⟨h1, hW.model h2 h3⟩
  generalize (pushS s nm id cost).1 = A1 at HA HC
  clear h hs hN
  go_enter Try.func18, Try.ntmps18
  go_wp2_with fail
  obtain ⟨W, hW⟩ : ∃ W, w.alloc (.cells #[.int .i64 3, .string (tx nm), .int .i64 wt, .int .i64 id, .int .i64 cost] 44) = W := ⟨_, rfl⟩
  have HP : Hid (W.heap[w.heap.size]? = some (.cells #[.int .i64 3, .string (tx nm), .int .i64 wt, .int .i64 id, .int .i64 cost] 44 (0, 0))) := by show _ = _; rw [← hW]; exact heap_alloc_new _ _
  have HMW : Hid (Mid T R base s s w0 W) := by rw [← hW]; exact HM.out.later (bel1 w _) (Nat.le_refl _)
  rw [hW]
  clear hW HM
  generalize w.heap.size = p at HP ⊢
  have HCW : Hid (∀ V, Kx badB W V → V.cell? ⟨p, 1, none⟩ = some (.string (tx nm)) ∧ V.cell? ⟨p, 3, none⟩ = some (.int .i64 id) ∧ V.cell? ⟨p, 4, none⟩ = some (.int .i64 cost)) := fun V hV => by
    have h := hV.row HP.out (by decide)
    exact ⟨by rw [cell_of_row _ _ _ _ _ _ h]; rfl, by rw [cell_of_row _ _ _ _ _ _ h]; rfl, by rw [cell_of_row _ _ _ _ _ _ h]; rfl⟩
  obtain ⟨y1, y3, y4⟩ := HCW.out W (Kx.refl _ _)
  go_region_held3 (fun w' => w'.cell? ⟨p, 1, none⟩ = some (.string (tx nm)) ∧ w'.cell? ⟨p, 3, none⟩ = some (.int .i64 id) ∧ w'.cell? ⟨p, 4, none⟩ = some (.int .i64 cost)) (first | exact K9 | exact K8 | go_keep) (first | (go_at_call 21; refine (HA.out _ HMW.out.drew).mono ?_; rintro e w8 ⟨rfl, hm8, hk8⟩; (have HM8 : Hid (Mid T R base (pushS s nm id cost).2 s w0 w8) := hm8); (have HK8 : Hid (Kx badB W w8) := hk8); (have K8 := HCW.out w8 hk8); clear hm8 hk8 HMW) | (go_at_call 33; refine (HC.out _ HM8.out).mono ?_; rintro e w9 ⟨rfl, hm9, hk9⟩; (have HM9 : Hid (Mid T R base (pushS s nm id cost).2 (pushS s nm id cost).2 w0 w9) := hm9); (have K9 := HCW.out w9 (HK8.out.trans hk9)); clear hm9 hk9))
  go_wp2_with fail
  go_ret
  exact ⟨by simp, by rw [HS.out]; exact HM9.out⟩
end Go.Proofs.Ytfndbllpnkhlhaa
