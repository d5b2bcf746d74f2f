/- A table of fixed turns: Set, way by way. -/
import Derived.Test.YtkigagglkmdccaaTj
namespace Go.Proofs.Ytkigagglkmdccaa
open Go.RowKit
set_option linter.unusedVariables false
set_option linter.unusedSimpArgs false

/-- A plain table of fixed turns in order. -/
structure Fok (x : Fx) : Prop where
  up : Up x.ns
  ns : (x.s.ts.map fun t => t.nm) = x.ns
  wl : x.wts.length = x.ns.length
  le : x.ns.length ≤ 16
  ok : Sok 0 x.s
  no : ∀ t ∈ x.s.ts, t.ws = []
  jo : Jok x.J
theorem Below.drew' {n : Nat} {w V : World} (h : Below n w V) : Below n w V.drew := ⟨h.os, h.tape, h.output, h.size, h.block⟩
theorem insN_call {w : World} {T : Nat} {a : Pa} {x : Fx} (h : TR w T a x) (i : Nat) (nm : List UInt8) (hi : i ≤ x.ns.length) (hl : x.ns.length ≤ 15) (V : World) (vb : Nat) (hb : Below w.heap.size w V) (hv : V.heap[vb]? = some (.cells #[strV nm] 9 (0, 0))) (hn : w.heap.size ≤ vb) :
    Calls Try.prog 34 #[a.nv, .int .i64 i, .slice (some ⟨vb, 0, none⟩) 1 1] V fun e w2 => ∃ sa' n' cap', e = .returned (.slice sa' n' cap') ∧ w2.cell? ⟨T, 2, none⟩ = some a.nv ∧ w2.frozen? ⟨T, 2, none⟩ = false ∧ Hid (∃ a2, TR (w2.setCell ⟨T, 2, none⟩ (.slice sa' n' cap')) T a2 { x with ns := putN x.ns i nm } ∧ Fr (TF a) (TF a2) w (w2.setCell ⟨T, 2, none⟩ (.slice sa' n' cap'))) := by
  have hV := (h.newer hb).1
  have hlt : ∀ q, a.nv.ownBlock = some q → q < w.heap.size := fun q hq => h.lt q (.inr (.inl hq))
  refine (insert_anyS x.ns a.nv i nm vb V hV.names hi hl hv ?_).mono ?_
  · intro e
    have := hlt vb e.symm
    omega
  · rintro e w2 ⟨sv', rfl, hr, hgr, hown⟩
    obtain ⟨sa', cap', rfl⟩ := own_slice hr
    have hbs := hb.size
    obtain ⟨k1, k2, k3, k4⟩ := h.turnN (w2 := w2) (hgr.os.trans hb.os) (hgr.tape.trans hb.tape) (hgr.output.trans hb.output) (by have := hgr.size; omega) (fun q hq hne => (hgr.block q (by omega) fun e => hne e.symm).trans (hb.block q hq)) hr (hown.elim .inl fun e => .inr fun q hq => by rw [e] at hq; have := Option.some.inj hq; omega)
    exact ⟨_, _, _, rfl, k1, k2, _, k3, k4⟩
theorem insW_call {w : World} {T : Nat} {a : Pa} {x : Fx} (h : TR w T a x) (i : Nat) (wt : Int) (hi : i ≤ x.wts.length) (hl : x.wts.length ≤ 15) (V : World) (vb : Nat) (hb : Below w.heap.size w V) (hv : V.heap[vb]? = some (.cells #[intV wt] 3 (0, 0))) (hn : w.heap.size ≤ vb) :
    Calls Try.prog 35 #[a.wv, .int .i64 i, .slice (some ⟨vb, 0, none⟩) 1 1] V fun e w2 => ∃ sa' n' cap', e = .returned (.slice sa' n' cap') ∧ w2.cell? ⟨T, 3, none⟩ = some a.wv ∧ w2.frozen? ⟨T, 3, none⟩ = false ∧ Hid (∃ a2, TR (w2.setCell ⟨T, 3, none⟩ (.slice sa' n' cap')) T a2 { x with wts := putN x.wts i wt } ∧ Fr (TF a) (TF a2) w (w2.setCell ⟨T, 3, none⟩ (.slice sa' n' cap'))) := by
  have hV := (h.newer hb).1
  have hlt : ∀ q, a.wv.ownBlock = some q → q < w.heap.size := fun q hq => h.lt q (.inr (.inr (.inl hq)))
  refine (insert_anyI x.wts a.wv i wt vb V hV.weights hi hl hv ?_).mono ?_
  · intro e
    have := hlt vb e.symm
    omega
  · rintro e w2 ⟨sv', rfl, hr, hgr, hown⟩
    obtain ⟨sa', cap', rfl⟩ := own_slice hr
    have hbs := hb.size
    obtain ⟨k1, k2, k3, k4⟩ := h.turnW (w2 := w2) (hgr.os.trans hb.os) (hgr.tape.trans hb.tape) (hgr.output.trans hb.output) (by have := hgr.size; omega) (fun q hq hne => (hgr.block q (by omega) fun e => hne e.symm).trans (hb.block q hq)) hr (hown.elim .inl fun e => .inr fun q hq => by rw [e] at hq; have := Option.some.inj hq; omega)
    exact ⟨_, _, _, rfl, k1, k2, _, k3, k4⟩
theorem sset_call {w : World} {T : Nat} {a : Pa} {x : Fx} (h : TR w T a x) (hx : Fok x) (nm : List UInt8) (wt : Int) : Calls Try.prog 32 #[.pointer (some ⟨T, 4, none⟩), .string (tx nm), .int .i64 wt] w fun e w' => e = .returned (.int .i64 (setS x.s nm wt).1) ∧ ∃ a', TR w' T a' { x with s := (setS x.s nm wt).2 } ∧ Fr (TF a) (TF a') w w' := by
  refine (set_any 0 T a.FS x.s nm wt w h.sched hx.ok (by omega)).mono ?_
  rintro e w' ⟨rfl, F', k1, k2⟩
  exact ⟨rfl, _, h.turnSched k1 k2⟩
set_option maxRecDepth 20000 in
theorem tset_arg {w : World} {T : Nat} {a : Pa} {x : Fx} (h : TR w T a x) (nm : List UInt8) (wt : Int) (hw : ¬ (1 ≤ wt ∧ wt ≤ 16)) :
    Calls Try.prog 12 #[.pointer (some ⟨T, 0, none⟩), .string (tx nm), .int .i64 wt] w fun e w' => e = .returned (.int .i64 1) ∧ w' = w := by
  clear h
  by_cases h1 : wt < 1
  · clear hw
    go_enter Try.func12, Try.ntmps12
    go_wp2
    go_ret
    exact ⟨rfl, rfl⟩
  · have h2 : 16 < wt := by omega
    clear hw
    go_enter Try.func12, Try.ntmps12
    go_wp2
    go_ret
    exact ⟨rfl, rfl⟩
set_option maxRecDepth 20000 in
theorem tset_bound {w : World} {T : Nat} {a : Pa} {x : Fx} (h : TR w T a x) (hx : Fok x) (nm : List UInt8) (wt : Int) (hw : 1 ≤ wt ∧ wt ≤ 16) (hbd : bndB x nm = true) :
    Calls Try.prog 12 #[.pointer (some ⟨T, 0, none⟩), .string (tx nm), .int .i64 wt] w fun e w' => e = .returned (.int .i64 200) ∧ w' = w := by
  have HB : Hid (Calls Try.prog 31 #[.pointer (some ⟨T, 0, none⟩), .string (tx nm)] w fun e w' => e = .returned (.bool true) ∧ w' = w) := by
    have := bound_any h hx.up hx.le nm
    rw [hbd] at this
    exact this
  obtain ⟨q0, q1⟩ := hw
  clear h hx hbd
  go_enter Try.func12, Try.ntmps12
  go_wp2_with (go_at_call 31; refine HB.out.mono ?_; rintro e w1 ⟨rfl, hw1⟩; rw [hw1]; clear hw1)
  go_ret
  exact ⟨rfl, rfl⟩
set_option maxRecDepth 20000 in
theorem tset_full {w : World} {T : Nat} {a : Pa} {x : Fx} (h : TR w T a x) (hx : Fok x) (nm : List UInt8) (wt : Int) (hw : 1 ≤ wt ∧ wt ≤ 16) (hbd : bndB x nm = false) (hS : setS x.s nm wt = (7, x.s)) :
    Calls Try.prog 12 #[.pointer (some ⟨T, 0, none⟩), .string (tx nm), .int .i64 wt] w fun e w' => e = .returned (.int .i64 7) ∧ ∃ a', TR w' T a' x ∧ Fr (TF a) (TF a') w w' := by
  have HB : Hid (Calls Try.prog 31 #[.pointer (some ⟨T, 0, none⟩), .string (tx nm)] w fun e w' => e = .returned (.bool false) ∧ w' = w) := by
    have := bound_any h hx.up hx.le nm
    rw [hbd] at this
    exact this
  have HS : Hid (Calls Try.prog 32 #[.pointer (some ⟨T, 4, none⟩), .string (tx nm), .int .i64 wt] w fun e w' => e = .returned (.int .i64 7) ∧ Hid (∃ a', TR w' T a' x ∧ Fr (TF a) (TF a') w w')) := by
    have := sset_call h hx nm wt
    rw [hS] at this
    exact this
  obtain ⟨q0, q1⟩ := hw
  clear h hx hbd hS
  go_enter Try.func12, Try.ntmps12
  go_wp2_with (first | (go_at_call 31; refine HB.out.mono ?_; rintro e w1 ⟨rfl, hw1⟩; rw [hw1]; clear hw1) | (go_at_call 32; refine HS.out.mono ?_; rintro e w1 ⟨rfl, HZ⟩))
  go_ret
  exact ⟨rfl, HZ.out⟩
set_option maxRecDepth 20000 in
set_option maxHeartbeats 4000000 in
theorem tset_there {w : World} {T : Nat} {a : Pa} {x : Fx} (h : TR w T a x) (hx : Fok x) (nm : List UInt8) (wt : Int) (hw : 1 ≤ wt ∧ wt ≤ 16) (hp : plB x.ns nm = true) (hbd : bndB x nm = false) (hS : (setS x.s nm wt).1 = 0) :
    Calls Try.prog 12 #[.pointer (some ⟨T, 0, none⟩), .string (tx nm), .int .i64 wt] w fun e w' => e = .returned (.int .i64 0) ∧ ∃ a', TR w' T a' { x with s := (setS x.s nm wt).2, wts := x.wts.set (plI x.ns nm) wt } ∧ Fr (TF a) (TF a') w w' := by
  have hi : plI x.ns nm < x.wts.length := by rw [hx.wl]; exact (List.getElem?_eq_some_iff.1 (plB_true hp)).1
  have HB : Hid (Calls Try.prog 31 #[.pointer (some ⟨T, 0, none⟩), .string (tx nm)] w fun e w' => e = .returned (.bool false) ∧ w' = w) := by
    have := bound_any h hx.up hx.le nm
    rw [hbd] at this
    exact this
  have HS : Hid (Calls Try.prog 32 #[.pointer (some ⟨T, 4, none⟩), .string (tx nm), .int .i64 wt] w fun e w' => e = .returned (.int .i64 0) ∧ ∃ sa n cap g wcap u, w'.cell? ⟨T, 2, none⟩ = some (.slice sa n cap) ∧ w'.cell? ⟨T, 3, none⟩ = some (.slice (some ⟨g, 0, none⟩) x.wts.length wcap) ∧ (x.wts.length : Int) ≤ wcap ∧ w'.cell? ⟨g, plI x.ns nm, none⟩ = some (.int .i64 u) ∧ w'.frozen? ⟨g, plI x.ns nm, none⟩ = false ∧ Hid (Calls Try.prog 33 #[.slice sa n cap, .string (tx nm)] w' fun e w2 => e = .returned (.tuple #[.int .i64 (plI x.ns nm : Nat), .bool true]) ∧ w2 = w') ∧ Hid (∃ a', TR (w'.setCell ⟨g, plI x.ns nm, none⟩ (.int .i64 wt)) T a' { x with s := (setS x.s nm wt).2, wts := x.wts.set (plI x.ns nm) wt } ∧ Fr (TF a) (TF a') w (w'.setCell ⟨g, plI x.ns nm, none⟩ (.int .i64 wt)))) := by
    refine (sset_call h hx nm wt).mono ?_
    rintro e w' ⟨rfl, a', k1, k2⟩
    rw [hS]
    obtain ⟨sa, cap, hsl⟩ := own_slice k1.names
    obtain ⟨g, wcap, e1, e2, ⟨u, e3⟩, e4, e5, e6⟩ := k1.turnW1 hi wt
    refine ⟨rfl, sa, _, cap, g, wcap, u, hsl ▸ k1.cells.2.2.1, e1 ▸ k1.cells.2.2.2.1, by exact_mod_cast e2, e3, e4, ?_, a', e5, k2.trans' e6⟩
    have := bsearch_any 0 sa _ cap x.ns nm w' (hsl ▸ k1.names) hx.up hx.le rfl
    rw [hp] at this
    exact this
  obtain ⟨q0, q1⟩ := hw
  have hi' : (plI x.ns nm : Int) < (x.wts.length : Int) := by omega
  clear h hx hbd hS hp hi
  generalize (setS x.s nm wt).2 = s' at HS ⊢
  generalize x.wts.set (plI x.ns nm) wt = ws' at HS ⊢
  generalize plI x.ns nm = i at *
  generalize x.wts.length = L at *
  go_enter Try.func12, Try.ntmps12
  go_wp2_with (first | (go_at_call 31; refine HB.out.mono ?_; rintro e w1 ⟨rfl, hw1⟩; rw [hw1]; clear hw1) | (go_at_call 32; refine HS.out.mono ?_; rintro e w1 ⟨rfl, sa, n, cap, g, wcap, u, d1, d2, d3, d4, d5, HF, HZ⟩) | (go_at_call 33; refine HF.out.mono ?_; rintro e w2 ⟨rfl, hw2⟩; rw [hw2]; clear hw2))
  go_ret
  exact ⟨rfl, HZ.out⟩
end Go.Proofs.Ytkigagglkmdccaa
