/- The program's scheduler as it lies. -/
import Derived.Test.YtkigagglkmdccaaKf
import Derived.Test.YtkigagglkmdccaaKd
namespace Go.Proofs.Ytkigagglkmdccaa
open Go.RowKit
set_option linter.unusedVariables false
set_option linter.unusedSimpArgs false
/-- What else a table's block holds. -/
structure Ext where
  mode : Value
  slot : Value
  names : Value
  weights : Value
  turns : Value
def bx (X : Ext) (lv : Value) (clk : Int) (srv : Value) (had : Int) : Array Value := #[X.mode, X.slot, X.names, X.weights, lv, .int .i64 clk, srv, .int .i64 had, X.turns]
variable {X : Ext}

/-- A tenant's row: its block, its queue's block, the queue's items, the tenant. -/
structure Rw where
  p : Nat
  Q : Nat
  sv : Value
  t : Tn
def rowO (t : Tn) (Q : Nat) : Obj := .cells #[.string (tx t.nm), .string (tx t.nm), .int .i64 t.wt, .int .i64 t.fin, .pointer (some ⟨Q, 0, none⟩)] 130 (0, 0)
theorem rowO_cells {w : World} {p Q : Nat} {t : Tn} (h : w.heap[p]? = some (rowO t Q)) :
    w.cell? ⟨p, 0, none⟩ = some (.string (tx t.nm)) ∧ w.cell? ⟨p, 1, none⟩ = some (.string (tx t.nm)) ∧ w.cell? ⟨p, 2, none⟩ = some (.int .i64 t.wt) ∧ w.cell? ⟨p, 3, none⟩ = some (.int .i64 t.fin) ∧ w.cell? ⟨p, 4, none⟩ = some (.pointer (some ⟨Q, 0, none⟩)) :=
  ⟨by rw [cell_of_row _ _ _ _ _ _ h]; rfl, by rw [cell_of_row _ _ _ _ _ _ h]; rfl, by rw [cell_of_row _ _ _ _ _ _ h]; rfl, by rw [cell_of_row _ _ _ _ _ _ h]; rfl, by rw [cell_of_row _ _ _ _ _ _ h]; rfl⟩
theorem rowO_frozen {w : World} {p Q i : Nat} {t : Tn} (h : w.heap[p]? = some (rowO t Q)) : w.frozen? ⟨p, i, none⟩ = false := by
  unfold rowO at h
  simp [World.frozen?, h]
def pts (m : List Rw) : List Nat := m.map fun r => r.p
def nms (m : List Rw) : List (List UInt8) := m.map fun r => r.t.nm
def tns (m : List Rw) : List Tn := m.map fun r => r.t
/-- Whose job is served. -/
structure Srv (s : Sc) (m : List Rw) (srv : Value) (had : Int) : Prop where
  idle : s.busy = false → srv = .pointer none ∧ had = 0 ∧ ∀ r ∈ m, ∀ x ∈ r.t.ws, x.left = x.cost
  busy : s.busy = true → ∃ (k : Nat) (r : Rw) (x : Wk) (l : List Wk), m[k]? = some r ∧ srv = .pointer (some ⟨r.p, 1, none⟩) ∧ r.t.nm = s.srv ∧ r.t.ws = x :: l ∧ had = x.cost - x.left ∧ (∀ y ∈ l, y.left = y.cost) ∧ ∀ (j : Nat) (r' : Rw), j ≠ k → m[j]? = some r' → ∀ x ∈ r'.t.ws, x.left = x.cost
structure SR (X : Ext) (w : World) (T : Nat) (lv : Value) (m : List Rw) (clk : Int) (srv : Value) (had : Int) : Prop where
  box : w.heap[T]? = some (.cells (bx X lv clk srv had) 65 (0, 0))
  row : Ptrs w lv (pts m)
  each : ∀ r ∈ m, w.heap[r.p]? = some (rowO r.t r.Q)
  que : ∀ r ∈ m, QB w r.Q r.sv r.t.ws
  up : Up (nms m)
  nd : (pts m).Nodup
  ndQ : (m.map fun r => r.Q).Nodup
  ndO : ∀ (i j q : Nat) (r r' : Rw), m[i]? = some r → m[j]? = some r' → r.sv.ownBlock = some q → r'.sv.ownBlock = some q → i = j
/-- Its blocks. -/
def foot (T : Nat) (lv : Value) (m : List Rw) (q : Nat) : Prop := q = T ∨ lv.ownBlock = some q ∨ ∃ r ∈ m, q = r.p ∨ q = r.Q ∨ r.sv.ownBlock = some q
/-- The program's scheduler holds what a plain one says. -/
def PF (X : Ext) (w : World) (T : Nat) (F : Nat → Prop) (s : Sc) : Prop := ∃ lv m srv had, SR X w T lv m s.clk srv had ∧ tns m = s.ts ∧ Srv s m srv had ∧ ∀ q, F q ↔ foot T lv m q
theorem SR.at' {w w' : World} {T : Nat} {lv srv : Value} {m : List Rw} {clk had : Int} (h : SR X w T lv m clk srv had) (hk : ∀ q, foot T lv m q → w'.heap[q]? = w.heap[q]?) : SR X w' T lv m clk srv had :=
  ⟨(hk T (.inl rfl)).trans h.box, own_at h.row fun q hq => hk q (.inr (.inl hq)), fun r hr => (hk r.p (.inr (.inr ⟨r, hr, .inl rfl⟩))).trans (h.each r hr), fun r hr => (h.que r hr).at' fun q hq => hk q (.inr (.inr ⟨r, hr, hq.elim (fun e => .inr (.inl e)) (fun e => .inr (.inr e))⟩)), h.up, h.nd, h.ndQ, h.ndO⟩
theorem SR.lt {w : World} {T : Nat} {lv srv : Value} {m : List Rw} {clk had : Int} (h : SR X w T lv m clk srv had) : ∀ q, foot T lv m q → q < w.heap.size := by
  rintro q (rfl | hq | ⟨r, hr, rfl | hq⟩)
  · exact (Array.getElem?_eq_some_iff.1 h.box).1
  · exact (h.row.lt q hq).2
  · exact (Array.getElem?_eq_some_iff.1 (h.each r hr)).1
  · exact (h.que r hr).lt q hq
theorem PF.at' {w w' : World} {T : Nat} {F : Nat → Prop} {s : Sc} (h : PF X w T F s) (hk : ∀ q, F q → w'.heap[q]? = w.heap[q]?) : PF X w' T F s := by
  obtain ⟨lv, m, srv, had, h1, h2, h3, h4⟩ := h
  exact ⟨lv, m, srv, had, h1.at' fun q hq => hk q ((h4 q).2 hq), h2, h3, h4⟩
theorem PF.lt {w : World} {T : Nat} {F : Nat → Prop} {s : Sc} (h : PF X w T F s) : ∀ q, F q → q < w.heap.size := by
  obtain ⟨lv, m, srv, had, h1, h2, h3, h4⟩ := h
  exact fun q hq => h1.lt q ((h4 q).1 hq)
theorem Fr.refl (F : Nat → Prop) (w : World) : Fr F F w w := ⟨rfl, rfl, rfl, Nat.le_refl _, fun _ _ _ => rfl, fun _ h => .inl h⟩
theorem Fr.after {F F' : Nat → Prop} {w W w' : World} (hb : Below w.heap.size w W) (h : Fr F F' W w') : Fr F F' w w' :=
  ⟨h.os.trans hb.os, h.tape.trans hb.tape, h.output.trans hb.output, Nat.le_trans hb.size h.size, fun q hq hn => (h.block q (by have := hb.size; omega) hn).trans (hb.block q hq), fun q hq => (h.grow q hq).imp id fun h => Nat.le_trans hb.size h⟩
theorem PF.same {w : World} {T : Nat} {F : Nat → Prop} {s : Sc} (h : PF X w T F s) : ∃ F', PF X w T F' s ∧ Fr F F' w w := ⟨F, h, Fr.refl F w⟩
theorem PF.newer {w w' : World} {T : Nat} {F : Nat → Prop} {s : Sc} (h : PF X w T F s) (hb : Below w.heap.size w w') : ∃ F', PF X w' T F' s ∧ Fr F F' w w' :=
  ⟨F, h.at' fun q hq => hb.block q (h.lt q hq), ⟨hb.os, hb.tape, hb.output, hb.size, fun q hq _ => hb.block q hq, fun q hq => .inl hq⟩⟩
theorem SR.cells {w : World} {T : Nat} {lv srv : Value} {m : List Rw} {clk had : Int} (h : SR X w T lv m clk srv had) : w.cell? ⟨T, 4, none⟩ = some lv ∧ w.cell? ⟨T, 5, none⟩ = some (.int .i64 clk) ∧ w.cell? ⟨T, 6, none⟩ = some srv ∧ w.cell? ⟨T, 7, none⟩ = some (.int .i64 had) :=
  ⟨by rw [cell_of_row _ _ _ _ _ _ h.box]; rfl, by rw [cell_of_row _ _ _ _ _ _ h.box]; rfl, by rw [cell_of_row _ _ _ _ _ _ h.box]; rfl, by rw [cell_of_row _ _ _ _ _ _ h.box]; rfl⟩
theorem nms_at {m : List Rw} {i : Nat} {r : Rw} (h : m[i]? = some r) : (nms m)[i]? = some r.t.nm := by unfold nms; rw [List.getElem?_map, h]; rfl
theorem pts_at {m : List Rw} {i : Nat} {r : Rw} (h : m[i]? = some r) : (pts m)[i]? = some r.p := by unfold pts; rw [List.getElem?_map, h]; rfl
theorem tns_at {m : List Rw} {i : Nat} {r : Rw} (h : m[i]? = some r) : (tns m)[i]? = some r.t := by unfold tns; rw [List.getElem?_map, h]; rfl
theorem SR.nam {w : World} {T : Nat} {lv srv : Value} {m : List Rw} {clk had : Int} (h : SR X w T lv m clk srv had) : Nms w (pts m) (nms m) := by
  refine ⟨by simp [nms, pts], fun j p n hp hn => ?_⟩
  unfold pts at hp
  unfold nms at hn
  rw [List.getElem?_map] at hp hn
  cases hx : m[j]? with
  | none => rw [hx] at hp; cases hp
  | some x =>
    rw [hx] at hp hn
    simp at hp hn
    subst hp
    subst hn
    exact (rowO_cells (h.each x (List.mem_of_getElem? hx))).1
/-- A tenant's row. -/
def fnd (m : List Rw) (nm : List UInt8) : Option (Nat × Rw) := if plB (nms m) nm then (m[plI (nms m) nm]?).map fun r => (plI (nms m) nm, r) else none
theorem fnd_some {m : List Rw} {nm : List UInt8} {i : Nat} {r : Rw} (h : fnd m nm = some (i, r)) : plB (nms m) nm = true ∧ plI (nms m) nm = i ∧ m[i]? = some r ∧ r.t.nm = nm := by
  unfold fnd at h
  split at h
  · rename_i hb
    cases hx : m[plI (nms m) nm]? with
    | none => rw [hx] at h; cases h
    | some x =>
      rw [hx] at h
      simp at h
      obtain ⟨rfl, rfl⟩ := h
      refine ⟨hb, rfl, hx, ?_⟩
      have h1 := plB_true hb
      rw [nms_at hx] at h1
      exact Option.some.inj h1
  · cases h
theorem fnd_none {m : List Rw} {nm : List UInt8} (h : fnd m nm = none) : plB (nms m) nm = false := by
  unfold fnd at h
  split at h
  · rename_i hb
    have h1 := plB_true hb
    unfold nms at h1
    rw [List.getElem?_map] at h1
    cases hx : m[plI (nms m) nm]? with
    | none => unfold nms at hx; rw [hx] at h1; cases h1
    | some x => rw [hx] at h; cases h
  · rename_i hb
    simpa using hb
theorem ixT_miss : ∀ (l : List Tn) (nm : List UInt8), (∀ t ∈ l, t.nm ≠ nm) → ixT l nm = none
  | [], nm, _ => rfl
  | p :: r, nm, h => by
    have h0 := h p (by simp)
    have := ixT_miss r nm (fun t ht => h t (by simp [ht]))
    simp [ixT, h0, this]
theorem ixT_hit : ∀ (l : List Tn) (nm : List UInt8) (k : Nat) (s : Tn), (∀ (j : Nat) (q : Tn), j < k → l[j]? = some q → q.nm ≠ nm) → l[k]? = some s → s.nm = nm → ixT l nm = some k
  | [], nm, k, s, _, h, _ => by simp at h
  | p :: r, nm, 0, s, _, h, e => by
    simp at h
    subst h
    simp [ixT, e]
  | p :: r, nm, k + 1, s, h1, h, e => by
    have h0 := h1 0 p (by omega) rfl
    have := ixT_hit r nm k s (fun j q hj hq => h1 (j + 1) q (by omega) (by simpa using hq)) (by simpa using h) e
    simp [ixT, h0, this]
/-- The same tenant in the plain list, at the same place. -/
theorem fnd_look {m : List Rw} {nm : List UInt8} (hu : Up (nms m)) : lookT (tns m) nm = (fnd m nm).map fun x => (x.1, x.2.t) := by
  cases hf : fnd m nm with
  | none =>
    have h1 := plB_false hu (fnd_none hf)
    have h2 : ixT (tns m) nm = none := ixT_miss _ _ fun t ht e => by
      obtain ⟨r, hr, rfl⟩ := List.mem_map.1 ht
      exact h1 r.t.nm (List.mem_map.2 ⟨r, hr, rfl⟩) e
    unfold lookT
    rw [h2]
    rfl
  | some x =>
    obtain ⟨i, r⟩ := x
    obtain ⟨h1, h2, h3, h4⟩ := fnd_some hf
    have hx : ixT (tns m) nm = some i := ixT_hit _ _ i r.t (fun j q hj hq e => by
      unfold tns at hq
      rw [List.getElem?_map] at hq
      cases hy : m[j]? with
      | none => rw [hy] at hq; cases hq
      | some y =>
        rw [hy] at hq
        have e2 : y.t = q := by simpa using hq
        have := (pl_spec hu nm).1 j y.t.nm (by omega) (nms_at hy)
        rw [e2, e] at this
        exact lb_irrefl nm this) (tns_at h3) h4
    unfold lookT
    rw [hx]
    simp [tns_at h3]
set_option maxRecDepth 20000 in
set_option maxHeartbeats 4000000 in
theorem find_any (T : Nat) (lv srv : Value) (m : List Rw) (clk had : Int) (nm : List UInt8) (w : World) (h : SR X w T lv m clk srv had) (hl : m.length ≤ 16) :
    Calls Try.prog 65 #[.pointer (some ⟨T, 4, none⟩), .string (tx nm)] w fun e w' => e = .returned (match fnd m nm with | some (_, r) => .tuple #[.pointer (some ⟨r.p, 1, none⟩), .int .i64 0] | none => .tuple #[.pointer none, .int .i64 5]) ∧ w' = w := by
  have HL : Hid (∀ W, W = w → Calls Try.prog 85 #[.pointer (some ⟨T, 4, none⟩), .string (tx nm)] W fun e w' => e = .returned (.tuple #[.int .i64 (plI (nms m) nm : Nat), .bool (plB (nms m) nm)]) ∧ w' = W) := fun W e => by
    subst e
    exact place_any T lv (pts m) (nms m) nm W h.cells.1 h.row h.nam h.up (by simpa [pts] using hl)
  have c0 := h.cells.1
  cases hf : fnd m nm with
  | none =>
    rw [fnd_none hf] at HL
    clear h hl hf
    go_enter Try.func65, Try.ntmps65
    go_wp2_with (go_at_call 85; refine (HL.out _ rfl).mono ?_; rintro e w' ⟨rfl, hw⟩; rw [hw]; clear hw)
    go_ret2
    exact ⟨rfl, rfl⟩
  | some x =>
    obtain ⟨i, r⟩ := x
    obtain ⟨h1, h2, h3, h4⟩ := fnd_some hf
    rw [h1, h2] at HL
    have hlt := (List.getElem?_eq_some_iff.1 h3).1
    obtain ⟨g, cap, hv⟩ := own_form h.row (by simpa [pts] using Nat.lt_of_le_of_lt (Nat.zero_le _) hlt)
    have hlen : (pts m).length = m.length := by simp [pts]
    rw [hlen] at hv
    subst hv
    have hrow : Ptrs w (.slice (some ⟨g, 0, none⟩) (pts m).length cap) (pts m) := by rw [hlen]; exact h.row
    have c1 := hrow.cell (pts_at h3)
    have hcap : (m.length : Int) ≤ (cap : Int) := by have := own_cap hrow; omega
    have hi' : (i : Int) < (m.length : Int) := by omega
    have hl' : (m.length : Int) ≤ 16 := by omega
    generalize m.length = n at *
    clear h hl hf h1 h2 h3 h4 hlt hlen hrow
    go_enter Try.func65, Try.ntmps65
    go_wp2_with (go_at_call 85; refine (HL.out _ rfl).mono ?_; rintro e w' ⟨rfl, hw⟩; rw [hw]; clear hw)
    go_ret2
    exact ⟨rfl, rfl⟩
set_option maxRecDepth 20000 in
theorem sfind_any (T : Nat) (lv srv : Value) (m : List Rw) (clk had : Int) (nm : List UInt8) (w : World) (h : SR X w T lv m clk srv had) (hl : m.length ≤ 16) :
    Calls Try.prog 76 #[.pointer (some ⟨T, 4, none⟩), .string (tx nm)] w fun e w' => e = .returned (match fnd m nm with | some (_, r) => .pointer (some ⟨r.p, 1, none⟩) | none => .pointer none) ∧ w' = w := by
  have HF : Hid (∀ W, W = w → Calls Try.prog 65 #[.pointer (some ⟨T, 4, none⟩), .string (tx nm)] W fun e w' => e = .returned (match fnd m nm with | some (_, r) => .tuple #[.pointer (some ⟨r.p, 1, none⟩), .int .i64 0] | none => .tuple #[.pointer none, .int .i64 5]) ∧ w' = W) := fun W e => by
    subst e
    exact find_any T lv srv m clk had nm W h hl
  cases hf : fnd m nm with
  | none =>
    rw [hf] at HF
    simp only at HF
    clear h hl hf
    go_enter Try.func76, Try.ntmps76
    go_wp2_with (go_at_call 65; refine (HF.out _ rfl).mono ?_; rintro e w' ⟨rfl, hw⟩; rw [hw]; clear hw)
    go_ret
    exact ⟨rfl, rfl⟩
  | some x =>
    obtain ⟨i, r⟩ := x
    rw [hf] at HF
    simp only at HF
    clear h hl hf
    go_enter Try.func76, Try.ntmps76
    go_wp2_with (go_at_call 65; refine (HF.out _ rfl).mono ?_; rintro e w' ⟨rfl, hw⟩; rw [hw]; clear hw)
    go_ret
    exact ⟨rfl, rfl⟩
set_option maxRecDepth 20000 in
/-- How many of a tenant's jobs wait. -/
theorem waiting_any (T : Nat) (lv srv : Value) (m : List Rw) (clk had : Int) (nm : List UInt8) (w : World) (h : SR X w T lv m clk srv had) (hl : m.length ≤ 16) :
    Calls Try.prog 43 #[.pointer (some ⟨T, 4, none⟩), .string (tx nm)] w fun e w' => e = .returned (.int .i64 (match fnd m nm with | some (_, r) => (r.t.ws.length : Int) | none => 0)) ∧ w' = w := by
  have HF : Hid (∀ W, W = w → Calls Try.prog 76 #[.pointer (some ⟨T, 4, none⟩), .string (tx nm)] W fun e w' => e = .returned (match fnd m nm with | some (_, r) => .pointer (some ⟨r.p, 1, none⟩) | none => .pointer none) ∧ w' = W) := fun W e => by
    subst e
    exact sfind_any T lv srv m clk had nm W h hl
  cases hf : fnd m nm with
  | none =>
    rw [hf] at HF
    simp only at HF
    clear h hl hf
    go_enter Try.func43, Try.ntmps43
    go_wp2_with (go_at_call 76; refine (HF.out _ rfl).mono ?_; rintro e w' ⟨rfl, hw⟩; rw [hw]; clear hw)
    go_ret
    exact ⟨rfl, rfl⟩
  | some x =>
    obtain ⟨i, r⟩ := x
    rw [hf] at HF
    simp only at HF
    have hr := List.mem_of_getElem? (fnd_some hf).2.2.1
    obtain ⟨c0, c1, c2, c3, c4⟩ := rowO_cells (h.each r hr)
    have HQ : Hid (∀ W, W = w → Calls Try.prog 79 #[.pointer (some ⟨r.Q, 0, none⟩)] W fun e w' => e = .returned (.int .i64 (r.t.ws.length : Int)) ∧ w' = W) := fun W e => by
      subst e
      exact qlen_any r.Q r.sv r.t.ws W (h.que r hr)
    clear h hl hf hr c0 c1 c2 c3
    go_enter Try.func43, Try.ntmps43
    go_wp2_with (first | (go_at_call 76; refine (HF.out _ rfl).mono ?_; rintro e w' ⟨rfl, hw⟩; rw [hw]; clear hw) | (go_at_call 79; refine (HQ.out _ rfl).mono ?_; rintro e w' ⟨rfl, hw⟩; rw [hw]; clear hw))
    go_ret
    exact ⟨rfl, rfl⟩
end Go.Proofs.Ytkigagglkmdccaa
