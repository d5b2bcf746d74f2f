/- The model's next. -/
import Derived.Test.YtfndbllpnkhlhaaRc
namespace Go.Proofs.Ytfndbllpnkhlhaa
open Go.RowKit
set_option linter.unusedVariables false
set_option linter.unusedSimpArgs false

def nxI : Option (Nat × Int) → Int
  | some (k, _) => (k : Int)
  | none => -1
/-- What is known of the one that was chosen among the first ones. -/
def nxOk (m : List Rt) (k : Nat) : Option (Nat × Int) → Prop
  | none => True
  | some (a, st) => a < k ∧ ∃ r x l, m[a]? = some r ∧ r.t.ws = x :: l ∧ x.start = st
def nx1 (i : Nat) (t : Tn) (a : Option (Nat × Int)) : Option (Nat × Int) := match t.ws with | [] => a | w :: _ => match a with | none => some (i, w.start) | some (k, st) => if w.start < st then some (i, w.start) else some (k, st)
theorem nxt_drop {ts : List Tn} {k : Nat} {t : Tn} {a : Option (Nat × Int)} (h : ts[k]? = some t) : nxt (ts.drop k) k a = nxt (ts.drop (k + 1)) (k + 1) (nx1 k t a) := by
  have hk := (List.getElem?_eq_some_iff.1 h).1
  rw [List.drop_eq_getElem_cons hk, (List.getElem?_eq_some_iff.1 h).2]
  rfl
theorem rs_row {T base : Nat} {lv : Value} {m : List Rt} {clk : Int} {srv : List UInt8} {busy : Bool} {w : World} (h : RS w T base lv m clk srv busy) {k : Nat} {r : Rt} (hk : m[k]? = some r) : ∃ g cap, lv = .slice (some ⟨g, 0, none⟩) m.length cap ∧ m.length ≤ cap ∧ w.cell? ⟨g, k * 4, none⟩ = some (.string (tx r.t.nm)) ∧ w.cell? ⟨g, k * 4 + 1, none⟩ = some (.int .i64 r.t.wt) ∧ w.cell? ⟨g, k * 4 + 2, none⟩ = some (.int .i64 r.t.fin) ∧ w.cell? ⟨g, k * 4 + 3, none⟩ = some (.slice r.a r.t.ws.length r.c) ∧ ∀ i, w.frozen? ⟨g, i, none⟩ = false := by
  have hil := (List.getElem?_eq_some_iff.1 hk).1
  obtain ⟨g, cap, hv⟩ := own_form h.row (by omega)
  have hrow := h.row
  rw [hv] at hrow
  have h2 := own_rt hrow hk
  exact ⟨g, cap, hv, own_cap hrow, h2⟩
/-- A tenant's first job. -/
theorem rs_first {T base : Nat} {lv : Value} {m : List Rt} {clk : Int} {srv : List UInt8} {busy : Bool} {w : World} (h : RS w T base lv m clk srv busy) {k : Nat} {r : Rt} (hk : m[k]? = some r) {x : Wk} {l : List Wk} (hx : r.t.ws = x :: l) : ∃ g, r.a = some ⟨g, 0, none⟩ ∧ l.length + 1 ≤ r.c ∧ w.cell? ⟨g, 0, none⟩ = some (.int .i64 x.id) ∧ w.cell? ⟨g, 1, none⟩ = some (.int .i64 x.cost) ∧ w.cell? ⟨g, 2, none⟩ = some (.int .i64 x.start) ∧ w.cell? ⟨g, 3, none⟩ = some (.int .i64 x.left) ∧ ∀ i, w.frozen? ⟨g, i, none⟩ = false := by
  have hq := h.que r (List.mem_of_getElem? hk)
  unfold Rt.v at hq
  rw [hx] at hq
  obtain ⟨g, cap, hv⟩ := own_form hq (by simp)
  have ha : r.a = some ⟨g, 0, none⟩ := (Value.slice.inj hv).1
  rw [ha] at hq
  have h2 := own_wk (k := 0) hq rfl
  simp only [Nat.zero_mul, Nat.zero_add] at h2
  exact ⟨g, ha, by have := own_cap hq; simpa using this, h2⟩
set_option maxRecDepth 20000 in
set_option maxHeartbeats 4000000 in
theorem rnext_any {T base : Nat} {lv : Value} {m : List Rt} {clk : Int} {srv : List UInt8} {busy : Bool} (w : World) (h : RS w T base lv m clk srv busy) (hl : m.length ≤ 16) (hq : ∀ r ∈ m, r.t.ws.length ≤ 16) :
    Calls Try.prog 62 #[.pointer (some ⟨T, 0, none⟩)] w fun e w' => e = .returned (.int .i64 (nxI (nxt (rts m) 0 none))) ∧ ∃ j, w' = w.drewN j := by
  obtain ⟨sa, cap, hsv⟩ := own_slice h.row
  have HT : Hid (∀ j, RS (w.drewN j) T base lv m clk srv busy) := fun j => h.at' fun _ _ => rfl
  have HQ : Hid (∀ r ∈ m, r.t.ws.length ≤ 16) := hq
  obtain ⟨n, hn⟩ : ∃ n, m.length = n := ⟨_, rfl⟩
  have HN : Hid (m.length = n) := hn
  rw [hn] at hl hsv
  have HSV : Hid (lv = .slice sa n cap) := hsv
  have hl' : (n : Int) ≤ 16 := by omega
  clear h hn hl hq hsv
  go_enter Try.func62, Try.ntmps62
  go_wp2_with fail
  go_loopw [3, 4] (fun u v wr => ∃ (k j : Nat) (acc : Option (Nat × Int)), k ≤ n ∧ v = .int .i64 k ∧ u = .int .i64 (nxI acc) ∧ wr = w.drewN j ∧ nxOk m k acc ∧ nxt ((rts m).drop k) k acc = nxt (rts m) 0 none) (fun u v wr => n - (intOf v).toNat)
  case atStart => exact ⟨0, 0, none, by omega, rfl, rfl, rfl, trivial, rfl⟩
  case round =>
    obtain ⟨k, j, acc, hk, rfl, rfl, hwr, hok, hnx⟩ := hrel
    have hS := HT.out j
    rw [← hwr] at hS
    have HW : Hid (wr = w.drewN j) := hwr
    have c0 := hS.cells.1
    rw [HSV.out] at c0
    clear hwr
    by_cases hlt : k < n
    · have hlt' : (k : Int) < (n : Int) := by omega
      obtain ⟨r, hr⟩ : ∃ r, m[k]? = some r := ⟨_, List.getElem?_eq_getElem (by have := HN.out; omega)⟩
      obtain ⟨g, cp, hv, hcp, _, _, _, e3, _⟩ := rs_row hS hr
      rw [HSV.out, HN.out] at hv
      have hsa : sa = some ⟨g, 0, none⟩ := (Value.slice.inj hv).1
      have hcc : cap = cp := (Value.slice.inj hv).2.2
      subst hsa
      subst hcc
      have hcap : (n : Int) ≤ (cap : Int) := by have := HN.out; omega
      rw [nxt_drop (rts_at hr)] at hnx
      have HNX : Hid (nxt ((rts m).drop (k + 1)) (k + 1) (nx1 k r.t acc) = nxt (rts m) 0 none) := hnx
      clear hnx hv hcp
      cases hws : r.t.ws with
      | nil =>
        have hz : r.t.ws.length = 0 := by rw [hws]; rfl
        rw [hz] at e3
        have HA : Hid (nx1 k r.t acc = acc ∧ nxOk m (k + 1) acc) := by
          refine ⟨by unfold nx1; rw [hws], ?_⟩
          cases acc with
          | none => trivial
          | some y => exact ⟨by have := hok.1; omega, hok.2⟩
        obtain ⟨A, hA⟩ : ∃ A, nxI acc = A := ⟨_, rfl⟩
        rw [hA]
        have HAA : Hid (nxI acc = A) := hA
        clear hS hok hz hA
        go_wp2_with fail
        go_quiet (fail)
        go_wp2_with fail
        go_roundw
        case rel => exact ⟨k + 1, j + nq, acc, by omega, by go_num, by rw [HAA.out], by rw [HW.out, World.drewN_drewN], HA.out.2, by rw [HA.out.1] at HNX; exact HNX.out⟩
        case measure => simp [intOf]; omega
      | cons x l =>
        obtain ⟨g1, ha, hc1, x0, x1, x2, x3, _⟩ := rs_first hS hr hws
        have hlen : r.t.ws.length = l.length + 1 := by rw [hws]; rfl
        have hl16 := HQ.out r (List.mem_of_getElem? hr)
        rw [ha] at e3
        obtain ⟨nw, hnw⟩ : ∃ nw, r.t.ws.length = nw := ⟨_, rfl⟩
        have hp : 0 < nw := by omega
        have hp16 : (nw : Int) ≤ 16 := by omega
        have hpc : (nw : Int) ≤ (r.c : Int) := by omega
        rw [hnw] at e3
        generalize r.c = rc at *
        cases acc with
        | none =>
          have HA : Hid (nx1 k r.t none = some (k, x.start) ∧ nxOk m (k + 1) (some (k, x.start))) := ⟨by unfold nx1; rw [hws], by omega, r, x, l, hr, hws, rfl⟩
          rw [show nxI none = -1 from rfl]
          clear hS hok hlen hl16 hws hr ha hc1 hnw
          go_wp2_with fail
          go_quiet (fail)
          go_wp2_with fail
          go_roundw
          case rel => exact ⟨k + 1, j + nq, some (k, x.start), by omega, by go_num, rfl, by rw [HW.out, World.drewN_drewN], HA.out.2, by rw [← HA.out.1]; exact HNX.out⟩
          case measure => simp [intOf]; omega
        | some y =>
          obtain ⟨a, st⟩ := y
          obtain ⟨hak, r2, z, l2, h1, h2, h3⟩ := hok
          obtain ⟨g', cp', hv', hcp', _, _, _, f3, _⟩ := rs_row hS h1
          rw [HSV.out, HN.out] at hv'
          have hgg : g = g' := by have := (Value.slice.inj hv').1; simpa using this
          subst hgg
          obtain ⟨g2, ha2, hc2, _, _, z2, _, _⟩ := rs_first hS h1 h2
          have hlen2 : r2.t.ws.length = l2.length + 1 := by rw [h2]; rfl
          have hl162 := HQ.out r2 (List.mem_of_getElem? h1)
          rw [ha2] at f3
          obtain ⟨nw2, hnw2⟩ : ∃ nw2, r2.t.ws.length = nw2 := ⟨_, rfl⟩
          have hp2 : 0 < nw2 := by omega
          have hp162 : (nw2 : Int) ≤ 16 := by omega
          have hpc2 : (nw2 : Int) ≤ (r2.c : Int) := by omega
          rw [hnw2] at f3
          rw [h3] at z2
          generalize r2.c = rc2 at *
          have hA0 : ¬ ((a : Int) < 0) := by omega
          have hA1 : (a : Int) < (n : Int) := by omega
          rw [show nxI (some (a, st)) = (a : Int) from rfl]
          have HR2 : Hid (∃ r x l, m[a]? = some r ∧ r.t.ws = x :: l ∧ x.start = st) := ⟨r2, z, l2, h1, h2, h3⟩
          have HR1 : Hid (∃ r y l, m[k]? = some r ∧ r.t.ws = y :: l ∧ y.start = x.start) := ⟨r, x, l, hr, hws, rfl⟩
          by_cases hst : x.start < st
          · have HA : Hid (nx1 k r.t (some (a, st)) = some (k, x.start)) := by show _ = _; unfold nx1; rw [hws]; simp [hst]
            clear hS hlen hl16 hws hr ha hc1 hnw hak h1 h2 h3 hv' hcp' ha2 hc2 hlen2 hl162 hnw2
            go_wp2_with fail
            go_quiet (fail)
            go_wp2_with fail
            go_roundw
            case rel => exact ⟨k + 1, j + nq, some (k, x.start), by omega, by go_num, rfl, by rw [HW.out, World.drewN_drewN], ⟨by omega, HR1.out⟩, by rw [← HA.out]; exact HNX.out⟩
            case measure => simp [intOf]; omega
          · have HA : Hid (nx1 k r.t (some (a, st)) = some (a, st)) := by show _ = _; unfold nx1; rw [hws]; simp [hst]
            have HAK : Hid (a < k) := hak
            clear hS hlen hl16 hws hr ha hc1 hnw hak h1 h2 h3 hv' hcp' ha2 hc2 hlen2 hl162 hnw2
            go_wp2_with fail
            go_quiet (fail)
            go_wp2_with fail
            go_roundw
            case rel => exact ⟨k + 1, j + nq, some (a, st), by omega, by go_num, rfl, by rw [HW.out, World.drewN_drewN], ⟨by have := HAK.out; omega, HR2.out⟩, by rw [← HA.out]; exact HNX.out⟩
            case measure => simp [intOf]; omega
    · have hge : ¬ ((k : Int) < (n : Int)) := by omega
      have hE : nxt (rts m) 0 none = acc := by
        rw [← hnx, List.drop_of_length_le (by have := HN.out; simp [rts]; omega)]
        rfl
      obtain ⟨A, hA⟩ : ∃ A, nxI acc = A := ⟨_, rfl⟩
      have HE : Hid (nxI (nxt (rts m) 0 none) = A) := by show _ = _; rw [hE]; exact hA
      rw [hA]
      clear hlt hS hok hnx hE hA
      go_wp2_with fail
      go_ret
      exact ⟨by rw [HE.out]; rfl, j, HW.out⟩
end Go.Proofs.Ytfndbllpnkhlhaa
