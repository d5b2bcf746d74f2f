/- The model's scheduler as it lies; what only reads it. -/
import Derived.Test.YtfndbllpnkhlhaaLd
namespace Go.Proofs.Ytfndbllpnkhlhaa
open Go.RowKit
set_option linter.unusedVariables false
set_option linter.unusedSimpArgs false

/-- A tenant of the model: with where its jobs lie. -/
structure Rt where
  t : Tn
  a : Option Addr
  c : Nat
def Rt.v (r : Rt) : Value := .slice r.a r.t.ws.length r.c
def rt4 (r : Rt) : List Value := [.string (tx r.t.nm), .int .i64 r.t.wt, .int .i64 r.t.fin, .slice r.a r.t.ws.length r.c]
theorem rt4_len (r : Rt) : (rt4 r).length = 4 := rfl
theorem rt4_one (r : Rt) : ∀ u ∈ rt4 r, u.oneCell' = true := by
  intro u hu
  simp only [rt4, List.mem_cons, List.not_mem_nil, or_false] at hu
  rcases hu with rfl | rfl | rfl | rfl <;> rfl
def wk4 (x : Wk) : List Value := [.int .i64 x.id, .int .i64 x.cost, .int .i64 x.start, .int .i64 x.left]
theorem wk4_len (x : Wk) : (wk4 x).length = 4 := rfl
theorem wk4_one (x : Wk) : ∀ u ∈ wk4 x, u.oneCell' = true := by
  intro u hu
  simp only [wk4, List.mem_cons, List.not_mem_nil, or_false] at hu
  rcases hu with rfl | rfl | rfl | rfl <;> rfl
def rts (m : List Rt) : List Tn := m.map fun r => r.t
structure RS (w : World) (T base : Nat) (lv : Value) (m : List Rt) (clk : Int) (srv : List UInt8) (busy : Bool) : Prop where
  box : w.heap[T]? = some (.cells #[lv, .int .i64 clk, .string (tx srv), .bool busy] 39 (0, 0))
  row : w.ownsRow base 102 4 lv m.length (fl rt4 m)
  que : ∀ r ∈ m, w.ownsRow base 104 4 r.v r.t.ws.length (fl wk4 r.t.ws)
  dis : ∀ (i j q : Nat) (r r' : Rt), m[i]? = some r → m[j]? = some r' → r.v.ownBlock = some q → r'.v.ownBlock = some q → i = j
  hT : base ≤ T
/-- What a call of the model's may turn. -/
def badR (t : TypeId) : Bool := t == 39 || t == 102 || t == 104
/-- The model's scheduler holds what a plain one says. -/
def RP (w : World) (T base : Nat) (s : Sc) : Prop := ∃ lv m, RS w T base lv m s.clk s.srv s.busy ∧ rts m = s.ts
def rfoot (T : Nat) (lv : Value) (m : List Rt) (q : Nat) : Prop := q = T ∨ lv.ownBlock = some q ∨ ∃ r ∈ m, r.v.ownBlock = some q
theorem RS.at' {w w' : World} {T base : Nat} {lv : Value} {m : List Rt} {clk : Int} {srv : List UInt8} {busy : Bool} (h : RS w T base lv m clk srv busy) (hk : ∀ q, rfoot T lv m q → w'.heap[q]? = w.heap[q]?) : RS w' T base lv m clk srv busy :=
  ⟨(hk T (.inl rfl)).trans h.box, own_at h.row fun q hq => hk q (.inr (.inl hq)), fun r hr => own_at (h.que r hr) fun q hq => hk q (.inr (.inr ⟨r, hr, hq⟩)), h.dis, h.hT⟩
theorem RS.lt {w : World} {T base : Nat} {lv : Value} {m : List Rt} {clk : Int} {srv : List UInt8} {busy : Bool} (h : RS w T base lv m clk srv busy) : ∀ q, rfoot T lv m q → base ≤ q ∧ q < w.heap.size := by
  rintro q (rfl | hq | ⟨r, hr, hq⟩)
  · exact ⟨h.hT, (Array.getElem?_eq_some_iff.1 h.box).1⟩
  · exact h.row.lt q hq
  · exact (h.que r hr).lt q hq
theorem RS.tag {w : World} {T base : Nat} {lv : Value} {m : List Rt} {clk : Int} {srv : List UInt8} {busy : Bool} (h : RS w T base lv m clk srv busy) : ∀ q, rfoot T lv m q → ∃ c t, w.heap[q]? = some (.cells c t (0, 0)) ∧ badR t = true := by
  rintro q (rfl | hq | ⟨r, hr, hq⟩)
  · exact ⟨_, _, h.box, by decide⟩
  · obtain ⟨cur, hc⟩ := own_tag h.row hq
    exact ⟨_, _, hc, by decide⟩
  · obtain ⟨cur, hc⟩ := own_tag (h.que r hr) hq
    exact ⟨_, _, hc, by decide⟩
theorem RS.cells {w : World} {T base : Nat} {lv : Value} {m : List Rt} {clk : Int} {srv : List UInt8} {busy : Bool} (h : RS w T base lv m clk srv busy) : w.cell? ⟨T, 0, none⟩ = some lv ∧ w.cell? ⟨T, 1, none⟩ = some (.int .i64 clk) ∧ w.cell? ⟨T, 2, none⟩ = some (.string (tx srv)) ∧ w.cell? ⟨T, 3, none⟩ = some (.bool busy) ∧ ∀ i, w.frozen? ⟨T, i, none⟩ = false :=
  ⟨by rw [cell_of_row _ _ _ _ _ _ h.box]; rfl, by rw [cell_of_row _ _ _ _ _ _ h.box]; rfl, by rw [cell_of_row _ _ _ _ _ _ h.box]; rfl, by rw [cell_of_row _ _ _ _ _ _ h.box]; rfl, fun i => by simp [World.frozen?, h.box]⟩
/-- A tenant's cells. -/
theorem own_rt {W : World} {base g n cap k : Nat} {m : List Rt} {r : Rt} (h : W.ownsRow base 102 4 (.slice (some ⟨g, 0, none⟩) n cap) m.length (fl rt4 m)) (hk : m[k]? = some r) :
    W.cell? ⟨g, k * 4, none⟩ = some (.string (tx r.t.nm)) ∧ W.cell? ⟨g, k * 4 + 1, none⟩ = some (.int .i64 r.t.wt) ∧ W.cell? ⟨g, k * 4 + 2, none⟩ = some (.int .i64 r.t.fin) ∧ W.cell? ⟨g, k * 4 + 3, none⟩ = some (.slice r.a r.t.ws.length r.c) ∧ ∀ i, W.frozen? ⟨g, i, none⟩ = false := by
  have hc : ∀ j u, (rt4 r)[j]? = some u → W.cell? ⟨g, k * 4 + j, none⟩ = some u := fun j u hu => by
    have := h.cells (g := g) rfl (k * 4 + j) u (by rw [fl_at rt4_len m k r j hk (by have := (List.getElem?_eq_some_iff.1 hu).1; simpa [rt4] using this)]; exact hu)
    rwa [Addr.add_lit, Nat.zero_add] at this
  refine ⟨hc 0 _ rfl, hc 1 _ rfl, hc 2 _ rfl, hc 3 _ rfl, fun i => ?_⟩
  obtain ⟨cur, hcu⟩ := own_tag h (q := g) rfl
  simp [World.frozen?, hcu]
theorem own_wk {W : World} {base g n cap k : Nat} {l : List Wk} {x : Wk} (h : W.ownsRow base 104 4 (.slice (some ⟨g, 0, none⟩) n cap) l.length (fl wk4 l)) (hk : l[k]? = some x) :
    W.cell? ⟨g, k * 4, none⟩ = some (.int .i64 x.id) ∧ W.cell? ⟨g, k * 4 + 1, none⟩ = some (.int .i64 x.cost) ∧ W.cell? ⟨g, k * 4 + 2, none⟩ = some (.int .i64 x.start) ∧ W.cell? ⟨g, k * 4 + 3, none⟩ = some (.int .i64 x.left) ∧ ∀ i, W.frozen? ⟨g, i, none⟩ = false := by
  have hc : ∀ j u, (wk4 x)[j]? = some u → W.cell? ⟨g, k * 4 + j, none⟩ = some u := fun j u hu => by
    have := h.cells (g := g) rfl (k * 4 + j) u (by rw [fl_at wk4_len l k x j hk (by have := (List.getElem?_eq_some_iff.1 hu).1; simpa [wk4] using this)]; exact hu)
    rwa [Addr.add_lit, Nat.zero_add] at this
  refine ⟨hc 0 _ rfl, hc 1 _ rfl, hc 2 _ rfl, hc 3 _ rfl, fun i => ?_⟩
  obtain ⟨cur, hcu⟩ := own_tag h (q := g) rfl
  simp [World.frozen?, hcu]
theorem own_cap' {w : World} {base size n cap : Nat} {a : Option Addr} {e : TypeId} {xs : List Value} (h : w.ownsRow base e size (.slice a n cap) n xs) : n ≤ cap := by
  rcases h.2 with ⟨h1, h2⟩ | ⟨g, c, cur, h1, _, _, h3, _⟩
  · omega
  · have := (Value.slice.inj h1).2.2
    omega
def ixI (l : List Tn) (nm : List UInt8) : Int := match ixT l nm with | some k => (k : Int) | none => -1
theorem rts_at {m : List Rt} {i : Nat} {r : Rt} (h : m[i]? = some r) : (rts m)[i]? = some r.t := by unfold rts; rw [List.getElem?_map, h]; rfl
theorem rts_of {m : List Rt} {i : Nat} {t : Tn} (h : (rts m)[i]? = some t) : ∃ r, m[i]? = some r ∧ r.t = t := by
  unfold rts at h
  rw [List.getElem?_map] at h
  obtain ⟨r, h1, h2⟩ := Option.map_eq_some_iff.1 h
  exact ⟨r, h1, h2⟩
set_option maxRecDepth 20000 in
set_option maxHeartbeats 4000000 in
theorem rfind_any {T base : Nat} {lv : Value} {m : List Rt} {clk : Int} {srv : List UInt8} {busy : Bool} (nm : List UInt8) (w : World) (h : RS w T base lv m clk srv busy) (hl : m.length ≤ 16) :
    Calls Try.prog 59 #[.pointer (some ⟨T, 0, none⟩), .string (tx nm)] w fun e w' => e = .returned (.int .i64 (ixI (rts m) nm)) ∧ w' = w := by
  obtain ⟨sa, cap, hsv⟩ := own_slice h.row
  have HT : Hid (RS w T base lv m clk srv busy) := h
  subst hsv
  have c0 := h.cells.1
  obtain ⟨n, hn⟩ : ∃ n, m.length = n := ⟨_, rfl⟩
  have HN : Hid (m.length = n) := hn
  rw [hn] at c0 hl
  have hl' : (n : Int) ≤ 16 := by omega
  clear h hn hl
  go_enter Try.func59, Try.ntmps59
  go_wp2_with fail
  go_loopw [5] (fun v wr => wr = w ∧ ∃ k : Nat, k ≤ n ∧ v = .int .i64 k ∧ (∀ (j : Nat) (p : Rt), j < k → m[j]? = some p → p.t.nm ≠ nm)) (fun v wr => n - (intOf v).toNat)
  case atStart => exact ⟨rfl, 0, by omega, rfl, fun j p hj => (Nat.not_lt_zero _ hj).elim⟩
  case round =>
    obtain ⟨rfl, k, hk, rfl, hD⟩ := hrel
    have HD : Hid (∀ (j : Nat) (p : Rt), j < k → m[j]? = some p → p.t.nm ≠ nm) := hD
    clear hD
    by_cases hlt : k < n
    · have hlt' : (k : Int) < (n : Int) := by omega
      obtain ⟨s, hs⟩ : ∃ s, m[k]? = some s := ⟨_, List.getElem?_eq_getElem (by have := HN.out; omega)⟩
      have HS : Hid (m[k]? = some s) := hs
      obtain ⟨g, cp, hv⟩ := own_form HT.out.row (by have := HN.out; omega)
      have hsa : sa = some ⟨g, 0, none⟩ := (Value.slice.inj hv).1
      subst hsa
      have e0 := (own_rt HT.out.row hs).1
      have hcap : (n : Int) ≤ (cap : Int) := by have := own_cap HT.out.row; have := HN.out; omega
      clear hs hv
      by_cases hq : s.t.nm = nm
      · have HE : Hid (ixI (rts m) nm = (k : Int)) := by
          show _ = _
          unfold ixI
          rw [ixT_hit (rts m) nm k s.t (fun j p hj hp => by obtain ⟨r, h1, rfl⟩ := rts_of hp; exact HD.out j r hj h1) (rts_at HS.out) hq]
        rw [hq] at e0
        clear hq
        go_wp2_with fail
        go_ret
        exact ⟨by rw [HE.out]; rfl, rfl⟩
      · have HN2 : Hid (∀ (j : Nat) (p : Rt), j < k + 1 → m[j]? = some p → p.t.nm ≠ nm) := by
          intro j p hj hp
          rcases (show j = k ∨ j < k from by omega) with rfl | h
          · rw [HS.out] at hp
            rw [← Option.some.inj hp]
            exact hq
          · exact HD.out j p h hp
        have hq' : ((tx s.t.nm).toList == (tx nm).toList) = false := by rw [tx_list, tx_list]; simpa using hq
        clear hq
        go_wp2_with fail
        go_roundw
        case rel => exact ⟨by trivial, k + 1, by omega, by go_num, HN2.out⟩
        case measure => simp [intOf]; omega
    · have hge : ¬ ((k : Int) < (n : Int)) := by omega
      have HE : Hid (ixI (rts m) nm = -1) := by
        show _ = _
        unfold ixI
        rw [ixT_miss (rts m) nm fun t ht => by
          obtain ⟨r, hr, rfl⟩ := List.mem_map.1 ht
          obtain ⟨j, hj⟩ := List.getElem?_of_mem hr
          exact HD.out j r (by have := (List.getElem?_eq_some_iff.1 hj).1; have := HN.out; omega) hj]
      clear hlt
      go_wp2_with fail
      go_ret
      exact ⟨by rw [HE.out]; rfl, rfl⟩
theorem sum_take {f : Rt → Int} {m : List Rt} {i : Nat} {x : Rt} (h : m[i]? = some x) : ((m.take (i + 1)).map f).sum = ((m.take i).map f).sum + f x := by
  have : m.take (i + 1) = m.take i ++ [x] := by
    rw [List.take_add_one, h]
    rfl
  rw [this]
  simp
theorem sum_bd {f : Rt → Int} {m : List Rt} (h : ∀ r ∈ m, 0 ≤ f r ∧ f r ≤ 16) : 0 ≤ (m.map f).sum ∧ (m.map f).sum ≤ 16 * (m.length : Int) := by
  induction m with
  | nil => simp
  | cons x r ih =>
    have h1 := h x (by simp)
    have h2 := ih fun y hy => h y (by simp [hy])
    simp only [List.map_cons, List.sum_cons, List.length_cons]
    omega
set_option maxRecDepth 20000 in
set_option maxHeartbeats 4000000 in
theorem rleft_any {T base : Nat} {lv : Value} {m : List Rt} {clk : Int} {srv : List UInt8} {busy : Bool} (w : World) (h : RS w T base lv m clk srv busy) (hl : m.length ≤ 16) (hq : ∀ r ∈ m, r.t.ws.length ≤ 16) :
    Calls Try.prog 60 #[.pointer (some ⟨T, 0, none⟩)] w fun e w' => e = .returned (.int .i64 (m.map fun r => (r.t.ws.length : Int)).sum) ∧ w' = w := by
  obtain ⟨sa, cap, hsv⟩ := own_slice h.row
  have HT : Hid (RS w T base lv m clk srv busy) := h
  have HQ : Hid (∀ r ∈ m, r.t.ws.length ≤ 16) := hq
  subst hsv
  have c0 := h.cells.1
  obtain ⟨n, hn⟩ : ∃ n, m.length = n := ⟨_, rfl⟩
  have HN : Hid (m.length = n) := hn
  rw [hn] at c0 hl
  have hl' : (n : Int) ≤ 16 := by omega
  clear h hn hl hq
  go_enter Try.func60, Try.ntmps60
  go_wp2_with fail
  go_loopw [3, 4] (fun u v wr => wr = w ∧ ∃ k : Nat, k ≤ n ∧ v = .int .i64 k ∧ u = .int .i64 ((m.take k).map fun r => (r.t.ws.length : Int)).sum) (fun u v wr => n - (intOf v).toNat)
  case atStart => exact ⟨rfl, 0, by omega, rfl, rfl⟩
  case round =>
    obtain ⟨rfl, k, hk, rfl, rfl⟩ := hrel
    by_cases hlt : k < n
    · have hlt' : (k : Int) < (n : Int) := by omega
      obtain ⟨s, hs⟩ : ∃ s, m[k]? = some s := ⟨_, List.getElem?_eq_getElem (by have := HN.out; omega)⟩
      obtain ⟨g, cp, hv⟩ := own_form HT.out.row (by have := HN.out; omega)
      have hsa : sa = some ⟨g, 0, none⟩ := (Value.slice.inj hv).1
      subst hsa
      have e0 := (own_rt HT.out.row hs).2.2.2.1
      have hcap : (n : Int) ≤ (cap : Int) := by have := own_cap HT.out.row; have := HN.out; omega
      have hsl : (s.t.ws.length : Int) ≤ 16 := by have := HQ.out s (List.mem_of_getElem? hs); omega
      have hb := sum_bd (f := fun r => (r.t.ws.length : Int)) (m := m.take k) fun r hr => by have := HQ.out r (List.mem_of_mem_take hr); omega
      have hln : ((m.take k).length : Int) ≤ 16 := by rw [List.length_take]; omega
      have HS : Hid (((m.take (k + 1)).map fun r => (r.t.ws.length : Int)).sum = ((m.take k).map fun r => (r.t.ws.length : Int)).sum + (s.t.ws.length : Int)) := sum_take hs
      generalize ((m.take k).map fun r => (r.t.ws.length : Int)).sum = S at *
      obtain ⟨b0, b1⟩ := hb
      have b2 : S ≤ 256 := by omega
      clear hs hv b1 hln
      go_wp2_with fail
      go_roundw
      case rel => exact ⟨by trivial, k + 1, by omega, by go_num, by rw [HS.out]⟩
      case measure => simp [intOf]; omega
    · have hge : ¬ ((k : Int) < (n : Int)) := by omega
      have hE : m.take k = m := List.take_of_length_le (by have := HN.out; omega)
      rw [hE]
      clear hlt hE
      go_wp2_with fail
      go_ret
      exact ⟨rfl, rfl⟩
set_option maxRecDepth 20000 in
set_option maxHeartbeats 4000000 in
theorem rwts_any {T base : Nat} {lv : Value} {m : List Rt} {clk : Int} {srv : List UInt8} {busy : Bool} (w : World) (h : RS w T base lv m clk srv busy) (hl : m.length ≤ 16) (hq : ∀ r ∈ m, 0 ≤ r.t.wt ∧ r.t.wt ≤ 16) :
    Calls Try.prog 36 #[.pointer (some ⟨T, 0, none⟩)] w fun e w' => e = .returned (.tuple #[.int .i64 (m.map fun r => r.t.wt).sum, .int .i64 (m.length : Int)]) ∧ ∃ k, w' = w.drewN k := by
  obtain ⟨sa, cap, hsv⟩ := own_slice h.row
  have HT : Hid (RS w T base lv m clk srv busy) := h
  have HQ : Hid (∀ r ∈ m, 0 ≤ r.t.wt ∧ r.t.wt ≤ 16) := hq
  subst hsv
  have c0 := h.cells.1
  obtain ⟨n, hn⟩ : ∃ n, m.length = n := ⟨_, rfl⟩
  have HN : Hid (m.length = n) := hn
  rw [hn] at c0 hl ⊢
  have hl' : (n : Int) ≤ 16 := by omega
  clear h hn hl hq
  go_enter Try.func36, Try.ntmps36
  go_wp2_with fail
  go_loopw [4, 5] (fun u v wr => wr = w ∧ ∃ k : Nat, k ≤ n ∧ v = .int .i64 k ∧ u = .int .i64 ((m.take k).map fun r => r.t.wt).sum) (fun u v wr => n - (intOf v).toNat)
  case atStart => exact ⟨rfl, 0, by omega, rfl, rfl⟩
  case round =>
    obtain ⟨rfl, k, hk, rfl, rfl⟩ := hrel
    by_cases hlt : k < n
    · have hlt' : (k : Int) < (n : Int) := by omega
      obtain ⟨s, hs⟩ : ∃ s, m[k]? = some s := ⟨_, List.getElem?_eq_getElem (by have := HN.out; omega)⟩
      obtain ⟨g, cp, hv⟩ := own_form HT.out.row (by have := HN.out; omega)
      have hsa : sa = some ⟨g, 0, none⟩ := (Value.slice.inj hv).1
      subst hsa
      have e0 := (own_rt HT.out.row hs).2.1
      have hcap : (n : Int) ≤ (cap : Int) := by have := own_cap HT.out.row; have := HN.out; omega
      obtain ⟨hs0, hs1⟩ := HQ.out s (List.mem_of_getElem? hs)
      have hb := sum_bd (f := fun r => r.t.wt) (m := m.take k) fun r hr => HQ.out r (List.mem_of_mem_take hr)
      have hln : ((m.take k).length : Int) ≤ 16 := by rw [List.length_take]; omega
      have HS : Hid (((m.take (k + 1)).map fun r => r.t.wt).sum = ((m.take k).map fun r => r.t.wt).sum + s.t.wt) := sum_take hs
      generalize ((m.take k).map fun r => r.t.wt).sum = S at *
      obtain ⟨b0, b1⟩ := hb
      have b2 : S ≤ 256 := by omega
      clear hs hv b1 hln
      go_wp2_with fail
      go_roundw
      case rel => exact ⟨by trivial, k + 1, by omega, by go_num, by rw [HS.out]⟩
      case measure => simp [intOf]; omega
    · have hge : ¬ ((k : Int) < (n : Int)) := by omega
      have hE : m.take k = m := List.take_of_length_le (by have := HN.out; omega)
      rw [hE]
      clear hlt hE
      go_wp2_with fail
      go_quiet (fail)
      go_wp2_with fail
      go_ret2
      exact ⟨rfl, _, rfl⟩
end Go.Proofs.Ytfndbllpnkhlhaa
