/- The model's rest and Drop. -/
import Derived.Test.YtfndbllpnkhlhaaRb
namespace Go.Proofs.Ytfndbllpnkhlhaa
open Go.RowKit
set_option linter.unusedVariables false
set_option linter.unusedSimpArgs false

def upTo (z : Rt → Rt) (k : Nat) (m : List Rt) : List Rt := (m.take k).map z ++ m.drop k
theorem upTo_len (z : Rt → Rt) (k : Nat) (m : List Rt) : (upTo z k m).length = m.length := by
  unfold upTo
  rw [List.length_append, List.length_map, List.length_take, List.length_drop]
  omega
theorem upTo_at (z : Rt → Rt) {k : Nat} {m : List Rt} {r : Rt} (h : m[k]? = some r) : (upTo z k m)[k]? = some r := by
  have hk := (List.getElem?_eq_some_iff.1 h).1
  unfold upTo
  rw [List.getElem?_append_right (by simp; omega), List.length_map, List.length_take, Nat.min_eq_left (by omega), Nat.sub_self, List.getElem?_drop]
  simpa using h
theorem upTo_next (z : Rt → Rt) {k : Nat} {m : List Rt} {r : Rt} (h : m[k]? = some r) : upTo z (k + 1) m = (upTo z k m).set k (z r) := by
  have hk := (List.getElem?_eq_some_iff.1 h).1
  have e1 : m.take (k + 1) = m.take k ++ [r] := by
    rw [List.take_add_one, h]
    rfl
  have e2 : m.drop k = r :: m.drop (k + 1) := by
    rw [List.drop_eq_getElem_cons hk]
    rw [(List.getElem?_eq_some_iff.1 h).2]
  unfold upTo
  rw [e1, e2, List.set_append_right _ _ (by simp; omega), List.length_map, List.length_take, Nat.min_eq_left (by omega), Nat.sub_self]
  simp
theorem upTo_all (z : Rt → Rt) {k : Nat} {m : List Rt} (h : m.length ≤ k) : upTo z k m = m.map z := by
  unfold upTo
  rw [List.take_of_length_le h, List.drop_of_length_le h, List.append_nil]
theorem upTo_zero (z : Rt → Rt) (m : List Rt) : upTo z 0 m = m := by simp [upTo]
def zrt (r : Rt) : Rt := { r with t := z0 r.t }
variable {T base : Nat} {lv : Value} {m : List Rt} {clk clk' : Int} {srv srv' : List UInt8} {busy busy' : Bool}
/-- One cell of one tenant is turned. -/
theorem RS.put1 {w : World} {g n cap k j : Nat} {r x : Rt} {v : Value} (h : RS w T base (.slice (some ⟨g, 0, none⟩) n cap) m clk srv busy) (hn : n = m.length) (hk : m[k]? = some r) (hj : j < 4) (hx : rt4 x = (rt4 r).set j v) (hq : (x.v = r.v ∧ x.t.ws = r.t.ws) ∨ (x.v = .slice none 0 0 ∧ x.t.ws = [])) : RS (w.setCell ⟨g, k * 4 + j, none⟩ v) T base (.slice (some ⟨g, 0, none⟩) n cap) (m.set k x) clk srv busy ∧ Km base w (w.setCell ⟨g, k * 4 + j, none⟩ v) := by
  have hil := (List.getElem?_eq_some_iff.1 hk).1
  have hne := h.ne
  have hgT : g ≠ T := hne.1 g rfl
  obtain ⟨cur, hcur⟩ := own_tag h.row (q := g) rfl
  subst hn
  have hrow := own_set (i := k * 4 + j) h.row (by rw [fl_len rt4_len]; omega) v
  rw [← fl_set1 rt4_len m k r x j v hk hj hx] at hrow
  refine ⟨h.turn hk ((Below.heap_setCell _ _ _ _ (fun e => hgT e.symm)).trans h.box) (by rw [List.length_set]; exact hrow) ?_ (fun i q r' hi hr' hq' => Below.heap_setCell _ _ _ _ fun e => (hne.2 r' (List.mem_of_getElem? hr') q hq').2 (by have e' : q = g := e; rw [e']; rfl)) ?_, (Km.refl base w).cell hcur (by decide) (h.row.lt g rfl).1 v⟩
  · rcases hq with ⟨e1, e2⟩ | ⟨e1, e2⟩
    · rw [e1, e2]
      exact own_at (h.que r (List.mem_of_getElem? hk)) fun q hq' => Below.heap_setCell _ _ _ _ fun e => (hne.2 r (List.mem_of_getElem? hk) q hq').2 (by have e' : q = g := e; rw [e']; rfl)
    · rw [e1, e2]
      exact World.ownsRow_nil _ _ _ _
  · rcases hq with ⟨e1, _⟩ | ⟨e1, _⟩
    · exact .inl fun q hq' => by rw [← e1]; exact hq'
    · exact .inl fun q hq' => by rw [e1] at hq'; cases hq'
theorem RS.own1 {w : World} {i : Nat} {v : Value} (h : RS w T base lv m clk srv busy) (hb : (w.setCell ⟨T, i, none⟩ v).heap[T]? = some (.cells #[lv, .int .i64 clk', .string (tx srv'), .bool busy'] 39 (0, 0))) : RS (w.setCell ⟨T, i, none⟩ v) T base lv m clk' srv' busy' ∧ Km base w (w.setCell ⟨T, i, none⟩ v) := by
  have hne := h.ne
  refine ⟨⟨hb, own_at h.row fun q hq => Below.heap_setCell _ _ _ _ (hne.1 q hq), fun r hr => own_at (h.que r hr) fun q hq => Below.heap_setCell _ _ _ _ (hne.2 r hr q hq).1, h.dis, h.hT⟩, (Km.refl base w).cell h.box (by decide) h.hT v⟩
theorem RS.clk0 {w : World} (h : RS w T base lv m clk srv busy) (x : Int) : RS (w.setCell ⟨T, 1, none⟩ (.int .i64 x)) T base lv m x srv busy ∧ Km base w (w.setCell ⟨T, 1, none⟩ (.int .i64 x)) := h.own1 (by rw [row_set _ h.box]; rfl)
theorem RS.srv0 {w : World} (h : RS w T base lv m clk srv busy) (x : List UInt8) : RS (w.setCell ⟨T, 2, none⟩ (.string (tx x))) T base lv m clk x busy ∧ Km base w (w.setCell ⟨T, 2, none⟩ (.string (tx x))) := h.own1 (by rw [row_set _ h.box]; rfl)
theorem RS.bsy0 {w : World} (h : RS w T base lv m clk srv busy) (x : Bool) : RS (w.setCell ⟨T, 3, none⟩ (.bool x)) T base lv m clk srv x ∧ Km base w (w.setCell ⟨T, 3, none⟩ (.bool x)) := h.own1 (by rw [row_set _ h.box]; rfl)
set_option maxRecDepth 20000 in
set_option maxHeartbeats 4000000 in
theorem rrest_any (w : World) (h : RS w T base lv m clk srv busy) (hl : m.length ≤ 16) :
    Calls Try.prog 61 #[.pointer (some ⟨T, 0, none⟩)] w fun e w' => (∃ v, e = .returned v) ∧ RS w' T base lv (m.map zrt) 0 srv busy ∧ Km base w w' := by
  obtain ⟨sa, cap, hsv⟩ := own_slice h.row
  obtain ⟨W, hW⟩ : ∃ W, w.setCell ⟨T, 1, none⟩ (.int .i64 0) = W := ⟨_, rfl⟩
  have HW : Hid (RS W T base lv m 0 srv busy ∧ Km base w W) := by rw [← hW]; exact h.clk0 0
  have c1 := h.cells.2.1
  have f1 := h.cells.2.2.2.2 1
  subst hsv
  obtain ⟨n, hn⟩ : ∃ n, m.length = n := ⟨_, rfl⟩
  have HN : Hid (m.length = n) := hn
  rw [hn] at hl HW ⊢
  have hl' : (n : Int) ≤ 16 := by omega
  clear h hn hl
  go_enter Try.func61, Try.ntmps61
  go_wp2_with fail
  try rw [hW]
  clear hW
  go_loopw [2] (fun v wr => ∃ k : Nat, k ≤ n ∧ v = .int .i64 k ∧ RS wr T base (.slice sa n cap) (upTo zrt k m) 0 srv busy ∧ Km base w wr) (fun v wr => n - (intOf v).toNat)
  case atStart => exact ⟨0, by omega, rfl, by rw [upTo_zero]; exact HW.out.1, HW.out.2⟩
  case round =>
    obtain ⟨k, hk, rfl, hS, hK⟩ := hrel
    have HR : Hid (RS wr T base (.slice sa n cap) (upTo zrt k m) 0 srv busy ∧ Km base w wr) := ⟨hS, hK⟩
    have c0 := hS.cells.1
    by_cases hlt : k < n
    · have hlt' : (k : Int) < (n : Int) := by omega
      obtain ⟨s, hs⟩ : ∃ s, m[k]? = some s := ⟨_, List.getElem?_eq_getElem (by have := HN.out; omega)⟩
      have hul : (upTo zrt k m).length = n := (upTo_len _ _ _).trans HN.out
      obtain ⟨g, cp, hv⟩ := own_form hS.row (by omega)
      have hsa : sa = some ⟨g, 0, none⟩ := (Value.slice.inj hv).1
      subst hsa
      have hrt := own_rt hS.row (upTo_at zrt hs)
      have e2 := hrt.2.2.1
      have f2 := hrt.2.2.2.2 (k * 4 + 2)
      have hcap : (n : Int) ≤ (cap : Int) := by have h1 := hS.row; rw [hul] at h1; have := own_cap h1; omega
      have HX : Hid (RS (wr.setCell ⟨g, k * 4 + 2, none⟩ (.int .i64 0)) T base (.slice (some ⟨g, 0, none⟩) n cap) (upTo zrt (k + 1) m) 0 srv busy ∧ Km base w (wr.setCell ⟨g, k * 4 + 2, none⟩ (.int .i64 0))) := by
        obtain ⟨k1, k2⟩ := HR.out.1.put1 (x := zrt s) (j := 2) (v := .int .i64 0) hul.symm (upTo_at zrt hs) (by omega) rfl (.inl ⟨rfl, rfl⟩)
        rw [upTo_next zrt hs]
        exact ⟨k1, HR.out.2.trans k2⟩
      clear hS hK hs hv hrt hul
      go_wp2_with fail
      go_roundw
      case rel => exact ⟨k + 1, by omega, by go_num, HX.out.1, HX.out.2⟩
      case measure => simp [intOf]; omega
    · have hge : ¬ ((k : Int) < (n : Int)) := by omega
      have HE : Hid (upTo zrt k m = m.map zrt) := upTo_all zrt (by have := HN.out; omega)
      clear hlt hS hK
      go_wp2_with fail
      go_end0
      rw [← HE.out]
      exact ⟨⟨_, rfl⟩, HR.out.1, HR.out.2⟩
def drt (r : Rt) : Rt := ⟨{ r.t with ws := [] }, none, 0⟩
set_option maxRecDepth 20000 in
set_option maxHeartbeats 4000000 in
theorem rdrop_any (w : World) (h : RS w T base lv m clk srv busy) (hl : m.length ≤ 16) (hq : ∀ r ∈ m, r.t.ws.length ≤ 16) :
    Calls Try.prog 34 #[.pointer (some ⟨T, 0, none⟩)] w fun e w' => e = .returned (.int .i64 (m.map fun r => (r.t.ws.length : Int)).sum) ∧ RS w' T base lv ((m.map drt).map zrt) 0 srv false ∧ Km base w w' := by
  have HL : Hid (Calls Try.prog 60 #[.pointer (some ⟨T, 0, none⟩)] w fun e w' => e = .returned (.int .i64 (m.map fun r => (r.t.ws.length : Int)).sum) ∧ w' = w) := rleft_any w h hl hq
  obtain ⟨sa, cap, hsv⟩ := own_slice h.row
  subst hsv
  have HW : Hid (RS w T base (.slice sa m.length cap) m clk srv busy) := h
  obtain ⟨n, hn⟩ : ∃ n, m.length = n := ⟨_, rfl⟩
  have HN : Hid (m.length = n) := hn
  generalize (m.map fun r => (r.t.ws.length : Int)).sum = S at *
  rw [hn] at hl HW ⊢
  have hl' : (n : Int) ≤ 16 := by omega
  clear h hn hl hq
  go_enter Try.func34, Try.ntmps34
  go_wp2_with (go_at_call 60; refine HL.out.mono ?_; rintro e w1 ⟨rfl, hw1⟩; rw [hw1]; clear hw1)
  go_loopw [4] (fun v wr => ∃ k : Nat, k ≤ n ∧ v = .int .i64 k ∧ RS wr T base (.slice sa n cap) (upTo drt k m) clk srv busy ∧ Km base w wr) (fun v wr => n - (intOf v).toNat)
  case atStart => exact ⟨0, by omega, rfl, by rw [upTo_zero]; exact HW.out, Km.refl _ _⟩
  case round =>
    obtain ⟨k, hk, rfl, hS, hK⟩ := hrel
    have HR : Hid (RS wr T base (.slice sa n cap) (upTo drt k m) clk srv busy ∧ Km base w wr) := ⟨hS, hK⟩
    have c0 := hS.cells.1
    by_cases hlt : k < n
    · have hlt' : (k : Int) < (n : Int) := by omega
      obtain ⟨s, hs⟩ : ∃ s, m[k]? = some s := ⟨_, List.getElem?_eq_getElem (by have := HN.out; omega)⟩
      have hul : (upTo drt k m).length = n := (upTo_len _ _ _).trans HN.out
      obtain ⟨g, cp, hv⟩ := own_form hS.row (by omega)
      have hsa : sa = some ⟨g, 0, none⟩ := (Value.slice.inj hv).1
      subst hsa
      have hrt := own_rt hS.row (upTo_at drt hs)
      have e2 := hrt.2.2.2.1
      have f2 := hrt.2.2.2.2 (k * 4 + 3)
      have hcap : (n : Int) ≤ (cap : Int) := by have h1 := hS.row; rw [hul] at h1; have := own_cap h1; omega
      have HX : Hid (RS (wr.setCell ⟨g, k * 4 + 3, none⟩ (.slice none 0 0)) T base (.slice (some ⟨g, 0, none⟩) n cap) (upTo drt (k + 1) m) clk srv busy ∧ Km base w (wr.setCell ⟨g, k * 4 + 3, none⟩ (.slice none 0 0))) := by
        obtain ⟨k1, k2⟩ := HR.out.1.put1 (x := drt s) (j := 3) (v := .slice none 0 0) hul.symm (upTo_at drt hs) (by omega) rfl (.inr ⟨rfl, rfl⟩)
        rw [upTo_next drt hs]
        exact ⟨k1, HR.out.2.trans k2⟩
      clear hS hK hs hv hrt hul
      go_wp2_with fail
      go_roundw
      case rel => exact ⟨k + 1, by omega, by go_num, HX.out.1, HX.out.2⟩
      case measure => simp [intOf]; omega
    · have hge : ¬ ((k : Int) < (n : Int)) := by omega
      have hE : upTo drt k m = m.map drt := upTo_all drt (by have := HN.out; omega)
      rw [hE] at HR hS
      have c3 := hS.cells.2.2.2.1
      have f3 := hS.cells.2.2.2.2 3
      have HB := hS.bsy0 false
      have HRe : Hid (Calls Try.prog 61 #[.pointer (some ⟨T, 0, none⟩)] (wr.setCell ⟨T, 3, none⟩ (.bool false)) fun e w' => (∃ v, e = .returned v) ∧ RS w' T base (.slice sa n cap) ((m.map drt).map zrt) 0 srv false ∧ Km base w w') := (rrest_any _ HB.1 (by rw [List.length_map, HN.out]; omega)).mono fun e w' ⟨g1, g2, g3⟩ => ⟨g1, g2, (HR.out.2.trans HB.2).trans g3⟩
      clear hlt hS hK hE HB
      go_wp2_with (go_at_call 61; refine HRe.out.mono ?_; rintro e w2 ⟨⟨v, rfl⟩, hE⟩)
      go_ret
      exact ⟨rfl, hE.1, hE.2⟩
end Go.Proofs.Ytfndbllpnkhlhaa
