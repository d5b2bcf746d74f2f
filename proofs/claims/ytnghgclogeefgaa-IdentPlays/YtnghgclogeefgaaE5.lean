/- The model's table: sessions whose time is over go. -/
import Derived.Test.YtnghgclogeefgaaE4
namespace Go.Proofs.Ytnghgclogeefgaa
open Go.RowKit
set_option linter.unusedVariables false
set_option linter.unusedSimpArgs false

theorem own_low {w : World} {base base' size n : Nat} {e : TypeId} {v : Value} {xs : List Value} (h : w.ownsRow base e size v n xs) (hb : base' ≤ base) : w.ownsRow base' e size v n xs :=
  ⟨h.1, h.2.imp id fun ⟨g, cap, cur, hv, hg, hc, r⟩ => ⟨g, cap, cur, hv, by omega, hc, r⟩⟩
set_option maxRecDepth 20000 in
set_option maxHeartbeats 4000000 in
theorem rexpire_kg (T base : Nat) (last : Int) (sv : Value) (ss : List Se) (now : Int) (w : World) (h : RTb w T base last sv ss) (hl : ss.length ≤ 64) (hbs : base ≤ w.heap.size) :
    Calls Try.prog 27 #[.pointer (some ⟨T, 0, none⟩), .int .i64 now] w fun e w' => e = .returned (.int .i64 ((ss.length : Int) - ((exI ss now).length : Int))) ∧ (∃ sv', RTb w' T base last sv' (exI ss now)) ∧ Below base w w' ∧ Kg 39 70 w w' := by
  have HT : Hid (RTb w T base last sv ss) := h
  have HBS : Hid (base ≤ w.heap.size) := hbs
  obtain ⟨sa, cap, e⟩ := own_slice h.row
  subst e
  obtain ⟨n, hn⟩ : ∃ n, ss.length = n := ⟨_, rfl⟩
  have HN : Hid (ss.length = n) := hn
  rw [hn]
  have h64 : (n : Int) ≤ 64 := by omega
  have HTL : Hid (T < w.heap.size) := (Array.getElem?_eq_some_iff.1 h.tab).1
  clear h hbs hl hn
  go_enter Try.func27, Try.ntmps27
  go_wp2_with fail
  go_loopw [5, 6] (fun l i wr => ∃ k : Nat, k ≤ n ∧ i = .int .i64 (k : Int) ∧ wr.ownsRow w.heap.size 70 5 l (exI (ss.take k) now).length (seL (exI (ss.take k) now)) ∧ Below w.heap.size w wr) (fun l i wr => n - (intOf i).toNat)
  case atStart => exact ⟨0, by omega, rfl, World.ownsRow_nil _ _ _ _, Below.refl _ _⟩
  case round =>
    obtain ⟨k, hk, rfl, hrow, hbel⟩ := hrel
    have HR : Hid (wr.ownsRow w.heap.size 70 5 u5 (exI (ss.take k) now).length (seL (exI (ss.take k) now)) ∧ Below w.heap.size w wr) := ⟨hrow, hbel⟩
    have HTW : Hid (RTb wr T base last (.slice sa ss.length cap) ss) := HT.out.later hbel (Nat.le_refl _)
    clear hrow hbel
    have d0 : wr.cell? ⟨T, 0, none⟩ = some (.slice sa n cap) := by rw [cell_of_row _ _ _ _ _ _ HTW.out.tab, HN.out]; rfl
    by_cases hlt : k < n
    · have hlt' : (k : Int) < (n : Int) := by omega
      obtain ⟨s, hs⟩ : ∃ s, ss[k]? = some s := ⟨_, List.getElem?_eq_getElem (by have := HN.out; omega)⟩
      have HS : Hid (ss[k]? = some s) := hs
      obtain ⟨g, cp, hv⟩ := own_form HTW.out.row (by have := HN.out; omega)
      have hsa : sa = some ⟨g, 0, none⟩ := (Value.slice.inj hv).1
      subst hsa
      obtain ⟨c0, c1, c2, c3, c4⟩ := rown_sc HTW.out.row hs
      have hcap : (n : Int) ≤ (cap : Int) := by have := own_cap HTW.out.row; have := HN.out; omega
      clear hs hv
      by_cases ht : s.til ≤ now
      · have HSN : Hid (exI (ss.take (k + 1)) now = exI (ss.take k) now) := by show _ = _; rw [exI_snoc ss now k s HS.out, if_pos ht, List.append_nil]
        have ht' : ¬ now < s.til := by omega
        clear ht
        go_wp2_with fail
        go_roundw
        case rel => exact ⟨k + 1, by omega, by go_num, by rw [HSN.out]; exact HR.out.1, HR.out.2⟩
        case measure => simp [intOf]; omega
      · have HSN : Hid (exI (ss.take (k + 1)) now = exI (ss.take k) now ++ [s]) := by show _ = _; rw [exI_snoc ss now k s HS.out, if_neg ht]
        have ht' : now < s.til := by omega
        have HLL : Hid ((exI (ss.take k) now).length ≤ 64) := by have h1 := exI_len (ss.take k) now; rw [List.length_take] at h1; show _ ≤ _; omega
        have HWS : Hid (w.heap.size ≤ wr.heap.size) := HR.out.2.size
        clear ht
        go_wp2_with (at_builtin; (refine wpList_append_se rfl (.tmp 27) (.tmp 35) rfl w.heap.size u5 (exI (ss.take k) now).length (seL (exI (ss.take k) now)) rfl wr HR.out.1 s rfl rfl (by have := HLL.out; omega) HWS.out ?_; intro g9 c9 w9 ho9 hg9 _; (have HO9 : Hid (w9.ownsRow w.heap.size 70 5 (.slice (some ⟨g9, 0, none⟩) ((exI (ss.take k) now).length + 1) c9) ((exI (ss.take k) now).length + 1) (seL (exI (ss.take k) now) ++ se5 s) ∧ wr.grownBy w9 u5.ownBlock) := ⟨ho9, hg9⟩); clear ho9 hg9))
        go_roundw
        case rel =>
          have hg := HO9.out.2
          refine ⟨k + 1, by omega, by go_num, ?_, HR.out.2.trans ⟨hg.os, hg.tape, hg.output, hg.size, fun q hq => hg.block q (by have := HWS.out; omega) (fun e => by have := (HR.out.1.lt q e.symm).1; omega)⟩⟩
          rw [HSN.out, List.length_append, seL_app]
          simpa [seL] using HO9.out.1
        case measure => simp [intOf]; omega
    · have hkn : k = n := by omega
      have hge : ¬ ((k : Int) < (n : Int)) := by omega
      have htk : ss.take k = ss := by rw [hkn, ← HN.out, List.take_length]
      rw [htk] at HR
      obtain ⟨xa, xc, hu5⟩ := own_slice HR.out.1
      subst hu5
      have hlen := exI_len ss now
      have hl2 : ((exI ss now).length : Int) ≤ (n : Int) := by have := HN.out; omega
      have f0 : wr.frozen? ⟨T, 0, none⟩ = false := frozen_of_row _ _ 0 _ _ HTW.out.tab
      generalize hm : (exI ss now).length = m at HR hl2
      have HM : Hid ((exI ss now).length = m) := hm
      clear hlt hkn htk hlen hm
      go_wp2_with fail
      go_ret
      have hlo := HT.out.low
      refine ⟨by rw [HM.out]; rfl, ⟨.slice xa m xc, row_set _ HTW.out.tab, ?_, hlo⟩, ((HR.out.2.mono HBS.out)).setCell hlo _, ?_⟩
      · rw [HM.out]
        exact own_low (own_at HR.out.1 fun q hq => Below.heap_setCell _ _ _ _ (by have := (HR.out.1.lt q hq).1; have := HTL.out; show q ≠ T; omega)) HBS.out
      · refine (Kg.of HR.out.2 (Nat.le_refl _)).trans ?_
        intro p cc t f hp n1 n2
        exact Below.heap_setCell _ _ _ _ (ne_tag hp HTW.out.tab n1)
end Go.Proofs.Ytnghgclogeefgaa
