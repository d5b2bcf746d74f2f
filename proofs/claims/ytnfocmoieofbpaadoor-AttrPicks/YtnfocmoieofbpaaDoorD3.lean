/- Attributes of other keys: the model's Without. -/
import Derived.Test.YtnfocmoieofbpaaDoorD2
namespace Go.Proofs.YtnfocmoieofbpaaDoor
open Go.RowKit
set_option linter.unusedVariables false
set_option linter.unusedSimpArgs false

theorem Txs.drew {W : World} {sa : Option Addr} {cap : Nat} {l : List (List UInt8)} (h : Txs W sa cap l) : Txs W.drew sa cap l := ⟨h.cap, h.cells⟩
theorem mem_snoc (ks : List (List UInt8)) (j : Nat) (y a : List UInt8) (h : ks[j]? = some y) : (a ∈ ks.take (j + 1)) ↔ (a ∈ ks.take j ∨ y = a) := by
  obtain ⟨h1, h2⟩ := List.getElem?_eq_some_iff.1 h
  rw [List.take_succ_eq_append_getElem h1, h2, List.mem_append, List.mem_singleton]
  exact ⟨fun h => h.imp id Eq.symm, fun h => h.imp id Eq.symm⟩
set_option maxRecDepth 20000 in
set_option maxHeartbeats 8000000 in
theorem rwithout_any (sa sk : Option Addr) (ca ck : Nat) (l : List At) (ks : List (List UInt8)) (w : World) (hl : Ats w sa ca l) (hks : Txs w sk ck ks) (h1 : (l.length + 1 : Int) * 32 ≤ 140737488355328) (h2 : (ks.length : Int) ≤ 140737488351232) :
    Calls Tryd.prog 23 #[.slice sa l.length ca, .slice sk ks.length ck] w fun e w' => (∃ v, e = .returned v ∧ w'.ownsRow w.heap.size 45 2 v (woI l ks).length (atL (woI l ks))) ∧ Below w.heap.size w w' := by
  have HL : Hid (Ats w sa ca l ∧ Txs w sk ck ks) := ⟨hl, hks⟩
  obtain ⟨n, hn⟩ : ∃ n, l.length = n := ⟨_, rfl⟩
  have ca' : (n : Int) ≤ (ca : Int) := by have := hl.cap; omega
  have HN : Hid (l.length = n) := hn
  rw [hn] at h1 ⊢
  obtain ⟨nk, hnk⟩ : ∃ n, ks.length = n := ⟨_, rfl⟩
  have ck' : (nk : Int) ≤ (ck : Int) := by have := hks.cap; omega
  have HNK : Hid (ks.length = nk) := hnk
  rw [hnk] at h2 ⊢
  clear hn hl hks hnk
  go_enter Tryd.func23, Tryd.ntmps23
  go_wp2_with fail
  go_loopw [5, 6] (fun v i wr => ∃ k : Nat, k ≤ n ∧ i = .int .i64 (k : Int) ∧ wr.ownsRow w.heap.size 45 2 v (woI (l.take k) ks).length (atL (woI (l.take k) ks)) ∧ Below w.heap.size w wr) (fun v i wr => n - (intOf i).toNat)
  case atStart => exact ⟨0, by omega, rfl, World.ownsRow_nil _ _ _ _, Below.refl _ _⟩
  case round =>
    obtain ⟨k, hk, rfl, hrow, hbel⟩ := hrel
    obtain ⟨V, hV⟩ : ∃ V, V = wr := ⟨_, rfl⟩
    subst hV
    have HR : Hid (V.ownsRow w.heap.size 45 2 u5 (woI (l.take k) ks).length (atL (woI (l.take k) ks)) ∧ Below w.heap.size w V) := ⟨hrow, hbel⟩
    clear hrow hbel
    by_cases hlt : k < n
    · obtain ⟨x, hx⟩ : ∃ x, l[k]? = some x := ⟨_, List.getElem?_eq_getElem (by have := HN.out; omega)⟩
      obtain ⟨b, o, hsa, x0, x1⟩ := (HL.out.1.later HR.out.2).cells k x hx
      subst hsa
      have HX : Hid (l[k]? = some x) := hx
      have HXC : Hid (V.cell? ⟨b, o + k * 2, none⟩ = some (.string (tx x.1)) ∧ V.cell? ⟨b, o + k * 2 + 1, none⟩ = some (.string (tx x.2)) ∧ Txs V sk ck ks) := ⟨x0, x1, HL.out.2.later HR.out.2⟩
      have hlt' : (k : Int) < (n : Int) := by omega
      have k0 : (0 : Int) ≤ (k : Int) := by omega
      have HLL : Hid (((woI (l.take k) ks).length + 1) * 32 ≤ 140737488355328) := by have h1 := wo_len (l.take k) ks; rw [List.length_take] at h1; show _ ≤ _; omega
      clear hx x0 x1
      go_wp2_with fail
      go_loopw [7, 8] (fun v i wi => ∃ j : Nat, j ≤ nk ∧ i = .int .i64 (j : Int) ∧ v = .bool (decide (x.1 ∈ ks.take j)) ∧ Below V.heap.size V wi) (fun v i wr => nk - (intOf i).toNat)
      case atStart => exact ⟨0, by omega, rfl, by simp, Below.refl _ _⟩
      case round =>
        obtain ⟨j, hj, rfl, rfl, hbi⟩ := hrel
        have HBI : Hid (Below V.heap.size V wr) := hbi
        have hbl : b < V.heap.size := World.block_lt_of_cell? V _ HXC.out.1
        have x0 : wr.cell? ⟨b, o + k * 2, none⟩ = some (.string (tx x.1)) := (hbi.cell (p := ⟨b, o + k * 2, none⟩) hbl).trans HXC.out.1
        have x1 : wr.cell? ⟨b, o + k * 2 + 1, none⟩ = some (.string (tx x.2)) := (hbi.cell (p := ⟨b, o + k * 2 + 1, none⟩) hbl).trans HXC.out.2.1
        clear hbl hbi
        by_cases hjl : j < nk
        · obtain ⟨y, hy⟩ : ∃ y, ks[j]? = some y := ⟨_, List.getElem?_eq_getElem (by have := HNK.out; omega)⟩
          obtain ⟨d, p, hsk, y0⟩ := (HXC.out.2.2.later HBI.out).cells j y hy
          subst hsk
          have HSN : Hid ((x.1 ∈ ks.take (j + 1)) ↔ (x.1 ∈ ks.take j ∨ y = x.1)) := mem_snoc ks j y x.1 hy
          have hjl' : (j : Int) < (nk : Int) := by omega
          have j0 : (0 : Int) ≤ (j : Int) := by omega
          have hbq := tx_beq y x.1
          have e0 : wr.drew.cell? ⟨b, o + k * 2, none⟩ = some (.string (tx x.1)) := x0
          have e1 : wr.drew.cell? ⟨d, p + j, none⟩ = some (.string (tx y)) := y0
          clear hy
          by_cases hr : x.1 ∈ ks.take j
          · have HV2 : Hid (decide (x.1 ∈ ks.take (j + 1)) = true) := decide_eq_true (HSN.out.2 (.inl hr))
            rw [decide_eq_true hr]
            clear hr hbq
            go_upto_region 9 with fail
            refine wp_region_still_lit (by kernel_rfl) (by kernel_rfl) (still_of_quiet _ _ ?_)
            rw [show ({ wr with drawn := wr.drawn + 1 } : World) = wr.drew from rfl]
            repeat (first | go_big_quiet_skip | (go_big_quiet_want; go_big_quiet_op; go_big_quiet_on))
            refine wpQuiet_nil ?_
            go_wp2_with fail
            go_roundw
            case rel => exact ⟨j + 1, by omega, by go_num, by rw [HV2.out], HBI.out.drew⟩
            case measure => simp [intOf]; omega
          · rw [decide_eq_false hr]
            by_cases he : y = x.1
            · have HV2 : Hid (decide (x.1 ∈ ks.take (j + 1)) = true) := decide_eq_true (HSN.out.2 (.inr he))
              rw [decide_eq_true he] at hbq
              clear hr he
              go_upto_region 9 with fail
              refine wp_region_still_lit (by kernel_rfl) (by kernel_rfl) (still_of_quiet _ _ ?_)
              rw [show ({ wr with drawn := wr.drawn + 1 } : World) = wr.drew from rfl]
              repeat (first | go_big_quiet_skip | (go_big_quiet_want; go_big_quiet_op; go_big_quiet_on))
              refine wpQuiet_nil ?_
              go_wp2_with fail
              go_roundw
              case rel => exact ⟨j + 1, by omega, by go_num, by rw [HV2.out], HBI.out.drew⟩
              case measure => simp [intOf]; omega
            · have HV2 : Hid (decide (x.1 ∈ ks.take (j + 1)) = false) := decide_eq_false (fun h => (HSN.out.1 h).elim hr he)
              rw [decide_eq_false he] at hbq
              clear hr he
              go_upto_region 9 with fail
              refine wp_region_still_lit (by kernel_rfl) (by kernel_rfl) (still_of_quiet _ _ ?_)
              rw [show ({ wr with drawn := wr.drawn + 1 } : World) = wr.drew from rfl]
              repeat (first | go_big_quiet_skip | (go_big_quiet_want; go_big_quiet_op; go_big_quiet_on))
              refine wpQuiet_nil ?_
              go_wp2_with fail
              go_roundw
              case rel => exact ⟨j + 1, by omega, by go_num, by rw [HV2.out], HBI.out.drew⟩
              case measure => simp [intOf]; omega
        · have hjg : ¬ ((j : Int) < (nk : Int)) := by omega
          have htj : ks.take j = ks := by rw [List.take_of_length_le (by have := HNK.out; omega)]
          rw [htj]
          have HR3 : Hid (wr.ownsRow w.heap.size 45 2 u5 (woI (l.take k) ks).length (atL (woI (l.take k) ks)) ∧ Below w.heap.size w wr) := ⟨own_at HR.out.1 fun q hq => HBI.out.block q (HR.out.1.lt q hq).2, HR.out.2.trans (HBI.out.mono HR.out.2.size)⟩
          have HWS : Hid (w.heap.size ≤ wr.heap.size) := HR3.out.2.size
          clear hjl htj
          by_cases ht : x.1 ∈ ks
          · have HSN : Hid (woI (l.take (k + 1)) ks = woI (l.take k) ks) := by show _ = _; rw [wo_snoc l ks k x HX.out, if_pos ht, List.append_nil]
            rw [decide_eq_true ht]
            clear ht
            go_wp2_with fail
            go_roundw
            case rel => exact ⟨k + 1, by omega, by go_num, by rw [HSN.out]; exact HR3.out.1, HR3.out.2⟩
            case measure => simp [intOf]; omega
          · have HSN : Hid (woI (l.take (k + 1)) ks = woI (l.take k) ks ++ [x]) := by show _ = _; rw [wo_snoc l ks k x HX.out, if_neg ht]
            rw [decide_eq_false ht]
            clear ht
            go_wp2_with (at_builtin; (refine wpList_append_at rfl (.tmp 36) (.tmp 41) rfl w.heap.size u5 (woI (l.take k) ks).length (atL (woI (l.take k) ks)) rfl wr HR3.out.1 x rfl rfl HLL.out HWS.out ?_; intro g9 c9 w9 ho9 hg9; (have HO9 : Hid (w9.ownsRow w.heap.size 45 2 (.slice (some ⟨g9, 0, none⟩) ((woI (l.take k) ks).length + 1) c9) ((woI (l.take k) ks).length + 1) (atL (woI (l.take k) ks) ++ at2 x) ∧ wr.grownBy w9 u5.ownBlock) := ⟨ho9, hg9⟩); clear ho9 hg9))
            go_roundw
            case rel =>
              have hg := HO9.out.2
              refine ⟨k + 1, by omega, by go_num, ?_, HR3.out.2.trans ⟨hg.os, hg.tape, hg.output, hg.size, fun q hq => hg.block q (by have := HWS.out; omega) (fun e => by have := (HR3.out.1.lt q e.symm).1; omega)⟩⟩
              rw [HSN.out, List.length_append, atL_app]
              have h := HO9.out.1
              rw [show atL [x] = at2 x by simp [atL]]
              exact h
            case measure => simp [intOf]; omega
    · have hge : ¬ ((k : Int) < (n : Int)) := by omega
      have htk : l.take k = l := by rw [List.take_of_length_le (by have := HN.out; omega)]
      rw [htk] at HR
      clear hlt htk
      go_wp2_with fail
      go_ret
      exact ⟨⟨_, rfl, HR.out.1⟩, HR.out.2⟩
end Go.Proofs.YtnfocmoieofbpaaDoor
