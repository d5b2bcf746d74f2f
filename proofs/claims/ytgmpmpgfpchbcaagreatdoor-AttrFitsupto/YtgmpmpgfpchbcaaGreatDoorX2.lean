/- Fits, both. -/
import Derived.Test.YtgmpmpgfpchbcaaGreatDoorX1
namespace Go.Proofs.YtgmpmpgfpchbcaaGreatDoor
open Go.RowKit Go.Shelf
set_option linter.unusedVariables false
set_option linter.unusedSimpArgs false

/-- Matchers, as they lie. -/
structure Mts (W : World) (sa : Option Addr) (cap : Nat) (l : List Mt) : Prop where
  cap : l.length ≤ cap
  cells : ∀ i x, l[i]? = some x → ∃ b off, sa = some ⟨b, off, none⟩ ∧ W.cell? ⟨b, off + i * 3, none⟩ = some (.int .i64 x.op) ∧ W.cell? ⟨b, off + i * 3 + 1, none⟩ = some (.string (tx x.key)) ∧ W.cell? ⟨b, off + i * 3 + 2, none⟩ = some (.string (tx x.val))
  can : ∀ x ∈ l, (x.key.length : Int) ≤ 140737488351232 ∧ (x.val.length : Int) ≤ 140737488351232
theorem Mts.later {W W' : World} {sa : Option Addr} {cap : Nat} {l : List Mt} (h : Mts W sa cap l) (hb : Below W.heap.size W W') : Mts W' sa cap l :=
  ⟨h.cap, fun i x hx => by
    obtain ⟨b, off, e, h0, h1, h2⟩ := h.cells i x hx
    have hlt : b < W.heap.size := World.block_lt_of_cell? W _ h0
    exact ⟨b, off, e, (hb.cell (p := ⟨b, off + i * 3, none⟩) hlt).trans h0, (hb.cell (p := ⟨b, off + i * 3 + 1, none⟩) hlt).trans h1, (hb.cell (p := ⟨b, off + i * 3 + 2, none⟩) hlt).trans h2⟩, h.can⟩
/-- The value that a matcher is held against. -/
def vaI (l : List At) (x : Mt) : List UInt8 := (getI l x.key).getD []
def fiI (l : List At) (m : List Mt) : Bool := m.all fun x => hoI x (vaI l x)
theorem fi_no (l : List At) (m : List Mt) (k : Nat) (x : Mt) (hx : m[k]? = some x) (h : hoI x (vaI l x) = false) : fiI l m = false := by
  unfold fiI
  rw [List.all_eq_false]
  exact ⟨x, List.mem_of_getElem? hx, by rw [h]; simp⟩
theorem fi_yes (l : List At) (m : List Mt) (h : ∀ j y, j < m.length → m[j]? = some y → hoI y (vaI l y) = true) : fiI l m = true := by
  unfold fiI
  rw [List.all_eq_true]
  intro x hx
  obtain ⟨j, hj⟩ := List.getElem?_of_mem hx
  exact h j x (List.getElem?_eq_some_iff.1 hj).1 hj
theorem getV_form (o : Option (List UInt8)) : getV o = .tuple #[.string (tx (o.getD [])), .bool o.isSome] := by cases o <;> rfl
set_option maxRecDepth 20000 in
set_option maxHeartbeats 8000000 in
theorem fits_any (sa sm : Option Addr) (ca cm : Nat) (l : List At) (m : List Mt) (w : World) (hl : Ats w sa ca l) (hm : Mts w sm cm m) (h1 : (l.length : Int) ≤ 140737488351232) (h2 : (m.length : Int) ≤ 140737488351232)
    (hcon : ∀ x ∈ m, ∀ W, Below w.heap.size w W → Calls Tryz.prog 21 #[.string (tx (vaI l x)), .string (tx x.val)] W fun e w' => e = .returned (.bool (Lib.contains (vaI l x) x.val)) ∧ Below W.heap.size W w') :
    Calls Tryz.prog 4 #[.slice sa l.length ca, .slice sm m.length cm] w fun e w' => e = .returned (.bool (fiI l m)) ∧ Below w.heap.size w w' := by
  have HL : Hid (Ats w sa ca l ∧ Mts w sm cm m ∧ (l.length : Int) ≤ 140737488351232) := ⟨hl, hm, h1⟩
  have HCO : Hid (∀ x ∈ m, ∀ W, Below w.heap.size w W → Calls Tryz.prog 21 #[.string (tx (vaI l x)), .string (tx x.val)] W fun e w' => e = .returned (.bool (Lib.contains (vaI l x) x.val)) ∧ Below W.heap.size W w') := hcon
  obtain ⟨n, hn⟩ : ∃ n, m.length = n := ⟨_, rfl⟩
  obtain ⟨nl, hnl⟩ : ∃ n, l.length = n := ⟨_, rfl⟩
  have hcap : (n : Int) ≤ (cm : Int) := by have := hm.cap; omega
  have HN : Hid (m.length = n ∧ l.length = nl) := ⟨hn, hnl⟩
  rw [hn] at h2 ⊢
  rw [hnl]
  clear hl hm hcon h1 hn hnl
  go_enter Tryz.func4, Tryz.ntmps4
  go_wp2
  go_loopw [11] (fun i wr => ∃ (k : Nat), k ≤ n ∧ i = .int .i64 k ∧ Below w.heap.size w wr ∧ (∀ j y, j < k → m[j]? = some y → hoI y (vaI l y) = true)) (fun i _ => n - (intOf i).toNat)
  case atStart => exact ⟨0, Nat.zero_le _, rfl, Below.refl _ _, fun j y hj => by omega⟩
  case round =>
    obtain ⟨k, hk, rfl, hB, hD⟩ := hrel
    have HD : Hid (Below w.heap.size w wr ∧ ∀ j y, j < k → m[j]? = some y → hoI y (vaI l y) = true) := ⟨hB, hD⟩
    clear hD
    by_cases hlt : k < n
    · obtain ⟨x, hx⟩ : ∃ x, m[k]? = some x := ⟨_, List.getElem?_eq_getElem (by have := HN.out.1; omega)⟩
      obtain ⟨b, o, hsa, x0, x1, x2⟩ := (HL.out.2.1.later hB).cells k x hx
      subst hsa
      have HXX : Hid (m[k]? = some x) := hx
      have hlt' : (k : Int) < (n : Int) := by omega
      have k0 : (0 : Int) ≤ (k : Int) := by omega
      obtain ⟨V, hV⟩ : ∃ V, wr.alloc (.cells #[.int .i64 x.op, .string (tx x.key), .string (tx x.val)] 30) = V := ⟨_, rfl⟩
      have HV : Hid (Below w.heap.size w V ∧ V.heap[wr.heap.size]? = some (.cells #[.int .i64 x.op, .string (tx x.key), .string (tx x.val)] 30 (0, 0))) := by
        rw [← hV]
        exact ⟨hB.trans ((bel1 _ _).mono hB.size), Go.heap_alloc_new _ _⟩
      have H8 : Hid (Calls Tryz.prog 8 #[.slice sa nl ca, .string (tx x.key)] V fun e w' => e = .returned (.tuple #[.string (tx (vaI l x)), .bool (getI l x.key).isSome]) ∧ Below V.heap.size V w') := by
        have hA := HL.out.1.later HV.out.1
        have h := get_any sa ca l x.key V hA.lie hA.cap HL.out.2.2
        rw [getV_form, HN.out.2] at h
        exact h
      have H9 : Hid (∀ W, Below w.heap.size w W → Calls Tryz.prog 9 #[.agg #[.int .i64 x.op, .string (tx x.key), .string (tx x.val)], .string (tx (vaI l x))] W fun e w' => e = .returned (.bool (hoI x (vaI l x))) ∧ Below W.heap.size W w') := fun W hb => holds_rel 9 x (vaI l x) W 21 (.inl ⟨rfl, rfl⟩) (fun W' hb' => HCO.out x (List.mem_of_getElem? HXX.out) W' (hb.trans (hb'.mono hb.size)))
      obtain ⟨gs, hgs⟩ : ∃ gs, (getI l x.key).isSome = gs := ⟨_, rfl⟩
      rw [hgs] at H8
      have c1 : V.cell? ⟨wr.heap.size, 1, none⟩ = some (.string (tx x.key)) := by rw [cell_of_row _ _ _ _ _ _ HV.out.2]; rfl
      clear hx hB hgs
      by_cases he : hoI x (vaI l x) = true
      · have HS : Hid (∀ j y, j < k + 1 → m[j]? = some y → hoI y (vaI l y) = true) := by
          intro j y hj hy
          rcases (show j = k ∨ j < k from by omega) with rfl | h
          · rw [HXX.out] at hy; rw [← Option.some.inj hy]; exact he
          · exact HD.out.2 j y h hy
        rw [he] at H9
        clear he
        go_wp2_with (first | (go_at_call 8; refine H8.out.mono ?_; rintro e w1 ⟨rfl, hb1⟩; (have HB1 : Hid (Below w.heap.size w w1 ∧ w1.heap[wr.heap.size]? = some (.cells #[.int .i64 x.op, .string (tx x.key), .string (tx x.val)] 30 (0, 0))) := ⟨HV.out.1.trans (hb1.mono HV.out.1.size), (hb1.block _ (Array.getElem?_eq_some_iff.1 HV.out.2).1).trans HV.out.2⟩); clear hb1; (have y0 : w1.cell? ⟨wr.heap.size, 0, none⟩ = some (.int .i64 x.op) := by rw [cell_of_row _ _ _ _ _ _ HB1.out.2]; rfl); (have y1 : w1.cell? ⟨wr.heap.size, 1, none⟩ = some (.string (tx x.key)) := by rw [cell_of_row _ _ _ _ _ _ HB1.out.2]; rfl); (have y2 : w1.cell? ⟨wr.heap.size, 2, none⟩ = some (.string (tx x.val)) := by rw [cell_of_row _ _ _ _ _ _ HB1.out.2]; rfl)) | (go_at_call 9; refine (H9.out w1 HB1.out.1).mono ?_; rintro e w2 ⟨rfl, hb2⟩; (have HB2 : Hid (Below w.heap.size w w2) := HB1.out.1.trans (hb2.mono HB1.out.1.size)); clear hb2))
        go_roundw
        case rel => exact ⟨k + 1, by omega, by go_num, HB2.out, HS.out⟩
        case measure => simp [intOf]; omega
      · have HE : Hid (fiI l m = false) := fi_no l m k x HXX.out (by simpa using he)
        rw [show hoI x (vaI l x) = false by simpa using he] at H9
        clear he
        go_wp2_with (first | (go_at_call 8; refine H8.out.mono ?_; rintro e w1 ⟨rfl, hb1⟩; (have HB1 : Hid (Below w.heap.size w w1 ∧ w1.heap[wr.heap.size]? = some (.cells #[.int .i64 x.op, .string (tx x.key), .string (tx x.val)] 30 (0, 0))) := ⟨HV.out.1.trans (hb1.mono HV.out.1.size), (hb1.block _ (Array.getElem?_eq_some_iff.1 HV.out.2).1).trans HV.out.2⟩); clear hb1; (have y0 : w1.cell? ⟨wr.heap.size, 0, none⟩ = some (.int .i64 x.op) := by rw [cell_of_row _ _ _ _ _ _ HB1.out.2]; rfl); (have y1 : w1.cell? ⟨wr.heap.size, 1, none⟩ = some (.string (tx x.key)) := by rw [cell_of_row _ _ _ _ _ _ HB1.out.2]; rfl); (have y2 : w1.cell? ⟨wr.heap.size, 2, none⟩ = some (.string (tx x.val)) := by rw [cell_of_row _ _ _ _ _ _ HB1.out.2]; rfl)) | (go_at_call 9; refine (H9.out w1 HB1.out.1).mono ?_; rintro e w2 ⟨rfl, hb2⟩; (have HB2 : Hid (Below w.heap.size w w2) := HB1.out.1.trans (hb2.mono HB1.out.1.size)); clear hb2))
        go_ret
        exact ⟨by rw [HE.out]; rfl, HB2.out⟩
    · have hge : ¬ ((k : Int) < (n : Int)) := by omega
      have HE : Hid (fiI l m = true) := fi_yes l m (fun j y hj hy => HD.out.2 j y (by have := HN.out.1; omega) hy)
      clear hlt
      go_wp2
      go_ret
      exact ⟨by rw [HE.out]; rfl, HD.out.1⟩
end Go.Proofs.YtgmpmpgfpchbcaaGreatDoor
