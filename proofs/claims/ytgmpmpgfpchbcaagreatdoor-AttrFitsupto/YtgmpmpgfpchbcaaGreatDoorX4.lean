/- The first fault of matchers. -/
import Derived.Test.YtgmpmpgfpchbcaaGreatDoorX3
namespace Go.Proofs.YtgmpmpgfpchbcaaGreatDoor
open Go.RowKit Go.Shelf
set_option linter.unusedVariables false
set_option linter.unusedSimpArgs false

/-- What is at fault with a matcher; 0: nothing. -/
def faI (x : Mt) : Int := if x.op < 1 ∨ 4 < x.op then 42 else if keyI x.key = false then 40 else if mvI x.val = false then 41 else 0
def ffI : List Mt → Int
  | [] => 0
  | x :: l => if faI x = 0 then ffI l else faI x
theorem ff_at : ∀ (k : Nat) (l : List Mt) (x : Mt), l[k]? = some x → (∀ j y, j < k → l[j]? = some y → faI y = 0) → faI x ≠ 0 → ffI l = faI x
  | 0, y :: l, x, h, _, hx => by
    simp at h
    subst h
    unfold ffI
    rw [if_neg hx]
  | k + 1, y :: l, x, h, hn, hx => by
    unfold ffI
    rw [if_pos (hn 0 y (by omega) rfl)]
    exact ff_at k l x (by simpa using h) (fun j z hj hz => hn (j + 1) z (by omega) (by simpa using hz)) hx
  | _, [], x, h, _, _ => by simp at h
theorem ff_none : ∀ (l : List Mt), (∀ (j : Nat) (y : Mt), l[j]? = some y → faI y = 0) → ffI l = 0
  | [], _ => rfl
  | x :: l, h => by
    unfold ffI
    rw [if_pos (h 0 x rfl)]
    exact ff_none l (fun j y hy => h (j + 1) y (by simpa using hy))
set_option maxRecDepth 20000 in
set_option maxHeartbeats 8000000 in
theorem ff_any (sm : Option Addr) (cm : Nat) (m : List Mt) (w : World) (hm : Mts w sm cm m) (h2 : (m.length : Int) ≤ 140737488351232) (hT : Tabs w) :
    Calls Tryz.prog 13 #[.slice sm m.length cm] w fun e w' => e = .returned (.int .i64 (ffI m)) ∧ Below w.heap.size w w' := by
  have HL : Hid (Mts w sm cm m ∧ Tabs w) := ⟨hm, hT⟩
  obtain ⟨n, hn⟩ : ∃ n, m.length = n := ⟨_, rfl⟩
  have hcap : (n : Int) ≤ (cm : Int) := by have := hm.cap; omega
  have HN : Hid (m.length = n) := hn
  rw [hn] at h2 ⊢
  clear hm hn hT
  go_enter Tryz.func13, Tryz.ntmps13
  go_wp2
  go_loopw [7] (fun i wr => ∃ (k : Nat), k ≤ n ∧ i = .int .i64 k ∧ Below w.heap.size w wr ∧ (∀ j y, j < k → m[j]? = some y → faI y = 0)) (fun i _ => n - (intOf i).toNat)
  case atStart => exact ⟨0, Nat.zero_le _, rfl, Below.refl _ _, fun j y hj => by omega⟩
  case round =>
    obtain ⟨k, hk, rfl, hB, hD⟩ := hrel
    have HD : Hid (Below w.heap.size w wr ∧ ∀ j y, j < k → m[j]? = some y → faI y = 0) := ⟨hB, hD⟩
    clear hD
    by_cases hlt : k < n
    · obtain ⟨x, hx⟩ : ∃ x, m[k]? = some x := ⟨_, List.getElem?_eq_getElem (by have := HN.out; omega)⟩
      obtain ⟨b, o, hsa, x0, x1, x2⟩ := (HL.out.1.later hB).cells k x hx
      subst hsa
      have HXX : Hid (m[k]? = some x) := hx
      have hlt' : (k : Int) < (n : Int) := by omega
      have k0 : (0 : Int) ≤ (k : Int) := by omega
      have hcan := HL.out.1.can x (List.mem_of_getElem? hx)
      obtain ⟨V, hV⟩ : ∃ V, wr.alloc (.cells #[.int .i64 x.op, .string (tx x.key), .string (tx x.val)] 30) = V := ⟨_, rfl⟩
      have HV : Hid (Below w.heap.size w V ∧ V.heap[wr.heap.size]? = some (.cells #[.int .i64 x.op, .string (tx x.key), .string (tx x.val)] 30 (0, 0))) := by
        rw [← hV]
        exact ⟨hB.trans ((bel1 _ _).mono hB.size), Go.heap_alloc_new _ _⟩
      have c0 : V.cell? ⟨wr.heap.size, 0, none⟩ = some (.int .i64 x.op) := by rw [cell_of_row _ _ _ _ _ _ HV.out.2]; rfl
      have c1 : V.cell? ⟨wr.heap.size, 1, none⟩ = some (.string (tx x.key)) := by rw [cell_of_row _ _ _ _ _ _ HV.out.2]; rfl
      have c2 : V.cell? ⟨wr.heap.size, 2, none⟩ = some (.string (tx x.val)) := by rw [cell_of_row _ _ _ _ _ _ HV.out.2]; rfl
      have H24 : Hid (Calls Tryz.prog 24 #[.string (tx x.key)] V fun e w' => e = .returned (.bool (keyI x.key)) ∧ w' = V) := key_any x.key V hcan.1
      have H25 : Hid (Calls Tryz.prog 25 #[.string (tx x.val)] V fun e w' => e = .returned (.bool (mvI x.val)) ∧ Below V.heap.size V w') := mv_any x.val V hcan.2 (HL.out.2.later HV.out.1)
      clear hx hB hcan
      obtain ⟨P, hP⟩ : ∃ P, x.op = P := ⟨_, rfl⟩
      have HF : Hid (faI x = if P < 1 ∨ 4 < P then 42 else if keyI x.key = false then 40 else if mvI x.val = false then 41 else 0) := by show _ = _; rw [← hP]; rfl
      rw [hP] at c0 x0 hV
      by_cases o1 : P < 1
      · have HE : Hid (ffI m = 42) := by
          have e : faI x = 42 := by rw [HF.out, if_pos (.inl o1)]
          show _ = _
          rw [ff_at k m x HXX.out HD.out.2 (by rw [e]; decide), e]
        have d1 : decide (P < 1) = true := decide_eq_true o1
        clear o1 hP
        go_wp2_with fail
        go_ret
        exact ⟨by rw [HE.out]; rfl, HV.out.1⟩
      · by_cases o4 : 4 < P
        · have HE : Hid (ffI m = 42) := by
            have e : faI x = 42 := by rw [HF.out, if_pos (.inr o4)]
            show _ = _
            rw [ff_at k m x HXX.out HD.out.2 (by rw [e]; decide), e]
          have d1 : decide (P < 1) = false := decide_eq_false o1
          have d4 : decide (4 < P) = true := decide_eq_true o4
          clear o1 o4 hP
          go_wp2_with fail
          go_ret
          exact ⟨by rw [HE.out]; rfl, HV.out.1⟩
        · have d1 : decide (P < 1) = false := decide_eq_false o1
          have d4 : decide (4 < P) = false := decide_eq_false o4
          have HFF : Hid (faI x = if keyI x.key = false then 40 else if mvI x.val = false then 41 else 0) := by show _ = _; rw [HF.out, if_neg (by omega)]
          clear o1 o4 hP
          obtain ⟨ky, hky⟩ : ∃ ky, keyI x.key = ky := ⟨_, rfl⟩
          obtain ⟨mv, hmv⟩ : ∃ mv, mvI x.val = mv := ⟨_, rfl⟩
          rw [hky, hmv] at HFF
          rw [hky] at H24
          rw [hmv] at H25
          clear hky hmv HF
          cases ky with
          | false =>
            have HE : Hid (ffI m = 40) := by
              have e : faI x = 40 := HFF.out
              show _ = _
              rw [ff_at k m x HXX.out HD.out.2 (by rw [e]; decide), e]
            go_wp2_with (go_at_call 24; refine H24.out.mono ?_; rintro e w1 ⟨rfl, hw1⟩; rw [hw1]; clear hw1)
            go_ret
            exact ⟨by rw [HE.out]; rfl, HV.out.1⟩
          | true =>
            cases mv with
            | false =>
              have HE : Hid (ffI m = 41) := by
                have e : faI x = 41 := HFF.out
                show _ = _
                rw [ff_at k m x HXX.out HD.out.2 (by rw [e]; decide), e]
              go_wp2_with (first | (go_at_call 24; refine H24.out.mono ?_; rintro e w1 ⟨rfl, hw1⟩; rw [hw1]; clear hw1) | (go_at_call 25; refine H25.out.mono ?_; rintro e w2 ⟨rfl, hb2⟩; (have HB2 : Hid (Below w.heap.size w w2) := HV.out.1.trans (hb2.mono HV.out.1.size)); clear hb2))
              go_ret
              exact ⟨by rw [HE.out]; rfl, HB2.out⟩
            | true =>
              have HS : Hid (∀ j y, j < k + 1 → m[j]? = some y → faI y = 0) := by
                intro j y hj hy
                rcases (show j = k ∨ j < k from by omega) with rfl | h
                · rw [HXX.out] at hy; rw [← Option.some.inj hy]; exact HFF.out
                · exact HD.out.2 j y h hy
              go_wp2_with (first | (go_at_call 24; refine H24.out.mono ?_; rintro e w1 ⟨rfl, hw1⟩; rw [hw1]; clear hw1) | (go_at_call 25; refine H25.out.mono ?_; rintro e w2 ⟨rfl, hb2⟩; (have HB2 : Hid (Below w.heap.size w w2) := HV.out.1.trans (hb2.mono HV.out.1.size)); clear hb2))
              go_roundw
              case rel => exact ⟨k + 1, by omega, by go_num, HB2.out, HS.out⟩
              case measure => simp [intOf]; omega
    · have hge : ¬ ((k : Int) < (n : Int)) := by omega
      have HE : Hid (ffI m = 0) := ff_none m (fun j y hy => HD.out.2 j y (by have := HN.out; have := (List.getElem?_eq_some_iff.1 hy).1; omega) hy)
      clear hlt
      go_wp2
      go_ret
      exact ⟨by rw [HE.out]; rfl, HD.out.1⟩
end Go.Proofs.YtgmpmpgfpchbcaaGreatDoor
