/- A part of a text: ref.Has. -/
import Derived.Test.YtgmpmpgfpchbcaaGreatDoorG1
import Derived.Lib.IndexMore
namespace Go.Proofs.YtgmpmpgfpchbcaaGreatDoor
open Go.RowKit Go.Shelf
set_option linter.unusedVariables false
set_option linter.unusedSimpArgs false

theorem occ_iff (s p : List UInt8) (k : Nat) : Lib.occAt s p k = decide ((s.drop k).take p.length = p) := by
  unfold Lib.occAt
  rw [Bool.eq_iff_iff, decide_eq_true_eq, List.isPrefixOf_iff_prefix, List.prefix_iff_eq_take]
  exact eq_comm
theorem has_yes (s p : List UInt8) (k : Nat) (hk : k ≤ s.length) (h : (s.drop k).take p.length = p) (hn : ∀ j, j < k → Lib.occAt s p j = false) : Lib.contains s p = true := by
  unfold Lib.contains
  rw [Lib.index_first hk (by rw [occ_iff]; exact decide_eq_true h) hn]
  simp
theorem has_no (s p : List UInt8) (k : Nat) (hk : s.length < k + p.length) (hn : ∀ j, j < k → Lib.occAt s p j = false) : Lib.contains s p = false := by
  unfold Lib.contains
  refine decide_eq_false ?_
  rcases Lib.index_spec s p with ⟨h1, _⟩ | ⟨i, h1, h2, h3, _⟩
  · omega
  · exfalso
    by_cases hi : i < k
    · rw [hn i hi] at h3; cases h3
    · rw [occ_iff, decide_eq_true_eq] at h3
      have := congrArg List.length h3
      simp at this
      omega
set_option maxRecDepth 20000 in
set_option maxHeartbeats 4000000 in
theorem has_any (s p : List UInt8) (w : World) (h1 : (s.length : Int) ≤ 140737488351232) (h2 : (p.length : Int) ≤ 140737488351232) :
    Calls Tryz.prog 22 #[.string (tx s), .string (tx p)] w fun e w' => e = .returned (.bool (Lib.contains s p)) ∧ w' = w := by
  have hsz : (tx s).size = s.length := tx_size s
  have hpz : (tx p).size = p.length := tx_size p
  obtain ⟨n, hn⟩ : ∃ n, s.length = n := ⟨_, rfl⟩
  obtain ⟨m, hm⟩ : ∃ m, p.length = m := ⟨_, rfl⟩
  have HN : Hid (s.length = n ∧ p.length = m) := ⟨hn, hm⟩
  rw [hn] at hsz h1
  rw [hm] at hpz h2
  clear hn hm
  go_enter Tryz.func22, Tryz.ntmps22
  go_wp2
  go_loop [5] (fun i => ∃ (k : Nat), k ≤ n + 1 ∧ i = .int .i64 k ∧ (∀ j, j < k → Lib.occAt s p j = false)) (fun i => n + 1 - (intOf i).toNat)
  case atStart => exact ⟨0, Nat.zero_le _, rfl, fun j hj => by omega⟩
  case round =>
    obtain ⟨k, hk, rfl, hD⟩ := hrel
    have HD : Hid (∀ j, j < k → Lib.occAt s p j = false) := hD
    clear hD
    by_cases hlt : k + m ≤ n
    · have hlt' : (k : Int) + (m : Int) ≤ (n : Int) := by omega
      have k0 : (0 : Int) ≤ (k : Int) := by omega
      have k1 : (k : Int) ≤ (k : Int) + (m : Int) := by omega
      have HXT : Hid ((tx s).extract k (k + m) = tx ((s.drop k).take m)) := by
        have := tx_extract s k (k + m)
        rw [Nat.add_sub_cancel_left] at this
        exact this
      have hbq := tx_beq ((s.drop k).take m) p
      rw [← HXT.out] at hbq
      by_cases he : (s.drop k).take m = p
      · have HE : Hid (Lib.contains s p = true) := has_yes s p k (by have := HN.out.1; omega) (by rw [HN.out.2]; exact he) HD.out
        rw [decide_eq_true he] at hbq
        clear he
        go_wp2
        go_ret
        exact ⟨by rw [HE.out]; rfl, rfl⟩
      · have HS : Hid (∀ j, j < k + 1 → Lib.occAt s p j = false) := by
          intro j hj
          rcases (show j = k ∨ j < k from by omega) with rfl | h
          · rw [occ_iff, HN.out.2]; exact decide_eq_false he
          · exact HD.out j h
        rw [decide_eq_false he] at hbq
        clear he
        go_wp2
        go_round
        case rel => exact ⟨k + 1, by omega, by go_num, HS.out⟩
        case measure => simp [intOf]; omega
    · have hge : ¬ ((k : Int) + (m : Int) ≤ (n : Int)) := by omega
      have HE : Hid (Lib.contains s p = false) := has_no s p k (by have := HN.out; omega) HD.out
      clear hlt
      go_wp2
      go_ret
      exact ⟨by rw [HE.out]; rfl, rfl⟩
/-- A matcher: its operator, its key, its value. -/
structure Mt where
  op : Int
  key : List UInt8
  val : List UInt8
def mtV (x : Mt) : Value := .agg #[.int .i64 x.op, .string (tx x.key), .string (tx x.val)]
def hoI (x : Mt) (v : List UInt8) : Bool := if x.op = 1 then decide (v = x.val) else if x.op = 2 then !decide (v = x.val) else if x.op = 3 then Lib.contains v x.val else if x.op = 4 then !Lib.contains v x.val else false
set_option maxRecDepth 20000 in
set_option maxHeartbeats 4000000 in
theorem holds_rel (f : Nat) (x : Mt) (v : List UInt8) (w : World) (g : Nat) (hf : f = 9 ∧ g = 21 ∨ f = 11 ∧ g = 22)
    (hc : ∀ W, Below w.heap.size w W → Calls Tryz.prog g #[.string (tx v), .string (tx x.val)] W fun e w' => e = .returned (.bool (Lib.contains v x.val)) ∧ Below W.heap.size W w') :
    Calls Tryz.prog f #[mtV x, .string (tx v)] w fun e w' => e = .returned (.bool (hoI x v)) ∧ Below w.heap.size w w' := by
  have HC : Hid (∀ W, Below w.heap.size w W → Calls Tryz.prog g #[.string (tx v), .string (tx x.val)] W fun e w' => e = .returned (.bool (Lib.contains v x.val)) ∧ Below W.heap.size W w') := hc
  clear hc
  obtain ⟨o, ky, va⟩ := x
  simp only [mtV, hoI] at HC ⊢
  have hbq := tx_beq v va
  obtain ⟨c, hcc⟩ : ∃ c, Lib.contains v va = c := ⟨_, rfl⟩
  rw [hcc] at HC ⊢
  obtain ⟨d, hd⟩ : ∃ d, decide (v = va) = d := ⟨_, rfl⟩
  rw [hd] at hbq ⊢
  clear hcc hd
  obtain ⟨W0, hW0⟩ : ∃ W0, w.alloc (.cells #[.int .i64 o, .string (tx ky), .string (tx va)] 30) = W0 := ⟨_, rfl⟩
  have HB : Hid (Below w.heap.size w W0) := by show Below _ _ _; rw [← hW0]; exact bel1 _ _
  have hb : W0.heap[w.heap.size]? = some (.cells #[.int .i64 o, .string (tx ky), .string (tx va)] 30 (0, 0)) := by rw [← hW0]; exact Go.heap_alloc_new _ _
  have c0 : W0.cell? ⟨w.heap.size, 0, none⟩ = some (.int .i64 o) := by rw [cell_of_row _ _ _ _ _ _ hb]; rfl
  have c2 : W0.cell? ⟨w.heap.size, 2, none⟩ = some (.string (tx va)) := by rw [cell_of_row _ _ _ _ _ _ hb]; rfl
  clear hb
  rcases hf with ⟨rfl, rfl⟩ | ⟨rfl, rfl⟩
  · by_cases o1 : o = 1
    · subst o1
      rw [if_pos rfl]
      go_enter Tryz.func9, Tryz.ntmps9
      go_wp2_with fail
      go_ret
      exact ⟨rfl, HB.out⟩
    · by_cases o2 : o = 2
      · subst o2
        rw [if_neg (by decide), if_pos rfl]
        have hbn : ((tx v).toList != (tx va).toList) = !d := by rw [bne, hbq]
        go_enter Tryz.func9, Tryz.ntmps9
        go_wp2_with fail
        go_ret
        exact ⟨rfl, HB.out⟩
      · by_cases o3 : o = 3
        · subst o3
          rw [if_neg (by decide), if_neg (by decide), if_pos rfl]
          go_enter Tryz.func9, Tryz.ntmps9
          go_wp2_with (go_at_call 21; refine (HC.out W0 HB.out).mono ?_; rintro e w1 ⟨rfl, hb1⟩; (have HB1 : Hid (Below w.heap.size w w1) := HB.out.trans (hb1.mono HB.out.size)); clear hb1)
          go_ret
          exact ⟨rfl, HB1.out⟩
        · by_cases o4 : o = 4
          · subst o4
            rw [if_neg (by decide), if_neg (by decide), if_neg (by decide), if_pos rfl]
            go_enter Tryz.func9, Tryz.ntmps9
            go_wp2_with (go_at_call 21; refine (HC.out W0 HB.out).mono ?_; rintro e w1 ⟨rfl, hb1⟩; (have HB1 : Hid (Below w.heap.size w w1) := HB.out.trans (hb1.mono HB.out.size)); clear hb1)
            go_ret
            exact ⟨rfl, HB1.out⟩
          · rw [if_neg o1, if_neg o2, if_neg o3, if_neg o4]
            go_enter Tryz.func9, Tryz.ntmps9
            go_wp2_with fail
            go_ret
            exact ⟨rfl, HB.out⟩
  · by_cases o1 : o = 1
    · subst o1
      rw [if_pos rfl]
      go_enter Tryz.func11, Tryz.ntmps11
      go_wp2_with fail
      go_ret
      exact ⟨rfl, HB.out⟩
    · by_cases o2 : o = 2
      · subst o2
        rw [if_neg (by decide), if_pos rfl]
        have hbn : ((tx v).toList != (tx va).toList) = !d := by rw [bne, hbq]
        go_enter Tryz.func11, Tryz.ntmps11
        go_wp2_with fail
        go_ret
        exact ⟨rfl, HB.out⟩
      · by_cases o3 : o = 3
        · subst o3
          rw [if_neg (by decide), if_neg (by decide), if_pos rfl]
          go_enter Tryz.func11, Tryz.ntmps11
          go_wp2_with (go_at_call 22; refine (HC.out W0 HB.out).mono ?_; rintro e w1 ⟨rfl, hb1⟩; (have HB1 : Hid (Below w.heap.size w w1) := HB.out.trans (hb1.mono HB.out.size)); clear hb1)
          go_ret
          exact ⟨rfl, HB1.out⟩
        · by_cases o4 : o = 4
          · subst o4
            rw [if_neg (by decide), if_neg (by decide), if_neg (by decide), if_pos rfl]
            go_enter Tryz.func11, Tryz.ntmps11
            go_wp2_with (go_at_call 22; refine (HC.out W0 HB.out).mono ?_; rintro e w1 ⟨rfl, hb1⟩; (have HB1 : Hid (Below w.heap.size w w1) := HB.out.trans (hb1.mono HB.out.size)); clear hb1)
            go_ret
            exact ⟨rfl, HB1.out⟩
          · rw [if_neg o1, if_neg o2, if_neg o3, if_neg o4]
            go_enter Tryz.func11, Tryz.ntmps11
            go_wp2_with fail
            go_ret
            exact ⟨rfl, HB.out⟩
end Go.Proofs.YtgmpmpgfpchbcaaGreatDoor
