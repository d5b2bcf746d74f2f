/- Values; attributes that can be. -/
import Derived.Test.YtgmpmpgfpchbcaaGreatDoorS1
import Derived.Test.YtgmpmpgfpchbcaaGreatDoorU1
import Derived.Test.YtgmpmpgfpchbcaaGreatDoorSh
namespace Go.Proofs.YtgmpmpgfpchbcaaGreatDoor
open Go.RowKit
set_option linter.unusedVariables false
set_option linter.unusedSimpArgs false

/-- The two tables of Go's library, as they are laid. -/
def Tabs (w : World) : Prop := Lib.Utf8Tabs 0 1 w
theorem Tabs.later {w w' : World} (h : Tabs w) (hb : Below w.heap.size w w') : Tabs w' := Utf8Tabs_below h hb
theorem valid_any (l : List UInt8) (w : World) (hm : (l.length : Int) ≤ 140737488351232) (hT : Tabs w) : Calls Tryz.prog 42 #[.string (tx l)] w fun e w' => e = .returned (.bool (Lib.validD l)) ∧ Below w.heap.size w w' :=
  Any.utf8_ValidString Tryz.lays196 (tx l) w (by rw [tx_size]; omega) hT
def mvI (l : List UInt8) : Bool := decide (l.length ≤ 256) && Lib.validD l
theorem val_mv (l : List UInt8) : valI l = (decide (l ≠ []) && mvI l) := by unfold valI mvI; rw [Bool.and_assoc]
theorem mv_any (l : List UInt8) (w : World) (hm : (l.length : Int) ≤ 140737488351232) (hT : Tabs w) : Calls Tryz.prog 25 #[.string (tx l)] w fun e w' => e = .returned (.bool (mvI l)) ∧ Below w.heap.size w w' := by
  have HC := valid_any l w hm hT
  have hsz : (tx l).size = l.length := tx_size l
  unfold mvI
  generalize Lib.validD l = V at HC ⊢
  by_cases h : l.length ≤ 256
  · have h' : (l.length : Int) ≤ 256 := by omega
    rw [decide_eq_true h, Bool.true_and]
    have HCC : Hid (Calls Tryz.prog 42 #[.string (tx l)] w fun e w' => e = .returned (.bool V) ∧ Below w.heap.size w w') := HC
    clear HC h hT
    go_enter Tryz.func25, Tryz.ntmps25
    go_wp2_with (go_at_call 42; refine HCC.out.mono ?_; rintro e w1 ⟨rfl, hb⟩; (have HB : Hid (Below w.heap.size w w1) := hb); clear hb)
    go_ret
    exact ⟨rfl, HB.out⟩
  · have h' : ¬ (l.length : Int) ≤ 256 := by omega
    rw [decide_eq_false h, Bool.false_and]
    clear HC h hT
    go_enter Tryz.func25, Tryz.ntmps25
    go_wp2_with fail
    go_ret
    exact ⟨rfl, Below.refl _ _⟩
theorem ne_tx (l : List UInt8) : ((tx l).toList != ByteArray.toList ⟨#[]⟩) = decide (l ≠ []) := by
  rw [tx_list, show ByteArray.toList ⟨#[]⟩ = [] from ByteArray.toList_mk []]
  cases l <;> simp
theorem ne_tx' (l : List UInt8) : ((tx l).toList == ByteArray.toList ⟨#[]⟩) = decide (l = []) := by
  rw [tx_list, show ByteArray.toList ⟨#[]⟩ = [] from ByteArray.toList_mk []]
  cases l <;> simp
theorem value_any (l : List UInt8) (w : World) (hm : (l.length : Int) ≤ 140737488351232) (hT : Tabs w) : Calls Tryz.prog 55 #[.string (tx l)] w fun e w' => e = .returned (.bool (valI l)) ∧ Below w.heap.size w w' := by
  have HC := mv_any l w hm hT
  have h1 := ne_tx l
  have h2 := ne_tx' l
  rw [val_mv]
  generalize mvI l = V at HC ⊢
  by_cases h : l = []
  · have h3 : (tx l).toList = [] := by rw [tx_list]; exact h
    rw [decide_eq_false (by simp [h])] at h1 ⊢
    rw [decide_eq_true h] at h2
    rw [Bool.false_and]
    clear h1 h2
    clear HC h hT
    go_enter Tryz.func55, Tryz.ntmps55
    go_wp2_with fail
    go_ret
    exact ⟨rfl, Below.refl _ _⟩
  · have h3 : ¬ (tx l).toList = [] := by rw [tx_list]; exact h
    rw [decide_eq_true h] at h1 ⊢
    rw [decide_eq_false h] at h2
    rw [Bool.true_and]
    clear h1 h2
    have HE : Hid ((tx l).toList.isEmpty = false) := by show _ = false; rw [tx_list]; cases l with | nil => exact (h rfl).elim | cons a r => rfl
    have HCC : Hid (Calls Tryz.prog 25 #[.string (tx l)] w fun e w' => e = .returned (.bool V) ∧ Below w.heap.size w w') := HC
    clear HC h hT
    go_enter Tryz.func55, Tryz.ntmps55
    go_wp2_with (go_at_call 25; refine HCC.out.mono ?_; rintro e w1 ⟨rfl, hb⟩; (have HB : Hid (Below w.heap.size w w1) := hb); clear hb)
    go_ret
    exact ⟨by show Ending.returned (Value.bool (!(tx l).toList.isEmpty && V)) = _; rw [HE.out]; rfl, HB.out⟩
theorem right_at (x : At) (w : World) (hx : Can x) (hT : Tabs w) : Calls Tryz.prog 31 #[.agg #[.string (tx x.1), .string (tx x.2)]] w fun e w' => e = .returned (.int .i64 (raI x)) ∧ Below w.heap.size w w' := by
  obtain ⟨k, v⟩ := x
  have hb0 : Below w.heap.size w (w.alloc (.cells #[.string (tx k), .string (tx v)] 44)) := bel1 _ _
  have HB0 : Hid (Below w.heap.size w (w.alloc (.cells #[.string (tx k), .string (tx v)] 44))) := hb0
  have HK : Hid (∀ W, Calls Tryz.prog 24 #[.string (tx k)] W fun e w' => e = .returned (.bool (keyI k)) ∧ w' = W) := fun W => key_any k W hx.1
  have HV : Hid (Calls Tryz.prog 55 #[.string (tx v)] (w.alloc (.cells #[.string (tx k), .string (tx v)] 44)) fun e w' => e = .returned (.bool (valI v)) ∧ Below w.heap.size w w') := (value_any v _ hx.2 (hT.later hb0)).mono fun e w' ⟨h1, h2⟩ => ⟨h1, hb0.trans (h2.mono hb0.size)⟩
  have HE : Hid (raI (k, v) = if keyI k = true then (if valI v = true then 0 else 41) else 40) := rfl
  rw [HE.out]
  clear hb0 hx hT HE
  obtain ⟨K, hK⟩ : ∃ K, keyI k = K := ⟨_, rfl⟩
  obtain ⟨V, hV⟩ : ∃ V, valI v = V := ⟨_, rfl⟩
  rw [hK] at HK ⊢
  rw [hV] at HV ⊢
  clear hK hV
  cases K
  · go_enter Tryz.func31, Tryz.ntmps31
    go_wp2_with (go_at_call 24; refine (HK.out _).mono ?_; rintro e w1 ⟨rfl, hw1⟩; rw [hw1]; clear hw1)
    go_ret
    exact ⟨rfl, HB0.out⟩
  · cases V
    all_goals
      go_enter Tryz.func31, Tryz.ntmps31
      go_wp2_with (first | (go_at_call 24; refine (HK.out _).mono ?_; rintro e w1 ⟨rfl, hw1⟩; rw [hw1]; clear hw1) | (go_at_call 55; refine HV.out.mono ?_; rintro e w1 ⟨rfl, hb⟩; (have HB : Hid (Below w.heap.size w w1) := hb); clear hb))
      go_ret
      exact ⟨rfl, HB.out⟩
end Go.Proofs.YtgmpmpgfpchbcaaGreatDoor
