/- A key set; attributes written over; a copy; keys and values. -/
import Derived.Test.YtnfocmoieofbpaaDoorT1
import Derived.Laws.Rows
namespace Go.Proofs.YtnfocmoieofbpaaDoor
open Go.RowKit
set_option linter.unusedVariables false
set_option linter.unusedSimpArgs false

theorem key_txs (w : World) (k : List UInt8) : Txs (w.alloc (.cells #[.string (tx k)] 9)) (some ⟨w.heap.size, 0, none⟩) 1 [k] := by
  refine ⟨Nat.le_refl _, fun i x hx => ⟨w.heap.size, 0, rfl, ?_⟩⟩
  match i, hx with
  | 0, hx =>
    simp at hx
    subst hx
    exact World.news_of_block (Go.heap_alloc_new w (.cells #[.string (tx k)] 9)) 0 _ rfl
  | i + 1, hx => simp at hx
theorem set_can (l : List At) (k v : List UInt8) (h : ∀ x ∈ l, Can x) (hk : (k.length : Int) ≤ 140737488351232) (hv : (v.length : Int) ≤ 140737488351232) : (∀ x ∈ woI l [k], Can x) ∧ ∀ x ∈ woI l [k] ++ [(k, v)], Can x := by
  have h1 : ∀ x ∈ woI l [k], Can x := fun x hx => h x (List.mem_filter.1 hx).1
  refine ⟨h1, fun x hx => ?_⟩
  rcases List.mem_append.1 hx with g | g
  · exact h1 x g
  · simp at g; subst g; exact ⟨hk, hv⟩
theorem rset_nil (l : List At) (k : List UInt8) : setI l k [] = makeI (woI l [k]) := by unfold setI; simp
theorem rset_some (l : List At) (k v : List UInt8) (h : v ≠ []) : setI l k v = makeI (woI l [k] ++ [(k, v)]) := by unfold setI; simp [h]

set_option maxRecDepth 20000 in
set_option maxHeartbeats 4000000 in
theorem set_any (sa : Option Addr) (ca : Nat) (l : List At) (k v : List UInt8) (w : World) (hl : Ats w sa ca l) (h1 : (l.length + 1 : Int) * 32 ≤ 140737488355328) (hk : (k.length : Int) ≤ 140737488351232) (hv : (v.length : Int) ≤ 140737488351232) (hT : Tabs w) :
    Calls Tryd.prog 20 #[.slice sa l.length ca, .string (tx k), .string (tx v)] w fun e w' => (∃ r, e = .returned (.tuple #[r, .int .i64 (setI l k v).2]) ∧ w'.ownsRow w.heap.size 45 2 r (setI l k v).1.length (atL (setI l k v).1)) ∧ Below w.heap.size w w' := by
  have HL : Hid (Ats w sa ca l ∧ Tabs w) := ⟨hl, hT⟩
  have HC : Hid ((∀ x ∈ woI l [k], Can x) ∧ ∀ x ∈ woI l [k] ++ [(k, v)], Can x) := set_can l k v hl.can hk hv
  have HLE : Hid ((woI l [k]).length ≤ l.length) := wo_len l [k]
  obtain ⟨W1, hW1⟩ : ∃ W1, w.alloc (.cells #[.string (tx k)] 9) = W1 := ⟨_, rfl⟩
  have hb1 : Below w.heap.size w W1 := by rw [← hW1]; exact bel1 _ _
  have HB1 : Hid (Below w.heap.size w W1) := hb1
  have HW : Hid (Calls Tryd.prog 22 #[.slice sa l.length ca, .slice (some ⟨w.heap.size, 0, none⟩) 1 1] (w.alloc (.cells #[.string (tx k)] 9)) fun e w' => (∃ r, e = .returned r ∧ w'.ownsRow w.heap.size 45 2 r (woI l [k]).length (atL (woI l [k]))) ∧ Below w.heap.size w w') :=
    by rw [hW1]; exact (without_any sa (some ⟨w.heap.size, 0, none⟩) ca 1 l [k] W1 (HL.out.1.later hb1) (by rw [← hW1]; exact key_txs w k) h1 (by simp)).mono fun e w' ⟨⟨r, g1, g2⟩, g3⟩ => ⟨⟨r, g1, own_low g2 hb1.size⟩, hb1.trans (g3.mono hb1.size)⟩
  have HM : Hid (∀ m r W, (∀ x ∈ m, Can x) → (m.length : Int) ≤ 140737488351232 → W.ownsRow w.heap.size 45 2 r m.length (atL m) → Below w.heap.size w W → Calls Tryd.prog 7 #[r] W fun e w' => (∃ q, e = .returned (.tuple #[q, .int .i64 (makeI m).2]) ∧ w'.ownsRow w.heap.size 45 2 q (makeI m).1.length (atL (makeI m).1)) ∧ Below w.heap.size w w') := by
    intro m r W hc hm ho hb
    obtain ⟨so, co, e4, hA⟩ := own_ats ho hc
    rw [e4]
    exact (make_any so co m W hA hm (HL.out.2.later hb)).mono fun e w' ⟨⟨q, g1, g2⟩, g3⟩ => ⟨⟨q, g1, own_low g2 hb.size⟩, hb.trans (g3.mono hb.size)⟩
  by_cases hve : v = []
  · have h3 : (tx v).toList = [] := by rw [tx_list]; exact hve
    subst hve
    rw [rset_nil]
    have HMM : Hid (∀ r W, W.ownsRow w.heap.size 45 2 r (woI l [k]).length (atL (woI l [k])) → Below w.heap.size w W → Calls Tryd.prog 7 #[r] W fun e w' => (∃ q, e = .returned (.tuple #[q, .int .i64 (makeI (woI l [k])).2]) ∧ w'.ownsRow w.heap.size 45 2 q (makeI (woI l [k])).1.length (atL (makeI (woI l [k])).1)) ∧ Below w.heap.size w w') := fun r W g1 g2 => HM.out (woI l [k]) r W HC.out.1 (by have := HLE.out; omega) g1 g2
    generalize makeI (woI l [k]) = M at HMM ⊢
    obtain ⟨ml, me⟩ := M
    generalize woI l [k] = m at HW HMM
    clear hl hT hb1 hW1 HB1 HM HC HLE
    simp only at HMM ⊢
    go_enter Tryd.func20, Tryd.ntmps20
    go_upto_region 2 with (go_at_call 22; refine HW.out.mono ?_; rintro e w1 ⟨⟨v1, rfl, ho⟩, hb⟩; (have HO : Hid (w1.ownsRow w.heap.size 45 2 v1 m.length (atL m) ∧ Below w.heap.size w w1) := ⟨ho, hb⟩); clear ho hb)
    go_wp2_with (go_at_call 7; refine (HMM.out v1 w1 HO.out.1 HO.out.2).mono ?_; rintro e w2 ⟨⟨v2, rfl, ho⟩, hb⟩; (have HO2 : Hid (w2.ownsRow w.heap.size 45 2 v2 ml.length (atL ml) ∧ Below w.heap.size w w2) := ⟨ho, hb⟩); clear ho hb)
    go_ret2
    exact ⟨⟨_, rfl, HO2.out.1⟩, HO2.out.2⟩
  · have h3 : ¬ (tx v).toList = [] := by rw [tx_list]; exact hve
    have h4 : (tx v).toList.isEmpty = false := by rw [tx_list]; cases v with | nil => exact (hve rfl).elim | cons a r => rfl
    rw [rset_some l k v hve]
    have HLN : Hid ((woI l [k] ++ [(k, v)]).length = (woI l [k]).length + 1 ∧ atL (woI l [k] ++ [(k, v)]) = atL (woI l [k]) ++ at2 (k, v)) := ⟨by simp, by rw [atL_app]; simp [atL]⟩
    have HMM : Hid (∀ r W, W.ownsRow w.heap.size 45 2 r ((woI l [k]).length + 1) (atL (woI l [k]) ++ at2 (k, v)) → Below w.heap.size w W → Calls Tryd.prog 7 #[r] W fun e w' => (∃ q, e = .returned (.tuple #[q, .int .i64 (makeI (woI l [k] ++ [(k, v)])).2]) ∧ w'.ownsRow w.heap.size 45 2 q (makeI (woI l [k] ++ [(k, v)])).1.length (atL (makeI (woI l [k] ++ [(k, v)])).1)) ∧ Below w.heap.size w w') := fun r W g1 g2 => HM.out (woI l [k] ++ [(k, v)]) r W HC.out.2 (by have := HLE.out; rw [HLN.out.1]; omega) (by rw [HLN.out.1, HLN.out.2]; exact g1) g2
    have HLB : Hid (((woI l [k]).length + 1) * 32 ≤ 140737488355328) := by have := HLE.out; show _ ≤ _; omega
    generalize makeI (woI l [k] ++ [(k, v)]) = M at HMM ⊢
    obtain ⟨ml, me⟩ := M
    generalize woI l [k] = m at HW HMM HLB
    clear hl hT hb1 hW1 HB1 HM HC HLE HLN hve
    simp only at HMM ⊢
    go_enter Tryd.func20, Tryd.ntmps20
    go_upto_region 2 with (go_at_call 22; refine HW.out.mono ?_; rintro e w1 ⟨⟨v1, rfl, ho⟩, hb⟩; (obtain ⟨a1, k1, e1⟩ := own_slice ho); subst e1; (have HO : Hid (w1.ownsRow w.heap.size 45 2 (.slice a1 m.length k1) m.length (atL m) ∧ Below w.heap.size w w1) := ⟨ho, hb⟩); clear ho hb)
    have HWS : Hid (w.heap.size ≤ w1.heap.size) := HO.out.2.size
    go_wp2_with (first | (at_builtin; (refine wpList_append_at rfl (.tmp 15) (.tmp 19) rfl w.heap.size (.slice a1 m.length k1) m.length (atL m) rfl w1 HO.out.1 (k, v) rfl rfl HLB.out HWS.out ?_; intro g9 c9 w9 ho9 hg9; (have HO9 : Hid (w9.ownsRow w.heap.size 45 2 (.slice (some ⟨g9, 0, none⟩) (m.length + 1) c9) (m.length + 1) (atL m ++ at2 (k, v)) ∧ Below w.heap.size w w9) := ⟨ho9, HO.out.2.trans ⟨hg9.os, hg9.tape, hg9.output, hg9.size, fun q hq => hg9.block q (Nat.lt_of_lt_of_le hq HWS.out) (fun e => by have := (HO.out.1.lt q e.symm).1; omega)⟩⟩); clear ho9 hg9)) | (go_at_call 7; refine (HMM.out _ w9 HO9.out.1 HO9.out.2).mono ?_; rintro e w2 ⟨⟨v2, rfl, ho⟩, hb⟩; (have HO2 : Hid (w2.ownsRow w.heap.size 45 2 v2 ml.length (atL ml) ∧ Below w.heap.size w w2) := ⟨ho, hb⟩); clear ho hb))
    go_ret2
    exact ⟨⟨_, rfl, HO2.out.1⟩, HO2.out.2⟩

set_option maxRecDepth 20000 in
set_option maxHeartbeats 4000000 in
theorem rset_any (sa : Option Addr) (ca : Nat) (l : List At) (k v : List UInt8) (w : World) (hl : Ats w sa ca l) (h1 : (l.length + 1 : Int) * 32 ≤ 140737488355328) (hk : (k.length : Int) ≤ 140737488351232) (hv : (v.length : Int) ≤ 140737488351232) :
    Calls Tryd.prog 21 #[.slice sa l.length ca, .string (tx k), .string (tx v)] w fun e w' => (∃ r, e = .returned (.tuple #[r, .int .i64 (setI l k v).2]) ∧ w'.ownsRow w.heap.size 45 2 r (setI l k v).1.length (atL (setI l k v).1)) ∧ Below w.heap.size w w' := by
  have HL : Hid (Ats w sa ca l) := hl
  have HC : Hid ((∀ x ∈ woI l [k], Can x) ∧ ∀ x ∈ woI l [k] ++ [(k, v)], Can x) := set_can l k v hl.can hk hv
  have HLE : Hid ((woI l [k]).length ≤ l.length) := wo_len l [k]
  obtain ⟨W1, hW1⟩ : ∃ W1, w.alloc (.cells #[.string (tx k)] 9) = W1 := ⟨_, rfl⟩
  have hb1 : Below w.heap.size w W1 := by rw [← hW1]; exact bel1 _ _
  have HB1 : Hid (Below w.heap.size w W1) := hb1
  have HW : Hid (Calls Tryd.prog 23 #[.slice sa l.length ca, .slice (some ⟨w.heap.size, 0, none⟩) 1 1] (w.alloc (.cells #[.string (tx k)] 9)) fun e w' => (∃ r, e = .returned r ∧ w'.ownsRow w.heap.size 45 2 r (woI l [k]).length (atL (woI l [k]))) ∧ Below w.heap.size w w') :=
    by rw [hW1]; exact (rwithout_any sa (some ⟨w.heap.size, 0, none⟩) ca 1 l [k] W1 (HL.out.later hb1) (by rw [← hW1]; exact key_txs w k) h1 (by simp)).mono fun e w' ⟨⟨r, g1, g2⟩, g3⟩ => ⟨⟨r, g1, own_low g2 hb1.size⟩, hb1.trans (g3.mono hb1.size)⟩
  have HM : Hid (∀ m r W, (∀ x ∈ m, Can x) → (m.length : Int) ≤ 140737488351232 → W.ownsRow w.heap.size 45 2 r m.length (atL m) → Below w.heap.size w W → Calls Tryd.prog 8 #[r] W fun e w' => (∃ q, e = .returned (.tuple #[q, .int .i64 (makeI m).2]) ∧ w'.ownsRow w.heap.size 45 2 q (makeI m).1.length (atL (makeI m).1)) ∧ Below w.heap.size w w') := by
    intro m r W hc hm ho hb
    obtain ⟨so, co, e4, hA⟩ := own_ats ho hc
    rw [e4]
    exact (rmake_any so co m W hA hm).mono fun e w' ⟨⟨q, g1, g2⟩, g3⟩ => ⟨⟨q, g1, own_low g2 hb.size⟩, hb.trans (g3.mono hb.size)⟩
  by_cases hve : v = []
  · have h3 : (tx v).toList = [] := by rw [tx_list]; exact hve
    subst hve
    rw [rset_nil]
    have HMM : Hid (∀ r W, W.ownsRow w.heap.size 45 2 r (woI l [k]).length (atL (woI l [k])) → Below w.heap.size w W → Calls Tryd.prog 8 #[r] W fun e w' => (∃ q, e = .returned (.tuple #[q, .int .i64 (makeI (woI l [k])).2]) ∧ w'.ownsRow w.heap.size 45 2 q (makeI (woI l [k])).1.length (atL (makeI (woI l [k])).1)) ∧ Below w.heap.size w w') := fun r W g1 g2 => HM.out (woI l [k]) r W HC.out.1 (by have := HLE.out; omega) g1 g2
    generalize makeI (woI l [k]) = M at HMM ⊢
    obtain ⟨ml, me⟩ := M
    generalize woI l [k] = m at HW HMM
    clear hl hb1 hW1 HB1 HM HC HLE
    simp only at HMM ⊢
    go_enter Tryd.func21, Tryd.ntmps21
    go_upto_region 2 with (go_at_call 23; refine HW.out.mono ?_; rintro e w1 ⟨⟨v1, rfl, ho⟩, hb⟩; (have HO : Hid (w1.ownsRow w.heap.size 45 2 v1 m.length (atL m) ∧ Below w.heap.size w w1) := ⟨ho, hb⟩); clear ho hb)
    go_wp2_with (go_at_call 8; refine (HMM.out v1 w1 HO.out.1 HO.out.2).mono ?_; rintro e w2 ⟨⟨v2, rfl, ho⟩, hb⟩; (have HO2 : Hid (w2.ownsRow w.heap.size 45 2 v2 ml.length (atL ml) ∧ Below w.heap.size w w2) := ⟨ho, hb⟩); clear ho hb)
    go_ret2
    exact ⟨⟨_, rfl, HO2.out.1⟩, HO2.out.2⟩
  · have h3 : ¬ (tx v).toList = [] := by rw [tx_list]; exact hve
    have h4 : (tx v).toList.isEmpty = false := by rw [tx_list]; cases v with | nil => exact (hve rfl).elim | cons a r => rfl
    rw [rset_some l k v hve]
    have HLN : Hid ((woI l [k] ++ [(k, v)]).length = (woI l [k]).length + 1 ∧ atL (woI l [k] ++ [(k, v)]) = atL (woI l [k]) ++ at2 (k, v)) := ⟨by simp, by rw [atL_app]; simp [atL]⟩
    have HMM : Hid (∀ r W, W.ownsRow w.heap.size 45 2 r ((woI l [k]).length + 1) (atL (woI l [k]) ++ at2 (k, v)) → Below w.heap.size w W → Calls Tryd.prog 8 #[r] W fun e w' => (∃ q, e = .returned (.tuple #[q, .int .i64 (makeI (woI l [k] ++ [(k, v)])).2]) ∧ w'.ownsRow w.heap.size 45 2 q (makeI (woI l [k] ++ [(k, v)])).1.length (atL (makeI (woI l [k] ++ [(k, v)])).1)) ∧ Below w.heap.size w w') := fun r W g1 g2 => HM.out (woI l [k] ++ [(k, v)]) r W HC.out.2 (by have := HLE.out; rw [HLN.out.1]; omega) (by rw [HLN.out.1, HLN.out.2]; exact g1) g2
    have HLB : Hid (((woI l [k]).length + 1) * 32 ≤ 140737488355328) := by have := HLE.out; show _ ≤ _; omega
    generalize makeI (woI l [k] ++ [(k, v)]) = M at HMM ⊢
    obtain ⟨ml, me⟩ := M
    generalize woI l [k] = m at HW HMM HLB
    clear hl hb1 hW1 HB1 HM HC HLE HLN hve
    simp only at HMM ⊢
    go_enter Tryd.func21, Tryd.ntmps21
    go_upto_region 2 with (go_at_call 23; refine HW.out.mono ?_; rintro e w1 ⟨⟨v1, rfl, ho⟩, hb⟩; (obtain ⟨a1, k1, e1⟩ := own_slice ho); subst e1; (have HO : Hid (w1.ownsRow w.heap.size 45 2 (.slice a1 m.length k1) m.length (atL m) ∧ Below w.heap.size w w1) := ⟨ho, hb⟩); clear ho hb)
    have HWS : Hid (w.heap.size ≤ w1.heap.size) := HO.out.2.size
    go_wp2_with (first | (at_builtin; (refine wpList_append_at rfl (.tmp 15) (.tmp 19) rfl w.heap.size (.slice a1 m.length k1) m.length (atL m) rfl w1 HO.out.1 (k, v) rfl rfl HLB.out HWS.out ?_; intro g9 c9 w9 ho9 hg9; (have HO9 : Hid (w9.ownsRow w.heap.size 45 2 (.slice (some ⟨g9, 0, none⟩) (m.length + 1) c9) (m.length + 1) (atL m ++ at2 (k, v)) ∧ Below w.heap.size w w9) := ⟨ho9, HO.out.2.trans ⟨hg9.os, hg9.tape, hg9.output, hg9.size, fun q hq => hg9.block q (Nat.lt_of_lt_of_le hq HWS.out) (fun e => by have := (HO.out.1.lt q e.symm).1; omega)⟩⟩); clear ho9 hg9)) | (go_at_call 8; refine (HMM.out _ w9 HO9.out.1 HO9.out.2).mono ?_; rintro e w2 ⟨⟨v2, rfl, ho⟩, hb⟩; (have HO2 : Hid (w2.ownsRow w.heap.size 45 2 v2 ml.length (atL ml) ∧ Below w.heap.size w w2) := ⟨ho, hb⟩); clear ho hb))
    go_ret2
    exact ⟨⟨_, rfl, HO2.out.1⟩, HO2.out.2⟩

end Go.Proofs.YtnfocmoieofbpaaDoor
