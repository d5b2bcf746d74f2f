/- Matchers sorted. -/
import Derived.Test.YtgmpmpgfpchbcaaGreatDoorX6
import Derived.Test.YtgmpmpgfpchbcaaGreatDoorSm
namespace Go.Proofs.YtgmpmpgfpchbcaaGreatDoor
open Go.RowKit Go.Shelf Go.Sort
set_option linter.unusedVariables false
set_option linter.unusedSectionVars false
set_option linter.unusedSimpArgs false

theorem cs_def (a b : List UInt8) : csI a b = if a < b then -1 else if a = b then 0 else 1 := by
  unfold csI
  rw [bytesLess_eq]
  by_cases h : a < b
  · rw [if_pos (decide_eq_true h), if_pos h]
  · rw [if_neg (by simpa using h), if_neg h]
theorem cs_lt (a b : List UInt8) : csI a b < 0 ↔ a < b := by
  rw [cs_def]
  by_cases h : a < b
  · rw [if_pos h]; exact ⟨fun _ => h, fun _ => by decide⟩
  · rw [if_neg h]
    by_cases e : a = b
    · rw [if_pos e]; exact ⟨fun g => by omega, fun g => (h g).elim⟩
    · rw [if_neg e]; exact ⟨fun g => by omega, fun g => (h g).elim⟩
theorem cs_zero (a b : List UInt8) : csI a b = 0 ↔ a = b := ⟨cs_eq a b, fun e => by rw [e, cs_self]⟩
theorem cs_gt (a b : List UInt8) : 0 < csI a b ↔ b < a := by
  rw [cs_def]
  by_cases h : a < b
  · rw [if_pos h]
    exact ⟨fun g => by omega, fun g => (List.lt_irrefl _ (List.lt_trans h g)).elim⟩
  · rw [if_neg h]
    by_cases e : a = b
    · rw [if_pos e]; exact ⟨fun g => by omega, fun g => by rw [e] at g; exact (List.lt_irrefl _ g).elim⟩
    · rw [if_neg e]
      refine ⟨fun _ => ?_, fun _ => by decide⟩
      rcases lt_or a b with g | g | g
      · exact (h g).elim
      · exact (e g).elim
      · exact g
theorem cs_anti (a b : List UInt8) : csI a b = - csI b a := by
  rw [cs_def a b, cs_def b a]
  rcases lt_or a b with g | g | g
  · have h : ¬ b < a := fun k => List.lt_irrefl _ (List.lt_trans g k)
    have e : ¬ b = a := fun k => by rw [k] at g; exact List.lt_irrefl _ g
    rw [if_pos g, if_neg h, if_neg e]
  · subst g
    rw [if_neg (List.lt_irrefl _), if_pos rfl]; rfl
  · have h : ¬ a < b := fun k => List.lt_irrefl _ (List.lt_trans g k)
    have e : ¬ a = b := fun k => by rw [k] at g; exact List.lt_irrefl _ g
    rw [if_neg h, if_neg e, if_pos g]; rfl
theorem cs_le (a b c : List UInt8) (h1 : csI a b ≤ 0) (h2 : csI b c ≤ 0) : csI a c ≤ 0 ∧ (csI a c = 0 → csI a b = 0 ∧ csI b c = 0) := by
  rcases lt_or a b with g | g | g
  · have hac : a < c := by
      rcases lt_or b c with k | k | k
      · exact List.lt_trans g k
      · rw [← k]; exact g
      · have := (cs_gt b c).2 k; omega
    have := (cs_lt a c).2 hac
    exact ⟨by omega, fun e => by omega⟩
  · subst g
    exact ⟨h2, fun e => ⟨cs_self _, e⟩⟩
  · have := (cs_gt a b).2 g; omega
/-- What an order's three comparisons have to do with one another. -/
def Tr (a b c : Int) : Prop := a ≤ 0 → b ≤ 0 → c ≤ 0 ∧ (c = 0 → a = 0 ∧ b = 0) ∧ (a = 0 → b = 0 → c = 0)
theorem tr_or {a b c a' b' c' : Int} (h : Tr a b c) (h' : Tr a' b' c') : Tr (orI a a') (orI b b') (orI c c') := by
  unfold Tr orI at *
  intro h1 h2
  split at h1 <;> split at h2 <;> split <;> omega
theorem tr_cs (a b c : List UInt8) : Tr (csI a b) (csI b c) (csI a c) := fun h1 h2 => by
  obtain ⟨g1, g2⟩ := cs_le a b c h1 h2
  refine ⟨g1, g2, fun e1 e2 => ?_⟩
  rw [cs_zero] at e1 e2 ⊢
  rw [e1, e2]
theorem tr_ci (a b c : Int) : Tr (ciI a b) (ciI b c) (ciI a c) := by
  unfold Tr ciI
  intro h1 h2
  split at h1 <;> split at h2 <;> (try split at h1) <;> (try split at h2) <;> (repeat' split) <;> omega
theorem ci_anti (a b : Int) : ciI a b = - ciI b a := by
  unfold ciI
  (repeat' split) <;> omega
theorem or_anti (a b : Int) : orI (-a) (-b) = - orI a b := by
  unfold orI
  (repeat' split) <;> omega
theorem cm_anti (x y : Mt) : cmI x y = - cmI y x := by
  unfold cmI
  rw [cs_anti x.key y.key, cs_anti x.val y.val, ci_anti x.op y.op, or_anti, or_anti]
theorem cm_tr (x y z : Mt) : Tr (cmI x y) (cmI y z) (cmI x z) := tr_or (tr_cs _ _ _) (tr_or (tr_ci _ _ _) (tr_cs _ _ _))
theorem lt_cm (x y : Mt) : ltOf cmI x y = decide (cmI x y < 0) := rfl
theorem cm_swo : Go.Sort.SWO (ltOf cmI) := by
  refine ⟨fun x => ?_, fun x y z h1 h2 => ?_, fun x y z h1 h2 => ?_⟩
  · rw [lt_cm]
    have := cm_anti x x
    exact decide_eq_false (by omega)
  · rw [lt_cm, decide_eq_true_eq] at h1 h2 ⊢
    have := cm_tr x y z (by omega) (by omega)
    omega
  · rw [lt_cm, decide_eq_false_iff_not] at h1 h2 ⊢
    have a1 := cm_anti x y
    have a2 := cm_anti y z
    have a3 := cm_anti x z
    have := cm_tr z y x (by omega) (by omega)
    omega
def mt3 (x : Mt) : List Value := [.int .i64 x.op, .string (tx x.key), .string (tx x.val)]
def mtL (l : List Mt) : List Value := l.flatMap mt3
theorem mtL_len : ∀ l : List Mt, (mtL l).length = l.length * 3
  | [] => rfl
  | x :: l => by
    have := mtL_len l
    simp only [mtL, List.flatMap_cons, List.length_append, List.length_cons] at this ⊢
    rw [this]
    simp [mt3]
    omega
theorem mtL_get : ∀ (l : List Mt) (i : Nat) (x : Mt), l[i]? = some x → ∀ c, c < 3 → (mtL l)[i * 3 + c]? = (mt3 x)[c]?
  | [], i, x, h, _, _ => by simp at h
  | y :: l, 0, x, h, c, hc => by
    simp at h
    subst h
    rw [show mtL (y :: l) = mt3 y ++ mtL l by simp [mtL], List.getElem?_append_left (by simp [mt3]; omega)]
    simp
  | y :: l, i + 1, x, h, c, hc => by
    have := mtL_get l i x (by simpa using h) c hc
    rw [show mtL (y :: l) = mt3 y ++ mtL l by simp [mtL], List.getElem?_append_right (by simp [mt3]; omega)]
    rw [← this]
    congr 1
    simp [mt3]
    omega
variable [Inhabited Mt]
theorem cmpLaysM (blk off size : Nat) (w : World) : CmpLays Tryz.prog 15 #[] mt3 3 cmI blk off size w := fun _ _ _ _ x y => cmp_grow x y _
theorem flat_mtLM (l : List Mt) : (flatK mt3 3 l.toArray).toList = mtL l := by
  apply List.ext_getElem?
  intro t
  by_cases ht : t < l.length * 3
  · have hi : t / 3 < l.length := by omega
    have hx : l[t / 3]? = some l[t / 3] := List.getElem?_eq_getElem hi
    have h := mtL_get l (t / 3) _ hx (t % 3) (by omega)
    rw [show t / 3 * 3 + t % 3 = t by omega] at h
    rw [h, Array.getElem?_toList, Array.getElem?_eq_getElem (by simp; exact ht)]
    simp only [flatK, Array.getElem_map, Array.getElem_range]
    have e1 : l.toArray[t / 3]! = l[t / 3] := by simp [hi]
    rw [e1]
    have h2 : t % 3 = 0 ∨ t % 3 = 1 ∨ t % 3 = 2 := by omega
    rcases h2 with h2 | h2 | h2 <;> rw [h2] <;> rfl
  · rw [List.getElem?_eq_none (by simp; omega), List.getElem?_eq_none (by rw [mtL_len]; omega)]
theorem holdsK_ownM {w : World} {g : Nat} {cur : Array Value} {l : List Mt} (hb : w.heap[g]? = some (.cells cur 30 (0, 0))) (ht : cur.toList.take (l.length * 3) = mtL l) : HoldsK mt3 3 w g 0 l.toArray := by
  intro j hj
  have hj' : j < l.length * 3 := by simpa using hj
  refine ⟨?_, by simp [World.frozen?, hb]⟩
  have h1 : (cur.toList.take (l.length * 3))[j]? = (mtL l)[j]? := by rw [ht]
  rw [List.getElem?_take_of_lt hj', ← flat_mtLM, Array.getElem?_toList, Array.getElem?_toList] at h1
  simp only [World.cell?, hb, Nat.zero_add]
  simp only [Option.isSome_none, Bool.false_eq_true, if_false]
  rw [h1, Array.getElem?_eq_getElem hj, getElem!_pos _ j hj]
  rfl
theorem heap_sortedKM {w : World} {g n : Nat} {os : Array Obj} {cur : Array Value} {e : TypeId} {fr : Nat × Nat} (d : Array Mt) (hb : w.heap[g]? = some (.cells cur e fr)) :
    (sortWorldK mt3 3 w g 0 n d os).heap[g]? = some (.cells (putCells id 0 (flatK mt3 3 d) cur) e fr) := by
  have hg : g < w.heap.size := (Array.getElem?_eq_some_iff.1 hb).1
  unfold sortWorldK putRowK
  rw [heap_grow_old _ _ (by simpa using hg)]
  simp [putRow, mapBlock, Sort.ahead, Array.getElem?_modify, hb, onCells]
theorem grownBy_sortedKM {w : World} {g n : Nat} {os : Array Obj} (d : Array Mt) : w.grownBy (sortWorldK mt3 3 w g 0 n d os) (some g) := by
  refine ⟨rfl, rfl, rfl, by simp [sortWorldK, putRowK], fun k hk hne => ?_⟩
  unfold sortWorldK putRowK
  rw [heap_grow_old _ _ (by simpa using hk)]
  have : g ≠ k := fun e => hne (by rw [e])
  simp [putRow, mapBlock, Sort.ahead, Array.getElem?_modify, this]
theorem take_putCellsKM (cur fl : Array Value) (h : fl.size ≤ cur.size) : (putCells id 0 fl cur).toList.take fl.size = fl.toList := by
  apply List.ext_getElem?
  intro j
  by_cases hj : j < fl.size
  · rw [List.getElem?_take_of_lt hj, Array.getElem?_toList]
    simp [putCells, hj, show j < cur.size by omega]
  · rw [List.getElem?_take_eq_none (by omega), List.getElem?_eq_none (by simp; omega)]
/-- Behind the sort the same slice owns what is sorted. -/
theorem own_sortedKM {w : World} {base g cap n : Nat} {os : Array Obj} {cur : Array Value} (d : List Mt) (hbase : base ≤ g) (hb : w.heap[g]? = some (.cells cur 30 (0, 0))) (h1 : d.length ≤ cap) (h2 : cap ≤ maxLen) (h3 : cur.size = cap * 3) :
    (sortWorldK mt3 3 w g 0 n d.toArray os).ownsRow base 30 3 (.slice (some ⟨g, 0, none⟩) d.length cap) d.length (mtL d) := by
  refine ⟨mtL_len d, .inr ⟨g, cap, _, rfl, hbase, heap_sortedKM _ hb, h1, h2, by simp [putCells, h3], ?_⟩⟩
  have e := take_putCellsKM cur (flatK mt3 3 d.toArray) (by simp; omega)
  rw [flat_mtLM] at e
  rw [← e]
  congr 1
  simp
/-- No elements: nothing turns. -/
theorem ins_noneM (p : Option Addr) (cap : Nat) (fv : Value) (w : World) : Calls Tryz.prog 43 #[.slice p 0 cap, .int .i64 0, .int .i64 0, fv] w fun e w' => e = .returned (.tuple #[]) ∧ w' = w := by
  go_enter Tryz.func43, Tryz.ntmps43
  go_wp2
  refine wp_loop_rounds 1 ?_
  rw [rounds_succ]
  go_wp2
  go_end0
  exact ⟨rfl, rfl⟩
theorem pdq_noneM (p : Option Addr) (cap : Nat) (lim : Int) (fv : Value) (w : World) : Calls Tryz.prog 26 #[.slice p 0 cap, .int .i64 0, .int .i64 0, .int .i64 lim, fv] w fun e w' => e = .returned (.tuple #[]) ∧ w' = w := by
  have HI : Hid (∀ W, Calls Tryz.prog 43 #[.slice p 0 cap, .int .i64 0, .int .i64 0, fv] W fun e w' => e = .returned (.tuple #[]) ∧ w' = W) := fun W => ins_noneM p cap fv W
  go_enter Tryz.func26, Tryz.ntmps26
  go_wp2
  refine wp_loop_rounds 1 ?_
  rw [rounds_succ]
  go_wp2_with (go_at_call 43; refine (HI.out _).mono ?_; rintro e w1 ⟨rfl, hw1⟩; rw [hw1]; clear hw1)
  (try simp only [Exit.inBlock, Exit.then]); refine bodyPost_ret (results_none rfl _ _ _) rfl ?_
  exact ⟨rfl, rfl⟩
theorem sort_noneM (p : Option Addr) (cap : Nat) (fv : Value) (w : World) : Calls Tryz.prog 14 #[.slice p 0 cap, fv] w fun e w' => e = .returned (.tuple #[]) ∧ w' = w := by
  have HP : Hid (∀ lim W, Calls Tryz.prog 26 #[.slice p 0 cap, .int .i64 0, .int .i64 0, .int .i64 lim, fv] W fun e w' => e = .returned (.tuple #[]) ∧ w' = W) := fun lim W => pdq_noneM p cap lim fv W
  have hl : ∀ W, Calls Tryz.prog 27 #[.int .u64 0] W fun e w' => e = .returned (.int .i64 (Lib.bitLen 0 : Nat)) ∧ w' = W := fun W => Any.bits_Len (SlLaysF0.n15.bits (P := Tryz.prog) (ρ := Tryz.laysSortM_ren) { Tryz.laysSortM with }) 0 W (by omega) (by omega)
  have HLn : Hid (∀ W, Calls Tryz.prog 27 #[.int .u64 0] W fun e w' => e = .returned (.int .i64 (Lib.bitLen 0 : Nat)) ∧ w' = W) := hl
  clear hl
  go_enter Tryz.func14, Tryz.ntmps14
  go_wp2_with (first | (go_at_call 27; refine (HLn.out _).mono ?_; rintro e w1 ⟨rfl, hw1⟩; rw [hw1]; clear hw1) | (go_at_call 26; refine (HP.out _ _).mono ?_; rintro e w1 ⟨rfl, hw1⟩; rw [hw1]; clear hw1))
  go_end0
  exact ⟨rfl, rfl⟩
theorem sort_anyM (base : Nat) (v : Value) (l : List Mt) (w : World) (h : w.ownsRow base 30 3 v l.length (mtL l)) (hsm : l.length < 4611686018427387904) :
    Calls Tryz.prog 14 #[v, .func (.func 15) #[] #[]] w fun e w' => e = .returned (.tuple #[]) ∧ ∃ d : List Mt, d.Perm l ∧ w'.ownsRow base 30 3 v d.length (mtL d) ∧ w.grownBy w' v.ownBlock := by
  rcases h.2 with ⟨h1, h2⟩ | ⟨g, cap, cur, h1, h2, h3, h4, h5, h6, h7⟩
  · have hl : l = [] := List.eq_nil_of_length_eq_zero h2
    subst hl
    subst h1
    refine (sort_noneM none 0 _ w).mono ?_
    rintro e w' ⟨rfl, rfl⟩
    exact ⟨rfl, [], List.Perm.refl _, h, ⟨rfl, rfl, rfl, Nat.le_refl _, fun _ _ _ => rfl⟩⟩
  · subst h1
    have hc := AnyQ.slices_SortFunc Tryz.laysSortM 3 Tryz.isAgg30 Tryz.sizeOf30 mt3 (fun _ => rfl) (fun x u hu => by simp [mt3] at hu; rcases hu with rfl | rfl | rfl <;> rfl) cmI cm_swo 15 #[] g 0 cap l.toArray w (enters_of Tryz.func15 (by kernel_rfl) rfl) (cmpLaysM g 0 _ w) (holdsK_ownM h3 h7) (Array.getElem?_eq_some_iff.1 h3).1 (by simpa using hsm)
    refine Calls.mono hc ?_
    rintro e w' ⟨rfl, d', n, os, hp, hs, rfl⟩
    have hsz : d'.toList.length = l.length := by have := hp.1; simpa using this
    refine ⟨rfl, d'.toList, ?_, ?_, ?_⟩
    · have := hp.2.2
      simp at this
      rw [List.take_of_length_le (by omega)] at this
      exact this
    · have := own_sortedKM (w := w) (base := base) (n := n) (os := os) d'.toList h2 h3 (by rw [hsz]; exact h4) h5 h6
      rw [hsz] at this ⊢
      exact this
    · exact grownBy_sortedKM d'

end Go.Proofs.YtgmpmpgfpchbcaaGreatDoor
