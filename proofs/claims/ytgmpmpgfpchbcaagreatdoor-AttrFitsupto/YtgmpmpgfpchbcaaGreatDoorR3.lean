/- Attributes sorted by the library. -/
import Derived.Test.YtgmpmpgfpchbcaaGreatDoorR2
namespace Go.Proofs.YtgmpmpgfpchbcaaGreatDoor
open Go.RowKit Go.Shelf Go.Sort
set_option linter.unusedVariables false
set_option linter.unusedSimpArgs false

theorem byKey_grow (x y : At) (W : World) : Calls Tryz.prog 34 #[.agg #[.string (tx x.1), .string (tx x.2)], .agg #[.string (tx y.1), .string (tx y.2)]] W fun e w' => e = .returned (.int .i64 (csI x.1 y.1)) ∧ ∃ q os', w' = grow (W.drewN q) os' := by
  have HC : Hid (∀ V, Calls Tryz.prog 29 #[.string (tx x.1), .string (tx y.1)] V fun e w' => e = .returned (.int .i64 (csI x.1 y.1)) ∧ w' = V) := fun V => compare_any x.1 y.1 V
  go_enter Tryz.func34, Tryz.ntmps34
  go_wp2_with (go_at_call 29; refine (HC.out _).mono ?_; rintro e w1 ⟨rfl, hw1⟩; rw [hw1]; clear hw1)
  go_ret
  exact ⟨rfl, 0, _, by rw [alloc_eq_grow, alloc_eq_grow, grow_grow]; rfl⟩
theorem cmpLays (blk off size : Nat) (w : World) : CmpLays Tryz.prog 34 #[] at2 2 (fun x y => csI x.1 y.1) blk off size w := fun _ _ _ _ x y => byKey_grow x y _
theorem lt_klt : ltOf (fun x y : At => csI x.1 y.1) = klt := by
  funext x y
  unfold ltOf csI klt
  cases h : Op.bytesLess x.1 y.1
  · simp only [h, Bool.false_eq_true, if_false]
    by_cases e : x.1 = y.1
    · rw [if_pos e]; decide
    · rw [if_neg e]; decide
  · simp only [h, if_true]
    decide
theorem flat_atL (l : List At) : (flatK at2 2 l.toArray).toList = atL l := by
  apply List.ext_getElem?
  intro t
  by_cases ht : t < l.length * 2
  · have hi : t / 2 < l.length := by omega
    have hx : l[t / 2]? = some l[t / 2] := List.getElem?_eq_getElem hi
    have h := atL_get l (t / 2) _ hx (t % 2) (by omega)
    rw [show t / 2 * 2 + t % 2 = t by omega] at h
    rw [h, Array.getElem?_toList, Array.getElem?_eq_getElem (by simp; exact ht)]
    simp only [flatK, Array.getElem_map, Array.getElem_range]
    have e1 : l.toArray[t / 2]! = l[t / 2] := by simp [hi]
    rw [e1]
    have h2 : t % 2 = 0 ∨ t % 2 = 1 := by omega
    rcases h2 with h2 | h2 <;> rw [h2] <;> rfl
  · rw [List.getElem?_eq_none (by simp; omega), List.getElem?_eq_none (by rw [atL_len]; omega)]
theorem holdsK_own {w : World} {g : Nat} {cur : Array Value} {l : List At} (hb : w.heap[g]? = some (.cells cur 44 (0, 0))) (ht : cur.toList.take (l.length * 2) = atL l) : HoldsK at2 2 w g 0 l.toArray := by
  intro j hj
  have hj' : j < l.length * 2 := by simpa using hj
  refine ⟨?_, by simp [World.frozen?, hb]⟩
  have h1 : (cur.toList.take (l.length * 2))[j]? = (atL l)[j]? := by rw [ht]
  rw [List.getElem?_take_of_lt hj', ← flat_atL, Array.getElem?_toList, Array.getElem?_toList] at h1
  simp only [World.cell?, hb, Nat.zero_add]
  simp only [Option.isSome_none, Bool.false_eq_true, if_false]
  rw [h1, Array.getElem?_eq_getElem hj, getElem!_pos _ j hj]
  rfl
theorem heap_sortedK {w : World} {g n : Nat} {os : Array Obj} {cur : Array Value} {e : TypeId} {fr : Nat × Nat} (d : Array At) (hb : w.heap[g]? = some (.cells cur e fr)) :
    (sortWorldK at2 2 w g 0 n d os).heap[g]? = some (.cells (putCells id 0 (flatK at2 2 d) cur) e fr) := by
  have hg : g < w.heap.size := (Array.getElem?_eq_some_iff.1 hb).1
  unfold sortWorldK putRowK
  rw [heap_grow_old _ _ (by simpa using hg)]
  simp [putRow, mapBlock, Sort.ahead, Array.getElem?_modify, hb, onCells]
theorem grownBy_sortedK {w : World} {g n : Nat} {os : Array Obj} (d : Array At) : w.grownBy (sortWorldK at2 2 w g 0 n d os) (some g) := by
  refine ⟨rfl, rfl, rfl, by simp [sortWorldK, putRowK], fun k hk hne => ?_⟩
  unfold sortWorldK putRowK
  rw [heap_grow_old _ _ (by simpa using hk)]
  have : g ≠ k := fun e => hne (by rw [e])
  simp [putRow, mapBlock, Sort.ahead, Array.getElem?_modify, this]
theorem take_putCellsK (cur fl : Array Value) (h : fl.size ≤ cur.size) : (putCells id 0 fl cur).toList.take fl.size = fl.toList := by
  apply List.ext_getElem?
  intro j
  by_cases hj : j < fl.size
  · rw [List.getElem?_take_of_lt hj, Array.getElem?_toList]
    simp [putCells, hj, show j < cur.size by omega]
  · rw [List.getElem?_take_eq_none (by omega), List.getElem?_eq_none (by simp; omega)]
/-- Behind the sort the same slice owns what is sorted. -/
theorem own_sortedK {w : World} {base g cap n : Nat} {os : Array Obj} {cur : Array Value} (d : List At) (hbase : base ≤ g) (hb : w.heap[g]? = some (.cells cur 44 (0, 0))) (h1 : d.length ≤ cap) (h2 : cap ≤ maxLen) (h3 : cur.size = cap * 2) :
    (sortWorldK at2 2 w g 0 n d.toArray os).ownsRow base 44 2 (.slice (some ⟨g, 0, none⟩) d.length cap) d.length (atL d) := by
  refine ⟨atL_len d, .inr ⟨g, cap, _, rfl, hbase, heap_sortedK _ hb, h1, h2, by simp [putCells, h3], ?_⟩⟩
  have e := take_putCellsK cur (flatK at2 2 d.toArray) (by simp; omega)
  rw [flat_atL] at e
  rw [← e]
  congr 1
  simp
/-- No elements: nothing turns. -/
theorem ins_none (p : Option Addr) (cap : Nat) (fv : Value) (w : World) : Calls Tryz.prog 87 #[.slice p 0 cap, .int .i64 0, .int .i64 0, fv] w fun e w' => e = .returned (.tuple #[]) ∧ w' = w := by
  go_enter Tryz.func87, Tryz.ntmps87
  go_wp2
  refine wp_loop_rounds 1 ?_
  rw [rounds_succ]
  go_wp2
  go_end0
  exact ⟨rfl, rfl⟩
theorem pdq_none (p : Option Addr) (cap : Nat) (lim : Int) (fv : Value) (w : World) : Calls Tryz.prog 72 #[.slice p 0 cap, .int .i64 0, .int .i64 0, .int .i64 lim, fv] w fun e w' => e = .returned (.tuple #[]) ∧ w' = w := by
  have HI : Hid (∀ W, Calls Tryz.prog 87 #[.slice p 0 cap, .int .i64 0, .int .i64 0, fv] W fun e w' => e = .returned (.tuple #[]) ∧ w' = W) := fun W => ins_none p cap fv W
  go_enter Tryz.func72, Tryz.ntmps72
  go_wp2
  refine wp_loop_rounds 1 ?_
  rw [rounds_succ]
  go_wp2_with (go_at_call 87; refine (HI.out _).mono ?_; rintro e w1 ⟨rfl, hw1⟩; rw [hw1]; clear hw1)
  (try simp only [Exit.inBlock, Exit.then]); refine bodyPost_ret (results_none rfl _ _ _) rfl ?_
  exact ⟨rfl, rfl⟩
theorem sort_none (p : Option Addr) (cap : Nat) (fv : Value) (w : World) : Calls Tryz.prog 57 #[.slice p 0 cap, fv] w fun e w' => e = .returned (.tuple #[]) ∧ w' = w := by
  have HP : Hid (∀ lim W, Calls Tryz.prog 72 #[.slice p 0 cap, .int .i64 0, .int .i64 0, .int .i64 lim, fv] W fun e w' => e = .returned (.tuple #[]) ∧ w' = W) := fun lim W => pdq_none p cap lim fv W
  have hl : ∀ W, Calls Tryz.prog 27 #[.int .u64 0] W fun e w' => e = .returned (.int .i64 (Lib.bitLen 0 : Nat)) ∧ w' = W := fun W => Any.bits_Len (SlLaysF0.n15.bits (P := Tryz.prog) (ρ := Tryz.laysSort_ren) { Tryz.laysSort with }) 0 W (by omega) (by omega)
  have HLn : Hid (∀ W, Calls Tryz.prog 27 #[.int .u64 0] W fun e w' => e = .returned (.int .i64 (Lib.bitLen 0 : Nat)) ∧ w' = W) := hl
  clear hl
  go_enter Tryz.func57, Tryz.ntmps57
  go_wp2_with (first | (go_at_call 27; refine (HLn.out _).mono ?_; rintro e w1 ⟨rfl, hw1⟩; rw [hw1]; clear hw1) | (go_at_call 72; refine (HP.out _ _).mono ?_; rintro e w1 ⟨rfl, hw1⟩; rw [hw1]; clear hw1))
  go_end0
  exact ⟨rfl, rfl⟩
theorem sort_any (base : Nat) (v : Value) (l : List At) (w : World) (h : w.ownsRow base 44 2 v l.length (atL l)) (hsm : l.length < 4611686018427387904) :
    Calls Tryz.prog 57 #[v, .func (.func 34) #[] #[]] w fun e w' => e = .returned (.tuple #[]) ∧ ∃ d : List At, d.Perm l ∧ Srt d ∧ w'.ownsRow base 44 2 v d.length (atL d) ∧ w.grownBy w' v.ownBlock := by
  rcases h.2 with ⟨h1, h2⟩ | ⟨g, cap, cur, h1, h2, h3, h4, h5, h6, h7⟩
  · have hl : l = [] := List.eq_nil_of_length_eq_zero h2
    subst hl
    subst h1
    refine (sort_none none 0 _ w).mono ?_
    rintro e w' ⟨rfl, rfl⟩
    exact ⟨rfl, [], List.Perm.refl _, List.Pairwise.nil, h, ⟨rfl, rfl, rfl, Nat.le_refl _, fun _ _ _ => rfl⟩⟩
  · subst h1
    have hc := AnyQ.slices_SortFunc Tryz.laysSort 2 Tryz.isAgg44 Tryz.sizeOf44 at2 (fun _ => rfl) (fun x u hu => by simp [at2] at hu; rcases hu with rfl | rfl <;> rfl) (fun x y : At => csI x.1 y.1) (by rw [lt_klt]; exact klt_swo) 34 #[] g 0 cap l.toArray w (enters_of Tryz.func34 (by kernel_rfl) rfl) (cmpLays g 0 _ w) (holdsK_own h3 h7) (Array.getElem?_eq_some_iff.1 h3).1 (by simpa using hsm)
    refine Calls.mono hc ?_
    rintro e w' ⟨rfl, d', n, os, hp, hs, rfl⟩
    have hsz : d'.toList.length = l.length := by have := hp.1; simpa using this
    refine ⟨rfl, d'.toList, ?_, ?_, ?_, ?_⟩
    · have := hp.2.2
      simp at this
      rw [List.take_of_length_le (by omega)] at this
      exact this
    · unfold Srt
      rw [List.pairwise_iff_getElem]
      intro i j hi hj hij
      have := hs i j (Nat.zero_le _) hij (by simp at hj; have := hp.1; simp at this; simp; omega)
      rw [lt_klt] at this
      have hi' : i < d'.size := by simpa using hi
      have hj' : j < d'.size := by simpa using hj
      rw [getElem!_pos d' i hi', getElem!_pos d' j hj'] at this
      exact this
    · have := own_sortedK (w := w) (base := base) (n := n) (os := os) d'.toList h2 h3 (by rw [hsz]; exact h4) h5 h6
      rw [hsz] at this ⊢
      exact this
    · exact grownBy_sortedK d'
end Go.Proofs.YtgmpmpgfpchbcaaGreatDoor
