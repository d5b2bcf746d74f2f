import Derived.Test.YtflhgphjkhplmaaML08
import Derived.Maps.RangeRun
import Derived.Laws.IdiomRangeMap
import Derived.Test.YtflhgphjkhplmaaML07
import Derived.BigQuiet
/- Bytes are put into a file that there was not; and what is refused. -/
namespace Go.Proofs.Ytflhgphjkhplmaa.D
open Go.RowKit
set_option linter.unusedVariables false
set_option linter.unusedSimpArgs false

variable {w w' : World} {D K : Nat} {F : Nat → Prop} {sy : Int} {dl : List Fd} {s s' : List UInt8} {x : Fd}
theorem run_len68 {w : World} {B : Nat} {ml : List (List UInt8 × Nat)} (h : MM w B ml) (ty : TypeId) : (Builtin.len_ #[88] ty #[.map (some B)]).run Try.prog w = .ok (.int .i64 (ml.length : Int)) w := by
  obtain ⟨es, c, h1, h2, hB⟩ := h
  have hl : es.length = ml.length := by have := h2.length_eq; simpa [prs] using this
  unfold MapAt at h1
  simp [Builtin.len_, run_underlying under68, MapKept.run_getObj_map h1, Result.andThen, ents, goInt, hl]
theorem run_len68_nil (w : World) (ty : TypeId) : (Builtin.len_ #[88] ty #[.map none]).run Try.prog w = .ok (.int .i64 0) w := by
  simp [Builtin.len_, run_underlying under68, Result.andThen, goInt]
theorem DR.count (h : DR w D F sy dl) : ∃ mv, w.heap[D]? = some (.cells #[.map mv, .int .i64 sy] 90 (0, 0)) ∧ ∀ ty, (Builtin.len_ #[88] ty #[.map mv]).run Try.prog w = .ok (.int .i64 (dl.length : Int)) w := by
  rcases h.ex with ⟨rfl, h1, -⟩ | ⟨K, tl, h1, h2, -⟩
  · exact ⟨none, h1, fun ty => run_len68_nil w ty⟩
  · refine ⟨some K, h1.box, fun ty => ?_⟩
    have := run_len68 h1.km ty
    rwa [show (mlT tl).length = dl.length by rw [← h2.length_eq]; simp [mlT]] at this
set_option maxRecDepth 20000 in
set_option maxHeartbeats 1000000 in
theorem append_key (h : DR w D F sy dl) (hl : (s.length : Int) ≤ 140737488351232) (hn : nameB s = false) (sv : Value) : Calls Try.prog 55 #[.pointer (some ⟨D, 0, none⟩), .string (tx s), sv] w fun e w' => e = .returned (.int .i64 40) ∧ w' = w := by
  have HNA : Hid (Calls Try.prog 56 #[.string (tx s)] w fun e w' => e = .returned (.bool false) ∧ w' = w) := by
    have := name_any s w hl
    rw [hn] at this
    exact this
  cases hk : lkF s dl with
  | none =>
    have HFI : Hid (Calls Try.prog 74 #[.pointer (some ⟨D, 0, none⟩), .string (tx s)] w fun e w' => e = .returned (.tuple #[.pointer none, .int .i64 5]) ∧ w' = w) := h.findNo hk
    clear h hk hl hn
    go_enter Try.func55, Try.ntmps55
    go_wp2_with (first | (go_at_call 74; refine HFI.out.mono ?_; rintro e w1 ⟨rfl, hw1⟩; rw [hw1]; clear hw1) | (go_at_call 56; refine HNA.out.mono ?_; rintro e w1 ⟨rfl, hw1⟩; rw [hw1]; clear hw1))
    go_ret
    exact ⟨rfl, rfl⟩
  | some x =>
    obtain ⟨K, f, Ff, h1, h2, -⟩ := h.open hk
    have HFI : Hid (Calls Try.prog 74 #[.pointer (some ⟨D, 0, none⟩), .string (tx s)] w fun e w' => e = .returned (.tuple #[.pointer (some ⟨f, 0, none⟩), .int .i64 0]) ∧ w' = w) := find_yes h1 h2
    clear h hk hl hn h1 h2
    go_enter Try.func55, Try.ntmps55
    go_wp2_with (first | (go_at_call 74; refine HFI.out.mono ?_; rintro e w1 ⟨rfl, hw1⟩; rw [hw1]; clear hw1) | (go_at_call 56; refine HNA.out.mono ?_; rintro e w1 ⟨rfl, hw1⟩; rw [hw1]; clear hw1))
    go_ret
    exact ⟨rfl, rfl⟩
set_option maxRecDepth 20000 in
set_option maxHeartbeats 1000000 in
theorem append_size (h : DR w D F sy dl) (hs : lkF s dl = some x) (hl : (s.length : Int) ≤ 140737488351232) (hn : nameB s = true) {sv : Value} {N : Nat} (hsv : ∃ sa sc, sv = .slice sa N sc) (hx : x.b.length ≤ 1048576) (hfit : ¬ (N : Int) ≤ 1048576 - x.b.length) (hN : (N : Int) ≤ 140737488351232) :
    Calls Try.prog 55 #[.pointer (some ⟨D, 0, none⟩), .string (tx s), sv] w fun e w' => e = .returned (.int .i64 4) ∧ w' = w := by
  obtain ⟨K, f, Ff, h1, h2, ⟨dv, bv, g1, g2, g3, g4⟩, -⟩ := h.open hs
  have HFI : Hid (Calls Try.prog 74 #[.pointer (some ⟨D, 0, none⟩), .string (tx s)] w fun e w' => e = .returned (.tuple #[.pointer (some ⟨f, 0, none⟩), .int .i64 0]) ∧ w' = w) := find_yes h1 h2
  have HNA : Hid (Calls Try.prog 56 #[.string (tx s)] w fun e w' => e = .returned (.bool true) ∧ w' = w) := by
    have := name_any s w hl
    rw [hn] at this
    exact this
  obtain ⟨da, dc, hdv⟩ := own_slice g2
  obtain ⟨sa, sc, rfl⟩ := hsv
  have cF : w.cell? ⟨f, 0, none⟩ = some dv := by rw [cell_of_row _ _ _ _ _ _ g1]; rfl
  rw [hdv] at cF
  obtain ⟨M, hM⟩ : ∃ M, x.b.length = M := ⟨_, rfl⟩
  rw [hM] at cF hfit hx
  clear h hs h1 h2 hl hn g1 g2 g3 g4 hdv hM
  go_enter Try.func55, Try.ntmps55
  go_wp2_with (first | (go_at_call 74; refine HFI.out.mono ?_; rintro e w1 ⟨rfl, hw1⟩; rw [hw1]; clear hw1) | (go_at_call 56; refine HNA.out.mono ?_; rintro e w1 ⟨rfl, hw1⟩; rw [hw1]; clear hw1))
  go_ret
  exact ⟨rfl, rfl⟩
set_option maxRecDepth 20000 in
set_option maxHeartbeats 4000000 in
theorem append_new (h : DR w D F sy dl) (hs : lkF s dl = none) (hl : (s.length : Int) ≤ 140737488351232) (hn : nameB s = true) {sv : Value} {bs : List Int} (hsv : w.ownsRow 0 5 1 sv bs.length (u8l bs)) (hap : ∀ q, sv.ownBlock = some q → ¬ F q) (hd : dl.length ≤ 64) (hb : bs.length ≤ 1048576 + 1048576) :
    Calls Try.prog 55 #[.pointer (some ⟨D, 0, none⟩), .string (tx s), sv] w fun e w' => e = .returned (.int .i64 (if 1048576 < bs.length then 4 else if dl.length = 64 then 7 else 0)) ∧ ∃ F', DR w' D F' sy (if 1048576 < bs.length then dl else if dl.length = 64 then dl else dl ++ [⟨s, bs, if bs = [] then [] else [0]⟩]) ∧ Fr F F' w w' := by
  have HFI : Hid (Calls Try.prog 74 #[.pointer (some ⟨D, 0, none⟩), .string (tx s)] w fun e w' => e = .returned (.tuple #[.pointer none, .int .i64 5]) ∧ w' = w) := h.findNo hs
  have HNA : Hid (Calls Try.prog 56 #[.string (tx s)] w fun e w' => e = .returned (.bool true) ∧ w' = w) := by
    have := name_any s w hl
    rw [hn] at this
    exact this
  obtain ⟨W, hW⟩ : ∃ W, w.alloc (.cells #[.slice none 0 0, .slice none 0 0] 118) = W := ⟨_, rfl⟩
  have hB : Below w.heap.size w W := by rw [← hW]; exact bel1 w _
  have hWF : W.heap[w.heap.size]? = some (.cells #[.slice none 0 0, .slice none 0 0] 118 (0, 0)) := by rw [← hW]; exact Go.heap_alloc_new _ _
  have hWD : DR W D F sy dl := h.newer hB
  have hFl : FL W w.heap.size (fun q => q = w.heap.size) [] [] := ⟨_, _, hWF, World.ownsRow_nil _ _ _ _, World.ownsRow_nil _ _ _ _, fun q => by simp [Value.ownBlock]⟩
  obtain ⟨mv, hbox, hlen⟩ := hWD.count
  have cW : W.cell? ⟨D, 0, none⟩ = some (.map mv) := by rw [cell_of_row _ _ _ _ _ _ hbox]; rfl
  have cWF : W.cell? ⟨w.heap.size, 0, none⟩ = some (.slice none 0 0) := by rw [cell_of_row _ _ _ _ _ _ hWF]; rfl
  have hlen3 := hlen 3
  have hnewF : ∀ q, q = w.heap.size → ¬ F q := fun q hq e => by have := h.lt q e; omega
  have hPU := put_any (s := s) hWD hFl hnewF
  have hout : outF s dl = dl := outF_none hs
  rw [hout] at hPU
  have hsW : W.ownsRow 0 5 1 sv bs.length (u8l bs) := own_at hsv fun q hq => hB.block q (hsv.lt q hq).2
  obtain ⟨sa, sc, hsl⟩ := own_slice hsv
  obtain ⟨N, hN⟩ : ∃ N, bs.length = N := ⟨_, rfl⟩
  obtain ⟨M, hM⟩ : ∃ M, dl.length = M := ⟨_, rfl⟩
  have HP : Hid (Calls Try.prog 81 #[.pointer (some ⟨D, 0, none⟩), .string (tx s), .pointer (some ⟨w.heap.size, 0, none⟩)] W fun e w2 => (∃ v, e = .returned v) ∧ (bs.length ≤ 1048576 → Calls Try.prog 82 #[.pointer (some ⟨w.heap.size, 0, none⟩), sv] w2 fun e w3 => (∃ v, e = .returned v) ∧ ∃ F', DR w3 D F' sy (dl ++ [⟨s, bs, if bs = [] then [] else [0]⟩]) ∧ Fr F F' w w3)) := by
    refine hPU.mono ?_
    rintro e w2 ⟨he, k1, F', k2, k3, k4⟩
    refine ⟨he, fun hbs => ?_⟩
    have hs2 : w2.ownsRow 0 5 1 sv bs.length (u8l bs) := own_at hsW fun q hq => k3.block q (hsW.lt q hq).2 (by
      rintro (e | e)
      · exact hap q hq e
      · have := (hsv.lt q hq).2; omega)
    refine (write_fl k1 (own_src5 hs2) (by simp; omega) (by simp)).mono ?_
    rintro e w3 ⟨he3, F2, l1, l2⟩
    obtain ⟨F3, m1, m2⟩ := k4 w3 F2 _ _ l1 l2
    refine ⟨he3, F3, by simpa using m1, ?_⟩
    have f1 : Fr F (fun q => F q ∨ q = w.heap.size) w W := ⟨hB.os, hB.tape, hB.output, hB.size, fun q hq _ => hB.block q hq, fun q hq => hq.imp id fun e => by omega⟩
    exact (f1.trans' k3).trans' m2
  have HE : Hid (DR W D F sy dl ∧ Fr F F w W) := ⟨hWD, Fr.newer hB⟩
  rw [hN] at HP hsl hb ⊢
  rw [hM] at hlen3 hd ⊢
  subst hsl
  clear h hs hl hn hsv hap hB hWD hFl hbox hlen hnewF hPU hout hsW hWF
  by_cases c1 : 1048576 < N
  · have c1' : (1048576 : Int) < (N : Int) := by omega
    rw [if_pos c1, if_pos c1]
    have hb' : (N : Int) ≤ 2097152 := by omega
    clear hb c1 HP hN hM
    go_enter Try.func55, Try.ntmps55
    go_wp2_with (first | (go_at_call 74; refine HFI.out.mono ?_; rintro e w1 ⟨rfl, hw1⟩; rw [hw1]; clear hw1) | (go_at_call 56; refine HNA.out.mono ?_; rintro e w1 ⟨rfl, hw1⟩; rw [hw1]; clear hw1))
    go_ret
    exact ⟨rfl, F, HE.out.1, HE.out.2⟩
  · have c1' : ¬ (1048576 : Int) < (N : Int) := by omega
    rw [if_neg c1, if_neg c1]
    by_cases c2 : M = 64
    · rw [if_pos c2, if_pos c2]
      subst c2
      clear hb c1 HP hN hM
      go_enter Try.func55, Try.ntmps55
      go_wp2_with (first | (go_at_call 74; refine HFI.out.mono ?_; rintro e w1 ⟨rfl, hw1⟩; rw [hw1]; clear hw1) | (go_at_call 56; refine HNA.out.mono ?_; rintro e w1 ⟨rfl, hw1⟩; rw [hw1]; clear hw1))
      go_ret
      exact ⟨rfl, F, HE.out.1, HE.out.2⟩
    · rw [if_neg c2, if_neg c2]
      have c2' : ((M : Int) == 64) = false := by rw [beq_eq_false_iff_ne]; omega
      have c2'' : ¬ (M : Int) = 64 := by omega
      have HN1 : Hid (N ≤ 1048576) := by show N ≤ 1048576; omega
      clear hb c1 hN hM c2
      generalize dl ++ [⟨s, bs, if bs = [] then [] else [0]⟩] = dl' at HP ⊢
      go_enter Try.func55, Try.ntmps55
      go_wp2_with (first | (go_at_call 74; refine HFI.out.mono ?_; rintro e w1 ⟨rfl, hw1⟩; rw [hw1]; clear hw1) | (go_at_call 56; refine HNA.out.mono ?_; rintro e w1 ⟨rfl, hw1⟩; rw [hw1]; clear hw1) | (go_at_call 81; refine HP.out.mono ?_; rintro e w2 ⟨⟨v2, rfl⟩, hk⟩; (have HK := hk HN1.out); (have HK2 : Hid (Calls Try.prog 82 #[.pointer (some ⟨w.heap.size, 0, none⟩), .slice sa N sc] w2 fun e w3 => (∃ v, e = .returned v) ∧ ∃ F', DR w3 D F' sy dl' ∧ Fr F F' w w3) := HK); clear hk HK) | (go_at_call 82; refine HK2.out.mono ?_; rintro e w3 ⟨⟨v3, rfl⟩, F3, m1, m2⟩; (have HR : Hid (DR w3 D F3 sy dl' ∧ Fr F F3 w w3) := ⟨m1, m2⟩); clear m1 m2))
      go_ret
      exact ⟨rfl, F3, HR.out.1, HR.out.2⟩
end Go.Proofs.Ytflhgphjkhplmaa.D

/- A range over a map that stays; how many writes are pending. -/
namespace Go.Proofs.Ytflhgphjkhplmaa.D
open Go.RowKit
set_option linter.unusedVariables false
set_option linter.unusedSimpArgs false

variable {w w' : World} {D K : Nat} {F : Nat → Prop} {sy : Int} {dl : List Fd} {s s' : List UInt8} {x : Fd} {tl : List Tn}
/-- What a range has not told yet. -/
def rest (es : List En) (seen : Array Nat) : List En := es.filter fun e => !seen.contains e.born
theorem perm_out : ∀ {l : List En} {e : En}, (l.map En.born).Nodup → e ∈ l → l.Perm (e :: l.filter fun x => x.born != e.born)
  | [], e, _, h => by simp at h
  | x :: r, e, hn, h => by
    obtain ⟨h1, h2⟩ := List.nodup_cons.1 (show (x.born :: r.map En.born).Nodup from hn)
    rcases List.mem_cons.1 h with h | h
    · subst h
      have h3 : (r.filter fun x => x.born != e.born) = r := List.filter_eq_self.2 fun y hy => by
        have : y.born ≠ e.born := fun e2 => h1 (List.mem_map.2 ⟨y, hy, e2⟩)
        simp [this]
      rw [List.filter_cons, h3]
      simp
    · have h3 : x.born ≠ e.born := fun e2 => h1 (List.mem_map.2 ⟨e, h, e2.symm⟩)
      have ih := perm_out h2 h
      rw [List.filter_cons, if_pos (by simp [h3])]
      exact (ih.cons x).trans (List.Perm.swap _ _ _)
theorem rest_perm {es : List En} {seen : Array Nat} {e : En} (hn : (es.map En.born).Nodup) (he : e ∈ es) (hs : seen.contains e.born = false) : (rest es seen).Perm (e :: rest es (seen.push e.born)) := by
  have h1 : ((rest es seen).map En.born).Nodup := hn.sublist ((List.filter_sublist).map _)
  have h2 : e ∈ rest es seen := List.mem_filter.2 ⟨he, by simpa using hs⟩
  have h3 : rest es (seen.push e.born) = (rest es seen).filter fun x => x.born != e.born := by
    unfold rest
    rw [List.filter_filter]
    refine List.filter_congr fun x hx => ?_
    rw [Array.contains_push]
    cases hc : seen.contains x.born <;> by_cases hb : x.born = e.born <;> simp [hc, hb, bne]
  rw [h3]
  exact perm_out h1 h2
/-- A step of a range. -/
theorem range_step {wr : World} {K r c : Nat} {es : List En} {seen : Array Nat} (hit : wr.heap[r]? = some (.mapIter (some K) c seen c)) (hmp : MapAt wr K es c) (bk : Bok es c) :
    (rest es seen = [] ∧ ∀ ty, (Instr.next (.pointer (some ⟨r, 0, none⟩)) false ty).run Try.prog wr = .ok (.tuple #[.bool false]) wr) ∨
    ∃ e ∈ es, ∃ V : World, (rest es seen).Perm (e :: rest es (seen.push e.born)) ∧ (Instr.next (.pointer (some ⟨r, 0, none⟩)) false 0).run Try.prog wr = .ok (.tuple #[.bool true, .string (tx e.nm), .pointer (some ⟨e.q, 0, none⟩)]) V ∧ (Instr.entry (.pointer (some ⟨r, 0, none⟩))).run Try.prog V = .ok (.tuple #[.string (tx e.nm), .pointer (some ⟨e.q, 0, none⟩)]) V ∧
      (∀ q, q ≠ r → V.heap[q]? = wr.heap[q]?) ∧ V.heap[r]? = some (.mapIter (some K) c (seen.push e.born) c) ∧ V.os = wr.os ∧ V.tape = wr.tape ∧ V.output = wr.output ∧ V.heap.size = wr.heap.size := by
  have hKr : K ≠ r := by
    rintro rfl
    unfold MapAt at hmp
    rw [hmp] at hit
    cases hit
  have hold : ∀ x ∈ ((ents es).toArray).toList, x.born < c := fun x hx => by
    simp [ents] at hx
    obtain ⟨e, he, rfl⟩ := hx
    exact bk.lt e he
  have hleft : leftOf (ents es).toArray seen = (ents (rest es seen)).toArray := by
    unfold leftOf rest
    apply Array.toList_inj.1
    simp [ents, List.filter_map, Function.comp_def]
  by_cases h0 : rest es seen = []
  · left
    refine ⟨h0, fun ty => ?_⟩
    rcases run_next_at (P := Try.prog) wr ty r K c c seen (ents es).toArray c hit hmp hold (Nat.le_refl _) with ⟨h1, hrun⟩ | ⟨e, he, w1, hw1, hrun⟩
    · exact hrun
    · rw [hleft, h0] at he
      simp [ents] at he
  · right
    rcases run_next_at (P := Try.prog) wr 0 r K c c seen (ents es).toArray c hit hmp hold (Nat.le_refl _) with ⟨h1, hrun⟩ | ⟨e, he, w1, hw1, hrun⟩
    · rw [hleft] at h1
      exact (h0 (List.eq_nil_of_length_eq_zero (by simpa [ents] using h1))).elim
    · rw [hleft] at he
      simp [ents] at he
      obtain ⟨en, hen, rfl⟩ := he
      obtain ⟨hes, hsn⟩ := List.mem_filter.1 hen
      have hsn' : seen.contains en.born = false := by simpa using hsn
      obtain ⟨V, hV⟩ : ∃ V, ChangeMaps.setBlock w1 r (.mapIter (some K) c (seen.push en.born) c) = V := ⟨_, rfl⟩
      have hoffV : ∀ q, q ≠ r → V.heap[q]? = wr.heap[q]? := fun q hq => by
        rw [← hV]
        show (w1.heap.setIfInBounds r _)[q]? = _
        rw [Array.getElem?_setIfInBounds_ne (fun e => hq e.symm)]
        rcases hw1 with rfl | rfl <;> rfl
      have hrlt : r < wr.heap.size := (Array.getElem?_eq_some_iff.1 hit).1
      have hitV : V.heap[r]? = some (.mapIter (some K) c (seen.push en.born) c) := by
        rw [← hV]
        show (w1.heap.setIfInBounds r _)[r]? = _
        have : r < w1.heap.size := by rcases hw1 with rfl | rfl <;> exact hrlt
        simp [this]
      refine ⟨en, hes, V, rest_perm bk.nd hes hsn', by rw [← hV]; exact hrun, ?_, hoffV, hitV, ?_, ?_, ?_, ?_⟩
      · exact run_entry_at V r K c seen (ents es).toArray c ⟨.string (tx en.nm), .pointer (some ⟨en.q, 0, none⟩), en.born⟩ hitV ((hoffV K hKr).trans hmp) (by simp [ents]; exact ⟨en, hes, rfl, rfl, rfl⟩) (by
          have : (ents es).toArray.toList.map (·.born) = es.map En.born := by simp [ents, Function.comp_def]
          rw [this]
          exact bk.nd)
      · rw [← hV]; rcases hw1 with rfl | rfl <;> rfl
      · rw [← hV]; rcases hw1 with rfl | rfl <;> rfl
      · rw [← hV]; rcases hw1 with rfl | rfl <;> rfl
      · rw [← hV]
        show (w1.heap.setIfInBounds r _).size = _
        rcases hw1 with rfl | rfl <;> simp
end Go.Proofs.Ytflhgphjkhplmaa.D

/- How many writes are pending. -/
namespace Go.Proofs.Ytflhgphjkhplmaa.D
open Go.RowKit
set_option linter.unusedVariables false
set_option linter.unusedSimpArgs false

variable {w w' : World} {D K : Nat} {F : Nat → Prop} {sy : Int} {dl : List Fd} {s s' : List UInt8} {x : Fd} {tl : List Tn}
def wsN (dl : List Fd) (s : List UInt8) : Nat := match lkF s dl with | some x => x.ws.length | none => 0
def totW (dl : List Fd) : Nat := (dl.map fun x => x.ws.length).sum
theorem sum_perm {a b : List Nat} (h : a.Perm b) : a.sum = b.sum := h.sum_nat
/-- An entry's file. -/
theorem DX.entry (h : DX w D K sy tl) (hp : (tl.map pl).Perm dl) {es : List En} (hpm : (prs es).Perm (mlT tl)) {e : En} (he : e ∈ es) : ∃ t ∈ tl, t.nm = e.nm ∧ t.L = e.q ∧ lkF e.nm dl = some (pl t) := by
  have hmem : (e.nm, e.q) ∈ mlT tl := hpm.mem_iff.1 (List.mem_map.2 ⟨e, he, rfl⟩)
  obtain ⟨t, ht, e1⟩ := List.mem_map.1 hmem
  obtain ⟨e2, e3⟩ := Prod.mk.inj e1
  have hnd : (dl.map Fd.nm).Nodup := by
    rw [← (hp.map Fd.nm).nodup_iff, pl_nm]
    exact h.nd
  have hx : pl t ∈ dl := hp.mem_iff.1 (List.mem_map.2 ⟨t, ht, rfl⟩)
  have := lkF_of hnd hx
  refine ⟨t, ht, e2, e3, ?_⟩
  rw [← e2]
  exact this
theorem wsN_sum (h : DX w D K sy tl) (hp : (tl.map pl).Perm dl) {es : List En} (hpm : (prs es).Perm (mlT tl)) : (es.map fun e => wsN dl e.nm).sum = totW dl := by
  have hnd : (dl.map Fd.nm).Nodup := by
    rw [← (hp.map Fd.nm).nodup_iff, pl_nm]
    exact h.nd
  have e1 : (es.map fun e => wsN dl e.nm) = (prs es).map fun p => wsN dl p.1 := by unfold prs; rw [List.map_map]; rfl
  have e2 : ((mlT tl).map fun p => wsN dl p.1) = (tl.map pl).map fun x => wsN dl x.nm := by unfold mlT; rw [List.map_map, List.map_map]; rfl
  rw [e1, sum_perm (hpm.map _), e2, sum_perm (hp.map _)]
  unfold totW
  congr 1
  refine List.map_congr_left fun x hx => ?_
  unfold wsN
  rw [lkF_of hnd hx]
def iLeft (es : List En) (w : World) (r : Nat) : Nat := match w.heap[r]? with | some (.mapIter _ _ seen _) => (rest es seen).length | _ => 0
theorem iLeft_at {es : List En} {r c k : Nat} {m : Option Nat} {seen : Array Nat} (h : w.heap[r]? = some (.mapIter m c seen k)) : iLeft es w r = (rest es seen).length := by
  unfold iLeft
  rw [h]
end Go.Proofs.Ytflhgphjkhplmaa.D

/- What a crash leaves of a file: plain; runs of make and min. -/
namespace Go.Proofs.Ytflhgphjkhplmaa.D
open Go.RowKit
set_option linter.unusedVariables false
set_option linter.unusedSimpArgs false

theorem row_at {w : World} {base g cap t : Nat} {f : Int → Value} {l : List Int} (h : w.ownsRow base t 1 (.slice (some ⟨g, 0, none⟩) l.length cap) l.length (l.map f)) (i : Nat) (x : Int) (hi : l[i]? = some x) : w.cell? ⟨g, i, none⟩ = some (f x) := by
  have hlt : i < l.length := (List.getElem?_eq_some_iff.1 hi).1
  rw [h.cellAt i (by omega), List.getElem?_map, hi]
  rfl
def uV (k : Int) : Value := .int .u8 k
theorem u8l_uV (b : List Int) : u8l b = b.map uV := rfl

/-- Where a file's bytes are safe. -/
def safeN (b ws : List Int) : Int := match ws with | [] => (b.length : Int) | x :: _ => x
/-- Do writes stand one behind the other? -/
def WsOk (n : Nat) (ws : List Int) : Prop := ∀ i, i < ws.length → 0 ≤ ws.getD i 0 ∧ ws.getD i 0 ≤ endI n ws i ∧ endI n ws i ≤ (n : Int)
/-- How many bytes of a write are kept. -/
def cwN (b ws ns : List Int) (i : Nat) : Int := min (ns.getD i 0) (endI b.length ws i - ws.getD i 0)
def wAt (ws : List Int) (i : Nat) : Nat := (ws.getD i 0).toNat
def crStep (b : List Int) (p : Nat) (k : Int) (st : List Int × Nat) : List Int × Nat := if 0 < k then (splice st.1 p ((b.drop p).take k.toNat), p + k.toNat) else st
def crS (b ws ns : List Int) : Nat → List Int × Nat
  | 0 => (splice (List.replicate b.length 0) 0 (b.take (safeN b ws).toNat), (safeN b ws).toNat)
  | i + 1 => crStep b (wAt ws i) (cwN b ws ns i) (crS b ws ns i)
/-- What is left. -/
def crB (b ws ns : List Int) : List Int := (crS b ws ns ws.length).1.take (crS b ws ns ws.length).2
theorem safe_ok {b ws : List Int} (h : WsOk b.length ws) : 0 ≤ safeN b ws ∧ safeN b ws ≤ (b.length : Int) := by
  cases ws with
  | nil => exact ⟨Int.natCast_nonneg _, Int.le_refl _⟩
  | cons x r =>
    have := h 0 (by simp)
    simp at this
    unfold safeN
    dsimp only
    omega
theorem crS_len {b ws ns : List Int} (h : WsOk b.length ws) : ∀ i, i ≤ ws.length → (crS b ws ns i).1.length = b.length ∧ (crS b ws ns i).2 ≤ b.length
  | 0, _ => by
    have := safe_ok h
    unfold crS
    refine ⟨?_, by dsimp only; omega⟩
    dsimp only
    rw [length_splice] <;> simp <;> omega
  | i + 1, hi => by
    obtain ⟨h1, h2⟩ := crS_len (ns := ns) h i (by omega)
    obtain ⟨w0, w1, w2⟩ := h i (by omega)
    unfold crS crStep
    split
    · rename_i hk
      have hk2 : cwN b ws ns i ≤ endI b.length ws i - ws.getD i 0 := Int.min_le_right _ _
      refine ⟨?_, by dsimp only; unfold wAt; omega⟩
      dsimp only
      rw [length_splice, h1]
      rw [List.length_take, List.length_drop]
      unfold wAt
      omega
    · exact ⟨h1, h2⟩
theorem crB_len {b ws ns : List Int} (h : WsOk b.length ws) : (crB b ws ns).length = (crS b ws ns ws.length).2 := by
  have := crS_len (ns := ns) h ws.length (Nat.le_refl _)
  unfold crB
  rw [List.length_take]
  omega
/-- Where there is no number, nothing is kept. -/
theorem crS_stop {b ws ns : List Int} : ∀ (j i : Nat), ns.length ≤ i → crS b ws ns (i + j) = crS b ws ns i
  | 0, i, _ => rfl
  | j + 1, i, h => by
    rw [show i + (j + 1) = i + j + 1 by omega, crS, crS_stop j i h]
    have : cwN b ws ns (i + j) ≤ 0 := by
      unfold cwN
      rw [List.getD_eq_getElem?_getD, List.getElem?_eq_none (by omega)]
      exact Int.min_le_left _ _
    unfold crStep
    rw [if_neg (by omega)]
theorem crS_min (b ws ns : List Int) : crS b ws ns (min ns.length ws.length) = crS b ws ns ws.length := by
  by_cases h : ns.length ≤ ws.length
  · rw [Nat.min_eq_left h]
    have := crS_stop (b := b) (ws := ws) (ns := ns) (ws.length - ns.length) ns.length (Nat.le_refl _)
    rw [← this]
    congr 1
    omega
  · rw [Nat.min_eq_right (by omega)]
theorem u8l_splice (a c : List Int) (p : Nat) : u8l (splice a p c) = splice (u8l a) p (u8l c) := by simp [u8l, splice, List.map_take, List.map_drop]
theorem made_u8 (n : Nat) : madeCells (Value.int .u8 0).cells n = (u8l (List.replicate n 0)).toArray := by
  apply Array.toList_inj.1
  apply List.ext_getElem?
  intro i
  by_cases h : i < n
  · simp [madeCells, u8l, h, Value.cells, Nat.mod_one]
  · simp [madeCells, u8l, h]
theorem make_any (n : Nat) (hn : n ≤ 2000000) (w : World) : (Instr.makeSlice 23 (.int .i64 (n : Int)) (.int .i64 (n : Int))).run Try.prog w = .ok (.slice (some ⟨w.heap.size, 0, none⟩) n n) (w.alloc (.cells (u8l (List.replicate n 0)).toArray 5)) := by
  obtain ⟨i0, hi, hz0, hz1, hz2⟩ := info_parts info5
  have h := run_make (P := Try.prog) w 23 5 i0 _ Try.underlying23 hi hz0 .i64 .i64 (n : Int) (n : Int) (by omega) (Int.le_refl _) (by rw [hz2]; omega) (by omega)
  rw [h, hz1]
  simp only [Int.toNat_natCast, Nat.mul_one]
  rw [made_u8]
end Go.Proofs.Ytflhgphjkhplmaa.D

/- A file is crashed. -/
namespace Go.Proofs.Ytflhgphjkhplmaa.D
open Go.RowKit
set_option linter.unusedVariables false
set_option linter.unusedSimpArgs false

variable {w w' : World}
/-- Numbers as they lie, in blocks that are there. -/
def NumsAt (w : World) (v : Value) (ns : List Int) : Prop := ∃ a cap, v = .slice a ns.length cap ∧ ns.length ≤ cap ∧ ∀ (i : Nat) (x : Int), ns[i]? = some x → ∃ b off, a = some ⟨b, off, none⟩ ∧ b < w.heap.size ∧ w.cell? ⟨b, off + i, none⟩ = some (iV x)
theorem NumsAt.later {v : Value} {ns : List Int} {B : Nat} (h : NumsAt w v ns) (hb : Below B w w') (hB : w.heap.size ≤ B) : NumsAt w' v ns := by
  obtain ⟨a, cap, h1, h2, h3⟩ := h
  refine ⟨a, cap, h1, h2, fun i x hi => ?_⟩
  obtain ⟨b, off, e1, e2, e3⟩ := h3 i x hi
  exact ⟨b, off, e1, by have := hb.size; omega, (hb.cell (p := ⟨b, off + i, none⟩) (by show b < B; omega)).trans e3⟩
/-- What a crash's loop keeps: the file lies as it lay, and the new row has what is kept. -/
structure KI (w wx : World) (k : Nat) (cur : List Int) : Prop where
  row : wx.heap[k]? = some (.cells (u8l cur).toArray 5 (0, 0))
  be : Below k w wx
/-- Bytes that can be copied into a row. -/
structure CpOk (W : World) (k p : Nat) (dp : Option Addr) (cs : List Int) (N L : Nat) : Prop where
  l : (u8l cs).length = N
  c : 0 < (u8l cs).length → (some ⟨k, p, none⟩ : Option Addr) = some ⟨k, p, none⟩ ∧ ∃ ad, dp = some ad ∧ ∀ j v, (u8l cs)[j]? = some v → W.cell? (ad.add j) = some v
  f : p + (u8l cs).length ≤ L
theorem getD_at {l : List Int} {i : Nat} (h : i < l.length) : l[i]? = some (l.getD i 0) := by
  rw [List.getD_eq_getElem?_getD, List.getElem?_eq_getElem h]
  rfl
set_option maxRecDepth 20000 in
set_option maxHeartbeats 4000000 in
theorem crash_any {f : Nat} {G : Nat → Prop} {b ws ns : List Int} {nv : Value} (h : FL w f G b ws) (hl : b.length ≤ 2000000) (hm : ws.length ≤ 2000000) (hok : WsOk b.length ws) (hn : NumsAt w nv ns) (hnl : (ns.length : Int) ≤ 140737488351232) :
    Calls Try.prog 70 #[.pointer (some ⟨f, 0, none⟩), nv] w fun e w' => (∃ v, e = .returned v) ∧ ∃ G', FL w' f G' (crB b ws ns) [] ∧ Fr G G' w w' := by
  have HFL : Hid (FL w f G b ws) := h
  have HNS : Hid (NumsAt w nv ns) := hn
  obtain ⟨dv, bv, g1, g2, g3, g4⟩ := h
  obtain ⟨na, nc, rfl, hnc, hcells⟩ := hn
  obtain ⟨da, dc, rfl⟩ := own_slice g2
  obtain ⟨ba, bc, rfl⟩ := own_slice g3
  have hdc := own_capv g2
  have hbc := own_capv g3
  have hlt : f < w.heap.size := (Array.getElem?_eq_some_iff.1 g1).1
  obtain ⟨W, hW⟩ : ∃ W, w.alloc (.cells (u8l (List.replicate b.length 0)).toArray 5) = W := ⟨_, rfl⟩
  have hmk := make_any b.length hl w
  rw [hW] at hmk
  have hB : Below w.heap.size w W := by rw [← hW]; exact bel1 _ _
  have HK0 : Hid (KI w W w.heap.size (List.replicate b.length 0)) := ⟨by rw [← hW]; exact Go.heap_alloc_new _ _, hB⟩
  have HC : Hid (∀ V, Below w.heap.size w V → V.cell? ⟨f, 0, none⟩ = some (.slice da b.length dc) ∧ V.cell? ⟨f, 1, none⟩ = some (.slice ba ws.length bc)) := fun V hV => by
    have r := (hV.block f hlt).trans g1
    exact ⟨by rw [cell_of_row _ _ _ _ _ _ r]; rfl, by rw [cell_of_row _ _ _ _ _ _ r]; rfl⟩
  have c0 : w.cell? ⟨f, 0, none⟩ = some (.slice da b.length dc) := (HC.out w (Below.refl _ _)).1
  obtain ⟨d0, d1⟩ := HC.out W hB
  obtain ⟨k, hk⟩ : ∃ k, w.heap.size = k := ⟨_, rfl⟩
  have HKK : Hid (w.heap.size = k) := hk
  have HOK : Hid (WsOk b.length ws ∧ 0 ≤ safeN b ws ∧ safeN b ws ≤ (b.length : Int)) := ⟨hok, safe_ok hok⟩
  have hs0 := (safe_ok hok).1
  have hs1 := (safe_ok hok).2
  obtain ⟨s0, hs⟩ : ∃ s0 : Nat, (safeN b ws).toNat = s0 := ⟨_, rfl⟩
  have hsi : safeN b ws = (s0 : Int) := by omega
  have HS : Hid (safeN b ws = (s0 : Int)) := hsi
  obtain ⟨n, hnn⟩ : ∃ n, b.length = n := ⟨_, rfl⟩
  obtain ⟨m, hmm⟩ : ∃ m, ws.length = m := ⟨_, rfl⟩
  obtain ⟨N, hNN⟩ : ∃ N, ns.length = N := ⟨_, rfl⟩
  have HN : Hid (b.length = n ∧ ws.length = m ∧ ns.length = N) := ⟨hnn, hmm, hNN⟩
  have hmi : (m : Int) ≤ (bc : Int) := by omega
  have hni : (n : Int) ≤ (dc : Int) := by omega
  have hl' : (n : Int) ≤ 2000000 := by omega
  have hm' : (m : Int) ≤ 2000000 := by omega
  have hnl' : (N : Int) ≤ 140737488351232 := by omega
  rw [hnn] at c0 d0 HC hmk HK0 hs1
  rw [hmm] at d1 HC
  rw [hNN]
  rw [hk] at hmk HK0 HC
  have hsn : (s0 : Int) ≤ (n : Int) := by omega
  have hsd : (s0 : Int) ≤ (dc : Int) := by omega
  have HG : Hid (w.ownsRow 0 5 1 (.slice da b.length dc) b.length (u8l b) ∧ w.ownsRow 0 3 1 (.slice ba ws.length bc) ws.length (ws.map iV)) := ⟨g2, g3⟩
  clear hW hB hok hs0 hs1 hsi hs hnn hmm hNN hcells g1 g2 g3 g4 hl hm hnl hdc hbc hnc hlt
  go_enter Try.func70, Try.ntmps70
  go_upto_if 25 with (fail)
  go_cut [5] from 5 to 5 (fun c wx => c = .int .i64 (s0 : Int) ∧ wx = W)
  case first =>
    by_cases hw0 : m = 0
    · subst hw0
      have e0 : (n : Int) = (s0 : Int) := by
        have h1 := HN.out
        have h2 := HS.out
        have : ws = [] := List.eq_nil_of_length_eq_zero h1.2.1
        rw [this] at h2
        have h3 : (b.length : Int) = (s0 : Int) := h2
        omega
      go_wp2_with fail
      go_meet
      exact ⟨by rw [← e0], rfl⟩
    · have hmp : (0 : Int) < (m : Int) := by omega
      obtain ⟨x, r, hxr⟩ : ∃ x r, ws = x :: r := by
        cases ws with
        | nil => exact absurd HN.out.2.1.symm hw0
        | cons x r => exact ⟨x, r, rfl⟩
      have hx : x = (s0 : Int) := by
        have h2 := HS.out
        rw [hxr] at h2
        exact h2
      obtain ⟨g, cp, hv⟩ := own_form HG.out.2 (by have := HN.out.2.1; omega)
      obtain ⟨hba, -, -⟩ := Value.slice.inj hv
      subst hba
      have z0 : W.cell? ⟨g, 0, none⟩ = some (.int .i64 (s0 : Int)) := by
        have := row_at (f := iV) (own_at HG.out.2 fun q hq => HK0.out.be.block q (by have := (HG.out.2.lt q hq).2; rw [HKK.out] at this; exact this)) 0 x (by rw [hxr]; rfl)
        rw [this, hx]
        rfl
      clear hv hxr hx hw0
      go_wp2_with fail
      go_meet
      exact ⟨rfl, rfl⟩
  obtain ⟨rfl, hwc⟩ := hcut
  rw [hwc]
  clear hwc
  have HSRC : Hid (∀ (p : Nat) (cs : List Int), (∀ j x, cs[j]? = some x → b[p + j]? = some x) → 0 < (u8l cs).length → ∃ g, da = some ⟨g, 0, none⟩ ∧ ∀ V, Below k w V → ∀ j v, (u8l cs)[j]? = some v → V.cell? ((⟨g, p, none⟩ : Addr).add j) = some v) := by
    intro p cs hcs hpos
    obtain ⟨x, hx⟩ : ∃ x, cs[0]? = some x := ⟨_, List.getElem?_eq_getElem (by simpa [u8l] using hpos)⟩
    have hb0 := (List.getElem?_eq_some_iff.1 (hcs 0 x hx)).1
    obtain ⟨g, cp, hv⟩ := own_form HG.out.1 (by omega)
    obtain ⟨hba, -, -⟩ := Value.slice.inj hv
    subst hba
    refine ⟨g, rfl, fun V hV j v hv => ?_⟩
    obtain ⟨y, hy, rfl⟩ : ∃ y, cs[j]? = some y ∧ uV y = v := by
      rw [u8l_uV, List.getElem?_map] at hv
      exact Option.map_eq_some_iff.1 hv
    have hrow : V.ownsRow 0 5 1 (.slice (some ⟨g, 0, none⟩) b.length dc) b.length (b.map uV) := own_at HG.out.1 fun q hq => hV.block q (by have := (HG.out.1.lt q hq).2; rw [HKK.out] at this; exact this)
    have := row_at (f := uV) hrow (p + j) y (hcs j y hy)
    rw [Addr.add_mid]
    exact this
  have HT0 : Hid (u8l (b.take s0) = u8l (b.take s0) ∧ (u8l (b.take s0)).length = s0) := ⟨rfl, by simp [u8l]; have := HN.out.1; omega⟩
  have HCR0 : Hid (crS b ws ns 0 = (splice (List.replicate n 0) 0 (b.take s0), s0)) := by
    show _ = _
    unfold crS
    rw [HN.out.1, HS.out]
    rfl
  have hP1 : (u8l (b.take s0)).length = Nat.min s0 n := by rw [HT0.out.2]; exact (Nat.min_eq_left (by omega)).symm
  have hP2 : 0 < (u8l (b.take s0)).length → (some ⟨k, 0, none⟩ : Option Addr) = some ⟨k, 0, none⟩ ∧ ∃ ad, da = some ad ∧ ∀ j v, (u8l (b.take s0))[j]? = some v → W.cell? (ad.add j) = some v := fun hp => by
    obtain ⟨g, e1, e2⟩ := HSRC.out 0 (b.take s0) (fun j x hj => by
      rw [Nat.zero_add]
      rw [List.getElem?_take] at hj
      split at hj
      · exact hj
      · cases hj) hp
    exact ⟨rfl, _, e1, e2 _ HK0.out.be⟩
  have hP3 : 0 + (u8l (b.take s0)).length ≤ (u8l (List.replicate n 0)).length := by rw [HT0.out.2]; simp [u8l]; omega
  have HP : Hid (CpOk W k 0 da (b.take s0) (Nat.min s0 n) (u8l (List.replicate n 0)).length) := ⟨hP1, hP2, hP3⟩
  clear hP1 hP2 hP3
  go_wp2_with (refine wpList_copy_splice rfl (.tmp 32) (.tmp 38) 23 23 rfl 5 Try.underlying23 size5 (some ⟨k, 0, none⟩) da n n s0 dc rfl rfl k 0 (u8l (List.replicate n 0)) 5 HK0.out.row (u8l (b.take s0)) HP.out.l HP.out.c HP.out.f (u8l_one _) k w HK0.out.be (Nat.le_refl _) ?_; intro w1 hg1 hb1; (have HK1 : Hid (KI w w1 k (crS b ws ns 0).1) := ⟨by rw [HCR0.out, u8l_splice]; exact hg1.out, hb1⟩); clear hg1 hb1)
  obtain ⟨q, hq⟩ : ∃ q : Nat, (if (m : Int) < (N : Int) then (m : Int) else (N : Int)) = (q : Int) := by
    split
    · exact ⟨m, rfl⟩
    · exact ⟨N, rfl⟩
  have hqm : (q : Int) ≤ (m : Int) := by split at hq <;> omega
  have HQ : Hid (q = min N m) := by show q = min N m; split at hq <;> omega
  have hqb : (q : Int) ≤ (bc : Int) := by omega
  obtain ⟨f0, f1⟩ := HC.out w1 HK1.out.be
  clear HT0 HP d0 d1 c0 hmk
  go_cut [52, 53, 54] from 52 to 54 (fun x y z wx => x = .slice ba q bc ∧ y = .int .i64 (q : Int) ∧ z = .int .i64 0 ∧ Hid (KI w wx k (crS b ws ns 0).1))
  case first =>
    by_cases hmn : (m : Int) < (N : Int)
    · rw [if_pos hmn] at hq
      obtain rfl : m = q := by omega
      go_quiet (fail)
      go_wp2_with fail
      go_meet
      exact ⟨rfl, rfl, rfl, HK1.out.row, HK1.out.be.os, HK1.out.be.tape, HK1.out.be.output, HK1.out.be.size, HK1.out.be.block⟩
    · rw [if_neg hmn] at hq
      obtain rfl : N = q := by omega
      go_quiet (fail)
      go_wp2_with fail
      go_meet
      exact ⟨rfl, rfl, rfl, HK1.out.row, HK1.out.be.os, HK1.out.be.tape, HK1.out.be.output, HK1.out.be.size, HK1.out.be.block⟩
  obtain ⟨rfl, rfl, rfl, HK2⟩ := hcut
  clear HK1 hq f0 f1
  go_wp2_with fail
  go_loopw [54, 5, 6, 7, 8] (fun i e x y z wx => ∃ j : Nat, j ≤ q ∧ i = .int .i64 (j : Int) ∧ e = .int .i64 ((crS b ws ns j).2 : Int) ∧ Hid (KI w wx k (crS b ws ns j).1)) (fun i e x y z wx => q - (intOf i).toNat)
  case atStart => exact ⟨0, Nat.zero_le _, rfl, by rw [HCR0.out], HK2⟩
  case round =>
    obtain ⟨j, hj, rfl, rfl, HI⟩ := hrel
    by_cases hjq : j < q
    · have hjm : j < m := by omega
      have hjN : j < N := by have := HQ.out; omega
      have hjq' : (j : Int) < (q : Int) := by omega
      have hjc : (j : Int) < (bc : Int) := by omega
      have hjN' : (j : Int) < (N : Int) := by omega
      have HJ : Hid (j < q ∧ j < m ∧ j < N) := ⟨hjq, hjm, hjN⟩
      obtain ⟨ok0, ok1, ok2⟩ := HOK.out.1 j (by have := HN.out; omega)
      obtain ⟨p, hp⟩ : ∃ p : Nat, wAt ws j = p := ⟨_, rfl⟩
      have hpi : ws.getD j 0 = (p : Int) := by unfold wAt at hp; omega
      obtain ⟨E, hE⟩ : ∃ E, endI b.length ws j = E := ⟨_, rfl⟩
      obtain ⟨x, hx⟩ : ∃ x, ns.getD j 0 = x := ⟨_, rfl⟩
      rw [hpi] at ok0 ok1
      rw [hE] at ok1 ok2
      rw [HN.out.1] at ok2
      have HPE : Hid (wAt ws j = p ∧ ws.getD j 0 = (p : Int) ∧ endI b.length ws j = E ∧ ns.getD j 0 = x) := ⟨hp, hpi, hE, hx⟩
      obtain ⟨K, hK⟩ : ∃ K, cwN b ws ns j = K := ⟨_, rfl⟩
      have HKD : Hid (cwN b ws ns j = K) := hK
      have hKe : (if E - (p : Int) < x then E - (p : Int) else x) = K := by
        rw [← hK]
        unfold cwN
        rw [hpi, hE, hx, Int.min_def]
        split <;> split <;> omega
      have hKle : K ≤ E - (p : Int) := by split at hKe <;> omega
      obtain ⟨g, cp, hv⟩ := own_form HG.out.2 (by have := HN.out; omega)
      obtain ⟨hba, -, -⟩ := Value.slice.inj hv
      subst hba
      have z0 : wr.cell? ⟨g, j, none⟩ = some (.int .i64 (p : Int)) := by
        have := row_at (f := iV) (own_at HG.out.2 fun q hq => HI.out.be.block q (by have := (HG.out.2.lt q hq).2; rw [HKK.out] at this; exact this)) j (p : Int) (by rw [← hpi]; exact getD_at (by have := HN.out; omega))
        exact this
      obtain ⟨na', nc', hnv, hncc, hcl⟩ := HNS.out.later HI.out.be (by rw [HKK.out]; exact Nat.le_refl _)
      obtain ⟨hna, -, hnc⟩ := Value.slice.inj hnv
      subst hna
      subst hnc
      obtain ⟨nb, no, hnb, -, n0⟩ := hcl j x (by rw [← hx]; exact getD_at (by have := HN.out; omega))
      subst hnb
      have n0' : wr.cell? ⟨nb, no + j, none⟩ = some (.int .i64 x) := n0
      have hw1 : IntKind.i64.wrap (E - (p : Int)) = E - (p : Int) := by rw [IntKind.wrap_i64]; omega
      have HE : Hid (∀ V, Below k w V → Calls Try.prog 89 #[.pointer (some ⟨f, 0, none⟩), .int .i64 (j : Int)] V fun e w' => e = .returned (.int .i64 E) ∧ ∃ n, w' = V.drewN n) := fun V hV => by
        obtain ⟨dv, bv, g1, g2, g3, g4⟩ := HFL.out.at' fun q hq => hV.block q (by have := HFL.out.lt q hq; rw [HKK.out] at this; exact this)
        obtain ⟨da', dc', rfl⟩ := own_slice g2
        refine (end_any f da' dc' b.length 0 j bv ws V g1 g3 (by have := HN.out; omega) (by have := HN.out; omega)).mono ?_
        rintro e w' ⟨rfl, rfl⟩
        exact ⟨by rw [← HPE.out.2.2.1], 0, rfl⟩
      obtain ⟨f0, f1⟩ := HC.out wr HI.out.be
      clear hv hjq hjm hjN hp hpi hE hx hK hnv hncc hcl n0 hj
      go_upto_region 8 with (fail)
      go_cut [8] from 8 to 8 (fun c wx => c = .int .i64 K ∧ Hid (KI w wx k (crS b ws ns j).1))
      case first =>
        have HQD : Hid (∀ m, KI w (wr.drewN m) k (crS b ws ns j).1) := fun m => ⟨HI.out.row, HI.out.be.os, HI.out.be.tape, HI.out.be.output, HI.out.be.size, HI.out.be.block⟩
        by_cases hlt : E - (p : Int) < x
        · rw [if_pos hlt] at hKe
          subst hKe
          go_quiet (first | (go_at_call 89; refine Calls.quiet_of (HE.out _ ?_); exact (HQD.out _).be))
          go_wp2_with fail
          go_meet
          exact ⟨rfl, HQD.out _⟩
        · rw [if_neg hlt] at hKe
          subst hKe
          go_quiet (first | (go_at_call 89; refine Calls.quiet_of (HE.out _ ?_); exact (HQD.out _).be))
          go_wp2_with fail
          go_meet
          exact ⟨rfl, HQD.out _⟩
      obtain ⟨rfl, HI2⟩ := hcut
      obtain ⟨w2, hw2⟩ : ∃ w2, wc = w2 := ⟨_, rfl⟩
      rw [hw2] at HI2 ⊢
      clear hw2 HE z0 n0' f0 f1 hKe hw1
      by_cases hKp : 0 < K
      · obtain ⟨κ, rfl⟩ : ∃ κ : Nat, K = (κ : Int) := ⟨K.toNat, by omega⟩
        have hKp' : (0 : Int) < (κ : Int) := hKp
        obtain ⟨h, hh⟩ : ∃ h : Nat, p + κ = h := ⟨_, rfl⟩
        have hhi : (p : Int) + (κ : Int) = (h : Int) := by omega
        have hwr : IntKind.i64.wrap ((p : Int) + (κ : Int)) = (h : Int) := by rw [IntKind.wrap_i64]; omega
        have hhn : (h : Int) ≤ (n : Int) := by omega
        have hhd : (h : Int) ≤ (dc : Int) := by omega
        have hpn : (p : Int) ≤ (n : Int) := by omega
        have hph : (p : Int) ≤ (h : Int) := by omega
        have hne : ¬ n = p := by omega
        have hnd : ¬ dc = p := by omega
        obtain ⟨hcl1, hcl2⟩ := crS_len (ns := ns) HOK.out.1 j (by have := HN.out; have := HJ.out; omega)
        have HU : Hid (CpOk w2 k p (match da with | some a => some ⟨a.block, p, none⟩ | none => none) ((b.drop p).take κ) κ n) := by
          have hl1 : (u8l ((b.drop p).take κ)).length = κ := by
            simp [u8l]
            have := HN.out
            omega
          refine ⟨hl1, fun hp => ?_, by rw [hl1]; omega⟩
          obtain ⟨g, e1, e2⟩ := HSRC.out p ((b.drop p).take κ) (fun j x hj => by
            rw [List.getElem?_take] at hj
            split at hj
            · rw [List.getElem?_drop] at hj
              exact hj
            · cases hj) hp
          subst e1
          exact ⟨rfl, _, rfl, e2 _ HI2.out.be⟩
        obtain ⟨g', cp', hv'⟩ := own_form HG.out.1 (by have := HN.out; omega)
        obtain ⟨hba', -, -⟩ := Value.slice.inj hv'
        subst hba'
        have HCL : Hid ((u8l (crS b ws ns j).1).length = n) := by
          show _ = _
          rw [← HN.out.1, ← hcl1]
          simp [u8l]
        have HNX : Hid (crS b ws ns (j + 1) = (splice (crS b ws ns j).1 p ((b.drop p).take κ), h)) := by
          show _ = _
          rw [crS, HKD.out, HPE.out.1]
          unfold crStep
          rw [if_pos hKp, Int.toNat_natCast, hh]
        obtain ⟨f0, -⟩ := HC.out w2 HI2.out.be
        have HCUT : Hid ((h - p : Nat) = κ) := by show _ = _; omega
        clear hv' hh hcl1 hcl2 hKle ok0 ok1 ok2 hhi
        obtain ⟨e2, he2⟩ : ∃ e2, (crS b ws ns j).2 = e2 := ⟨_, rfl⟩
        rw [he2]
        go_upto_region 10 with (fail)
        go_region_law (refine step_copy_splice rfl (.tmp 74) (.tmp 83) 23 23 rfl 5 Try.underlying23 size5 (some ⟨k, p, none⟩) (some ⟨g', p, none⟩) (n - p) (n - p) (h - p) (dc - p) (by simp [Act.eval, Act.put]) (by simp [Act.eval, Act.put]) k p (u8l (crS b ws ns j).1) 5 HI2.out.row (u8l ((b.drop p).take κ)) (by rw [HU.out.l, HCUT.out]; exact (Nat.min_eq_left (by have := HCUT.out; omega)).symm) HU.out.c (by rw [HCL.out]; exact HU.out.f) (u8l_one _) k w (by repeat (first | exact HI2.out.be | refine Below.drew ?_)) (Nat.le_refl _) ?_; intro w6 hg6 hb6; (have HK6 : Hid (KI w w6 k (crS b ws ns (j + 1)).1) := ⟨by rw [HNX.out, u8l_splice]; exact hg6.out, hb6⟩); clear hg6 hb6)
        all_goals
          rw [HU.out.l, hwr]
          go_wp2_with fail
          go_roundw
          case rel => exact ⟨j + 1, by have := HJ.out; omega, by go_num, by rw [HNX.out], HK6.out⟩
          case measure => have := HJ.out; simp [intOf]; omega
      · have hKp' : ¬ K > 0 := hKp
        have HNX : Hid (crS b ws ns (j + 1) = crS b ws ns j) := by
          show _ = _
          rw [crS, HKD.out]
          unfold crStep
          rw [if_neg hKp]
        go_wp2_with fail
        go_roundw
        case rel => exact ⟨j + 1, by have := HJ.out; omega, by go_num, by rw [HNX.out], by rw [HNX.out]; exact HI2.out⟩
        case measure => have := HJ.out; simp [intOf]; omega
    · obtain rfl : j = q := by omega
      have HEQ : Hid (crS b ws ns j = crS b ws ns ws.length) := by
        show _ = _
        rw [← crS_min, HN.out.2.1, HN.out.2.2, ← HQ.out]
      obtain ⟨hcl1, hcl2⟩ := crS_len (ns := ns) HOK.out.1 j (by have := HN.out; omega)
      obtain ⟨e2, he2⟩ : ∃ e2, (crS b ws ns j).2 = e2 := ⟨_, rfl⟩
      rw [he2] at hcl2 ⊢
      have HBL : Hid ((crB b ws ns).length = e2) := by
        show _ = _
        rw [crB_len HOK.out.1, ← HEQ.out, he2]
      have HSR : Hid (Src wr (.slice (some ⟨k, 0, none⟩) e2 n) (crB b ws ns)) := by
        refine .inr ⟨⟨k, 0, none⟩, n, by rw [HBL.out], by rw [HBL.out, ← HN.out.1]; exact hcl2, fun i u hu => ?_⟩
        rw [Addr.add_mid, Nat.zero_add, cell_of_row _ _ _ _ _ _ HI.out.row]
        have hi : i < e2 := by
          have := (List.getElem?_eq_some_iff.1 hu).1
          rw [← HBL.out]
          simpa [u8l] using this
        have hbe : crB b ws ns = (crS b ws ns j).1.take e2 := by unfold crB; rw [← HEQ.out, he2]
        rw [← hu, hbe]
        simp [u8l, List.getElem?_take, hi]
      have HE2 : Hid (e2 ≤ b.length) := hcl2
      have hen : (e2 : Int) ≤ (n : Int) := by have := HN.out; omega
      have f9 := (HFL.out.at' (w' := wr) fun q hq => HI.out.be.block q (by have := HFL.out.lt q hq; rw [HKK.out] at this; exact this))
      have HFW : Hid (wr.heap[f]? = some (.cells #[.slice da n dc, .slice ba m bc] 118 (0, 0)) ∧ f < k ∧ G f) := by
        obtain ⟨dv, bv, g1, g2, g3, g4⟩ := HFL.out
        have hlt : f < k := by rw [← HKK.out]; exact (Array.getElem?_eq_some_iff.1 g1).1
        refine ⟨?_, hlt, (g4 f).2 (.inl rfl)⟩
        rw [HI.out.be.block f hlt, g1]
        obtain ⟨c0, c1⟩ := HC.out w (Below.refl _ _)
        rw [cell_of_row _ _ _ _ _ _ g1] at c0 c1
        have e0 : dv = .slice da n dc := by simpa using c0
        have e1 : bv = .slice ba m bc := by simpa using c1
        rw [e0, e1]
      clear hcl1 hcl2 he2 HEQ f9 hjq hj
      go_wp2_with (go_at_call 75; refine (clone_any _ _ _ HSR.out (by have := HBL.out; have := HE2.out; have := HN.out; omega)).mono ?_; rintro e w7 ⟨⟨v7, rfl, ho7⟩, hb7⟩; (obtain ⟨va, vc, hv7⟩ := own_slice ho7); subst hv7; (have HO7 : Hid (w7.ownsRow wr.heap.size 5 1 (.slice va (crB b ws ns).length vc) (crB b ws ns).length (u8l (crB b ws ns)) ∧ Below wr.heap.size wr w7) := ⟨ho7, hb7⟩); (have HX7 : Hid (w7.heap[f]? = some (.cells #[.slice da n dc, .slice ba m bc] 118 (0, 0))) := (hb7.block f (Array.getElem?_eq_some_iff.1 HFW.out.1).1).trans HFW.out.1); (have s0 : w7.cell? ⟨f, 0, none⟩ = some (.slice da n dc) := (by rw [cell_of_row _ _ _ _ _ _ HX7.out]; rfl)); (have s1 : w7.frozen? ⟨f, 0, none⟩ = false := frozen_of_row _ _ 0 _ _ HX7.out); (have s2 : w7.cell? ⟨f, 1, none⟩ = some (.slice ba m bc) := (by rw [cell_of_row _ _ _ _ _ _ HX7.out]; rfl)); (have s3 : w7.frozen? ⟨f, 1, none⟩ = false := frozen_of_row _ _ 1 _ _ HX7.out); clear ho7 hb7)
      go_end0
      have b7 := HO7.out.2
      have hfr : ∀ q, q ≠ f → ((w7.setCell ⟨f, 0, none⟩ (.slice va (crB b ws ns).length vc)).setCell ⟨f, 1, none⟩ (.slice none 0 0)).heap[q]? = w7.heap[q]? := fun q hq => by
        rw [Below.heap_setCell _ _ _ _ hq, Below.heap_setCell _ _ _ _ hq]
      have z7 := b7.size
      have z1 := HI.out.be.size
      have hkk := HKK.out
      have hfk := HFW.out.2.1
      refine ⟨⟨_, rfl⟩, fun q => q = f ∨ (Value.slice va (crB b ws ns).length vc).ownBlock = some q, ⟨.slice va (crB b ws ns).length vc, .slice none 0 0, row_set _ (row_set _ HX7.out), ?_, World.ownsRow_nil _ _ _ _, fun q => ?_⟩, ?_⟩
      · refine own_low (base := wr.heap.size) (own_at HO7.out.1 fun q hq => hfr q ?_) (Nat.zero_le _)
        have := (HO7.out.1.lt q hq).1
        omega
      · simp [Value.ownBlock]
      · refine ⟨b7.os.trans HI.out.be.os, b7.tape.trans HI.out.be.tape, b7.output.trans HI.out.be.output, by simp; omega, fun q hq hn => ?_, fun q hq => ?_⟩
        · have hqf : q ≠ f := fun e => hn (e ▸ HFW.out.2.2)
          rw [hfr q hqf, b7.block q (by omega)]
          exact HI.out.be.block q (by omega)
        · rcases hq with rfl | hq
          · exact .inl HFW.out.2.2
          · have := (HO7.out.1.lt q hq).1
            exact .inr (by omega)
end Go.Proofs.Ytflhgphjkhplmaa.D

/- What is wrong of a Keep alone. -/
namespace Go.Proofs.Ytflhgphjkhplmaa.D
open Go.RowKit
set_option linter.unusedVariables false
set_option linter.unusedSimpArgs false

variable {w w' : World} {D : Nat} {F : Nat → Prop} {sy : Int} {dl : List Fd} {s : List UInt8}
def ckE (dl : List Fd) (s : List UInt8) (ns : List Int) : Int := match lkF s dl with
  | none => 5
  | some x => if x.ws.length < ns.length then 1 else if ns.any (fun k => decide (k < 0)) then 1 else 0
theorem any_yes {ns : List Int} {k : Nat} {x : Int} (h : ns[k]? = some x) (hx : x < 0) : (ns.any fun k => decide (k < 0)) = true := by
  rw [List.any_eq_true]
  exact ⟨x, List.mem_of_getElem? h, by simpa using hx⟩
theorem any_no {ns : List Int} (h : ∀ (k : Nat) (x : Int), ns[k]? = some x → 0 ≤ x) : (ns.any fun k => decide (k < 0)) = false := by
  rw [Bool.eq_false_iff]
  intro he
  obtain ⟨x, hx, hlt⟩ := List.any_eq_true.1 he
  obtain ⟨k, hk⟩ := List.getElem?_of_mem hx
  have := h k x hk
  simp at hlt
  omega
set_option maxRecDepth 20000 in
set_option maxHeartbeats 4000000 in
theorem canKeep_any (h : DR w D F sy dl) {nv : Value} {ns : List Int} (hn : NumsAt w nv ns) (hnl : (ns.length : Int) ≤ 140737488351232) (hw : ∀ x ∈ dl, x.ws.length ≤ 2000000) :
    Calls Try.prog 69 #[.pointer (some ⟨D, 0, none⟩), .agg #[.string (tx s), nv]] w fun e w' => e = .returned (.int .i64 (ckE dl s ns)) ∧ Below w.heap.size w w' := by
  obtain ⟨na, nc, rfl, hnc, hcl⟩ := hn
  obtain ⟨W, hW⟩ : ∃ W, w.alloc (.cells #[.string (tx s), .slice na ns.length nc] 86) = W := ⟨_, rfl⟩
  have hB : Below w.heap.size w W := by rw [← hW]; exact bel1 _ _
  have h2 : DR W D F sy dl := h.newer hB
  have hn2 : NumsAt W (.slice na ns.length nc) ns := NumsAt.later ⟨na, nc, rfl, hnc, hcl⟩ hB (Nat.le_refl _)
  have hx : W.heap[w.heap.size]? = some (.cells #[.string (tx s), .slice na ns.length nc] 86 (0, 0)) := by rw [← hW]; exact Go.heap_alloc_new _ _
  have x0 : W.cell? ⟨w.heap.size, 0, none⟩ = some (.string (tx s)) := by rw [cell_of_row _ _ _ _ _ _ hx]; rfl
  have x1 : W.cell? ⟨w.heap.size, 1, none⟩ = some (.slice na ns.length nc) := by rw [cell_of_row _ _ _ _ _ _ hx]; rfl
  have HB : Hid (Below w.heap.size w W) := hB
  obtain ⟨e, he⟩ : ∃ e, ckE dl s ns = e := ⟨_, rfl⟩
  rw [he]
  unfold ckE at he
  obtain ⟨p, hp⟩ : ∃ p, w.heap.size = p := ⟨_, rfl⟩
  have HPP : Hid (w.heap.size = p) := hp
  cases hs : lkF s dl with
  | none =>
    rw [hs] at he
    dsimp only at he
    subst he
    have HFI : Hid (Calls Try.prog 74 #[.pointer (some ⟨D, 0, none⟩), .string (tx s)] W fun e w' => e = .returned (.tuple #[.pointer none, .int .i64 5]) ∧ w' = W) := h2.findNo hs
    clear h h2 hs hn2 hx hB hw hnc hp hcl
    go_enter Try.func69, Try.ntmps69
    go_wp2_with (go_at_call 74; refine HFI.out.mono ?_; rintro e w1 ⟨rfl, hw1⟩; rw [hw1]; clear hw1)
    go_ret
    exact ⟨rfl, HB.out⟩
  | some x =>
    rw [hs] at he
    dsimp only at he
    obtain ⟨K, f, Ff, h3, h4, ⟨dv, bv, g1, g2, g3, g4⟩, -⟩ := h2.open hs
    have HFI : Hid (Calls Try.prog 74 #[.pointer (some ⟨D, 0, none⟩), .string (tx s)] W fun e w' => e = .returned (.tuple #[.pointer (some ⟨f, 0, none⟩), .int .i64 0]) ∧ w' = W) := find_yes h3 h4
    obtain ⟨ba, bc, rfl⟩ := own_slice g3
    have cF : W.cell? ⟨f, 1, none⟩ = some (.slice ba x.ws.length bc) := by rw [cell_of_row _ _ _ _ _ _ g1]; rfl
    have hxm : x ∈ dl := by
      obtain ⟨-, a, b, h5, -⟩ := lkF_some hs
      rw [h5]; simp
    have hwl := hw x hxm
    have HNS : Hid (NumsAt W (.slice na ns.length nc) ns) := hn2
    obtain ⟨m, hm⟩ : ∃ m, x.ws.length = m := ⟨_, rfl⟩
    obtain ⟨N, hN⟩ : ∃ N, ns.length = N := ⟨_, rfl⟩
    have HN : Hid (ns.length = N) := hN
    rw [hm] at cF he hwl
    rw [hN] at x1 he hnc HNS hnl ⊢
    have hmi : (m : Int) ≤ 2000000 := by omega
    have hnci : (N : Int) ≤ (nc : Int) := by omega
    rw [hN] at hW
    clear hcl h h2 hs hn2 hx hB hw h3 h4 g1 g2 g3 g4 hxm hwl hm hN hnc hp
    by_cases hlt : m < N
    · rw [if_pos hlt] at he
      subst he
      have hlt' : (m : Int) < (N : Int) := by omega
      clear hlt
      go_enter Try.func69, Try.ntmps69
      go_wp2_with (go_at_call 74; refine HFI.out.mono ?_; rintro e w1 ⟨rfl, hw1⟩; rw [hw1]; clear hw1)
      go_quiet (fail)
      go_wp2_with fail
      go_ret
      exact ⟨rfl, HB.out.os, HB.out.tape, HB.out.output, HB.out.size, HB.out.block⟩
    · rw [if_neg hlt] at he
      have HE : Hid ((if (ns.any fun k => decide (k < 0)) = true then (1 : Int) else 0) = e) := he
      have hlt' : ¬ (m : Int) < (N : Int) := by omega
      clear hlt he
      go_enter Try.func69, Try.ntmps69
      go_wp2_with (go_at_call 74; refine HFI.out.mono ?_; rintro e w1 ⟨rfl, hw1⟩; rw [hw1]; clear hw1)
      go_quiet (fail)
      obtain ⟨W3, hW3⟩ : ∃ W3, W.drewN nq = W3 := ⟨_, rfl⟩
      have HN3 : Hid (NumsAt W3 (.slice na N nc) ns) := by
        rw [← hW3]
        exact HNS.out
      have HB3 : Hid (Below w.heap.size w W3) := by rw [← hW3]; exact ⟨HB.out.os, HB.out.tape, HB.out.output, HB.out.size, HB.out.block⟩
      have y1 : W3.cell? ⟨w.heap.size, 1, none⟩ = some (.slice na N nc) := by rw [← hW3]; exact x1
      rw [hW3]
      clear hW3 x0 x1 cF
      go_wp2_with fail
      go_loopw [31, 8] (fun i x wr => ∃ k : Nat, k ≤ N ∧ i = .int .i64 (k : Int) ∧ wr = W3 ∧ Hid (∀ (j : Nat) (x : Int), j < k → ns[j]? = some x → 0 ≤ x)) (fun i x wr => N - (intOf i).toNat)
      case atStart => exact ⟨0, by omega, rfl, rfl, (fun j x hj => absurd hj (Nat.not_lt_zero _) : ∀ (j : Nat) (x : Int), j < 0 → ns[j]? = some x → 0 ≤ x)⟩
      case round =>
        obtain ⟨k, hk, rfl, hwr, HI⟩ := hrel
        rw [hwr]
        clear hwr
        by_cases hlt : k < N
        · have hlt' : (k : Int) < (N : Int) := by omega
          obtain ⟨u, hu⟩ : ∃ u, ns[k]? = some u := ⟨_, List.getElem?_eq_getElem (by have := HN.out; omega)⟩
          obtain ⟨na', nc', hnv, -, hcl⟩ := HN3.out
          obtain ⟨hna, -, hnc⟩ := Value.slice.inj hnv
          subst hna
          subst hnc
          obtain ⟨nb, no, hnb, -, n0⟩ := hcl k u hu
          subst hnb
          have n0' : W3.cell? ⟨nb, no + k, none⟩ = some (.int .i64 u) := n0
          have HU : Hid (ns[k]? = some u) := hu
          have HK : Hid (k < N) := hlt
          clear hnv hcl n0 hu
          by_cases hneg : u < 0
          · have HE1 : Hid (e = 1) := by
              have h1 := HE.out
              rw [any_yes HU.out hneg] at h1
              exact h1.symm
            have hn1 : decide (u < 0) = true := decide_eq_true hneg
            clear hneg
            go_wp2_with fail
            go_ret
            rw [HE1.out]
            exact ⟨rfl, HB3.out⟩
          · have hn1 : ¬ u < 0 := hneg
            have HI2 : Hid (∀ (j : Nat) (x : Int), j < k + 1 → ns[j]? = some x → 0 ≤ x) := fun j x hj hx => by
              rcases (show j = k ∨ j < k from by omega) with rfl | h
              · rw [HU.out] at hx
                rw [← Option.some.inj hx]
                omega
              · exact HI.out j x h hx
            go_wp2_with fail
            go_roundw
            case rel => exact ⟨k + 1, by have := HK.out; omega, by go_num, trivial, HI2.out⟩
            case measure => have := HK.out; simp [intOf]; omega
        · have hge : ¬ ((k : Int) < (N : Int)) := by omega
          have HE0 : Hid (e = 0) := by
            have h1 := HE.out
            rw [any_no fun j x hj => HI.out j x (by have := (List.getElem?_eq_some_iff.1 hj).1; have := HN.out; omega) hj] at h1
            exact h1.symm
          go_wp2_with fail
          go_ret
          rw [HE0.out]
          exact ⟨rfl, HB3.out⟩
end Go.Proofs.Ytflhgphjkhplmaa.D

/- Ranging over a map of one entry. -/
namespace Go.Proofs.Ytflhgphjkhplmaa
open Go.RowKit
set_option linter.unusedVariables false
set_option linter.unusedSimpArgs false

theorem under74 : Try.prog.underlying 109 = some (.map 9 3) := by kernel_rfl
theorem next_first {W : World} {it B : Nat} {s : ByteArray} {v : Value} (ty : TypeId) (hi : W.heap[it]? = some (.mapIter (some B) 1 #[] 1)) (hm : MapAt W B [(s, v, 0)] 1) :
    (Instr.next (.pointer (some ⟨it, 0, none⟩)) false ty).run Try.prog W = .ok (.tuple #[.bool true, .string s, v]) { W with heap := W.heap.setIfInBounds it (.mapIter (some B) 1 #[0] 1) } := by
  unfold MapAt ents at hm
  simp only [List.map_cons, List.map_nil] at hm
  simp only [Instr.next, getObj, Sem.run_bind, Sem.run, hi, hm, Result.andThen]
  have e : (!(#[] : Array Nat).isEmpty && !(#[{ key := Value.string s, val := v, born := 0 }] : Array MapEntry).isEmpty && (#[{ key := Value.string s, val := v, born := 0 }] : Array MapEntry).all (fun x => decide (x.born ≥ 1))) = false := rfl
  simp only [e, Bool.false_eq_true, if_false]
  simp [choose, Sem.run, Question.forced, setObj, Result.andThen, hi]
theorem next_last {W : World} {it B : Nat} {s : ByteArray} {v : Value} (ty : TypeId) (hi : W.heap[it]? = some (.mapIter (some B) 1 #[0] 1)) (hm : MapAt W B [(s, v, 0)] 1) :
    (Instr.next (.pointer (some ⟨it, 0, none⟩)) false ty).run Try.prog W = .ok (.tuple #[.bool false]) W := by
  unfold MapAt ents at hm
  simp only [List.map_cons, List.map_nil] at hm
  simp only [Instr.next, getObj, Sem.run_bind, Sem.run, hi, hm, Result.andThen]
  have e : (!(#[0] : Array Nat).isEmpty && !(#[{ key := Value.string s, val := v, born := 0 }] : Array MapEntry).isEmpty && (#[{ key := Value.string s, val := v, born := 0 }] : Array MapEntry).all (fun x => decide (x.born ≥ 1))) = false := by simp
  simp only [e, Bool.false_eq_true, if_false]
  simp [choose, Sem.run, Question.forced, Result.andThen]
theorem entry_one {W : World} {it B : Nat} {s : ByteArray} {v : Value} (hi : W.heap[it]? = some (.mapIter (some B) 1 #[0] 1)) (hm : MapAt W B [(s, v, 0)] 1) :
    (Instr.entry (.pointer (some ⟨it, 0, none⟩))).run Try.prog W = .ok (.tuple #[.string s, v]) W := by
  unfold MapAt ents at hm
  simp only [List.map_cons, List.map_nil] at hm
  have e : (#[0] : Array Nat).back? = some 0 := rfl
  simp only [Instr.entry, getObj, Sem.run_bind, Sem.run, hi, hm, Result.andThen, e]
  simp
end Go.Proofs.Ytflhgphjkhplmaa
