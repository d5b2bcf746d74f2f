/- Names that are right; the reader's calls. -/
import Derived.Test.YtnghgclogeefgaaN1
import Derived.LoopN
import Derived.Deep.CutRange
namespace Go.Proofs.Ytnghgclogeefgaa
open Go.RowKit
set_option linter.unusedVariables false
set_option linter.unusedSimpArgs false

theorem right_no (w : World) : Calls Try.prog 35 #[.string (tx [])] w fun e w' => e = .returned (.bool false) ∧ w' = w := by
  have h : (tx []).toList = [] := tx_list []
  go_enter Try.func35, Try.ntmps35
  go_wp2
  go_ret
  exact ⟨rfl, rfl⟩
theorem right_some (l : List UInt8) (w : World) (hm : (l.length : Int) ≤ 140737488351232) (h0 : l ≠ []) : Calls Try.prog 35 #[.string (tx l)] w fun e w' => e = .returned (.bool (decide (rn l))) ∧ w' = w := by
  have HL : Hid (∀ w, Calls Try.prog 48 #[.string (tx l)] w fun e w' => e = .returned (.int .i64 (nl l)) ∧ w' = w) := fun w => length_any l w hm
  have hsz : (tx l).size = l.length := tx_size l
  have hne : (tx l).toList.isEmpty = false := by rw [tx_list]; simpa using h0
  have HR : Hid (((nl l : Int) == (l.length : Int)) = decide (rn l)) := by
    show _ = _
    rw [Bool.eq_iff_iff]
    simp [rn, h0]
    omega
  have hl : (l.length : Int) ≤ 140737488351232 := hm
  go_enter Try.func35, Try.ntmps35
  go_wp2_with (go_at_call 48; refine (HL.out _).mono ?_; rintro e w' ⟨rfl, rfl⟩)
  go_ret
  exact ⟨by rw [← HR.out]; rfl, rfl⟩
theorem right_any (l : List UInt8) (w : World) (hm : (l.length : Int) ≤ 140737488351232) : Calls Try.prog 35 #[.string (tx l)] w fun e w' => e = .returned (.bool (decide (rn l))) ∧ w' = w := by
  by_cases h : l = []
  · subst h
    exact right_no w
  · exact right_some l w hm h
theorem name_any (l : List UInt8) (w : World) (hm : (l.length : Int) ≤ 140737488351232) : Calls Try.prog 14 #[.string (tx l)] w fun e w' => e = .returned (.bool (decide (rn l))) ∧ w' = w := by
  go_enter Try.func14, Try.ntmps14
  go_wp2_with (go_at_call 35; refine (right_any l _ hm).mono ?_; rintro e w' ⟨rfl, rfl⟩)
  go_ret
  exact ⟨rfl, rfl⟩

/-- All but one block lies as it lay. -/
structure Kp (g : Nat) (w w' : World) : Prop where
  os : w'.os = w.os
  tape : w'.tape = w.tape
  output : w'.output = w.output
  size : w'.heap.size = w.heap.size
  block : ∀ q, q ≠ g → w'.heap[q]? = w.heap[q]?
theorem Kp.refl (g : Nat) (w : World) : Kp g w w := ⟨rfl, rfl, rfl, rfl, fun _ _ => rfl⟩
theorem Kp.trans {g : Nat} {a b c : World} (h : Kp g a b) (k : Kp g b c) : Kp g a c :=
  ⟨k.os.trans h.os, k.tape.trans h.tape, k.output.trans h.output, k.size.trans h.size, fun q hq => (k.block q hq).trans (h.block q hq)⟩
theorem Kp.setCell {g : Nat} {a b : World} (h : Kp g a b) (i : Nat) (v : Value) : Kp g a (b.setCell ⟨g, i, none⟩ v) :=
  h.trans ⟨rfl, rfl, rfl, by simp, fun q hq => Below.heap_setCell _ _ _ _ hq⟩
theorem drewN_heap (w : World) (n : Nat) : (w.drewN n).heap = w.heap := rfl
theorem Kp.drewN {g : Nat} {a b : World} (h : Kp g a b) (n : Nat) : Kp g a (b.drewN n) :=
  h.trans ⟨rfl, rfl, rfl, rfl, fun q hq => rfl⟩
theorem Kp.below {g base : Nat} {a b : World} (h : Kp g a b) (hb : base ≤ g) : Below base a b :=
  ⟨h.os, h.tape, h.output, by rw [h.size]; exact Nat.le_refl _, fun k hk => h.block k (by omega)⟩
theorem row_set {w : World} {b i : Nat} {c : Array Value} {t : TypeId} {f : Nat × Nat} (v : Value) (h : w.heap[b]? = some (.cells c t f)) : (w.setCell ⟨b, i, none⟩ v).heap[b]? = some (.cells (c.setIfInBounds i v) t f) := by
  simp [World.setCell, Array.getElem?_modify, h]
/-- A reader: its text, its place. -/
def Rd (w : World) (g : Nat) (s : List UInt8) (a : Nat) : Prop := w.heap[g]? = some (.cells #[.string (tx s), .int .i64 (a : Int)] 58 (0, 0))
theorem Rd.text {w : World} {g a : Nat} {s : List UInt8} (h : Rd w g s a) : w.cell? ⟨g, 0, none⟩ = some (.string (tx s)) := by rw [cell_of_row _ _ _ _ _ _ h]; rfl
theorem Rd.place {w : World} {g a : Nat} {s : List UInt8} (h : Rd w g s a) : w.cell? ⟨g, 1, none⟩ = some (.int .i64 (a : Int)) := by rw [cell_of_row _ _ _ _ _ _ h]; rfl
theorem Rd.free {w : World} {g a : Nat} {s : List UInt8} (h : Rd w g s a) : w.frozen? ⟨g, 1, none⟩ = false := frozen_of_row _ _ 1 _ _ h
theorem Rd.goes {w : World} {g a b : Nat} {s : List UInt8} (h : Rd w g s a) : Rd (w.setCell ⟨g, 1, none⟩ (.int .i64 (b : Int))) g s b := row_set _ h
theorem Rd.drewN {w : World} {g a : Nat} {s : List UInt8} (h : Rd w g s a) (n : Nat) : Rd (w.drewN n) g s a := by unfold Rd; rw [drewN_heap]; exact h

theorem ended_any (g a : Nat) (s : List UInt8) (w : World) (h : Rd w g s a) : Calls Try.prog 33 #[.pointer (some ⟨g, 0, none⟩)] w fun e w' => e = .returned (.bool ((a : Int) == (s.length : Int))) ∧ ∃ n, w' = w.drewN n := by
  have c0 := h.text
  have c1 := h.place
  have hsz : (tx s).size = s.length := tx_size s
  clear h
  go_enter Try.func33, Try.ntmps33
  go_wp2
  go_quiet (fail)
  go_wp2
  go_ret
  exact ⟨rfl, _, rfl⟩
set_option maxRecDepth 20000 in
set_option maxHeartbeats 4000000 in
theorem pass_any (g a : Nat) (s m : List UInt8) (w : World) (h : Rd w g s a) (ha : a ≤ s.length) (hm : (s.length : Int) ≤ 140737488351232) (hmm : m.length ≤ 10) :
    Calls Try.prog 31 #[.pointer (some ⟨g, 0, none⟩), .string (tx m)] w fun e w' => e = .returned (.bool (decide (lcp (s.drop a) m = m.length))) ∧ Rd w' g s (a + lcp (s.drop a) m) ∧ Kp g w w' := by
  have hsz : (tx m).size = m.length := tx_size m
  have HA : Hid (a ≤ s.length) := ha
  have HM : Hid (m.length ≤ 10) := hmm
  have hm10 : (m.length : Int) ≤ 10 := by omega
  have HH : Hid (Rd w g s a) := h
  clear h ha hmm
  go_enter Try.func31, Try.ntmps31
  go_wp2_with fail
  go_loopw [5, 8] (fun x v wr => ∃ k : Nat, k ≤ m.length ∧ v = .int .i64 k ∧ a + k ≤ s.length ∧ (∀ j, j < k → (s.drop a)[j]? = m[j]?) ∧ Rd wr g s (a + k) ∧ Kp g w wr) (fun x v wr => m.length - (intOf v).toNat)
  case atStart => exact ⟨0, by omega, rfl, by have := HA.out; omega, fun j hj => (Nat.not_lt_zero _ hj).elim, HH.out, Kp.refl _ _⟩
  case round =>
    obtain ⟨k, hk, rfl, hak, hD, hr, hkp⟩ := hrel
    have HD : Hid (∀ j, j < k → (s.drop a)[j]? = m[j]?) := hD
    have HR : Hid (Rd wr g s (a + k)) := hr
    have HK : Hid (Kp g w wr) := hkp
    clear hD hr hkp
    by_cases hlt : k < m.length
    · have hlt' : (k : Int) < (m.length : Int) := by omega
      have HEN : Hid (∀ W, Rd W g s (a + k) → Calls Try.prog 33 #[.pointer (some ⟨g, 0, none⟩)] W fun e w' => e = .returned (.bool (((a + k : Nat) : Int) == (s.length : Int))) ∧ ∃ n, w' = W.drewN n) := fun W hW => ended_any g (a + k) s W hW
      by_cases hend : a + k = s.length
      · have hd : (((a + k : Nat) : Int) == (s.length : Int)) = true := by simpa using (by omega : ((a + k : Nat) : Int) = (s.length : Int))
        have HE : Hid (lcp (s.drop a) m = k) := lcp_of _ _ _ HD.out (by simp; omega) (by omega) (.inr (.inl (by simp; omega)))
        rw [hd] at HEN
        clear hend
        go_wp2_with fail
        go_quiet ((go_at_call 33; refine Calls.quiet_of (HEN.out _ ?_); exact HR.out.drewN _))
        go_wp2_with fail
        go_ret
        refine ⟨?_, ?_, ?_⟩
        · rw [HE.out, decide_eq_false (by omega)]; rfl
        · rw [HE.out]; exact HR.out.drewN _
        · exact HK.out.drewN _
      · have hlt2 : a + k < s.length := by omega
        have hd : (((a + k : Nat) : Int) == (s.length : Int)) = false := by simpa using (by omega : ¬ ((a + k : Nat) : Int) = (s.length : Int))
        rw [hd] at HEN
        obtain ⟨c, hc⟩ : ∃ c, s[a + k]? = some c := ⟨_, List.getElem?_eq_getElem hlt2⟩
        obtain ⟨d, hdd⟩ : ∃ d, m[k]? = some d := ⟨_, List.getElem?_eq_getElem hlt⟩
        have hix : ∀ W, (Instr.index 9 (.string (tx s)) (.int .i64 ((a + k : Nat) : Int))).run Try.prog W = .ok (.int .u8 (c.toNat : Int)) W := fun W => tx_at s (a + k) c hc _ W
        have hiy : ∀ W, (Instr.index 9 (.string (tx m)) (.int .i64 (k : Int))).run Try.prog W = .ok (.int .u8 (d.toNat : Int)) W := fun W => tx_at m k d hdd _ W
        have HC : Hid ((s.drop a)[k]? = some c) := by show _ = _; rw [List.getElem?_drop]; exact hc
        have HDD : Hid (m[k]? = some d) := hdd
        have c0 := HR.out.text
        have c1 := HR.out.place
        have f1 := HR.out.free
        have HAK : Hid (((a + k : Nat) : Int) + 1 = ((a + (k + 1) : Nat) : Int)) := by show _ = _; omega
        have b1 : ((a + k : Nat) : Int) < (s.length : Int) := by omega
        have hb2 : ((a + k : Nat) : Int) ≤ 140737488351232 := by omega
        have hb0 : 0 ≤ ((a + k : Nat) : Int) := by omega
        have HLT : Hid (a + k < s.length) := hlt2
        have HLT2 : Hid (k < m.length) := hlt
        clear hend hlt2 hd hc hdd hak
        by_cases heq : c = d
        · have hne : ((d.toNat : Int) != (d.toNat : Int)) = false := by simp
          subst heq
          have HN : Hid (∀ j, j < k + 1 → (s.drop a)[j]? = m[j]?) := by
            intro j hj
            rcases (show j = k ∨ j < k from by omega) with rfl | h
            · rw [HC.out, HDD.out]
            · exact HD.out j h
          generalize (c.toNat : Int) = C at hix hiy hne
          generalize ((a + k : Nat) : Int) = A at hix c1 b1 hb2 hb0 HAK
          go_wp2_with fail
          go_quiet ((go_at_call 33; refine Calls.quiet_of (HEN.out _ ?_); exact HR.out.drewN _))
          go_wp2_with fail
          go_roundw
          case rel =>
            refine ⟨k + 1, HLT2.out, by go_num, by have := HLT.out; omega, HN.out, ?_, ?_⟩
            · have h := (HR.out.drewN nq).goes (b := a + (k + 1))
              rw [← HAK.out] at h
              exact h
            · exact (HK.out.drewN _).setCell _ _
          case measure => have := HLT2.out; simp [intOf]; omega
        · have hne : ((c.toNat : Int) != (d.toNat : Int)) = true := by
            rw [bne_iff_ne]
            intro e
            exact heq (UInt8.toNat_inj.1 (by omega))
          have HE : Hid (lcp (s.drop a) m = k) := lcp_of _ _ _ HD.out (by simp; have := HLT.out; omega) (by omega) (.inr (.inr (by rw [HC.out, HDD.out]; simpa using heq)))
          generalize (c.toNat : Int) = C at hix hne
          generalize (d.toNat : Int) = D at hiy hne
          generalize ((a + k : Nat) : Int) = A at hix c1 b1 hb2 hb0 HAK
          clear heq
          go_wp2_with fail
          go_quiet ((go_at_call 33; refine Calls.quiet_of (HEN.out _ ?_); exact HR.out.drewN _))
          go_wp2_with fail
          go_ret
          refine ⟨?_, ?_, ?_⟩
          · rw [HE.out, decide_eq_false (by have := HLT2.out; omega)]; rfl
          · rw [HE.out]; exact HR.out.drewN _
          · exact HK.out.drewN _
    · have hk8 : k = m.length := by omega
      subst hk8
      have hge : ¬ ((m.length : Int) < (m.length : Int)) := by omega
      clear hlt
      have HE : Hid (lcp (s.drop a) m = m.length) := lcp_of _ _ _ HD.out (by simp; omega) (Nat.le_refl _) (.inl rfl)
      go_wp2_with fail
      go_ret
      exact ⟨by rw [HE.out]; simp, by rw [HE.out]; exact HR.out, HK.out⟩
/-- All but two blocks lies as it lay. -/
structure K2 (g f : Nat) (w w' : World) : Prop where
  os : w'.os = w.os
  tape : w'.tape = w.tape
  output : w'.output = w.output
  size : w'.heap.size = w.heap.size
  block : ∀ q, q ≠ g → q ≠ f → w'.heap[q]? = w.heap[q]?
theorem K2.refl (g f : Nat) (w : World) : K2 g f w w := ⟨rfl, rfl, rfl, rfl, fun _ _ _ => rfl⟩
theorem K2.trans {g f : Nat} {a b c : World} (h : K2 g f a b) (k : K2 g f b c) : K2 g f a c :=
  ⟨k.os.trans h.os, k.tape.trans h.tape, k.output.trans h.output, k.size.trans h.size, fun q hq hr => (k.block q hq hr).trans (h.block q hq hr)⟩
theorem Kp.two {g : Nat} {a b : World} (h : Kp g a b) (f : Nat) : K2 g f a b := ⟨h.os, h.tape, h.output, h.size, fun q hq _ => h.block q hq⟩
theorem K2.below {g f base : Nat} {a b : World} (h : K2 g f a b) (hb : base ≤ g) (hc : base ≤ f) : Below base a b :=
  ⟨h.os, h.tape, h.output, by rw [h.size]; exact Nat.le_refl _, fun k hk => h.block k (by omega) (by omega)⟩
/-- A name is read into a cell of another block. -/
theorem rname_any (g a f i : Nat) (s : List UInt8) (w : World) (h : Rd w g s a) (ha : a ≤ s.length) (hm : (s.length : Int) ≤ 140737488351232) (hgf : g ≠ f)
    (x0 : Value) (cs : Array Value) (t : TypeId) (hi : cs[i]? = some x0) (hfb : w.heap[f]? = some (.cells cs t (0, 0))) :
    Calls Try.prog 32 #[.pointer (some ⟨g, 0, none⟩), .pointer (some ⟨f, i, none⟩)] w fun e w' => e = .returned (.bool (decide (0 < nl (s.drop a)))) ∧ Rd w' g s (a + nl (s.drop a)) ∧ w'.heap[f]? = some (.cells (cs.setIfInBounds i (.string (tx ((s.drop a).take (nl (s.drop a)))))) t (0, 0)) ∧ K2 g f w w' := by
  have hf : w.cell? ⟨f, i, none⟩ = some x0 := by rw [cell_of_row _ _ _ _ _ _ hfb]; exact hi
  have hfz : w.frozen? ⟨f, i, none⟩ = false := frozen_of_row _ _ i _ _ hfb
  have c0 := h.text
  have c1 := h.place
  have f1 := h.free
  have hle := nl_le (s.drop a)
  have HL : Hid (∀ w, Calls Try.prog 48 #[.string (tx (s.drop a))] w fun e w' => e = .returned (.int .i64 (nl (s.drop a))) ∧ w' = w) := fun w => length_any _ w (by simp; omega)
  have hsz : (tx s).size = s.length := tx_size s
  have hxf : (tx s).extract a s.length = tx (s.drop a) := tx_from s a
  have hxg : (tx s).extract a (a + nl (s.drop a)) = tx ((s.drop a).take (nl (s.drop a))) := by rw [tx_extract, show a + nl (s.drop a) - a = nl (s.drop a) by omega]
  have HR : Hid (Rd w g s a) := h
  have hgf' : ¬ f = g := fun e => hgf e.symm
  rw [List.length_drop] at hle
  have ha' : (a : Int) ≤ (s.length : Int) := by omega
  generalize nl (s.drop a) = n at *
  generalize hX : tx ((s.drop a).take n) = X at *
  obtain ⟨b, hb⟩ : ∃ b, a + n = b := ⟨_, rfl⟩
  rw [hb] at hxg ⊢
  have hs : (a : Int) + (n : Int) = (b : Int) := by omega
  have hs2 : (b : Int) ≤ (s.length : Int) := by omega
  have hs3 : (a : Int) ≤ (b : Int) := by omega
  clear hb
  clear hX h ha hle
  go_enter Try.func32, Try.ntmps32
  go_wp2_with fail
  go_quiet ((go_at_call 48; exact Calls.quiet_of_same (HL.out _)))
  go_wp2_with fail
  obtain ⟨W, hW⟩ : ∃ W, w.drewN nq = W := ⟨_, rfl⟩
  have HW : Hid (w.drewN nq = W) := hW
  have HRW : Hid (Rd W g s a) := by rw [← hW]; exact HR.out.drewN _
  have d0 : W.cell? ⟨g, 0, none⟩ = some (.string (tx s)) := by rw [← hW]; exact c0
  have d1 : W.cell? ⟨g, 1, none⟩ = some (.int .i64 (a : Int)) := by rw [← hW]; exact c1
  have e1 : W.frozen? ⟨g, 1, none⟩ = false := by rw [← hW]; exact f1
  have d2 : W.cell? ⟨f, i, none⟩ = some x0 := by rw [← hW]; exact hf
  have e2 : W.frozen? ⟨f, i, none⟩ = false := by rw [← hW]; exact hfz
  rw [hW]
  clear hW c0 c1 f1 hf hfz
  go_region
  go_wp2_with fail
  go_ret
  have hw := HW.out
  have hfW : W.heap[f]? = some (.cells cs t (0, 0)) := by rw [← hw]; exact hfb
  refine ⟨rfl, ?_, ?_, ?_⟩
  · have h1 : Rd (W.setCell ⟨f, i, none⟩ (.string X)) g s a := (Below.heap_setCell _ _ _ _ hgf).trans HRW.out
    exact h1.goes (b := b)
  · exact (Below.heap_setCell _ _ _ _ hgf').trans (row_set _ hfW)
  · rw [← hw]
    refine ⟨rfl, rfl, rfl, ?_, fun q hq hr => ?_⟩
    · simp [World.setCell]
    · exact (Below.heap_setCell _ _ _ _ hq).trans (Below.heap_setCell _ _ _ _ hr)
end Go.Proofs.Ytnghgclogeefgaa
