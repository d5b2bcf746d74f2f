/- Fields of a number: the last one. -/
import Derived.Test.YtlgkajellndhlaaAll2
namespace Go.Proofs.Ytlgkajellndhlaa
open Go.RowKit
set_option linter.unusedVariables false
set_option linter.unusedSimpArgs false

def noF : Fd := ⟨0, 0, 0, []⟩
def lastI (fs : List Fd) (num : Int) : Fd × Bool := match (allI fs num).getLast? with | none => (noF, false) | some f => (f, true)
theorem last_none {fs : List Fd} {num : Int} (h : allI fs num = []) : lastI fs num = (noF, false) := by simp [lastI, h]
theorem last_some {fs a : List Fd} {num : Int} {f : Fd} (h : allI fs num = a ++ [f]) : lastI fs num = (f, true) := by simp [lastI, h]
theorem last_hit {fs : List Fd} {num : Int} {k : Nat} {f : Fd} (hf : fs[k]? = some f) (hq : (f.num == num) = true) (hd : allI (fs.drop (k + 1)) num = []) : lastI fs num = (f, true) := by
  refine last_some (a := allI (fs.take k) num) ?_
  have e : fs = fs.take k ++ f :: fs.drop (k + 1) := by
    obtain ⟨h1, h2⟩ := List.getElem?_eq_some_iff.1 hf
    rw [← h2]
    simp
  conv => lhs; rw [e]
  unfold allI at hd ⊢
  rw [List.filter_append, List.filter_cons, if_pos hq, hd]
theorem src_apart {w w' : World} {p : Nat} {cs : Array Value} {t : TypeId} {fr : Nat × Nat} {sv : Value} {bs : List Int} (h : w.heap[p]? = some (.cells cs t fr)) (hcs : ∀ (i : Nat) v, cs[i]? = some v → ∀ z, v ≠ .int .u8 z) (hS : Src w sv bs) (hw : ∀ q, q ≠ p → w'.heap[q]? = w.heap[q]?) : Src w' sv bs := by
  rcases hS with h' | ⟨ad, cp, h1, h2, h3⟩
  · exact .inl h'
  · refine .inr ⟨ad, cp, h1, h2, fun j u hu => ?_⟩
    have hc := h3 j u hu
    rw [World.cell?_of_block (hw _ ?_)]
    · exact hc
    · intro e
      unfold u8l at hu
      rw [List.getElem?_map] at hu
      obtain ⟨z, hz⟩ : ∃ z, u = .int .u8 z := by
        cases hq : bs[j]? with
        | none => rw [hq] at hu; cases hu
        | some z => rw [hq] at hu; exact ⟨z, by simpa using hu.symm⟩
      generalize ad.add j = x at hc e
      obtain ⟨bb, off, sp⟩ := x
      simp only at e
      subst e
      cases sp with
      | none =>
        rw [cell_of_row _ _ _ _ _ _ h] at hc
        exact hcs _ u hc z hz
      | some q => simp [World.cell?, h] at hc
/-- What was told of the last one. -/
def Lasts (w' : World) (e : Ending) (r : Fd × Bool) : Prop := ∃ v', e = .returned (.tuple #[.agg #[.int .i64 r.1.num, .int .i64 r.1.typ, .int .u64 (r.1.n : Int), v'], .bool r.2]) ∧ Src w' v' r.1.b ∧ Slc v'

set_option maxRecDepth 20000 in
set_option maxHeartbeats 4000000 in
theorem wlast_any (v : Value) (fs : List Fd) (num : Int) (w : World) (hF : Fds w v fs) (hf : ∀ f ∈ fs, f.Fit) (hl : (fs.length : Int) ≤ 10000000) :
    Calls Try.prog 11 #[v, .int .i64 num] w fun e w' => Lasts w' e (lastI fs num) ∧ Below w.heap.size w w' := by
  obtain ⟨sa, cap, rfl, hcap, hC⟩ := hF
  have HC : Hid (∀ i f, fs[i]? = some f → ∃ b off qa l c, sa = some ⟨b, off, none⟩ ∧ FCell w b (off + i * 4) f qa l c) := hC
  have HF : Hid (∀ f ∈ fs, f.Fit) := hf
  obtain ⟨n, hn⟩ : ∃ n, fs.length = n := ⟨_, rfl⟩
  have HN : Hid (fs.length = n) := hn
  rw [hn] at hcap hl ⊢
  have n1 : (n : Int) ≤ (cap : Int) := by omega
  obtain ⟨r, hr⟩ : ∃ r, lastI fs num = r := ⟨_, rfl⟩
  have HR : Hid (lastI fs num = r) := hr
  rw [hr]
  clear hC hn hcap hf hr
  go_enter Try.func11, Try.ntmps11
  go_wp2_with fail
  obtain ⟨W, hW⟩ : ∃ W, w.alloc (.cells #[.int .i64 0, .int .i64 0, .int .u64 0, .slice none 0 0] 35) = W := ⟨_, rfl⟩
  have HBW : Hid (Below w.heap.size w W) := by show Below _ _ _; rw [← hW]; exact bel1 _ _
  have HXW : Hid (W.heap[w.heap.size]? = some (.cells #[.int .i64 0, .int .i64 0, .int .u64 0, .slice none 0 0] 35 (0, 0))) := by show _ = _; rw [← hW]; exact Go.heap_alloc_new _ _
  have HWS : Hid (W.heap.size = w.heap.size + 1) := by show _ = _; rw [← hW]; simp
  rw [hW]
  clear hW
  go_loopw [6] (fun i wr => ∃ k : Nat, k ≤ n ∧ i = .int .i64 ((k : Int) - 1) ∧ allI (fs.drop k) num = [] ∧ wr = W) (fun i wr => ((intOf i) + 1).toNat)
  case atStart => exact ⟨n, Nat.le_refl _, rfl, by rw [← HN.out, List.drop_length]; rfl, rfl⟩
  case round =>
    obtain ⟨k, hk, rfl, hd, hw⟩ := hrel
    subst hw
    have HD : Hid (allI (fs.drop k) num = []) := hd
    clear hd
    obtain ⟨e0, e1, e2, e3⟩ := box4b (base := 0) HXW.out rfl
    have fz := fun j => frozen_of_row _ _ j _ _ HXW.out
    by_cases hk0 : 0 < k
    · obtain ⟨j, rfl⟩ : ∃ j, k = j + 1 := ⟨k - 1, by omega⟩
      rw [show (((j + 1 : Nat) : Int) - 1) = (j : Int) by omega]
      obtain ⟨f, hfk⟩ : ∃ f, fs[j]? = some f := ⟨_, List.getElem?_eq_getElem (by have := HN.out; omega)⟩
      obtain ⟨b, off, qa, l, c, hsa, hcf⟩ := HC.out j f hfk
      subst hsa
      have HFC : Hid (FCell w b (off + j * 4) f qa l c ∧ fs[j]? = some f) := ⟨hcf, hfk⟩
      have hcw := hcf.later HBW.out
      obtain ⟨c0, c1, c2, c3, csrc⟩ := hcw
      have HSR : Hid (Src wr (.slice qa l c) f.b) := csrc
      obtain ⟨X, hX⟩ : ∃ X : Int, (f.n : Int) = X := ⟨_, rfl⟩
      have HX : Hid ((f.n : Int) = X) := hX
      rw [hX] at c2
      obtain ⟨A, hA⟩ : ∃ A : Int, f.num = A := ⟨_, rfl⟩
      have HA : Hid (f.num = A) := hA
      rw [hA] at c0
      obtain ⟨T, hT⟩ : ∃ T : Int, f.typ = T := ⟨_, rfl⟩
      have HT : Hid (f.typ = T) := hT
      rw [hT] at c1
      have j1 : (j : Int) < (n : Int) := by omega
      clear hfk hcf csrc hX hA hT hk0
      cases hq : (A == num) with
      | false =>
        go_wp2_with fail
        go_roundw
        case rel =>
          refine ⟨j, by omega, rfl, ?_, by trivial⟩
          have h := HD.out
          have hd : fs.drop j = f :: fs.drop (j + 1) := by
            obtain ⟨h1, h2⟩ := List.getElem?_eq_some_iff.1 HFC.out.2
            rw [← h2]
            exact List.drop_eq_getElem_cons h1
          rw [hd]
          unfold allI at h ⊢
          rw [List.filter_cons, if_neg (by rw [HA.out, hq]; decide)]
          exact h
        case measure => simp [intOf]
      | true =>
        have HL : Hid (lastI fs num = (f, true)) := last_hit HFC.out.2 (by rw [HA.out]; exact hq) HD.out
        go_wp2_with fail
        refine (ownField_any A T X qa l c f.b wr HSR.out (by have := (HF.out f (List.mem_of_getElem? HFC.out.2)).short; omega)).mono ?_
        rintro e w2 ⟨⟨v2, rfl, ho2⟩, hb2⟩
        obtain ⟨va, vc, hv2⟩ := own_slice ho2
        subst hv2
        have HO2 : Hid (w2.ownsRow wr.heap.size 5 1 (.slice va f.b.length vc) f.b.length (u8l f.b)) := ho2
        have HB2 : Hid (Below wr.heap.size wr w2) := hb2
        have HX2 : Hid (w2.heap[w.heap.size]? = some (.cells #[.int .i64 0, .int .i64 0, .int .u64 0, .slice none 0 0] 35 (0, 0))) := (hb2.block _ (by have := HWS.out; omega)).trans HXW.out
        obtain ⟨g0, g1, g2, g3⟩ := box4b (base := 0) HX2.out rfl
        have gz := fun j => frozen_of_row _ _ j _ _ HX2.out
        obtain ⟨M, hM⟩ : ∃ M, f.b.length = M := ⟨_, rfl⟩
        have HM : Hid (f.b.length = M) := hM
        rw [hM] at HO2 ⊢
        clear ho2 hb2 hM e0 e1 e2 e3 fz
        go_wp2_with fail
        refine bodyPost_ret (v := .tuple #[.agg #[.int .i64 A, .int .i64 T, .int .u64 X, .slice va M vc], .bool true]) (by simp [results, Try.results11, go_sem, g0, g1, g2, g3]) rfl ⟨⟨.slice va M vc, ?_, ?_, ⟨_, _, _, rfl⟩⟩, ?_⟩
        · rw [← HR.out, HL.out, ← HA.out, ← HT.out, ← HX.out]
        · rw [← HR.out, HL.out]
          refine own_src (base := wr.heap.size) (own_at (by have h := HO2.out; rw [← HM.out] at h ⊢; exact h) fun q hq' => ?_)
          have h1 := (HO2.out.lt q (by first | exact hq' | (rw [HM.out] at hq'; exact hq'))).1
          have h2 := HWS.out
          rw [Below.heap_setCell _ _ _ _ (by show q ≠ w.heap.size; omega), Below.heap_setCell _ _ _ _ (by show q ≠ w.heap.size; omega), Below.heap_setCell _ _ _ _ (by show q ≠ w.heap.size; omega), Below.heap_setCell _ _ _ _ (by show q ≠ w.heap.size; omega)]
        · exact ((((HBW.out.trans (HB2.out.mono HBW.out.size)).setCell (Nat.le_refl _) _).setCell (Nat.le_refl _) _).setCell (Nat.le_refl _) _).setCell (Nat.le_refl _) _
    · obtain rfl : k = 0 := by omega
      rw [show (((0 : Nat) : Int) - 1) = -1 by rfl]
      have HL : Hid (lastI fs num = (noF, false)) := last_none (by have h := HD.out; rw [List.drop_zero] at h; exact h)
      go_wp2_with fail
      refine bodyPost_ret (v := .tuple #[.agg #[.int .i64 0, .int .i64 0, .int .u64 0, .slice none 0 0], .bool false]) (by simp [results, Try.results11, go_sem, e0, e1, e2, e3]) rfl ⟨⟨.slice none 0 0, ?_, .inl ⟨rfl, ?_⟩, ⟨_, _, _, rfl⟩⟩, ?_⟩
      · rw [← HR.out, HL.out]; rfl
      · rw [← HR.out, HL.out]; rfl
      · exact (((HBW.out.setCell (Nat.le_refl _) _).setCell (Nat.le_refl _) _).setCell (Nat.le_refl _) _).setCell (Nat.le_refl _) _

set_option maxRecDepth 20000 in
set_option maxHeartbeats 4000000 in
theorem rlast_any (v : Value) (fs : List Fd) (num : Int) (w : World) (hF : Fds w v fs) (hl : (fs.length : Int) ≤ 10000000) :
    Calls Try.prog 12 #[v, .int .i64 num] w fun e w' => Lasts w' e (lastI fs num) ∧ Below w.heap.size w w' := by
  have HF : Hid (Fds w v fs ∧ (fs.length : Int) ≤ 10000000) := ⟨hF, hl⟩
  obtain ⟨r, hr⟩ : ∃ r, lastI fs num = r := ⟨_, rfl⟩
  have HR : Hid (lastI fs num = r) := hr
  rw [hr]
  clear hF hl hr
  go_enter Try.func12, Try.ntmps12
  go_wp2_with fail
  obtain ⟨W, hW⟩ : ∃ W, w.alloc (.cells #[.int .i64 0, .int .i64 0, .int .u64 0, .slice none 0 0] 38) = W := ⟨_, rfl⟩
  have HBW : Hid (Below w.heap.size w W) := by show Below _ _ _; rw [← hW]; exact bel1 _ _
  have HXW : Hid (W.heap[w.heap.size]? = some (.cells #[.int .i64 0, .int .i64 0, .int .u64 0, .slice none 0 0] 38 (0, 0))) := by show _ = _; rw [← hW]; exact Go.heap_alloc_new _ _
  have HWS : Hid (W.heap.size = w.heap.size + 1) := by show _ = _; rw [← hW]; simp
  rw [hW]
  clear hW
  refine (rall_any v fs num W (HF.out.1.later HBW.out) HF.out.2).mono ?_
  rintro e w2 ⟨⟨v2, rfl, hF2⟩, hb2⟩
  have HB2 : Hid (Below w.heap.size w w2) := HBW.out.trans (hb2.mono HBW.out.size)
  have HX2 : Hid (w2.heap[w.heap.size]? = some (.cells #[.int .i64 0, .int .i64 0, .int .u64 0, .slice none 0 0] 38 (0, 0))) := (hb2.block _ (by have := HWS.out; omega)).trans HXW.out
  obtain ⟨sa, cap, rfl, hcap, hC⟩ := hF2
  have hal : (allI fs num).length ≤ fs.length := List.length_filter_le _ _
  obtain ⟨g0, g1, g2, g3⟩ := box4b (base := 0) HX2.out rfl
  have gz := fun j => frozen_of_row _ _ j _ _ HX2.out
  have HC : Hid (∀ i f, (allI fs num)[i]? = some f → ∃ b off qa l c, sa = some ⟨b, off, none⟩ ∧ FCell w2 b (off + i * 4) f qa l c) := hC
  have HL2 : Hid ((fs.length : Int) ≤ 10000000) := HF.out.2
  clear hb2 hC
  by_cases h0 : allI fs num = []
  · have HL : Hid (lastI fs num = (noF, false)) := last_none h0
    rw [h0] at hcap ⊢
    go_wp2_with fail
    refine bodyPost_ret (v := .tuple #[.agg #[.int .i64 0, .int .i64 0, .int .u64 0, .slice none 0 0], .bool false]) (by simp [results, Try.results12, go_sem, g0, g1, g2, g3]) rfl ⟨⟨.slice none 0 0, ?_, .inl ⟨rfl, ?_⟩, ⟨_, _, _, rfl⟩⟩, ?_⟩
    · rw [← HR.out, HL.out]; rfl
    · rw [← HR.out, HL.out]; rfl
    · exact (((HB2.out.setCell (Nat.le_refl _) _).setCell (Nat.le_refl _) _).setCell (Nat.le_refl _) _).setCell (Nat.le_refl _) _
  · obtain ⟨m, hm⟩ : ∃ m, (allI fs num).length = m + 1 := by
      cases hq : allI fs num with
      | nil => exact absurd hq h0
      | cons x r => exact ⟨r.length, rfl⟩
    obtain ⟨f, hfm⟩ : ∃ f, (allI fs num)[m]? = some f := ⟨_, List.getElem?_eq_getElem (by omega)⟩
    have HL : Hid (lastI fs num = (f, true)) := by
      refine last_some (a := (allI fs num).take m) ?_
      rw [← take_snoc' _ _ _ hfm]
      exact (List.take_of_length_le (by omega)).symm
    obtain ⟨b, off, qa, l, c, hsa, hcf⟩ := HC.out m f hfm
    subst hsa
    obtain ⟨c0, c1, c2, c3, csrc⟩ := hcf
    have HSR : Hid (Src w2 (.slice qa l c) f.b) := csrc
    obtain ⟨X, hX⟩ : ∃ X : Int, (f.n : Int) = X := ⟨_, rfl⟩
    have HX : Hid ((f.n : Int) = X) := hX
    rw [hX] at c2
    obtain ⟨A, hA⟩ : ∃ A : Int, f.num = A := ⟨_, rfl⟩
    have HA : Hid (f.num = A) := hA
    rw [hA] at c0
    obtain ⟨T, hT⟩ : ∃ T : Int, f.typ = T := ⟨_, rfl⟩
    have HT : Hid (f.typ = T) := hT
    rw [hT] at c1
    have m0 : (m : Int) ≤ 10000000 := by have := HL2.out; omega
    have m1 : (m : Int) + 1 ≤ (cap : Int) := by omega
    obtain ⟨N, hN⟩ : ∃ N, m + 1 = N := ⟨_, rfl⟩
    have HN : Hid (m + 1 = N) := hN
    have hNm : (N : Int) - 1 = (m : Int) := by omega
    have hN0 : ((N : Int) == 0) = false := by rw [beq_eq_false_iff_ne]; omega
    have hN1 : (N : Int) ≤ 10000001 := by omega
    have hN2 : (N : Int) ≤ (cap : Int) := by omega
    have hN3 : (m : Int) < (N : Int) := by omega
    rw [hm, hN]
    clear hm hal hcap h0 hX hA hT csrc hfm hN m1
    go_wp2_with fail
    refine bodyPost_ret (v := .tuple #[.agg #[.int .i64 A, .int .i64 T, .int .u64 X, .slice qa l c], .bool true]) (by simp [results, Try.results12, go_sem, g0, g1, g2, g3]) rfl ⟨⟨.slice qa l c, ?_, ?_, ⟨_, _, _, rfl⟩⟩, ?_⟩
    · rw [← HR.out, HL.out, ← HA.out, ← HT.out, ← HX.out]
    · rw [← HR.out, HL.out]
      refine src_apart HX2.out (fun i v hv z => ?_) HSR.out fun q hq => ?_
      · match i with
        | 0 => simp at hv; rw [← hv]; intro e; cases e
        | 1 => simp at hv; rw [← hv]; intro e; cases e
        | 2 => simp at hv; rw [← hv]; intro e; cases e
        | 3 => simp at hv; rw [← hv]; intro e; cases e
        | i + 4 => simp at hv
      · rw [Below.heap_setCell _ _ _ _ hq, Below.heap_setCell _ _ _ _ hq, Below.heap_setCell _ _ _ _ hq, Below.heap_setCell _ _ _ _ hq]
    · exact (((HB2.out.setCell (Nat.le_refl _) _).setCell (Nat.le_refl _) _).setCell (Nat.le_refl _) _).setCell (Nat.le_refl _) _
end Go.Proofs.Ytlgkajellndhlaa
