/- Tables: sessions whose time is over go. -/
import Derived.Test.YtnghgclogeefgaaE2
namespace Go.Proofs.Ytnghgclogeefgaa
open Go.RowKit
set_option linter.unusedVariables false
set_option linter.unusedSimpArgs false

theorem set_at_take (L : List Se) (a b : Nat) (s : Se) (h : a < b) : (L.set a s).drop b = L.drop b := by rw [List.drop_set, if_pos h]
theorem set_take (L : List Se) (a : Nat) (s : Se) (h : a < L.length) : (L.set a s).take (a + 1) = L.take a ++ [s] := by
  rw [List.take_succ_eq_append_getElem (by rw [List.length_set]; exact h), List.take_set, List.set_eq_of_length_le (by rw [List.length_take]; omega)]
  simp
set_option maxRecDepth 20000 in
set_option maxHeartbeats 8000000 in
theorem deletef_any (base : Nat) (sv : Value) (ss : List Se) (q : Nat) (now : Int) (w : World) (ho : w.ownsRow base 68 5 sv ss.length (seL ss)) (hl : ss.length ≤ 64) (hq : w.heap[q]? = some (.cells #[.int .i64 now] 2 (0, 0))) :
    Calls Try.prog 44 #[sv, .func (.func 45) #[] #[.pointer (some ⟨q, 0, none⟩)]] w fun e w' => (∃ sv', e = .returned sv' ∧ w'.ownsRow base 68 5 sv' (exI ss now).length (seL (exI ss now))) ∧ w.grownBy w' sv.ownBlock := by
  have HQ : Hid (w.heap[q]? = some (.cells #[.int .i64 now] 2 (0, 0))) := hq
  have hqc : w.cell? ⟨q, 0, none⟩ = some (.int .i64 now) := by rw [cell_of_row _ _ _ _ _ _ hq]; rfl
  have HIX : Hid (Calls Try.prog 49 #[sv, .func (.func 45) #[] #[.pointer (some ⟨q, 0, none⟩)]] w fun e w' => e = .returned (.int .i64 (fxI ss now)) ∧ Below w.heap.size w w') := indexo_any base sv ss q now w ho (by omega) hqc
  have HO : Hid (w.ownsRow base 68 5 sv ss.length (seL ss)) := ho
  clear hq hqc ho
  cases hx : fx ss now with
  | none =>
    have e1 : fxI ss now = -1 := by unfold fxI; rw [hx]
    have HE : Hid (exI ss now = ss) := fx_none ss now hx
    rw [e1] at HIX
    obtain ⟨sa, sc, hsv⟩ := own_slice HO.out
    subst hsv
    clear hx e1
    go_enter Try.func44, Try.ntmps44
    go_wp2_with (go_at_call 49; refine HIX.out.mono ?_; rintro e w2 ⟨rfl, hb2⟩)
    go_ret
    refine ⟨⟨_, rfl, ?_⟩, ⟨hb2.os, hb2.tape, hb2.output, hb2.size, fun p hp _ => hb2.block p hp⟩⟩
    rw [HE.out]
    exact own_at HO.out fun p hp => hb2.block p (HO.out.lt p hp).2
  | some k =>
    obtain ⟨hk, hx1, hx2⟩ := fx_some ss now k hx
    have e1 : fxI ss now = (k : Int) := by unfold fxI; rw [hx]
    rw [e1] at HIX
    obtain ⟨g, c, e⟩ := own_form HO.out (by omega)
    subst e
    obtain ⟨n, hn⟩ : ∃ n, ss.length = n := ⟨_, rfl⟩
    have HN : Hid (ss.length = n) := hn
    have hcap : (n : Int) ≤ (c : Int) := by have := own_cap HO.out; omega
    have hn64 : (n : Int) ≤ 64 := by omega
    have hk0 : ((k : Int) == -1) = false := by rw [beq_eq_false_iff_ne]; omega
    have hk1 : (k : Int) < (n : Int) := by omega
    rw [hn] at HO HIX ⊢
    have HX : Hid (exI (ss.take k) now = ss.take k ∧ exI (ss.take (k + 1)) now = ss.take k ∧ k < n) := ⟨hx1, hx2, by omega⟩
    have hqg : q ≠ g := by
      obtain ⟨cur, hc⟩ := own_tag HO.out (q := g) rfl
      exact ne_tag HQ.out hc (by decide)
    have HQG : Hid (q ≠ g ∧ q < w.heap.size ∧ g < w.heap.size) := ⟨hqg, (Array.getElem?_eq_some_iff.1 HQ.out).1, (own_lt HO.out).2⟩
    clear hx hx1 hx2 hk e1 hn hl hqg
    go_enter Try.func44, Try.ntmps44
    go_wp2_with fail
    refine HIX.out.mono ?_
    rintro e w2 ⟨rfl, hb2⟩
    have HB2 : Hid (Below w.heap.size w w2) := hb2
    clear hb2
    go_wp2_with fail
    go_loopw [5, 6, 7] (fun i j x wr => ∃ (a b : Nat) (L : List Se), i = .int .i64 (a : Int) ∧ j = .int .i64 (b : Int) ∧ a < b ∧ b ≤ n ∧ L.length = n ∧ wr.ownsRow base 68 5 (.slice (some ⟨g, 0, none⟩) n c) n (seL L) ∧ L.take a = exI (ss.take b) now ∧ L.drop b = ss.drop b ∧ Bg g w wr) (fun i j x wr => n - (intOf j).toNat)
    case atStart => exact ⟨k, k + 1, ss, rfl, by go_num, by omega, by have := HX.out.2.2; omega, HN.out, own_at HO.out (fun p hp => HB2.out.block p (HO.out.lt p hp).2), HX.out.2.1.symm, rfl, ⟨HB2.out.os, HB2.out.tape, HB2.out.output, HB2.out.size, fun p hp _ => HB2.out.block p hp⟩⟩
    case round =>
      obtain ⟨a, b, L, rfl, rfl, hab, hbn, hL, hrow, htk, hdr, hbg⟩ := hrel
      have HL : Hid (L.length = n ∧ wr.ownsRow base 68 5 (.slice (some ⟨g, 0, none⟩) n c) n (seL L) ∧ L.take a = exI (ss.take b) now ∧ L.drop b = ss.drop b ∧ Bg g w wr ∧ a < b) := ⟨hL, hrow, htk, hdr, hbg, hab⟩
      have hab' : (a : Int) < (b : Int) := by omega
      have hbn' : (b : Int) ≤ (n : Int) := by omega
      clear hL hrow htk hdr hbg
      by_cases hlt : b < n
      · have hlt' : (b : Int) < (n : Int) := by omega
        obtain ⟨s, hs⟩ : ∃ s, L[b]? = some s := ⟨_, List.getElem?_eq_getElem (by have := HL.out.1; omega)⟩
        have hs2 : ss[b]? = some s := by
          have h : (L.drop b)[0]? = (ss.drop b)[0]? := by rw [HL.out.2.2.2.1]
          rw [List.getElem?_drop, List.getElem?_drop] at h
          simpa [hs] using h.symm
        have HS : Hid (ss[b]? = some s) := hs2
        have hrow : wr.ownsRow base 68 5 (.slice (some ⟨g, 0, none⟩) L.length c) L.length (seL L) := by rw [HL.out.1]; exact HL.out.2.1
        obtain ⟨c0, c1, c2, c3, c4⟩ := own_sc hrow hs
        clear hs hs2 hrow
        go_upto_region 8 with fail
        obtain ⟨W3, hW3⟩ : ∃ W3, wr.alloc (.cells #[.int .i64 s.num, .string (tx s.t), .string (tx s.u), .bool s.a, .int .i64 s.til] 68) = W3 := ⟨_, rfl⟩
        have h33 : Below wr.heap.size wr W3 := by rw [← hW3]; exact bel1 _ _
        have HR3 : Hid (W3.heap[wr.heap.size]? = some (.cells #[.int .i64 s.num, .string (tx s.t), .string (tx s.u), .bool s.a, .int .i64 s.til] 68 (0, 0))) := by show _ = _; rw [← hW3]; exact Go.heap_alloc_new _ _
        have HG3 : Hid (Bg g w W3 ∧ g < wr.heap.size ∧ W3.ownsRow base 68 5 (.slice (some ⟨g, 0, none⟩) n c) n (seL L)) := ⟨HL.out.2.2.2.2.1.below h33, (own_lt HL.out.2.1).2, own_at HL.out.2.1 fun p hp => h33.block p (HL.out.2.1.lt p hp).2⟩
        have hq3 : W3.cell? ⟨q, 0, none⟩ = some (.int .i64 now) := by rw [cell_of_row _ _ _ _ _ _ ((HG3.out.1.block q HQG.out.2.1 HQG.out.1).trans HQ.out)]; rfl
        have HIS : Hid (Calls Try.prog 45 #[.agg #[.int .i64 s.num, .string (tx s.t), .string (tx s.u), .bool s.a, .int .i64 s.til], .pointer (some ⟨q, 0, none⟩)] W3 fun e w' => e = .returned (.bool (decide (s.til ≤ now))) ∧ Below W3.heap.size W3 w') := isover_any s q now W3 hq3
        try rw [hW3]
        obtain ⟨v7, hv7⟩ : ∃ v7, wr.heap.size = v7 := ⟨_, rfl⟩
        rw [hv7] at HR3 HG3 ⊢
        clear hW3 h33 c0 c1 c2 c3 c4 hq3 hv7
        have x0 : W3.cell? ⟨v7, 0, none⟩ = some (.int .i64 s.num) := by rw [cell_of_row _ _ _ _ _ _ HR3.out]; rfl
        have x1 : W3.cell? ⟨v7, 1, none⟩ = some (.string (tx s.t)) := by rw [cell_of_row _ _ _ _ _ _ HR3.out]; rfl
        have x2 : W3.cell? ⟨v7, 2, none⟩ = some (.string (tx s.u)) := by rw [cell_of_row _ _ _ _ _ _ HR3.out]; rfl
        have x3 : W3.cell? ⟨v7, 3, none⟩ = some (.bool s.a) := by rw [cell_of_row _ _ _ _ _ _ HR3.out]; rfl
        have x4 : W3.cell? ⟨v7, 4, none⟩ = some (.int .i64 s.til) := by rw [cell_of_row _ _ _ _ _ _ HR3.out]; rfl
        by_cases ht : s.til ≤ now
        · have HSN : Hid (exI (ss.take (b + 1)) now = exI (ss.take b) now) := by show _ = _; rw [exI_snoc ss now b s HS.out, if_pos ht, List.append_nil]
          rw [decide_eq_true ht] at HIS
          clear ht
          go_wp2_with fail
          refine HIS.out.mono ?_
          rintro e w4 ⟨rfl, hb4⟩
          have HK4 : Hid (Bg g w w4 ∧ w4.ownsRow base 68 5 (.slice (some ⟨g, 0, none⟩) n c) n (seL L)) := ⟨HG3.out.1.below hb4, own_at HG3.out.2.2 fun p hp => hb4.block p (HG3.out.2.2.lt p hp).2⟩
          clear hb4
          go_wp2_with fail
          go_roundw
          case rel => exact ⟨a, b + 1, L, rfl, by go_num, by omega, by omega, HL.out.1, HK4.out.2, by rw [HSN.out]; exact HL.out.2.2.1, by rw [← List.drop_drop, ← List.drop_drop, HL.out.2.2.2.1], HK4.out.1⟩
          case measure => simp [intOf]; omega
        · have HSN : Hid (exI (ss.take (b + 1)) now = exI (ss.take b) now ++ [s]) := by show _ = _; rw [exI_snoc ss now b s HS.out, if_neg ht]
          rw [decide_eq_false ht] at HIS
          clear ht
          go_wp2_with fail
          refine HIS.out.mono ?_
          rintro e w4 ⟨rfl, hb4⟩
          have HK4 : Hid (Bg g w w4 ∧ w4.ownsRow base 68 5 (.slice (some ⟨g, 0, none⟩) n c) n (seL L) ∧ v7 ≠ g) := ⟨HG3.out.1.below hb4, own_at HG3.out.2.2 fun p hp => hb4.block p (HG3.out.2.2.lt p hp).2, by have := HG3.out.2.1; omega⟩
          have hr4 : w4.heap[v7]? = some (.cells #[.int .i64 s.num, .string (tx s.t), .string (tx s.u), .bool s.a, .int .i64 s.til] 68 (0, 0)) := (hb4.block _ (Array.getElem?_eq_some_iff.1 HR3.out).1).trans HR3.out
          have y0 : w4.cell? ⟨v7, 0, none⟩ = some (.int .i64 s.num) := by rw [cell_of_row _ _ _ _ _ _ hr4]; rfl
          have y1 : w4.cell? ⟨v7, 1, none⟩ = some (.string (tx s.t)) := by rw [cell_of_row _ _ _ _ _ _ hr4]; rfl
          have y2 : w4.cell? ⟨v7, 2, none⟩ = some (.string (tx s.u)) := by rw [cell_of_row _ _ _ _ _ _ hr4]; rfl
          have y3 : w4.cell? ⟨v7, 3, none⟩ = some (.bool s.a) := by rw [cell_of_row _ _ _ _ _ _ hr4]; rfl
          have y4 : w4.cell? ⟨v7, 4, none⟩ = some (.int .i64 s.til) := by rw [cell_of_row _ _ _ _ _ _ hr4]; rfl
          obtain ⟨sa', hsa'⟩ : ∃ sa', L[a]? = some sa' := ⟨_, List.getElem?_eq_getElem (by have := HL.out.1; omega)⟩
          obtain ⟨z0, z1, z2, z3, z4⟩ := own_sc (s := sa') (ss := L) (i := a) (by rw [HL.out.1]; exact HK4.out.2.1) hsa'
          have fz : ∀ r, w4.frozen? ⟨g, r, none⟩ = false := fun r => by
            obtain ⟨cur, hc⟩ := own_tag HK4.out.2.1 (q := g) rfl
            exact frozen_of_row _ _ r _ _ hc
          clear hb4 hr4 hsa' x0 x1 x2 x3 x4
          go_wp2_with fail
          go_roundw
          case rel =>
            have hLn := HL.out.1
            refine ⟨a + 1, b + 1, L.set a s, by go_num, by go_num, by omega, by omega, by rw [List.length_set]; exact hLn, ?_, ?_, ?_, ?_⟩
            · rw [← seL_put L a s (by omega)]
              have hsl : (seL L).length = n * 5 := by rw [seL_len, hLn]
              refine own_set (own_set (own_set (own_set (own_set HK4.out.2.1 ?_ _) ?_ _) ?_ _) ?_ _) ?_ _ <;> simp only [List.length_set, hsl] <;> omega
            · rw [set_take L a s (by omega), HL.out.2.2.1, HSN.out]
            · rw [set_at_take _ _ _ _ (by omega), ← List.drop_drop, ← List.drop_drop, HL.out.2.2.2.1]
            · exact ((((HK4.out.1.set _ _).set _ _).set _ _).set _ _).set _ _
          case measure => simp [intOf]; omega
      · have hbn2 : b = n := by omega
        have hge : ¬ ((b : Int) < (n : Int)) := by omega
        obtain ⟨cur, hg, hcm, hcs, htake⟩ : ∃ cur, wr.heap[g]? = some (.cells cur 68 (0, 0)) ∧ c ≤ maxLen ∧ cur.size = c * 5 ∧ cur.toList.take (n * 5) = seL L := by
          rcases HL.out.2.1.2 with ⟨h, _⟩ | ⟨g', cp', cur, hv, _, hc, _, h5, h6, h7⟩
          · cases h
          · cases hv; exact ⟨cur, hc, h5, h6, h7⟩
        have han : a < n := by omega
        have hcl := run_clearN wr g (a * 5) (c - a) (n - a) cur (by omega) hg (by rw [hcs]; omega)
        obtain ⟨W5, hW5⟩ : ∃ W5, wr.setRow g (cur.toList.take (a * 5) ++ zN (n - a) ++ cur.toList.drop (a * 5 + (n - a) * 5)).toArray = W5 := ⟨_, rfl⟩
        have HE : Hid (W5.ownsRow base 68 5 (.slice (some ⟨g, 0, none⟩) a c) (exI ss now).length (seL (exI ss now)) ∧ w.grownBy W5 (Value.slice (some ⟨g, 0, none⟩) n c).ownBlock) := by
          have hlo := own_lt HL.out.2.1
          have ht1 : exI ss now = L.take a := by
            have h := HL.out.2.2.1
            rw [hbn2, ← HN.out, List.take_length] at h
            exact h.symm
          have hla : (exI ss now).length = a := by rw [ht1, List.length_take, HL.out.1]; omega
          have hta : cur.toList.take (a * 5) = seL (exI ss now) := by rw [ht1, ← seL_take, ← htake, List.take_take, Nat.min_eq_left (by omega)]
          rw [← hW5, hla]
          refine ⟨⟨by rw [seL_len, hla], .inr ⟨g, c, _, rfl, hlo.1, setRow_heap _ g cur _ 68 _ hg, by omega, hcm, ?_, ?_⟩⟩, ?_⟩
          · simp only [List.size_toArray, List.length_append, List.length_take, List.length_drop, Array.length_toList, hcs, zN_len]
            omega
          · show ((cur.toList.take (a * 5) ++ zN (n - a)) ++ cur.toList.drop (a * 5 + (n - a) * 5)).take (a * 5) = _
            rw [List.append_assoc, List.take_left' (by rw [List.length_take, Array.length_toList, hcs]; omega)]
            exact hta
          · have hbg := HL.out.2.2.2.2.1
            exact ⟨hbg.os, hbg.tape, hbg.output, by simp; exact hbg.size, fun p hp hpg => (setRow_other _ g p _ (fun e => hpg (by rw [e]; rfl))).trans (hbg.block p hp (fun e => hpg (by rw [e]; rfl)))⟩
        rw [hW5] at hcl
        have hac : (a : Int) < (c : Int) := by omega
        have han' : (a : Int) < (n : Int) := by omega
        have hca : ¬ c = a := by omega
        clear hW5 hg hcm hcs htake hlt hbn2
        go_wp2_with fail
        go_ret
        exact ⟨⟨_, rfl, HE.out.1⟩, HE.out.2⟩
end Go.Proofs.Ytnghgclogeefgaa
