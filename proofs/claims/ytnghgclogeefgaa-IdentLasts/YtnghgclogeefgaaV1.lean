/- The law of a session's time. -/
import Derived.Test.YtnghgclogeefgaaU2
import Derived.Test.YtnghgclogeefgaaT4
namespace Go.Proofs.Ytnghgclogeefgaa
open Go.RowKit
set_option linter.unusedVariables false
set_option linter.unusedSimpArgs false

def other : List UInt8 := [111, 116, 104, 101, 114]
def one : List UInt8 := [111, 110, 101]
def peer3 : List UInt8 := [98, 101, 108, 102, 114, 121, 58, 111, 116, 104, 101, 114, 47, 111, 110, 101]
theorem p3 : pI peer3 = .inl (other, one, false) := by decide
/-- The sessions behind k more. -/
def stK (s : Se) (E : Int) (k : Nat) : List Se := s :: (List.range (min k 63)).map fun (j : Nat) => ⟨(j : Int) + 2, other, one, false, E⟩
theorem stK_len (s : Se) (E : Int) (k : Nat) : (stK s E k).length = 1 + min k 63 := by simp [stK]; omega
theorem stK_more (s : Se) (E : Int) (k : Nat) (h : k < 63) : stK s E (k + 1) = stK s E k ++ [⟨(k : Int) + 2, other, one, false, E⟩] := by
  unfold stK
  rw [show min (k + 1) 63 = k + 1 by omega, show min k 63 = k by omega, List.range_succ, List.map_append]
  rfl
theorem stK_full (s : Se) (E : Int) (k : Nat) (h : 63 ≤ k) : stK s E (k + 1) = stK s E k := by
  unfold stK
  rw [show min (k + 1) 63 = min k 63 by omega]
theorem op_more (s : Se) (now span : Int) (k : Nat) (h : k < 63) (hr : rsI now span = true) : opI ((1 + min k 63 : Nat) : Int) (stK s (endI now span) k) peer3 now span = ((k : Int) + 2, 0, ((1 + min (k + 1) 63 : Nat) : Int), stK s (endI now span) (k + 1)) := by
  unfold opI
  rw [p3]
  simp only
  rw [if_neg (by rw [hr]; decide), if_neg (by rw [stK_len]; omega), stK_more _ _ _ h, show min k 63 = k by omega, show min (k + 1) 63 = k + 1 by omega]
  have e : ((1 + k : Nat) : Int) + 1 = (k : Int) + 2 := by omega
  have e2 : ((1 + (k + 1) : Nat) : Int) = (k : Int) + 2 := by omega
  rw [e, e2]
theorem op_full (s : Se) (now span : Int) (k : Nat) (h : 63 ≤ k) (hr : rsI now span = true) : opI ((1 + min k 63 : Nat) : Int) (stK s (endI now span) k) peer3 now span = (0, 7, ((1 + min (k + 1) 63 : Nat) : Int), stK s (endI now span) (k + 1)) := by
  unfold opI
  rw [p3]
  simp only
  rw [if_neg (by rw [hr]; decide), if_pos (by rw [stK_len]; omega), stK_full _ _ _ h, show min (k + 1) 63 = min k 63 by omega]
theorem th_first (s : Se) (E later : Int) (k : Nat) (h : s.num = 1) : thI (stK s E k) 1 later = if s.til ≤ later then none else some s := by
  unfold thI stK
  simp only [ix, h, if_true, List.getElem?_cons_zero]
theorem op_bad (peer : List UInt8) (now span : Int) : (∃ E, opI 0 [] peer now span = (0, E, 0, []) ∧ (E != 0) = true) ∨ (∃ t u b, pI peer = .inl (t, u, b) ∧ rsI now span = true ∧ opI 0 [] peer now span = (1, 0, 1, [⟨1, t, u, b, endI now span⟩])) := by
  unfold opI
  cases h : pI peer with
  | inr k => exact .inl ⟨100, rfl, rfl⟩
  | inl x =>
    obtain ⟨t, u, b⟩ := x
    cases hr : rsI now span with
    | false => exact .inl ⟨1, rfl, rfl⟩
    | true => exact .inr ⟨t, u, b, rfl, rfl, rfl⟩

set_option maxRecDepth 20000 in
set_option maxHeartbeats 16000000 in
theorem lasts_law (peer : List UInt8) (now span later others : Int) (w : World) (hm : (peer.length : Int) ≤ 140737488351232) :
    Calls Try.prog 5 #[.string (tx peer), .int .i64 now, .int .i64 span, .int .i64 later, .int .i64 others] w fun e w' => e = .returned (.bool true) ∧ Below w.heap.size w w' := by
  have HM : Hid ((peer.length : Int) ≤ 140737488351232) := hm
  obtain ⟨at', au, ab, E9, K9, hres, hE9, ha1, ha2⟩ := res_form peer
  have H9 : Hid (∀ W, Calls Try.prog 9 #[.string (tx peer)] W fun e w' => e = .returned (.tuple #[.agg #[.string (tx at'), .string (tx au), .bool ab], .int .i64 E9, .int .i64 K9]) ∧ Below W.heap.size W w') := fun W => by have h := rparse_any peer W hm; rw [hres] at h; exact h
  have HE9 : Hid ((E9 = 0 ∧ pI peer = .inl (at', au, ab)) ∨ E9 = 100) := hE9
  have HA : Hid ((at'.length : Int) ≤ 140737488351232 ∧ (au.length : Int) ≤ 140737488351232 ∧ resP (pI peer) = .tuple #[.agg #[.string (tx at'), .string (tx au), .bool ab], .int .i64 E9, .int .i64 K9]) := ⟨ha1, ha2, hres⟩
  clear hm hres hE9 ha1 ha2
  go_enter Try.func5, Try.ntmps5
  go_wp2_with fail
  refine (new_any w).mono ?_
  rintro e w1 ⟨rfl, hw1⟩
  have HI1 : Hid (Tb w1 w.heap.size w.heap.size 0 (.slice none 0 0) [] ∧ Below w.heap.size w w1) := by rw [hw1]; exact ⟨tb_new w, bel1 _ _⟩
  clear hw1
  obtain ⟨T, hT⟩ : ∃ T, w.heap.size = T := ⟨_, rfl⟩
  have HT : Hid (w.heap.size = T) := hT
  rw [hT] at HI1 ⊢
  clear hT
  go_wp2_with fail
  have HOP : Hid (Calls Try.prog 18 #[.pointer (some ⟨T, 0, none⟩), .string (tx peer), .int .i64 now, .int .i64 span] w1 fun e w' => opP w' T T e (opI 0 [] peer now span) ∧ Below T w1 w' ∧ Kt w1 w') := open_kt T T 0 (.slice none 0 0) [] peer now span w1 HI1.out.1 (by decide) HM.out (by decide) (by decide) (by have := (Array.getElem?_eq_some_iff.1 HI1.out.1.tab).1; omega)
  rcases op_bad peer now span with ⟨E, hop, hE⟩ | ⟨t, u, b, hp, hr, hop⟩
  · rw [hop] at HOP
    clear hop
    refine HOP.out.mono ?_
    rintro e w2 ⟨⟨rfl, sv2, ht2⟩, hb2, _⟩
    simp only
    have HB2 : Hid (Below T w w2) := HI1.out.2.trans hb2
    clear ht2 hb2 HOP HI1
    go_wp2_with fail
    refine (H9.out w2).mono ?_
    rintro e w3 ⟨rfl, hb3⟩
    have HB3 : Hid (Below T w w3 ∧ Below T w (w3.alloc (.cells #[.string (tx at'), .string (tx au), .bool ab] 23))) := by
      have hz := HB2.out.size
      have ht := HT.out
      have h := HB2.out.trans (hb3.mono (by omega))
      exact ⟨h, h.alloc (by have := h.size; omega) _⟩
    clear hb3
    go_wp2_with (go_at_call 16; refine (known_any _).mono ?_; rintro e w4 ⟨rfl, hb4⟩)
    go_ret
    exact ⟨rfl, by rw [HT.out]; exact HB3.out.2.trans (hb4.mono (by have := HB3.out.2.size; have := HT.out; omega))⟩
  · have hres := HA.out.2.2
    rw [hp] at hres
    have h1 : at' = t ∧ au = u ∧ ab = b ∧ E9 = 0 := by
      simp only [resP, idV, Value.tuple.injEq, Array.mk.injEq, List.cons.injEq, Value.agg.injEq, Value.string.injEq, Value.bool.injEq, Value.int.injEq] at hres
      obtain ⟨⟨h1, h2, h3, _⟩, ⟨_, h4⟩, _⟩ := hres
      exact ⟨(tx_inj h1).symm, (tx_inj h2).symm, h3.symm, h4.symm⟩
    obtain ⟨rfl, rfl, rfl, rfl⟩ := h1
    rw [hop] at HOP
    have EQ1 := eqId at' au ab HA.out.1 HA.out.2.1
    have HRS : Hid (rsI now span = true) := hr
    clear hop hp hres HE9 HA hr
    refine HOP.out.mono ?_
    rintro e w2 ⟨⟨rfl, sv2, ht2⟩, hb2, _⟩
    simp only at ht2 ⊢
    have HB2 : Hid (Below T w w2) := HI1.out.2.trans hb2
    have HT2 : Hid (Tb w2 T T 1 sv2 [⟨1, at', au, ab, endI now span⟩]) := ht2
    clear ht2 hb2 HOP HI1
    go_wp2_with fail
    refine (H9.out w2).mono ?_
    rintro e w3 ⟨rfl, hb3⟩
    obtain ⟨W3, hW3⟩ : ∃ W3, w3.alloc (.cells #[.string (tx at'), .string (tx au), .bool ab] 23) = W3 := ⟨_, rfl⟩
    have h23 : Below w2.heap.size w2 W3 := by rw [← hW3]; exact hb3.trans ((bel1 _ _).mono hb3.size)
    have HT3 : Hid (Tb W3 T T 1 sv2 [⟨1, at', au, ab, endI now span⟩]) := HT2.out.later h23 (Nat.le_refl _)
    have HI3 : Hid (W3.heap[w3.heap.size]? = some (.cells #[.string (tx at'), .string (tx au), .bool ab] 23 (0, 0)) ∧ Below T w W3) := ⟨by rw [← hW3]; exact Go.heap_alloc_new _ _, HB2.out.trans (h23.mono (by have := HB2.out.size; have := HT.out; omega))⟩
    have hq14 : T ≤ w3.heap.size := by have := hb3.size; have := HB2.out.size; have := HT.out; omega
    go_wp2_with fail
    try rw [hW3]
    generalize w3.heap.size = q at HI3 hq14 ⊢
    clear hW3 hb3 h23 HT2
    obtain ⟨b1, b2, b3, b4⟩ := of_decide_eq_true (show decide (0 ≤ now ∧ now ≤ 1125899906842624 ∧ 1 ≤ span ∧ span ≤ 1125899906842624) = true from HRS.out)
    go_loopw [17, 18, 19] (fun i x y wr => ∃ k : Nat, k ≤ 80 ∧ i = .int .i64 (k : Int) ∧ (∃ sv, Tb wr T T ((1 + min k 63 : Nat) : Int) sv (stK ⟨1, at', au, ab, endI now span⟩ (endI now span) k)) ∧ wr.heap[q]? = some (.cells #[.string (tx at'), .string (tx au), .bool ab] 23 (0, 0)) ∧ Below T w wr) (fun i x y wr => 80 - (intOf i).toNat)
    case atStart => exact ⟨0, by omega, rfl, ⟨sv2, HT3.out⟩, HI3.out.1, HI3.out.2⟩
    case round =>
      clear HT3 HI3
      obtain ⟨k, hk, rfl, ⟨sv, htk⟩, hqk, hbk⟩ := hrel
      have HK : Hid (Tb wr T T ((1 + min k 63 : Nat) : Int) sv (stK ⟨1, at', au, ab, endI now span⟩ (endI now span) k) ∧ wr.heap[q]? = some (.cells #[.string (tx at'), .string (tx au), .bool ab] 23 (0, 0)) ∧ Below T w wr) := ⟨htk, hqk, hbk⟩
      clear htk hqk hbk
      by_cases c1 : (k : Int) < others
      · by_cases c2 : (k : Int) < 80
        · have HO : Hid (Calls Try.prog 18 #[.pointer (some ⟨T, 0, none⟩), .string ⟨#[98, 101, 108, 102, 114, 121, 58, 111, 116, 104, 101, 114, 47, 111, 110, 101]⟩, .int .i64 now, .int .i64 span] wr fun e w' => opP w' T T e (opI ((1 + min k 63 : Nat) : Int) (stK ⟨1, at', au, ab, endI now span⟩ (endI now span) k) peer3 now span) ∧ Below T wr w' ∧ Kt wr w') := open_kt T T _ sv _ peer3 now span wr HK.out.1 (by rw [stK_len]; omega) (by decide) (by omega) (by omega) (by have := (Array.getElem?_eq_some_iff.1 HK.out.1.tab).1; omega)
          by_cases c3 : k < 63
          · have c3' : (k : Int) < 63 := by omega
            rw [op_more _ _ _ _ c3 HRS.out] at HO
            have hne : ((k : Int) + 2 != (k : Int) + 2) = false := by simp
            go_wp2_with fail
            refine HO.out.mono ?_
            rintro e w5 ⟨⟨rfl, sv5, ht5⟩, hb5, hk5⟩
            simp only at ht5 ⊢
            have HK5 : Hid (Tb w5 T T ((1 + min (k + 1) 63 : Nat) : Int) sv5 (stK ⟨1, at', au, ab, endI now span⟩ (endI now span) (k + 1)) ∧ Below T wr w5 ∧ Kt wr w5) := ⟨ht5, hb5, hk5⟩
            clear ht5 hb5 hk5
            go_wp2_with fail
            go_roundw
            case rel => exact ⟨k + 1, by omega, by go_num, ⟨sv5, HK5.out.1⟩, (HK5.out.2.2 q _ _ HK.out.2.1).trans HK.out.2.1, HK.out.2.2.trans HK5.out.2.1⟩
            case measure => simp [intOf]; omega
          · have c3' : 63 ≤ (k : Int) := by omega
            rw [op_full _ _ _ _ (by omega) HRS.out] at HO
            go_wp2_with fail
            refine HO.out.mono ?_
            rintro e w5 ⟨⟨rfl, sv5, ht5⟩, hb5, hk5⟩
            simp only at ht5 ⊢
            have HK5 : Hid (Tb w5 T T ((1 + min (k + 1) 63 : Nat) : Int) sv5 (stK ⟨1, at', au, ab, endI now span⟩ (endI now span) (k + 1)) ∧ Below T wr w5 ∧ Kt wr w5) := ⟨ht5, hb5, hk5⟩
            clear ht5 hb5 hk5
            go_wp2_with fail
            go_roundw
            case rel => exact ⟨k + 1, by omega, by go_num, ⟨sv5, HK5.out.1⟩, (HK5.out.2.2 q _ _ HK.out.2.1).trans HK.out.2.1, HK.out.2.2.trans HK5.out.2.1⟩
            case measure => simp [intOf]; omega
        · have hc2 : ¬ ((k : Int) < 80) := c2
          have HWH : Hid (Calls Try.prog 20 #[.pointer (some ⟨T, 0, none⟩), .int .i64 1, .int .i64 later] wr fun e w' => e = .returned (whoV (thI (stK ⟨1, at', au, ab, endI now span⟩ (endI now span) k) 1 later)) ∧ Below wr.heap.size wr w') := who_any T T _ sv _ 1 later wr HK.out.1 (by rw [stK_len]; omega)
          rw [th_first _ _ _ _ rfl] at HWH
          simp only at HWH
          have HEN : Hid (endI now span = if now + span ≤ 1125899906842624 then now + span else 1125899906842624) := rfl
          have i0 : ∀ w', Below wr.heap.size wr w' → w'.heap[q]? = some (.cells #[.string (tx at'), .string (tx au), .bool ab] 23 (0, 0)) := fun w' hb => (hb.block _ (Array.getElem?_eq_some_iff.1 HK.out.2.1).1).trans HK.out.2.1
          have HI0 : Hid (∀ w', Below wr.heap.size wr w' → w'.heap[q]? = some (.cells #[.string (tx at'), .string (tx au), .bool ab] 23 (0, 0))) := i0
          clear i0
          by_cases c5 : endI now span ≤ later
          · rw [if_pos c5] at HWH
            have EQ0 : ∀ w : World, (Op.equalIn 10000 23 (.agg #[.string ⟨#[]⟩, .string ⟨#[]⟩, .bool false]) (.agg #[.string ⟨#[]⟩, .string ⟨#[]⟩, .bool false])).run Try.prog w = .ok true w := eqId [] [] false (by decide) (by decide)
            go_wp2_with fail
            refine HWH.out.mono ?_
            rintro e w6 ⟨rfl, hb6⟩
            rw [show whoV none = .tuple #[.agg #[.string ⟨#[]⟩, .string ⟨#[]⟩, .bool false], .int .i64 5] from rfl]
            have HB6 : Hid (Below T w (w6.alloc (.cells #[.string ⟨#[]⟩, .string ⟨#[]⟩, .bool false] 23))) := by
              have h := HK.out.2.2.trans (hb6.mono (by have := HK.out.2.2.size; have := HT.out; omega))
              exact h.alloc (by have := h.size; have := HT.out; omega) _
            clear hb6 EQ1
            by_cases c6 : now + span ≤ 1125899906842624
            · have he : endI now span = now + span := by rw [HEN.out, if_pos c6]
              rw [he] at c5
              have c6' : span ≤ 1125899906842624 - now := by omega
              have c5' : ¬ later < now + span := by omega
              clear he c6 c5
              go_wp2_with (go_at_call 16; refine (known_any _).mono ?_; rintro e w8 ⟨rfl, hb8⟩)
              go_ret
              exact ⟨rfl, by rw [HT.out]; exact HB6.out.trans (hb8.mono (by have := HB6.out.size; have := HT.out; omega))⟩
            · have he : endI now span = 1125899906842624 := by rw [HEN.out, if_neg c6]
              rw [he] at c5
              have c6' : ¬ span ≤ 1125899906842624 - now := by omega
              have c5' : ¬ later < 1125899906842624 := by omega
              clear he c6 c5
              go_wp2_with (go_at_call 16; refine (known_any _).mono ?_; rintro e w8 ⟨rfl, hb8⟩)
              go_ret
              exact ⟨rfl, by rw [HT.out]; exact HB6.out.trans (hb8.mono (by have := HB6.out.size; have := HT.out; omega))⟩
          · rw [if_neg c5] at HWH
            go_wp2_with fail
            refine HWH.out.mono ?_
            rintro e w6 ⟨rfl, hb6⟩
            rw [show whoV (some ⟨1, at', au, ab, endI now span⟩) = .tuple #[.agg #[.string (tx at'), .string (tx au), .bool ab], .int .i64 0] from rfl]
            obtain ⟨W6, hW6⟩ : ∃ W6, w6.alloc (.cells #[.string (tx at'), .string (tx au), .bool ab] 23) = W6 := ⟨_, rfl⟩
            have h66 : Below wr.heap.size wr W6 := by rw [← hW6]; exact hb6.trans ((bel1 _ _).mono hb6.size)
            have r1 := HI0.out W6 h66
            have r2 : W6.heap[w6.heap.size]? = some (.cells #[.string (tx at'), .string (tx au), .bool ab] 23 (0, 0)) := by rw [← hW6]; exact Go.heap_alloc_new _ _
            have HB6 : Hid (Below T w W6) := HK.out.2.2.trans (h66.mono (by have := HK.out.2.2.size; have := HT.out; omega))
            by_cases c6 : now + span ≤ 1125899906842624
            · have he : endI now span = now + span := by rw [HEN.out, if_pos c6]
              rw [he] at c5
              have c6' : span ≤ 1125899906842624 - now := by omega
              have c5' : later < now + span := by omega
              clear he c6 c5
              go_upto_region 20 with fail
              try rw [hW6]
              generalize w6.heap.size = q6 at r2 ⊢
              have i0 : W6.cell? ⟨q, 0, none⟩ = some (.string (tx at')) := by rw [cell_of_row _ _ _ _ _ _ r1]; rfl
              have i1 : W6.cell? ⟨q, 1, none⟩ = some (.string (tx au)) := by rw [cell_of_row _ _ _ _ _ _ r1]; rfl
              have i2 : W6.cell? ⟨q, 2, none⟩ = some (.bool ab) := by rw [cell_of_row _ _ _ _ _ _ r1]; rfl
              have j0 : W6.cell? ⟨q6, 0, none⟩ = some (.string (tx at')) := by rw [cell_of_row _ _ _ _ _ _ r2]; rfl
              have j1 : W6.cell? ⟨q6, 1, none⟩ = some (.string (tx au)) := by rw [cell_of_row _ _ _ _ _ _ r2]; rfl
              have j2 : W6.cell? ⟨q6, 2, none⟩ = some (.bool ab) := by rw [cell_of_row _ _ _ _ _ _ r2]; rfl
              clear hW6 h66 r1 r2 hb6
              go_wp2_with (go_at_call 16; refine (known_any _).mono ?_; rintro e w8 ⟨rfl, hb8⟩)
              go_ret
              exact ⟨rfl, by rw [HT.out]; exact HB6.out.trans (hb8.mono (by have := HB6.out.size; have := HT.out; omega))⟩
            · have he : endI now span = 1125899906842624 := by rw [HEN.out, if_neg c6]
              rw [he] at c5
              have c6' : ¬ span ≤ 1125899906842624 - now := by omega
              have c5' : later < 1125899906842624 := by omega
              clear he c6 c5
              go_upto_region 20 with fail
              try rw [hW6]
              generalize w6.heap.size = q6 at r2 ⊢
              have i0 : W6.cell? ⟨q, 0, none⟩ = some (.string (tx at')) := by rw [cell_of_row _ _ _ _ _ _ r1]; rfl
              have i1 : W6.cell? ⟨q, 1, none⟩ = some (.string (tx au)) := by rw [cell_of_row _ _ _ _ _ _ r1]; rfl
              have i2 : W6.cell? ⟨q, 2, none⟩ = some (.bool ab) := by rw [cell_of_row _ _ _ _ _ _ r1]; rfl
              have j0 : W6.cell? ⟨q6, 0, none⟩ = some (.string (tx at')) := by rw [cell_of_row _ _ _ _ _ _ r2]; rfl
              have j1 : W6.cell? ⟨q6, 1, none⟩ = some (.string (tx au)) := by rw [cell_of_row _ _ _ _ _ _ r2]; rfl
              have j2 : W6.cell? ⟨q6, 2, none⟩ = some (.bool ab) := by rw [cell_of_row _ _ _ _ _ _ r2]; rfl
              clear hW6 h66 r1 r2 hb6
              go_wp2_with (go_at_call 16; refine (known_any _).mono ?_; rintro e w8 ⟨rfl, hb8⟩)
              go_ret
              exact ⟨rfl, by rw [HT.out]; exact HB6.out.trans (hb8.mono (by have := HB6.out.size; have := HT.out; omega))⟩
      · have hc1 : ¬ ((k : Int) < others) := c1
        have HWH : Hid (Calls Try.prog 20 #[.pointer (some ⟨T, 0, none⟩), .int .i64 1, .int .i64 later] wr fun e w' => e = .returned (whoV (thI (stK ⟨1, at', au, ab, endI now span⟩ (endI now span) k) 1 later)) ∧ Below wr.heap.size wr w') := who_any T T _ sv _ 1 later wr HK.out.1 (by rw [stK_len]; omega)
        rw [th_first _ _ _ _ rfl] at HWH
        simp only at HWH
        have HEN : Hid (endI now span = if now + span ≤ 1125899906842624 then now + span else 1125899906842624) := rfl
        have i0 : ∀ w', Below wr.heap.size wr w' → w'.heap[q]? = some (.cells #[.string (tx at'), .string (tx au), .bool ab] 23 (0, 0)) := fun w' hb => (hb.block _ (Array.getElem?_eq_some_iff.1 HK.out.2.1).1).trans HK.out.2.1
        have HI0 : Hid (∀ w', Below wr.heap.size wr w' → w'.heap[q]? = some (.cells #[.string (tx at'), .string (tx au), .bool ab] 23 (0, 0))) := i0
        clear i0
        by_cases c5 : endI now span ≤ later
        · rw [if_pos c5] at HWH
          have EQ0 : ∀ w : World, (Op.equalIn 10000 23 (.agg #[.string ⟨#[]⟩, .string ⟨#[]⟩, .bool false]) (.agg #[.string ⟨#[]⟩, .string ⟨#[]⟩, .bool false])).run Try.prog w = .ok true w := eqId [] [] false (by decide) (by decide)
          go_wp2_with fail
          refine HWH.out.mono ?_
          rintro e w6 ⟨rfl, hb6⟩
          rw [show whoV none = .tuple #[.agg #[.string ⟨#[]⟩, .string ⟨#[]⟩, .bool false], .int .i64 5] from rfl]
          have HB6 : Hid (Below T w (w6.alloc (.cells #[.string ⟨#[]⟩, .string ⟨#[]⟩, .bool false] 23))) := by
            have h := HK.out.2.2.trans (hb6.mono (by have := HK.out.2.2.size; have := HT.out; omega))
            exact h.alloc (by have := h.size; have := HT.out; omega) _
          clear hb6 EQ1
          by_cases c6 : now + span ≤ 1125899906842624
          · have he : endI now span = now + span := by rw [HEN.out, if_pos c6]
            rw [he] at c5
            have c6' : span ≤ 1125899906842624 - now := by omega
            have c5' : ¬ later < now + span := by omega
            clear he c6 c5
            go_wp2_with (go_at_call 16; refine (known_any _).mono ?_; rintro e w8 ⟨rfl, hb8⟩)
            go_ret
            exact ⟨rfl, by rw [HT.out]; exact HB6.out.trans (hb8.mono (by have := HB6.out.size; have := HT.out; omega))⟩
          · have he : endI now span = 1125899906842624 := by rw [HEN.out, if_neg c6]
            rw [he] at c5
            have c6' : ¬ span ≤ 1125899906842624 - now := by omega
            have c5' : ¬ later < 1125899906842624 := by omega
            clear he c6 c5
            go_wp2_with (go_at_call 16; refine (known_any _).mono ?_; rintro e w8 ⟨rfl, hb8⟩)
            go_ret
            exact ⟨rfl, by rw [HT.out]; exact HB6.out.trans (hb8.mono (by have := HB6.out.size; have := HT.out; omega))⟩
        · rw [if_neg c5] at HWH
          go_wp2_with fail
          refine HWH.out.mono ?_
          rintro e w6 ⟨rfl, hb6⟩
          rw [show whoV (some ⟨1, at', au, ab, endI now span⟩) = .tuple #[.agg #[.string (tx at'), .string (tx au), .bool ab], .int .i64 0] from rfl]
          obtain ⟨W6, hW6⟩ : ∃ W6, w6.alloc (.cells #[.string (tx at'), .string (tx au), .bool ab] 23) = W6 := ⟨_, rfl⟩
          have h66 : Below wr.heap.size wr W6 := by rw [← hW6]; exact hb6.trans ((bel1 _ _).mono hb6.size)
          have r1 := HI0.out W6 h66
          have r2 : W6.heap[w6.heap.size]? = some (.cells #[.string (tx at'), .string (tx au), .bool ab] 23 (0, 0)) := by rw [← hW6]; exact Go.heap_alloc_new _ _
          have HB6 : Hid (Below T w W6) := HK.out.2.2.trans (h66.mono (by have := HK.out.2.2.size; have := HT.out; omega))
          by_cases c6 : now + span ≤ 1125899906842624
          · have he : endI now span = now + span := by rw [HEN.out, if_pos c6]
            rw [he] at c5
            have c6' : span ≤ 1125899906842624 - now := by omega
            have c5' : later < now + span := by omega
            clear he c6 c5
            go_upto_region 20 with fail
            try rw [hW6]
            generalize w6.heap.size = q6 at r2 ⊢
            have i0 : W6.cell? ⟨q, 0, none⟩ = some (.string (tx at')) := by rw [cell_of_row _ _ _ _ _ _ r1]; rfl
            have i1 : W6.cell? ⟨q, 1, none⟩ = some (.string (tx au)) := by rw [cell_of_row _ _ _ _ _ _ r1]; rfl
            have i2 : W6.cell? ⟨q, 2, none⟩ = some (.bool ab) := by rw [cell_of_row _ _ _ _ _ _ r1]; rfl
            have j0 : W6.cell? ⟨q6, 0, none⟩ = some (.string (tx at')) := by rw [cell_of_row _ _ _ _ _ _ r2]; rfl
            have j1 : W6.cell? ⟨q6, 1, none⟩ = some (.string (tx au)) := by rw [cell_of_row _ _ _ _ _ _ r2]; rfl
            have j2 : W6.cell? ⟨q6, 2, none⟩ = some (.bool ab) := by rw [cell_of_row _ _ _ _ _ _ r2]; rfl
            clear hW6 h66 r1 r2 hb6
            go_wp2_with (go_at_call 16; refine (known_any _).mono ?_; rintro e w8 ⟨rfl, hb8⟩)
            go_ret
            exact ⟨rfl, by rw [HT.out]; exact HB6.out.trans (hb8.mono (by have := HB6.out.size; have := HT.out; omega))⟩
          · have he : endI now span = 1125899906842624 := by rw [HEN.out, if_neg c6]
            rw [he] at c5
            have c6' : ¬ span ≤ 1125899906842624 - now := by omega
            have c5' : later < 1125899906842624 := by omega
            clear he c6 c5
            go_upto_region 20 with fail
            try rw [hW6]
            generalize w6.heap.size = q6 at r2 ⊢
            have i0 : W6.cell? ⟨q, 0, none⟩ = some (.string (tx at')) := by rw [cell_of_row _ _ _ _ _ _ r1]; rfl
            have i1 : W6.cell? ⟨q, 1, none⟩ = some (.string (tx au)) := by rw [cell_of_row _ _ _ _ _ _ r1]; rfl
            have i2 : W6.cell? ⟨q, 2, none⟩ = some (.bool ab) := by rw [cell_of_row _ _ _ _ _ _ r1]; rfl
            have j0 : W6.cell? ⟨q6, 0, none⟩ = some (.string (tx at')) := by rw [cell_of_row _ _ _ _ _ _ r2]; rfl
            have j1 : W6.cell? ⟨q6, 1, none⟩ = some (.string (tx au)) := by rw [cell_of_row _ _ _ _ _ _ r2]; rfl
            have j2 : W6.cell? ⟨q6, 2, none⟩ = some (.bool ab) := by rw [cell_of_row _ _ _ _ _ _ r2]; rfl
            clear hW6 h66 r1 r2 hb6
            go_wp2_with (go_at_call 16; refine (known_any _).mono ?_; rintro e w8 ⟨rfl, hb8⟩)
            go_ret
            exact ⟨rfl, by rw [HT.out]; exact HB6.out.trans (hb8.mono (by have := HB6.out.size; have := HT.out; omega))⟩
end Go.Proofs.Ytnghgclogeefgaa
