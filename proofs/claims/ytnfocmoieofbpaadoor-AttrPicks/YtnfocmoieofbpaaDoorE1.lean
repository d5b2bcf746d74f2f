/- Attributes written over; the law of sets. -/
import Derived.Test.YtnfocmoieofbpaaDoorO3
namespace Go.Proofs.YtnfocmoieofbpaaDoor
open Go.RowKit Go.Shelf
set_option linter.unusedVariables false
set_option linter.unusedSimpArgs false

set_option maxHeartbeats 4000000 in
theorem spoil_any (base : Nat) (v : Value) (l : List At) (w : World) (h : w.ownsRow base 45 2 v l.length (atL l)) (hsm : (l.length : Int) ≤ 140737488351232) :
    Calls Tryd.prog 12 #[v] w fun e w' => e = .returned (.tuple #[]) ∧ w.grownBy w' v.ownBlock := by
  rcases h.2 with ⟨h1, h2⟩ | ⟨g, cap, cur, h1, h2, h3, h4, h5, h6, h7⟩
  · subst h1
    rw [show (Value.slice none 0 0).ownBlock = none from rfl]
    clear h
    go_enter Tryd.func12, Tryd.ntmps12
    go_wp2_with fail
    refine wp_loop_rounds 1 ?_
    rw [rounds_succ]
    go_wp2_with fail
    go_end0
    exact ⟨rfl, grown_refl _ _⟩
  · subst h1
    rw [show (Value.slice (some ⟨g, 0, none⟩) l.length cap).ownBlock = some g from rfl]
    have HH : Hid (w.heap[g]? = some (.cells cur 45 (0, 0)) ∧ cur.size = cap * 2 ∧ l.length ≤ cap) := ⟨h3, h6, h4⟩
    obtain ⟨n, hn⟩ : ∃ n, l.length = n := ⟨_, rfl⟩
    rw [hn] at hsm HH ⊢
    have hcp : (n : Int) ≤ (cap : Int) := by have := HH.out.2.2; omega
    clear h h2 h3 h4 h5 h6 h7 hn
    go_enter Tryd.func12, Tryd.ntmps12
    go_wp2_with fail
    go_loopw [2] (fun i wr => ∃ k : Nat, k ≤ n ∧ i = .int .i64 (k : Int) ∧ (∃ c : Array Value, wr.heap[g]? = some (.cells c 45 (0, 0)) ∧ c.size = cap * 2) ∧ w.grownBy wr (some g)) (fun i wr => n - (intOf i).toNat)
    case atStart => exact ⟨0, by omega, rfl, ⟨cur, HH.out.1, HH.out.2.1⟩, grown_refl _ _⟩
    case round =>
      obtain ⟨k, hk, rfl, ⟨c, hc, hcs⟩, hg⟩ := hrel
      have HR : Hid (wr.heap[g]? = some (.cells c 45 (0, 0)) ∧ c.size = cap * 2 ∧ w.grownBy wr (some g)) := ⟨hc, hcs, hg⟩
      by_cases hlt : k < n
      · have hlt' : (k : Int) < (n : Int) := by omega
        have k0 : (0 : Int) ≤ (k : Int) := by omega
        have hk1 : k * 2 + 1 < c.size := by rw [hcs]; have := HH.out.2.2; omega
        have c0 : wr.cell? ⟨g, k * 2, none⟩ = some (c[k * 2]'(by omega)) := by rw [cell_of_row _ _ _ _ _ _ hc]; exact Array.getElem?_eq_getElem (by omega)
        have c1 : wr.cell? ⟨g, k * 2 + 1, none⟩ = some (c[k * 2 + 1]'hk1) := by rw [cell_of_row _ _ _ _ _ _ hc]; exact Array.getElem?_eq_getElem hk1
        have f0 : wr.frozen? ⟨g, k * 2, none⟩ = false := frozen_of_row _ _ _ _ _ hc
        have f1 : wr.frozen? ⟨g, k * 2 + 1, none⟩ = false := frozen_of_row _ _ _ _ _ hc
        generalize c[k * 2]'(by omega) = x0 at c0
        generalize c[k * 2 + 1]'hk1 = x1 at c1
        clear hc hcs hg
        go_wp2_with fail
        go_roundw
        case rel =>
          refine ⟨k + 1, by omega, by go_num, ⟨_, heap_setCell_same _ _ _ _ _ _ (heap_setCell_same _ _ _ _ _ _ HR.out.1), ?_⟩, grown_trans HR.out.2.2 (grown_trans (grown_set _ _ _ _) (grown_set _ _ _ _))⟩
          simp [HR.out.2.1]
        case measure => simp [intOf]; omega
      · have hge : ¬ ((k : Int) < (n : Int)) := by omega
        clear hlt hc hcs hg
        go_wp2_with fail
        go_end0
        exact ⟨rfl, HR.out.2.2⟩
theorem own_grown45 {w w' : World} {base n : Nat} {v u : Value} {xs : List Value} (h : w.ownsRow base 45 2 v n xs) (hg : w.grownBy w' u.ownBlock) (hne : ∀ q, v.ownBlock = some q → u.ownBlock ≠ some q) : w'.ownsRow base 45 2 v n xs :=
  own_at h fun q hq => hg.block q (h.lt q hq).2 (fun e => hne q hq e.symm)
set_option maxRecDepth 20000 in
set_option maxHeartbeats 8000000 in
theorem sets_law (sa : Option Addr) (ca : Nat) (l : List At) (s : List UInt8) (w : World) (hl : Ats w sa ca l) (h1 : (l.length + 1 : Int) * 32 ≤ 140737488355328) (hs : (s.length : Int) ≤ 140737488351232) (hT : Tabs w) :
    Calls Tryd.prog 3 #[.slice sa l.length ca, .string (tx s)] w fun e w' => e = .returned (.bool true) ∧ Below w.heap.size w w' := by
  have HL : Hid (Ats w sa ca l ∧ Tabs w) := ⟨hl, hT⟩
  have hsm : (l.length : Int) ≤ 140737488351232 := by omega
  have H1 : Hid (Calls Tryd.prog 6 #[.slice sa l.length ca] w fun e w' => (∃ v, e = .returned v ∧ w'.ownsRow w.heap.size 45 2 v l.length (atL l)) ∧ Below w.heap.size w w') := lent_any sa ca l w hl h1
  have HMC : Hid (∀ x ∈ (makeI l).1, Can x) := make_can l hl.can
  have HML : Hid ((makeI l).1.length ≤ 16) := make_le l
  obtain ⟨ml, me⟩ : ∃ p : List At × Int, makeI l = p := ⟨_, rfl⟩
  obtain ⟨M, E⟩ := ml
  have H2 : Hid (∀ so co W, Ats W so co l → Below w.heap.size w W → Calls Tryd.prog 7 #[.slice so l.length co] W fun e w' => (∃ v, e = .returned (.tuple #[v, .int .i64 E]) ∧ w'.ownsRow W.heap.size 45 2 v M.length (atL M)) ∧ Below W.heap.size W w') := fun so co W hA hb => by
    have h := make_any so co l W hA hsm (HL.out.2.later hb)
    rw [me] at h
    exact h
  have H3 : Hid (∀ W, Below w.heap.size w W → Calls Tryd.prog 8 #[.slice sa l.length ca] W fun e w' => (∃ v, e = .returned (.tuple #[v, .int .i64 E]) ∧ w'.ownsRow W.heap.size 45 2 v M.length (atL M)) ∧ Below W.heap.size W w') := fun W hb => by
    have h := rmake_any sa ca l W (HL.out.1.later hb) hsm
    rw [me] at h
    exact h
  rw [me] at HMC HML
  simp only at HMC HML
  have H4 : Hid (∀ x y a b m W, Ats W x a m → Ats W y b m → (m.length : Int) ≤ 140737488351232 → Calls Tryd.prog 9 #[.slice x m.length a, .slice y m.length b] W fun e w' => e = .returned (.bool true) ∧ Below W.heap.size W w') := fun x y a b m W hA hB hm => by
    have h := same_any x y a b m m W hA hB hm hm
    rw [decide_eq_true rfl] at h
    exact h
  have H5 : Hid (∀ so co W, Ats W so co l → Below w.heap.size w W → Calls Tryd.prog 10 #[.slice so l.length co] W fun e w' => e = .returned (.int .i64 (rightI l)) ∧ Below W.heap.size W w') := fun so co W hA hb => right_any so co l W hA hsm (HL.out.2.later hb)
  have H6 : Hid (∀ W, Below w.heap.size w W → Calls Tryd.prog 11 #[.slice sa l.length ca] W fun e w' => e = .returned (.int .i64 (rightI l)) ∧ Below W.heap.size W w') := fun W hb => rright_any sa ca l W (HL.out.1.later hb) hsm
  have H7 : Hid (∀ W, Calls Tryd.prog 13 #[.string (tx s)] W fun e w' => e = .returned (.bool (keyI s)) ∧ w' = W) := fun W => key_any s W hs
  have H8 : Hid (∀ W, Calls Tryd.prog 14 #[.string (tx s)] W fun e w' => e = .returned (.bool (keyI s)) ∧ w' = W) := fun W => rkey_any s W hs
  have H9 : Hid (∀ W, Below w.heap.size w W → Calls Tryd.prog 15 #[.string (tx s)] W fun e w' => e = .returned (.bool (valI s)) ∧ Below W.heap.size W w') := fun W hb => value_any s W hs (HL.out.2.later hb)
  have H10 : Hid (∀ W, Calls Tryd.prog 16 #[.string (tx s)] W fun e w' => e = .returned (.bool (valI s)) ∧ w' = W) := fun W => rvalue_any s W hs
  have H11 : Hid (∀ W, Below w.heap.size w W → Calls Tryd.prog 17 #[] W fun e w' => e = .returned (.bool true) ∧ Below W.heap.size W w') := fun W hb => known_any W (HL.out.2.later hb)
  have HSL : Hid (l.length = l.length ∧ (l.length : Int) ≤ 140737488351232) := ⟨rfl, hsm⟩
  generalize keyI s = kk at H7 H8
  generalize valI s = vv at H9 H10
  generalize rightI l = rr at H5 H6
  clear hl hT me h1 hs
  go_enter Tryd.func3, Tryd.ntmps3
  go_upto_region 2 with (go_at_call 6; refine H1.out.mono ?_; rintro e w1 ⟨⟨v1, rfl, ho⟩, hb⟩; (have HO1 : Hid (w1.ownsRow w.heap.size 45 2 v1 l.length (atL l) ∧ Below w.heap.size w w1) := ⟨ho, hb⟩); clear ho hb)
  obtain ⟨so, co, e1, hA1⟩ := own_ats HO1.out.1 HL.out.1.can
  subst e1
  have HA1 : Hid (Ats w1 so co l) := hA1
  clear hA1
  go_upto_region 3 with (go_at_call 7; refine (H2.out so co w1 HA1.out HO1.out.2).mono ?_; rintro e w2 ⟨⟨v2, rfl, ho⟩, hb⟩; (have HO2 : Hid (w2.ownsRow w1.heap.size 45 2 v2 M.length (atL M) ∧ Below w1.heap.size w1 w2) := ⟨ho, hb⟩); clear ho hb)
  have HB2 : Hid (Below w.heap.size w w2) := HO1.out.2.trans (HO2.out.2.mono HO1.out.2.size)
  obtain ⟨sm, cm, e2, hA2⟩ := own_ats HO2.out.1 HMC.out
  subst e2
  have HA2 : Hid (Ats w2 sm cm M) := hA2
  clear hA2
  go_upto_region 4 with (go_at_call 8; refine (H3.out w2 HB2.out).mono ?_; rintro e w3 ⟨⟨v3, rfl, ho⟩, hb⟩; (have HO3 : Hid (w3.ownsRow w2.heap.size 45 2 v3 M.length (atL M) ∧ Below w2.heap.size w2 w3) := ⟨ho, hb⟩); clear ho hb)
  have HB3 : Hid (Below w.heap.size w w3) := HB2.out.trans (HO3.out.2.mono HB2.out.size)
  obtain ⟨sr, cr, e3, hA3⟩ := own_ats HO3.out.1 HMC.out
  subst e3
  have HA3 : Hid (Ats w3 sr cr M ∧ Ats w3 sm cm M ∧ Ats w3 so co l) := ⟨hA3, HA2.out.later HO3.out.2, (HA1.out.later HO2.out.2).later HO3.out.2⟩
  have hM16 : (M.length : Int) ≤ 140737488351232 := by have := HML.out; omega
  have hbe : ((E : Int) != E) = false := by simp
  clear hA3
  go_upto_region 6 with (first | (go_at_call 9; refine (H4.out sm sr cm cr M w3 HA3.out.2.1 HA3.out.1 hM16).mono ?_; rintro e w4 ⟨rfl, hb⟩; (have HB4 : Hid (Below w3.heap.size w3 w4) := hb); clear hb hM16) | (go_at_call 9; refine (H4.out so sa co ca l w4 (HA3.out.2.2.later HB4.out) (HL.out.1.later (HB3.out.trans (HB4.out.mono HB3.out.size))) hsm).mono ?_; rintro e w5 ⟨rfl, hb⟩; (have HB5 : Hid (Below w3.heap.size w3 w5) := HB4.out.trans (hb.mono HB4.out.size)); clear hb) | (go_at_call 10; refine (H5.out so co w5 (HA3.out.2.2.later HB5.out) (HB3.out.trans (HB5.out.mono HB3.out.size))).mono ?_; rintro e w6 ⟨rfl, hb⟩; (have HB6 : Hid (Below w3.heap.size w3 w6) := HB5.out.trans (hb.mono HB5.out.size)); clear hb) | (go_at_call 11; refine (H6.out w6 (HB3.out.trans (HB6.out.mono HB3.out.size))).mono ?_; rintro e w7 ⟨rfl, hb⟩; (have HB7 : Hid (Below w3.heap.size w3 w7) := HB6.out.trans (hb.mono HB6.out.size)); clear hb))
  have HO7 : Hid (w7.ownsRow w1.heap.size 45 2 (.slice sm M.length cm) M.length (atL M) ∧ w7.ownsRow w.heap.size 45 2 (.slice so l.length co) l.length (atL l) ∧ Below w.heap.size w w7) :=
    ⟨own_at (own_at HO2.out.1 fun q hq => HO3.out.2.block q (HO2.out.1.lt q hq).2) fun q hq => HB7.out.block q (Nat.lt_of_lt_of_le (HO2.out.1.lt q hq).2 HO3.out.2.size), own_at (own_at (own_at HO1.out.1 fun q hq => HO2.out.2.block q (HO1.out.1.lt q hq).2) fun q hq => HO3.out.2.block q (Nat.lt_of_lt_of_le (HO1.out.1.lt q hq).2 HO2.out.2.size)) fun q hq => HB7.out.block q (Nat.lt_of_lt_of_le (HO1.out.1.lt q hq).2 (Nat.le_trans HO2.out.2.size HO3.out.2.size)), HB3.out.trans (HB7.out.mono HB3.out.size)⟩
  have HSP : Hid (Calls Tryd.prog 12 #[.slice sm M.length cm] w7 fun e w' => e = .returned (.tuple #[]) ∧ w7.grownBy w' (Value.slice sm M.length cm).ownBlock) := spoil_any _ _ M w7 HO7.out.1 (by have := HML.out; omega)
  go_upto_region 7 with (go_at_call 12; refine HSP.out.mono ?_; rintro e w8 ⟨rfl, hg⟩; (have HG8 : Hid (w7.grownBy w8 (Value.slice sm M.length cm).ownBlock) := hg); clear hg)
  have HB8 : Hid (Below w.heap.size w w8) := HO7.out.2.2.trans ⟨HG8.out.os, HG8.out.tape, HG8.out.output, HG8.out.size, fun q hq => HG8.out.block q (Nat.lt_of_lt_of_le hq HO7.out.2.2.size) (fun e => by have h1 := (HO2.out.1.lt q e.symm).1; have h2 := HO1.out.2.size; omega)⟩
  have HA8 : Hid (Ats w8 so co l) := by
    have ho8 := own_grown45 HO7.out.2.1 HG8.out (fun q hq e => by have h1 := (HO2.out.1.lt q e).1; have h2 := (HO1.out.1.lt q hq).2; omega)
    obtain ⟨so', co', e', hA'⟩ := own_ats ho8 HL.out.1.can
    obtain ⟨x1, x2, x3⟩ := Value.slice.inj e'
    rw [x1, x3]
    exact hA'
  have hkk : (kk == kk) = true := by simp
  have hvv : (vv == vv) = true := by simp
  go_wp2_with (first | (go_at_call 9; refine (H4.out so sa co ca l w8 HA8.out (HL.out.1.later HB8.out) hsm).mono ?_; rintro e w9 ⟨rfl, hb⟩; (have HB9 : Hid (Below w.heap.size w w9) := HB8.out.trans (hb.mono HB8.out.size)); clear hb) | (go_at_call 13; refine (H7.out _).mono ?_; rintro e w' ⟨rfl, hw'⟩; rw [hw']; clear hw') | (go_at_call 14; refine (H8.out _).mono ?_; rintro e w' ⟨rfl, hw'⟩; rw [hw']; clear hw') | (go_at_call 15; refine (H9.out w9 HB9.out).mono ?_; rintro e w10 ⟨rfl, hb⟩; (have HB10 : Hid (Below w.heap.size w w10) := HB9.out.trans (hb.mono HB9.out.size)); clear hb) | (go_at_call 16; refine (H10.out _).mono ?_; rintro e w' ⟨rfl, hw'⟩; rw [hw']; clear hw') | (go_at_call 17; refine (H11.out w10 HB10.out).mono ?_; rintro e w11 ⟨rfl, hb⟩; (have HB11 : Hid (Below w.heap.size w w11) := HB10.out.trans (hb.mono HB10.out.size)); clear hb))
  go_ret
  exact ⟨rfl, HB11.out⟩
end Go.Proofs.YtnfocmoieofbpaaDoor
