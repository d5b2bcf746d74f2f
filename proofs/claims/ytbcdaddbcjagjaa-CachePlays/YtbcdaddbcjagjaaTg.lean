/- The model's cache: Put. -/
import Derived.Test.YtbcdaddbcjagjaaTf
import Derived.Test.YtbcdaddbcjagjaaOf
import Derived.Deep.CutBlock
namespace Go.Proofs.Ytbcdaddbcjagjaa
open Go.RowKit
set_option linter.unusedVariables false
set_option linter.unusedSimpArgs false

variable {w w' w2 W : World} {R B : Nat} {most : Int} {lv cv lv' cv' : Value} {l l' : List An} {cs cs' : List Cn}
/-- All but one. -/
def cutA (o : Option Nat) (l : List An) : List An := match o with | some i => l.take i ++ l.drop (i + 1) | none => l
theorem cutA_len (o : Option Nat) (l : List An) : (cutA o l).length ≤ l.length := by
  unfold cutA
  cases o with
  | none => exact Nat.le_refl _
  | some i => simp; omega
/-- Where a tenant's last one stands. -/
def lstA (s : List UInt8) : List An → Nat → Option Nat → Option Nat
  | [], _, o => o
  | a :: r, i, o => lstA s r (i + 1) (if a.tn = s then some i else o)
theorem lstA_app (s : List UInt8) : ∀ (a b : List An) (i : Nat) (o : Option Nat), lstA s (a ++ b) i o = lstA s b (i + a.length) (lstA s a i o)
  | [], b, i, o => by simp [lstA]
  | x :: r, b, i, o => by rw [List.cons_append, lstA, lstA, lstA_app s r b, List.length_cons, show i + 1 + r.length = i + (r.length + 1) by omega]
theorem lstA_step (s : List UInt8) {l : List An} {j : Nat} {a : An} (h : l[j]? = some a) : lstA s (l.take (j + 1)) 0 none = if a.tn = s then some j else lstA s (l.take j) 0 none := by
  have hlt := (List.getElem?_eq_some_iff.1 h).1
  rw [List.take_add_one, h, lstA_app]
  simp [lstA, Nat.min_eq_left (Nat.le_of_lt hlt)]
theorem lstA_lt (s : List UInt8) : ∀ (l : List An) (i : Nat) (o : Option Nat) (k : Nat), lstA s l i o = some k → o = some k ∨ (i ≤ k ∧ k < i + l.length)
  | [], i, o, k, h => .inl h
  | a :: r, i, o, k, h => by
    rw [lstA] at h
    rcases lstA_lt s r (i + 1) _ k h with h1 | ⟨h1, h2⟩
    · split at h1
      · have := Option.some.inj h1
        right
        simp
        omega
      · exact .inl h1
    · right
      simp
      omega
theorem lstA_none (s : List UInt8) : ∀ (l : List An) (i : Nat) (o : Option Nat), lstA s l i o = none → cntT s l = 0
  | [], i, o, h => rfl
  | a :: r, i, o, h => by
    rw [lstA] at h
    have h1 := lstA_none s r (i + 1) _ h
    rw [cntT]
    split
    · rename_i e
      rw [if_pos e] at h
      exact absurd h (by
        have : ∀ (l : List An) (i k : Nat), lstA s l i (some k) ≠ none := by
          intro l
          induction l with
          | nil => intro i k e; cases e
          | cons x r ih =>
            intro i k
            rw [lstA]
            split
            · exact ih _ _
            · exact ih _ _
        exact this r _ _)
    · exact h1
/-- Is there no room for a tenant more? -/
def fullB (s : List UInt8) (l : List An) : Bool := decide (cntT s l = 0) && decide (16 ≤ (tlT l []).length)
def putA (s k st te : List UInt8) (l : List An) : List An := ⟨s, k, st, te⟩ :: cutA (fndA s k l 0) l
def putM (most : Int) (s k st te : List UInt8) (l : List An) : Int × List An :=
  if fullB s l = true then (7, l) else if bigE k te = true then (4, l) else (0, if most < (cntT s (putA s k st te l) : Int) then cutA (lstA s (putA s k st te l) 0 none) (putA s k st te l) else putA s k st te l)
theorem fndA_lt {s k : List UInt8} : ∀ {l : List An} {i j : Nat}, fndA s k l i = some j → i ≤ j ∧ j < i + l.length
  | [], i, j, h => by simp [fndA] at h
  | a :: r, i, j, h => by
    unfold fndA at h
    split at h
    · have := Option.some.inj h
      simp; omega
    · have := fndA_lt h
      simp; omega
set_option maxRecDepth 20000 in
set_option maxHeartbeats 8000000 in
theorem MS.put (h : MS w R B most lv cv l cs) (hl : (l.length : Int) ≤ 90000) (s k st te : List UInt8) : Calls Try.prog 32 #[.pointer (some ⟨R, 0, none⟩), .string (tx s), .string (tx k), .string (tx st), .string (tx te)] w fun e w' => e = .returned (.int .i64 (putM most s k st te l).1) ∧ ∃ lv', MS w' R B most lv' cv (putM most s k st te l).2 cs ∧ Fr (GM R lv cv) (GM R lv' cv) w w' := by
  have HH : Hid (MS w R B most lv cv l cs) := h
  have HLEN : Hid (Calls Try.prog 19 #[.pointer (some ⟨R, 0, none⟩), .string (tx s)] w fun e w' => e = .returned (.int .i64 (cntT s l : Int)) ∧ w' = w) := h.len (by omega) s
  have HTEN : Hid (Calls Try.prog 43 #[.pointer (some ⟨R, 0, none⟩)] w fun e w' => e = .returned (.int .i64 ((tlT l []).length : Int)) ∧ Below w.heap.size w w') := h.tens (by omega)
  obtain ⟨fb, hfb⟩ : ∃ fb, fullB s l = fb := ⟨_, rfl⟩
  have HFB : Hid (fullB s l = fb) := hfb
  have HLL : Hid ((l.length : Int) ≤ 90000) := hl
  have lt : ((tx te).size : Int) = (te.length : Int) := by rw [tx_size]
  have lk : ((tx k).size : Int) = (k.length : Int) := by rw [tx_size]
  clear h hl hfb
  go_enter Try.func32, Try.ntmps32
  go_upto_region 1 with (fail)
  go_cut [22] from 22 to 22 (fun c wx => c = .bool fb ∧ Hid (Below w.heap.size w wx))
  case first =>
    have hfb := HFB.out
    unfold fullB at hfb
    by_cases c0 : cntT s l = 0
    · rw [c0] at HLEN
      have HLEN' : Hid (Calls Try.prog 19 #[.pointer (some ⟨R, 0, none⟩), .string (tx s)] w fun e w' => e = .returned (.int .i64 0) ∧ w' = w) := HLEN.out
      obtain ⟨t, ht⟩ : ∃ t, (tlT l []).length = t := ⟨_, rfl⟩
      rw [ht] at HTEN hfb
      rw [decide_eq_true c0, Bool.true_and] at hfb
      by_cases ct : 16 ≤ t
      · have ct' : (16 : Int) ≤ (t : Int) := by omega
        rw [decide_eq_true ct] at hfb
        subst hfb
        clear HLEN c0 ht ct
        go_wp2_with (first | (go_at_call 19; refine HLEN'.out.mono ?_; rintro e w1 ⟨rfl, hw1⟩; rw [hw1]; clear hw1) | (go_at_call 43; refine HTEN.out.mono ?_; rintro e w1 ⟨rfl, hb1⟩; (have HB1 : Hid (Below w.heap.size w w1) := hb1); clear hb1))
        go_meet
        exact ⟨rfl, HB1⟩
      · have ct' : ¬ (16 : Int) ≤ (t : Int) := by omega
        rw [decide_eq_false ct] at hfb
        subst hfb
        clear HLEN c0 ht ct
        go_wp2_with (first | (go_at_call 19; refine HLEN'.out.mono ?_; rintro e w1 ⟨rfl, hw1⟩; rw [hw1]; clear hw1) | (go_at_call 43; refine HTEN.out.mono ?_; rintro e w1 ⟨rfl, hb1⟩; (have HB1 : Hid (Below w.heap.size w w1) := hb1); clear hb1))
        go_meet
        exact ⟨congrArg Value.bool (decide_eq_false (by omega)), HB1⟩
    · rw [decide_eq_false c0, Bool.false_and] at hfb
      subst hfb
      obtain ⟨c, hc⟩ : ∃ c, (cntT s l : Int) = c := ⟨_, rfl⟩
      have hcc : (c == 0) = false := by rw [← hc]; simpa using c0
      have hcc2 : ¬ c = 0 := by omega
      rw [hc] at HLEN
      clear hc c0
      go_wp2_with (go_at_call 19; refine HLEN.out.mono ?_; rintro e w1 ⟨rfl, hw1⟩; rw [hw1]; clear hw1)
      go_meet
      exact ⟨rfl, Below.refl _ _⟩
  obtain ⟨rfl, HB⟩ := hcut
  obtain ⟨w1, hw1⟩ : ∃ w1, wc = w1 := ⟨_, rfl⟩
  rw [hw1] at HB ⊢
  clear hw1
  have HM1 : Hid (MS w1 R B most lv cv l cs ∧ Fr (GM R lv cv) (GM R lv cv) w w1) := ⟨HH.out.newer HB.out, Fr.newer HB.out⟩
  cases fb with
  | true =>
    go_wp2_with fail
    go_ret
    have e : putM most s k st te l = (7, l) := by unfold putM; rw [if_pos HFB.out]
    rw [e]
    exact ⟨rfl, lv, HM1.out⟩
  | false =>
    clear HLEN HTEN HH HB
    by_cases b1 : 65536 < (te.length : Int)
    · have HBG : Hid (bigE k te = true) := by show bigE k te = true; unfold bigE; simp [b1]
      go_wp2_with fail
      go_ret
      have e : putM most s k st te l = (4, l) := by unfold putM; rw [if_neg (by rw [HFB.out]; decide), if_pos HBG.out]
      rw [e]
      exact ⟨rfl, lv, HM1.out⟩
    · by_cases b2 : 524288 < (k.length : Int)
      · have HBG : Hid (bigE k te = true) := by show bigE k te = true; unfold bigE; simp [b2]
        go_wp2_with fail
        go_ret
        have e : putM most s k st te l = (4, l) := by unfold putM; rw [if_neg (by rw [HFB.out]; decide), if_pos HBG.out]
        rw [e]
        exact ⟨rfl, lv, HM1.out⟩
      · have HBG : Hid (bigE k te = false) := by show bigE k te = false; unfold bigE; simp only [decide_eq_false b1, decide_eq_false b2]; rfl
        have HPM : Hid (putM most s k st te l = (0, if most < (cntT s (putA s k st te l) : Int) then cutA (lstA s (putA s k st te l) 0 none) (putA s k st te l) else putA s k st te l)) := by
          show _ = _
          unfold putM
          rw [if_neg (by rw [HFB.out]; decide), if_neg (by rw [HBG.out]; decide)]
        have HFI : Hid (Calls Try.prog 44 #[.pointer (some ⟨R, 0, none⟩), .string (tx s), .string (tx k)] w1 fun e w' => e = .returned (.int .i64 (posV (fndA s k l 0))) ∧ w' = w1) := HM1.out.1.find (by have := HLL.out; omega) s k
        go_upto_region 6 with (go_at_call 44; refine HFI.out.mono ?_; rintro e w9 ⟨rfl, hw9⟩; rw [hw9]; clear hw9)
        clear HFI lt lk b1 b2
        obtain ⟨l0, hl0⟩ : ∃ l0, cutA (fndA s k l 0) l = l0 := ⟨_, rfl⟩
        have HL0 : Hid (cutA (fndA s k l 0) l = l0 ∧ (l0.length : Int) ≤ 90000) := ⟨hl0, by have := cutA_len (fndA s k l 0) l; rw [hl0] at this; have := HLL.out; omega⟩
        clear hl0
        obtain ⟨p, hp⟩ : ∃ p, posV (fndA s k l 0) = p := ⟨_, rfl⟩
        have HP : Hid (posV (fndA s k l 0) = p) := hp
        rw [hp]
        clear hp
        go_upto_if 36 with (fail)
        go_cut [35] from 35 to 35 (fun _ wx => Hid (∃ lv1, MS wx R B most lv1 cv l0 cs ∧ Fr (GM R lv cv) (GM R lv1 cv) w wx))
        case first =>
          cases hf : fndA s k l 0 with
          | none =>
            have e0 : l = l0 := by have := HL0.out.1; rw [hf] at this; exact this
            have HK : Hid (MS w1 R B most lv cv l0 cs ∧ Fr (GM R lv cv) (GM R lv cv) w w1) := by rw [← e0]; exact HM1.out
            obtain rfl : p = -1 := by rw [← HP.out, hf]; rfl
            clear hf e0 HP
            go_wp2_with fail
            go_meet
            exact ⟨lv, HK.out⟩
          | some i =>
            have hlt := fndA_lt hf
            obtain rfl : p = (i : Int) := by rw [← HP.out, hf]; rfl
            have HD : Hid (Calls Try.prog 45 #[.pointer (some ⟨R, 0, none⟩), .int .i64 (i : Int)] w1 fun e w' => e = .returned (.tuple #[]) ∧ Hid (∃ lv', MS w' R B most lv' cv l0 cs ∧ Fr (GM R lv cv) (GM R lv' cv) w w')) := by
              refine (HM1.out.1.drop (by have := HLL.out; omega) (k := i) (by omega)).mono ?_
              rintro e w' ⟨rfl, lv', k1, k2⟩
              refine ⟨rfl, lv', ?_, HM1.out.2.trans' k2⟩
              have := HL0.out.1
              rw [hf] at this
              rw [← this]
              exact k1
            have hip : (0 : Int) ≤ (i : Int) := by omega
            clear hf hlt HP
            go_wp2_with (go_at_call 45; refine HD.out.mono ?_; rintro e w2 ⟨rfl, H2⟩)
            go_meet
            exact H2.out
        obtain ⟨w2, hw2⟩ : ∃ w2, wc = w2 := ⟨_, rfl⟩
        rw [hw2] at hcut ⊢
        clear hw2
        obtain ⟨lv1, k1, k2⟩ := hcut.out
        have HM2 : Hid (MS w2 R B most lv1 cv l0 cs ∧ Fr (GM R lv cv) (GM R lv1 cv) w w2) := ⟨k1, k2⟩
        clear hcut k1 k2 HM1
        have HFS : Hid (Calls Try.prog 46 #[.pointer (some ⟨R, 0, none⟩), .agg #[.string (tx s), .string (tx k), .string (tx st), .string (tx te)]] w2 fun e w' => e = .returned (.tuple #[]) ∧ Hid (∃ lv', MS w' R B most lv' cv (putA s k st te l) cs ∧ Fr (GM R lv cv) (GM R lv' cv) w w')) := by
          refine (HM2.out.1.first (by have := HL0.out.2; omega) ⟨s, k, st, te⟩).mono ?_
          rintro e w' ⟨rfl, lv', k1, k2⟩
          refine ⟨rfl, lv', ?_, HM2.out.2.trans' k2⟩
          unfold putA
          rw [HL0.out.1]
          exact k1
        have HPL : Hid (((putA s k st te l).length : Int) ≤ 90001) := by
          unfold putA
          rw [HL0.out.1]
          have := HL0.out.2
          show _ ≤ _
          simp
          omega
        go_upto_region 9 with (go_at_call 46; refine HFS.out.mono ?_; rintro e w3 ⟨rfl, H3⟩)
        clear HFS HM2 HL0 HLL
        have HC1 : Hid (0 < cntT s (putA s k st te l)) := by
          show 0 < cntT s (putA s k st te l)
          unfold putA
          rw [cntT, if_pos rfl]
          omega
        obtain ⟨l1, hl1⟩ : ∃ l1, putA s k st te l = l1 := ⟨_, rfl⟩
        rw [hl1] at H3 HPL HPM HC1
        clear hl1
        obtain ⟨lv3, k1, k2⟩ := H3.out
        have HM3 : Hid (MS w3 R B most lv3 cv l1 cs ∧ Fr (GM R lv cv) (GM R lv3 cv) w w3) := ⟨k1, k2⟩
        clear H3 k1 k2
        obtain ⟨cn, hcn⟩ : ∃ cn, (cntT s l1 : Int) = cn := ⟨_, rfl⟩
        have HCN : Hid ((cntT s l1 : Int) = cn) := hcn
        have HL3 : Hid (∀ V, Below w3.heap.size w3 V → Calls Try.prog 19 #[.pointer (some ⟨R, 0, none⟩), .string (tx s)] V fun e w' => e = .returned (.int .i64 cn) ∧ w' = V) := fun V hV => by
          have := (HM3.out.1.newer hV).len (by have := HPL.out; omega) s
          rw [HCN.out] at this
          exact this
        clear hcn
        go_cut [54] from 54 to 54 (fun c wx => c = .bool (decide (most < cn)) ∧ Hid (Below w3.heap.size w3 wx))
        case first =>
          have c0 := HM3.out.1.cells.1
          go_region_with (go_at_call 19; refine (HL3.out _ (drew_below w3)).mono ?_; rintro e w4 ⟨rfl, hw4⟩; rw [hw4]; clear hw4)
          all_goals
            go_wp2_with fail
            go_meet
            exact ⟨rfl, drew_below w3⟩
        obtain ⟨rfl, HB4⟩ := hcut
        obtain ⟨w4, hw4⟩ : ∃ w4, wc = w4 := ⟨_, rfl⟩
        rw [hw4] at HB4 ⊢
        clear hw4 HL3
        have HM4 : Hid (MS w4 R B most lv3 cv l1 cs ∧ Fr (GM R lv cv) (GM R lv3 cv) w w4) := ⟨HM3.out.1.newer HB4.out, HM3.out.2.trans' (Fr.newer HB4.out)⟩
        clear HM3 HB4
        by_cases hm : most < cn
        · have hmb : decide (most < cn) = true := decide_eq_true hm
          rw [hmb]
          have HIF : Hid (putM most s k st te l = (0, cutA (lstA s l1 0 none) l1)) := by show _ = _; rw [HPM.out, HCN.out, if_pos hm]
          clear hmb hm HPM
          obtain ⟨⟨sa, cap, e3, hcap⟩, -⟩ := HM4.out.1.forms
          subst e3
          have c1 := HM4.out.1.cells.2.1
          obtain ⟨n, hn⟩ : ∃ n, l1.length = n := ⟨_, rfl⟩
          have HN : Hid (l1.length = n) := hn
          rw [hn] at hcap c1 HM4
          have hn9 : (n : Int) ≤ 90001 := by have := HPL.out; omega
          clear hn
          go_wp2_with fail
          go_loopw [12, 13] (fun a b wx => ∃ j : Nat, a = .int .i64 (posV (lstA s (l1.take j) 0 none)) ∧ b = .int .i64 (j : Int) ∧ j ≤ n ∧ wx = w4) (fun a b wx => n - (intOf b).toNat)
          case atStart => exact ⟨0, rfl, rfl, by omega, rfl⟩
          case round =>
            obtain ⟨j, rfl, rfl, hj, hw⟩ := hrel
            rw [hw]
            clear hw
            by_cases cj : j < n
            · have cj' : (j : Int) < (n : Int) := by omega
              obtain ⟨a, ha⟩ : ∃ a, l1[j]? = some a := ⟨_, List.getElem?_eq_getElem (by have := HN.out; omega)⟩
              obtain ⟨g, hsa, y0, -⟩ := HM4.out.1.ans ha
              subst hsa
              have HS : Hid (lstA s (l1.take (j + 1)) 0 none = if a.tn = s then some j else lstA s (l1.take j) 0 none) := lstA_step s ha
              have HCJ : Hid (j < n) := cj
              obtain ⟨q, hq⟩ : ∃ q, lstA s (l1.take j) 0 none = q := ⟨_, rfl⟩
              rw [hq] at HS ⊢
              clear hq ha cj hj
              by_cases e : a.tn = s
              · have hb : ((tx a.tn).toList == (tx s).toList) = true := by rw [tx_list, tx_list]; simp [e]
                have HE : Hid (a.tn = s) := e
                clear e
                go_wp2_with fail
                go_roundw
                case rel => exact ⟨j + 1, by rw [HS.out, if_pos HE.out]; rfl, by go_num, HCJ.out, trivial⟩
                case measure => have := HCJ.out; simp [intOf]; omega
              · have hb : ((tx a.tn).toList == (tx s).toList) = false := by rw [tx_list, tx_list]; simpa using e
                have HE : Hid (¬ a.tn = s) := e
                clear e
                go_wp2_with fail
                go_roundw
                case rel => exact ⟨j + 1, by rw [HS.out, if_neg HE.out], by go_num, HCJ.out, trivial⟩
                case measure => have := HCJ.out; simp [intOf]; omega
            · obtain rfl : j = n := by omega
              rw [show l1.take j = l1 by have := HN.out; rw [← this, List.take_length]]
              cases hls : lstA s l1 0 none with
              | none => have := lstA_none s l1 0 none hls; have := HC1.out; omega
              | some i =>
                have hil : i < l1.length := by
                  rcases lstA_lt s l1 0 none i hls with h1 | ⟨-, h1⟩
                  · cases h1
                  · omega
                have HD : Hid (Calls Try.prog 45 #[.pointer (some ⟨R, 0, none⟩), .int .i64 (i : Int)] w4 fun e w' => e = .returned (.tuple #[]) ∧ Hid (∃ lv', MS w' R B most lv' cv (putM most s k st te l).2 cs ∧ Fr (GM R lv cv) (GM R lv' cv) w w')) := by
                  refine (HM4.out.1.drop (by have := HPL.out; omega) hil).mono ?_
                  rintro e w' ⟨rfl, lv', k1, k2⟩
                  refine ⟨rfl, lv', ?_, HM4.out.2.trans' k2⟩
                  rw [HIF.out, hls]
                  exact k1
                have HI0 : Hid ((putM most s k st te l).1 = 0) := by show _ = _; rw [HIF.out]
                clear cj hj hls hil
                rw [show posV (some i) = (i : Int) from rfl]
                go_wp2_with (go_at_call 45; refine HD.out.mono ?_; rintro e w5 ⟨rfl, H5⟩)
                go_ret
                rw [HI0.out]
                exact ⟨rfl, H5.out⟩
        · have hmb : decide (most < cn) = false := decide_eq_false hm
          rw [hmb]
          have HIF : Hid ((putM most s k st te l) = (0, l1)) := by show _ = _; rw [HPM.out, HCN.out, if_neg hm]
          clear hmb hm
          go_wp2_with fail
          go_ret
          rw [HIF.out]
          exact ⟨rfl, lv3, HM4.out⟩
end Go.Proofs.Ytbcdaddbcjagjaa
