/- Names in a row: slices.BinarySearch of texts. -/
import Derived.Test.YtkigagglkmdccaaKb
namespace Go.Proofs.Ytkigagglkmdccaa
open Go.RowKit
set_option linter.unusedVariables false
set_option linter.unusedSimpArgs false

theorem less_lb : ∀ a b : List UInt8, Op.bytesLess a b = decide (lb a b)
  | [], [] => by decide
  | _ :: _, [] => by simp [Op.bytesLess, lb, Lib.compareBytes]
  | [], _ :: _ => by simp [Op.bytesLess, lb, Lib.compareBytes]
  | x :: a, y :: b => by
    have ih := less_lb a b
    unfold lb at ih ⊢
    unfold Op.bytesLess Lib.compareBytes
    rw [ih]
    by_cases h1 : x < y
    · simp [h1]
    · by_cases h2 : y < x
      · have : ¬ x = y := fun e => by subst e; exact h1 h2
        simp [h1, h2, this]
      · have e : x = y := UInt8.le_antisymm (UInt8.not_lt.1 h2) (UInt8.not_lt.1 h1)
        subst e
        simp only [h1, decide_false, beq_self_eq_true, Bool.true_and, Bool.false_or, if_false]
        exact decide_eq_decide.2 Iff.rfl
theorem nan_any (a : ByteArray) (w : World) : Calls Try.prog 87 #[.string a] w fun e w' => e = .returned (.bool false) ∧ w' = w := by
  go_enter Try.func87, Try.ntmps87
  go_wp2
  go_ret
  exact ⟨by simp, rfl⟩
theorem nan2_any (a : ByteArray) (w : World) : Calls Try.prog 60 #[.string a] w fun e w' => e = .returned (.bool false) ∧ w' = w := by
  go_enter Try.func60, Try.ntmps60
  go_wp2
  go_ret
  exact ⟨by simp, rfl⟩
theorem less_any (a b : List UInt8) (w : World) : Calls Try.prog 59 #[.string (tx a), .string (tx b)] w fun e w' => e = .returned (.bool (decide (lb a b))) ∧ w' = w := by
  have h1 := less_lb a b
  obtain ⟨r, hr⟩ : ∃ r, decide (lb a b) = r := ⟨_, rfl⟩
  have h2 : Op.bytesLess (tx a).toList (tx b).toList = r := by rw [tx_list, tx_list, h1, hr]
  rw [hr]
  clear h1 hr
  go_enter Try.func59, Try.ntmps59
  go_wp2_with (go_at_call 87; refine (nan_any _ _).mono ?_; rintro e w' ⟨rfl, hw⟩; rw [hw]; clear hw)
  go_ret
  exact ⟨rfl, rfl⟩
def strV (n : List UInt8) : Value := .string (tx n)
/-- A row of texts. -/
def Strs (w : World) (base : Nat) (sv : Value) (ns : List (List UInt8)) : Prop := w.ownsRow base 9 1 sv ns.length (ns.map strV)
theorem Strs.cell {w : World} {base g cap i : Nat} {ns : List (List UInt8)} {n : List UInt8} (h : Strs w base (.slice (some ⟨g, 0, none⟩) ns.length cap) ns) (hi : ns[i]? = some n) : w.cell? ⟨g, i, none⟩ = some (.string (tx n)) := by
  have hlt := (List.getElem?_eq_some_iff.1 hi).1
  have h' : w.ownsRow base 9 1 (.slice (some ⟨g, 0, none⟩) ns.length cap) ns.length (ns.map strV) := h
  rw [h'.cellAt i (by omega), List.getElem?_map, hi]
  rfl
set_option maxRecDepth 20000 in
set_option maxHeartbeats 4000000 in
theorem bsearch_any (base : Nat) (sa : Option Addr) (n cap : Nat) (ns : List (List UInt8)) (nm : List UInt8) (w : World) (h : Strs w base (.slice sa n cap) ns) (hu : Up ns) (hl : ns.length ≤ 16) (hnl : ns.length = n) :
    Calls Try.prog 33 #[.slice sa n cap, .string (tx nm)] w fun e w' => e = .returned (.tuple #[.int .i64 (plI ns nm : Nat), .bool (plB ns nm)]) ∧ w' = w := by
  have HP : Hid (Strs w base (.slice sa n cap) ns) := h
  have HU : Hid (Up ns) := hu
  have HL : Hid (ns.length = n) := hnl
  have hl' : (n : Int) ≤ 16 := by omega
  have hl2 : n ≤ 16 := by omega
  have HC : Hid (∀ (k : Nat) (x : List UInt8), ns[k]? = some x → ∃ (g : Nat), sa = some ⟨g, 0, none⟩ ∧ n ≤ cap ∧ w.cell? ⟨g, k, none⟩ = some (.string (tx x))) := fun k x hk => by
    have hlt := (List.getElem?_eq_some_iff.1 hk).1
    have := HL.out
    obtain ⟨g, cp, hv⟩ := own_form HP.out (by omega)
    have hsa : sa = some ⟨g, 0, none⟩ := (Value.slice.inj hv).1
    subst hsa
    exact ⟨g, rfl, by have := own_cap HP.out; omega, Strs.cell (base := base) (cap := cap) (by rw [HL.out]; exact HP.out) hk⟩
  clear h hu hl hnl
  go_enter Try.func33, Try.ntmps33
  go_wp2_with fail
  go_loopw [7, 8] (fun s9 s10 wr => wr = w ∧ ∃ lo hi : Nat, s9 = .int .i64 lo ∧ s10 = .int .i64 hi ∧ lo ≤ hi ∧ hi ≤ n ∧ Hid ((∀ j x, j < lo → ns[j]? = some x → lb x nm) ∧ (∀ j x, hi ≤ j → ns[j]? = some x → ¬ lb x nm))) (fun s9 s10 wr => (intOf s10 - intOf s9).toNat)
  case atStart => exact ⟨rfl, 0, n, rfl, rfl, Nat.zero_le _, Nat.le_refl _, ⟨fun j x hj => absurd hj (Nat.not_lt_zero _), fun j x hj hx => by have := (List.getElem?_eq_some_iff.1 hx).1; have := HL.out; omega⟩⟩
  case round =>
    obtain ⟨rfl, lo, hi, rfl, rfl, hlh, hin, HI⟩ := hrel
    by_cases hlt : lo < hi
    · have hlt' : (lo : Int) < (hi : Int) := by omega
      have hin' : (hi : Int) ≤ 16 := by omega
      obtain ⟨m, hm⟩ : ∃ m, (lo + hi) / 2 = m := ⟨_, rfl⟩
      have hm' : ((lo : Int) + (hi : Int)) / 2 = (m : Int) := by omega
      obtain ⟨x, hx⟩ : ∃ x, ns[m]? = some x := ⟨_, List.getElem?_eq_getElem (by have := HL.out; omega)⟩
      obtain ⟨g, rfl, hcap, c1⟩ := HC.out m x hx
      have hcap' : (n : Int) ≤ (cap : Int) := by omega
      have hm1 : (m : Int) < (n : Int) := by omega
      have HX : Hid (ns[m]? = some x) := hx
      have HM : Hid (lo ≤ m ∧ m < hi) := by show _ ∧ _; omega
      have hls := less_any x nm wr
      clear hx hm
      by_cases hc : lb x nm
      · rw [decide_eq_true hc] at hls
        have HLS : Hid (Calls Try.prog 59 #[.string (tx x), .string (tx nm)] wr fun e w' => e = .returned (.bool true) ∧ w' = wr) := hls
        have HCC : Hid (lb x nm) := hc
        clear hls hc
        go_wp2_with (go_at_call 59; refine HLS.out.mono ?_; rintro e w' ⟨rfl, rfl⟩)
        go_roundw
        case rel =>
          refine ⟨by trivial, m + 1, hi, by go_num, rfl, by have := HM.out; omega, hin, ⟨fun j y hj hy => ?_, HI.out.2⟩⟩
          rcases (show j = m ∨ j < m from by omega) with rfl | h
          · rw [HX.out] at hy; rw [← Option.some.inj hy]; exact HCC.out
          · have h1 := List.getElem?_eq_some_iff.1 hy
            have h2 := List.getElem?_eq_some_iff.1 HX.out
            have := List.pairwise_iff_getElem.1 HU.out j m h1.1 h2.1 h
            rw [h1.2, h2.2] at this
            exact lb_trans _ _ _ this HCC.out
        case measure => have := HM.out; simp [intOf]; omega
      · rw [decide_eq_false hc] at hls
        have HLS : Hid (Calls Try.prog 59 #[.string (tx x), .string (tx nm)] wr fun e w' => e = .returned (.bool false) ∧ w' = wr) := hls
        have HCC : Hid (¬ lb x nm) := hc
        clear hls hc
        go_wp2_with (go_at_call 59; refine HLS.out.mono ?_; rintro e w' ⟨rfl, rfl⟩)
        go_roundw
        case rel =>
          refine ⟨by trivial, lo, m, rfl, by go_num, by have := HM.out; omega, by have := HM.out; omega, ⟨HI.out.1, fun j y hj hy k => ?_⟩⟩
          refine HCC.out ?_
          rcases (show j = m ∨ m < j from by omega) with rfl | h
          · rw [HX.out] at hy; rw [← Option.some.inj hy] at k; exact k
          · have h1 := List.getElem?_eq_some_iff.1 hy
            have h2 := List.getElem?_eq_some_iff.1 HX.out
            have := List.pairwise_iff_getElem.1 HU.out m j h2.1 h1.1 h
            rw [h1.2, h2.2] at this
            exact lb_trans _ _ _ this k
        case measure => have := HM.out; simp [intOf]; omega
    · obtain rfl : hi = lo := by omega
      have HE : Hid (plI ns nm = hi) := plI_of hi (by have := HL.out; omega) HI.out.1 HI.out.2
      by_cases hlt2 : hi < n
      · have hlt2' : (hi : Int) < (n : Int) := by omega
        obtain ⟨x, hx⟩ : ∃ x, ns[hi]? = some x := ⟨_, List.getElem?_eq_getElem (by have := HL.out; omega)⟩
        obtain ⟨g, rfl, hcap, c1⟩ := HC.out hi x hx
        have hcap' : (n : Int) ≤ (cap : Int) := by omega
        have HB : Hid (decide (x = nm) = plB ns nm) := by
          show _ = _
          unfold plB
          rw [HE.out, hx]
          by_cases e : x = nm
          · simp [e]
          · simp [e]
        by_cases e : x = nm
        · subst e
          rw [decide_eq_true rfl] at HB
          clear hx
          go_wp2_with fail
          go_ret2
          exact ⟨by rw [HE.out, ← HB.out]; rfl, rfl⟩
        · rw [decide_eq_false e] at HB
          have hq' : ((tx x).toList == (tx nm).toList) = false := by rw [tx_list, tx_list]; simpa using e
          clear hx e
          go_wp2_with (go_at_call 60; refine (nan2_any _ _).mono ?_; rintro e w' ⟨rfl, hw⟩; rw [hw]; clear hw)
          go_ret2
          exact ⟨by rw [HE.out, ← HB.out]; rfl, rfl⟩
      · have hlt2' : ¬ (hi : Int) < (n : Int) := by omega
        have HB : Hid (false = plB ns nm) := by
          show _ = _
          unfold plB
          rw [HE.out, List.getElem?_eq_none (by have := HL.out; omega)]
          rfl
        go_wp2_with fail
        go_ret2
        exact ⟨by rw [HE.out, ← HB.out]; rfl, rfl⟩
end Go.Proofs.Ytkigagglkmdccaa
