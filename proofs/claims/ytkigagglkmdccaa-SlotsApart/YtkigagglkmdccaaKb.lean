/- The program's roll: names are compared; where a name stands. -/
import Derived.Test.YtkigagglkmdccaaKa
import Derived.Test.YtkigagglkmdccaaL0
namespace Go.Proofs.Ytkigagglkmdccaa
open Go.RowKit
set_option linter.unusedVariables false
set_option linter.unusedSimpArgs false

set_option maxHeartbeats 1000000 in
set_option maxRecDepth 100000 in
theorem cmpString_any (a b : ByteArray) (w : World) :
    Calls Try.prog 101 #[.string a, .string b] w fun e w' => e = .returned (.int .i64 (Lib.compareBytes a.data.toList b.data.toList)) ∧ w' = w := by
  go_enter Try.func101, Try.ntmps101
  go_wp2
  rw [run_callFunc_extern Try.func103 (by kernel_rfl) (by kernel_rfl) (by kernel_rfl) (e := Extern.BytealgCompare.compare) (by kernel_rfl), Lib.run_compareString]
  simp only [Result.andThen]
  rw [Oper.upon_value]
  go_wp2
  go_ret
  exact ⟨rfl, rfl⟩
theorem compare_any (a b : List UInt8) (w : World) :
    Calls Try.prog 95 #[.string (tx a), .string (tx b)] w fun e w' => e = .returned (.int .i64 (Lib.compareBytes a b)) ∧ w' = w := by
  go_enter Try.func95, Try.ntmps95
  go_wp2_with (go_at_call 101; refine (cmpString_any _ _ _).mono ?_; rintro e w' ⟨rfl, rfl⟩)
  go_ret
  exact ⟨by simp [tx], rfl⟩
theorem byName_any (p : Nat) (a b : List UInt8) (w : World) (h : w.cell? ⟨p, 0, none⟩ = some (.string (tx a))) :
    Calls Try.prog 94 #[.pointer (some ⟨p, 0, none⟩), .string (tx b)] w fun e w' => e = .returned (.int .i64 (Lib.compareBytes a b)) ∧ w' = w := by
  go_enter Try.func94, Try.ntmps94
  go_wp2_with (go_at_call 95; refine (compare_any _ _ _).mono ?_; rintro e w' ⟨rfl, rfl⟩)
  go_ret
  exact ⟨rfl, rfl⟩
/-- Pointers to rows, and the rows' names. -/
structure Nms (w : World) (ps : List Nat) (ns : List (List UInt8)) : Prop where
  len : ns.length = ps.length
  at' : ∀ (j p : Nat) (n : List UInt8), ps[j]? = some p → ns[j]? = some n → w.cell? ⟨p, 0, none⟩ = some (.string (tx n))
def ptrV (p : Nat) : Value := .pointer (some ⟨p, 0, none⟩)
/-- The row of pointers. -/
def Ptrs (w : World) (sv : Value) (ps : List Nat) : Prop := w.ownsRow 0 131 1 sv ps.length (ps.map ptrV)
theorem Ptrs.cell {w : World} {g cap i p : Nat} {ps : List Nat} (h : Ptrs w (.slice (some ⟨g, 0, none⟩) ps.length cap) ps) (hi : ps[i]? = some p) : w.cell? ⟨g, i, none⟩ = some (.pointer (some ⟨p, 0, none⟩)) := by
  have hlt := (List.getElem?_eq_some_iff.1 hi).1
  have h' : w.ownsRow 0 131 1 (.slice (some ⟨g, 0, none⟩) ps.length cap) ps.length (ps.map ptrV) := h
  rw [h'.cellAt i (by omega), List.getElem?_map, hi]
  rfl
set_option maxRecDepth 20000 in
set_option maxHeartbeats 4000000 in
theorem search_any (sa : Option Addr) (n cap : Nat) (ps : List Nat) (ns : List (List UInt8)) (nm : List UInt8) (w : World) (h : Ptrs w (.slice sa n cap) ps) (hn : Nms w ps ns) (hu : Up ns) (hl : ps.length ≤ 16) (hnl : ps.length = n) :
    Calls Try.prog 96 #[.slice sa n cap, .string (tx nm), .func (.func 94) #[] #[]] w fun e w' => e = .returned (.tuple #[.int .i64 (plI ns nm : Nat), .bool (plB ns nm)]) ∧ w' = w := by
  have HP : Hid (Ptrs w (.slice sa n cap) ps) := h
  have HN : Hid (Nms w ps ns) := hn
  have HU : Hid (Up ns) := hu
  have HL : Hid (ps.length = n ∧ ns.length = n) := ⟨hnl, by rw [hn.len, hnl]⟩
  have hl' : (n : Int) ≤ 16 := by omega
  have hl2 : n ≤ 16 := by omega
  have HC : Hid (∀ (k : Nat) (x : List UInt8), ns[k]? = some x → ∃ (g p : Nat), sa = some ⟨g, 0, none⟩ ∧ n ≤ cap ∧ w.cell? ⟨g, k, none⟩ = some (.pointer (some ⟨p, 0, none⟩)) ∧ ∀ b, Calls Try.prog 94 #[.pointer (some ⟨p, 0, none⟩), .string (tx b)] w fun e w' => e = .returned (.int .i64 (Lib.compareBytes x b)) ∧ w' = w) := fun k x hk => by
    have hlt := (List.getElem?_eq_some_iff.1 hk).1
    have := HL.out
    obtain ⟨p, hp⟩ : ∃ p, ps[k]? = some p := ⟨_, List.getElem?_eq_getElem (by omega)⟩
    obtain ⟨g, cp, hv⟩ := own_form HP.out (by omega)
    have hsa : sa = some ⟨g, 0, none⟩ := (Value.slice.inj hv).1
    subst hsa
    exact ⟨g, p, rfl, by have := own_cap HP.out; omega, Ptrs.cell (cap := cap) (by rw [HL.out.1]; exact HP.out) hp, fun b => byName_any p x b w (HN.out.at' k p x hp hk)⟩
  clear h hn hu hl hnl
  go_enter Try.func96, Try.ntmps96
  go_wp2_with fail
  go_loopw [9, 10] (fun s9 s10 wr => wr = w ∧ ∃ lo hi : Nat, s9 = .int .i64 lo ∧ s10 = .int .i64 hi ∧ lo ≤ hi ∧ hi ≤ n ∧ Hid ((∀ j x, j < lo → ns[j]? = some x → lb x nm) ∧ (∀ j x, hi ≤ j → ns[j]? = some x → ¬ lb x nm))) (fun s9 s10 wr => (intOf s10 - intOf s9).toNat)
  case atStart => exact ⟨rfl, 0, n, rfl, rfl, Nat.zero_le _, Nat.le_refl _, ⟨fun j x hj => absurd hj (Nat.not_lt_zero _), fun j x hj hx => by have := (List.getElem?_eq_some_iff.1 hx).1; have := HL.out; omega⟩⟩
  case round =>
    obtain ⟨rfl, lo, hi, rfl, rfl, hlh, hin, HI⟩ := hrel
    by_cases hlt : lo < hi
    · have hlt' : (lo : Int) < (hi : Int) := by omega
      have hin' : (hi : Int) ≤ 16 := by omega
      obtain ⟨m, hm⟩ : ∃ m, (lo + hi) / 2 = m := ⟨_, rfl⟩
      have hm' : ((lo : Int) + (hi : Int)) / 2 = (m : Int) := by omega
      obtain ⟨x, hx⟩ : ∃ x, ns[m]? = some x := ⟨_, List.getElem?_eq_getElem (by have := HL.out; omega)⟩
      obtain ⟨g, p, rfl, hcap, c1, hcl⟩ := HC.out m x hx
      have hcap' : (n : Int) ≤ (cap : Int) := by omega
      have hm1 : (m : Int) < (n : Int) := by omega
      have HX : Hid (ns[m]? = some x) := hx
      have HCL : Hid (∀ b, Calls Try.prog 94 #[.pointer (some ⟨p, 0, none⟩), .string (tx b)] wr fun e w' => e = .returned (.int .i64 (Lib.compareBytes x b)) ∧ w' = wr) := hcl
      have HM : Hid (lo ≤ m ∧ m < hi) := by show _ ∧ _; omega
      clear hx hcl hm
      by_cases hc : Lib.compareBytes x nm < 0
      · go_wp2_with (go_at_call 94; refine (HCL.out _).mono ?_; rintro e w' ⟨rfl, rfl⟩)
        go_roundw
        case rel =>
          refine ⟨by trivial, m + 1, hi, by go_num, rfl, by have := HM.out; omega, hin, ⟨fun j y hj hy => ?_, HI.out.2⟩⟩
          rcases (show j = m ∨ j < m from by omega) with rfl | h
          · rw [HX.out] at hy; rw [← Option.some.inj hy]; exact hc
          · have h1 := List.getElem?_eq_some_iff.1 hy
            have h2 := List.getElem?_eq_some_iff.1 HX.out
            have := List.pairwise_iff_getElem.1 HU.out j m h1.1 h2.1 h
            rw [h1.2, h2.2] at this
            exact lb_trans _ _ _ this hc
        case measure => have := HM.out; simp [intOf]; omega
      · go_wp2_with (go_at_call 94; refine (HCL.out _).mono ?_; rintro e w' ⟨rfl, rfl⟩)
        go_roundw
        case rel =>
          refine ⟨by trivial, lo, m, rfl, by go_num, by have := HM.out; omega, by have := HM.out; omega, ⟨HI.out.1, fun j y hj hy k => ?_⟩⟩
          refine Int.not_lt.2 hc ?_
          rcases (show j = m ∨ m < j from by omega) with rfl | h
          · rw [HX.out] at hy; rw [← Option.some.inj hy] at k; exact k
          · have h1 := List.getElem?_eq_some_iff.1 hy
            have h2 := List.getElem?_eq_some_iff.1 HX.out
            have := List.pairwise_iff_getElem.1 HU.out m j h2.1 h1.1 h
            rw [h1.2, h2.2] at this
            exact lb_trans _ _ _ this k
        case measure => have := HM.out; simp [intOf]; omega
    · obtain rfl : hi = lo := by omega
      have HE : Hid (plI ns nm = hi) := plI_of hi (by have := HL.out; omega) HI.out.1 HI.out.2
      by_cases hlt2 : hi < n
      · have hlt2' : (hi : Int) < (n : Int) := by omega
        obtain ⟨x, hx⟩ : ∃ x, ns[hi]? = some x := ⟨_, List.getElem?_eq_getElem (by have := HL.out; omega)⟩
        obtain ⟨g, p, rfl, hcap, c1, hcl⟩ := HC.out hi x hx
        have hcap' : (n : Int) ≤ (cap : Int) := by omega
        have HX : Hid (ns[hi]? = some x) := hx
        have HCL : Hid (∀ b, Calls Try.prog 94 #[.pointer (some ⟨p, 0, none⟩), .string (tx b)] wr fun e w' => e = .returned (.int .i64 (Lib.compareBytes x b)) ∧ w' = wr) := hcl
        clear hx hcl
        have HB : Hid ((Lib.compareBytes x nm == 0) = plB ns nm) := by
          show _ = _
          unfold plB
          rw [HE.out, HX.out]
          have := cb_zero x nm
          by_cases e : x = nm
          · rw [(cb_zero x nm).2 e]; simp [e]
          · have h1 : ¬ Lib.compareBytes x nm = 0 := fun k => e ((cb_zero x nm).1 k)
            rw [beq_eq_false_iff_ne.2 h1]
            exact (beq_eq_false_iff_ne.2 fun k => e (Option.some.inj k)).symm
        obtain ⟨y, hy⟩ : ∃ y, Lib.compareBytes x nm = y := ⟨_, rfl⟩
        rw [hy] at HB
        have HY : Hid (Lib.compareBytes x nm = y) := hy
        clear hy
        go_wp2_with (go_at_call 94; refine (HCL.out _).mono ?_; rintro e w' ⟨rfl, rfl⟩; rw [HY.out])
        go_ret2
        exact ⟨by rw [HE.out, ← HB.out]; rfl, rfl⟩
      · have hlt2' : ¬ (hi : Int) < (n : Int) := by omega
        have HB : Hid (false = plB ns nm) := by
          show _ = _
          unfold plB
          rw [HE.out, List.getElem?_eq_none (by have := HL.out; omega)]
          rfl
        go_wp2_with fail
        go_ret2
        exact ⟨by rw [HE.out, ← HB.out]; rfl, rfl⟩
set_option maxRecDepth 20000 in
set_option maxHeartbeats 4000000 in
theorem place_any (T : Nat) (sv : Value) (ps : List Nat) (ns : List (List UInt8)) (nm : List UInt8) (w : World) (c0 : w.cell? ⟨T, 4, none⟩ = some sv) (h : Ptrs w sv ps) (hn : Nms w ps ns) (hu : Up ns) (hl : ps.length ≤ 16) :
    Calls Try.prog 85 #[.pointer (some ⟨T, 4, none⟩), .string (tx nm)] w fun e w' => e = .returned (.tuple #[.int .i64 (plI ns nm : Nat), .bool (plB ns nm)]) ∧ w' = w := by
  obtain ⟨sa, cap, rfl⟩ := own_slice h
  have HS : Hid (∀ nm, Calls Try.prog 96 #[.slice sa ps.length cap, .string (tx nm), .func (.func 94) #[] #[]] w fun e w' => e = .returned (.tuple #[.int .i64 (plI ns nm : Nat), .bool (plB ns nm)]) ∧ w' = w) := fun nm => search_any sa ps.length cap ps ns nm w h hn hu hl rfl
  clear h hn hu hl
  go_enter Try.func85, Try.ntmps85
  go_wp2_with (go_at_call 96; refine (HS.out _).mono ?_; rintro e w' ⟨rfl, rfl⟩)
  go_ret2
  exact ⟨rfl, rfl⟩
theorem wrap64_id (x : Int) (h0 : -9223372036854775808 ≤ x) (h1 : x ≤ 9223372036854775807) : wrap64 x = x := by unfold wrap64; omega
theorem wrap64_small (x : Int) (h0 : -9223372036854775808 ≤ x) (h1 : x ≤ 9223372036854775807) : IntKind.i64.wrap x = x := by
  unfold IntKind.wrap
  simp only [IntKind.bits, IntKind.signed, Bool.true_and]
  split <;> rename_i h <;> simp at h <;> omega
end Go.Proofs.Ytkigagglkmdccaa
