/- A text in quotes, where it has no sign of its own meaning. -/
import Derived.Test.YtgmpmpgfpchbcaaGreatDoorN6
import Derived.Laws.MakeOwn
namespace Go.Proofs.YtgmpmpgfpchbcaaGreatDoor
open Go.RowKit
set_option linter.unusedVariables false
set_option linter.unusedSimpArgs false

theorem below_own5 {w w0 w' : World} {n : Nat} {v : Value} {xs : List Value} (h0 : Below w.heap.size w w0) (ho : w0.ownsRow w.heap.size 5 1 v n xs) (hg : w0.grownBy w' v.ownBlock) : Below w.heap.size w w' :=
  h0.trans ⟨hg.os, hg.tape, hg.output, hg.size, fun q hq => hg.block q (Nat.lt_of_lt_of_le hq h0.size) (fun e => by have := (ho.lt q e.symm).1; omega)⟩
set_option maxRecDepth 20000 in
set_option maxHeartbeats 8000000 in
theorem quote_plain (l : List UInt8) (w : World) (hn : l.length ≤ 1000) (hp : ∀ c ∈ l, c ≠ 34 ∧ c ≠ 92 ∧ c ≠ 10) : Calls Tryz.prog 37 #[.string (tx l)] w fun e w' => e = .returned (.string (tx (34 :: (l ++ [34])))) ∧ Below w.heap.size w w' := by
  obtain ⟨i0, hi, hz0, hz1, hz2⟩ := info_parts info5
  have hsz : (tx l).size = l.length := tx_size l
  have HX : Hid (∀ (k : Nat) (c : UInt8), l[k]? = some c → ∀ W, (Instr.index 9 (.string (tx l)) (.int .i64 (k : Int))).run Tryz.prog W = .ok (.int .u8 (c.toNat : Int)) W) := fun k c h W => tx_at l k c h _ W
  have HP : Hid (∀ c ∈ l, c ≠ 34 ∧ c ≠ 92 ∧ c ≠ 10) := hp
  have hn' : (l.length : Int) ≤ 1000 := by omega
  clear hp
  go_enter Tryz.func37, Tryz.ntmps37
  go_upto_region 2 with (refine wpList_make_own _ rfl _ _ 96 rfl w.heap.size 5 i0 (.int .u8 0) 1 Tryz.underlying96 hi hz0 hz1 .i64 .i64 ((l.length : Int) + 2) (l.length + 2) rfl rfl (by omega) (by rw [hz2]; omega) (by unfold maxLen; omega) (Nat.le_refl _) ?_; intro w1 hown1 hgrow1; (have HW1 : Hid (w1.ownsRow w.heap.size 5 1 (.slice (some ⟨w.heap.size, 0, none⟩) 0 (l.length + 2)) 0 [] ∧ Below w.heap.size w w1) := ⟨hown1, ⟨hgrow1.os, hgrow1.tape, hgrow1.output, hgrow1.size, fun q hq => hgrow1.block q hq (by simp)⟩⟩); clear hown1 hgrow1)
  have HS1 : Hid (w.heap.size ≤ w1.heap.size) := HW1.out.2.size
  go_upto_region 3 with (at_builtin; (refine wpList_append_b rfl (.tmp 10) (.tmp 11) rfl w.heap.size (.slice (some ⟨w.heap.size, 0, none⟩) 0 (l.length + 2)) 0 [] rfl w1 HW1.out.1 34 rfl rfl (by omega) HS1.out ?_; intro g9 c9 w9 ho9 hg9; (have HO9 : Hid (w9.ownsRow w.heap.size 5 1 (.slice (some ⟨g9, 0, none⟩) (0 + 1) c9) (0 + 1) ([] ++ [.int .u8 34]) ∧ Below w.heap.size w w9) := ⟨ho9, below_own5 HW1.out.2 HW1.out.1 hg9⟩); clear ho9 hg9))
  go_wp2_with fail
  go_loopw [3, 4, 5, 15] (fun v3 v4 v5 vi wr => ∃ k : Nat, k ≤ l.length ∧ vi = .int .i64 (k : Int) ∧ wr.ownsRow w.heap.size 5 1 v3 (k + 1) (u8v (34 :: l.take k)) ∧ Below w.heap.size w wr) (fun v3 v4 v5 vi wr => l.length - (intOf vi).toNat)
  case atStart => exact ⟨0, by omega, rfl, HO9.out.1, HO9.out.2⟩
  case round =>
    obtain ⟨k, hk, rfl, ho, hb⟩ := hrel
    obtain ⟨a4, k4, e4⟩ := own_slice ho
    subst e4
    have HR : Hid (wr.ownsRow w.heap.size 5 1 (.slice a4 (k + 1) k4) (k + 1) (u8v (34 :: l.take k)) ∧ Below w.heap.size w wr) := ⟨ho, hb⟩
    have HSW : Hid (w.heap.size ≤ wr.heap.size) := hb.size
    clear ho hb
    by_cases hlt : k < l.length
    · obtain ⟨c, hc⟩ : ∃ c, l[k]? = some c := ⟨_, List.getElem?_eq_getElem hlt⟩
      have hix := HX.out k c hc
      have HC : Hid (l[k]? = some c) := hc
      obtain ⟨n34, n92, n10⟩ := HP.out c (List.mem_of_getElem? hc)
      have z1 : ((c.toNat : Int) == 34) = false := by simp; exact fun e => n34 (UInt8.toNat_inj.1 (by show c.toNat = 34; omega))
      have z2 : ((c.toNat : Int) == 10) = false := by simp; exact fun e => n10 (UInt8.toNat_inj.1 (by show c.toNat = 10; omega))
      have z3 : ((c.toNat : Int) == 92) = false := by simp; exact fun e => n92 (UInt8.toNat_inj.1 (by show c.toNat = 92; omega))
      have hlt' : (k : Int) < (l.length : Int) := by omega
      have k0 : (0 : Int) ≤ (k : Int) := by omega
      clear hc n34 n92 n10
      go_wp2_with (at_builtin; (refine wpList_append_b rfl (.tmp 22) (.tmp 24) rfl w.heap.size (.slice a4 (k + 1) k4) (k + 1) (u8v (34 :: l.take k)) rfl wr HR.out.1 (c.toNat : Int) rfl rfl (by omega) HSW.out ?_; intro g8 c8 w8 ho8 hg8; (have HO8 : Hid (w8.ownsRow w.heap.size 5 1 (.slice (some ⟨g8, 0, none⟩) (k + 1 + 1) c8) (k + 1 + 1) (u8v (34 :: l.take k) ++ [.int .u8 (c.toNat : Int)]) ∧ Below w.heap.size w w8) := ⟨ho8, below_own5 HR.out.2 HR.out.1 hg8⟩); clear ho8 hg8))
      go_roundw
      case rel =>
        refine ⟨k + 1, by omega, by go_num, ?_, HO8.out.2⟩
        have e : u8v (34 :: l.take (k + 1)) = u8v (34 :: l.take k) ++ [.int .u8 (c.toNat : Int)] := by
          obtain ⟨h1, h2⟩ := List.getElem?_eq_some_iff.1 HC.out
          rw [List.take_succ_eq_append_getElem h1, h2]
          simp [u8v]
        rw [e]
        exact HO8.out.1
      case measure => simp [intOf]; omega
    · have hge : ¬ ((k : Int) < (l.length : Int)) := by omega
      have hkn : k = l.length := by omega
      subst hkn
      rw [List.take_length] at HR
      clear hlt
      go_wp2_with (at_builtin; (refine wpList_append_b rfl (.tmp 39) (.tmp 40) rfl w.heap.size (.slice a4 (l.length + 1) k4) (l.length + 1) (u8v (34 :: l)) rfl wr HR.out.1 34 rfl rfl (by omega) HSW.out ?_; intro g8 c8 w8 ho8 hg8; (have HO8 : Hid (w8.ownsRow w.heap.size 5 1 (.slice (some ⟨g8, 0, none⟩) (l.length + 1 + 1) c8) (l.length + 1 + 1) (u8v (34 :: l) ++ [.int .u8 34]) ∧ Below w.heap.size w w8) := ⟨ho8, below_own5 HR.out.2 HR.out.1 hg8⟩); (have hcv : (convert 96 9 (.slice (some ⟨g8, 0, none⟩) (l.length + 1 + 1) c8)).run Tryz.prog w8 = .ok (.string (tx (34 :: (l ++ [34])))) w8 := own_text (l := 34 :: (l ++ [34])) (base := w.heap.size) (by (have e : u8v (34 :: (l ++ [34])) = u8v (34 :: l) ++ [.int .u8 34] := by simp [u8v]); rw [e, show (34 :: (l ++ [(34 : UInt8)])).length = l.length + 1 + 1 by simp]; exact ho8)); clear ho8 hg8))
      go_ret
      exact ⟨rfl, HO8.out.2⟩
end Go.Proofs.YtgmpmpgfpchbcaaGreatDoor
