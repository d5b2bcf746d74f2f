/- A key that is read; a quoted text that is read. -/
import Derived.Test.YtgmpmpgfpchbcaaGreatDoorN1
import Derived.Laws.IdiomStrings
namespace Go.Proofs.YtgmpmpgfpchbcaaGreatDoor
open Go.RowKit
set_option linter.unusedVariables false
set_option linter.unusedSimpArgs false

theorem tx_extract (l : List UInt8) (a b : Nat) : (tx l).extract a b = tx ((l.drop a).take (b - a)) := by
  have h := Lib.extract_data (tx l) a b
  apply ByteArray.ext
  apply Array.ext'
  rw [h]
  rfl
/-- A key, from one place on to another one. -/
def Ky (t : List UInt8) (i j : Nat) : Prop := i ≤ j ∧ (∀ m, i ≤ m → m < j → ∃ c, t[m]? = some c ∧ kb (m == i) c = true) ∧ (j = t.length ∨ ∃ c, t[j]? = some c ∧ kb (j == i) c = false)
set_option maxRecDepth 20000 in
set_option maxHeartbeats 4000000 in
theorem skey_any (C : Nat) (t : List UInt8) (i j : Nat) (w : World) (h : Sc w C t i) (hk : Ky t i j) : Calls Tryz.prog 60 #[.pointer (some ⟨C, 0, none⟩)] w fun e w' => e = .returned (.tuple #[.string (tx ((t.drop i).take (j - i))), .bool (decide (i < j))]) ∧ Sc w' C t j ∧ w.grownBy w' (some C) := by
  have HK : Hid (Ky t i j) := hk
  have HS : Hid (Sc w C t i) := h
  have c1 := h.c1
  have hjl : j ≤ t.length := by
    rcases hk.2.2 with e | ⟨c, e, _⟩
    · omega
    · have := (List.getElem?_eq_some_iff.1 e).1; omega
  have hij := hk.1
  have hsm := h.sm
  clear h hk
  go_enter Tryz.func60, Tryz.ntmps60
  go_wp2_with fail
  go_loopg [5, 6] (j - i + 1) (fun gk v5 v6 wx => ∃ m, i ≤ m ∧ m ≤ j ∧ j - m < gk ∧ Sc wx C t m ∧ w.grownBy wx (some C))
  case atStart => exact ⟨i, Nat.le_refl _, HK.out.1, by omega, HS.out, grown_refl _ _⟩
  case round =>
    obtain ⟨m, h1, h2, h3, h4, h5⟩ := hrel
    obtain ⟨g', rfl⟩ : ∃ g', gk = g' + 1 := ⟨gk - 1, by omega⟩
    have HR : Hid (Sc wr C t m ∧ w.grownBy wr (some C)) := ⟨h4, h5⟩
    clear h4 h5 c1
    have hmi : ((m : Int) == (i : Int)) = (m == i) := by rw [Bool.eq_iff_iff]; simp; omega
    have hm0 : (m : Int) ≤ 65536 := by omega
    by_cases hlt : m < j
    · obtain ⟨c, hc, hkb⟩ := HK.out.2.1 m h1 hlt
      have HN : Hid (Calls Tryz.prog 74 #[.pointer (some ⟨C, 0, none⟩)] wr fun e w' => e = .returned (.tuple #[.int .u8 (c.toNat : Int), .bool true]) ∧ ∃ q, w' = wr.drewN q) := next_some C t m c wr HR.out.1 hc
      have HB : Hid (∀ W, Calls Tryz.prog 41 #[.int .u8 (c.toNat : Int), .bool (m == i)] W fun e w' => e = .returned (.bool true) ∧ w' = W) := fun W => by
        have h := keyByte_any (c.toNat : Int) (m == i) W (by omega) (by have := c.toNat_lt; omega)
        rw [show kbI (m == i) (c.toNat : Int) = true from hkb] at h
        exact h
      clear hc hkb
      go_upto_region 3 with (go_at_call 74; refine HN.out.mono ?_; rintro e w1 ⟨rfl, q, hw1⟩; (have HS1 : Hid (Sc w1 C t m ∧ w.grownBy w1 (some C)) := by rw [hw1]; exact ⟨HR.out.1.drewN q, grown_trans HR.out.2 (grown_drewN wr q _)⟩); clear hw1)
      have d1 := HS1.out.1.c1
      have e1 := HS1.out.1.f1
      go_wp2_with (go_at_call 41; refine (HB.out _).mono ?_; rintro e w2 ⟨rfl, hw2⟩; rw [hw2]; clear hw2)
      go_roundg g'
      case measure => omega
      case rel => exact ⟨m + 1, by omega, by omega, by omega, HS1.out.1.set (m + 1) (by omega), grown_trans HS1.out.2 (grown_set _ _ _ _)⟩
    · have hmj : m = j := by omega
      subst hmj
      have HXT : Hid ((tx t).extract i m = tx ((t.drop i).take (m - i))) := tx_extract t i m
      have hsz : (tx t).size = t.length := tx_size t
      have hgt : decide (i < m) = decide ((i : Int) < (m : Int)) := by rw [Bool.eq_iff_iff]; simp
      have i1 : (i : Int) ≤ (m : Int) := by omega
      have i2 : (m : Int) ≤ (t.length : Int) := by omega
      have i0 : (0 : Int) ≤ (i : Int) := by omega
      have HEND : Hid (∀ W, Sc W C t m → w.grownBy W (some C) → True) := fun _ _ _ => trivial
      rcases HK.out.2.2 with he | ⟨c, hc, hkb⟩
      · have HN : Hid (Calls Tryz.prog 74 #[.pointer (some ⟨C, 0, none⟩)] wr fun e w' => e = .returned (.tuple #[.int .u8 0, .bool false]) ∧ ∃ q, w' = wr.drewN q) := next_none C t wr (by rw [← he]; exact HR.out.1)
        clear he
        go_upto_region 5 with (go_at_call 74; refine HN.out.mono ?_; rintro e w1 ⟨rfl, q, hw1⟩; (have HS1 : Hid (Sc w1 C t m ∧ w.grownBy w1 (some C)) := by rw [hw1]; exact ⟨HR.out.1.drewN q, grown_trans HR.out.2 (grown_drewN wr q _)⟩); clear hw1)
        have g0 : w1.drew.cell? ⟨C, 0, none⟩ = some (.string (tx t)) := HS1.out.1.c0
        have g1 : w1.drew.cell? ⟨C, 1, none⟩ = some (.int .i64 (m : Int)) := HS1.out.1.c1
        refine wp_region_still_lit (by kernel_rfl) (by kernel_rfl) (still_of_quiet _ _ ?_)
        rw [show ({ w1 with drawn := w1.drawn + 1 } : World) = w1.drew from rfl]
        repeat (first | go_big_quiet_skip | (go_big_quiet_want; go_big_quiet_op; go_big_quiet_on))
        refine wpQuiet_nil ?_
        go_wp2_with fail
        go_ret2
        exact ⟨by first | (simp [HXT.out, hgt]; done) | (show Ending.returned _ = _; rw [HXT.out, hgt]; rfl), HS1.out.1.drewN 1, grown_trans HS1.out.2 (grown_drewN _ 1 _)⟩
      · have HN : Hid (Calls Tryz.prog 74 #[.pointer (some ⟨C, 0, none⟩)] wr fun e w' => e = .returned (.tuple #[.int .u8 (c.toNat : Int), .bool true]) ∧ ∃ q, w' = wr.drewN q) := next_some C t m c wr HR.out.1 hc
        have HB : Hid (∀ W, Calls Tryz.prog 41 #[.int .u8 (c.toNat : Int), .bool (m == i)] W fun e w' => e = .returned (.bool false) ∧ w' = W) := fun W => by
          have h := keyByte_any (c.toNat : Int) (m == i) W (by omega) (by have := c.toNat_lt; omega)
          rw [show kbI (m == i) (c.toNat : Int) = false from hkb] at h
          exact h
        clear hc hkb
        go_upto_region 3 with (go_at_call 74; refine HN.out.mono ?_; rintro e w1 ⟨rfl, q, hw1⟩; (have HS1 : Hid (Sc w1 C t m ∧ w.grownBy w1 (some C)) := by rw [hw1]; exact ⟨HR.out.1.drewN q, grown_trans HR.out.2 (grown_drewN wr q _)⟩); clear hw1)
        have d1 := HS1.out.1.c1
        go_upto_region 5 with (go_at_call 41; refine (HB.out _).mono ?_; rintro e w2 ⟨rfl, hw2⟩; rw [hw2]; clear hw2)
        have g0 : w1.drew.cell? ⟨C, 0, none⟩ = some (.string (tx t)) := HS1.out.1.c0
        have g1 : w1.drew.cell? ⟨C, 1, none⟩ = some (.int .i64 (m : Int)) := HS1.out.1.c1
        refine wp_region_still_lit (by kernel_rfl) (by kernel_rfl) (still_of_quiet _ _ ?_)
        rw [show ({ w1 with drawn := w1.drawn + 1 } : World) = w1.drew from rfl]
        repeat (first | go_big_quiet_skip | (go_big_quiet_want; go_big_quiet_op; go_big_quiet_on))
        refine wpQuiet_nil ?_
        go_wp2_with fail
        go_ret2
        exact ⟨by first | (simp [HXT.out, hgt]; done) | (show Ending.returned _ = _; rw [HXT.out, hgt]; rfl), HS1.out.1.drewN 1, grown_trans HS1.out.2 (grown_drewN _ 1 _)⟩
end Go.Proofs.YtgmpmpgfpchbcaaGreatDoor
