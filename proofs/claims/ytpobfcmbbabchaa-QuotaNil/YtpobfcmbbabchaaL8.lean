/- The fixed run; QuotaPlays' law. -/
import Derived.Test.YtpobfcmbbabchaaL7
namespace Go.Proofs.Ytpobfcmbbabchaa
open Go.RowKit
set_option linter.unusedVariables false
set_option linter.unusedSimpArgs false

variable {PT : World → Nat → Nat → List Bk → Prop} {bad : TypeId → Bool}
def k1 : List Bk := [⟨[97], 1000000, 2000000, 2000000, 0, 0, 0, 0, 0⟩]
def k2 : List Bk := [⟨[97], 1000000, 2000000, 0, 0, 0, 1, 0, 2000000⟩]
def k3 : List Bk := [⟨[97], 1000000, 2000000, 0, 0, 0, 1, 1, 2000000⟩]
def k4 : List Bk := [⟨[97], 1000000, 2000000, 0, 0, 500000000, 2, 1, 2500000⟩]
theorem kn1 : setI [] [97] 1000000 2000000 0 = (0, k1) := by kernel_rfl
theorem kn2 : takeI k1 [97] 2000000 0 = (0, k2) := by kernel_rfl
theorem kn3 : takeI k2 [97] 1 0 = (190, k3) := by kernel_rfl
theorem kn4 : takeI k3 [97] 500000 500000000 = (0, k4) := by kernel_rfl
theorem kn5 : nextI k4 [97] 1000000 500000000 = ((1500000000, 0), k4) := by kernel_rfl
theorem kt1 : Tok 0 k1 := by have := set_ok (N := 0) (Int.le_refl _) (Tok.nil 0) [97] 1000000 2000000 0; rwa [kn1] at this
theorem kt2 : Tok 1 k2 := by have := take_ok kt1 [97] 2000000 0; rwa [kn2] at this
theorem kt3 : Tok 2 k3 := by have := take_ok kt2 [97] 1 0; rwa [kn3] at this
theorem kt4 : Tok 3 k4 := by have := take_ok kt3 [97] 500000 500000000; rwa [kn4] at this
set_option maxRecDepth 20000 in
set_option maxHeartbeats 4000000 in
theorem known_any (G : PrgN PT bad) (w : World) : Calls Try.prog 10 #[] w fun e w' => e = .returned (.bool true) ∧ Below w.heap.size w w' := by
  have HN : Hid (PrgN PT bad) := G
  have HG : Hid (Prg PT bad) := G.prg
  have ea : ({ data := #[97] } : ByteArray) = tx [97] := rfl
  clear G
  go_enter Try.func10, Try.ntmps10
  go_wp2_with fail
  refine (HN.out.new w).mono ?_
  rintro e w1 ⟨T, rfl, hp1, hb1⟩
  have HP1 : Hid (PT w1 T w.heap.size [] ∧ Below w.heap.size w w1) := ⟨hp1, hb1⟩
  clear hp1 hb1
  go_wp2_with fail
  refine (HG.out.set 0 T w.heap.size [] [97] 1000000 2000000 0 w1 HP1.out.1 (Tok.nil 0) (by decide) HP1.out.2.size).mono ?_
  rintro e w2 ⟨rfl, hp2, hb2, hk2⟩
  rw [kn1] at hp2
  have HP2 : Hid (PT w2 T w.heap.size k1 ∧ Below w.heap.size w w2) := ⟨hp2, HP1.out.2.trans hb2⟩
  clear hp2 hb2 hk2 HP1
  go_wp2_with fail
  refine (HG.out.take 0 T w.heap.size k1 [97] 2000000 0 w2 HP2.out.1 kt1 (by decide) HP2.out.2.size).mono ?_
  rintro e w3 ⟨rfl, hp3, hb3, hk3⟩
  rw [kn2] at hp3
  rw [kn2]
  have HP3 : Hid (PT w3 T w.heap.size k2 ∧ Below w.heap.size w w3) := ⟨hp3, HP2.out.2.trans hb3⟩
  clear hp3 hb3 hk3 HP2
  go_wp2_with fail
  refine (HG.out.take 1 T w.heap.size k2 [97] 1 0 w3 HP3.out.1 kt2 (by decide) HP3.out.2.size).mono ?_
  rintro e w4 ⟨rfl, hp4, hb4, hk4⟩
  rw [kn3] at hp4
  rw [kn3]
  have HP4 : Hid (PT w4 T w.heap.size k3 ∧ Below w.heap.size w w4) := ⟨hp4, HP3.out.2.trans hb4⟩
  clear hp4 hb4 hk4 HP3
  go_wp2_with fail
  refine (HG.out.take 2 T w.heap.size k3 [97] 500000 500000000 w4 HP4.out.1 kt3 (by decide) HP4.out.2.size).mono ?_
  rintro e w5 ⟨rfl, hp5, hb5, hk5⟩
  rw [kn4] at hp5
  rw [kn4]
  have HP5 : Hid (PT w5 T w.heap.size k4 ∧ Below w.heap.size w w5) := ⟨hp5, HP4.out.2.trans hb5⟩
  clear hp5 hb5 hk5 HP4
  go_wp2_with fail
  refine (HG.out.next 3 T w.heap.size k4 [97] 1000000 500000000 w5 HP5.out.1 kt4 (by decide) HP5.out.2.size).mono ?_
  rintro e w6 ⟨rfl, hp6, hb6, hk6⟩
  rw [kn5] at hp6
  rw [kn5]
  have HP6 : Hid (Below w.heap.size w w6) := HP5.out.2.trans hb6
  clear hp6 hb6 hk6 HP5
  go_wp2_with fail
  go_ret
  exact ⟨rfl, HP6.out⟩
theorem plays_law (G : PrgN PT bad) (sa : Option Addr) (len cap : Nat) (os : List OpI) (w : World) (h : OpsAt w sa len cap os) (hl : (len : Int) ≤ 140737488351232) :
    Calls Try.prog 3 #[.slice sa len cap] w fun e w' => e = .returned (.bool true) ∧ Below w.heap.size w w' := by
  have HG : Hid (PrgN PT bad) := G
  have HPL : Hid (Calls Try.prog 9 #[.slice sa len cap] w fun e w' => ∃ T R, e = .returned (.tuple #[.pointer (some ⟨T, 0, none⟩), .pointer (some ⟨R, 0, none⟩), .bool true]) ∧ Mid PT bad T R w.heap.size (runT os (min len 200)) (runT os (min len 200)) w w') := played_any G sa len cap os w h hl
  clear G h hl
  go_enter Try.func3, Try.ntmps3
  go_wp2_with fail
  refine HPL.out.mono ?_
  rintro e w1 ⟨T, R, rfl, hM⟩
  have HB : Hid (Below w.heap.size w w1) := hM.bel
  clear hM HPL
  go_wp2_with (go_at_call 10; refine (known_any HG.out _).mono ?_; rintro e w2 ⟨rfl, hb2⟩)
  go_ret
  exact ⟨rfl, HB.out.trans (hb2.mono HB.out.size)⟩
end Go.Proofs.Ytpobfcmbbabchaa
