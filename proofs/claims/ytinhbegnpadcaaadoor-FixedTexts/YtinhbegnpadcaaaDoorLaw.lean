/- The law about texts, walked over any number and any text. -/
import Derived.Test.YtinhbegnpadcaaaDoorBoth
namespace Go.Proofs.YtinhbegnpadcaaaDoor
open Go.RowKit

theorem below_drew (w : World) (n : Nat) : Below w.heap.size w (w.drewN n) := ⟨rfl, rfl, rfl, Nat.le_refl _, fun _ _ => rfl⟩

set_option maxHeartbeats 2000000 in
theorem law_any (v : Int) (l : List UInt8) (w : World) (h0 : -9223372036854775808 ≤ v) (h1 : v ≤ 9223372036854775807) (hm : (l.length : Int) ≤ 140737488351232) (ht : Pow w) :
    Calls Tryd.prog 3 #[.int .i64 v, .string (tx l)] w fun e w' => e = .returned (.bool true) ∧ Below w.heap.size w w' := by
  have HT := text_both v h0 h1
  have hP := ps_text v h1
  have hL := tl_len v h1
  generalize tl (decide (v < 0)) (szI v / 1000000) (szI v % 1000000) = t at HT hP hL
  have HTT : Hid _ := HT
  have HL : Hid ((t.length : Int) ≤ 140737488351232) := by show _ ≤ _; omega
  have HPP : Hid _ := hP
  have HPW : Hid (Pow w) := ht
  have HM : Hid _ := hm
  clear HT hP hL ht hm
  obtain ⟨A, hA⟩ : ∃ A, ps l = A := ⟨_, rfl⟩
  have HA : Hid _ := hA
  clear hA
  go_enter Tryd.func3, Tryd.ntmps3
  go_wp2_with fail
  refine (HTT.out.1 _ HPW.out).mono ?_
  rintro e w1 ⟨rfl, b1⟩
  have HP1 : Hid (Pow w1) := Pow.later HPW.out b1
  have HB1 : Hid _ := b1
  clear b1
  go_wp2_with fail
  refine (parse_any t _ HL.out).mono ?_
  rintro e w' ⟨rfl, rfl⟩
  rw [HPP.out]
  go_wp2_with fail
  refine (parse_any l _ HM.out).mono ?_
  rintro e w' ⟨rfl, rfl⟩
  rw [HA.out]
  go_wp2_with fail
  refine (rparse_any l _ HM.out).mono ?_
  rintro e w2 ⟨rfl, b2⟩
  rw [HA.out]
  have HP2 : Hid (Pow w2) := Pow.later HP1.out b2
  have HB2 : Hid _ := b2
  clear b2
  go_wp2_with fail
  refine (HTT.out.2 _ HP2.out).mono ?_
  rintro e w3 ⟨rfl, b3⟩
  have HB3 : Hid _ := b3
  clear b3
  go_wp2_with fail
  refine (norm_any v _).mono ?_
  rintro e w' ⟨rfl, rfl⟩
  go_wp2_with fail
  refine (known_any _).mono ?_
  rintro e w' ⟨rfl, n, rfl⟩
  go_wp2
  go_ret
  refine ⟨rfl, ?_⟩
  exact below_two HB1.out (below_two HB2.out (below_two HB3.out (below_drew _ n)))

end Go.Proofs.YtinhbegnpadcaaaDoor
