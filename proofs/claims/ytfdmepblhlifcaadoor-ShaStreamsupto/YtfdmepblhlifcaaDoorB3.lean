/- The fixed call is true. -/
import Derived.Test.YtfdmepblhlifcaaDoorB2
import Derived.Lib.SlBytesConst
namespace Go.Proofs.YtfdmepblhlifcaaDoor
open Go.RowKit
set_option linter.unusedVariables false
set_option linter.unusedSimpArgs false

theorem sum_len (zs : List Int) (hz : Byt zs) : (sumI zs hz).length = 32 := by unfold sumI; rw [bytes_len, (sumS_ok zs hz).1]
theorem known_any (w : World) (R : Roots w) (h0 : 0 < w.heap.size) :
    Calls Tryd.prog 14 #[] w fun e w' => e = .returned (.bool true) ∧ Below w.heap.size w w' := by
  have HR : Hid (Roots w) := R
  clear R
  have kc := fun (w : World) (C : Array Value) (n c : Nat) => Lib.run_convert_bytes_const (P := Tryd.prog) w 22 5 C n c Tryd.underlying22 Tryd.underlying5
  go_enter Tryd.func14, Tryd.ntmps14
  go_wp2_with fail
  obtain ⟨W, hW⟩ : ∃ W, w.alloc (Obj.cells #[Value.int IntKind.u8 97, Value.int IntKind.u8 98, Value.int IntKind.u8 99] 5 (3, 4)) = W := ⟨_, rfl⟩
  have hWb : Below w.heap.size w W := by rw [← hW]; exact (Below.refl _ w).alloc (Nat.le_refl _) _
  have hWs : W.heap.size = w.heap.size + 1 := by rw [← hW]; simp
  have hWc : BRow W w.heap.size 0 [97, 98, 99] := by
    refine ⟨fun i hi => ?_, abc_byt, by decide⟩
    have hr : W.heap[w.heap.size]? = some (.cells #[Value.int IntKind.u8 97, Value.int IntKind.u8 98, Value.int IntKind.u8 99] 5 (3, 4)) := by rw [← hW]; show (w.heap.push _)[w.heap.size]? = _; simp
    simp only [World.cell?, hr, Nat.zero_add]
    have : i = 0 ∨ i = 1 ∨ i = 2 := by simp at hi; omega
    rcases this with rfl | rfl | rfl <;> rfl
  rw [hW]
  clear hW kc
  have HB : Hid _ := hWb
  clear hWb
  refine (sum_any [97, 98, 99] w.heap.size 0 3 W (roots_later HR.out h0 HB.out) (by omega) abc_byt (by omega) hWc (by decide) (by decide)).mono ?_
  rintro e w1 ⟨rfl, hb1⟩
  obtain ⟨S, hS⟩ : ∃ S, S = sumI [97, 98, 99] abc_byt := ⟨_, rfl⟩
  have hSl : S.length = 32 := by rw [hS]; exact sum_len _ _
  have hSb : Byt S := by rw [hS]; exact bytes_byt _
  have hSx : hexI S = _ := (congrArg hexI hS).trans abc_sum
  have HSX : Hid _ := hSx
  rw [← hS]
  clear hS hSx
  have HB1 : Hid (Below w.heap.size w w1) := HB.out.trans (hb1.mono (by omega))
  clear hb1
  go_wp2_with (go_at_call 15; refine (hex_any S w1 hSl hSb).mono ?_; rintro e w2 ⟨rfl, hb2⟩; rw [HSX.out])
  go_ret
  exact ⟨rfl, HB1.out.trans (hb2.mono HB1.out.size)⟩
end Go.Proofs.YtfdmepblhlifcaaDoor
