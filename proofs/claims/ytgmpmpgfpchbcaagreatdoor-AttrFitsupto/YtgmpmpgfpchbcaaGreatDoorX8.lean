/- A part of a text: strings.Contains. -/
import Derived.Test.YtgmpmpgfpchbcaaGreatDoorX7
import Derived.Test.YtgmpmpgfpchbcaaGreatDoorSn
namespace Go.Proofs.YtgmpmpgfpchbcaaGreatDoor
open Go.RowKit Go.Shelf
set_option linter.unusedVariables false
set_option linter.unusedSimpArgs false

/-- The variable of internal/bytealg holds a number. -/
def MaxL (w : World) : Prop := ∃ m : Int, w.cell? ⟨2, 0, none⟩ = some (.int .i64 m)
theorem maxL_of {w : World} (h : w.ShapedOpen Tryz.prog) : MaxL w := Tryz.laysM144.s1_3 w h
theorem MaxL.later {w w' : World} (h : MaxL w) (hb : Below w.heap.size w w') : MaxL w' := by
  obtain ⟨m, hm⟩ := h
  exact ⟨m, (hb.cell (p := ⟨2, 0, none⟩) (World.block_lt_of_cell? w _ hm)).trans hm⟩
theorem con_any (s p : List UInt8) (w : World) (hm : MaxL w) (hs : s.length < 4294967281) :
    Calls Tryz.prog 21 #[.string (tx s), .string (tx p)] w fun e w' => e = .returned (.bool (Lib.contains s p)) ∧ w' = w := by
  obtain ⟨m, hm⟩ := hm
  have h := Any.strings_Contains (P := Tryz.prog) (ρ := Tryz.laysM144_ren) { Tryz.laysM144 with } (tx s) (tx p) m w (by rw [tx_size]; exact hs) hm
  have e1 : (tx s).data.toList = s := by simp [tx]
  have e2 : (tx p).data.toList = p := by simp [tx]
  rw [e1, e2] at h
  exact h
end Go.Proofs.YtgmpmpgfpchbcaaGreatDoor
