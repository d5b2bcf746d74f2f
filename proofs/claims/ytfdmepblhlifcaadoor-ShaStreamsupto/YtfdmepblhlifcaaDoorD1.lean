/- What the rows' list gives: the numbers K lie where the program keeps them; and a world in which they are laid. -/
import Derived.Test.YtfdmepblhlifcaaDoorCards
import Derived.Test.YtfdmepblhlifcaaDoorTie
import Derived.WalkKit
import Derived.ProofKit
import Derived.OpenShut
import Derived.ShutString
import Derived.SizedLaws
import Derived.Deep.DeepHandedRow
import Derived.Deep.DeepWitnessRowRef
import Derived.Lib.LaidTab
import Derived.Lib.LaidU8
import Derived.Lib.LaidIn
import Derived.Stop.LaidErr
import Derived.Test.YtfdmepblhlifcaaDoorA5
namespace Go.Proofs.YtfdmepblhlifcaaDoor
open Go.ChangeShapes Go.WideShapes Go.ChangeAt Go.RowKit

theorem own : ownKnob Tryd.prog.godebug = none := by kernel_rfl
theorem laidOut : laidOutB Tryd.prog = true := by kernel_rfl
theorem gTab : Tryd.prog.globalNamed "belfry/sha.roots" = some 0 := by kernel_rfl
theorem gTabType : (Tryd.prog.globals[0]?).map (·.type) = some 76 := by kernel_rfl
theorem cells76 : Tryd.prog.cellsOf 76 = 64 := by kernel_rfl
theorem cells51 : Tryd.prog.cellsOf 51 = 1 := by kernel_rfl
theorem rootData : (Rows.laid_belfry_sha_roots : DataW Unit) = Lib.tabData .u32 rootsI := by kernel_rfl

theorem table {W : World} (h : laidMet Tryd.prog [("belfry/sha.roots", Rows.laid_belfry_sha_roots)] W) : Roots W := by
  rw [rootData] at h
  have T := Lib.tabIs_of_head gTab gTabType Tryd.underlying76 Tryd.underlying51 cells51 cells76 h
  intro j hj
  have hl : j < rootsI.length := hj
  have hc := T.cell gTab j hl
  simpa using hc
theorem table_size {W : World} (h : Roots W) : 0 < W.heap.size := World.block_lt_of_cell? W _ (h 0 (by decide))

/-- A world in which the listed variable is laid. -/
def lay (w0 : World) : World :=
  { w0 with heap := w0.heap.modify 0 fun
    | .cells _ t frozen => .cells (u32s rootsI) t frozen
    | o => o }
end Go.Proofs.YtfdmepblhlifcaaDoor
