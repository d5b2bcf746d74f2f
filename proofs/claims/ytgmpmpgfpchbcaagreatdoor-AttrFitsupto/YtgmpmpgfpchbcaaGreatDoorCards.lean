/-
  DERIVED. GIVEN WITH THE SEED: THE CARDS: each row of YtgmpmpgfpchbcaaGreatDoorRows.lean that lists a variable, with what it lists TIED to the program's text (the seventh form; the later family's looks); each row that meets fmt, with fmt's text TOLD by the authors' own Lean function (tested against real Go, not proved from fmt's source: count such statements apart). THE CARD IS WHAT COUNTS. Prove the row's statement (the work); the ties are given (YtgmpmpgfpchbcaaGreatDoorTie.lean); close each card by the builder's one call (the guide's Derived/Test/ToyasCard.lean, 'card_holds'). Laid BY PROGRAM, IN A SANDBOX (cutbox-door.mjs). By AI agents, Wed Nov 11 2026. No macro, syntax, notation, axiom, sorry.
-/
import Derived.Test.YtgmpmpgfpchbcaaGreatDoorRows
import GoSem.ClaimSeven
namespace Go.Proofs.YtgmpmpgfpchbcaaGreatDoor
namespace Rows

/-- THE TIED CARD OF 'belfrylaw04.AttrFits'. -/
def attrFitsCard : Claim7 := { stood := { row := attrFitsRow, standIns := [], harness := (true, "923b9cdd6fddc23e789e8e87e26e3c732f9285e37ff9443aee1ad2219c361eba"), looks := false }, kinds := [], alts := [], laidByText := true, laidKinds := [.data, .pinned], laidTests := true, laidLooks := .later }
def AttrFitsCardSaid : Prop := Claim7.holds Tryz.pinned (.plain (OpenSpec.ofChange attrFitsSpec)) attrFitsCard

/-- THE SECOND FORM's CARD OF 'belfrylaw04.AttrFits'. -/
def attrFitsUptoCard : Claim7 := { stood := { row := attrFitsUptoRow, standIns := [], harness := (true, "923b9cdd6fddc23e789e8e87e26e3c732f9285e37ff9443aee1ad2219c361eba"), looks := false }, kinds := [], alts := [], laidByText := true, laidKinds := [.data, .pinned], laidTests := true, laidLooks := .later }
def AttrFitsUptoCardSaid : Prop := Claim7.holds Tryz.pinned (.plain (OpenSpec.upto attrFitsSpec)) attrFitsUptoCard
end Rows
end Go.Proofs.YtgmpmpgfpchbcaaGreatDoor
