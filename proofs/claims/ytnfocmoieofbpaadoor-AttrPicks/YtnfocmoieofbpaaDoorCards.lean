/-
  DERIVED. GIVEN WITH THE SEED: THE CARDS: each row of YtnfocmoieofbpaaDoorRows.lean that lists a variable, with what it lists TIED to the program's text (the seventh form; the later family's looks); each row that meets fmt, with fmt's text TOLD by the authors' own Lean function (tested against real Go, not proved from fmt's source: count such statements apart). THE CARD IS WHAT COUNTS. Prove the row's statement (the work); the ties are given (YtnfocmoieofbpaaDoorTie.lean); close each card by the builder's one call (the guide's Derived/Test/ToyasCard.lean, 'card_holds'). Laid BY PROGRAM, IN A SANDBOX (cutbox-door.mjs). By AI agents, Wed Nov 11 2026. No macro, syntax, notation, axiom, sorry.
-/
import Derived.Test.YtnfocmoieofbpaaDoorRows
import GoSem.ClaimSeven
namespace Go.Proofs.YtnfocmoieofbpaaDoor
namespace Rows

/-- THE TIED CARD OF 'belfrylaw04.AttrSets'. -/
def attrSetsCard : Claim7 := { stood := { row := attrSetsRow, standIns := [], harness := (true, "d530df4efd677a713756c6e529def832c15c45adfa63474d77de7598dd5c363e"), looks := false }, kinds := [], alts := [], laidByText := true, laidKinds := [.data, .pinned], laidTests := true, laidLooks := .later }
def AttrSetsCardSaid : Prop := Claim7.holds Tryd.pinned (.plain (OpenSpec.ofChange attrSetsSpec)) attrSetsCard

/-- THE TIED CARD OF 'belfrylaw04.AttrPicks'. -/
def attrPicksCard : Claim7 := { stood := { row := attrPicksRow, standIns := [], harness := (true, "d530df4efd677a713756c6e529def832c15c45adfa63474d77de7598dd5c363e"), looks := false }, kinds := [], alts := [], laidByText := true, laidKinds := [.data, .pinned], laidTests := true, laidLooks := .later }
def AttrPicksCardSaid : Prop := Claim7.holds Tryd.pinned (.plain (OpenSpec.ofChange attrPicksSpec)) attrPicksCard

/-- THE TIED CARD OF 'belfrylaw04.AttrOrder'. -/
def attrOrderCard : Claim7 := { stood := { row := attrOrderRow, standIns := [], harness := (true, "d530df4efd677a713756c6e529def832c15c45adfa63474d77de7598dd5c363e"), looks := false }, kinds := [], alts := [], laidByText := true, laidKinds := [.data, .pinned], laidTests := true, laidLooks := .later }
def AttrOrderCardSaid : Prop := Claim7.holds Tryd.pinned (.plain (OpenSpec.ofChange attrOrderSpec)) attrOrderCard

/-- THE SECOND FORM's CARD OF 'belfrylaw04.AttrSets'. -/
def attrSetsUptoCard : Claim7 := { stood := { row := attrSetsUptoRow, standIns := [], harness := (true, "d530df4efd677a713756c6e529def832c15c45adfa63474d77de7598dd5c363e"), looks := false }, kinds := [], alts := [], laidByText := true, laidKinds := [.data, .pinned], laidTests := true, laidLooks := .later }
def AttrSetsUptoCardSaid : Prop := Claim7.holds Tryd.pinned (.plain (OpenSpec.upto attrSetsSpec)) attrSetsUptoCard

/-- THE SECOND FORM's CARD OF 'belfrylaw04.AttrPicks'. -/
def attrPicksUptoCard : Claim7 := { stood := { row := attrPicksUptoRow, standIns := [], harness := (true, "d530df4efd677a713756c6e529def832c15c45adfa63474d77de7598dd5c363e"), looks := false }, kinds := [], alts := [], laidByText := true, laidKinds := [.data, .pinned], laidTests := true, laidLooks := .later }
def AttrPicksUptoCardSaid : Prop := Claim7.holds Tryd.pinned (.plain (OpenSpec.upto attrPicksSpec)) attrPicksUptoCard

/-- THE SECOND FORM's CARD OF 'belfrylaw04.AttrOrder'. -/
def attrOrderUptoCard : Claim7 := { stood := { row := attrOrderUptoRow, standIns := [], harness := (true, "d530df4efd677a713756c6e529def832c15c45adfa63474d77de7598dd5c363e"), looks := false }, kinds := [], alts := [], laidByText := true, laidKinds := [.data, .pinned], laidTests := true, laidLooks := .later }
def AttrOrderUptoCardSaid : Prop := Claim7.holds Tryd.pinned (.plain (OpenSpec.upto attrOrderSpec)) attrOrderUptoCard
end Rows
end Go.Proofs.YtnfocmoieofbpaaDoor
