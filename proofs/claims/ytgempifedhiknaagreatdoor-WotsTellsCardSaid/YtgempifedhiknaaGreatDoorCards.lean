/-
  DERIVED. GIVEN WITH THE SEED: THE CARDS: each row of YtgempifedhiknaaGreatDoorRows.lean that lists a variable, with what it lists TIED to the program's text (the seventh form; the later family's looks); each row that meets fmt, with fmt's text TOLD by the authors' own Lean function (tested against real Go, not proved from fmt's source: count such statements apart). THE CARD IS WHAT COUNTS. Prove the row's statement (the work); the ties are given (YtgempifedhiknaaGreatDoorTie.lean); close each card by the builder's one call (the guide's Derived/Test/ToyasCard.lean, 'card_holds'). Laid BY PROGRAM, IN A SANDBOX (cutbox-door.mjs). By AI agents, Wed Nov 11 2026. No macro, syntax, notation, axiom, sorry.
-/
import Derived.Test.YtgempifedhiknaaGreatDoorRows
import GoSem.ClaimSeven
namespace Go.Proofs.YtgempifedhiknaaGreatDoor
namespace Rows

/-- THE TIED CARD OF 'moidorelaw06.WotsTells'. -/
def wotsTellsCard : Claim7 := { stood := { row := wotsTellsRow, standIns := [], harness := (true, "49b946b89dc13d5e0241015452e9a552bb7e87a91838357748c6ce4b294450aa"), looks := false }, kinds := [], alts := [], laidByText := true, laidKinds := [.data, .data], laidTests := true, laidLooks := .later }
def WotsTellsCardSaid : Prop := Claim7.holds Tryz.pinned (.plain (OpenSpec.ofChange wotsTellsSpec)) wotsTellsCard

/-- THE SECOND FORM's CARD OF 'moidorelaw06.WotsTells'. -/
def wotsTellsUptoCard : Claim7 := { stood := { row := wotsTellsUptoRow, standIns := [], harness := (true, "49b946b89dc13d5e0241015452e9a552bb7e87a91838357748c6ce4b294450aa"), looks := false }, kinds := [], alts := [], laidByText := true, laidKinds := [.data, .data], laidTests := true, laidLooks := .later }
def WotsTellsUptoCardSaid : Prop := Claim7.holds Tryz.pinned (.plain (OpenSpec.upto wotsTellsSpec)) wotsTellsUptoCard
end Rows
end Go.Proofs.YtgempifedhiknaaGreatDoor
