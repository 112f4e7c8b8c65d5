/-
  DERIVED. GIVEN WITH THE SEED: THE CARDS: each row of YtgempifedhiknaaDoorRows.lean that lists a variable, with what it lists TIED to the program's text (the seventh form; the later family's looks); each row that meets fmt, with fmt's text TOLD by the authors' own Lean function (tested against real Go, not proved from fmt's source: count such statements apart). THE CARD IS WHAT COUNTS. Prove the row's statement (the work); the ties are given (YtgempifedhiknaaDoorTie.lean); close each card by the builder's one call (the guide's Derived/Test/ToyasCard.lean, 'card_holds'). Laid BY PROGRAM, IN A SANDBOX (cutbox-door.mjs). By AI agents, Wed Nov 11 2026. No macro, syntax, notation, axiom, sorry.
-/
import Derived.Test.YtgempifedhiknaaDoorRows
import GoSem.ClaimSeven
namespace Go.Proofs.YtgempifedhiknaaDoor
namespace Rows

/-- THE TIED CARD OF 'moidorelaw06.WotsOwns'. -/
def wotsOwnsCard : Claim7 := { stood := { row := wotsOwnsRow, standIns := [], harness := (true, "b80df34381a0bbaefdb59b73f8c7aa2420cfed3e992d714e8430755c522e5537"), looks := false }, kinds := [], alts := [], laidByText := true, laidKinds := [.data, .data], laidTests := true, laidLooks := .later }
def WotsOwnsCardSaid : Prop := Claim7.holds Tryd.pinned (.plain (OpenSpec.ofChange wotsOwnsSpec)) wotsOwnsCard

/-- THE TIED CARD OF 'moidorelaw06.WotsDigits'. -/
def wotsDigitsCard : Claim7 := { stood := { row := wotsDigitsRow, standIns := [], harness := (true, "b80df34381a0bbaefdb59b73f8c7aa2420cfed3e992d714e8430755c522e5537"), looks := false }, kinds := [], alts := [], laidByText := true, laidKinds := [.data, .data], laidTests := true, laidLooks := .later }
def WotsDigitsCardSaid : Prop := Claim7.holds Tryd.pinned (.plain (OpenSpec.ofChange wotsDigitsSpec)) wotsDigitsCard

/-- THE TIED CARD OF 'moidorelaw06.WotsSigned'. -/
def wotsSignedCard : Claim7 := { stood := { row := wotsSignedRow, standIns := [], harness := (true, "b80df34381a0bbaefdb59b73f8c7aa2420cfed3e992d714e8430755c522e5537"), looks := false }, kinds := [], alts := [], laidByText := true, laidKinds := [.data, .data], laidTests := true, laidLooks := .later }
def WotsSignedCardSaid : Prop := Claim7.holds Tryd.pinned (.plain (OpenSpec.ofChange wotsSignedSpec)) wotsSignedCard

/-- THE TIED CARD OF 'moidorelaw06.WotsBelow'. -/
def wotsBelowCard : Claim7 := { stood := { row := wotsBelowRow, standIns := [], harness := (true, "b80df34381a0bbaefdb59b73f8c7aa2420cfed3e992d714e8430755c522e5537"), looks := false }, kinds := [], alts := [], laidByText := true, laidKinds := [.data, .data], laidTests := true, laidLooks := .later }
def WotsBelowCardSaid : Prop := Claim7.holds Tryd.pinned (.plain (OpenSpec.ofChange wotsBelowSpec)) wotsBelowCard

/-- THE SECOND FORM's CARD OF 'moidorelaw06.WotsOwns'. -/
def wotsOwnsUptoCard : Claim7 := { stood := { row := wotsOwnsUptoRow, standIns := [], harness := (true, "b80df34381a0bbaefdb59b73f8c7aa2420cfed3e992d714e8430755c522e5537"), looks := false }, kinds := [], alts := [], laidByText := true, laidKinds := [.data, .data], laidTests := true, laidLooks := .later }
def WotsOwnsUptoCardSaid : Prop := Claim7.holds Tryd.pinned (.plain (OpenSpec.upto wotsOwnsSpec)) wotsOwnsUptoCard

/-- THE SECOND FORM's CARD OF 'moidorelaw06.WotsDigits'. -/
def wotsDigitsUptoCard : Claim7 := { stood := { row := wotsDigitsUptoRow, standIns := [], harness := (true, "b80df34381a0bbaefdb59b73f8c7aa2420cfed3e992d714e8430755c522e5537"), looks := false }, kinds := [], alts := [], laidByText := true, laidKinds := [.data, .data], laidTests := true, laidLooks := .later }
def WotsDigitsUptoCardSaid : Prop := Claim7.holds Tryd.pinned (.plain (OpenSpec.upto wotsDigitsSpec)) wotsDigitsUptoCard

/-- THE SECOND FORM's CARD OF 'moidorelaw06.WotsSigned'. -/
def wotsSignedUptoCard : Claim7 := { stood := { row := wotsSignedUptoRow, standIns := [], harness := (true, "b80df34381a0bbaefdb59b73f8c7aa2420cfed3e992d714e8430755c522e5537"), looks := false }, kinds := [], alts := [], laidByText := true, laidKinds := [.data, .data], laidTests := true, laidLooks := .later }
def WotsSignedUptoCardSaid : Prop := Claim7.holds Tryd.pinned (.plain (OpenSpec.upto wotsSignedSpec)) wotsSignedUptoCard

/-- THE SECOND FORM's CARD OF 'moidorelaw06.WotsBelow'. -/
def wotsBelowUptoCard : Claim7 := { stood := { row := wotsBelowUptoRow, standIns := [], harness := (true, "b80df34381a0bbaefdb59b73f8c7aa2420cfed3e992d714e8430755c522e5537"), looks := false }, kinds := [], alts := [], laidByText := true, laidKinds := [.data, .data], laidTests := true, laidLooks := .later }
def WotsBelowUptoCardSaid : Prop := Claim7.holds Tryd.pinned (.plain (OpenSpec.upto wotsBelowSpec)) wotsBelowUptoCard
end Rows
end Go.Proofs.YtgempifedhiknaaDoor
