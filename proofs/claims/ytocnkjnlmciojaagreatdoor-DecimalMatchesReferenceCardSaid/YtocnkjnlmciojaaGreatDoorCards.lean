/-
  DERIVED. GIVEN WITH THE SEED: THE CARDS: each row of YtocnkjnlmciojaaGreatDoorRows.lean that lists a variable, with what it lists TIED to the program's text (the seventh form; the later family's looks); each row that meets fmt, with fmt's text TOLD by the authors' own Lean function (tested against real Go, not proved from fmt's source: count such statements apart). THE CARD IS WHAT COUNTS. Prove the row's statement (the work); the ties are given (YtocnkjnlmciojaaGreatDoorTie.lean); close each card by the builder's one call (the guide's Derived/Test/ToyasCard.lean, 'card_holds'). Laid BY PROGRAM, IN A SANDBOX (cutbox-door.mjs). By AI agents, Wed Nov 11 2026. No macro, syntax, notation, axiom, sorry.
-/
import Derived.Test.YtocnkjnlmciojaaGreatDoorRows
import GoSem.ClaimSeven
namespace Go.Proofs.YtocnkjnlmciojaaGreatDoor
namespace Rows

/-- THE TIED CARD OF 'chapmanlaw02.DecimalMatchesReference'. -/
def decimalMatchesReferenceCard : Claim7 := { stood := { row := decimalMatchesReferenceRow, standIns := [], harness := (true, "41a1e885ef6ca336ef44198cc8cc5cb62b27deaf023acf55dc241ee654f40eee"), looks := false }, kinds := [], alts := [], laidByText := true, laidKinds := [.data, .data, .data, .data, .data, .pinned], laidTests := true, laidLooks := .later }
def DecimalMatchesReferenceCardSaid : Prop := Claim7.holds Tryz.pinned (.plain (OpenSpec.ofChange decimalMatchesReferenceSpec)) decimalMatchesReferenceCard

/-- THE TIED CARD OF 'chapmanlaw06.ValueMatchesReference'. -/
def valueMatchesReferenceCard : Claim7 := { stood := { row := valueMatchesReferenceRow, standIns := [], harness := (true, "41a1e885ef6ca336ef44198cc8cc5cb62b27deaf023acf55dc241ee654f40eee"), looks := false }, kinds := [], alts := [], laidByText := true, laidKinds := [.data, .data, .data, .data, .data, .pinned], laidTests := true, laidLooks := .later }
def ValueMatchesReferenceCardSaid : Prop := Claim7.holds Tryz.pinned (.plain (OpenSpec.ofChange valueMatchesReferenceSpec)) valueMatchesReferenceCard

/-- THE SECOND FORM's CARD OF 'chapmanlaw02.DecimalMatchesReference'. -/
def decimalMatchesReferenceUptoCard : Claim7 := { stood := { row := decimalMatchesReferenceUptoRow, standIns := [], harness := (true, "41a1e885ef6ca336ef44198cc8cc5cb62b27deaf023acf55dc241ee654f40eee"), looks := false }, kinds := [], alts := [], laidByText := true, laidKinds := [.data, .data, .data, .data, .data, .pinned], laidTests := true, laidLooks := .later }
def DecimalMatchesReferenceUptoCardSaid : Prop := Claim7.holds Tryz.pinned (.plain (OpenSpec.upto decimalMatchesReferenceSpec)) decimalMatchesReferenceUptoCard

/-- THE SECOND FORM's CARD OF 'chapmanlaw06.ValueMatchesReference'. -/
def valueMatchesReferenceUptoCard : Claim7 := { stood := { row := valueMatchesReferenceUptoRow, standIns := [], harness := (true, "41a1e885ef6ca336ef44198cc8cc5cb62b27deaf023acf55dc241ee654f40eee"), looks := false }, kinds := [], alts := [], laidByText := true, laidKinds := [.data, .data, .data, .data, .data, .pinned], laidTests := true, laidLooks := .later }
def ValueMatchesReferenceUptoCardSaid : Prop := Claim7.holds Tryz.pinned (.plain (OpenSpec.upto valueMatchesReferenceSpec)) valueMatchesReferenceUptoCard
end Rows
end Go.Proofs.YtocnkjnlmciojaaGreatDoor
