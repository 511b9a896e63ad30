/-
  DERIVED. GIVEN WITH THE SEED: THE CARDS: each row of YtnhffkgbnlnliaaGreatDoorRows.lean that lists a variable, with what it lists TIED to the program's text (the seventh form; the later family's looks); each row that meets fmt, with fmt's text TOLD by the authors' own Lean function (tested against real Go, not proved from fmt's source: count such statements apart). THE CARD IS WHAT COUNTS. Prove the row's statement (the work); the ties are given (YtnhffkgbnlnliaaGreatDoorTie.lean); close each card by the builder's one call (the guide's Derived/Test/ToyasCard.lean, 'card_holds'). Laid BY PROGRAM, IN A SANDBOX (cutbox-door.mjs). By AI agents, Wed Nov 11 2026. No macro, syntax, notation, axiom, sorry.
-/
import Derived.Test.YtnhffkgbnlnliaaGreatDoorRows
import GoSem.ClaimSeven
namespace Go.Proofs.YtnhffkgbnlnliaaGreatDoor
namespace Rows

/-- THE TIED CARD OF 'chapmanlaw06.ValueMatchesReference'. -/
def valueMatchesReferenceCard : Claim7 := { stood := { row := valueMatchesReferenceRow, standIns := [], harness := (true, "3eec7b5b33b6622238cc419e665aa9e7fd5ef53471555ec74b230b8f913f7d8b"), looks := false }, kinds := [], alts := [], laidByText := true, laidKinds := [.data, .data, .data, .data, .data, .pinned], laidTests := true, laidLooks := .later }
def ValueMatchesReferenceCardSaid : Prop := Claim7.holds Tryz.pinned (.plain (OpenSpec.ofChange valueMatchesReferenceSpec)) valueMatchesReferenceCard

/-- THE TIED CARD OF 'chapmanlaw06.ValueBytes'. -/
def valueBytesCard : Claim7 := { stood := { row := valueBytesRow, standIns := [], harness := (true, "3eec7b5b33b6622238cc419e665aa9e7fd5ef53471555ec74b230b8f913f7d8b"), looks := false }, kinds := [], alts := [], laidByText := true, laidKinds := [.data, .data, .data, .data, .data, .pinned], laidTests := true, laidLooks := .later }
def ValueBytesCardSaid : Prop := Claim7.holds Tryz.pinned (.plain (OpenSpec.ofChange valueBytesSpec)) valueBytesCard

/-- THE TIED CARD OF 'chapmanlaw06.ValuePrefixes'. -/
def valuePrefixesCard : Claim7 := { stood := { row := valuePrefixesRow, standIns := [], harness := (true, "3eec7b5b33b6622238cc419e665aa9e7fd5ef53471555ec74b230b8f913f7d8b"), looks := false }, kinds := [], alts := [], laidByText := true, laidKinds := [.data, .data, .data, .data, .data, .pinned], laidTests := true, laidLooks := .later }
def ValuePrefixesCardSaid : Prop := Claim7.holds Tryz.pinned (.plain (OpenSpec.ofChange valuePrefixesSpec)) valuePrefixesCard

/-- THE SECOND FORM's CARD OF 'chapmanlaw06.ValueMatchesReference'. -/
def valueMatchesReferenceUptoCard : Claim7 := { stood := { row := valueMatchesReferenceUptoRow, standIns := [], harness := (true, "3eec7b5b33b6622238cc419e665aa9e7fd5ef53471555ec74b230b8f913f7d8b"), looks := false }, kinds := [], alts := [], laidByText := true, laidKinds := [.data, .data, .data, .data, .data, .pinned], laidTests := true, laidLooks := .later }
def ValueMatchesReferenceUptoCardSaid : Prop := Claim7.holds Tryz.pinned (.plain (OpenSpec.upto valueMatchesReferenceSpec)) valueMatchesReferenceUptoCard

/-- THE SECOND FORM's CARD OF 'chapmanlaw06.ValueBytes'. -/
def valueBytesUptoCard : Claim7 := { stood := { row := valueBytesUptoRow, standIns := [], harness := (true, "3eec7b5b33b6622238cc419e665aa9e7fd5ef53471555ec74b230b8f913f7d8b"), looks := false }, kinds := [], alts := [], laidByText := true, laidKinds := [.data, .data, .data, .data, .data, .pinned], laidTests := true, laidLooks := .later }
def ValueBytesUptoCardSaid : Prop := Claim7.holds Tryz.pinned (.plain (OpenSpec.upto valueBytesSpec)) valueBytesUptoCard

/-- THE SECOND FORM's CARD OF 'chapmanlaw06.ValuePrefixes'. -/
def valuePrefixesUptoCard : Claim7 := { stood := { row := valuePrefixesUptoRow, standIns := [], harness := (true, "3eec7b5b33b6622238cc419e665aa9e7fd5ef53471555ec74b230b8f913f7d8b"), looks := false }, kinds := [], alts := [], laidByText := true, laidKinds := [.data, .data, .data, .data, .data, .pinned], laidTests := true, laidLooks := .later }
def ValuePrefixesUptoCardSaid : Prop := Claim7.holds Tryz.pinned (.plain (OpenSpec.upto valuePrefixesSpec)) valuePrefixesUptoCard
end Rows
end Go.Proofs.YtnhffkgbnlnliaaGreatDoor
