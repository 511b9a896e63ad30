/-
  DERIVED. GIVEN WITH THE SEED: THE CARDS: each row of YtlleodcjenaliaaDoorRows.lean that lists a variable, with what it lists TIED to the program's text (the seventh form; the later family's looks); each row that meets fmt, with fmt's text TOLD by the authors' own Lean function (tested against real Go, not proved from fmt's source: count such statements apart). THE CARD IS WHAT COUNTS. Prove the row's statement (the work); the ties are given (YtlleodcjenaliaaDoorTie.lean); close each card by the builder's one call (the guide's Derived/Test/ToyasCard.lean, 'card_holds'). Laid BY PROGRAM, IN A SANDBOX (cutbox-door.mjs). By AI agents, Wed Nov 11 2026. No macro, syntax, notation, axiom, sorry.
-/
import Derived.Test.YtlleodcjenaliaaDoorRows
import GoSem.ClaimSeven
namespace Go.Proofs.YtlleodcjenaliaaDoor
namespace Rows

/-- THE TIED CARD OF 'chapmanlaw02.DecimalTexts'. -/
def decimalTextsCard : Claim7 := { stood := { row := decimalTextsRow, standIns := [], harness := (true, "de776c83e5c469769e44d7bcbea2ea6fa18695c86e1030c476f24ac457f1e7f5"), looks := false }, kinds := [], alts := [], laidByText := true, laidKinds := [.data, .data, .data, .data, .data, .pinned], laidTests := true, laidLooks := .later }
def DecimalTextsCardSaid : Prop := Claim7.holds Tryd.pinned (.plain (OpenSpec.ofChange decimalTextsSpec)) decimalTextsCard

/-- THE TIED CARD OF 'chapmanlaw02.DecimalSums'. -/
def decimalSumsCard : Claim7 := { stood := { row := decimalSumsRow, standIns := [], harness := (true, "de776c83e5c469769e44d7bcbea2ea6fa18695c86e1030c476f24ac457f1e7f5"), looks := false }, kinds := [], alts := [], laidByText := true, laidKinds := [.data, .data, .data, .data, .data, .pinned], laidTests := true, laidLooks := .later }
def DecimalSumsCardSaid : Prop := Claim7.holds Tryd.pinned (.plain (OpenSpec.ofChange decimalSumsSpec)) decimalSumsCard

/-- THE TIED CARD OF 'chapmanlaw02.DecimalProducts'. -/
def decimalProductsCard : Claim7 := { stood := { row := decimalProductsRow, standIns := [], harness := (true, "de776c83e5c469769e44d7bcbea2ea6fa18695c86e1030c476f24ac457f1e7f5"), looks := false }, kinds := [], alts := [], laidByText := true, laidKinds := [.data, .data, .data, .data, .data, .pinned], laidTests := true, laidLooks := .later }
def DecimalProductsCardSaid : Prop := Claim7.holds Tryd.pinned (.plain (OpenSpec.ofChange decimalProductsSpec)) decimalProductsCard

/-- THE TIED CARD OF 'chapmanlaw02.DecimalQuotients'. -/
def decimalQuotientsCard : Claim7 := { stood := { row := decimalQuotientsRow, standIns := [], harness := (true, "de776c83e5c469769e44d7bcbea2ea6fa18695c86e1030c476f24ac457f1e7f5"), looks := false }, kinds := [], alts := [], laidByText := true, laidKinds := [.data, .data, .data, .data, .data, .pinned], laidTests := true, laidLooks := .later }
def DecimalQuotientsCardSaid : Prop := Claim7.holds Tryd.pinned (.plain (OpenSpec.ofChange decimalQuotientsSpec)) decimalQuotientsCard

/-- THE TIED CARD OF 'chapmanlaw02.DecimalTruncates'. -/
def decimalTruncatesCard : Claim7 := { stood := { row := decimalTruncatesRow, standIns := [], harness := (true, "de776c83e5c469769e44d7bcbea2ea6fa18695c86e1030c476f24ac457f1e7f5"), looks := false }, kinds := [], alts := [], laidByText := true, laidKinds := [.data, .data, .data, .data, .data, .pinned], laidTests := true, laidLooks := .later }
def DecimalTruncatesCardSaid : Prop := Claim7.holds Tryd.pinned (.plain (OpenSpec.ofChange decimalTruncatesSpec)) decimalTruncatesCard

/-- THE SECOND FORM's CARD OF 'chapmanlaw02.DecimalTexts'. -/
def decimalTextsUptoCard : Claim7 := { stood := { row := decimalTextsUptoRow, standIns := [], harness := (true, "de776c83e5c469769e44d7bcbea2ea6fa18695c86e1030c476f24ac457f1e7f5"), looks := false }, kinds := [], alts := [], laidByText := true, laidKinds := [.data, .data, .data, .data, .data, .pinned], laidTests := true, laidLooks := .later }
def DecimalTextsUptoCardSaid : Prop := Claim7.holds Tryd.pinned (.plain (OpenSpec.upto decimalTextsSpec)) decimalTextsUptoCard

/-- THE SECOND FORM's CARD OF 'chapmanlaw02.DecimalSums'. -/
def decimalSumsUptoCard : Claim7 := { stood := { row := decimalSumsUptoRow, standIns := [], harness := (true, "de776c83e5c469769e44d7bcbea2ea6fa18695c86e1030c476f24ac457f1e7f5"), looks := false }, kinds := [], alts := [], laidByText := true, laidKinds := [.data, .data, .data, .data, .data, .pinned], laidTests := true, laidLooks := .later }
def DecimalSumsUptoCardSaid : Prop := Claim7.holds Tryd.pinned (.plain (OpenSpec.upto decimalSumsSpec)) decimalSumsUptoCard

/-- THE SECOND FORM's CARD OF 'chapmanlaw02.DecimalProducts'. -/
def decimalProductsUptoCard : Claim7 := { stood := { row := decimalProductsUptoRow, standIns := [], harness := (true, "de776c83e5c469769e44d7bcbea2ea6fa18695c86e1030c476f24ac457f1e7f5"), looks := false }, kinds := [], alts := [], laidByText := true, laidKinds := [.data, .data, .data, .data, .data, .pinned], laidTests := true, laidLooks := .later }
def DecimalProductsUptoCardSaid : Prop := Claim7.holds Tryd.pinned (.plain (OpenSpec.upto decimalProductsSpec)) decimalProductsUptoCard

/-- THE SECOND FORM's CARD OF 'chapmanlaw02.DecimalQuotients'. -/
def decimalQuotientsUptoCard : Claim7 := { stood := { row := decimalQuotientsUptoRow, standIns := [], harness := (true, "de776c83e5c469769e44d7bcbea2ea6fa18695c86e1030c476f24ac457f1e7f5"), looks := false }, kinds := [], alts := [], laidByText := true, laidKinds := [.data, .data, .data, .data, .data, .pinned], laidTests := true, laidLooks := .later }
def DecimalQuotientsUptoCardSaid : Prop := Claim7.holds Tryd.pinned (.plain (OpenSpec.upto decimalQuotientsSpec)) decimalQuotientsUptoCard

/-- THE SECOND FORM's CARD OF 'chapmanlaw02.DecimalTruncates'. -/
def decimalTruncatesUptoCard : Claim7 := { stood := { row := decimalTruncatesUptoRow, standIns := [], harness := (true, "de776c83e5c469769e44d7bcbea2ea6fa18695c86e1030c476f24ac457f1e7f5"), looks := false }, kinds := [], alts := [], laidByText := true, laidKinds := [.data, .data, .data, .data, .data, .pinned], laidTests := true, laidLooks := .later }
def DecimalTruncatesUptoCardSaid : Prop := Claim7.holds Tryd.pinned (.plain (OpenSpec.upto decimalTruncatesSpec)) decimalTruncatesUptoCard
end Rows
end Go.Proofs.YtlleodcjenaliaaDoor
