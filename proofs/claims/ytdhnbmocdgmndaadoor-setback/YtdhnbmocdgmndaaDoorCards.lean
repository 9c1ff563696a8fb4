/-
  DERIVED. GIVEN WITH THE SEED: THE CARDS: each row of YtdhnbmocdgmndaaDoorRows.lean that lists a variable, with what it lists TIED to the program's text (the seventh form; the later family's looks); each row that meets fmt, with fmt's text TOLD by the authors' own Lean function (tested against real Go, not proved from fmt's source: count such statements apart). THE CARD IS WHAT COUNTS. Prove the row's statement (the work); the ties are given (YtdhnbmocdgmndaaDoorTie.lean); close each card by the builder's one call (the guide's Derived/Test/ToyasCard.lean, 'card_holds'). Laid BY PROGRAM, IN A SANDBOX (cutbox-door.mjs). By AI agents, Wed Nov 11 2026. No macro, syntax, notation, axiom, sorry.
-/
import Derived.Test.YtdhnbmocdgmndaaDoorRows
import GoSem.ClaimSeven
namespace Go.Proofs.YtdhnbmocdgmndaaDoor
namespace Rows

/-- THE TIED CARD OF 'caesuralaw.UtfReads'. -/
def utfReadsCard : Claim7 := { stood := { row := utfReadsRow, standIns := [], harness := (true, "ebba8c41ef9eff2cc03cb9d931eac4d62e5e0c45e21d24ebb8f161d0e919d005"), looks := true }, kinds := [], alts := [], laidByText := true, laidKinds := [.handle, .data, .data], laidTests := true, laidLooks := .later }
def UtfReadsCardSaid : Prop := Claim7.holds Tryd.pinned (.plain (OpenSpec.ofChange utfReadsSpec)) utfReadsCard

/-- THE TIED CARD OF 'caesurakeep.UtfCovers'. -/
def utfCoversCard : Claim7 := { stood := { row := utfCoversRow, standIns := [], harness := (true, "ebba8c41ef9eff2cc03cb9d931eac4d62e5e0c45e21d24ebb8f161d0e919d005"), looks := true }, kinds := [], alts := [], laidByText := true, laidKinds := [.data], laidTests := true, laidLooks := .later }
def UtfCoversCardSaid : Prop := Claim7.holds Tryd.pinned (.plain (OpenSpec.ofChange utfCoversSpec)) utfCoversCard

/-- THE TIED CARD OF 'caesurakeep.UtfAgain'. -/
def utfAgainCard : Claim7 := { stood := { row := utfAgainRow, standIns := [], harness := (true, "ebba8c41ef9eff2cc03cb9d931eac4d62e5e0c45e21d24ebb8f161d0e919d005"), looks := true }, kinds := [], alts := [], laidByText := true, laidKinds := [.data], laidTests := true, laidLooks := .later }
def UtfAgainCardSaid : Prop := Claim7.holds Tryd.pinned (.plain (OpenSpec.ofChange utfAgainSpec)) utfAgainCard

/-- THE TIED CARD OF 'caesurakeep.SetLaws'. -/
def setLawsCard : Claim7 := { stood := { row := setLawsRow, standIns := [], harness := (true, "ebba8c41ef9eff2cc03cb9d931eac4d62e5e0c45e21d24ebb8f161d0e919d005"), looks := true }, kinds := [], alts := [], laidByText := true, laidKinds := [.data, .data, .data], laidTests := true, laidLooks := .later }
def SetLawsCardSaid : Prop := Claim7.holds Tryd.pinned (.plain (OpenSpec.ofChange setLawsSpec)) setLawsCard

/-- THE TIED CARD OF 'caesurakeep.SetBack'. -/
def setBackCard : Claim7 := { stood := { row := setBackRow, standIns := [], harness := (true, "ebba8c41ef9eff2cc03cb9d931eac4d62e5e0c45e21d24ebb8f161d0e919d005"), looks := true }, kinds := [], alts := [], laidByText := true, laidKinds := [.data, .data, .data, .sentinel, .sentinel], laidTests := true, laidLooks := .later }
def SetBackCardSaid : Prop := Claim7.holds Tryd.pinned (.plain (OpenSpec.ofChange setBackSpec)) setBackCard

/-- THE SECOND FORM's CARD OF 'caesuralaw.UtfReads'. -/
def utfReadsUptoCard : Claim7 := { stood := { row := utfReadsUptoRow, standIns := [], harness := (true, "ebba8c41ef9eff2cc03cb9d931eac4d62e5e0c45e21d24ebb8f161d0e919d005"), looks := true }, kinds := [], alts := [], laidByText := true, laidKinds := [.handle, .data, .data], laidTests := true, laidLooks := .later }
def UtfReadsUptoCardSaid : Prop := Claim7.holds Tryd.pinned (.plain (OpenSpec.upto utfReadsSpec)) utfReadsUptoCard

/-- THE SECOND FORM's CARD OF 'caesurakeep.UtfCovers'. -/
def utfCoversUptoCard : Claim7 := { stood := { row := utfCoversUptoRow, standIns := [], harness := (true, "ebba8c41ef9eff2cc03cb9d931eac4d62e5e0c45e21d24ebb8f161d0e919d005"), looks := true }, kinds := [], alts := [], laidByText := true, laidKinds := [.data], laidTests := true, laidLooks := .later }
def UtfCoversUptoCardSaid : Prop := Claim7.holds Tryd.pinned (.plain (OpenSpec.upto utfCoversSpec)) utfCoversUptoCard

/-- THE SECOND FORM's CARD OF 'caesurakeep.UtfAgain'. -/
def utfAgainUptoCard : Claim7 := { stood := { row := utfAgainUptoRow, standIns := [], harness := (true, "ebba8c41ef9eff2cc03cb9d931eac4d62e5e0c45e21d24ebb8f161d0e919d005"), looks := true }, kinds := [], alts := [], laidByText := true, laidKinds := [.data], laidTests := true, laidLooks := .later }
def UtfAgainUptoCardSaid : Prop := Claim7.holds Tryd.pinned (.plain (OpenSpec.upto utfAgainSpec)) utfAgainUptoCard

/-- THE SECOND FORM's CARD OF 'caesurakeep.SetLaws'. -/
def setLawsUptoCard : Claim7 := { stood := { row := setLawsUptoRow, standIns := [], harness := (true, "ebba8c41ef9eff2cc03cb9d931eac4d62e5e0c45e21d24ebb8f161d0e919d005"), looks := true }, kinds := [], alts := [], laidByText := true, laidKinds := [.data, .data, .data], laidTests := true, laidLooks := .later }
def SetLawsUptoCardSaid : Prop := Claim7.holds Tryd.pinned (.plain (OpenSpec.upto setLawsSpec)) setLawsUptoCard

/-- THE SECOND FORM's CARD OF 'caesurakeep.SetBack'. -/
def setBackUptoCard : Claim7 := { stood := { row := setBackUptoRow, standIns := [], harness := (true, "ebba8c41ef9eff2cc03cb9d931eac4d62e5e0c45e21d24ebb8f161d0e919d005"), looks := true }, kinds := [], alts := [], laidByText := true, laidKinds := [.data, .data, .data, .sentinel, .sentinel], laidTests := true, laidLooks := .later }
def SetBackUptoCardSaid : Prop := Claim7.holds Tryd.pinned (.plain (OpenSpec.upto setBackSpec)) setBackUptoCard
end Rows
end Go.Proofs.YtdhnbmocdgmndaaDoor
