/-
  DERIVED. GIVEN WITH THE SEED: THE CARDS: each row of YtjbdlihlcoldlaaGreatDoorRows.lean that lists a variable, with what it lists TIED to the program's text (the seventh form; the later family's looks); each row that meets fmt, with fmt's text TOLD by the authors' own Lean function (tested against real Go, not proved from fmt's source: count such statements apart). THE CARD IS WHAT COUNTS. Prove the row's statement (the work); the ties are given (YtjbdlihlcoldlaaGreatDoorTie.lean); close each card by the builder's one call (the guide's Derived/Test/ToyasCard.lean, 'card_holds'). Laid BY PROGRAM, IN A SANDBOX (cutbox-door.mjs). By AI agents, Wed Nov 11 2026. No macro, syntax, notation, axiom, sorry.
-/
import Derived.Test.YtjbdlihlcoldlaaGreatDoorRows
import GoSem.ClaimSeven
namespace Go.Proofs.YtjbdlihlcoldlaaGreatDoor
namespace Rows

/-- THE TIED CARD OF 'caesurakeep.MeanNames'. -/
def meanNamesCard : Claim7 := { stood := { row := meanNamesRow, standIns := [], harness := (true, "485b9bd469997f0ddfc66081422c1c29224cafdbd33d605b2d1dc125c5be6b1a"), looks := true }, kinds := [], alts := [], laidByText := true, laidKinds := [.data, .data, .data, .handle, .data, .sentinel, .sentinel], laidTests := true, laidLooks := .later }
def MeanNamesCardSaid : Prop := Claim7.holds Tryz.pinned (.plain (OpenSpec.ofChange meanNamesSpec)) meanNamesCard

/-- THE TIED CARD OF 'caesurakeep.MeanFirst'. -/
def meanFirstCard : Claim7 := { stood := { row := meanFirstRow, standIns := [], harness := (true, "485b9bd469997f0ddfc66081422c1c29224cafdbd33d605b2d1dc125c5be6b1a"), looks := true }, kinds := [], alts := [], laidByText := true, laidKinds := [.data, .data, .data, .handle, .data, .sentinel, .sentinel], laidTests := true, laidLooks := .later }
def MeanFirstCardSaid : Prop := Claim7.holds Tryz.pinned (.plain (OpenSpec.ofChange meanFirstSpec)) meanFirstCard

/-- THE TIED CARD OF 'caesurakeep.MeanTurned'. -/
def meanTurnedCard : Claim7 := { stood := { row := meanTurnedRow, standIns := [], harness := (true, "485b9bd469997f0ddfc66081422c1c29224cafdbd33d605b2d1dc125c5be6b1a"), looks := true }, kinds := [], alts := [], laidByText := true, laidKinds := [.data, .data, .data, .handle, .data, .sentinel, .sentinel], laidTests := true, laidLooks := .later }
def MeanTurnedCardSaid : Prop := Claim7.holds Tryz.pinned (.plain (OpenSpec.ofChange meanTurnedSpec)) meanTurnedCard

/-- THE TIED CARD OF 'caesurakeep.MeanMirror'. -/
def meanMirrorCard : Claim7 := { stood := { row := meanMirrorRow, standIns := [], harness := (true, "485b9bd469997f0ddfc66081422c1c29224cafdbd33d605b2d1dc125c5be6b1a"), looks := true }, kinds := [], alts := [], laidByText := true, laidKinds := [.data, .data, .data, .handle, .data, .sentinel, .sentinel], laidTests := true, laidLooks := .later }
def MeanMirrorCardSaid : Prop := Claim7.holds Tryz.pinned (.plain (OpenSpec.ofChange meanMirrorSpec)) meanMirrorCard

/-- THE TIED CARD OF 'caesurakeep.MeanOften'. -/
def meanOftenCard : Claim7 := { stood := { row := meanOftenRow, standIns := [], harness := (true, "485b9bd469997f0ddfc66081422c1c29224cafdbd33d605b2d1dc125c5be6b1a"), looks := true }, kinds := [], alts := [], laidByText := true, laidKinds := [.data, .data, .data, .handle, .data, .sentinel, .sentinel], laidTests := true, laidLooks := .later }
def MeanOftenCardSaid : Prop := Claim7.holds Tryz.pinned (.plain (OpenSpec.ofChange meanOftenSpec)) meanOftenCard

/-- THE TIED CARD OF 'caesurakeep.CodeSame'. -/
def codeSameCard : Claim7 := { stood := { row := codeSameRow, standIns := [], harness := (true, "485b9bd469997f0ddfc66081422c1c29224cafdbd33d605b2d1dc125c5be6b1a"), looks := true }, kinds := [], alts := [], laidByText := true, laidKinds := [.data, .data, .data, .data, .sentinel, .sentinel], laidTests := true, laidLooks := .later }
def CodeSameCardSaid : Prop := Claim7.holds Tryz.pinned (.plain (OpenSpec.ofChange codeSameSpec)) codeSameCard

/-- THE TIED CARD OF 'caesurakeep.CodeBreaks'. -/
def codeBreaksCard : Claim7 := { stood := { row := codeBreaksRow, standIns := [], harness := (true, "485b9bd469997f0ddfc66081422c1c29224cafdbd33d605b2d1dc125c5be6b1a"), looks := true }, kinds := [], alts := [], laidByText := true, laidKinds := [.data, .data, .data, .handle, .data, .sentinel, .sentinel], laidTests := true, laidLooks := .later }
def CodeBreaksCardSaid : Prop := Claim7.holds Tryz.pinned (.plain (OpenSpec.ofChange codeBreaksSpec)) codeBreaksCard

/-- THE SECOND FORM's CARD OF 'caesurakeep.MeanNames'. -/
def meanNamesUptoCard : Claim7 := { stood := { row := meanNamesUptoRow, standIns := [], harness := (true, "485b9bd469997f0ddfc66081422c1c29224cafdbd33d605b2d1dc125c5be6b1a"), looks := true }, kinds := [], alts := [], laidByText := true, laidKinds := [.data, .data, .data, .handle, .data, .sentinel, .sentinel], laidTests := true, laidLooks := .later }
def MeanNamesUptoCardSaid : Prop := Claim7.holds Tryz.pinned (.plain (OpenSpec.upto meanNamesSpec)) meanNamesUptoCard

/-- THE SECOND FORM's CARD OF 'caesurakeep.MeanFirst'. -/
def meanFirstUptoCard : Claim7 := { stood := { row := meanFirstUptoRow, standIns := [], harness := (true, "485b9bd469997f0ddfc66081422c1c29224cafdbd33d605b2d1dc125c5be6b1a"), looks := true }, kinds := [], alts := [], laidByText := true, laidKinds := [.data, .data, .data, .handle, .data, .sentinel, .sentinel], laidTests := true, laidLooks := .later }
def MeanFirstUptoCardSaid : Prop := Claim7.holds Tryz.pinned (.plain (OpenSpec.upto meanFirstSpec)) meanFirstUptoCard

/-- THE SECOND FORM's CARD OF 'caesurakeep.MeanTurned'. -/
def meanTurnedUptoCard : Claim7 := { stood := { row := meanTurnedUptoRow, standIns := [], harness := (true, "485b9bd469997f0ddfc66081422c1c29224cafdbd33d605b2d1dc125c5be6b1a"), looks := true }, kinds := [], alts := [], laidByText := true, laidKinds := [.data, .data, .data, .handle, .data, .sentinel, .sentinel], laidTests := true, laidLooks := .later }
def MeanTurnedUptoCardSaid : Prop := Claim7.holds Tryz.pinned (.plain (OpenSpec.upto meanTurnedSpec)) meanTurnedUptoCard

/-- THE SECOND FORM's CARD OF 'caesurakeep.MeanMirror'. -/
def meanMirrorUptoCard : Claim7 := { stood := { row := meanMirrorUptoRow, standIns := [], harness := (true, "485b9bd469997f0ddfc66081422c1c29224cafdbd33d605b2d1dc125c5be6b1a"), looks := true }, kinds := [], alts := [], laidByText := true, laidKinds := [.data, .data, .data, .handle, .data, .sentinel, .sentinel], laidTests := true, laidLooks := .later }
def MeanMirrorUptoCardSaid : Prop := Claim7.holds Tryz.pinned (.plain (OpenSpec.upto meanMirrorSpec)) meanMirrorUptoCard

/-- THE SECOND FORM's CARD OF 'caesurakeep.MeanOften'. -/
def meanOftenUptoCard : Claim7 := { stood := { row := meanOftenUptoRow, standIns := [], harness := (true, "485b9bd469997f0ddfc66081422c1c29224cafdbd33d605b2d1dc125c5be6b1a"), looks := true }, kinds := [], alts := [], laidByText := true, laidKinds := [.data, .data, .data, .handle, .data, .sentinel, .sentinel], laidTests := true, laidLooks := .later }
def MeanOftenUptoCardSaid : Prop := Claim7.holds Tryz.pinned (.plain (OpenSpec.upto meanOftenSpec)) meanOftenUptoCard

/-- THE SECOND FORM's CARD OF 'caesurakeep.CodeSame'. -/
def codeSameUptoCard : Claim7 := { stood := { row := codeSameUptoRow, standIns := [], harness := (true, "485b9bd469997f0ddfc66081422c1c29224cafdbd33d605b2d1dc125c5be6b1a"), looks := true }, kinds := [], alts := [], laidByText := true, laidKinds := [.data, .data, .data, .data, .sentinel, .sentinel], laidTests := true, laidLooks := .later }
def CodeSameUptoCardSaid : Prop := Claim7.holds Tryz.pinned (.plain (OpenSpec.upto codeSameSpec)) codeSameUptoCard

/-- THE SECOND FORM's CARD OF 'caesurakeep.CodeBreaks'. -/
def codeBreaksUptoCard : Claim7 := { stood := { row := codeBreaksUptoRow, standIns := [], harness := (true, "485b9bd469997f0ddfc66081422c1c29224cafdbd33d605b2d1dc125c5be6b1a"), looks := true }, kinds := [], alts := [], laidByText := true, laidKinds := [.data, .data, .data, .handle, .data, .sentinel, .sentinel], laidTests := true, laidLooks := .later }
def CodeBreaksUptoCardSaid : Prop := Claim7.holds Tryz.pinned (.plain (OpenSpec.upto codeBreaksSpec)) codeBreaksUptoCard
end Rows
end Go.Proofs.YtjbdlihlcoldlaaGreatDoor
