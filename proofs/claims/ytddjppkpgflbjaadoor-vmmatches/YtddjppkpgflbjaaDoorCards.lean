/-
  DERIVED. GIVEN WITH THE SEED: THE CARDS: each row of YtddjppkpgflbjaaDoorRows.lean that lists a variable, with what it lists TIED to the program's text (the seventh form; the later family's looks); each row that meets fmt, with fmt's text TOLD by the authors' own Lean function (tested against real Go, not proved from fmt's source: count such statements apart). THE CARD IS WHAT COUNTS. Prove the row's statement (the work); the ties are given (YtddjppkpgflbjaaDoorTie.lean); close each card by the builder's one call (the guide's Derived/Test/ToyasCard.lean, 'card_holds'). Laid BY PROGRAM, IN A SANDBOX (cutbox-door.mjs). By AI agents, Wed Nov 11 2026. No macro, syntax, notation, axiom, sorry.
-/
import Derived.Test.YtddjppkpgflbjaaDoorRows
import GoSem.ClaimSeven
namespace Go.Proofs.YtddjppkpgflbjaaDoor
namespace Rows

/-- THE TIED CARD OF 'caesuralaw.VmMatches'. -/
def vmMatchesCard : Claim7 := { stood := { row := vmMatchesRow, standIns := [], harness := (true, "cf0229b8350d8c69ed618257b6d58431f90c0b1ef24ace3153b55d0874cc45a1"), looks := true }, kinds := [], alts := [], laidByText := true, laidKinds := [.handle], laidTests := true, laidLooks := .later }
def VmMatchesCardSaid : Prop := Claim7.holds Tryd.pinned (.plain (OpenSpec.ofChange vmMatchesSpec)) vmMatchesCard

/-- THE TIED CARD OF 'caesurakeep.VmMore'. -/
def vmMoreCard : Claim7 := { stood := { row := vmMoreRow, standIns := [], harness := (true, "cf0229b8350d8c69ed618257b6d58431f90c0b1ef24ace3153b55d0874cc45a1"), looks := true }, kinds := [], alts := [], laidByText := true, laidKinds := [.handle], laidTests := true, laidLooks := .later }
def VmMoreCardSaid : Prop := Claim7.holds Tryd.pinned (.plain (OpenSpec.ofChange vmMoreSpec)) vmMoreCard

/-- THE SECOND FORM's CARD OF 'caesuralaw.VmMatches'. -/
def vmMatchesUptoCard : Claim7 := { stood := { row := vmMatchesUptoRow, standIns := [], harness := (true, "cf0229b8350d8c69ed618257b6d58431f90c0b1ef24ace3153b55d0874cc45a1"), looks := true }, kinds := [], alts := [], laidByText := true, laidKinds := [.handle], laidTests := true, laidLooks := .later }
def VmMatchesUptoCardSaid : Prop := Claim7.holds Tryd.pinned (.plain (OpenSpec.upto vmMatchesSpec)) vmMatchesUptoCard

/-- THE SECOND FORM's CARD OF 'caesurakeep.VmMore'. -/
def vmMoreUptoCard : Claim7 := { stood := { row := vmMoreUptoRow, standIns := [], harness := (true, "cf0229b8350d8c69ed618257b6d58431f90c0b1ef24ace3153b55d0874cc45a1"), looks := true }, kinds := [], alts := [], laidByText := true, laidKinds := [.handle], laidTests := true, laidLooks := .later }
def VmMoreUptoCardSaid : Prop := Claim7.holds Tryd.pinned (.plain (OpenSpec.upto vmMoreSpec)) vmMoreUptoCard
end Rows
end Go.Proofs.YtddjppkpgflbjaaDoor
