/-
  DERIVED. GIVEN WITH THE SEED: THE CARDS: each row of YtnljibmdcknmeabDoorRows.lean that lists a variable, with what it lists TIED to the program's text (the seventh form; the later family's looks); each row that meets fmt, with fmt's text TOLD by the authors' own Lean function (tested against real Go, not proved from fmt's source: count such statements apart). THE CARD IS WHAT COUNTS. Prove the row's statement (the work); the ties are given (YtnljibmdcknmeabDoorTie.lean); close each card by the builder's one call (the guide's Derived/Test/ToyasCard.lean, 'card_holds'). Laid BY PROGRAM, IN A SANDBOX (cutbox-door.mjs). By AI agents, Wed Nov 11 2026. No macro, syntax, notation, axiom, sorry.
-/
import Derived.Test.YtnljibmdcknmeabDoorRows
import GoSem.ClaimSeven
namespace Go.Proofs.YtnljibmdcknmeabDoor
namespace Rows

/-- THE TIED CARD OF 'parrellaw06.VotesParts'. -/
def votesPartsCard : Claim7 := { stood := { row := votesPartsRow, standIns := [], harness := (true, "3cac9df57f5c3e651f42e7ba7182613ab94d9939b958013ca57c087e25ac73a6"), looks := false }, kinds := [], alts := [], laidByText := true, laidKinds := [.data], laidTests := true, laidLooks := .later }
def VotesPartsCardSaid : Prop := Claim7.holds Tryd.pinned (.plain (OpenSpec.ofChange votesPartsSpec)) votesPartsCard

/-- THE TIED CARD OF 'parrellaw06.VotesAll'. -/
def votesAllCard : Claim7 := { stood := { row := votesAllRow, standIns := [], harness := (true, "3cac9df57f5c3e651f42e7ba7182613ab94d9939b958013ca57c087e25ac73a6"), looks := false }, kinds := [], alts := [], laidByText := true, laidKinds := [.data], laidTests := true, laidLooks := .later }
def VotesAllCardSaid : Prop := Claim7.holds Tryd.pinned (.plain (OpenSpec.ofChange votesAllSpec)) votesAllCard

/-- THE TIED CARD OF 'parrellaw06.VotesBack'. -/
def votesBackCard : Claim7 := { stood := { row := votesBackRow, standIns := [], harness := (true, "3cac9df57f5c3e651f42e7ba7182613ab94d9939b958013ca57c087e25ac73a6"), looks := false }, kinds := [], alts := [], laidByText := true, laidKinds := [.data], laidTests := true, laidLooks := .later }
def VotesBackCardSaid : Prop := Claim7.holds Tryd.pinned (.plain (OpenSpec.ofChange votesBackSpec)) votesBackCard

/-- THE SECOND FORM's CARD OF 'parrellaw06.VotesParts'. -/
def votesPartsUptoCard : Claim7 := { stood := { row := votesPartsUptoRow, standIns := [], harness := (true, "3cac9df57f5c3e651f42e7ba7182613ab94d9939b958013ca57c087e25ac73a6"), looks := false }, kinds := [], alts := [], laidByText := true, laidKinds := [.data], laidTests := true, laidLooks := .later }
def VotesPartsUptoCardSaid : Prop := Claim7.holds Tryd.pinned (.plain (OpenSpec.upto votesPartsSpec)) votesPartsUptoCard

/-- THE SECOND FORM's CARD OF 'parrellaw06.VotesAll'. -/
def votesAllUptoCard : Claim7 := { stood := { row := votesAllUptoRow, standIns := [], harness := (true, "3cac9df57f5c3e651f42e7ba7182613ab94d9939b958013ca57c087e25ac73a6"), looks := false }, kinds := [], alts := [], laidByText := true, laidKinds := [.data], laidTests := true, laidLooks := .later }
def VotesAllUptoCardSaid : Prop := Claim7.holds Tryd.pinned (.plain (OpenSpec.upto votesAllSpec)) votesAllUptoCard

/-- THE SECOND FORM's CARD OF 'parrellaw06.VotesBack'. -/
def votesBackUptoCard : Claim7 := { stood := { row := votesBackUptoRow, standIns := [], harness := (true, "3cac9df57f5c3e651f42e7ba7182613ab94d9939b958013ca57c087e25ac73a6"), looks := false }, kinds := [], alts := [], laidByText := true, laidKinds := [.data], laidTests := true, laidLooks := .later }
def VotesBackUptoCardSaid : Prop := Claim7.holds Tryd.pinned (.plain (OpenSpec.upto votesBackSpec)) votesBackUptoCard
end Rows
end Go.Proofs.YtnljibmdcknmeabDoor
