/-
  DERIVED. GIVEN WITH THE SEED: THE CARDS: each row of YtnljibmdcknmeaaDoorRows.lean that lists a variable, with what it lists TIED to the program's text (the seventh form; the later family's looks); each row that meets fmt, with fmt's text TOLD by the authors' own Lean function (tested against real Go, not proved from fmt's source: count such statements apart). THE CARD IS WHAT COUNTS. Prove the row's statement (the work); the ties are given (YtnljibmdcknmeaaDoorTie.lean); close each card by the builder's one call (the guide's Derived/Test/ToyasCard.lean, 'card_holds'). Laid BY PROGRAM, IN A SANDBOX (cutbox-door.mjs). By AI agents, Wed Nov 11 2026. No macro, syntax, notation, axiom, sorry.
-/
import Derived.Test.YtnljibmdcknmeaaDoorRows
import GoSem.ClaimSeven
namespace Go.Proofs.YtnljibmdcknmeaaDoor
namespace Rows

/-- THE TIED CARD OF 'parrellaw06.VotesMakes'. -/
def votesMakesCard : Claim7 := { stood := { row := votesMakesRow, standIns := [], harness := (true, "c96da36d0b3e29133252c7023b0295bc99712a7302425c566f488b8d258ac08a"), looks := false }, kinds := [], alts := [], laidByText := true, laidKinds := [.data], laidTests := true, laidLooks := .later }
def VotesMakesCardSaid : Prop := Claim7.holds Tryd.pinned (.plain (OpenSpec.ofChange votesMakesSpec)) votesMakesCard

/-- THE TIED CARD OF 'parrellaw06.VotesCounts'. -/
def votesCountsCard : Claim7 := { stood := { row := votesCountsRow, standIns := [], harness := (true, "c96da36d0b3e29133252c7023b0295bc99712a7302425c566f488b8d258ac08a"), looks := false }, kinds := [], alts := [], laidByText := true, laidKinds := [.data], laidTests := true, laidLooks := .later }
def VotesCountsCardSaid : Prop := Claim7.holds Tryd.pinned (.plain (OpenSpec.ofChange votesCountsSpec)) votesCountsCard

/-- THE TIED CARD OF 'parrellaw06.VotesQuorums'. -/
def votesQuorumsCard : Claim7 := { stood := { row := votesQuorumsRow, standIns := [], harness := (true, "c96da36d0b3e29133252c7023b0295bc99712a7302425c566f488b8d258ac08a"), looks := false }, kinds := [], alts := [], laidByText := true, laidKinds := [.data], laidTests := true, laidLooks := .later }
def VotesQuorumsCardSaid : Prop := Claim7.holds Tryd.pinned (.plain (OpenSpec.ofChange votesQuorumsSpec)) votesQuorumsCard

/-- THE TIED CARD OF 'parrellaw06.VotesAfter'. -/
def votesAfterCard : Claim7 := { stood := { row := votesAfterRow, standIns := [], harness := (true, "c96da36d0b3e29133252c7023b0295bc99712a7302425c566f488b8d258ac08a"), looks := false }, kinds := [], alts := [], laidByText := true, laidKinds := [.data], laidTests := true, laidLooks := .later }
def VotesAfterCardSaid : Prop := Claim7.holds Tryd.pinned (.plain (OpenSpec.ofChange votesAfterSpec)) votesAfterCard

/-- THE TIED CARD OF 'parrellaw06.VotesWrites'. -/
def votesWritesCard : Claim7 := { stood := { row := votesWritesRow, standIns := [], harness := (true, "c96da36d0b3e29133252c7023b0295bc99712a7302425c566f488b8d258ac08a"), looks := false }, kinds := [], alts := [], laidByText := true, laidKinds := [.data], laidTests := true, laidLooks := .later }
def VotesWritesCardSaid : Prop := Claim7.holds Tryd.pinned (.plain (OpenSpec.ofChange votesWritesSpec)) votesWritesCard

/-- THE TIED CARD OF 'parrellaw06.VotesMeet'. -/
def votesMeetCard : Claim7 := { stood := { row := votesMeetRow, standIns := [], harness := (true, "c96da36d0b3e29133252c7023b0295bc99712a7302425c566f488b8d258ac08a"), looks := false }, kinds := [], alts := [], laidByText := true, laidKinds := [.data], laidTests := true, laidLooks := .later }
def VotesMeetCardSaid : Prop := Claim7.holds Tryd.pinned (.plain (OpenSpec.ofChange votesMeetSpec)) votesMeetCard

/-- THE SECOND FORM's CARD OF 'parrellaw06.VotesMakes'. -/
def votesMakesUptoCard : Claim7 := { stood := { row := votesMakesUptoRow, standIns := [], harness := (true, "c96da36d0b3e29133252c7023b0295bc99712a7302425c566f488b8d258ac08a"), looks := false }, kinds := [], alts := [], laidByText := true, laidKinds := [.data], laidTests := true, laidLooks := .later }
def VotesMakesUptoCardSaid : Prop := Claim7.holds Tryd.pinned (.plain (OpenSpec.upto votesMakesSpec)) votesMakesUptoCard

/-- THE SECOND FORM's CARD OF 'parrellaw06.VotesCounts'. -/
def votesCountsUptoCard : Claim7 := { stood := { row := votesCountsUptoRow, standIns := [], harness := (true, "c96da36d0b3e29133252c7023b0295bc99712a7302425c566f488b8d258ac08a"), looks := false }, kinds := [], alts := [], laidByText := true, laidKinds := [.data], laidTests := true, laidLooks := .later }
def VotesCountsUptoCardSaid : Prop := Claim7.holds Tryd.pinned (.plain (OpenSpec.upto votesCountsSpec)) votesCountsUptoCard

/-- THE SECOND FORM's CARD OF 'parrellaw06.VotesQuorums'. -/
def votesQuorumsUptoCard : Claim7 := { stood := { row := votesQuorumsUptoRow, standIns := [], harness := (true, "c96da36d0b3e29133252c7023b0295bc99712a7302425c566f488b8d258ac08a"), looks := false }, kinds := [], alts := [], laidByText := true, laidKinds := [.data], laidTests := true, laidLooks := .later }
def VotesQuorumsUptoCardSaid : Prop := Claim7.holds Tryd.pinned (.plain (OpenSpec.upto votesQuorumsSpec)) votesQuorumsUptoCard

/-- THE SECOND FORM's CARD OF 'parrellaw06.VotesAfter'. -/
def votesAfterUptoCard : Claim7 := { stood := { row := votesAfterUptoRow, standIns := [], harness := (true, "c96da36d0b3e29133252c7023b0295bc99712a7302425c566f488b8d258ac08a"), looks := false }, kinds := [], alts := [], laidByText := true, laidKinds := [.data], laidTests := true, laidLooks := .later }
def VotesAfterUptoCardSaid : Prop := Claim7.holds Tryd.pinned (.plain (OpenSpec.upto votesAfterSpec)) votesAfterUptoCard

/-- THE SECOND FORM's CARD OF 'parrellaw06.VotesWrites'. -/
def votesWritesUptoCard : Claim7 := { stood := { row := votesWritesUptoRow, standIns := [], harness := (true, "c96da36d0b3e29133252c7023b0295bc99712a7302425c566f488b8d258ac08a"), looks := false }, kinds := [], alts := [], laidByText := true, laidKinds := [.data], laidTests := true, laidLooks := .later }
def VotesWritesUptoCardSaid : Prop := Claim7.holds Tryd.pinned (.plain (OpenSpec.upto votesWritesSpec)) votesWritesUptoCard

/-- THE SECOND FORM's CARD OF 'parrellaw06.VotesMeet'. -/
def votesMeetUptoCard : Claim7 := { stood := { row := votesMeetUptoRow, standIns := [], harness := (true, "c96da36d0b3e29133252c7023b0295bc99712a7302425c566f488b8d258ac08a"), looks := false }, kinds := [], alts := [], laidByText := true, laidKinds := [.data], laidTests := true, laidLooks := .later }
def VotesMeetUptoCardSaid : Prop := Claim7.holds Tryd.pinned (.plain (OpenSpec.upto votesMeetSpec)) votesMeetUptoCard
end Rows
end Go.Proofs.YtnljibmdcknmeaaDoor
