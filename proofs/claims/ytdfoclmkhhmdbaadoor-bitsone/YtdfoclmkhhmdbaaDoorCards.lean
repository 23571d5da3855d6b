/-
  DERIVED. GIVEN WITH THE SEED: THE CARDS: each row of YtdfoclmkhhmdbaaDoorRows.lean that lists a variable, with what it lists TIED to the program's text (the seventh form; the later family's looks); each row that meets fmt, with fmt's text TOLD by the authors' own Lean function (tested against real Go, not proved from fmt's source: count such statements apart). THE CARD IS WHAT COUNTS. Prove the row's statement (the work); the ties are given (YtdfoclmkhhmdbaaDoorTie.lean); close each card by the builder's one call (the guide's Derived/Test/ToyasCard.lean, 'card_holds'). Laid BY PROGRAM, IN A SANDBOX (cutbox-door.mjs). By AI agents, Wed Nov 11 2026. No macro, syntax, notation, axiom, sorry.
-/
import Derived.Test.YtdfoclmkhhmdbaaDoorRows
import GoSem.ClaimSeven
namespace Go.Proofs.YtdfoclmkhhmdbaaDoor
namespace Rows

/-- THE TIED CARD OF 'parrellaw01.BitsBytes'. -/
def bitsBytesCard : Claim7 := { stood := { row := bitsBytesRow, standIns := [], harness := (true, "6202e37dc6c1b764912df55a1a138f2afb1418d8e672e8fcd33cc4d2cf67b987"), looks := false }, kinds := [], alts := [], laidByText := true, laidKinds := [.data], laidTests := true, laidLooks := .later }
def BitsBytesCardSaid : Prop := Claim7.holds Tryd.pinned (.plain (OpenSpec.ofChange bitsBytesSpec)) bitsBytesCard

/-- THE TIED CARD OF 'parrellaw01.BitsShorts'. -/
def bitsShortsCard : Claim7 := { stood := { row := bitsShortsRow, standIns := [], harness := (true, "6202e37dc6c1b764912df55a1a138f2afb1418d8e672e8fcd33cc4d2cf67b987"), looks := false }, kinds := [], alts := [], laidByText := true, laidKinds := [.data], laidTests := true, laidLooks := .later }
def BitsShortsCardSaid : Prop := Claim7.holds Tryd.pinned (.plain (OpenSpec.ofChange bitsShortsSpec)) bitsShortsCard

/-- THE TIED CARD OF 'parrellaw01.BitsFolds'. -/
def bitsFoldsCard : Claim7 := { stood := { row := bitsFoldsRow, standIns := [], harness := (true, "6202e37dc6c1b764912df55a1a138f2afb1418d8e672e8fcd33cc4d2cf67b987"), looks := false }, kinds := [], alts := [], laidByText := true, laidKinds := [.data], laidTests := true, laidLooks := .later }
def BitsFoldsCardSaid : Prop := Claim7.holds Tryd.pinned (.plain (OpenSpec.ofChange bitsFoldsSpec)) bitsFoldsCard

/-- THE TIED CARD OF 'parrellaw01.BitsSets'. -/
def bitsSetsCard : Claim7 := { stood := { row := bitsSetsRow, standIns := [], harness := (true, "6202e37dc6c1b764912df55a1a138f2afb1418d8e672e8fcd33cc4d2cf67b987"), looks := false }, kinds := [], alts := [], laidByText := true, laidKinds := [.data], laidTests := true, laidLooks := .later }
def BitsSetsCardSaid : Prop := Claim7.holds Tryd.pinned (.plain (OpenSpec.ofChange bitsSetsSpec)) bitsSetsCard

/-- THE TIED CARD OF 'parrellaw01.BitsBack'. -/
def bitsBackCard : Claim7 := { stood := { row := bitsBackRow, standIns := [], harness := (true, "6202e37dc6c1b764912df55a1a138f2afb1418d8e672e8fcd33cc4d2cf67b987"), looks := false }, kinds := [], alts := [], laidByText := true, laidKinds := [.data], laidTests := true, laidLooks := .later }
def BitsBackCardSaid : Prop := Claim7.holds Tryd.pinned (.plain (OpenSpec.ofChange bitsBackSpec)) bitsBackCard

/-- THE TIED CARD OF 'parrellaw01.BitsOne'. -/
def bitsOneCard : Claim7 := { stood := { row := bitsOneRow, standIns := [], harness := (true, "6202e37dc6c1b764912df55a1a138f2afb1418d8e672e8fcd33cc4d2cf67b987"), looks := false }, kinds := [], alts := [], laidByText := true, laidKinds := [.data], laidTests := true, laidLooks := .later }
def BitsOneCardSaid : Prop := Claim7.holds Tryd.pinned (.plain (OpenSpec.ofChange bitsOneSpec)) bitsOneCard

/-- THE SECOND FORM's CARD OF 'parrellaw01.BitsBytes'. -/
def bitsBytesUptoCard : Claim7 := { stood := { row := bitsBytesUptoRow, standIns := [], harness := (true, "6202e37dc6c1b764912df55a1a138f2afb1418d8e672e8fcd33cc4d2cf67b987"), looks := false }, kinds := [], alts := [], laidByText := true, laidKinds := [.data], laidTests := true, laidLooks := .later }
def BitsBytesUptoCardSaid : Prop := Claim7.holds Tryd.pinned (.plain (OpenSpec.upto bitsBytesSpec)) bitsBytesUptoCard

/-- THE SECOND FORM's CARD OF 'parrellaw01.BitsShorts'. -/
def bitsShortsUptoCard : Claim7 := { stood := { row := bitsShortsUptoRow, standIns := [], harness := (true, "6202e37dc6c1b764912df55a1a138f2afb1418d8e672e8fcd33cc4d2cf67b987"), looks := false }, kinds := [], alts := [], laidByText := true, laidKinds := [.data], laidTests := true, laidLooks := .later }
def BitsShortsUptoCardSaid : Prop := Claim7.holds Tryd.pinned (.plain (OpenSpec.upto bitsShortsSpec)) bitsShortsUptoCard

/-- THE SECOND FORM's CARD OF 'parrellaw01.BitsFolds'. -/
def bitsFoldsUptoCard : Claim7 := { stood := { row := bitsFoldsUptoRow, standIns := [], harness := (true, "6202e37dc6c1b764912df55a1a138f2afb1418d8e672e8fcd33cc4d2cf67b987"), looks := false }, kinds := [], alts := [], laidByText := true, laidKinds := [.data], laidTests := true, laidLooks := .later }
def BitsFoldsUptoCardSaid : Prop := Claim7.holds Tryd.pinned (.plain (OpenSpec.upto bitsFoldsSpec)) bitsFoldsUptoCard

/-- THE SECOND FORM's CARD OF 'parrellaw01.BitsSets'. -/
def bitsSetsUptoCard : Claim7 := { stood := { row := bitsSetsUptoRow, standIns := [], harness := (true, "6202e37dc6c1b764912df55a1a138f2afb1418d8e672e8fcd33cc4d2cf67b987"), looks := false }, kinds := [], alts := [], laidByText := true, laidKinds := [.data], laidTests := true, laidLooks := .later }
def BitsSetsUptoCardSaid : Prop := Claim7.holds Tryd.pinned (.plain (OpenSpec.upto bitsSetsSpec)) bitsSetsUptoCard

/-- THE SECOND FORM's CARD OF 'parrellaw01.BitsBack'. -/
def bitsBackUptoCard : Claim7 := { stood := { row := bitsBackUptoRow, standIns := [], harness := (true, "6202e37dc6c1b764912df55a1a138f2afb1418d8e672e8fcd33cc4d2cf67b987"), looks := false }, kinds := [], alts := [], laidByText := true, laidKinds := [.data], laidTests := true, laidLooks := .later }
def BitsBackUptoCardSaid : Prop := Claim7.holds Tryd.pinned (.plain (OpenSpec.upto bitsBackSpec)) bitsBackUptoCard

/-- THE SECOND FORM's CARD OF 'parrellaw01.BitsOne'. -/
def bitsOneUptoCard : Claim7 := { stood := { row := bitsOneUptoRow, standIns := [], harness := (true, "6202e37dc6c1b764912df55a1a138f2afb1418d8e672e8fcd33cc4d2cf67b987"), looks := false }, kinds := [], alts := [], laidByText := true, laidKinds := [.data], laidTests := true, laidLooks := .later }
def BitsOneUptoCardSaid : Prop := Claim7.holds Tryd.pinned (.plain (OpenSpec.upto bitsOneSpec)) bitsOneUptoCard
end Rows
end Go.Proofs.YtdfoclmkhhmdbaaDoor
