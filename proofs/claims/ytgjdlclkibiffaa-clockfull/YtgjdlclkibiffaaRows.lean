/-
  No cell of these rows narrows 'for every input' (looked for: loops, veiled, ifaces, maps, wideKeys, modest, calm, conditions, laid).
  DERIVED. THE GIVEN ROWS OF THIS SEAT. 5 by the template 'for every input the law returns true; each argument reads behind the call as it read before'; 0 by the template 'total and deterministic' (their statements: YtgjdlclkibiffaaTotals.lean).
  GIVEN WITH THE SEED: the statements are not yours to turn. If you find one false, say at which input.
  Laid BY PROGRAM, IN A SANDBOX (cutbox-rows.mjs): the forced cells as the released guide's own fill.sh prints them over the translation 2e6e39c30fc1e3af… (all of the seat's roots in one cut). By AI agents, Wed Nov 11 2026. No macro, syntax, notation, axiom, sorry.
-/
import Derived.Test.YtgjdlclkibiffaaChecked
import GoSem.Claim
import GoSem.ClaimJoined
import GoSem.ClaimMapViews
import Derived.JoinedTies
import Derived.KernelRfl
namespace Go.Proofs.Ytgjdlclkibiffaa
/- THE CELL 'sum', in the pinned program and in every row, IS THE sha256 OF THE DUMP (.gsa) THAT YtgjdlclkibiffaaProg.lean LOADS. Nothing in Lean hashes anything: it is a label: what it is worth is what the hold of that sum in a sandbox is worth. -/
noncomputable def Try.pinned : Pinned := { name := "ytgjdlclkibiffaa", sum := "2e6e39c30fc1e3af7824b8fca4f3d31c876d0893dbbfcf149b68b00bffb6e131", checked := Try.checked }
namespace Rows
def none {H : Type} : Left H := { results := [], args := [] }

/-- 'parrellaw09.ClockPlays': WHATEVER THE INPUT: true; the input reads as it did. -/
def clockPlaysSpec : ChangeSpec := { name := "clockPlays", fn := fun _ => fun
  | [d] => { results := [.lit (.bool true)], args := [d] }
  | _ => none }
def clockPlaysRow : OpenClaim := { program := "ytgjdlclkibiffaa", sum := "2e6e39c30fc1e3af7824b8fca4f3d31c876d0893dbbfcf149b68b00bffb6e131", func := "parrel/parrellaw09.ClockPlays", spec := "clockPlays", inPlace := ["slices.overlaps[parrel/clock.timer]"], unfollowed := true, recurses := true, plainKeys := false, apart := false }
def ClockPlaysSaid : Prop := clockPlaysRow.holds Try.pinned (OpenSpec.ofChange clockPlaysSpec)

/-- ITS FALSE NEIGHBOUR: 'it returns false'. Refute it at one input. -/
def clockPlaysWrong : ChangeSpec := { name := "clockPlays", fn := fun _ => fun
  | [d] => { results := [.lit (.bool false)], args := [d] }
  | _ => none }
def ClockPlaysWrongFalsely : Prop := clockPlaysRow.holds Try.pinned (OpenSpec.ofChange clockPlaysWrong)

/-- 'parrellaw09.ClockRings': WHATEVER THE INPUT: true; the input reads as it did. -/
def clockRingsSpec : ChangeSpec := { name := "clockRings", fn := fun _ => fun
  | [d1, d2, d3] => { results := [.lit (.bool true)], args := [d1, d2, d3] }
  | _ => none }
def clockRingsRow : OpenClaim := { program := "ytgjdlclkibiffaa", sum := "2e6e39c30fc1e3af7824b8fca4f3d31c876d0893dbbfcf149b68b00bffb6e131", func := "parrel/parrellaw09.ClockRings", spec := "clockRings", inPlace := ["slices.overlaps[parrel/clock.timer]"], unfollowed := true, recurses := true, plainKeys := false, apart := false }
def ClockRingsSaid : Prop := clockRingsRow.holds Try.pinned (OpenSpec.ofChange clockRingsSpec)

/-- ITS FALSE NEIGHBOUR: 'it returns false'. Refute it at one input. -/
def clockRingsWrong : ChangeSpec := { name := "clockRings", fn := fun _ => fun
  | [d1, d2, d3] => { results := [.lit (.bool false)], args := [d1, d2, d3] }
  | _ => none }
def ClockRingsWrongFalsely : Prop := clockRingsRow.holds Try.pinned (OpenSpec.ofChange clockRingsWrong)

/-- 'parrellaw09.ClockNext': WHATEVER THE INPUT: true; the input reads as it did. -/
def clockNextSpec : ChangeSpec := { name := "clockNext", fn := fun _ => fun
  | [d] => { results := [.lit (.bool true)], args := [d] }
  | _ => none }
def clockNextRow : OpenClaim := { program := "ytgjdlclkibiffaa", sum := "2e6e39c30fc1e3af7824b8fca4f3d31c876d0893dbbfcf149b68b00bffb6e131", func := "parrel/parrellaw09.ClockNext", spec := "clockNext", inPlace := ["slices.overlaps[parrel/clock.timer]"], unfollowed := true, recurses := true, plainKeys := false, apart := false }
def ClockNextSaid : Prop := clockNextRow.holds Try.pinned (OpenSpec.ofChange clockNextSpec)

/-- ITS FALSE NEIGHBOUR: 'it returns false'. Refute it at one input. -/
def clockNextWrong : ChangeSpec := { name := "clockNext", fn := fun _ => fun
  | [d] => { results := [.lit (.bool false)], args := [d] }
  | _ => none }
def ClockNextWrongFalsely : Prop := clockNextRow.holds Try.pinned (OpenSpec.ofChange clockNextWrong)

/-- 'parrellaw09.ClockApart': WHATEVER THE INPUT: true; the input reads as it did. -/
def clockApartSpec : ChangeSpec := { name := "clockApart", fn := fun _ => fun
  | [d1, d2, d3] => { results := [.lit (.bool true)], args := [d1, d2, d3] }
  | _ => none }
def clockApartRow : OpenClaim := { program := "ytgjdlclkibiffaa", sum := "2e6e39c30fc1e3af7824b8fca4f3d31c876d0893dbbfcf149b68b00bffb6e131", func := "parrel/parrellaw09.ClockApart", spec := "clockApart", inPlace := ["slices.overlaps[parrel/clock.timer]"], unfollowed := true, recurses := true, plainKeys := false, apart := false }
def ClockApartSaid : Prop := clockApartRow.holds Try.pinned (OpenSpec.ofChange clockApartSpec)

/-- ITS FALSE NEIGHBOUR: 'it returns false'. Refute it at one input. -/
def clockApartWrong : ChangeSpec := { name := "clockApart", fn := fun _ => fun
  | [d1, d2, d3] => { results := [.lit (.bool false)], args := [d1, d2, d3] }
  | _ => none }
def ClockApartWrongFalsely : Prop := clockApartRow.holds Try.pinned (OpenSpec.ofChange clockApartWrong)

/-- 'parrellaw09.ClockFull': WHATEVER THE INPUT: true; the input reads as it did. -/
def clockFullSpec : ChangeSpec := { name := "clockFull", fn := fun _ => fun
  | [d1, d2] => { results := [.lit (.bool true)], args := [d1, d2] }
  | _ => none }
def clockFullRow : OpenClaim := { program := "ytgjdlclkibiffaa", sum := "2e6e39c30fc1e3af7824b8fca4f3d31c876d0893dbbfcf149b68b00bffb6e131", func := "parrel/parrellaw09.ClockFull", spec := "clockFull", inPlace := ["slices.overlaps[parrel/clock.timer]"], unfollowed := true, recurses := true, plainKeys := false, apart := false }
def ClockFullSaid : Prop := clockFullRow.holds Try.pinned (OpenSpec.ofChange clockFullSpec)

/-- ITS FALSE NEIGHBOUR: 'it returns false'. Refute it at one input. -/
def clockFullWrong : ChangeSpec := { name := "clockFull", fn := fun _ => fun
  | [d1, d2] => { results := [.lit (.bool false)], args := [d1, d2] }
  | _ => none }
def ClockFullWrongFalsely : Prop := clockFullRow.holds Try.pinned (OpenSpec.ofChange clockFullWrong)

/- THE SECOND FORM. 'bulk': how many values and letters a reading holds, each counted each time it is reached (what is shared counts as often as it is met; a slice's spare places count too). A statement '..UptoSaid' is the law's where the arguments, and the package variables that the reading takes, are together of bulk at most 1048576: NARROWER than '..Said'. Prove '..Said' where nothing that the law and all that it calls make is longer than what came in: it says more and counts as full. Else prove '..UptoSaid'. A law counts once. -/
mutual
def uptoBulk {H : Type} : DataW H → Nat
  | .lit (.string bytes) => bytes.length + 1
  | .lit _ => 1
  | .nil => 1
  | .ptr d => uptoBulk d + 1
  | .slice elems spare => uptoBulkAll elems + uptoBulkAll spare + 1
  | .agg parts => uptoBulkAll parts + 1
  | .iface _ d => uptoBulk d + 1
  | .map entries => uptoBulkEntries entries + 1
  | .held _ => 1
def uptoBulkAll {H : Type} : List (DataW H) → Nat
  | [] => 0
  | d :: r => uptoBulk d + uptoBulkAll r
def uptoBulkEntries {H : Type} : List (Lit × DataW H) → Nat
  | [] => 0
  | x :: r => uptoBulkEntry x + uptoBulkEntries r
def uptoBulkEntry {H : Type} : Lit × DataW H → Nat
  | (.string bytes, d) => bytes.length + uptoBulk d + 1
  | (_, d) => uptoBulk d + 1
 end
def uptoSmall : (H : Type) → List (DataW H) → Bool := fun _ ds => decide (uptoBulkAll ds ≤ 1048576)
def OpenSpec.upto (s : _root_.Go.ChangeSpec) : _root_.Go.OpenSpec := { _root_.Go.OpenSpec.ofChange s with cond := some uptoSmall }

/-- 'parrellaw09.ClockPlays', WHERE WHAT IT READS IS OF BULK AT MOST 1048576: true; the input reads as it did. -/
def clockPlaysUptoRow : OpenClaim := { program := "ytgjdlclkibiffaa", sum := "2e6e39c30fc1e3af7824b8fca4f3d31c876d0893dbbfcf149b68b00bffb6e131", func := "parrel/parrellaw09.ClockPlays", spec := "clockPlays", inPlace := ["slices.overlaps[parrel/clock.timer]"], unfollowed := true, recurses := true, plainKeys := false, apart := false, narrowed := true }
def ClockPlaysUptoSaid : Prop := clockPlaysUptoRow.holds Try.pinned (OpenSpec.upto clockPlaysSpec)

/-- 'parrellaw09.ClockRings', WHERE WHAT IT READS IS OF BULK AT MOST 1048576: true; the input reads as it did. -/
def clockRingsUptoRow : OpenClaim := { program := "ytgjdlclkibiffaa", sum := "2e6e39c30fc1e3af7824b8fca4f3d31c876d0893dbbfcf149b68b00bffb6e131", func := "parrel/parrellaw09.ClockRings", spec := "clockRings", inPlace := ["slices.overlaps[parrel/clock.timer]"], unfollowed := true, recurses := true, plainKeys := false, apart := false, narrowed := true }
def ClockRingsUptoSaid : Prop := clockRingsUptoRow.holds Try.pinned (OpenSpec.upto clockRingsSpec)

/-- 'parrellaw09.ClockNext', WHERE WHAT IT READS IS OF BULK AT MOST 1048576: true; the input reads as it did. -/
def clockNextUptoRow : OpenClaim := { program := "ytgjdlclkibiffaa", sum := "2e6e39c30fc1e3af7824b8fca4f3d31c876d0893dbbfcf149b68b00bffb6e131", func := "parrel/parrellaw09.ClockNext", spec := "clockNext", inPlace := ["slices.overlaps[parrel/clock.timer]"], unfollowed := true, recurses := true, plainKeys := false, apart := false, narrowed := true }
def ClockNextUptoSaid : Prop := clockNextUptoRow.holds Try.pinned (OpenSpec.upto clockNextSpec)

/-- 'parrellaw09.ClockApart', WHERE WHAT IT READS IS OF BULK AT MOST 1048576: true; the input reads as it did. -/
def clockApartUptoRow : OpenClaim := { program := "ytgjdlclkibiffaa", sum := "2e6e39c30fc1e3af7824b8fca4f3d31c876d0893dbbfcf149b68b00bffb6e131", func := "parrel/parrellaw09.ClockApart", spec := "clockApart", inPlace := ["slices.overlaps[parrel/clock.timer]"], unfollowed := true, recurses := true, plainKeys := false, apart := false, narrowed := true }
def ClockApartUptoSaid : Prop := clockApartUptoRow.holds Try.pinned (OpenSpec.upto clockApartSpec)

/-- 'parrellaw09.ClockFull', WHERE WHAT IT READS IS OF BULK AT MOST 1048576: true; the input reads as it did. -/
def clockFullUptoRow : OpenClaim := { program := "ytgjdlclkibiffaa", sum := "2e6e39c30fc1e3af7824b8fca4f3d31c876d0893dbbfcf149b68b00bffb6e131", func := "parrel/parrellaw09.ClockFull", spec := "clockFull", inPlace := ["slices.overlaps[parrel/clock.timer]"], unfollowed := true, recurses := true, plainKeys := false, apart := false, narrowed := true }
def ClockFullUptoSaid : Prop := clockFullUptoRow.holds Try.pinned (OpenSpec.upto clockFullSpec)

end Rows
end Go.Proofs.Ytgjdlclkibiffaa
