/-
  No cell of these rows narrows 'for every input' (looked for: loops, veiled, ifaces, maps, wideKeys, modest, calm, conditions, laid).
  DERIVED. THE GIVEN ROWS OF THIS SEAT. 6 by the template 'for every input the law returns true; each argument reads behind the call as it read before'; 0 by the template 'total and deterministic' (their statements: YtkdccigcpcchlaaTotals.lean).
  GIVEN WITH THE SEED: the statements are not yours to turn. If you find one false, say at which input.
  Laid BY PROGRAM, IN A SANDBOX (cutbox-rows.mjs): the forced cells as the released guide's own fill.sh prints them over the translation 889f06ef0b3134bb… (all of the seat's roots in one cut). By AI agents, Wed Nov 11 2026. No macro, syntax, notation, axiom, sorry.
-/
import Derived.Test.YtkdccigcpcchlaaChecked
import GoSem.Claim
import GoSem.ClaimJoined
import GoSem.ClaimMapViews
import Derived.JoinedTies
import Derived.KernelRfl
namespace Go.Proofs.Ytkdccigcpcchlaa
/- THE CELL 'sum', in the pinned program and in every row, IS THE sha256 OF THE DUMP (.gsa) THAT YtkdccigcpcchlaaProg.lean LOADS. Nothing in Lean hashes anything: it is a label: what it is worth is what the hold of that sum in a sandbox is worth. -/
noncomputable def Try.pinned : Pinned := { name := "ytkdccigcpcchlaa", sum := "889f06ef0b3134bb4f301eb8a9c3237469a637fd18ef31d17b73f402132fbe5a", checked := Try.checked }
namespace Rows
def none {H : Type} : Left H := { results := [], args := [] }

/-- 'parrellaw05.IdsKeys': WHATEVER THE INPUT: true; the input reads as it did. -/
def idsKeysSpec : ChangeSpec := { name := "idsKeys", fn := fun _ => fun
  | [d1, d2] => { results := [.lit (.bool true)], args := [d1, d2] }
  | _ => none }
def idsKeysRow : OpenClaim := { program := "ytkdccigcpcchlaa", sum := "889f06ef0b3134bb4f301eb8a9c3237469a637fd18ef31d17b73f402132fbe5a", func := "parrel/parrellaw05.IdsKeys", spec := "idsKeys", inPlace := ["internal/bytealg.IndexByteString", "internal/bytealg.IndexByte", "internal/bytealg.Index"], named := ["internal/bytealg.MaxLen"], plainKeys := false, apart := false }
def IdsKeysSaid : Prop := idsKeysRow.holds Try.pinned (OpenSpec.ofChange idsKeysSpec)

/-- ITS FALSE NEIGHBOUR: 'it returns false'. Refute it at one input. -/
def idsKeysWrong : ChangeSpec := { name := "idsKeys", fn := fun _ => fun
  | [d1, d2] => { results := [.lit (.bool false)], args := [d1, d2] }
  | _ => none }
def IdsKeysWrongFalsely : Prop := idsKeysRow.holds Try.pinned (OpenSpec.ofChange idsKeysWrong)

/-- 'parrellaw05.IdsMay': WHATEVER THE INPUT: true; the input reads as it did. -/
def idsMaySpec : ChangeSpec := { name := "idsMay", fn := fun _ => fun
  | [d1, d2] => { results := [.lit (.bool true)], args := [d1, d2] }
  | _ => none }
def idsMayRow : OpenClaim := { program := "ytkdccigcpcchlaa", sum := "889f06ef0b3134bb4f301eb8a9c3237469a637fd18ef31d17b73f402132fbe5a", func := "parrel/parrellaw05.IdsMay", spec := "idsMay", inPlace := ["internal/bytealg.IndexByteString"], plainKeys := false, apart := false }
def IdsMaySaid : Prop := idsMayRow.holds Try.pinned (OpenSpec.ofChange idsMaySpec)

/-- ITS FALSE NEIGHBOUR: 'it returns false'. Refute it at one input. -/
def idsMayWrong : ChangeSpec := { name := "idsMay", fn := fun _ => fun
  | [d1, d2] => { results := [.lit (.bool false)], args := [d1, d2] }
  | _ => none }
def IdsMayWrongFalsely : Prop := idsMayRow.holds Try.pinned (OpenSpec.ofChange idsMayWrong)

/-- 'parrellaw05.IdsOrder': WHATEVER THE INPUT: true; the input reads as it did. -/
def idsOrderSpec : ChangeSpec := { name := "idsOrder", fn := fun _ => fun
  | [d1, d2, d3] => { results := [.lit (.bool true)], args := [d1, d2, d3] }
  | _ => none }
def idsOrderRow : OpenClaim := { program := "ytkdccigcpcchlaa", sum := "889f06ef0b3134bb4f301eb8a9c3237469a637fd18ef31d17b73f402132fbe5a", func := "parrel/parrellaw05.IdsOrder", spec := "idsOrder", inPlace := ["internal/bytealg.Compare", "internal/bytealg.IndexByteString"], plainKeys := false, apart := false }
def IdsOrderSaid : Prop := idsOrderRow.holds Try.pinned (OpenSpec.ofChange idsOrderSpec)

/-- ITS FALSE NEIGHBOUR: 'it returns false'. Refute it at one input. -/
def idsOrderWrong : ChangeSpec := { name := "idsOrder", fn := fun _ => fun
  | [d1, d2, d3] => { results := [.lit (.bool false)], args := [d1, d2, d3] }
  | _ => none }
def IdsOrderWrongFalsely : Prop := idsOrderRow.holds Try.pinned (OpenSpec.ofChange idsOrderWrong)

/-- 'parrellaw05.IdsWrites': WHATEVER THE INPUT: true; the input reads as it did. -/
def idsWritesSpec : ChangeSpec := { name := "idsWrites", fn := fun _ => fun
  | [d1, d2, d3] => { results := [.lit (.bool true)], args := [d1, d2, d3] }
  | _ => none }
def idsWritesRow : OpenClaim := { program := "ytkdccigcpcchlaa", sum := "889f06ef0b3134bb4f301eb8a9c3237469a637fd18ef31d17b73f402132fbe5a", func := "parrel/parrellaw05.IdsWrites", spec := "idsWrites", inPlace := ["internal/bytealg.IndexByteString"], unfollowed := true, recurses := true, plainKeys := false, apart := false }
def IdsWritesSaid : Prop := idsWritesRow.holds Try.pinned (OpenSpec.ofChange idsWritesSpec)

/-- ITS FALSE NEIGHBOUR: 'it returns false'. Refute it at one input. -/
def idsWritesWrong : ChangeSpec := { name := "idsWrites", fn := fun _ => fun
  | [d1, d2, d3] => { results := [.lit (.bool false)], args := [d1, d2, d3] }
  | _ => none }
def IdsWritesWrongFalsely : Prop := idsWritesRow.holds Try.pinned (OpenSpec.ofChange idsWritesWrong)

/-- 'parrellaw05.IdsSets': WHATEVER THE INPUT: true; the input reads as it did. -/
def idsSetsSpec : ChangeSpec := { name := "idsSets", fn := fun _ => fun
  | [d] => { results := [.lit (.bool true)], args := [d] }
  | _ => none }
def idsSetsRow : OpenClaim := { program := "ytkdccigcpcchlaa", sum := "889f06ef0b3134bb4f301eb8a9c3237469a637fd18ef31d17b73f402132fbe5a", func := "parrel/parrellaw05.IdsSets", spec := "idsSets", inPlace := ["internal/bytealg.IndexByteString"], unfollowed := true, recurses := true, plainKeys := false, apart := false }
def IdsSetsSaid : Prop := idsSetsRow.holds Try.pinned (OpenSpec.ofChange idsSetsSpec)

/-- ITS FALSE NEIGHBOUR: 'it returns false'. Refute it at one input. -/
def idsSetsWrong : ChangeSpec := { name := "idsSets", fn := fun _ => fun
  | [d] => { results := [.lit (.bool false)], args := [d] }
  | _ => none }
def IdsSetsWrongFalsely : Prop := idsSetsRow.holds Try.pinned (OpenSpec.ofChange idsSetsWrong)

/-- 'parrellaw05.IdsNames': WHATEVER THE INPUT: true; the input reads as it did. -/
def idsNamesSpec : ChangeSpec := { name := "idsNames", fn := fun _ => fun
  | [d1, d2] => { results := [.lit (.bool true)], args := [d1, d2] }
  | _ => none }
def idsNamesRow : OpenClaim := { program := "ytkdccigcpcchlaa", sum := "889f06ef0b3134bb4f301eb8a9c3237469a637fd18ef31d17b73f402132fbe5a", func := "parrel/parrellaw05.IdsNames", spec := "idsNames", inPlace := ["internal/bytealg.IndexByteString", "internal/bytealg.IndexByte", "internal/bytealg.Index"], named := ["internal/bytealg.MaxLen"], plainKeys := false, apart := false }
def IdsNamesSaid : Prop := idsNamesRow.holds Try.pinned (OpenSpec.ofChange idsNamesSpec)

/-- ITS FALSE NEIGHBOUR: 'it returns false'. Refute it at one input. -/
def idsNamesWrong : ChangeSpec := { name := "idsNames", fn := fun _ => fun
  | [d1, d2] => { results := [.lit (.bool false)], args := [d1, d2] }
  | _ => none }
def IdsNamesWrongFalsely : Prop := idsNamesRow.holds Try.pinned (OpenSpec.ofChange idsNamesWrong)

/- THE SECOND FORM. 'bulk': how many values and letters a reading holds, each counted each time it is reached (what is shared counts as often as it is met; a slice's spare places count too). A statement '..UptoSaid' is the law's where the arguments, and the package variables that the reading takes, are together of bulk at most 1048576: NARROWER than '..Said'. Prove '..Said' where nothing that the law and all that it calls make is longer than what came in: it says more and counts as full. Else prove '..UptoSaid'. A law counts once. -/
mutual
def uptoBulk {H : Type} : DataW H → Nat
  | .lit (.string bytes) => bytes.length + 1
  | .lit _ => 1
  | .nil => 1
  | .ptr d => uptoBulk d + 1
  | .slice elems spare => uptoBulkAll elems + uptoBulkAll spare + 1
  | .agg parts => uptoBulkAll parts + 1
  | .iface _ d => uptoBulk d + 1
  | .map entries => uptoBulkEntries entries + 1
  | .held _ => 1
def uptoBulkAll {H : Type} : List (DataW H) → Nat
  | [] => 0
  | d :: r => uptoBulk d + uptoBulkAll r
def uptoBulkEntries {H : Type} : List (Lit × DataW H) → Nat
  | [] => 0
  | x :: r => uptoBulkEntry x + uptoBulkEntries r
def uptoBulkEntry {H : Type} : Lit × DataW H → Nat
  | (.string bytes, d) => bytes.length + uptoBulk d + 1
  | (_, d) => uptoBulk d + 1
 end
def uptoSmall : (H : Type) → List (DataW H) → Bool := fun _ ds => decide (uptoBulkAll ds ≤ 1048576)
def OpenSpec.upto (s : _root_.Go.ChangeSpec) : _root_.Go.OpenSpec := { _root_.Go.OpenSpec.ofChange s with cond := some uptoSmall }

/-- 'parrellaw05.IdsKeys', WHERE WHAT IT READS IS OF BULK AT MOST 1048576: true; the input reads as it did. -/
def idsKeysUptoRow : OpenClaim := { program := "ytkdccigcpcchlaa", sum := "889f06ef0b3134bb4f301eb8a9c3237469a637fd18ef31d17b73f402132fbe5a", func := "parrel/parrellaw05.IdsKeys", spec := "idsKeys", inPlace := ["internal/bytealg.IndexByteString", "internal/bytealg.IndexByte", "internal/bytealg.Index"], named := ["internal/bytealg.MaxLen"], plainKeys := false, apart := false, narrowed := true }
def IdsKeysUptoSaid : Prop := idsKeysUptoRow.holds Try.pinned (OpenSpec.upto idsKeysSpec)

/-- 'parrellaw05.IdsMay', WHERE WHAT IT READS IS OF BULK AT MOST 1048576: true; the input reads as it did. -/
def idsMayUptoRow : OpenClaim := { program := "ytkdccigcpcchlaa", sum := "889f06ef0b3134bb4f301eb8a9c3237469a637fd18ef31d17b73f402132fbe5a", func := "parrel/parrellaw05.IdsMay", spec := "idsMay", inPlace := ["internal/bytealg.IndexByteString"], plainKeys := false, apart := false, narrowed := true }
def IdsMayUptoSaid : Prop := idsMayUptoRow.holds Try.pinned (OpenSpec.upto idsMaySpec)

/-- 'parrellaw05.IdsOrder', WHERE WHAT IT READS IS OF BULK AT MOST 1048576: true; the input reads as it did. -/
def idsOrderUptoRow : OpenClaim := { program := "ytkdccigcpcchlaa", sum := "889f06ef0b3134bb4f301eb8a9c3237469a637fd18ef31d17b73f402132fbe5a", func := "parrel/parrellaw05.IdsOrder", spec := "idsOrder", inPlace := ["internal/bytealg.Compare", "internal/bytealg.IndexByteString"], plainKeys := false, apart := false, narrowed := true }
def IdsOrderUptoSaid : Prop := idsOrderUptoRow.holds Try.pinned (OpenSpec.upto idsOrderSpec)

/-- 'parrellaw05.IdsWrites', WHERE WHAT IT READS IS OF BULK AT MOST 1048576: true; the input reads as it did. -/
def idsWritesUptoRow : OpenClaim := { program := "ytkdccigcpcchlaa", sum := "889f06ef0b3134bb4f301eb8a9c3237469a637fd18ef31d17b73f402132fbe5a", func := "parrel/parrellaw05.IdsWrites", spec := "idsWrites", inPlace := ["internal/bytealg.IndexByteString"], unfollowed := true, recurses := true, plainKeys := false, apart := false, narrowed := true }
def IdsWritesUptoSaid : Prop := idsWritesUptoRow.holds Try.pinned (OpenSpec.upto idsWritesSpec)

/-- 'parrellaw05.IdsSets', WHERE WHAT IT READS IS OF BULK AT MOST 1048576: true; the input reads as it did. -/
def idsSetsUptoRow : OpenClaim := { program := "ytkdccigcpcchlaa", sum := "889f06ef0b3134bb4f301eb8a9c3237469a637fd18ef31d17b73f402132fbe5a", func := "parrel/parrellaw05.IdsSets", spec := "idsSets", inPlace := ["internal/bytealg.IndexByteString"], unfollowed := true, recurses := true, plainKeys := false, apart := false, narrowed := true }
def IdsSetsUptoSaid : Prop := idsSetsUptoRow.holds Try.pinned (OpenSpec.upto idsSetsSpec)

/-- 'parrellaw05.IdsNames', WHERE WHAT IT READS IS OF BULK AT MOST 1048576: true; the input reads as it did. -/
def idsNamesUptoRow : OpenClaim := { program := "ytkdccigcpcchlaa", sum := "889f06ef0b3134bb4f301eb8a9c3237469a637fd18ef31d17b73f402132fbe5a", func := "parrel/parrellaw05.IdsNames", spec := "idsNames", inPlace := ["internal/bytealg.IndexByteString", "internal/bytealg.IndexByte", "internal/bytealg.Index"], named := ["internal/bytealg.MaxLen"], plainKeys := false, apart := false, narrowed := true }
def IdsNamesUptoSaid : Prop := idsNamesUptoRow.holds Try.pinned (OpenSpec.upto idsNamesSpec)

end Rows
end Go.Proofs.Ytkdccigcpcchlaa
