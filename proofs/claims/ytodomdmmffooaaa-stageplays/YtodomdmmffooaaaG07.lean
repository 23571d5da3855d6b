/-
  Own texts put together: MgPlain, MgFacts. Own work.
-/
import Derived.Test.YtodomdmmffooaaaG02
import Derived.Test.YtodomdmmffooaaaG06
namespace Go.Proofs.Ytodomdmmffooaaa
section
open Go

abbrev mxN : Nat := 2147483647
/-- An item, a write, a message. -/
structure ItP where
  ver : Nat
  val : List Int
  cf : Cf
structure WrP where
  key : List Int
  it : ItP
abbrev TxN := Nat × Nat × Nat
structure MsgP where
  kind : Nat
  tx : TxN
  time : Nat
  reg : Nat × Nat
  key : List Int
  mode : Nat
  no : Nat
  why : Nat
  yes : Nat
  item : ItP
  wr : List WrP
def zeroCf : Cf := ⟨0, 0, 0, [0, 0, 0, 0, 0, 0, 0, 0]⟩
def zeroIt : ItP := ⟨0, [], zeroCf⟩
end
section
open Go

def itMayB (i : ItP) : Bool := decide (i.ver ≤ mxN) && decide (i.val.length ≤ 64) && mayB i.cf
def riseB : List (List Int) → Bool
  | a :: b :: l => decide (lexF a b < 0) && riseB (b :: l)
  | _ => true
def wsMayB (l : List WrP) : Bool := l.all (fun w => (nameF w.key).2 && itMayB w.it) && riseB (l.map WrP.key) && decide (l.length ≤ 16)
def txI (t : TxN) : TxP := ((t.1 : Int), (t.2.1 : Int), (t.2.2 : Int))
/-- Its numbers fit their types. -/
structure ItOk (i : ItP) : Prop where
  v : i.ver < 4294967296
  s : ∀ c ∈ i.val, 0 ≤ c ∧ c < 256
  c : i.cf.Ok
structure KeyOk (k : List Int) : Prop where
  l : k.length = 8
  b : ∀ c ∈ k, 0 ≤ c ∧ c < 256
end
end Go.Proofs.Ytodomdmmffooaaa
