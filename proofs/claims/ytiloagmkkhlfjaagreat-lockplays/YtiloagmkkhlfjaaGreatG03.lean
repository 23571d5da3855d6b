/-
  Own texts put together: Pop, Bit, SetWalks, Withs, ListFacts, VtPlain, VtCfg. Own work.
-/
import Derived.Test.YtiloagmkkhlfjaaGreatG02
import Derived.Test.YtiloagmkkhlfjaaGreatG01
import Derived.Laws.Bits128
import Derived.Deep.MidRow
namespace Go.Proofs.YtiloagmkkhlfjaaGreat
section
open Go
def p1 (r : Nat) : Nat := (r / 2 &&& 0x55) + (r &&& 0x55)
def p2 (r : Nat) : Nat := (r / 4 &&& 0x33) + (r &&& 0x33)
def p3 (r : Nat) : Nat := (r / 16 + r) &&& 0x0f
def f1 (x p : Nat) : Nat := (x / 2 &&& p) + (x &&& p)
def f2 (x p : Nat) : Nat := (x / 4 &&& p) + (x &&& p)
def f3 (x p : Nat) : Nat := (x / 16 + x) &&& p
def cnt (n s : Nat) : Nat := ((List.range n).filter (fun i => s.testBit i)).length
end
section
open Go
def ofN (vs : List Nat) (s : Nat) : Nat → Nat
 | 0 => 0
 | k + 1 => ofN vs s k + (if s.testBit k then vs.getD k 0 else 0)
def totN (vs : List Nat) : Nat → Nat
 | 0 => 0
 | k + 1 => totN vs k + vs.getD k 0
def Part (a b : Nat) : Prop := ∀ i, a.testBit i = true → b.testBit i = true
theorem Part.trans {a b c : Nat} (h : Part a b) (h' : Part b c) : Part a c := fun i hi => h' i (h i hi)
theorem of_le (vs : List Nat) (a : Nat) : ∀ k, ofN vs a k ≤ totN vs k
 | 0 => Nat.le_refl _
 | k + 1 => by
  have := of_le vs a k
  rw [ofN, totN]
  split <;> omega
theorem tot_le (vs : List Nat) (m : Nat) (h : ∀ v ∈ vs, v ≤ m) : ∀ k, totN vs k ≤ m * k
 | 0 => Nat.le_refl _
 | k + 1 => by
  have := tot_le vs m h k
  have h1 : vs.getD k 0 ≤ m := by
   rw [List.getD_eq_getElem?_getD]
   cases hx : vs[k]? with
   | none => simp
   | some x => exact h x (List.mem_of_getElem? hx)
  rw [totN, Nat.mul_succ]
  omega
end
section
open Go.RowKit
structure Cf where
 e : Nat
 r : Nat
 w : Nat
 vs : List Nat
structure Cf.Ok (c : Cf) : Prop where
 e : c.e < 4294967296
 r : c.r < 256
 w : c.w < 256
 l : c.vs.length = 8
 v : ∀ v ∈ c.vs, v < 256
def votL (vs : List Nat) : List Value := vs.map fun (v : Nat) => Value.int .u8 (v : Int)
def Cf.cells (c : Cf) : List Value := .int .u32 (c.e : Int) :: .int .u8 (c.r : Int) :: .int .u8 (c.w : Int) :: votL c.vs
def Cf.arr (c : Cf) : Array Value := c.cells.toArray
theorem votL_len (vs : List Nat) : (votL vs).length = vs.length := by simp [votL]
theorem Cf.Ok.size {c : Cf} (h : c.Ok) : c.arr.size = 11 := by simp [Cf.arr, Cf.cells, votL_len, h.l]
theorem Cf.one (c : Cf) : c.arr.all (·.oneCell') = true := by simp [Cf.arr, Cf.cells, votL, Value.oneCell']
theorem Cf.Ok.at {c : Cf} (h : c.Ok) (k : Nat) : c.vs.getD k 0 < 256 := by
 rw [List.getD_eq_getElem?_getD]
 cases hx : c.vs[k]? with
 | none => simp
 | some x => exact h.v x (List.mem_of_getElem? hx)
theorem Cf.Ok.tot {c : Cf} (h : c.Ok) (k : Nat) : totN c.vs k ≤ 255 * k := tot_le c.vs 255 (fun v hv => by have := h.v v hv; omega) k
theorem Cf.Ok.of {c : Cf} (h : c.Ok) (s k : Nat) : ofN c.vs s k ≤ 255 * k := Nat.le_trans (of_le c.vs s k) (h.tot k)
end
end Go.Proofs.YtiloagmkkhlfjaaGreat
