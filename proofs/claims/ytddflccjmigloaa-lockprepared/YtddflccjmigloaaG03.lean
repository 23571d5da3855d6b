/-
  Own texts put together: VtRegion, Sets, Lists, Pop. Own work.
-/
import Derived.Test.YtddflccjmigloaaG01
import Derived.Test.YtddflccjmigloaaG02
import Derived.Orders
import Derived.Below
import Derived.RangeFuncBox
import Derived.RangeFuncLeaves
import Derived.Shelf.Abstract
import Derived.OwnWalkIn
import Derived.TacticsInMore
import Derived.LoopNIn
import Derived.LoopIn
import Derived.Deep.QuietTactic
import Derived.BigQuiet
namespace Go.Proofs.Ytddflccjmigloaa
section
open Go Go.RowKit

section
variable {P : Program} {md : Region.Mode} {ops : Array Oper} {Q : Exit → Act → World → Prop}

/-- Operation number i's temporary. -/
def dstOf (ops : Array Oper) (i : Nat) : Nat := ((ops[i]?).bind (·.dst)).getD 0
/-- What is known while the region runs. -/
structure Each (ops : Array Oper) (I : Nat → Value → World → Prop) (S : World → Prop) (a0 : Act) (listed : Array Bool) (a : Act) (w : World) : Prop where
  s : S w
  sz : a.tmps.size = a0.tmps.size
  df : a.defers = a0.defers
  old : ∀ t, (∀ j, j < ops.size → dstOf ops j ≠ t) → a.tmps.getD t undef = a0.tmps.getD t undef
  new : ∀ i, i < ops.size → listed.getD i true = true → I i (a.tmps.getD (dstOf ops i) undef) w

/-- What number i leaves. -/
def pv (ps : List (Nat × Value)) (i : Nat) : Value := (ps.getD i (0, undef)).2
end
end
section
open Go

theorem tb (k y i : Nat) : (2 ^ k * y).testBit i = (decide (k ≤ i) && y.testBit (i - k)) := by
  rw [Nat.mul_comm, Nat.testBit_mul_two_pow]
end
section
open Go.RowKit Go.Shelf
attribute [local go_sem] Oper.semAt_some

/-- The table of the library lies where its initialiser laid it. -/
def Tab (w : World) : Prop := ∀ j, j < 64 → w.cell? ⟨0, j, none⟩ = some (.int .u8 ((Lib.deBruijn64tab.getD j 0 : Nat) : Int))
theorem Tab.pos {w : World} (h : Tab w) : 0 < w.heap.size := by
  have h0 := h 0 (by decide)
  unfold World.cell? at h0
  rcases Nat.eq_zero_or_pos w.heap.size with hz | hz
  · have : w.heap[0]? = none := by simp [hz]
    simp [this] at h0
  · exact hz
theorem Tab.below {w w' : World} {B : Nat} (h : Tab w) (hB : Below B w w') (hp : 0 < B) : Tab w' :=
  fun j hj => (hB.cell (p := ⟨0, j, none⟩) hp).trans (h j hj)

end
section
open Go

/-- The three steps on one byte. -/
def p1 (r : Nat) : Nat := (r / 2 &&& 0x55) + (r &&& 0x55)
def p2 (r : Nat) : Nat := (r / 4 &&& 0x33) + (r &&& 0x33)
def p3 (r : Nat) : Nat := (r / 16 + r) &&& 0x0f
/-- Each on a number, under a mask. -/
def f1 (x p : Nat) : Nat := (x / 2 &&& p) + (x &&& p)
def f2 (x p : Nat) : Nat := (x / 4 &&& p) + (x &&& p)
def f3 (x p : Nat) : Nat := (x / 16 + x) &&& p
/-- Bits counted, from a byte on. -/
def cnt (n s : Nat) : Nat := ((List.range n).filter (fun i => s.testBit i)).length
end
end Go.Proofs.Ytddflccjmigloaa
