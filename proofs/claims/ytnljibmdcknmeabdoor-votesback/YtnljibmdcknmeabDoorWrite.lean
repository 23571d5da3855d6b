/-
  The laws' 'write' of layer 3, over whatever the program's writer is: a bundle of what its methods do ('CWr'). Own work.
-/
import Derived.Test.YtnljibmdcknmeabDoorFields
namespace Go.Proofs.YtnljibmdcknmeabDoor
open Go.RowKit

/-- What a call on a writer leaves: its bytes, its blocks (old ones of its own, or new ones), all else as it was. -/
def Stp (A : World → (Nat → Prop) → List Int → Prop) (F : Nat → Prop) (ys : List Int) (w w' : World) : Prop := ∃ F' : Nat → Prop, A w' F' ys ∧ KeepBut F w w' ∧ ∀ k, F' k → F k ∨ w.heap.size ≤ k
/-- The room that the walks ask for. -/
def roomFor (n : Nat) : Prop := n + 40 ≤ 140737488355328
/-- A field's bytes. -/
def fieldB (f : Fld) : List Int :=
  if f.kind % 5 = 0 then shortS f.n else if f.kind % 5 = 1 then [((f.n % 256 : Nat) : Int)] else if f.kind % 5 = 2 then [if f.n % 2 = 1 then 1 else 0] else if f.kind % 5 = 3 then shortS f.s.size ++ strI f.s else keyI f.s
theorem keyI_byte (s : ByteArray) : ∀ c ∈ keyI s, 0 ≤ c ∧ c < 256 := by
  intro c hc
  unfold keyI at hc
  rw [List.mem_append] at hc
  rcases hc with h | h
  · exact strI_byte s c (List.mem_of_mem_take h)
  · rw [List.mem_replicate] at h; omega
end Go.Proofs.YtnljibmdcknmeabDoor
