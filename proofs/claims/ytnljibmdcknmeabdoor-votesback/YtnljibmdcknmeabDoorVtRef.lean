/-
  Walks of the reference's Of, Total, Voters, part. Own work.
-/
import Derived.Test.YtnljibmdcknmeabDoorVtMay
import Derived.Test.YtnljibmdcknmeabDoorRSets
namespace Go.Proofs.YtnljibmdcknmeabDoor
open Go.RowKit

theorem arr_at {c : Cf} (h : c.Ok) (k : Nat) (hk : k < 8) : c.arr[3 + k]? = some (.int .u8 ((c.vs.getD k 0 : Nat) : Int)) := by
  have hl : k < c.vs.length := by rw [h.l]; exact hk
  rw [show 3 + k = k + 1 + 1 + 1 by omega]
  simp [Cf.arr, Cf.cells, votL, List.getD, hl]
theorem box_at {w : World} {b : Nat} {c : Cf} {t : TypeId} (h : c.Ok) (hb : Box w b c.arr t) (k : Nat) (hk : k < 8) : w.cell? ⟨b, 3 + k, none⟩ = some (.int .u8 ((c.vs.getD k 0 : Nat) : Int)) := hb.cell (3 + k) _ (arr_at h k hk)
/-- A part, as far as it has been looked at. -/
def partTo (a b k : Nat) : Bool := (List.range k).all (fun i => !a.testBit i || b.testBit i)
theorem partTo_step (a b k : Nat) : partTo a b (k + 1) = (partTo a b k && (!a.testBit k || b.testBit k)) := by simp [partTo, List.range_succ]
theorem partTo_no (a b k : Nat) (hk : k < 64) (ha : a.testBit k = true) (hb : b.testBit k = false) : partB a b = false := by
  unfold partB
  rw [List.all_eq_false]
  exact ⟨k, by simp [hk], by simp [ha, hb]⟩
end Go.Proofs.YtnljibmdcknmeabDoor
