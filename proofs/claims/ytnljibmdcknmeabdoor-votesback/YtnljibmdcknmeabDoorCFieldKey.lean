/-
  A field that is a key. Own work.
-/
import Derived.Test.YtnljibmdcknmeabDoorCFields
namespace Go.Proofs.YtnljibmdcknmeabDoor
open Go.RowKit

theorem eight (l : List Int) (h : l.length = 8) : ∃ c0 c1 c2 c3 c4 c5 c6 c7, l = [c0, c1, c2, c3, c4, c5, c6, c7] := by
  match l, h with
  | [c0, c1, c2, c3, c4, c5, c6, c7], _ => exact ⟨c0, c1, c2, c3, c4, c5, c6, c7, rfl⟩
theorem keyR_length (bs : List Int) : (keyR bs).1.length = 8 := by
  unfold keyR
  split
  · simp
  · simp; omega
/-- Eight cells are set. -/
theorem set8 {w : World} {g : Nat} {t : TypeId} (hb : Box w g #[.int .u8 0, .int .u8 0, .int .u8 0, .int .u8 0, .int .u8 0, .int .u8 0, .int .u8 0, .int .u8 0] t) (c0 c1 c2 c3 c4 c5 c6 c7 : Int) :
    Box ((((((((w.setCell ⟨g, 0, none⟩ (.int .u8 c0)).setCell ⟨g, 1, none⟩ (.int .u8 c1)).setCell ⟨g, 2, none⟩ (.int .u8 c2)).setCell ⟨g, 3, none⟩ (.int .u8 c3)).setCell ⟨g, 4, none⟩ (.int .u8 c4)).setCell ⟨g, 5, none⟩ (.int .u8 c5)).setCell ⟨g, 6, none⟩ (.int .u8 c6)).setCell ⟨g, 7, none⟩ (.int .u8 c7)) g #[.int .u8 c0, .int .u8 c1, .int .u8 c2, .int .u8 c3, .int .u8 c4, .int .u8 c5, .int .u8 c6, .int .u8 c7] t ∧
    KeepBut (fun k => k = g) w ((((((((w.setCell ⟨g, 0, none⟩ (.int .u8 c0)).setCell ⟨g, 1, none⟩ (.int .u8 c1)).setCell ⟨g, 2, none⟩ (.int .u8 c2)).setCell ⟨g, 3, none⟩ (.int .u8 c3)).setCell ⟨g, 4, none⟩ (.int .u8 c4)).setCell ⟨g, 5, none⟩ (.int .u8 c5)).setCell ⟨g, 6, none⟩ (.int .u8 c6)).setCell ⟨g, 7, none⟩ (.int .u8 c7)) := by
  refine ⟨?_, ?_⟩
  · have := (((((((hb.set (i := 0) (v := .int .u8 c0)).set (i := 1) (v := .int .u8 c1)).set (i := 2) (v := .int .u8 c2)).set (i := 3) (v := .int .u8 c3)).set (i := 4) (v := .int .u8 c4)).set (i := 5) (v := .int .u8 c5)).set (i := 6) (v := .int .u8 c6)).set (i := 7) (v := .int .u8 c7)
    simpa using this
  · exact ((((((((KeepBut.refl (fun k => k = g) w).setCell (p := ⟨g, 0, none⟩) (.inl rfl) _).setCell (p := ⟨g, 1, none⟩) (.inl rfl) _).setCell (p := ⟨g, 2, none⟩) (.inl rfl) _).setCell (p := ⟨g, 3, none⟩) (.inl rfl) _).setCell (p := ⟨g, 4, none⟩) (.inl rfl) _).setCell (p := ⟨g, 5, none⟩) (.inl rfl) _).setCell (p := ⟨g, 6, none⟩) (.inl rfl) _).setCell (p := ⟨g, 7, none⟩) (.inl rfl) _
theorem boxes_two (w : World) (cs ds : Array Value) (t u : TypeId) : Box ((w.alloc (.cells cs t)).alloc (.cells ds u)) w.heap.size cs t ∧ Box ((w.alloc (.cells cs t)).alloc (.cells ds u)) (w.heap.size + 1) ds u := by
  refine ⟨(box_new w cs t).keep ((KeepBut.refl (fun _ => False) _).alloc _) (fun h => h), ?_⟩
  have := box_new (w.alloc (.cells cs t)) ds u
  simpa using this
end Go.Proofs.YtnljibmdcknmeabDoor
