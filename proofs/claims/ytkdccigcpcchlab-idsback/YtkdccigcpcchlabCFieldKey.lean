/-
  A field that is a key. Own work.
-/
import Derived.Test.YtkdccigcpcchlabCFields
namespace Go.Proofs.Ytkdccigcpcchlab
open Go.RowKit

theorem eight (l : List Int) (h : l.length = 8) : ∃ c0 c1 c2 c3 c4 c5 c6 c7, l = [c0, c1, c2, c3, c4, c5, c6, c7] := by
  match l, h with
  | [c0, c1, c2, c3, c4, c5, c6, c7], _ => exact ⟨c0, c1, c2, c3, c4, c5, c6, c7, rfl⟩
theorem keyR_length (bs : List Int) : (keyR bs).1.length = 8 := by
  unfold keyR
  split
  · simp
  · simp; omega
/-- Eight cells are set. -/
theorem set8 {w : World} {g : Nat} {t : TypeId} (hb : Box w g #[.int .u8 0, .int .u8 0, .int .u8 0, .int .u8 0, .int .u8 0, .int .u8 0, .int .u8 0, .int .u8 0] t) (c0 c1 c2 c3 c4 c5 c6 c7 : Int) :
    Box ((((((((w.setCell ⟨g, 0, none⟩ (.int .u8 c0)).setCell ⟨g, 1, none⟩ (.int .u8 c1)).setCell ⟨g, 2, none⟩ (.int .u8 c2)).setCell ⟨g, 3, none⟩ (.int .u8 c3)).setCell ⟨g, 4, none⟩ (.int .u8 c4)).setCell ⟨g, 5, none⟩ (.int .u8 c5)).setCell ⟨g, 6, none⟩ (.int .u8 c6)).setCell ⟨g, 7, none⟩ (.int .u8 c7)) g #[.int .u8 c0, .int .u8 c1, .int .u8 c2, .int .u8 c3, .int .u8 c4, .int .u8 c5, .int .u8 c6, .int .u8 c7] t ∧
    KeepBut (fun k => k = g) w ((((((((w.setCell ⟨g, 0, none⟩ (.int .u8 c0)).setCell ⟨g, 1, none⟩ (.int .u8 c1)).setCell ⟨g, 2, none⟩ (.int .u8 c2)).setCell ⟨g, 3, none⟩ (.int .u8 c3)).setCell ⟨g, 4, none⟩ (.int .u8 c4)).setCell ⟨g, 5, none⟩ (.int .u8 c5)).setCell ⟨g, 6, none⟩ (.int .u8 c6)).setCell ⟨g, 7, none⟩ (.int .u8 c7)) := by
  refine ⟨?_, ?_⟩
  · have := (((((((hb.set (i := 0) (v := .int .u8 c0)).set (i := 1) (v := .int .u8 c1)).set (i := 2) (v := .int .u8 c2)).set (i := 3) (v := .int .u8 c3)).set (i := 4) (v := .int .u8 c4)).set (i := 5) (v := .int .u8 c5)).set (i := 6) (v := .int .u8 c6)).set (i := 7) (v := .int .u8 c7)
    simpa using this
  · exact ((((((((KeepBut.refl (fun k => k = g) w).setCell (p := ⟨g, 0, none⟩) (.inl rfl) _).setCell (p := ⟨g, 1, none⟩) (.inl rfl) _).setCell (p := ⟨g, 2, none⟩) (.inl rfl) _).setCell (p := ⟨g, 3, none⟩) (.inl rfl) _).setCell (p := ⟨g, 4, none⟩) (.inl rfl) _).setCell (p := ⟨g, 5, none⟩) (.inl rfl) _).setCell (p := ⟨g, 6, none⟩) (.inl rfl) _).setCell (p := ⟨g, 7, none⟩) (.inl rfl) _
/-- What stands behind the drawn region: the reader, the key's own variable, the result's, the zero's. -/
structure KeyMid (w W : World) (p g : Nat) (vb : Value) (all : List Int) (r : RS) (c0 c1 c2 c3 c4 c5 c6 c7 : Int) : Prop where
  cr : CR W p vb all r
  bg : Box W g #[.int .u8 c0, .int .u8 c1, .int .u8 c2, .int .u8 c3, .int .u8 c4, .int .u8 c5, .int .u8 c6, .int .u8 c7] 29
  bt : Box W w.heap.size #[.int .u8 0, .int .u8 0, .int .u8 0, .int .u8 0, .int .u8 0, .int .u8 0, .int .u8 0, .int .u8 0] 29
  bn : Box W (w.heap.size + 1) #[.int .u8 0, .int .u8 0, .int .u8 0, .int .u8 0, .int .u8 0, .int .u8 0, .int .u8 0, .int .u8 0] 29
  keep : KeepBut (fun _ => False) w W
  ge : w.heap.size + 1 < g
theorem boxes_two (w : World) (cs ds : Array Value) (t u : TypeId) : Box ((w.alloc (.cells cs t)).alloc (.cells ds u)) w.heap.size cs t ∧ Box ((w.alloc (.cells cs t)).alloc (.cells ds u)) (w.heap.size + 1) ds u := by
  refine ⟨(box_new w cs t).keep ((KeepBut.refl (fun _ => False) _).alloc _) (fun h => h), ?_⟩
  have := box_new (w.alloc (.cells cs t)) ds u
  simpa using this
theorem KeyMid.mkA {w w1 w2 : World} {p : Nat} {vb : Value} {all : List Int} {r : RS} (c0 c1 c2 c3 c4 c5 c6 c7 : Int) (hB1 : Below ((w.alloc (.cells #[.int .u8 0, .int .u8 0, .int .u8 0, .int .u8 0, .int .u8 0, .int .u8 0, .int .u8 0, .int .u8 0] 29)).alloc (.cells #[.int .u8 0, .int .u8 0, .int .u8 0, .int .u8 0, .int .u8 0, .int .u8 0, .int .u8 0, .int .u8 0] 29)).heap.size ((w.alloc (.cells #[.int .u8 0, .int .u8 0, .int .u8 0, .int .u8 0, .int .u8 0, .int .u8 0, .int .u8 0, .int .u8 0] 29)).alloc (.cells #[.int .u8 0, .int .u8 0, .int .u8 0, .int .u8 0, .int .u8 0, .int .u8 0, .int .u8 0, .int .u8 0] 29)) w1)
    (hB2 : Below w1.drew.heap.size w1.drew w2) (h2 : CR w2 p vb all r) : KeyMid w (w2.alloc (.cells #[.int .u8 c0, .int .u8 c1, .int .u8 c2, .int .u8 c3, .int .u8 c4, .int .u8 c5, .int .u8 c6, .int .u8 c7] 29)) p w2.heap.size vb all r c0 c1 c2 c3 c4 c5 c6 c7 := by
  have hb := boxes_two w #[.int .u8 0, .int .u8 0, .int .u8 0, .int .u8 0, .int .u8 0, .int .u8 0, .int .u8 0, .int .u8 0] #[.int .u8 0, .int .u8 0, .int .u8 0, .int .u8 0, .int .u8 0, .int .u8 0, .int .u8 0, .int .u8 0] 29 29
  have k0 : KeepBut (fun _ => False) w ((w.alloc (.cells #[.int .u8 0, .int .u8 0, .int .u8 0, .int .u8 0, .int .u8 0, .int .u8 0, .int .u8 0, .int .u8 0] 29)).alloc (.cells #[.int .u8 0, .int .u8 0, .int .u8 0, .int .u8 0, .int .u8 0, .int .u8 0, .int .u8 0, .int .u8 0] 29)) := ((KeepBut.refl (fun _ => False) w).alloc _).alloc _
  have k1 : KeepBut (fun _ => False) ((w.alloc (.cells #[.int .u8 0, .int .u8 0, .int .u8 0, .int .u8 0, .int .u8 0, .int .u8 0, .int .u8 0, .int .u8 0] 29)).alloc (.cells #[.int .u8 0, .int .u8 0, .int .u8 0, .int .u8 0, .int .u8 0, .int .u8 0, .int .u8 0, .int .u8 0] 29)) (w2.alloc (.cells #[.int .u8 c0, .int .u8 c1, .int .u8 c2, .int .u8 c3, .int .u8 c4, .int .u8 c5, .int .u8 c6, .int .u8 c7] 29)) :=
    ((((KeepBut.of_below (fun _ => False) hB1).drew).trans (KeepBut.of_below (fun _ => False) hB2) (fun _ _ h => h)).alloc _)
  refine ⟨h2.below ((Below.refl _ _).alloc (Nat.le_refl _) _), box_new _ _ _, hb.1.keep k1 (fun h => h), hb.2.keep k1 (fun h => h), k0.trans k1 (fun _ _ h => h), ?_⟩
  have s1 := hB1.size
  have s2 := hB2.size
  have s3 : w1.drew.heap.size = w1.heap.size := rfl
  simp at s1
  omega
theorem KeyMid.mkB {w w1 w2 : World} {p : Nat} {vb : Value} {all : List Int} {r : RS} (c0 c1 c2 c3 c4 c5 c6 c7 : Int) (hB1 : Below ((w.alloc (.cells #[.int .u8 0, .int .u8 0, .int .u8 0, .int .u8 0, .int .u8 0, .int .u8 0, .int .u8 0, .int .u8 0] 29)).alloc (.cells #[.int .u8 0, .int .u8 0, .int .u8 0, .int .u8 0, .int .u8 0, .int .u8 0, .int .u8 0, .int .u8 0] 29)).heap.size ((w.alloc (.cells #[.int .u8 0, .int .u8 0, .int .u8 0, .int .u8 0, .int .u8 0, .int .u8 0, .int .u8 0, .int .u8 0] 29)).alloc (.cells #[.int .u8 0, .int .u8 0, .int .u8 0, .int .u8 0, .int .u8 0, .int .u8 0, .int .u8 0, .int .u8 0] 29)) w1) (h1 : CR w1 p vb all r)
    (hB2 : Below (w1.drew.alloc (.cells #[.int .u8 0, .int .u8 0, .int .u8 0, .int .u8 0, .int .u8 0, .int .u8 0, .int .u8 0, .int .u8 0] 29)).heap.size (w1.drew.alloc (.cells #[.int .u8 0, .int .u8 0, .int .u8 0, .int .u8 0, .int .u8 0, .int .u8 0, .int .u8 0, .int .u8 0] 29)) w2) (h2 : CR w2 p vb all r) : KeyMid w ((((((((w2.setCell ⟨w1.heap.size, 0, none⟩ (.int .u8 c0)).setCell ⟨w1.heap.size, 1, none⟩ (.int .u8 c1)).setCell ⟨w1.heap.size, 2, none⟩ (.int .u8 c2)).setCell ⟨w1.heap.size, 3, none⟩ (.int .u8 c3)).setCell ⟨w1.heap.size, 4, none⟩ (.int .u8 c4)).setCell ⟨w1.heap.size, 5, none⟩ (.int .u8 c5)).setCell ⟨w1.heap.size, 6, none⟩ (.int .u8 c6)).setCell ⟨w1.heap.size, 7, none⟩ (.int .u8 c7)) p w1.heap.size vb all r c0 c1 c2 c3 c4 c5 c6 c7 := by
  have hb := boxes_two w #[.int .u8 0, .int .u8 0, .int .u8 0, .int .u8 0, .int .u8 0, .int .u8 0, .int .u8 0, .int .u8 0] #[.int .u8 0, .int .u8 0, .int .u8 0, .int .u8 0, .int .u8 0, .int .u8 0, .int .u8 0, .int .u8 0] 29 29
  have hz : Box (w1.drew.alloc (.cells #[.int .u8 0, .int .u8 0, .int .u8 0, .int .u8 0, .int .u8 0, .int .u8 0, .int .u8 0, .int .u8 0] 29)) w1.heap.size #[.int .u8 0, .int .u8 0, .int .u8 0, .int .u8 0, .int .u8 0, .int .u8 0, .int .u8 0, .int .u8 0] 29 := box_new w1.drew #[.int .u8 0, .int .u8 0, .int .u8 0, .int .u8 0, .int .u8 0, .int .u8 0, .int .u8 0, .int .u8 0] 29
  have h8 := set8 (hz.keep (KeepBut.of_below (fun _ => False) hB2) (fun h => h)) c0 c1 c2 c3 c4 c5 c6 c7
  have k0 : KeepBut (fun _ => False) w ((w.alloc (.cells #[.int .u8 0, .int .u8 0, .int .u8 0, .int .u8 0, .int .u8 0, .int .u8 0, .int .u8 0, .int .u8 0] 29)).alloc (.cells #[.int .u8 0, .int .u8 0, .int .u8 0, .int .u8 0, .int .u8 0, .int .u8 0, .int .u8 0, .int .u8 0] 29)) := ((KeepBut.refl (fun _ => False) w).alloc _).alloc _
  have k1 : KeepBut (fun _ => False) ((w.alloc (.cells #[.int .u8 0, .int .u8 0, .int .u8 0, .int .u8 0, .int .u8 0, .int .u8 0, .int .u8 0, .int .u8 0] 29)).alloc (.cells #[.int .u8 0, .int .u8 0, .int .u8 0, .int .u8 0, .int .u8 0, .int .u8 0, .int .u8 0, .int .u8 0] 29)) w2 :=
    ((((KeepBut.of_below (fun _ => False) hB1).drew).alloc (.cells #[.int .u8 0, .int .u8 0, .int .u8 0, .int .u8 0, .int .u8 0, .int .u8 0, .int .u8 0, .int .u8 0] 29)).trans (KeepBut.of_below (fun _ => False) hB2) (fun _ _ h => h))
  have hs1 := hB1.size
  simp at hs1
  refine ⟨h2.keep h8.2 (fun e => ?_) (fun g hg e => ?_), h8.1, (hb.1.keep k1 (fun h => h)).keep h8.2 (fun e => ?_), (hb.2.keep k1 (fun h => h)).keep h8.2 (fun e => ?_), (k0.trans k1 (fun _ _ h => h)).trans (S' := fun k => k = w1.heap.size) h8.2 (fun k hk e => ?_), ?_⟩
  · have := h1.box.lt
    omega
  · have := owns_lt h1.own hg
    omega
  · omega
  · omega
  · omega
  · omega

end Go.Proofs.Ytkdccigcpcchlab
