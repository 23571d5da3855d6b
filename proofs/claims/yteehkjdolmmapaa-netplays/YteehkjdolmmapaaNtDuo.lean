/-
  The program's network and the reference's, side by side. Own work.
-/
import Derived.Test.YteehkjdolmmapaaNtRef7
import Derived.Test.YteehkjdolmmapaaNtAlive
namespace Go.Proofs.Yteehkjdolmmapaa
open Go.RowKit

theorem RNw.lt {w : World} {p : Nat} {vb : Value} {ws : List (Wr × Value)} {n : Nt} (h : RNw w p vb ws n) : ∀ k, usesR p vb ws k → k < w.heap.size := fun k hu => by
  rcases hu with h' | h' | ⟨y, hy, h'⟩
  · rw [h']; exact h.box.lt
  · exact (h.own.lt k h').2
  · exact (h.far y hy k h').1
section
variable {D : World → Nat → (Nat → Prop) → Nt → Prop}
/-- Both lie there, apart, and nothing below w has turned. -/
structure Duo8 (D : World → Nat → (Nat → Prop) → Nt → Prop) (w : World) (q p : Nat) (F : Nat → Prop) (vb : Value) (ws : List (Wr × Value)) (n e : Nt) (W : World) : Prop where
  dd : D W q F n
  rr : RNw W p vb ws e
  f1 : ∀ k, F k → w.heap.size ≤ k
  u1 : ∀ k, usesR p vb ws k → w.heap.size ≤ k
  ap : ∀ k, usesR p vb ws k → ¬ F k
  B : Below w.heap.size w W
theorem Duo8.below (H : NetDo D) {w W W' : World} {q p : Nat} {F : Nat → Prop} {vb : Value} {ws : List (Wr × Value)} {n e : Nt} (h : Duo8 D w q p F vb ws n e W) (hB : Below W.heap.size W W') : Duo8 D w q p F vb ws n e W' :=
  ⟨H.below h.dd hB, h.rr.below hB, h.f1, h.u1, h.ap, h.B.trans (hB.mono h.B.size)⟩
theorem Duo8.does {w W W' : World} {q p : Nat} {F : Nat → Prop} {vb : Value} {ws : List (Wr × Value)} {n e n' : Nt} (h : Duo8 D w q p F vb ws n e W) {F' : Nat → Prop} (h1 : D W' q F' n') (hk : KeepBut F W W') (hF : ∀ k, F' k → F k ∨ W.heap.size ≤ k) : Duo8 D w q p F' vb ws n' e W' := by
  refine ⟨h1, h.rr.keep hk h.ap, fun k hk' => ?_, h.u1, fun k hu hf => ?_, h.B.trans (hk.below h.B.size h.f1)⟩
  · rcases hF k hk' with x | x
    · exact h.f1 k x
    · exact Nat.le_trans h.B.size x
  · rcases hF k hf with x | x
    · exact h.ap k hu x
    · have := h.rr.lt k hu; omega
theorem Duo8.would (H : NetDo D) {w W W' : World} {q p : Nat} {F : Nat → Prop} {vb vb' : Value} {ws ws' : List (Wr × Value)} {n e e' : Nt} (h : Duo8 D w q p F vb ws n e W) (h1 : RNw W' p vb' ws' e') (hk : KeepBut (fun k => k = p) W W') (hu : ∀ k, usesR p vb' ws' k → usesR p vb ws k ∨ W.heap.size ≤ k) : Duo8 D w q p F vb' ws' n e' W' := by
  refine ⟨H.keep h.dd hk (fun k hf e => h.ap p (.inl rfl) (e ▸ hf)), h1, h.f1, fun k hk' => ?_, fun k hk' hf => ?_, h.B.trans (hk.below h.B.size (fun k e => h.u1 k (.inl e)))⟩
  · rcases hu k hk' with x | x
    · exact h.u1 k x
    · exact Nat.le_trans h.B.size x
  · rcases hu k hk' with x | x
    · exact h.ap k x hf
    · have := H.lt h.dd k hf; omega
end
end Go.Proofs.Yteehkjdolmmapaa
