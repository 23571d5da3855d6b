/-
  The program's disk and the reference's, side by side. Own work.
-/
import Derived.Test.YtjjmcaamgoffiaaDkAlive
import Derived.Test.YtjjmcaamgoffiaaDkFacts
namespace Go.Proofs.Ytjjmcaamgoffiaa
open Go.RowKit

section
variable {D : World → Nat → (Nat → Prop) → Dk → Prop}
/-- Both lie there, apart, and nothing below w has turned. -/
structure Duo (D : World → Nat → (Nat → Prop) → Dk → Prop) (w : World) (q p : Nat) (F : Nat → Prop) (vb : Value) (d e : Dk) (W : World) : Prop where
  dd : D W q F d
  rr : RD W p vb e
  f1 : ∀ k, F k → w.heap.size ≤ k
  p1 : w.heap.size ≤ p
  v1 : ∀ g, vb.ownBlock = some g → w.heap.size ≤ g ∧ ¬ F g
  fp : ¬ F p
  B : Below w.heap.size w W
theorem Duo.below (H : DiskDo D) {w W W' : World} {q p : Nat} {F : Nat → Prop} {vb : Value} {d e : Dk} (h : Duo D w q p F vb d e W) (hB : Below W.heap.size W W') : Duo D w q p F vb d e W' :=
  ⟨H.below h.dd hB, h.rr.below hB, h.f1, h.p1, h.v1, h.fp, h.B.trans (hB.mono h.B.size)⟩
theorem Duo.does {w W W' : World} {q p : Nat} {F : Nat → Prop} {vb : Value} {d e d' : Dk} (h : Duo D w q p F vb d e W) (h2 : Did D W W' q F d') : ∃ F', Duo D w q p F' vb d' e W' ∧ KeepBut F W W' := by
  obtain ⟨F', h1, hk, hF⟩ := h2
  refine ⟨F', ⟨h1, h.rr.keep hk h.fp (fun g hg => (h.v1 g hg).2), fun k hk' => ?_, h.p1, fun g hg => ⟨(h.v1 g hg).1, fun hf => ?_⟩, fun hf => ?_, h.B.trans (hk.below h.B.size h.f1)⟩, hk⟩
  · rcases hF k hk' with x | x
    · exact h.f1 k x
    · exact Nat.le_trans h.B.size x
  · rcases hF g hf with x | x
    · exact (h.v1 g hg).2 x
    · have := owns_lt7 h.rr.own hg; omega
  · rcases hF p hf with x | x
    · exact h.fp x
    · have := h.rr.box.lt; omega
theorem Duo.would (H : DiskDo D) {w W W' : World} {q p : Nat} {F : Nat → Prop} {vb : Value} {d e e' : Dk} (h : Duo D w q p F vb d e W) (h2 : RDid W W' p vb e') : ∃ vb', Duo D w q p F vb' d e' W' ∧ KeepBut (fun k => k = p) W W' := by
  obtain ⟨⟨vb', h1, hp⟩, hk⟩ := h2
  refine ⟨vb', ⟨H.keep h.dd hk (fun k hf e => h.fp (e ▸ hf)), h1, h.f1, h.p1, fun g hg => ?_, h.fp, h.B.trans (hk.below h.B.size (fun k hk => hk ▸ h.p1))⟩, hk⟩
  rcases hp with e | e
  · exact h.v1 g (by rw [← e]; exact hg)
  · have h3 := e g hg
    exact ⟨Nat.le_trans h.B.size h3, fun hf => by have := H.lt h.dd g hf; omega⟩
end
end Go.Proofs.Ytjjmcaamgoffiaa
