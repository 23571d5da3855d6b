/-
  Boxes of names, stamps, regs and keys: their cells at once. Own work.
-/
import Derived.Test.YtkdccigcpcchlaaIdAlive
namespace Go.Proofs.Ytkdccigcpcchlaa
open Go.RowKit

theorem Box.two {w : World} {p : Nat} {a b : Value} {t : TypeId} (h : Box w p #[a, b] t) : w.cell? ⟨p, 0, none⟩ = some a ∧ w.cell? ⟨p, 1, none⟩ = some b := ⟨h.cell 0 _ rfl, h.cell 1 _ rfl⟩
theorem Box.three {w : World} {p : Nat} {a b c : Value} {t : TypeId} (h : Box w p #[a, b, c] t) : w.cell? ⟨p, 0, none⟩ = some a ∧ w.cell? ⟨p, 1, none⟩ = some b ∧ w.cell? ⟨p, 2, none⟩ = some c := ⟨h.cell 0 _ rfl, h.cell 1 _ rfl, h.cell 2 _ rfl⟩
theorem Box.four {w : World} {p : Nat} {a b c d : Value} {t : TypeId} (h : Box w p #[a, b, c, d] t) : w.cell? ⟨p, 0, none⟩ = some a ∧ w.cell? ⟨p, 1, none⟩ = some b ∧ w.cell? ⟨p, 2, none⟩ = some c ∧ w.cell? ⟨p, 3, none⟩ = some d := ⟨h.cell 0 _ rfl, h.cell 1 _ rfl, h.cell 2 _ rfl, h.cell 3 _ rfl⟩
theorem Box.eight {w : World} {p : Nat} {a b c d e f g i : Value} {t : TypeId} (h : Box w p #[a, b, c, d, e, f, g, i] t) : w.cell? ⟨p, 0, none⟩ = some a ∧ w.cell? ⟨p, 1, none⟩ = some b ∧ w.cell? ⟨p, 2, none⟩ = some c ∧ w.cell? ⟨p, 3, none⟩ = some d ∧ w.cell? ⟨p, 4, none⟩ = some e ∧ w.cell? ⟨p, 5, none⟩ = some f ∧ w.cell? ⟨p, 6, none⟩ = some g ∧ w.cell? ⟨p, 7, none⟩ = some i :=
  ⟨h.cell 0 _ rfl, h.cell 1 _ rfl, h.cell 2 _ rfl, h.cell 3 _ rfl, h.cell 4 _ rfl, h.cell 5 _ rfl, h.cell 6 _ rfl, h.cell 7 _ rfl⟩
theorem Box.belowI {w w' : World} {p : Nat} {cs : Array Value} {t : TypeId} (h : Box w p cs t) (hB : Below w.heap.size w w') : Box w' p cs t := h.keep (KeepBut.of_below (fun _ => False) hB) id
end Go.Proofs.Ytkdccigcpcchlaa
