/-
  The reference of layer 4: Size, Put, Next. Own work.
-/
import Derived.Test.YtgchgbbldhpgeabFrMore
import Derived.Test.YtgchgbbldhpgeabPutGet
import Derived.Test.YtgchgbbldhpgeabGets
import Derived.Test.YtgchgbbldhpgeabCuts
import Derived.Deep.QuietTactic
import Derived.BigQuiet
namespace Go.Proofs.Ytgchgbbldhpgeab
open Go.RowKit

theorem owns_base {w : World} {b b' e size n : Nat} {v : Value} {xs : List Value} (h : w.ownsRow b e size v n xs) (hb : b' ≤ b) : w.ownsRow b' e size v n xs := by
  obtain ⟨hl, h0 | ⟨g, cap, cur, rfl, hg, r⟩⟩ := h
  · exact ⟨hl, .inl h0⟩
  · exact ⟨hl, .inr ⟨g, cap, cur, rfl, Nat.le_trans hb hg, r⟩⟩
def sizeF (n : Int) : Int := if n < 0 ∨ 4096 < n then 0 else 8 + n
theorem lies_two (w : World) (a b : Int) : Lies .u8 (w.alloc (.cells #[.int .u8 a, .int .u8 b] 5)) (.slice (some ⟨w.heap.size, 0, none⟩) 2 2) [a, b] :=
  .inr ⟨by simp, w.heap.size, 0, 2, rfl, by simp, by simp, by unfold maxLen; omega, fun i hi => by
    have h2 : i = 0 ∨ i = 1 := by simp at hi; omega
    rcases h2 with rfl | rfl
    · simp [List.getD]
    · simp [List.getD]⟩
theorem frameF_parts (bs load : List Int) : (((bs ++ [167, 94]) ++ lenB load) ++ putS (sumF (lenB load) load) 4) ++ load = bs ++ frameF load := by simp [frameF, headF]
theorem owns_as {w : World} {b n : Nat} {v : Value} {ys zs : List Int} (h : w.ownsRow b 5 1 v n (ys.map (Value.int .u8))) (hz : zs = ys) : w.ownsRow b 5 1 v zs.length (zs.map (Value.int .u8)) := by
  subst hz
  have h1 : n = zs.length := by have := h.1; simpa using this.symm
  rw [← h1]
  exact h
end Go.Proofs.Ytgchgbbldhpgeab
