/-
  The reference of layer 4: Next. Own work.
-/
import Derived.Test.YtgchgbbldhpgeabFrRef
import Derived.Test.YtgchgbbldhpgeabFrCuts
namespace Go.Proofs.Ytgchgbbldhpgeab
open Go.RowKit

theorem take_two (xs : List Int) (s : Nat) (h : s + 2 ≤ xs.length) : (xs.drop s).take 2 = [xs.getD s 0, xs.getD (s + 1) 0] := by
  apply List.ext_getElem
  · simp; omega
  · intro i h1 h2
    have : i = 0 ∨ i = 1 := by simp at h2; omega
    rcases this with rfl | rfl
    · simp [List.getD, show s < xs.length by omega]
    · simp [List.getD, show s + 1 < xs.length by omega]
theorem lenF_eq (bs : List Int) (h : 4 ≤ bs.length) (hx : ∀ c ∈ bs, 0 ≤ c ∧ c < 256) : (lenF bs : Int) = bs.getD 2 0 * 256 + bs.getD 3 0 := by
  unfold lenF
  rw [take_two bs 2 (by omega)]
  have h2 := getD_byte hx 2
  have h3 := getD_byte hx 3
  rw [show bs.getD (2 + 1) 0 = bs.getD 3 0 from rfl]
  show ((valB ([] ++ [bs.getD 2 0] ++ [bs.getD 3 0]) : Nat) : Int) = _
  rw [valB_snoc, valB_snoc]
  simp only [valB, List.foldl_nil]
  omega
/-- A pair of bytes as a slice's literal makes it. -/
theorem two_cell (w : World) (a b : Int) (k : Nat) (hk : k < 2) : (w.alloc (.cells #[.int .u8 a, .int .u8 b] 5)).cell? ⟨w.heap.size, k, none⟩ = some (.int .u8 ([a, b].getD k 0)) := by
  have h2 : k = 0 ∨ k = 1 := by omega
  rcases h2 with rfl | rfl
  · simp [List.getD]
  · simp [List.getD]
theorem below_two (w : World) (o : Obj) : Below w.heap.size w (w.alloc o) := (Below.refl w.heap.size w).alloc (Nat.le_refl _) o
/-- What the mark's bytes say. -/
theorem next_mark (bs : List Int) (k : Nat) (hk : k < 2) (hp : 0 < bs.length) (hl : k ≤ bs.length) (hm : ∀ t, t < k → bs.getD t 0 = [167, 94].getD t 0) :
    (bs.length = k → nextF bs = ([], 0, 4)) ∧ (k < bs.length → bs.getD k 0 ≠ [167, 94].getD k 0 → nextF bs = ([], 0, 3)) := by
  have h2 : k = 0 ∨ k = 1 := by omega
  unfold nextF
  rcases h2 with rfl | rfl
  · refine ⟨fun h => by omega, fun _ h => ?_⟩
    rw [if_neg (by omega), if_pos (show bs.getD 0 0 ≠ 167 from h)]
  · have h0 : bs.getD 0 0 = 167 := hm 0 (by omega)
    refine ⟨fun h => ?_, fun hlt h => ?_⟩
    · rw [if_neg (by omega), if_neg (by rw [h0]; simp), if_pos h]
    · rw [if_neg (by omega), if_neg (by rw [h0]; simp), if_neg (by omega), if_pos (show bs.getD 1 0 ≠ 94 from h)]
theorem next_rest (bs : List Int) (hl : 2 ≤ bs.length) (hm : ∀ t, t < 2 → bs.getD t 0 = [167, 94].getD t 0) :
    nextF bs = if bs.length < 4 then ([], 0, 4)
      else if 4096 < lenF bs then ([], 0, 3)
      else if bs.length < 8 + lenF bs then ([], 0, 4)
      else if valB ((bs.drop 4).take 4) ≠ sumF ((bs.drop 2).take 2) ((bs.drop 8).take (lenF bs)) then ([], 0, 8)
      else ((bs.drop 8).take (lenF bs), 8 + lenF bs, 0) := by
  have h0 : bs.getD 0 0 = 167 := hm 0 (by omega)
  have h1 : bs.getD 1 0 = 94 := hm 1 (by omega)
  rw [nextF, if_neg (by omega), if_neg (by rw [h0]; simp), if_neg (by omega), if_neg (by rw [h1]; simp)]
end Go.Proofs.Ytgchgbbldhpgeab
