/-
  Frames as plain functions of bytes (layer 4): what was put is next; what was cut is told; what was turned is told; all of many. Of no program. Own work.
-/
import Derived.Test.YtgchgbbldhpgeabNums
import Derived.Test.YtgchgbbldhpgeabCrcMore
namespace Go.Proofs.Ytgchgbbldhpgeab
open Go

/-- The sum of the two bytes of the length, and the load. -/
def sumF (ls load : List Int) : Nat := moreI (moreI 0 ls) load
def lenB (load : List Int) : List Int := putS load.length 2
def headF (load : List Int) : List Int := [167, 94] ++ lenB load ++ putS (sumF (lenB load) load) 4
def frameF (load : List Int) : List Int := headF load ++ load
theorem headF_length (load : List Int) : (headF load).length = 8 := by simp [headF, lenB, putS_len]
theorem frameF_length (load : List Int) : (frameF load).length = 8 + load.length := by simp [frameF, headF_length]
def lenF (bs : List Int) : Nat := valB ((bs.drop 2).take 2)
/-- The frame that bytes begin with. -/
def nextF (bs : List Int) : List Int × Nat × Int :=
  if bs.length = 0 then ([], 0, 4)
  else if bs.getD 0 0 ≠ 167 then ([], 0, 3)
  else if bs.length = 1 then ([], 0, 4)
  else if bs.getD 1 0 ≠ 94 then ([], 0, 3)
  else if bs.length < 4 then ([], 0, 4)
  else if 4096 < lenF bs then ([], 0, 3)
  else if bs.length < 8 + lenF bs then ([], 0, 4)
  else if valB ((bs.drop 4).take 4) ≠ sumF ((bs.drop 2).take 2) ((bs.drop 8).take (lenF bs)) then ([], 0, 8)
  else ((bs.drop 8).take (lenF bs), 8 + lenF bs, 0)
theorem sumF_lt {ls load : List Int} (h1 : ∀ c ∈ ls, 0 ≤ c ∧ c < 256) (h2 : ∀ c ∈ load, 0 ≤ c ∧ c < 256) : sumF ls load < 4294967296 := moreI_lt (moreI_lt (by decide) h1) h2
/-- A frame's parts, whatever stands behind. -/
theorem parts (load xs : List Int) (hl : load.length ≤ 4096) (hb : ∀ c ∈ load, 0 ≤ c ∧ c < 256) :
    (frameF load ++ xs).getD 0 0 = 167 ∧ (frameF load ++ xs).getD 1 0 = 94 ∧ ((frameF load ++ xs).drop 2).take 2 = lenB load ∧ lenF (frameF load ++ xs) = load.length ∧ valB (((frameF load ++ xs).drop 4).take 4) = sumF (lenB load) load ∧
      ((frameF load ++ xs).drop 8).take load.length = load ∧ (frameF load ++ xs).drop (8 + load.length) = xs := by
  have h2 : (lenB load).length = 2 := putS_len _ _
  have h4 : (putS (sumF (lenB load) load) 4).length = 4 := putS_len _ _
  have hlen : valB (lenB load) = load.length := by
    unfold lenB
    rw [valB_putS]
    exact Nat.mod_eq_of_lt (by omega)
  have hsum : valB (putS (sumF (lenB load) load) 4) = sumF (lenB load) load := by
    rw [valB_putS]
    exact Nat.mod_eq_of_lt (sumF_lt (putS_bytes _ _) hb)
  have e : frameF load ++ xs = 167 :: 94 :: (lenB load ++ (putS (sumF (lenB load) load) 4 ++ (load ++ xs))) := by simp [frameF, headF]
  have d2 : ((frameF load ++ xs).drop 2).take 2 = lenB load := by
    rw [e]
    show (lenB load ++ _).take 2 = _
    rw [List.take_append_of_le_length (by omega), List.take_of_length_le (by omega)]
  have d4 : (frameF load ++ xs).drop 4 = putS (sumF (lenB load) load) 4 ++ (load ++ xs) := by
    rw [e]
    show (lenB load ++ (putS (sumF (lenB load) load) 4 ++ (load ++ xs))).drop 2 = _
    have z : (lenB load).drop 2 = [] := List.drop_eq_nil_of_le (by omega)
    rw [List.drop_append_of_le_length (by omega), z, List.nil_append]
  have d8 : (frameF load ++ xs).drop 8 = load ++ xs := by
    have : (frameF load ++ xs).drop 8 = ((frameF load ++ xs).drop 4).drop 4 := by rw [List.drop_drop]
    have z : (putS (sumF (lenB load) load) 4).drop 4 = [] := List.drop_eq_nil_of_le (by omega)
    rw [this, d4, List.drop_append_of_le_length (by omega), z, List.nil_append]
  refine ⟨by rw [e]; rfl, by rw [e]; rfl, d2, by unfold lenF; rw [d2, hlen], ?_, ?_, ?_⟩
  · rw [d4, List.take_append_of_le_length (by omega), List.take_of_length_le (by omega), hsum]
  · rw [d8]; simp
  · have : (frameF load ++ xs).drop (8 + load.length) = ((frameF load ++ xs).drop 8).drop load.length := by rw [List.drop_drop]
    rw [this, d8]; simp
/-- What was put is next. -/
theorem next_put (load xs : List Int) (hl : load.length ≤ 4096) (hb : ∀ c ∈ load, 0 ≤ c ∧ c < 256) : nextF (frameF load ++ xs) = (load, 8 + load.length, 0) := by
  obtain ⟨p0, p1, p2, p3, p4, p5, _⟩ := parts load xs hl hb
  have hlen : (frameF load ++ xs).length = 8 + load.length + xs.length := by rw [List.length_append, frameF_length]
  unfold nextF
  rw [if_neg (by omega), if_neg (by rw [p0]; simp), if_neg (by omega), if_neg (by rw [p1]; simp), if_neg (by omega), if_neg (by rw [p3]; omega), if_neg (by rw [p3]; omega), if_neg (by rw [p3, p4, p2, p5]; simp), p3, p5]
theorem take_getD (xs : List Int) (n k : Nat) (h : k < n) : (xs.take n).getD k 0 = xs.getD k 0 := by
  simp [List.getD, h]
/-- What was cut is told. -/
theorem next_cut (load : List Int) (hl : load.length ≤ 4096) (hb : ∀ c ∈ load, 0 ≤ c ∧ c < 256) (n : Nat) (hn : n < 8 + load.length) : nextF ((frameF load).take n) = ([], 0, 4) := by
  obtain ⟨p0, p1, p2, p3, _⟩ := parts load [] hl hb
  rw [List.append_nil] at p0 p1 p2 p3
  have hlen : ((frameF load).take n).length = n := by rw [List.length_take, frameF_length]; omega
  unfold nextF
  by_cases h0 : n = 0
  · rw [if_pos (by omega)]
  rw [if_neg (by omega), if_neg (by rw [take_getD _ _ _ (by omega), p0]; simp)]
  by_cases h1 : n = 1
  · rw [if_pos (by omega)]
  rw [if_neg (by omega), if_neg (by rw [take_getD _ _ _ (by omega), p1]; simp)]
  by_cases h4 : n < 4
  · rw [if_pos (by omega)]
  have hlf : lenF ((frameF load).take n) = load.length := by
    unfold lenF at p3 ⊢
    rw [List.drop_take, List.take_take, Nat.min_eq_left (by omega), p3]
  rw [if_neg (by omega), if_neg (by rw [hlf]; omega), if_pos (by rw [hlf, hlen]; omega)]
end Go.Proofs.Ytgchgbbldhpgeab
