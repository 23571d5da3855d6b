/-
  Frames as plain functions, more: one byte turned; many frames. Of no program. Own work.
-/
import Derived.Test.YtgchgbbldhpgeabFrPlain
namespace Go.Proofs.Ytgchgbbldhpgeab
open Go

theorem next_eight (a0 a1 a2 a3 a4 a5 a6 a7 : Int) (xs : List Int) : nextF (a0 :: a1 :: a2 :: a3 :: a4 :: a5 :: a6 :: a7 :: xs) =
    if a0 ≠ 167 then ([], 0, 3) else if a1 ≠ 94 then ([], 0, 3) else if 4096 < valB [a2, a3] then ([], 0, 3) else if xs.length < valB [a2, a3] then ([], 0, 4)
    else if valB [a4, a5, a6, a7] ≠ sumF [a2, a3] (xs.take (valB [a2, a3])) then ([], 0, 8) else (xs.take (valB [a2, a3]), 8 + valB [a2, a3], 0) := by
  have hl : (a0 :: a1 :: a2 :: a3 :: a4 :: a5 :: a6 :: a7 :: xs).length = xs.length + 8 := rfl
  unfold nextF
  rw [if_neg (by omega)]
  by_cases h0 : a0 ≠ 167
  · rw [if_pos (by simpa using h0), if_pos h0]
  rw [if_neg (by simpa using h0), if_neg h0, if_neg (by omega)]
  by_cases h1 : a1 ≠ 94
  · rw [if_pos (by simpa using h1), if_pos h1]
  rw [if_neg (by simpa using h1), if_neg h1, if_neg (by omega)]
  have hf : lenF (a0 :: a1 :: a2 :: a3 :: a4 :: a5 :: a6 :: a7 :: xs) = valB [a2, a3] := rfl
  rw [hf, hl]
  by_cases h2 : 4096 < valB [a2, a3]
  · rw [if_pos h2, if_pos h2]
  rw [if_neg h2, if_neg h2]
  by_cases h3 : xs.length < valB [a2, a3]
  · rw [if_pos (by omega), if_pos h3]
  rw [if_neg (by omega), if_neg h3]
  rfl
theorem valB2 (a b : Int) : valB [a, b] = a.toNat * 256 + b.toNat := by simp [valB]
theorem valB4 (a b c d : Int) : valB [a, b, c, d] = ((a.toNat * 256 + b.toNat) * 256 + c.toNat) * 256 + d.toNat := by simp [valB]
theorem two (l : List Int) (h : l.length = 2) : ∃ a b, l = [a, b] := by
  match l, h with
  | [a, b], _ => exact ⟨a, b, rfl⟩
theorem four (l : List Int) (h : l.length = 4) : ∃ a b c d, l = [a, b, c, d] := by
  match l, h with
  | [a, b, c, d], _ => exact ⟨a, b, c, d, rfl⟩
/-- One byte of bytes turned. -/
def turnB (xs : List Int) (k x : Nat) : List Int := xs.set k (((xs.getD k 0).toNat ^^^ x : Nat) : Int)
theorem xor_ne (a x : Nat) (h : x ≠ 0) : a ^^^ x ≠ a := fun e => h ((xor_eq_self a x).1 e.symm)
theorem xor_byte_lt {a x : Nat} (ha : a < 256) (hx : x < 256) : a ^^^ x < 256 := Nat.xor_lt_two_pow (n := 8) ha hx
/-- The sum of a load one byte of which was turned is another one. -/
theorem sum_turned (ls load : List Int) (k x : Nat) (hk : k < load.length) (hx0 : x ≠ 0) (hx : x < 256) : sumF ls (turnB load k x) ≠ sumF ls load := by
  unfold sumF moreI
  have hl : k < (nats load).length := by simpa [nats] using hk
  have hg : (nats load)[k] = (load.getD k 0).toNat := by simp [nats, List.getD, hk]
  have e1 : nats load = (nats load).take k ++ (load.getD k 0).toNat :: (nats load).drop (k + 1) := by
    rw [← hg, List.getElem_cons_drop, List.take_append_drop]
  have e2 : nats (turnB load k x) = (nats load).take k ++ ((load.getD k 0).toNat ^^^ x) :: (nats load).drop (k + 1) := by
    unfold nats turnB
    rw [List.map_set, List.set_eq_take_append_cons_drop, if_pos (by simpa using hk)]
    rfl
  rw [e2, more_turn, ← e1]
  intro e
  have := (xor_eq_self _ _).1 e.symm
  exact hx0 ((turn_zero _ x hx).1 this)
/-- One byte of a frame turned: no load of as many bytes. -/
theorem next_turned (load : List Int) (hl : load.length ≤ 4096) (hb : ∀ c ∈ load, 0 ≤ c ∧ c < 256) (k x : Nat) (hk : k < 8 + load.length) (hx0 : x ≠ 0) (hx : x < 256) (h0 : (nextF (turnB (frameF load) k x)).2.2 = 0) :
    (nextF (turnB (frameF load) k x)).1.length ≠ load.length := by
  obtain ⟨l0, l1, hL⟩ := two (lenB load) (putS_len _ _)
  obtain ⟨s0, s1, s2, s3, hS⟩ := four (putS (sumF (lenB load) load) 4) (putS_len _ _)
  have bL : ∀ c ∈ lenB load, 0 ≤ c ∧ c < 256 := putS_bytes _ _
  have bS : ∀ c ∈ putS (sumF (lenB load) load) 4, 0 ≤ c ∧ c < 256 := putS_bytes _ _
  have vL : valB (lenB load) = load.length := by
    unfold lenB
    rw [valB_putS]
    exact Nat.mod_eq_of_lt (by omega)
  have vS : valB (putS (sumF (lenB load) load) 4) = sumF (lenB load) load := by
    rw [valB_putS]
    exact Nat.mod_eq_of_lt (sumF_lt (putS_bytes _ _) hb)
  have e : frameF load = 167 :: 94 :: l0 :: l1 :: s0 :: s1 :: s2 :: s3 :: load := by
    unfold frameF headF
    rw [hS, hL]
    rfl
  rw [hS, hL] at vS
  rw [hL] at vL bL
  rw [hS] at bS
  have q0 := bL l0 (by simp)
  have q1 := bL l1 (by simp)
  have t0 := bS s0 (by simp)
  have t1 := bS s1 (by simp)
  have t2 := bS s2 (by simp)
  have t3 := bS s3 (by simp)
  rw [e] at h0 ⊢
  have hcase : k = 0 ∨ k = 1 ∨ k = 2 ∨ k = 3 ∨ k = 4 ∨ k = 5 ∨ k = 6 ∨ k = 7 ∨ ∃ j, k = j + 8 ∧ j < load.length := by
    by_cases h : k < 8
    · omega
    · exact .inr (.inr (.inr (.inr (.inr (.inr (.inr (.inr ⟨k - 8, by omega, by omega⟩)))))))
  intro hlen
  -- a load is found: the length is what it was
  have key : ∀ (a0 a1 a2 a3 a4 a5 a6 a7 : Int) (xs : List Int), (nextF (a0 :: a1 :: a2 :: a3 :: a4 :: a5 :: a6 :: a7 :: xs)).2.2 = 0 → (nextF (a0 :: a1 :: a2 :: a3 :: a4 :: a5 :: a6 :: a7 :: xs)).1.length = load.length →
      a0 = 167 ∧ a1 = 94 ∧ valB [a2, a3] = load.length ∧ valB [a4, a5, a6, a7] = sumF [a2, a3] (xs.take load.length) := by
    intro a0 a1 a2 a3 a4 a5 a6 a7 xs h1 h2
    rw [next_eight] at h1 h2
    by_cases c0 : a0 ≠ 167
    · rw [if_pos c0] at h1; simp at h1
    rw [if_neg c0] at h1 h2
    by_cases c1 : a1 ≠ 94
    · rw [if_pos c1] at h1; simp at h1
    rw [if_neg c1] at h1 h2
    by_cases c2 : 4096 < valB [a2, a3]
    · rw [if_pos c2] at h1; simp at h1
    rw [if_neg c2] at h1 h2
    by_cases c3 : xs.length < valB [a2, a3]
    · rw [if_pos c3] at h1; simp at h1
    rw [if_neg c3] at h1 h2
    by_cases c4 : valB [a4, a5, a6, a7] ≠ sumF [a2, a3] (xs.take (valB [a2, a3]))
    · rw [if_pos c4] at h1; simp at h1
    rw [if_neg c4] at h2
    have h3 : valB [a2, a3] = load.length := by
      rw [← h2, List.length_take]; omega
    refine ⟨Decidable.of_not_not c0, Decidable.of_not_not c1, h3, ?_⟩
    rw [← h3]
    exact Decidable.of_not_not c4
  have X : ∀ (c : Int), 0 ≤ c ∧ c < 256 → c.toNat ^^^ x ≠ c.toNat ∧ c.toNat ^^^ x < 256 := fun c hc => ⟨xor_ne _ _ hx0, xor_byte_lt (by omega) hx⟩
  have htk : load.take load.length = load := List.take_length
  rcases hcase with rfl | rfl | rfl | rfl | rfl | rfl | rfl | rfl | ⟨j, rfl, hj⟩
  · obtain ⟨r0, _⟩ := key _ _ _ _ _ _ _ _ _ h0 hlen
    have := X 167 (by decide)
    have r1 : (((167 : Int).toNat ^^^ x : Nat) : Int) = 167 := r0
    omega
  · obtain ⟨_, r0, _⟩ := key _ _ _ _ _ _ _ _ _ h0 hlen
    have := X 94 (by decide)
    have r1 : (((94 : Int).toNat ^^^ x : Nat) : Int) = 94 := r0
    omega
  · obtain ⟨_, _, r0, _⟩ := key _ _ _ _ _ _ _ _ _ h0 hlen
    have := X l0 q0
    have r1 : valB [((l0.toNat ^^^ x : Nat) : Int), l1] = load.length := r0
    rw [← vL, valB2, valB2] at r1
    omega
  · obtain ⟨_, _, r0, _⟩ := key _ _ _ _ _ _ _ _ _ h0 hlen
    have := X l1 q1
    have r1 : valB [l0, ((l1.toNat ^^^ x : Nat) : Int)] = load.length := r0
    rw [← vL, valB2, valB2] at r1
    omega
  · obtain ⟨_, _, _, r0⟩ := key _ _ _ _ _ _ _ _ _ h0 hlen
    have := X s0 t0
    have r1 : valB [((s0.toNat ^^^ x : Nat) : Int), s1, s2, s3] = sumF [l0, l1] (load.take load.length) := r0
    rw [htk, ← vS, valB4, valB4] at r1
    omega
  · obtain ⟨_, _, _, r0⟩ := key _ _ _ _ _ _ _ _ _ h0 hlen
    have := X s1 t1
    have r1 : valB [s0, ((s1.toNat ^^^ x : Nat) : Int), s2, s3] = sumF [l0, l1] (load.take load.length) := r0
    rw [htk, ← vS, valB4, valB4] at r1
    omega
  · obtain ⟨_, _, _, r0⟩ := key _ _ _ _ _ _ _ _ _ h0 hlen
    have := X s2 t2
    have r1 : valB [s0, s1, ((s2.toNat ^^^ x : Nat) : Int), s3] = sumF [l0, l1] (load.take load.length) := r0
    rw [htk, ← vS, valB4, valB4] at r1
    omega
  · obtain ⟨_, _, _, r0⟩ := key _ _ _ _ _ _ _ _ _ h0 hlen
    have := X s3 t3
    have r1 : valB [s0, s1, s2, ((s3.toNat ^^^ x : Nat) : Int)] = sumF [l0, l1] (load.take load.length) := r0
    rw [htk, ← vS, valB4, valB4] at r1
    omega
  · have e2 : turnB (167 :: 94 :: l0 :: l1 :: s0 :: s1 :: s2 :: s3 :: load) (j + 8) x = 167 :: 94 :: l0 :: l1 :: s0 :: s1 :: s2 :: s3 :: turnB load j x := rfl
    rw [e2] at h0 hlen
    obtain ⟨_, _, _, r0⟩ := key _ _ _ _ _ _ _ _ _ h0 hlen
    have hlt : (turnB load j x).length = load.length := by simp [turnB]
    rw [← hlt, List.take_length, vS] at r0
    exact sum_turned [l0, l1] load j x hj hx0 hx r0.symm
end Go.Proofs.Ytgchgbbldhpgeab
