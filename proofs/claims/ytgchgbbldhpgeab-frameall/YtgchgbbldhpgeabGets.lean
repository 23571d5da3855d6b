/-
  Walks of Get, and of the reference's Get. Own work.
-/
import Derived.Test.YtgchgbbldhpgeabBytes
import Derived.Test.YtgchgbbldhpgeabNums
namespace Go.Proofs.Ytgchgbbldhpgeab
open Go.RowKit

theorem get_bounds (xs : List Int) (k : Nat) (hk8 : k ≤ 8) (hkl : k ≤ xs.length) (hx : ∀ c ∈ xs, 0 ≤ c ∧ c < 256) (j : Nat) (hj : j < k) :
    valB (xs.take j) * 256 < 18446744073709551616 ∧ 0 ≤ xs.getD j 0 ∧ xs.getD j 0 < 256 ∧ valB (xs.take (j + 1)) = valB (xs.take j) * 256 + (xs.getD j 0).toNat := by
  have h1 := valB_lt xs hx j (by omega)
  have h2 : (256 : Nat) ^ j ≤ 256 ^ 7 := Nat.pow_le_pow_right (by decide) (by omega)
  have e : (256 : Nat) ^ 7 = 72057594037927936 := by decide
  rw [e] at h2
  refine ⟨by omega, ?_, ?_, ?_⟩
  · exact (hx _ (by simp [List.getD, show j < xs.length by omega])).1
  · exact (hx _ (by simp [List.getD, show j < xs.length by omega])).2
  · rw [take_snoc xs j (by omega), valB_snoc]

set_option maxHeartbeats 800000 in
theorem get_any (v : Value) (xs : List Int) (size : Int) (w : World) (h : Lies .u8 w v xs) (hx : ∀ c ∈ xs, 0 ≤ c ∧ c < 256) :
    Calls Try.prog 18 #[v, .int .i64 size] w fun e w' => e = .returned (.tuple #[.int .u64 (getS xs size).1, .int .i64 (getS xs size).2]) ∧ w' = w := by
  have hlen := h.len
  unfold maxLen at hlen
  unfold getS
  by_cases hs : size < 1 ∨ 8 < size
  · rw [if_pos hs]
    rcases hs with hs | hs
    all_goals
      go_enter Try.func18, Try.ntmps18
      go_wp2
      go_ret2
      exact ⟨rfl, rfl⟩
  · rw [if_neg hs]
    by_cases hl : (xs.length : Int) < size
    · rw [if_pos hl]
      have hs1 : 1 ≤ size := by omega
      have hs8 : size ≤ 8 := by omega
      rcases h with ⟨rfl, ao, cap, rfl, _⟩ | ⟨_, b, off, cap, rfl, _, _, _, hc⟩
      · have hl' : (0 : Int) < size := by omega
        clear hs
        go_enter Try.func18, Try.ntmps18
        go_wp2
        go_ret2
        exact ⟨rfl, rfl⟩
      · clear hs hc
        go_enter Try.func18, Try.ntmps18
        go_wp2
        go_ret2
        exact ⟨rfl, rfl⟩
    · rw [if_neg hl]
      obtain ⟨k, rfl⟩ := Int.eq_ofNat_of_zero_le (show 0 ≤ size by omega)
      rw [Int.toNat_natCast]
      have hk1 : 1 ≤ k := by omega
      have hk8 : k ≤ 8 := by omega
      have hkl : k ≤ xs.length := by omega
      clear hs hl
      rcases h with ⟨rfl, _⟩ | ⟨_, b, off, cap, rfl, _, hcl, hcm, hc⟩
      · simp at hkl; omega
      · unfold maxLen at hcm
        have HC := hide hc
        have HX := hide hx
        clear hc hx
        go_enter Try.func18, Try.ntmps18
        go_wp2
        go_loop [6, 8, 23] (fun n _ i => ∃ j : Nat, j ≤ k ∧ i = .int .i64 j ∧ n = .int .u64 ((valB (xs.take j) : Nat) : Int)) (fun _ _ i => k - (intOf i).toNat)
        case atStart => exact ⟨0, Nat.zero_le _, rfl, rfl⟩
        case round =>
          obtain ⟨j, hj, rfl, rfl⟩ := hrel
          by_cases hlt : j < k
          · have hcell := HC.out j (by omega)
            obtain ⟨g1, g2, g3, g4⟩ := get_bounds xs k hk8 hkl HX.out j hlt
            have HS := hide (get_step (valB (xs.take j)) (xs.getD j 0) g1 g2 g3)
            have HV := hide g4
            generalize xs.getD j 0 = c at *
            clear g4
            go_wp2
            go_round
            case rel => exact ⟨j + 1, by omega, by go_num, by rw [HV.out, ← HS.out]⟩
            case measure => simp [intOf] <;> omega
          · obtain rfl : j = k := by omega
            go_wp2
            go_ret2
            exact ⟨rfl, rfl⟩

end Go.Proofs.Ytgchgbbldhpgeab
