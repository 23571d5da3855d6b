/-
  Walk of Sum: any number of parts. Own work.
-/
import Derived.Test.YtgchgbbldhpgeabCrcMore
namespace Go.Proofs.Ytgchgbbldhpgeab
open Go.RowKit

/-- Slices, each of which reads as numbers, in a row of cells. -/
def PartsLie (w : World) (b : Nat) (vs : List Value) (xss : List (List Int)) : Prop :=
  vs.length = xss.length ∧ ∀ t, t < vs.length → w.cell? ⟨b, t, none⟩ = some (vs.getD t (.slice none 0 0)) ∧ (∃ ao len cap, vs.getD t (.slice none 0 0) = .slice ao len cap) ∧ Lies .u8 w (vs.getD t (.slice none 0 0)) (xss.getD t [])
theorem drop_conss (xss : List (List Int)) (k : Nat) (h : k < xss.length) : (xss.drop k).flatten = xss.getD k [] ++ (xss.drop (k + 1)).flatten := by
  rw [List.drop_eq_getElem_cons h, List.flatten_cons]
  simp [List.getD, h]
theorem getD_bytes {xss : List (List Int)} (hx : ∀ xs ∈ xss, ∀ c ∈ xs, 0 ≤ c ∧ c < 256) (k : Nat) : ∀ c ∈ xss.getD k [], 0 ≤ c ∧ c < 256 := by
  by_cases h : k < xss.length
  · exact hx _ (by simp [List.getD, h])
  · simp [List.getD, List.getElem?_eq_none (Nat.le_of_not_lt h)]

theorem sum_none (w : World) : Calls Try.prog 17 #[.slice none 0 0] w fun e w' => e = .returned (.int .u32 0) ∧ w' = w := by
  go_enter Try.func17, Try.ntmps17
  go_wp2
  go_rounds 1
  go_ret
  exact ⟨rfl, rfl⟩

set_option maxHeartbeats 400000 in
theorem sum_any (b n : Nat) (vs : List Value) (xss : List (List Int)) (w : World) (hn : vs.length = n) (hl : n < 1000) (h : PartsLie w b vs xss) (hx : ∀ xs ∈ xss, ∀ c ∈ xs, 0 ≤ c ∧ c < 256) :
    Calls Try.prog 17 #[.slice (some ⟨b, 0, none⟩) n n] w fun e w' => e = .returned (.int .u32 (moreI 0 xss.flatten : Nat)) ∧ w' = w := by
  obtain ⟨hln, hP⟩ := h
  have HX := hide hx
  have H0 : Hid (moreI 0 (xss.drop 0).flatten = moreI 0 xss.flatten) := hide rfl
  have HLN := hide hln
  have HVN := hide hn
  have HP := hide hP
  clear hx hln hn hP
  go_enter Try.func17, Try.ntmps17
  go_wp2
  go_loop [3, 8] (fun x i => ∃ k m : Nat, k ≤ n ∧ i = .int .i64 k ∧ x = .int .u32 m ∧ m < 4294967296 ∧ Hid (moreI m (xss.drop k).flatten = moreI 0 xss.flatten)) (fun _ i => n - (intOf i).toNat)
  case atStart => exact ⟨0, 0, Nat.zero_le _, rfl, rfl, by decide, H0⟩
  case round =>
    obtain ⟨k, m, hk, rfl, rfl, hm, HK⟩ := hrel
    by_cases hlt : k < n
    · obtain ⟨hcell, ⟨ao, len, cap, hv⟩, hlie⟩ := HP.out k (by rw [HVN.out]; exact hlt)
      have HE : Hid (moreI (moreI m (xss.getD k [])) (xss.drop (k + 1)).flatten = moreI 0 xss.flatten) := hide (by rw [← HK.out, drop_conss xss k (by rw [← HLN.out, HVN.out]; exact hlt), moreI_append])
      have hb := moreI_lt hm (getD_bytes HX.out k)
      rw [hv] at hcell hlie
      have HM := hide (more_any m _ _ w hm hlie (getD_bytes HX.out k))
      clear hv hlie
      generalize moreI m (xss.getD k []) = q at *
      go_wp2_with (go_at_call 20; refine HM.out.mono ?_; rintro e w1 ⟨rfl, h1⟩; rw [h1]; clear h1)
      go_round
      case rel => exact ⟨k + 1, q, by omega, by go_num, rfl, hb, HE⟩
      case measure => simp [intOf]; omega
    · obtain rfl : k = n := by omega
      have HE : Hid (m = moreI 0 xss.flatten) := hide (by rw [← HK.out, List.drop_of_length_le (by rw [← HLN.out, HVN.out]; exact Nat.le_refl _)]; simp [moreI, moreN, nats, innerN, not_not])
      go_wp2
      go_ret
      exact ⟨ret_int (by rw [HE.out]), rfl⟩
end Go.Proofs.Ytgchgbbldhpgeab
