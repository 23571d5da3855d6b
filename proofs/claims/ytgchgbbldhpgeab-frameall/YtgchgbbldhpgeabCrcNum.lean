/-
  Walks of the program's and the reference's functions on sums' inner numbers: one bit, one byte, many bytes 0; and of bytes. Own work.
-/
import Derived.Test.YtgchgbbldhpgeabLies
import Derived.Test.YtgchgbbldhpgeabCrcPlain
namespace Go.Proofs.Ytgchgbbldhpgeab
open Go.RowKit

theorem xor32 (a b : Nat) (ha : a < 4294967296) (hb : b < 4294967296) : bits .xor .u32 (a : Int) (b : Int) = ((a ^^^ b : Nat) : Int) := u32_xor_nat a b ha hb
theorem poly_lt : poly < 4294967296 := by decide
theorem xorP (a : Nat) (ha : a < 4294967296) : bits .xor .u32 (a : Int) 2197175160 = ((a ^^^ poly : Nat) : Int) := xor32 a poly ha poly_lt
theorem and1 (a : Nat) (ha : a < 4294967296) : bits .and .u32 (a : Int) 1 = ((a % 2 : Nat) : Int) := by
  rw [show (1 : Int) = ((1 : Nat) : Int) from rfl, u32_and_nat a 1 ha (by decide), Nat.and_one_is_mod]

theorem pass_any (c : Nat) (hc : c < 4294967296) (w : World) :
    Calls Try.prog 21 #[.int .u32 c] w fun e w' => e = .returned (.int .u32 (eightN c : Nat)) ∧ w' = w := by
  go_enter Try.func21, Try.ntmps21
  go_wp2
  go_loop [0, 4] (fun x i => ∃ k m : Nat, k ≤ 8 ∧ i = .int .i64 k ∧ x = .int .u32 m ∧ m < 4294967296 ∧ Hid (iterN bitN (8 - k) m = eightN c)) (fun _ i => 8 - (intOf i).toNat)
  case atStart => exact ⟨0, c, by omega, rfl, rfl, hc, hide rfl⟩
  case round =>
    obtain ⟨k, m, hk, rfl, rfl, hm, HK⟩ := hrel
    by_cases hlt : k < 8
    · have HN : Hid (iterN bitN (8 - (k + 1)) (bitN m) = eightN c) := hide (by rw [← HK.out, show 8 - k = (8 - (k + 1)) + 1 by omega]; rfl)
      have hb := bit_lt hm
      have ha := and1 m hm
      by_cases h : m % 2 = 1
      · have H : Hid (bitN m = (m / 2) ^^^ poly) := hide (by unfold bitN; rw [if_pos h])
        go_wp2
        go_round
        case rel => exact ⟨k + 1, bitN m, by omega, by go_num, by rw [H.out, ← xorP _ (by omega)]; rfl, hb, HN⟩
        case measure => simp [intOf]; omega
      · have H : Hid (bitN m = m / 2) := hide (by unfold bitN; rw [if_neg h])
        go_wp2
        go_round
        case rel => exact ⟨k + 1, bitN m, by omega, by go_num, by rw [H.out]; rfl, hb, HN⟩
        case measure => simp [intOf]; omega
    · obtain rfl : k = 8 := by omega
      have HN : Hid (m = eightN c) := hide (by rw [← HK.out]; rfl)
      go_wp2
      go_ret
      exact ⟨ret_int (by rw [HN.out]), rfl⟩

end Go.Proofs.Ytgchgbbldhpgeab
