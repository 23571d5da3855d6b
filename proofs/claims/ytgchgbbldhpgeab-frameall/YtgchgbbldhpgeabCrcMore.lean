/-
  Walks of More (the program's and the reference's): any bytes behind any sum. Own work.
-/
import Derived.Test.YtgchgbbldhpgeabCrcNum
namespace Go.Proofs.Ytgchgbbldhpgeab
open Go.RowKit

/-- Bytes as numbers. -/
def nats (xs : List Int) : List Nat := xs.map Int.toNat
def moreI (s : Nat) (xs : List Int) : Nat := moreN s (nats xs)
theorem nats_lt {xs : List Int} (h : ∀ c ∈ xs, 0 ≤ c ∧ c < 256) : ∀ b ∈ nats xs, b < 256 := by
  intro b hb
  unfold nats at hb
  rw [List.mem_map] at hb
  obtain ⟨c, hc, rfl⟩ := hb
  have := h c hc
  omega
theorem moreI_lt {s : Nat} {xs : List Int} (hs : s < 4294967296) (h : ∀ c ∈ xs, 0 ≤ c ∧ c < 256) : moreI s xs < 4294967296 := more_lt hs (nats_lt h)
theorem moreI_append (s : Nat) (xs ys : List Int) : moreI s (xs ++ ys) = moreI (moreI s xs) ys := by
  unfold moreI nats
  rw [List.map_append, more_append]
theorem drop_cons (xs : List Int) (k : Nat) (h : k < xs.length) : xs.drop k = xs.getD k 0 :: xs.drop (k + 1) := by
  rw [List.drop_eq_getElem_cons h]
  simp [List.getD, h]
theorem inner_drop (xs : List Int) (k c : Nat) (h : k < xs.length) : innerN c (nats (xs.drop k)) = innerN (eightN (c ^^^ (xs.getD k 0).toNat)) (nats (xs.drop (k + 1))) := by
  rw [drop_cons xs k h]; rfl
theorem not32 (a : Nat) (ha : a < 4294967296) : bits .xor .u32 IntKind.u32.max (a : Int) = ((notN a : Nat) : Int) := by
  have := xor32 4294967295 a (by decide) ha
  unfold notN
  rw [Nat.xor_comm a]
  exact this
theorem xor_byte (c : Nat) (b : Int) (hc : c < 4294967296) (h : 0 ≤ b ∧ b < 256) : bits .xor .u32 (c : Int) b = ((c ^^^ b.toNat : Nat) : Int) := by
  obtain ⟨n, rfl⟩ := Int.eq_ofNat_of_zero_le h.1
  exact xor32 c n hc (by omega)
theorem getD_byte {xs : List Int} (hx : ∀ c ∈ xs, 0 ≤ c ∧ c < 256) (k : Nat) : 0 ≤ xs.getD k 0 ∧ xs.getD k 0 < 256 := by
  by_cases h : k < xs.length
  · exact hx _ (by simp [List.getD, h])
  · simp [List.getD, List.getElem?_eq_none (Nat.le_of_not_lt h)]

set_option maxHeartbeats 400000 in
theorem more_any (s : Nat) (v : Value) (xs : List Int) (w : World) (hs : s < 4294967296) (h : Lies .u8 w v xs) (hx : ∀ c ∈ xs, 0 ≤ c ∧ c < 256) :
    Calls Try.prog 20 #[.int .u32 s, v] w fun e w' => e = .returned (.int .u32 (moreI s xs : Nat)) ∧ w' = w := by
  have hlen := h.len
  have hnot := not32 s hs
  have hn := not_lt hs
  have HX := hide hx
  clear hx
  unfold maxLen at hlen
  rcases h with ⟨rfl, ao, cap, rfl, _⟩ | ⟨_, b, off, cap, rfl, _, _, _, hc⟩
  · have HM : Hid (moreI s [] = s) := hide (by unfold moreI moreN nats innerN; simp [not_not])
    have hnn := not32 (notN s) hn
    rw [not_not] at hnn
    go_enter Try.func20, Try.ntmps20
    go_wp2
    go_rounds 1
    go_ret
    exact ⟨ret_int (by rw [HM.out]), rfl⟩
  · have H0 : Hid (notN (innerN (notN s) (nats (xs.drop 0))) = moreI s xs) := hide rfl
    generalize notN s = s' at *
    go_enter Try.func20, Try.ntmps20
    go_wp2
    go_loop [5, 12] (fun x i => ∃ k m : Nat, k ≤ xs.length ∧ i = .int .i64 k ∧ x = .int .u32 m ∧ m < 4294967296 ∧ Hid (notN (innerN m (nats (xs.drop k))) = moreI s xs)) (fun _ i => xs.length - (intOf i).toNat)
    case atStart => exact ⟨0, s', Nat.zero_le _, rfl, rfl, hn, H0⟩
    case round =>
      obtain ⟨k, m, hk, rfl, rfl, hm, HK⟩ := hrel
      by_cases hlt : k < xs.length
      · have hcell := hc k hlt
        have HE : Hid (notN (innerN (eightN (m ^^^ (xs.getD k 0).toNat)) (nats (xs.drop (k + 1)))) = moreI s xs) := hide (by rw [← HK.out, inner_drop xs k m hlt])
        have hb := getD_byte HX.out k
        have hxor := xor_byte m _ hm hb
        have hq : m ^^^ (xs.getD k 0).toNat < 4294967296 := xor_lt32 hm (by omega)
        generalize xs.getD k 0 = c at *
        generalize m ^^^ c.toNat = q at *
        have he := eight_lt hq
        clear hc
        go_wp2_with (go_at_call 21; refine (pass_any q hq _).mono ?_; rintro e w1 ⟨rfl, h1⟩; rw [h1]; clear h1)
        go_round
        case rel => exact ⟨k + 1, eightN q, by omega, by go_num, rfl, he, HE⟩
        case measure => simp [intOf]; omega
      · have HE : Hid (notN m = moreI s xs) := hide (by rw [← HK.out, List.drop_of_length_le (by omega)]; rfl)
        have hnn := not32 m hm
        clear hc
        go_wp2
        go_ret
        exact ⟨ret_int (by rw [HE.out]), rfl⟩
end Go.Proofs.Ytgchgbbldhpgeab
