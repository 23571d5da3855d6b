/-
  Walks of Zeros, Join, Flip (the program's and the reference's), and of the probe 'alive'. Own work.
-/
import Derived.Test.YtgflokjfdcgpbaaCrcAfter
import Derived.Test.YtgflokjfdcgpbaaCrcSum
import Derived.Lib.SlBytesConst
namespace Go.Proofs.Ytgflokjfdcgpbaa
open Go.RowKit

def zerosN (s n : Nat) : Nat := notN (stepsN (notN s) n)
theorem zeros_lt {s n : Nat} (hs : s < 4294967296) : zerosN s n < 4294967296 := not_lt (steps_lt n (not_lt hs))
def joinN (a b n : Nat) : Nat := stepsN a n ^^^ b
def flipN (s n x : Nat) : Nat := s ^^^ stepsN (eightN x) n

theorem zeros_any (s n : Nat) (hs : s < 4294967296) (hn : n < 4294967296) (w : World) :
    Calls Try.prog 14 #[.int .u32 s, .int .u32 n] w fun e w' => e = .returned (.int .u32 (zerosN s n : Nat)) ∧ Below w.heap.size w w' := by
  have hnot := not32 s hs
  have hns := not_lt hs
  have HD : Hid (notN (stepsN (notN s) n) = zerosN s n) := hide rfl
  generalize notN s = t at *
  have hst := steps_lt n hns
  have hnot2 := not32 (stepsN t n) hst
  rw [HD.out] at hnot2
  have HA := hide (after_any t n hns hn w)
  clear HD
  generalize stepsN t n = q at *
  generalize zerosN s n = z at *
  go_enter Try.func14, Try.ntmps14
  go_wp2_with fail
  refine HA.out.mono ?_
  rintro e w1 ⟨rfl, hB1⟩
  clear HA
  go_wp2_with fail
  go_ret
  exact ⟨rfl, hB1⟩
theorem rzeros_any (s n : Nat) (hs : s < 4294967296) (hn : n < 4294967296) (w : World) :
    Calls Try.prog 15 #[.int .u32 s, .int .u32 n] w fun e w' => e = .returned (.int .u32 (zerosN s n : Nat)) ∧ w' = w := by
  have hnot := not32 s hs
  have hns := not_lt hs
  have HD : Hid (notN (stepsN (notN s) n) = zerosN s n) := hide rfl
  generalize notN s = t at *
  have hst := steps_lt n hns
  have hnot2 := not32 (stepsN t n) hst
  rw [HD.out] at hnot2
  have HA := hide (rsteps_any t n hns hn w)
  clear HD
  generalize stepsN t n = q at *
  generalize zerosN s n = z at *
  go_enter Try.func15, Try.ntmps15
  go_wp2_with fail
  refine HA.out.mono ?_
  rintro e w1 ⟨rfl, h1⟩
  rw [h1]
  clear HA h1
  go_wp2_with fail
  go_ret
  exact ⟨rfl, rfl⟩
theorem join_any (a b n : Nat) (ha : a < 4294967296) (hb : b < 4294967296) (hn : n < 4294967296) (w : World) :
    Calls Try.prog 16 #[.int .u32 a, .int .u32 b, .int .u32 n] w fun e w' => e = .returned (.int .u32 (joinN a b n : Nat)) ∧ Below w.heap.size w w' := by
  have hx := xor32 (stepsN a n) b (steps_lt n ha) hb
  have HD : Hid (stepsN a n ^^^ b = joinN a b n) := hide rfl
  rw [HD.out] at hx
  go_enter Try.func16, Try.ntmps16
  go_wp2_with (go_at_call 22; refine (after_any a n ha hn _).mono ?_; rintro e w1 ⟨rfl, hB1⟩)
  go_ret
  exact ⟨rfl, hB1⟩
theorem rjoin_any (a b n : Nat) (ha : a < 4294967296) (hb : b < 4294967296) (hn : n < 4294967296) (w : World) :
    Calls Try.prog 17 #[.int .u32 a, .int .u32 b, .int .u32 n] w fun e w' => e = .returned (.int .u32 (joinN a b n : Nat)) ∧ w' = w := by
  have hx := xor32 (stepsN a n) b (steps_lt n ha) hb
  have HD : Hid (stepsN a n ^^^ b = joinN a b n) := hide rfl
  rw [HD.out] at hx
  go_enter Try.func17, Try.ntmps17
  go_wp2_with (go_at_call 23; refine (rsteps_any a n ha hn _).mono ?_; rintro e w1 ⟨rfl, h1⟩; rw [h1]; clear h1)
  go_ret
  exact ⟨rfl, rfl⟩
theorem flip_any (s n x : Nat) (hs : s < 4294967296) (hn : n < 4294967296) (hx : x < 256) (w : World) :
    Calls Try.prog 18 #[.int .u32 s, .int .u32 n, .int .u8 x] w fun e w' => e = .returned (.int .u32 (flipN s n x : Nat)) ∧ Below w.heap.size w w' := by
  have hx4 : x < 4294967296 := by omega
  have he := eight_lt hx4
  have hq := xor32 s (stepsN (eightN x) n) hs (steps_lt n he)
  have HD : Hid (s ^^^ stepsN (eightN x) n = flipN s n x) := hide rfl
  rw [HD.out] at hq
  go_enter Try.func18, Try.ntmps18
  go_wp2_with (first | (go_at_call 21; refine (pass_any x hx4 _).mono ?_; rintro e w1 ⟨rfl, h1⟩; rw [h1]; clear h1) | (go_at_call 22; refine (after_any (eightN x) n he hn _).mono ?_; rintro e w1 ⟨rfl, hB1⟩))
  go_ret
  exact ⟨rfl, hB1⟩
theorem rflip_any (s n x : Nat) (hs : s < 4294967296) (hn : n < 4294967296) (hx : x < 256) (w : World) :
    Calls Try.prog 19 #[.int .u32 s, .int .u32 n, .int .u8 x] w fun e w' => e = .returned (.int .u32 (flipN s n x : Nat)) ∧ w' = w := by
  have hx4 : x < 4294967296 := by omega
  have he := eight_lt hx4
  have hq := xor32 s (stepsN (eightN x) n) hs (steps_lt n he)
  have HD : Hid (s ^^^ stepsN (eightN x) n = flipN s n x) := hide rfl
  rw [HD.out] at hq
  go_enter Try.func19, Try.ntmps19
  go_wp2_with (first | (go_at_call 20; refine (reight_any x hx4 _).mono ?_; rintro e w1 ⟨rfl, h1⟩; rw [h1]; clear h1) | (go_at_call 23; refine (rsteps_any (eightN x) n he hn _).mono ?_; rintro e w1 ⟨rfl, h1⟩; rw [h1]; clear h1))
  go_ret
  exact ⟨rfl, rfl⟩
theorem long_any (ao : Option Addr) (len cap : Nat) (w : World) :
    Calls Try.prog 9 #[.slice ao len cap] w fun e w' => e = .returned (.bool (decide (5000 < (len : Int)))) ∧ w' = w := by
  go_enter Try.func9, Try.ntmps9
  go_wp2
  go_ret
  exact ⟨rfl, rfl⟩

/-- Numbers in a new block. -/
theorem lies_new (w : World) (xs : List Int) (t : TypeId) (fr : Nat × Nat) (hx : xs ≠ []) (hl : xs.length ≤ maxLen) :
    Lies .u8 (w.alloc (.cells (xs.map (Value.int .u8)).toArray t fr)) (.slice (some ⟨w.heap.size, 0, none⟩) xs.length xs.length) xs := by
  refine .inr ⟨hx, w.heap.size, 0, xs.length, rfl, by simp, Nat.le_refl _, hl, fun k hk => ?_⟩
  rw [Nat.zero_add, cell_of_row _ _ k _ t fr (heap_alloc_last w _)]
  simp [hk]
/-- Parts in a new block. -/
theorem parts_new (w : World) (vs : List Value) (xss : List (List Int)) (t : TypeId) (hl : vs.length = xss.length) (hL : ∀ k, k < vs.length → Lies .u8 w (vs.getD k (.slice none 0 0)) (xss.getD k [])) :
    PartsLie (w.alloc (.cells vs.toArray t)) w.heap.size vs xss := by
  refine ⟨hl, fun k hk => ⟨?_, ?_, (hL k hk).below ((Below.refl _ _).alloc (Nat.le_refl _) _)⟩⟩
  · rw [cell_of_row _ _ k _ t (0, 0) (heap_alloc_last w _)]
    simp [List.getD, hk]
  · obtain ⟨ao, cap, e⟩ := (hL k hk).shape
    exact ⟨ao, _, cap, e⟩
theorem parts_one (w : World) (v1 : Value) (x1 : List Int) (t : TypeId) (h1 : Lies .u8 w v1 x1) : PartsLie (w.alloc (.cells #[v1] t)) w.heap.size [v1] [x1] :=
  parts_new w [v1] [x1] t rfl fun k hk => by
    obtain rfl : k = 0 := by simpa using hk
    exact h1
theorem parts_two (w : World) (v1 v2 : Value) (x1 x2 : List Int) (t : TypeId) (h1 : Lies .u8 w v1 x1) (h2 : Lies .u8 w v2 x2) : PartsLie (w.alloc (.cells #[v1, v2] t)) w.heap.size [v1, v2] [x1, x2] :=
  parts_new w [v1, v2] [x1, x2] t rfl fun k hk => by
    have : k = 0 ∨ k = 1 := by simp at hk; omega
    rcases this with rfl | rfl
    · exact h1
    · exact h2
theorem parts_three (w : World) (v1 v2 v3 : Value) (x1 x2 x3 : List Int) (t : TypeId) (h1 : Lies .u8 w v1 x1) (h2 : Lies .u8 w v2 x2) (h3 : Lies .u8 w v3 x3) : PartsLie (w.alloc (.cells #[v1, v2, v3] t)) w.heap.size [v1, v2, v3] [x1, x2, x3] :=
  parts_new w [v1, v2, v3] [x1, x2, x3] t rfl fun k hk => by
    have : k = 0 ∨ k = 1 ∨ k = 2 := by simp at hk; omega
    rcases this with rfl | rfl | rfl
    · exact h1
    · exact h2
    · exact h3
/-- The sum of two parts that lie in a new block. -/
theorem sum_one (w : World) (v1 : Value) (x1 : List Int) (t : TypeId) (h1 : Lies .u8 w v1 x1) (b1 : ∀ c ∈ x1, 0 ≤ c ∧ c < 256) :
    Calls Try.prog 11 #[.slice (some ⟨w.heap.size, 0, none⟩) 1 1] (w.alloc (.cells #[v1] t)) fun e w' => e = .returned (.int .u32 (moreI 0 x1 : Nat)) ∧ w' = w.alloc (.cells #[v1] t) := by
  have := sum_any w.heap.size 1 [v1] [x1] _ rfl (by decide) (parts_one w v1 x1 t h1) (by intro xs hxs; simp at hxs; subst hxs; exact b1)
  simpa using this
theorem sum_two (w : World) (v1 v2 : Value) (x1 x2 : List Int) (t : TypeId) (h1 : Lies .u8 w v1 x1) (h2 : Lies .u8 w v2 x2) (b1 : ∀ c ∈ x1, 0 ≤ c ∧ c < 256) (b2 : ∀ c ∈ x2, 0 ≤ c ∧ c < 256) :
    Calls Try.prog 11 #[.slice (some ⟨w.heap.size, 0, none⟩) 2 2] (w.alloc (.cells #[v1, v2] t)) fun e w' => e = .returned (.int .u32 (moreI 0 (x1 ++ x2) : Nat)) ∧ w' = w.alloc (.cells #[v1, v2] t) := by
  have := sum_any w.heap.size 2 [v1, v2] [x1, x2] _ rfl (by decide) (parts_two w v1 v2 x1 x2 t h1 h2) (by intro xs hxs; simp at hxs; rcases hxs with rfl | rfl; exact b1; exact b2)
  simpa using this
theorem sum_three (w : World) (v1 v2 v3 : Value) (x1 x2 x3 : List Int) (t : TypeId) (h1 : Lies .u8 w v1 x1) (h2 : Lies .u8 w v2 x2) (h3 : Lies .u8 w v3 x3) (b1 : ∀ c ∈ x1, 0 ≤ c ∧ c < 256) (b2 : ∀ c ∈ x2, 0 ≤ c ∧ c < 256) (b3 : ∀ c ∈ x3, 0 ≤ c ∧ c < 256) :
    Calls Try.prog 11 #[.slice (some ⟨w.heap.size, 0, none⟩) 3 3] (w.alloc (.cells #[v1, v2, v3] t)) fun e w' => e = .returned (.int .u32 (moreI 0 (x1 ++ (x2 ++ x3)) : Nat)) ∧ w' = w.alloc (.cells #[v1, v2, v3] t) := by
  have := sum_any w.heap.size 3 [v1, v2, v3] [x1, x2, x3] _ rfl (by decide) (parts_three w v1 v2 v3 x1 x2 x3 t h1 h2 h3) (by intro xs hxs; simp at hxs; rcases hxs with rfl | rfl | rfl; exact b1; exact b2; exact b3)
  simpa using this

/-- The probe's two texts: '1234', '56789'. -/
theorem alive_sum : moreI 0 ([49, 50, 51, 52] ++ [53, 54, 55, 56, 57]) = 3808858755 := by decide +kernel
theorem const_bytes (w : World) (xs : List Int) (n : Nat) (hn : xs.length = n) (hx : xs ≠ []) (hl : n ≤ 1000) : ∃ W, (convert 22 22 (.slice (some ⟨w.heap.size, 0, none⟩) n n)).run Try.prog (w.alloc (.cells (xs.map (Value.int .u8)).toArray 5)) = .ok (.slice (some ⟨w.heap.size, 0, none⟩) n n) W ∧
    Hid (Lies .u8 W (.slice (some ⟨w.heap.size, 0, none⟩) n n) xs) ∧ Hid (Below w.heap.size w W) := by
  subst hn
  exact ⟨_, Lib.run_convert_bytes_const (P := Try.prog) w 22 5 _ _ _ Try.underlying22 Try.underlying5, hide (lies_new w xs _ _ hx (by unfold maxLen; omega)), hide ((Below.refl _ _).alloc (Nat.le_refl _) _)⟩
set_option maxHeartbeats 1600000 in
theorem alive_any (w : World) : Calls Try.prog 10 #[] w fun e w' => e = .returned (.bool true) ∧ Below w.heap.size w w' := by
  obtain ⟨W1, c1, L1, B1⟩ := const_bytes w [49, 50, 51, 52] 4 rfl (by simp) (by decide)
  obtain ⟨W2, c2, L2, B2⟩ := const_bytes W1 [53, 54, 55, 56, 57] 5 rfl (by simp) (by decide)
  simp only [List.map_cons, List.map_nil] at c1 c2
  have HS := hide (sum_two W2 _ _ _ _ 22 (L1.out.below B2.out) L2.out (by decide) (by decide))
  rw [alive_sum] at HS
  have B3 : Hid (∀ o, Below w.heap.size w (W2.alloc o)) := hide (fun o => (B1.out.trans (B2.out.mono B1.out.size)).alloc (Nat.le_trans B1.out.size B2.out.size) o)
  have hN : Hid (∀ o, (W2.alloc o).heap.size = W2.heap.size + 1) := hide (fun o => by simp)
  go_enter Try.func10, Try.ntmps10
  go_wp2_with fail
  refine HS.out.mono ?_
  rintro e w1 ⟨rfl, h1⟩
  rw [h1]
  clear h1
  go_wp2_with fail
  refine (sum_none _).mono ?_
  rintro e w1 ⟨rfl, h1⟩
  rw [h1]
  clear h1
  go_wp2_with fail
  go_ret
  exact ⟨rfl, B3.out _⟩
end Go.Proofs.Ytgflokjfdcgpbaa
