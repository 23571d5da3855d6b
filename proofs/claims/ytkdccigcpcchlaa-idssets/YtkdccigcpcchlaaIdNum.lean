/-
  Which names, stamps and regs may be; the order of names and of stamps (the program's). Own work.
-/
import Derived.Test.YtkdccigcpcchlaaIdVals
import Derived.Test.YtkdccigcpcchlaaBoxes
import Derived.Deep.RegionHeldLaw
import Derived.Deep.QuietTactic
import Derived.BigQuiet
import Derived.Sort.Grow
namespace Go.Proofs.Ytkdccigcpcchlaa
open Go.RowKit

theorem counts_any (n : Int) (w : World) : Calls Try.prog 54 #[.int .u32 n] w fun e w' => e = .returned (.bool (countB n)) ∧ w' = w := by
  unfold countB
  by_cases h : 1 ≤ n
  · have h1 : decide (1 ≤ n) = true := by simpa using h
    rw [h1, Bool.true_and]
    go_enter Try.func54, Try.ntmps54
    go_wp2
    go_ret
    exact ⟨rfl, rfl⟩
  · have h1 : decide (1 ≤ n) = false := by simpa using h
    rw [h1, Bool.false_and]
    go_enter Try.func54, Try.ntmps54
    go_wp2
    go_ret
    exact ⟨rfl, rfl⟩
theorem rcount_any (n : Int) (w : World) : Calls Try.prog 55 #[.int .u32 n] w fun e w' => e = .returned (.bool (countB n)) ∧ w' = w := by
  unfold countB
  by_cases h : 1 ≤ n
  · have h1 : decide (1 ≤ n) = true := by simpa using h
    rw [h1, Bool.true_and]
    go_enter Try.func55, Try.ntmps55
    go_wp2
    go_ret
    exact ⟨rfl, rfl⟩
  · have h1 : decide (1 ≤ n) = false := by simpa using h
    rw [h1, Bool.false_and]
    go_enter Try.func55, Try.ntmps55
    go_wp2
    go_ret
    exact ⟨rfl, rfl⟩
theorem txMay_any (n b m : Int) (w : World) : Calls Try.prog 14 #[.agg #[.int .u8 n, .int .u32 b, .int .u32 m]] w fun e w' => e = .returned (.bool (txMayB (n, b, m))) ∧ Below w.heap.size w w' := by
  unfold txMayB
  by_cases h : n < 8
  · have h1 : decide (n < 8) = true := by simpa using h
    rw [h1, Bool.true_and]
    cases hb : countB b
    all_goals
      go_enter Try.func14, Try.ntmps14
      go_wp2_with (go_at_call 54; refine (counts_any _ _).mono ?_; rintro e w' ⟨rfl, rfl⟩)
      go_ret
      exact ⟨rfl, (Below.refl _ _).alloc (Nat.le_refl _) _⟩
  · have h1 : decide (n < 8) = false := by simpa using h
    rw [h1, Bool.false_and]
    go_enter Try.func14, Try.ntmps14
    go_wp2
    go_ret
    exact ⟨rfl, (Below.refl _ _).alloc (Nat.le_refl _) _⟩
theorem rtxMay_any (n b m : Int) (w : World) : Calls Try.prog 15 #[.agg #[.int .u8 n, .int .u32 b, .int .u32 m]] w fun e w' => e = .returned (.bool (txMayB (n, b, m))) ∧ Below w.heap.size w w' := by
  unfold txMayB
  by_cases h : n < 8
  · have h1 : decide (n < 8) = true := by simpa using h
    rw [h1, Bool.true_and]
    cases hb : countB b
    all_goals
      go_enter Try.func15, Try.ntmps15
      go_wp2_with (go_at_call 55; refine (rcount_any _ _).mono ?_; rintro e w' ⟨rfl, rfl⟩)
      go_ret
      exact ⟨rfl, (Below.refl _ _).alloc (Nat.le_refl _) _⟩
  · have h1 : decide (n < 8) = false := by simpa using h
    rw [h1, Bool.false_and]
    go_enter Try.func15, Try.ntmps15
    go_wp2
    go_ret
    exact ⟨rfl, (Below.refl _ _).alloc (Nat.le_refl _) _⟩
theorem stMay_any (t n b m : Int) (w : World) : Calls Try.prog 16 #[.agg #[.int .u32 t, .int .u8 n, .int .u32 b, .int .u32 m]] w fun e w' => e = .returned (.bool (stMayB (t, n, b, m))) ∧ Below w.heap.size w w' := by
  unfold stMayB
  have C := fun w => txMay_any n b m w
  by_cases h : t ≤ 2147483647
  · have h1 : decide (t ≤ 2147483647) = true := by simpa using h
    rw [h1, Bool.true_and]
    go_enter Try.func16, Try.ntmps16
    go_wp2_with (go_at_call 14; refine (C _).mono ?_; rintro e w' ⟨rfl, hB⟩)
    go_ret
    exact ⟨rfl, ((Below.refl _ _).alloc (Nat.le_refl _) _).trans (hB.mono (by simp))⟩
  · have h1 : decide (t ≤ 2147483647) = false := by simpa using h
    rw [h1, Bool.false_and]
    go_enter Try.func16, Try.ntmps16
    go_wp2
    go_ret
    exact ⟨rfl, (Below.refl _ _).alloc (Nat.le_refl _) _⟩
theorem rstMay_any (t n b m : Int) (w : World) : Calls Try.prog 17 #[.agg #[.int .u32 t, .int .u8 n, .int .u32 b, .int .u32 m]] w fun e w' => e = .returned (.bool (stMayB (t, n, b, m))) ∧ Below w.heap.size w w' := by
  unfold stMayB
  have C := fun w => rtxMay_any n b m w
  by_cases h : t ≤ 2147483647
  · have h1 : decide (t ≤ 2147483647) = true := by simpa using h
    rw [h1, Bool.true_and]
    go_enter Try.func17, Try.ntmps17
    go_wp2_with (go_at_call 15; refine (C _).mono ?_; rintro e w' ⟨rfl, hB⟩)
    go_ret
    exact ⟨rfl, ((Below.refl _ _).alloc (Nat.le_refl _) _).trans (hB.mono (by simp))⟩
  · have h1 : decide (t ≤ 2147483647) = false := by simpa using h
    rw [h1, Bool.false_and]
    go_enter Try.func17, Try.ntmps17
    go_wp2
    go_ret
    exact ⟨rfl, (Below.refl _ _).alloc (Nat.le_refl _) _⟩
theorem regMay_any (b m : Int) (w : World) : Calls Try.prog 18 #[.agg #[.int .u32 b, .int .u32 m]] w fun e w' => e = .returned (.bool (regMayB (b, m))) ∧ Below w.heap.size w w' := by
  unfold regMayB
  cases hb : countB b
  all_goals
    go_enter Try.func18, Try.ntmps18
    go_wp2_with (go_at_call 54; refine (counts_any _ _).mono ?_; rintro e w' ⟨rfl, rfl⟩)
    go_ret
    exact ⟨rfl, (Below.refl _ _).alloc (Nat.le_refl _) _⟩
theorem rregMay_any (b m : Int) (w : World) : Calls Try.prog 19 #[.agg #[.int .u32 b, .int .u32 m]] w fun e w' => e = .returned (.bool (regMayB (b, m))) ∧ Below w.heap.size w w' := by
  unfold regMayB
  cases hb : countB b
  all_goals
    go_enter Try.func19, Try.ntmps19
    go_wp2_with (go_at_call 55; refine (rcount_any _ _).mono ?_; rintro e w' ⟨rfl, rfl⟩)
    go_ret
    exact ⟨rfl, (Below.refl _ _).alloc (Nat.le_refl _) _⟩
end Go.Proofs.Ytkdccigcpcchlaa
