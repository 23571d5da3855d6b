/-
  Own texts put together: IdRKey, IdRName, IdRef, IdRef2, IdRef3, IdNum, MgR1. Own work.
-/
import Derived.Test.YtlegliimgjmphaaGreatG16
import Derived.Test.YtlegliimgjmphaaGreatG05
import Derived.Test.YtlegliimgjmphaaGreatG07
import Derived.Test.YtlegliimgjmphaaGreatG15
import Derived.Test.YtlegliimgjmphaaGreatG01
import Derived.Test.YtlegliimgjmphaaGreatG09
import Derived.Deep.RegionHeldLaw
import Derived.Deep.QuietTactic
import Derived.BigQuiet
import Derived.Maps.AppendAt
import Derived.Sort.Grow
namespace Go.Proofs.YtlegliimgjmphaaGreat
section
open Go.RowKit
theorem counts_any (n : Int) (w : World) : Calls Tryz.prog 174 #[.int .u32 n] w fun e w' => e = .returned (.bool (countB n)) ∧ w' = w := by
 unfold countB
 by_cases h : 1 ≤ n
 ·have h1 : decide (1 ≤ n) = true := by simpa using h
  rw [h1, Bool.true_and]
  go_enter Tryz.func174, Tryz.ntmps174
  go_wp2
  go_ret
  exact ⟨rfl, rfl⟩
 ·have h1 : decide (1 ≤ n) = false := by simpa using h
  rw [h1, Bool.false_and]
  go_enter Tryz.func174, Tryz.ntmps174
  go_wp2
  go_ret
  exact ⟨rfl, rfl⟩
theorem txMay_any (n b m : Int) (w : World) : Calls Tryz.prog 117 #[.agg #[.int .u8 n, .int .u32 b, .int .u32 m]] w fun e w' => e = .returned (.bool (txMayB (n, b, m))) ∧ Below w.heap.size w w' := by
 unfold txMayB
 by_cases h : n < 8
 ·have h1 : decide (n < 8) = true := by simpa using h
  rw [h1, Bool.true_and]
  cases hb : countB b
  all_goals
   go_enter Tryz.func117, Tryz.ntmps117
   go_wp2_with (go_at_call 174; refine (counts_any _ _).mono ?_; rintro e w' ⟨rfl, rfl⟩)
   go_ret
   exact ⟨rfl, (Below.refl _ _).alloc (Nat.le_refl _) _⟩
 ·have h1 : decide (n < 8) = false := by simpa using h
  rw [h1, Bool.false_and]
  go_enter Tryz.func117, Tryz.ntmps117
  go_wp2
  go_ret
  exact ⟨rfl, (Below.refl _ _).alloc (Nat.le_refl _) _⟩
theorem regMay_any (b m : Int) (w : World) : Calls Tryz.prog 121 #[.agg #[.int .u32 b, .int .u32 m]] w fun e w' => e = .returned (.bool (regMayB (b, m))) ∧ Below w.heap.size w w' := by
 unfold regMayB
 cases hb : countB b
 all_goals
  go_enter Tryz.func121, Tryz.ntmps121
  go_wp2_with (go_at_call 174; refine (counts_any _ _).mono ?_; rintro e w' ⟨rfl, rfl⟩)
  go_ret
  exact ⟨rfl, (Below.refl _ _).alloc (Nat.le_refl _) _⟩
end
section
open Go.RowKit Classical
theorem eight_cells8 {k : List Int} (h : k.length = 8) : cells8 k = eightA k := by
 unfold cells8
 rw [← eightE_map h]
theorem cf_arr {c : Cf} (h : c.Ok) : c.arr = (cfE c).toArray := by unfold Cf.arr; rw [cfE_cells h]
end
end Go.Proofs.YtlegliimgjmphaaGreat
