/-
  A disk that nobody made: nil, or a new variable: each method's answer. Own work.
-/
import Derived.Test.YtjjmcaamgoffiaaDkLaw
namespace Go.Proofs.Ytjjmcaamgoffiaa
open Go.RowKit

def zdisk : Array Value := #[.int .i64 0, .slice none 0 0, .bool false, .int .i64 0, .int .i64 0, .int .i64 0, .int .i64 0, .bool false]
/-- Nobody made it. -/
def Nob (w : World) (v : Value) : Prop := v = .pointer none ∨ ∃ z, v = .pointer (some ⟨z, 0, none⟩) ∧ Box w z zdisk 62
theorem given_no (v : Value) (w : World) (h : Nob w v) : Calls Try.prog 43 #[v] w fun e w' => e = .returned (.bool false) ∧ w' = w := by
  rcases h with rfl | ⟨z, rfl, hb⟩
  · go_enter Try.func43, Try.ntmps43
    go_wp2
    go_ret
    exact ⟨rfl, rfl⟩
  · have m2 : w.cell? ⟨z, 2, none⟩ = some (.bool false) := hb.cell 2 _ rfl
    clear hb
    go_enter Try.func43, Try.ntmps43
    go_wp2
    go_ret
    exact ⟨rfl, rfl⟩
theorem ready_no (v : Value) (w : World) (h : Nob w v) : Calls Try.prog 39 #[v] w fun e w' => e = .returned (.int .i64 2) ∧ w' = w := by
  have C := hide (given_no v w h)
  clear h
  go_enter Try.func39, Try.ntmps39
  go_wp2_with fail
  refine C.out.mono ?_
  rintro e w1 ⟨rfl, rfl⟩
  go_wp2_with fail
  go_ret
  exact ⟨rfl, rfl⟩
theorem within_no (v : Value) (n : Int) (w : World) (h : Nob w v) : Calls Try.prog 47 #[v, .int .i64 n] w fun e w' => e = .returned (.int .i64 2) ∧ w' = w := by
  have C := hide (ready_no v w h)
  clear h
  go_enter Try.func47, Try.ntmps47
  go_wp2_with fail
  refine C.out.mono ?_
  rintro e w1 ⟨rfl, rfl⟩
  go_wp2_with fail
  go_ret
  exact ⟨rfl, rfl⟩
theorem base_no (v : Value) (w : World) (h : Nob w v) : Calls Try.prog 19 #[v] w fun e w' => e = .returned (.int .i64 0) ∧ w' = w := by
  have C := hide (given_no v w h)
  clear h
  go_enter Try.func19, Try.ntmps19
  go_wp2_with fail
  refine C.out.mono ?_
  rintro e w1 ⟨rfl, rfl⟩
  go_wp2_with fail
  go_ret
  exact ⟨rfl, rfl⟩
theorem end_no (v : Value) (w : World) (h : Nob w v) : Calls Try.prog 20 #[v] w fun e w' => e = .returned (.int .i64 0) ∧ w' = w := by
  have C := hide (given_no v w h)
  clear h
  go_enter Try.func20, Try.ntmps20
  go_wp2_with fail
  refine C.out.mono ?_
  rintro e w1 ⟨rfl, rfl⟩
  go_wp2_with fail
  go_ret
  exact ⟨rfl, rfl⟩
theorem left_no (v : Value) (w : World) (h : Nob w v) : Calls Try.prog 21 #[v] w fun e w' => e = .returned (.int .i64 0) ∧ w' = w := by
  have C := hide (given_no v w h)
  clear h
  go_enter Try.func21, Try.ntmps21
  go_wp2_with fail
  refine C.out.mono ?_
  rintro e w1 ⟨rfl, rfl⟩
  go_wp2_with fail
  go_ret
  exact ⟨rfl, rfl⟩
theorem room_no (v : Value) (w : World) (h : Nob w v) : Calls Try.prog 23 #[v] w fun e w' => e = .returned (.int .i64 0) ∧ w' = w := by
  have C := hide (given_no v w h)
  clear h
  go_enter Try.func23, Try.ntmps23
  go_wp2_with fail
  refine C.out.mono ?_
  rintro e w1 ⟨rfl, rfl⟩
  go_wp2_with fail
  go_ret
  exact ⟨rfl, rfl⟩
theorem on_no (v : Value) (w : World) (h : Nob w v) : Calls Try.prog 24 #[v] w fun e w' => e = .returned (.bool false) ∧ w' = w := by
  have C := hide (given_no v w h)
  clear h
  go_enter Try.func24, Try.ntmps24
  go_wp2_with fail
  refine C.out.mono ?_
  rintro e w1 ⟨rfl, rfl⟩
  go_wp2_with fail
  go_ret
  exact ⟨rfl, rfl⟩
theorem forced_no (v : Value) (w : World) (h : Nob w v) : Calls Try.prog 17 #[v] w fun e w' => e = .returned (.tuple #[.int .i64 0, .int .i64 0]) ∧ w' = w := by
  have C := hide (given_no v w h)
  clear h
  go_enter Try.func17, Try.ntmps17
  go_wp2_with fail
  refine C.out.mono ?_
  rintro e w1 ⟨rfl, rfl⟩
  go_wp2_with fail
  go_ret2
  exact ⟨rfl, rfl⟩
theorem fail_no (v : Value) (w : World) (h : Nob w v) : Calls Try.prog 30 #[v] w fun e w' => e = .returned (.int .i64 2) ∧ w' = w := by
  have C := hide (given_no v w h)
  clear h
  go_enter Try.func30, Try.ntmps30
  go_wp2_with fail
  refine C.out.mono ?_
  rintro e w1 ⟨rfl, rfl⟩
  go_wp2_with fail
  go_ret
  exact ⟨rfl, rfl⟩
theorem start_no (v : Value) (n : Int) (c : Bool) (x : Value) (w : World) (h : Nob w v) : Calls Try.prog 25 #[v, .int .i64 n, .bool c, x] w fun e w' => e = .returned (.int .i64 2) ∧ w' = w := by
  have C := hide (given_no v w h)
  clear h
  go_enter Try.func25, Try.ntmps25
  go_wp2_with fail
  refine C.out.mono ?_
  rintro e w1 ⟨rfl, rfl⟩
  go_wp2_with fail
  go_ret
  exact ⟨rfl, rfl⟩
theorem arm_no (v : Value) (n : Int) (w : World) (h : Nob w v) : Calls Try.prog 26 #[v, .int .i64 n] w fun e w' => e = .returned (.tuple #[]) ∧ w' = w := by
  have C := hide (given_no v w h)
  clear h
  go_enter Try.func26, Try.ntmps26
  go_wp2_with fail
  refine C.out.mono ?_
  rintro e w1 ⟨rfl, rfl⟩
  go_wp2_with fail
  go_end0
  exact ⟨rfl, rfl⟩
theorem force_no (v : Value) (w : World) (h : Nob w v) : Calls Try.prog 27 #[v] w fun e w' => e = .returned (.int .i64 2) ∧ w' = w := by
  have C := hide (ready_no v w h)
  clear h
  go_enter Try.func27, Try.ntmps27
  go_wp2_with fail
  refine C.out.mono ?_
  rintro e w1 ⟨rfl, rfl⟩
  go_wp2_with fail
  go_ret
  exact ⟨rfl, rfl⟩
theorem append_no (v : Value) (x : Value) (w : World) (h : Nob w v) : Calls Try.prog 28 #[v, x] w fun e w' => e = .returned (.tuple #[.int .i64 0, .int .i64 2]) ∧ w' = w := by
  have C := hide (ready_no v w h)
  clear h
  go_enter Try.func28, Try.ntmps28
  go_wp2_with fail
  refine C.out.mono ?_
  rintro e w1 ⟨rfl, rfl⟩
  go_wp2_with fail
  go_ret2
  exact ⟨rfl, rfl⟩
theorem read_no (v : Value) (w : World) (h : Nob w v) : Calls Try.prog 15 #[v] w fun e w' => e = .returned (.tuple #[.slice none 0 0, .int .i64 2]) ∧ w' = w := by
  have C := hide (ready_no v w h)
  clear h
  go_enter Try.func15, Try.ntmps15
  go_wp2_with fail
  refine C.out.mono ?_
  rintro e w1 ⟨rfl, rfl⟩
  go_wp2_with fail
  go_ret2
  exact ⟨rfl, rfl⟩
theorem cut_no (v : Value) (n : Int) (w : World) (h : Nob w v) : Calls Try.prog 29 #[v, .int .i64 n] w fun e w' => e = .returned (.int .i64 2) ∧ w' = w := by
  have C := hide (within_no v n w h)
  clear h
  go_enter Try.func29, Try.ntmps29
  go_wp2_with fail
  refine C.out.mono ?_
  rintro e w1 ⟨rfl, rfl⟩
  go_wp2_with fail
  go_ret
  exact ⟨rfl, rfl⟩
theorem trim_no (v : Value) (n : Int) (w : World) (h : Nob w v) : Calls Try.prog 31 #[v, .int .i64 n] w fun e w' => e = .returned (.int .i64 2) ∧ w' = w := by
  have C := hide (within_no v n w h)
  clear h
  go_enter Try.func31, Try.ntmps31
  go_wp2_with fail
  refine C.out.mono ?_
  rintro e w1 ⟨rfl, rfl⟩
  go_wp2_with fail
  go_ret
  exact ⟨rfl, rfl⟩
end Go.Proofs.Ytjjmcaamgoffiaa
