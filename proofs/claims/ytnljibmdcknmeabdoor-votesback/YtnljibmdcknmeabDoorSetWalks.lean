/-
  Walks of Count, Has, With, Without, of the reference's Has, With, Without, List, Ints, and of 'alive', the probe that stands in each statement of layer 1. Own work.
-/
import Derived.Test.YtnljibmdcknmeabDoorLists
import Derived.Test.YtnljibmdcknmeabDoorBit
namespace Go.Proofs.YtnljibmdcknmeabDoor
open Go.RowKit

set_option maxHeartbeats 1000000 in
theorem ones_core (s x1 x2 x3 x4 x5 x6 c : Int) (w : World)
    (e1 : IntKind.u64.wrap (bits BinOp.and IntKind.u64 (s / 2) 6148914691236517205 + bits BinOp.and IntKind.u64 s 6148914691236517205) = x1)
    (e2 : IntKind.u64.wrap (bits BinOp.and IntKind.u64 (x1 / 4) 3689348814741910323 + bits BinOp.and IntKind.u64 x1 3689348814741910323) = x2)
    (e3 : bits BinOp.and IntKind.u64 (IntKind.u64.wrap (x2 / 16 + x2)) 1085102592571150095 = x3)
    (e4 : IntKind.u64.wrap (x3 + x3 / 256) = x4) (e5 : IntKind.u64.wrap (x4 + x4 / 65536) = x5) (e6 : IntKind.u64.wrap (x5 + x5 / 4294967296) = x6)
    (e7 : bits BinOp.and IntKind.i64 (wrap64 x6) 127 = c) :
    Calls Tryd.prog 39 #[.int .u64 s] w fun e w' => e = .returned (.int .i64 c) ∧ w' = w := by
  go_enter Tryd.func39, Tryd.ntmps39
  go_wp2
  go_ret
  exact ⟨rfl, rfl⟩
theorem ones_any (s : Nat) (hs : s < 18446744073709551616) (w : World) :
    Calls Tryd.prog 39 #[.int .u64 s] w fun e w' => e = .returned (.int .i64 (((listS s).length : Nat) : Int)) ∧ w' = w := by
  obtain ⟨x1, x2, x3, x4, x5, x6, e1, e2, e3, e4, e5, e6, l6, hl⟩ := ones_forms s hs
  have e7 : bits BinOp.and IntKind.i64 (wrap64 (x6 : Int)) 127 = (((listS s).length : Nat) : Int) := by
    clear e1 e2 e3 e4 e5 e6
    rw [i64_and127]
    unfold wrap64
    generalize (listS s).length = L at *
    omega
  exact ones_core (s : Int) (x1 : Int) (x2 : Int) (x3 : Int) (x4 : Int) (x5 : Int) (x6 : Int) (((listS s).length : Nat) : Int) w e1 e2 e3 e4 e5 e6 e7
theorem count_any (s : Nat) (hs : s < 18446744073709551616) (w : World) :
    Calls Tryd.prog 25 #[.int .u64 s] w fun e w' => e = .returned (.int .i64 (((listS s).length : Nat) : Int)) ∧ w' = w := by
  have h := ones_any s hs w
  go_enter Tryd.func25, Tryd.ntmps25
  go_wp2_with (go_at_call 39; refine h.mono ?_; rintro e w' ⟨rfl, rfl⟩)
  go_ret
  exact ⟨rfl, rfl⟩
theorem list_any (set : Nat) (hset : set < 18446744073709551616) (w : World) (hT : Tab w) :
    Calls Tryd.prog 21 #[.int .u64 set] w fun e w' => ∃ v, e = .returned v ∧ w'.ownsRow w.heap.size 3 1 v (listS set).length ((listS set).map (Value.int .i64)) ∧ Below w.heap.size w w' :=
  list_of_count set _ hset (listS_len set) w hT (count_any set hset w)

theorem has_in (s n : Nat) (hs : s < 18446744073709551616) (hn : n < 64) (w : World) :
    Calls Tryd.prog 26 #[.int .u64 s, .int .i64 n] w fun e w' => e = .returned (.bool (s.testBit n)) ∧ w' = w := by
  have ho := only_in n hn w
  have hp := pow_lt64 hn
  have hb := and_bit s n
  have ha := u64_and_nat s (2 ^ n) hs hp
  generalize (2 : Nat) ^ n = p at *
  have H : Hid ((((s &&& p : Nat) : Int) != 0) = s.testBit n) := by
    refine hide ?_
    rw [Bool.eq_iff_iff, ← hb]
    simp
  generalize s &&& p = r at *
  clear hb
  go_enter Tryd.func26, Tryd.ntmps26
  go_wp2_with (go_at_call 37; refine ho.mono ?_; rintro e w' ⟨rfl, rfl⟩)
  go_ret
  exact ⟨ret_bool H.out, rfl⟩
theorem has_out (s : Nat) (n : Int) (hs : s < 18446744073709551616) (hn : n < 0 ∨ 64 ≤ n) (w : World) :
    Calls Tryd.prog 26 #[.int .u64 s, .int .i64 n] w fun e w' => e = .returned (.bool false) ∧ w' = w := by
  have ho := only_out n hn w
  have ha := u64_and_nat s 0 hs (by decide)
  simp only [Nat.and_zero] at ha
  have hz : bits BinOp.and IntKind.u64 (s : Int) 0 = 0 := ha
  clear ha
  go_enter Tryd.func26, Tryd.ntmps26
  go_wp2_with (go_at_call 37; refine ho.mono ?_; rintro e w' ⟨rfl, rfl⟩)
  go_ret
  exact ⟨rfl, rfl⟩
theorem build2 {k : IntKind} {t : TypeId} (w : World) (a b : Int) : Lies k (w.alloc (.cells #[.int k a, .int k b] t)) (.slice (some ⟨w.heap.size, 0, none⟩) 2 2) [a, b] := by
  refine .inr ⟨by simp, w.heap.size, 0, 2, rfl, by simp, by simp, by decide, fun t ht => ?_⟩
  have ht2 : t < 2 := by simpa using ht
  match t, ht2 with
  | 0, _ => simp [World.cell?_alloc_at]
  | 1, _ => simp [World.cell?_alloc_at]

theorem longS_300 : longS [172, 2] = (300, 2, 0) := by decide +kernel

end Go.Proofs.YtnljibmdcknmeabDoor
