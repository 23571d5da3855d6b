/-
  Walks of the reference's Has, With, Without and List. Own work.
-/
import Derived.Test.YtnljibmdcknmeabDoorWiths
namespace Go.Proofs.YtnljibmdcknmeabDoor
open Go.RowKit

theorem rbit_form (s p : Nat) (hs : s < 18446744073709551616) : (IntKind.u64.wrap ((s : Int) / (p : Int))).tmod 2 = ((s / p % 2 : Nat) : Int) := by
  have hle : s / p ≤ s := Nat.div_le_self _ _
  have e : (s : Int) / (p : Int) = ((s / p : Nat) : Int) := by simp
  rw [e]
  generalize s / p = q at *
  have e1 : IntKind.u64.wrap ((q : Nat) : Int) = (q : Int) := by rw [IntKind.wrap_u64]; omega
  rw [e1, Int.tmod_eq_emod_of_nonneg (by omega)]
  omega
set_option maxHeartbeats 400000 in
theorem rhas_in (s n : Nat) (hs : s < 18446744073709551616) (hn : n < 64) (w : World) :
    Calls Tryd.prog 24 #[.int .u64 s, .int .i64 n] w fun e w' => e = .returned (.bool (s.testBit n)) ∧ w' = w := by
  have hc := power_any (n : Int) (by omega) w
  rw [Int.toNat_natCast, pw_lt n hn] at hc
  have hf := rbit_form s (2 ^ n) hs
  have hb := bit_div s n
  have hpos : 0 < 2 ^ n := Nat.two_pow_pos n
  have H : Hid ((((s / 2 ^ n % 2 : Nat) : Int) == 1) = s.testBit n) := by
    refine hide ?_
    rw [hb]
    generalize s / 2 ^ n % 2 = q
    rw [Bool.eq_iff_iff, beq_iff_eq, decide_eq_true_iff]
    omega
  clear hb
  generalize s / 2 ^ n % 2 = q at *
  generalize (2 : Nat) ^ n = p at *
  have hPne : ¬ (p : Int) = 0 := by omega
  go_enter Tryd.func24, Tryd.ntmps24
  go_wp2_with (go_at_call 38; refine hc.mono ?_; rintro e w' ⟨rfl, rfl⟩)
  go_ret
  exact ⟨ret_bool H.out, rfl⟩
theorem rhas_out (s : Nat) (n : Int) (hn : n < 0 ∨ 64 ≤ n) (w : World) :
    Calls Tryd.prog 24 #[.int .u64 s, .int .i64 n] w fun e w' => e = .returned (.bool false) ∧ w' = w := by
  rcases hn with hn | hn
  · go_enter Tryd.func24, Tryd.ntmps24
    go_wp2
    go_ret
    exact ⟨rfl, rfl⟩
  · have h0 : 0 ≤ n := by omega
    go_enter Tryd.func24, Tryd.ntmps24
    go_wp2
    go_ret
    exact ⟨rfl, rfl⟩
/-- The list, as far as it has come. -/
def listTo (s k : Nat) : List Int := ((List.range k).filter (fun i => s.testBit i)).map fun (i : Nat) => (i : Int)
theorem listTo_hit (s k : Nat) (h : s.testBit k = true) : listTo s (k + 1) = listTo s k ++ [(k : Int)] := by
  simp [listTo, List.range_succ, h]
theorem listTo_miss (s k : Nat) (h : s.testBit k = false) : listTo s (k + 1) = listTo s k := by
  simp [listTo, List.range_succ, h]
theorem listTo_len (s k : Nat) : (listTo s k).length ≤ k := by
  unfold listTo
  rw [List.length_map]
  exact Nat.le_trans (List.length_filter_le _ _) (by simp)
set_option maxRecDepth 100000 in
set_option maxHeartbeats 800000 in
theorem rlist_any (s : Nat) (hs : s < 18446744073709551616) (w : World) :
    Calls Tryd.prog 8 #[.int .u64 s] w fun e w' => ∃ v, e = .returned v ∧ w'.ownsRow w.heap.size 3 1 v (listS s).length ((listS s).map (Value.int .i64)) ∧ Below w.heap.size w w' := by
  obtain ⟨i0, hi, hz0, hz1, hz2⟩ := info_parts info3
  have HE : Hid (listTo s 64 = listS s) := rfl
  go_enter Tryd.func8, Tryd.ntmps8
  go_wp2
  go_loopw [3, 4] (fun o i wr => ∃ k : Nat, k ≤ 64 ∧ i = .int .i64 k ∧ wr.ownsRow w.heap.size 3 1 o (listTo s k).length ((listTo s k).map (Value.int .i64)) ∧ Below w.heap.size w wr) (fun _ i _ => 64 - (intOf i).toNat)
  case atStart => exact ⟨0, by decide, rfl, World.ownsRow_nil _ _ _ _, Below.refl _ _⟩
  case round =>
    obtain ⟨k, hk, rfl, hown, hB⟩ := hrel
    have hbase := hB.size
    have hll := listTo_len s k
    by_cases hlt : k < 64
    · have hh := hide (rhas_in s k hs hlt wr)
      cases hb : s.testBit k
      · have HM := hide (listTo_miss s k hb)
        rw [hb] at hh
        clear hb
        go_wp2_with (go_at_call 24; refine hh.out.mono ?_; rintro e w' ⟨rfl, hw'⟩; rw [hw']; clear hw')
        go_roundw
        case rel => exact ⟨k + 1, by omega, by go_num, by rw [HM.out]; exact hown, hB⟩
        case measure => simp [intOf] <;> omega
      · have HM := hide (listTo_hit s k hb)
        rw [hb] at hh
        clear hb
        generalize hL : listTo s k = L at *
        clear hL
        go_wp2_with (first | (go_at_call 24; refine hh.out.mono ?_; rintro e w' ⟨rfl, hw'⟩; rw [hw']; clear hw') | (at_builtin; refine wpList_append_own _ rfl _ _ 30 rfl w.heap.size 3 i0 (.int .i64 0) 1 8 Tryd.underlying30 hi hz0 hz1 hz2 rfl (by decide) _ _ _ rfl (hown.alloc _) ⟨wr.heap.size, 0, none⟩ 1 1 [.int .i64 k] rfl rfl (cell_one_new _ _ _) (by simp [Value.oneCell']) (by unfold maxLen; omega) (by omega) (by simp; omega) ?_; intro v' w1 hown1 hgrow1 _))
        go_roundw
        case rel => exact ⟨k + 1, by omega, by go_num, by rw [HM.out]; simpa using hown1, (hB.alloc hbase _).grown hgrow1 (by simp; omega) (fun k hk => (hown.lt k hk).1)⟩
        case measure => simp [intOf] <;> omega
    · obtain rfl : k = 64 := by omega
      rw [HE.out] at hown
      go_wp2
      go_ret
      exact ⟨_, rfl, hown, hB⟩
end Go.Proofs.YtnljibmdcknmeabDoor
