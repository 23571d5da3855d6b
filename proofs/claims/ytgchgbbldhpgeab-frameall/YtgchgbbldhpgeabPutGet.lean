/-
  Walks of Put and Get, and of the reference's Put and Get. Own work.
-/
import Derived.Test.YtgchgbbldhpgeabBytes
import Derived.Test.YtgchgbbldhpgeabNums
import Derived.Laws.AppendOwnNone
namespace Go.Proofs.Ytgchgbbldhpgeab
open Go.RowKit

set_option maxHeartbeats 800000 in
theorem put_any (v : Value) (xs : List Int) (n : Nat) (size : Int) (w : World) (h : Lies .u8 w v xs) (hr : xs.length + 8 ≤ 140737488355328) :
    Calls Try.prog 16 #[v, .int .u64 n, .int .i64 size] w fun e w' => ∃ v', e = .returned v' ∧
      w'.ownsRow w.heap.size 5 1 v' (xs ++ putS n (clamp8 size)).length ((xs ++ putS n (clamp8 size)).map (Value.int .u8)) ∧ Below w.heap.size w w' := by
  obtain ⟨i0, hi, hz0, hz1, hz2⟩ := info_parts info5
  by_cases hneg : size < 0
  · have hcl : clamp8 size = 0 := by unfold clamp8; omega
    rw [hcl]
    have hcopy := copy_any v xs 0 w h (by omega)
    go_enter Try.func16, Try.ntmps16
    go_wp2_with (go_at_call 19; refine hcopy.mono ?_; rintro e w0 ⟨rfl, hown0, hB0⟩)
    go_rounds 1
    go_ret
    exact ⟨_, rfl, by simpa [putS] using hown0, hB0⟩
  by_cases hzer : size = 0
  · subst hzer
    have hcl : clamp8 0 = 0 := by decide
    rw [hcl]
    have hcopy := copy_any v xs 0 w h (by omega)
    go_enter Try.func16, Try.ntmps16
    go_wp2_with (go_at_call 19; refine hcopy.mono ?_; rintro e w0 ⟨rfl, hown0, hB0⟩)
    go_rounds 1
    go_ret
    exact ⟨_, rfl, by simpa [putS] using hown0, hB0⟩
  by_cases heq : size = 8
  · subst heq
    have hcl : clamp8 8 = 8 := by decide
    rw [hcl]
    have hcopy := copy_any v xs 8 w h (by omega)
    go_enter Try.func16, Try.ntmps16
    go_wp2_with (go_at_call 19; refine hcopy.mono ?_; rintro e w0 ⟨rfl, hown0, hB0⟩)
    go_loopw [7, 8] (fun o i wr => ∃ (x : Int) (j : Nat) (zs : List Int), i = .int .i64 x ∧ x + 1 = (j : Int) ∧ j ≤ 8 ∧ Hid (zs ++ putS n j = xs ++ putS n 8) ∧ wr.ownsRow w.heap.size 5 1 o zs.length (zs.map (Value.int .u8)) ∧ Below w.heap.size w wr) (fun _ i _ => (intOf i + 1).toNat)
    case atStart => exact ⟨_, 8, xs, rfl, by omega, Nat.le_refl _, rfl, hown0, hB0⟩
    case round =>
      obtain ⟨x, j, zs, rfl, hxj, hjk, HZ, hown, hB⟩ := hrel
      have hbase := hB.size
      have hzl : zs.length + j = xs.length + 8 := by
        have := congrArg List.length HZ.out
        simpa [putS_len] using this
      cases j with
      | zero =>
        obtain rfl : x = -1 := by omega
        have HE : Hid (xs ++ putS n 8 = zs) := by rw [← HZ.out]; simp [putS, Hid]
        go_wp2
        go_ret
        refine ⟨_, rfl, ?_, hB⟩
        rw [HE.out]
        exact hown
      | succ j =>
        obtain rfl : x = (j : Int) := by omega
        have ho := byte_of n j
        have HL : Hid ((zs ++ [((n / 256 ^ j % 256 : Nat) : Int)]) ++ putS n j = xs ++ putS n 8) := by rw [← HZ.out]; simp [putS, Hid]
        generalize ((n / 256 ^ j % 256 : Nat) : Int) = c at *
        have hz64 : zs.length + 1 ≤ 140737488355328 := by omega
        clear hzl hxj HZ
        go_wp2_with (at_builtin; refine wpList_append_own _ rfl _ _ 23 rfl w.heap.size 5 i0 (.int .u8 0) 1 1 Try.underlying23 hi hz0 hz1 hz2 rfl (by decide) _ _ _ rfl (hown.alloc _) ⟨wr.heap.size, 0, none⟩ 1 1 [.int .u8 c] rfl rfl (cell_one_new _ _ _) (by simp [Value.oneCell']) (by unfold maxLen; omega) (by omega) (by simp; omega) ?_; intro v' w1 hown1 hgrow1 _)
        go_roundw
        case rel => exact ⟨_, j, zs ++ [c], rfl, by omega, by omega, HL, by simpa using hown1, (hB.alloc hbase _).grown hgrow1 (by simp; omega) (fun k hk => (hown.lt k hk).1)⟩
        case measure => simp [intOf] <;> omega
  by_cases hbig : 8 < size
  · have hcl : clamp8 size = 8 := by unfold clamp8; omega
    rw [hcl]
    have hcopy := copy_any v xs 8 w h (by omega)
    go_enter Try.func16, Try.ntmps16
    go_wp2_with (go_at_call 19; refine hcopy.mono ?_; rintro e w0 ⟨rfl, hown0, hB0⟩)
    go_loopw [7, 8] (fun o i wr => ∃ (x : Int) (j : Nat) (zs : List Int), i = .int .i64 x ∧ x + 1 = (j : Int) ∧ j ≤ 8 ∧ Hid (zs ++ putS n j = xs ++ putS n 8) ∧ wr.ownsRow w.heap.size 5 1 o zs.length (zs.map (Value.int .u8)) ∧ Below w.heap.size w wr) (fun _ i _ => (intOf i + 1).toNat)
    case atStart => exact ⟨_, 8, xs, rfl, by omega, Nat.le_refl _, rfl, hown0, hB0⟩
    case round =>
      obtain ⟨x, j, zs, rfl, hxj, hjk, HZ, hown, hB⟩ := hrel
      have hbase := hB.size
      have hzl : zs.length + j = xs.length + 8 := by
        have := congrArg List.length HZ.out
        simpa [putS_len] using this
      cases j with
      | zero =>
        obtain rfl : x = -1 := by omega
        have HE : Hid (xs ++ putS n 8 = zs) := by rw [← HZ.out]; simp [putS, Hid]
        go_wp2
        go_ret
        refine ⟨_, rfl, ?_, hB⟩
        rw [HE.out]
        exact hown
      | succ j =>
        obtain rfl : x = (j : Int) := by omega
        have ho := byte_of n j
        have HL : Hid ((zs ++ [((n / 256 ^ j % 256 : Nat) : Int)]) ++ putS n j = xs ++ putS n 8) := by rw [← HZ.out]; simp [putS, Hid]
        generalize ((n / 256 ^ j % 256 : Nat) : Int) = c at *
        have hz64 : zs.length + 1 ≤ 140737488355328 := by omega
        clear hzl hxj HZ
        go_wp2_with (at_builtin; refine wpList_append_own _ rfl _ _ 23 rfl w.heap.size 5 i0 (.int .u8 0) 1 1 Try.underlying23 hi hz0 hz1 hz2 rfl (by decide) _ _ _ rfl (hown.alloc _) ⟨wr.heap.size, 0, none⟩ 1 1 [.int .u8 c] rfl rfl (cell_one_new _ _ _) (by simp [Value.oneCell']) (by unfold maxLen; omega) (by omega) (by simp; omega) ?_; intro v' w1 hown1 hgrow1 _)
        go_roundw
        case rel => exact ⟨_, j, zs ++ [c], rfl, by omega, by omega, HL, by simpa using hown1, (hB.alloc hbase _).grown hgrow1 (by simp; omega) (fun k hk => (hown.lt k hk).1)⟩
        case measure => simp [intOf] <;> omega
  · obtain ⟨k, rfl⟩ := Int.eq_ofNat_of_zero_le (show 0 ≤ size by omega)
    have hcl : clamp8 (k : Int) = k := by unfold clamp8; omega
    rw [hcl]
    have hk8 : (k : Int) < 8 := by omega
    have hk0 : (0 : Int) < (k : Int) := by omega
    have hcopy := copy_any v xs k w h (by omega)
    clear hcl hneg hbig heq hzer
    go_enter Try.func16, Try.ntmps16
    go_wp2_with (go_at_call 19; refine hcopy.mono ?_; rintro e w0 ⟨rfl, hown0, hB0⟩)
    go_loopw [7, 8] (fun o i wr => ∃ (x : Int) (j : Nat) (zs : List Int), i = .int .i64 x ∧ x + 1 = (j : Int) ∧ j ≤ k ∧ Hid (zs ++ putS n j = xs ++ putS n k) ∧ wr.ownsRow w.heap.size 5 1 o zs.length (zs.map (Value.int .u8)) ∧ Below w.heap.size w wr) (fun _ i _ => (intOf i + 1).toNat)
    case atStart => exact ⟨_, k, xs, rfl, by omega, Nat.le_refl _, rfl, hown0, hB0⟩
    case round =>
      obtain ⟨x, j, zs, rfl, hxj, hjk, HZ, hown, hB⟩ := hrel
      have hbase := hB.size
      have hzl : zs.length + j = xs.length + k := by
        have := congrArg List.length HZ.out
        simpa [putS_len] using this
      cases j with
      | zero =>
        obtain rfl : x = -1 := by omega
        have HE : Hid (xs ++ putS n k = zs) := by rw [← HZ.out]; simp [putS, Hid]
        go_wp2
        go_ret
        refine ⟨_, rfl, ?_, hB⟩
        rw [HE.out]
        exact hown
      | succ j =>
        obtain rfl : x = (j : Int) := by omega
        have ho := byte_of n j
        have HL : Hid ((zs ++ [((n / 256 ^ j % 256 : Nat) : Int)]) ++ putS n j = xs ++ putS n k) := by rw [← HZ.out]; simp [putS, Hid]
        generalize ((n / 256 ^ j % 256 : Nat) : Int) = c at *
        have hz64 : zs.length + 1 ≤ 140737488355328 := by omega
        clear hzl hxj HZ
        go_wp2_with (at_builtin; refine wpList_append_own _ rfl _ _ 23 rfl w.heap.size 5 i0 (.int .u8 0) 1 1 Try.underlying23 hi hz0 hz1 hz2 rfl (by decide) _ _ _ rfl (hown.alloc _) ⟨wr.heap.size, 0, none⟩ 1 1 [.int .u8 c] rfl rfl (cell_one_new _ _ _) (by simp [Value.oneCell']) (by unfold maxLen; omega) (by omega) (by simp; omega) ?_; intro v' w1 hown1 hgrow1 _)
        go_roundw
        case rel => exact ⟨_, j, zs ++ [c], rfl, by omega, by omega, HL, by simpa using hown1, (hB.alloc hbase _).grown hgrow1 (by simp; omega) (fun k hk => (hown.lt k hk).1)⟩
        case measure => simp [intOf] <;> omega

theorem rbyte_of (n j : Nat) (hn : n < 18446744073709551616) : (IntKind.u64.wrap ((n : Int) / ((256 ^ j : Nat) : Int))).tmod 256 % 256 = ((n / 256 ^ j % 256 : Nat) : Int) := by
  have hle : n / 256 ^ j ≤ n := Nat.div_le_self _ _
  have e : (n : Int) / ((256 ^ j : Nat) : Int) = ((n / 256 ^ j : Nat) : Int) := by simp
  rw [e]
  generalize n / 256 ^ j = q at *
  have e1 : IntKind.u64.wrap ((q : Nat) : Int) = (q : Int) := by rw [IntKind.wrap_u64]; omega
  rw [e1, Int.tmod_eq_emod_of_nonneg (by omega)]
  omega
end Go.Proofs.Ytgchgbbldhpgeab
