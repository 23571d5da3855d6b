/-
  Walks of Count, Has, With, Without, of the reference's Has, With, Without, List, Ints, and of 'alive', the probe that stands in each statement of layer 1. Own work.
-/
import Derived.Test.YtdfoclmkhhmdbabDoorLists
import Derived.Test.YtdfoclmkhhmdbabDoorBit
namespace Go.Proofs.YtdfoclmkhhmdbabDoor
open Go.RowKit

set_option maxHeartbeats 1000000 in
theorem ones_core (s x1 x2 x3 x4 x5 x6 c : Int) (w : World)
    (e1 : IntKind.u64.wrap (bits BinOp.and IntKind.u64 (s / 2) 6148914691236517205 + bits BinOp.and IntKind.u64 s 6148914691236517205) = x1)
    (e2 : IntKind.u64.wrap (bits BinOp.and IntKind.u64 (x1 / 4) 3689348814741910323 + bits BinOp.and IntKind.u64 x1 3689348814741910323) = x2)
    (e3 : bits BinOp.and IntKind.u64 (IntKind.u64.wrap (x2 / 16 + x2)) 1085102592571150095 = x3)
    (e4 : IntKind.u64.wrap (x3 + x3 / 256) = x4) (e5 : IntKind.u64.wrap (x4 + x4 / 65536) = x5) (e6 : IntKind.u64.wrap (x5 + x5 / 4294967296) = x6)
    (e7 : bits BinOp.and IntKind.i64 (wrap64 x6) 127 = c) :
    Calls Tryd.prog 12 #[.int .u64 s] w fun e w' => e = .returned (.int .i64 c) ∧ w' = w := by
  go_enter Tryd.func12, Tryd.ntmps12
  go_wp2
  go_ret
  exact ⟨rfl, rfl⟩
theorem ones_any (s : Nat) (hs : s < 18446744073709551616) (w : World) :
    Calls Tryd.prog 12 #[.int .u64 s] w fun e w' => e = .returned (.int .i64 (((listS s).length : Nat) : Int)) ∧ w' = w := by
  obtain ⟨x1, x2, x3, x4, x5, x6, e1, e2, e3, e4, e5, e6, l6, hl⟩ := ones_forms s hs
  have e7 : bits BinOp.and IntKind.i64 (wrap64 (x6 : Int)) 127 = (((listS s).length : Nat) : Int) := by
    clear e1 e2 e3 e4 e5 e6
    rw [i64_and127]
    unfold wrap64
    generalize (listS s).length = L at *
    omega
  exact ones_core (s : Int) (x1 : Int) (x2 : Int) (x3 : Int) (x4 : Int) (x5 : Int) (x6 : Int) (((listS s).length : Nat) : Int) w e1 e2 e3 e4 e5 e6 e7
theorem count_any (s : Nat) (hs : s < 18446744073709551616) (w : World) :
    Calls Tryd.prog 8 #[.int .u64 s] w fun e w' => e = .returned (.int .i64 (((listS s).length : Nat) : Int)) ∧ w' = w := by
  have h := ones_any s hs w
  go_enter Tryd.func8, Tryd.ntmps8
  go_wp2_with (go_at_call 12; refine h.mono ?_; rintro e w' ⟨rfl, rfl⟩)
  go_ret
  exact ⟨rfl, rfl⟩
theorem list_any (set : Nat) (hset : set < 18446744073709551616) (w : World) (hT : Tab w) :
    Calls Tryd.prog 4 #[.int .u64 set] w fun e w' => ∃ v, e = .returned v ∧ w'.ownsRow w.heap.size 3 1 v (listS set).length ((listS set).map (Value.int .i64)) ∧ Below w.heap.size w w' :=
  list_of_count set _ hset (listS_len set) w hT (count_any set hset w)

theorem has_in (s n : Nat) (hs : s < 18446744073709551616) (hn : n < 64) (w : World) :
    Calls Tryd.prog 5 #[.int .u64 s, .int .i64 n] w fun e w' => e = .returned (.bool (s.testBit n)) ∧ w' = w := by
  have ho := only_in n hn w
  have hp := pow_lt64 hn
  have hb := and_bit s n
  have ha := u64_and_nat s (2 ^ n) hs hp
  generalize (2 : Nat) ^ n = p at *
  have H : Hid ((((s &&& p : Nat) : Int) != 0) = s.testBit n) := by
    refine hide ?_
    rw [Bool.eq_iff_iff, ← hb]
    simp
  generalize s &&& p = r at *
  clear hb
  go_enter Tryd.func5, Tryd.ntmps5
  go_wp2_with (go_at_call 11; refine ho.mono ?_; rintro e w' ⟨rfl, rfl⟩)
  go_ret
  exact ⟨ret_bool H.out, rfl⟩
theorem has_out (s : Nat) (n : Int) (hs : s < 18446744073709551616) (hn : n < 0 ∨ 64 ≤ n) (w : World) :
    Calls Tryd.prog 5 #[.int .u64 s, .int .i64 n] w fun e w' => e = .returned (.bool false) ∧ w' = w := by
  have ho := only_out n hn w
  have ha := u64_and_nat s 0 hs (by decide)
  simp only [Nat.and_zero] at ha
  have hz : bits BinOp.and IntKind.u64 (s : Int) 0 = 0 := ha
  clear ha
  go_enter Tryd.func5, Tryd.ntmps5
  go_wp2_with (go_at_call 11; refine ho.mono ?_; rintro e w' ⟨rfl, rfl⟩)
  go_ret
  exact ⟨rfl, rfl⟩
set_option maxHeartbeats 800000 in
theorem ints_any (v1 v2 : Value) (xs : List Int) (w : World) (h1 : Lies .i64 w v1 xs) (h2 : Lies .i64 w v2 xs) :
    Calls Tryd.prog 17 #[v1, v2] w fun e w' => e = .returned (.bool true) ∧ ∃ n, w' = w.drewN n := by
  have hlen := h1.len
  unfold maxLen at hlen
  have hne : ((xs.length : Int) != (xs.length : Int)) = false := by simp
  rcases h1 with ⟨rfl, ao, cap, rfl, _⟩ | ⟨hx, b, off, cap, rfl, _, _, _, hc⟩
  · rcases h2 with ⟨_, ao2, cap2, rfl, _⟩ | ⟨hx, _⟩
    · go_enter Tryd.func17, Tryd.ntmps17
      go_wp2
      go_rounds 1
      go_ret
      exact ⟨rfl, 0, rfl⟩
    · exact absurd rfl hx
  · rcases h2 with ⟨hx2, _⟩ | ⟨_, b2, off2, cap2, rfl, _, _, _, hc2⟩
    · exact absurd hx2 hx
    · clear hx
      have hc' : Hid (∀ k, k < xs.length → w.cell? ⟨b, off + k, none⟩ = some (.int .i64 (xs.getD k 0))) := hc
      have hc2' : Hid (∀ k, k < xs.length → w.cell? ⟨b2, off2 + k, none⟩ = some (.int .i64 (xs.getD k 0))) := hc2
      clear hc hc2
      generalize hL : xs.length = L at *
      clear hL
      go_enter Tryd.func17, Tryd.ntmps17
      go_wp2
      go_loopw [5] (fun i wr => ∃ k : Nat, k ≤ L ∧ i = .int .i64 k ∧ ∃ n, wr = w.drewN n) (fun i _ => L - (intOf i).toNat)
      case atStart => exact ⟨0, Nat.zero_le _, rfl, 0, rfl⟩
      case round =>
        obtain ⟨k, hk, rfl, nd, rfl⟩ := hrel
        by_cases hlt : k < L
        · have c1 : w.cell? ⟨b, off + k, none⟩ = some (.int .i64 (xs.getD k 0)) := hc'.out k hlt
          have c2 : w.cell? ⟨b2, off2 + k, none⟩ = some (.int .i64 (xs.getD k 0)) := hc2'.out k hlt
          generalize xs.getD k 0 = c at *
          have hcc : (c != c) = false := by simp
          have hltI : (k : Int) < (L : Int) := by omega
          go_wp2
          go_quiet (fail)
          go_wp2
          go_roundw
          case rel => exact ⟨k + 1, by omega, by go_num, nd + nq, by simp⟩
          case measure => simp [intOf]; omega
        · go_wp2
          go_ret
          exact ⟨rfl, _, rfl⟩

theorem build2 {k : IntKind} {t : TypeId} (w : World) (a b : Int) : Lies k (w.alloc (.cells #[.int k a, .int k b] t)) (.slice (some ⟨w.heap.size, 0, none⟩) 2 2) [a, b] := by
  refine .inr ⟨by simp, w.heap.size, 0, 2, rfl, by simp, by simp, by decide, fun t ht => ?_⟩
  have ht2 : t < 2 := by simpa using ht
  match t, ht2 with
  | 0, _ => simp [World.cell?_alloc_at]
  | 1, _ => simp [World.cell?_alloc_at]

theorem longS_300 : longS [172, 2] = (300, 2, 0) := by decide +kernel

set_option maxRecDepth 100000 in
set_option maxHeartbeats 2000000 in
/-- The probe says true, and turns nothing that was there. -/
theorem alive_any (w : World) (hT : Tab w) :
    Calls Tryd.prog 9 #[] w fun e w' => e = .returned (.bool true) ∧ Below w.heap.size w w' := by
  have hTp := hT.pos
  go_enter Tryd.func9, Tryd.ntmps9
  go_wp2_with fail
  refine (short_any (.slice none 0 0) [] 300 w (Lies.nil _ _) (by decide) (by decide)).mono ?_
  rintro e w1 ⟨v1, rfl, hown1, hB1⟩
  rw [List.nil_append, shortS_300] at hown1
  have L1 := Lies.of_own hown1
  go_wp2_with fail
  refine (long_any v1 [172, 2] w1 L1 (by decide)).mono ?_
  rintro e w2 ⟨rfl, rfl⟩
  rw [longS_300]
  have hB2 := hB1.alloc hB1.size (.cells #[.int .u8 172, .int .u8 2] 5)
  go_wp2_with fail
  refine (same_any v1 _ [172, 2] _ (L1.below ((Below.refl _ w2).alloc (Nat.le_refl _) _)) (build2 w2 172 2)).mono ?_
  rintro e w3 ⟨rfl, h3⟩
  rw [← h3] at hB2
  clear h3 L1 hown1 hB1
  go_wp2_with fail
  refine (fold_any (-1) (by decide) (by decide) _).mono ?_
  rintro e w4 ⟨rfl, h4⟩
  rw [← h4] at hB2
  rw [show foldS (-1) = 1 by decide]
  clear h4
  go_wp2_with fail
  refine (list_any 5 (by decide) _ (hT.below hB2 hTp)).mono ?_
  rintro e w5 ⟨v5, rfl, hown5, hB5⟩
  rw [listS_five] at hown5
  have L5 := Lies.of_own hown5
  have hB5' := hB2.trans (hB5.mono hB2.size)
  have hB6 := hB5'.alloc hB5'.size (.cells #[.int .i64 0, .int .i64 2] 3)
  go_wp2_with fail
  refine (ints_any v5 _ [0, 2] _ (L5.below ((Below.refl _ w5).alloc (Nat.le_refl _) _)) (build2 w5 0 2)).mono ?_
  rintro e w6 ⟨rfl, nd, h6⟩
  have hB7 : Below w.heap.size w w6 := by rw [h6]; exact ⟨hB6.os, hB6.tape, hB6.output, hB6.size, hB6.block⟩
  clear h6 hB6
  go_wp2_with fail
  refine (has_in 5 2 (by decide) (by decide) _).mono ?_
  rintro e w8 ⟨rfl, h8⟩
  rw [← h8] at hB7
  rw [show (5 : Nat).testBit 2 = true by decide]
  clear h8
  go_wp2_with fail
  go_ret
  exact ⟨rfl, hB7⟩
end Go.Proofs.YtdfoclmkhhmdbabDoor
