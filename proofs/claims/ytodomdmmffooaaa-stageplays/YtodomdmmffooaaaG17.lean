/-
  Own texts put together: VtQuo, VtMake, VtCode, MpSmall, MpMore, IdCmp3, MpEq. Own work.
-/
import Derived.Test.YtodomdmmffooaaaG05
import Derived.Test.YtodomdmmffooaaaG06
import Derived.Test.YtodomdmmffooaaaG11
import Derived.Test.YtodomdmmffooaaaG16
import Derived.Test.YtodomdmmffooaaaG12
import Derived.Test.YtodomdmmffooaaaG13
import Derived.Test.YtodomdmmffooaaaG15
import Derived.WalkMore
import Derived.Deep.LoopGhost
namespace Go.Proofs.Ytodomdmmffooaaa
section
open Go.RowKit

theorem Lies.at {k : IntKind} {w : World} {v : Value} {xs : List Int} (h : Lies k w v xs) : ∃ (ao : Option Addr) (cap : Nat), v = .slice ao xs.length cap ∧ ∀ j, j < xs.length → ∃ b off, ao = some ⟨b, off, none⟩ ∧ ∀ i, i < xs.length → w.cell? ⟨b, off + i, none⟩ = some (.int k (xs.getD i 0)) := by
  rcases h with ⟨rfl, ao, cap, rfl, _⟩ | ⟨_, b, off, cap, rfl, _, _, _, hc⟩
  · exact ⟨ao, cap, rfl, fun j hj => by simp at hj⟩
  · exact ⟨_, cap, rfl, fun j _ => ⟨b, off, rfl, hc⟩⟩
end
section
open Go.RowKit

theorem load_bytes (w : World) (b off : Nat) (xs : List Int) (hc : ∀ t, t < xs.length → w.cell? ⟨b, off + t, none⟩ = some (.int .u8 (xs.getD t 0))) :
    (Extern.Bytes.loadBytes ⟨b, off, none⟩ xs.length .empty).run Try.prog w = .ok ⟨(Lib.bytesOf xs).toArray⟩ w := by
  have hl := Lib.run_loadBytesX (P := Try.prog) w xs ⟨b, off, none⟩ .empty (fun j x hj => by
    have hjl : j < xs.length := (List.getElem?_eq_some_iff.1 hj).1
    have e : (⟨b, off, none⟩ : Addr).add j = ⟨b, off + j, none⟩ := by unfold Addr.add; split <;> simp_all
    rw [e, hc j (by omega), List.getD_eq_getElem?_getD, hj]
    rfl)
  rw [hl]
  congr 1
  apply ByteArray.ext
  show (#[] : Array UInt8) ++ (Lib.bytesOf xs).toArray = (Lib.bytesOf xs).toArray
  simp
theorem run_compareSlice (w : World) (b1 o1 c1 b2 o2 c2 : Nat) (xs ys : List Int) (h1 : ∀ t, t < xs.length → w.cell? ⟨b1, o1 + t, none⟩ = some (.int .u8 (xs.getD t 0))) (h2 : ∀ t, t < ys.length → w.cell? ⟨b2, o2 + t, none⟩ = some (.int .u8 (ys.getD t 0))) :
    (Extern.BytealgCompare.compare #[.slice (some ⟨b1, o1, none⟩) xs.length c1, .slice (some ⟨b2, o2, none⟩) ys.length c2]).run Try.prog w = .ok (.int .i64 (Lib.compareBytes (Lib.bytesOf xs) (Lib.bytesOf ys))) w := by
  have l1 := load_bytes w b1 o1 xs h1
  have l2 := load_bytes w b2 o2 ys h2
  change Sem.run Try.prog (do pure (goInt (Extern.BytealgCompare.cmp (← Extern.Bytes.bytesOf (.slice (some ⟨b1, o1, none⟩) xs.length c1)) (← Extern.Bytes.bytesOf (.slice (some ⟨b2, o2, none⟩) ys.length c2))))) w = _
  simp only [Extern.Bytes.bytesOf, Sem.run_bind, Sem.run_pure, l1, l2, Result.andThen]
  rw [Lib.cmp_eq]
  rfl
set_option maxRecDepth 100000 in
theorem bcompare_any (w : World) (b1 o1 c1 b2 o2 c2 : Nat) (xs ys : List Int) (h1 : ∀ t, t < xs.length → w.cell? ⟨b1, o1 + t, none⟩ = some (.int .u8 (xs.getD t 0))) (h2 : ∀ t, t < ys.length → w.cell? ⟨b2, o2 + t, none⟩ = some (.int .u8 (ys.getD t 0)))
    (hl : xs.length = ys.length) (hx : ∀ c ∈ xs, 0 ≤ c ∧ c < 256) (hy : ∀ c ∈ ys, 0 ≤ c ∧ c < 256) :
    Calls Try.prog 83 #[.slice (some ⟨b1, o1, none⟩) xs.length c1, .slice (some ⟨b2, o2, none⟩) ys.length c2] w fun e w' => e = .returned (.int .i64 (lexF xs ys)) ∧ w' = w := by
  have hr := run_compareSlice w b1 o1 c1 b2 o2 c2 xs ys h1 h2
  rw [compare_lex xs ys hl hx hy] at hr
  generalize lexF xs ys = r at *
  generalize xs.length = n1 at *
  generalize ys.length = n2 at *
  clear h1 h2 hx hy hl
  go_enter Try.func83, Try.ntmps83
  go_wp2
  rw [run_callFunc_extern Try.func103 (by kernel_rfl) (by kernel_rfl) (by kernel_rfl) (e := Extern.BytealgCompare.compare) (by kernel_rfl), hr]
  simp only [Result.andThen]
  rw [Oper.upon_value]
  go_wp2
  go_ret
  exact ⟨rfl, rfl⟩
set_option maxRecDepth 100000 in
set_option maxHeartbeats 1600000 in
theorem keys_any (a b : List Int) (w : World) (ha : a.length = 8) (hb : b.length = 8) (hx : ∀ c ∈ a, 0 ≤ c ∧ c < 256) (hy : ∀ c ∈ b, 0 ≤ c ∧ c < 256) : Calls Try.prog 56 #[.agg (cells8 a), .agg (cells8 b)] w fun e w' => e = .returned (.int .i64 (lexF a b)) ∧ Below w.heap.size w w' := by
  have hA : Box ((w.alloc (.cells (cells8 a) 53)).alloc (.cells (cells8 b) 53)) w.heap.size (cells8 a) 53 := (box_new w _ _).belowI ((Below.refl _ _).alloc (Nat.le_refl _) _)
  have hB : Box ((w.alloc (.cells (cells8 a) 53)).alloc (.cells (cells8 b) 53)) (w.heap.size + 1) (cells8 b) 53 := by
    have := box_new (w.alloc (.cells (cells8 a) 53)) (cells8 b) 53
    rw [World.size_alloc] at this
    exact this
  have hc1 : ∀ n t, t < a.length → (((w.alloc (.cells (cells8 a) 53)).alloc (.cells (cells8 b) 53)).drewN n).cell? ⟨w.heap.size, 0 + t, none⟩ = some (.int .u8 (a.getD t 0)) := fun n t ht => by
    rw [Nat.zero_add]; exact hA.cell t _ (by simp [cells8, List.getD, ht])
  have hc2 : ∀ n t, t < b.length → (((w.alloc (.cells (cells8 a) 53)).alloc (.cells (cells8 b) 53)).drewN n).cell? ⟨w.heap.size + 1, 0 + t, none⟩ = some (.int .u8 (b.getD t 0)) := fun n t ht => by
    rw [Nat.zero_add]; exact hB.cell t _ (by simp [cells8, List.getD, ht])
  have HC : Hid (∀ n, Calls Try.prog 83 #[.slice (some ⟨w.heap.size, 0, none⟩) 8 8, .slice (some ⟨w.heap.size + 1, 0, none⟩) 8 8] (((w.alloc (.cells (cells8 a) 53)).alloc (.cells (cells8 b) 53)).drewN n) fun e w' => e = .returned (.int .i64 (lexF a b)) ∧ w' = (((w.alloc (.cells (cells8 a) 53)).alloc (.cells (cells8 b) 53)).drewN n)) := hide (fun n => by
    have h := bcompare_any _ w.heap.size 0 8 (w.heap.size + 1) 0 8 a b (hc1 n) (hc2 n) (by omega) hx hy
    rw [ha, hb] at h
    exact h)
  clear hA hB hc1 hc2 hx hy
  generalize lexF a b = r at *
  generalize cells8 a = ca at *
  generalize cells8 b = cb at *
  go_enter Try.func56, Try.ntmps56
  go_wp2
  go_quiet ((go_at_call 83; exact Calls.quiet_of_same (HC.out _)))
  go_wp2
  go_ret
  exact ⟨rfl, below_drewN (((Below.refl _ _).alloc (Nat.le_refl _) _).alloc (by simp) _)⟩
end
section
open Go.RowKit Classical

set_option maxRecDepth 100000 in
set_option maxHeartbeats 3200000 in
theorem equalWs_any (v1 v2 : Value) (la lb : List WrP) (w : World) (h1 : RSrc wrE w v1 la) (h2 : RSrc wrE w v2 lb) (ha : ∀ x ∈ la, KeyOk x.key ∧ ItOk x.it) (hb : ∀ x ∈ lb, KeyOk x.key ∧ ItOk x.it) :
    Calls Try.prog 57 #[v1, v2] w fun e w' => e = .returned (.bool (decide (la = lb))) ∧ Below w.heap.size w w' := by
  obtain ⟨a1, c1, rfl, hc1, hm1⟩ := h1.shape
  obtain ⟨a2, c2, rfl, hc2, hm2⟩ := h2.shape
  unfold maxLen at hm1 hm2
  have H1 := hide h1
  have H2 := hide h2
  have HA := hide ha
  have HB := hide hb
  obtain ⟨R, hR⟩ : ∃ R, R = decide (la = lb) := ⟨_, rfl⟩
  rw [← hR]
  have HR := hide hR
  obtain ⟨L1, hL1⟩ : ∃ L1, L1 = la.length := ⟨_, rfl⟩
  obtain ⟨L2, hL2⟩ : ∃ L2, L2 = lb.length := ⟨_, rfl⟩
  rw [← hL1, ← hL2]
  rw [← hL1] at hc1
  rw [← hL2] at hc2
  have HL1 := hide hL1
  have HL2 := hide hL2
  clear h1 h2 ha hb hR hL1 hL2
  by_cases hl : L1 = L2
  · subst hl
    have hne : ((L1 : Int) != (L1 : Int)) = false := by simp
    have hcm : (L1 : Int) ≤ 9223372036854775807 := by omega
    go_enter Try.func57, Try.ntmps57
    go_wp2_with fail
    go_loopg [13] L1 (fun g i wr => ∃ k : Nat, k + g = L1 ∧ i = .int .i64 k ∧ Hid (Below w.heap.size w wr) ∧ Hid (la.take k = lb.take k))
    case atStart => exact ⟨0, by omega, rfl, hide (Below.refl _ _), hide rfl⟩
    case round =>
      obtain ⟨k, hk, rfl, HBW, HT⟩ := hrel
      cases gk with
      | zero =>
        obtain rfl : k = L1 := by omega
        have hz : ¬ ((k : Int) < (k : Int)) := by omega
        have HE : Hid (R = true) := hide (by
          have := HT.out
          rw [HL1.out, List.take_length, ← HL1.out, HL2.out, List.take_length] at this
          rw [HR.out, decide_eq_true this])
        go_wp2_with fail
        go_ret
        exact ⟨by rw [HE.out]; rfl, HBW.out⟩
      | succ g =>
        have hz : (k : Int) < (L1 : Int) := by omega
        have hk1 : k < la.length := by rw [← HL1.out]; omega
        have hk2 : k < lb.length := by rw [← HL2.out]; omega
        have hkl : k < L1 := by omega
        have hS1 : RSrc wrE wr (.slice a1 L1 c1) la := by have := H1.out.below HBW.out; rw [← HL1.out] at this; exact this
        have hS2 : RSrc wrE wr (.slice a2 L1 c2) lb := by have := H2.out.below HBW.out; rw [← HL2.out] at this; exact this
        obtain ⟨b1, o1, rfl, hr1⟩ := hS1.range hk1
        obtain ⟨b2, o2, rfl, hr2⟩ := hS2.range hk2
        obtain ⟨x, hx⟩ : ∃ x, x = la[k] := ⟨_, rfl⟩
        obtain ⟨y, hy⟩ : ∃ y, y = lb[k] := ⟨_, rfl⟩
        rw [← hx] at hr1
        rw [← hy] at hr2
        have HR1 := hide hr1
        have HR2 := hide hr2
        have HXO : Hid (KeyOk x.key ∧ ItOk x.it) := hide (by rw [hx]; exact HA.out _ (List.getElem_mem hk1))
        have HYO : Hid (KeyOk y.key ∧ ItOk y.it) := hide (by rw [hy]; exact HB.out _ (List.getElem_mem hk2))
        have HXY : Hid (x = la[k] ∧ y = lb[k]) := hide ⟨hx, hy⟩
        have hbl : b1 < wr.heap.size := by obtain ⟨_, _, _, e, hb, _⟩ := hS1.at recWR.len hk1; cases e; exact hb
        have hbl2 : b2 < wr.heap.size := by obtain ⟨_, _, _, e, hb, _⟩ := hS2.at recWR.len hk2; cases e; exact hb
        clear hS1 hS2 hr1 hr2 hx hy
        by_cases hxy : x = y
        · have HN : Hid (∀ W, (binOp .neq 59 (.agg (wrA x)) (.agg (wrA y))).run Try.prog W = .ok (.bool false) W) := hide (fun W => by rw [neq_wr10 HXO.out HYO.out, decide_eq_true hxy]; rfl)
          have HT2 : Hid (la.take (k + 1) = lb.take (k + 1)) := hide (by rw [List.take_succ_eq_append_getElem hk1, List.take_succ_eq_append_getElem hk2, HT.out, ← HXY.out.1, ← HXY.out.2, hxy])
          go_wp2_with fail
          refine wp_region_vals (by kernel_rfl) [(16, .slice (some ⟨b1, o1, none⟩) L1 c1), (17, .int .i64 (k : Int)), (18, .pointer (some ⟨b1, o1 + k * 21, none⟩)), (19, .agg (wrA x)), (20, .slice (some ⟨b2, o2, none⟩) L1 c2), (21, .int .i64 (k : Int)), (22, .pointer (some ⟨b2, o2 + k * 21, none⟩)), (23, .agg (wrA y)), (24, .bool false)] (by kernel_rfl) rfl ?_ ?_
          · intro i o hi A w1 hB hold hdeps
            have hlt : i < 9 := (Array.getElem?_eq_some_iff.1 hi).1
            have hc : i = 0 ∨ i = 1 ∨ i = 2 ∨ i = 3 ∨ i = 4 ∨ i = 5 ∨ i = 6 ∨ i = 7 ∨ i = 8 := by omega
            clear hlt
            rcases hc with rfl | rfl | rfl | rfl | rfl | rfl | rfl | rfl | rfl
            · obtain rfl := Option.some.inj hi
              have s0 : A.tmps.getD 0 undef = .slice (some ⟨b1, o1, none⟩) L1 c1 := hold 0 (by kernel_rfl)
              exact r_pure hi rfl rfl (y_move _ s0)
            · obtain rfl := Option.some.inj hi
              have s5 : A.tmps.getD 5 undef = .int .i64 (k : Int) := hold 5 (by kernel_rfl)
              exact r_pure hi rfl rfl (y_move _ s5)
            · obtain rfl := Option.some.inj hi
              have s16 : A.tmps.getD 16 undef = .slice (some ⟨b1, o1, none⟩) L1 c1 := dep_of hdeps 0 (by kernel_rfl)
              have s17 : A.tmps.getD 17 undef = .int .i64 (k : Int) := dep_of hdeps 1 (by kernel_rfl)
              exact r_pure hi rfl rfl (y_idxW _ _ s16 s17 hkl)
            · obtain rfl := Option.some.inj hi
              have s18 : A.tmps.getD 18 undef = .pointer (some ⟨b1, o1 + k * 21, none⟩) := dep_of hdeps 2 (by kernel_rfl)
              exact r_pure hi rfl rfl (y_loadMid _ _ s18 (range_below HR1.out hbl hB) Try.underlying59 rfl infoWrite)
            · obtain rfl := Option.some.inj hi
              have s1 : A.tmps.getD 1 undef = .slice (some ⟨b2, o2, none⟩) L1 c2 := hold 1 (by kernel_rfl)
              exact r_pure hi rfl rfl (y_move _ s1)
            · obtain rfl := Option.some.inj hi
              have s5 : A.tmps.getD 5 undef = .int .i64 (k : Int) := hold 5 (by kernel_rfl)
              exact r_pure hi rfl rfl (y_move _ s5)
            · obtain rfl := Option.some.inj hi
              have s20 : A.tmps.getD 20 undef = .slice (some ⟨b2, o2, none⟩) L1 c2 := dep_of hdeps 4 (by kernel_rfl)
              have s21 : A.tmps.getD 21 undef = .int .i64 (k : Int) := dep_of hdeps 5 (by kernel_rfl)
              exact r_pure hi rfl rfl (y_idxW _ _ s20 s21 hkl)
            · obtain rfl := Option.some.inj hi
              have s22 : A.tmps.getD 22 undef = .pointer (some ⟨b2, o2 + k * 21, none⟩) := dep_of hdeps 6 (by kernel_rfl)
              exact r_pure hi rfl rfl (y_loadMid _ _ s22 (range_below HR2.out hbl2 hB) Try.underlying59 rfl infoWrite)
            · obtain rfl := Option.some.inj hi
              have s19 : A.tmps.getD 19 undef = .agg (wrA x) := dep_of hdeps 3 (by kernel_rfl)
              have s23 : A.tmps.getD 23 undef = .agg (wrA y) := dep_of hdeps 7 (by kernel_rfl)
              exact r_pure hi rfl rfl (y_bin _ _ _ _ _ s19 s23 (HN.out w1) (by kernel_rfl))
          · intro w8 hB8
            simp only [putAll, Act.put, List.setIfInBounds_toArray, List.set_cons_succ, List.set_cons_zero]
            have HB8 := hide hB8
            clear hB8
            go_wp2_with fail
            go_roundg g
            case measure => omega
            case rel => exact ⟨k + 1, by omega, by first | rfl | go_num, hide (HBW.out.trans (HB8.out.mono HBW.out.size)), HT2⟩
        · have HN : Hid (∀ W, (binOp .neq 59 (.agg (wrA x)) (.agg (wrA y))).run Try.prog W = .ok (.bool true) W) := hide (fun W => by rw [neq_wr10 HXO.out HYO.out, decide_eq_false hxy]; rfl)
          have HE : Hid (R = false) := hide (by
            rw [HR.out]
            refine decide_eq_false (fun e => hxy ?_)
            rw [HXY.out.1, HXY.out.2]
            simp only [e])
          go_wp2_with fail
          refine wp_region_vals (by kernel_rfl) [(16, .slice (some ⟨b1, o1, none⟩) L1 c1), (17, .int .i64 (k : Int)), (18, .pointer (some ⟨b1, o1 + k * 21, none⟩)), (19, .agg (wrA x)), (20, .slice (some ⟨b2, o2, none⟩) L1 c2), (21, .int .i64 (k : Int)), (22, .pointer (some ⟨b2, o2 + k * 21, none⟩)), (23, .agg (wrA y)), (24, .bool true)] (by kernel_rfl) rfl ?_ ?_
          · intro i o hi A w1 hB hold hdeps
            have hlt : i < 9 := (Array.getElem?_eq_some_iff.1 hi).1
            have hc : i = 0 ∨ i = 1 ∨ i = 2 ∨ i = 3 ∨ i = 4 ∨ i = 5 ∨ i = 6 ∨ i = 7 ∨ i = 8 := by omega
            clear hlt
            rcases hc with rfl | rfl | rfl | rfl | rfl | rfl | rfl | rfl | rfl
            · obtain rfl := Option.some.inj hi
              have s0 : A.tmps.getD 0 undef = .slice (some ⟨b1, o1, none⟩) L1 c1 := hold 0 (by kernel_rfl)
              exact r_pure hi rfl rfl (y_move _ s0)
            · obtain rfl := Option.some.inj hi
              have s5 : A.tmps.getD 5 undef = .int .i64 (k : Int) := hold 5 (by kernel_rfl)
              exact r_pure hi rfl rfl (y_move _ s5)
            · obtain rfl := Option.some.inj hi
              have s16 : A.tmps.getD 16 undef = .slice (some ⟨b1, o1, none⟩) L1 c1 := dep_of hdeps 0 (by kernel_rfl)
              have s17 : A.tmps.getD 17 undef = .int .i64 (k : Int) := dep_of hdeps 1 (by kernel_rfl)
              exact r_pure hi rfl rfl (y_idxW _ _ s16 s17 hkl)
            · obtain rfl := Option.some.inj hi
              have s18 : A.tmps.getD 18 undef = .pointer (some ⟨b1, o1 + k * 21, none⟩) := dep_of hdeps 2 (by kernel_rfl)
              exact r_pure hi rfl rfl (y_loadMid _ _ s18 (range_below HR1.out hbl hB) Try.underlying59 rfl infoWrite)
            · obtain rfl := Option.some.inj hi
              have s1 : A.tmps.getD 1 undef = .slice (some ⟨b2, o2, none⟩) L1 c2 := hold 1 (by kernel_rfl)
              exact r_pure hi rfl rfl (y_move _ s1)
            · obtain rfl := Option.some.inj hi
              have s5 : A.tmps.getD 5 undef = .int .i64 (k : Int) := hold 5 (by kernel_rfl)
              exact r_pure hi rfl rfl (y_move _ s5)
            · obtain rfl := Option.some.inj hi
              have s20 : A.tmps.getD 20 undef = .slice (some ⟨b2, o2, none⟩) L1 c2 := dep_of hdeps 4 (by kernel_rfl)
              have s21 : A.tmps.getD 21 undef = .int .i64 (k : Int) := dep_of hdeps 5 (by kernel_rfl)
              exact r_pure hi rfl rfl (y_idxW _ _ s20 s21 hkl)
            · obtain rfl := Option.some.inj hi
              have s22 : A.tmps.getD 22 undef = .pointer (some ⟨b2, o2 + k * 21, none⟩) := dep_of hdeps 6 (by kernel_rfl)
              exact r_pure hi rfl rfl (y_loadMid _ _ s22 (range_below HR2.out hbl2 hB) Try.underlying59 rfl infoWrite)
            · obtain rfl := Option.some.inj hi
              have s19 : A.tmps.getD 19 undef = .agg (wrA x) := dep_of hdeps 3 (by kernel_rfl)
              have s23 : A.tmps.getD 23 undef = .agg (wrA y) := dep_of hdeps 7 (by kernel_rfl)
              exact r_pure hi rfl rfl (y_bin _ _ _ _ _ s19 s23 (HN.out w1) (by kernel_rfl))
          · intro w8 hB8
            simp only [putAll, Act.put, List.setIfInBounds_toArray, List.set_cons_succ, List.set_cons_zero]
            have HB8 := hide hB8
            clear hB8
            go_wp2_with fail
            go_ret
            exact ⟨by rw [HE.out]; rfl, HBW.out.trans (HB8.out.mono HBW.out.size)⟩
  · have hne : ((L1 : Int) != (L2 : Int)) = true := by simp; omega
    have HE : Hid (R = false) := hide (by rw [HR.out]; exact decide_eq_false (fun e => hl (by rw [HL1.out, HL2.out, e])))
    go_enter Try.func57, Try.ntmps57
    go_wp2_with fail
    go_ret
    exact ⟨by rw [HE.out]; rfl, Below.refl _ _⟩
end
end Go.Proofs.Ytodomdmmffooaaa
