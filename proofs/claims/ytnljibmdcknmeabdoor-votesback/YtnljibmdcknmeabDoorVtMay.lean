/-
  Walks of Total, May, Reads, Writes of the program. Own work.
-/
import Derived.Test.YtnljibmdcknmeabDoorVtOps
namespace Go.Proofs.YtnljibmdcknmeabDoor
open Go.RowKit

theorem alloc_below (w : World) (o : Obj) : Below w.heap.size w (w.alloc o) := (Below.refl _ _).alloc (Nat.le_refl _) o
theorem Box.belowV {w w' : World} {p : Nat} {cs : Array Value} {t : TypeId} (h : Box w p cs t) (hB : Below w.heap.size w w') : Box w' p cs t := h.keep (KeepBut.of_below (fun _ => False) hB) id
theorem vot64 (vs : List Nat) : votN vs 8 < 18446744073709551616 := by have := vot256 vs; omega
theorem ofB (c : Cf) (s : Nat) (hok : c.Ok) (hs : s < 18446744073709551616) (w : World) :
    Calls Tryd.prog 10 #[.agg c.arr, .int .u64 ((s : Nat) : Int)] w fun e w' => e = .returned (.int .i64 ((ofN c.vs s 8 : Nat) : Int)) ∧ Below w.heap.size w w' :=
  (of_any c s hok hs w).mono fun _ _ ⟨he, hw⟩ => ⟨he, hw ▸ alloc_below _ _⟩
theorem votersB (c : Cf) (hok : c.Ok) (w : World) :
    Calls Tryd.prog 7 #[.agg c.arr] w fun e w' => e = .returned (.int .u64 ((votN c.vs 8 : Nat) : Int)) ∧ Below w.heap.size w w' :=
  (voters_any c hok w).mono fun _ _ ⟨he, hw⟩ => ⟨he, hw ▸ alloc_below _ _⟩
set_option maxRecDepth 100000 in
theorem total_any (c : Cf) (hok : c.Ok) (w : World) :
    Calls Tryd.prog 12 #[.agg c.arr] w fun e w' => e = .returned (.int .i64 ((totN c.vs 8 : Nat) : Int)) ∧ Below w.heap.size w w' := by
  have hsz := hok.size
  have HO := hide hok
  have HX := hide (box_new w c.arr 25)
  have HB := hide (alloc_below w (.cells c.arr 25))
  have CV := hide (fun W => votersB c hok W)
  have CO := hide (fun W => ofB c (votN c.vs 8) hok (vot64 c.vs) W)
  rw [of_vot c.vs 8 8 (Nat.le_refl _)] at CO
  generalize votN c.vs 8 = V at *
  generalize totN c.vs 8 = T at *
  clear hok
  go_enter Tryd.func12, Tryd.ntmps12
  go_wp2_with fail
  refine wp_region_vals (by kernel_rfl) [(3, .agg c.arr), (4, .agg c.arr), (5, .int .u64 ((V : Nat) : Int)), (6, .int .i64 ((T : Nat) : Int)), (2, .int .i64 ((T : Nat) : Int))] (by kernel_rfl) rfl ?_ ?_
  · intro i o hi A w1 hB hold hdeps
    have hX1 := HX.out.belowV hB
    have hlt : i < 5 := (Array.getElem?_eq_some_iff.1 hi).1
    have hc : i = 0 ∨ i = 1 ∨ i = 2 ∨ i = 3 ∨ i = 4 := by omega
    clear hlt
    rcases hc with rfl | rfl | rfl | rfl | rfl
    · obtain rfl := Option.some.inj hi
      have s1 : A.tmps.getD 1 undef = .pointer (some ⟨w.heap.size, 0, none⟩) := hold 1 (by kernel_rfl)
      exact v_pure hi rfl rfl (x_loadC _ HO.out s1 hX1)
    · obtain rfl := Option.some.inj hi
      have s1 : A.tmps.getD 1 undef = .pointer (some ⟨w.heap.size, 0, none⟩) := hold 1 (by kernel_rfl)
      exact v_pure hi rfl rfl (x_loadC _ HO.out s1 hX1)
    · obtain rfl := Option.some.inj hi
      have s4 : A.tmps.getD 4 undef = .agg c.arr := dep_of hdeps 1 (by kernel_rfl)
      exact v_enter hi rfl rfl (x_call 7 _ #[.agg c.arr] _ rfl (by simp only [List.map_toArray, List.map_cons, List.map_nil, show A.eval (.tmp 4) = .agg c.arr from s4]; try rfl) en_voters) (CV.out w1)
    · obtain rfl := Option.some.inj hi
      have s3 : A.tmps.getD 3 undef = .agg c.arr := dep_of hdeps 0 (by kernel_rfl)
      have s5 : A.tmps.getD 5 undef = .int .u64 ((V : Nat) : Int) := dep_of hdeps 2 (by kernel_rfl)
      exact v_enter hi rfl rfl (x_call 10 _ #[.agg c.arr, .int .u64 ((V : Nat) : Int)] _ rfl (by simp only [List.map_toArray, List.map_cons, List.map_nil, show A.eval (.tmp 3) = .agg c.arr from s3, show A.eval (.tmp 5) = .int .u64 ((V : Nat) : Int) from s5]; try rfl) en_of) (CO.out w1)
    · obtain rfl := Option.some.inj hi
      have s6 : A.tmps.getD 6 undef = .int .i64 ((T : Nat) : Int) := dep_of hdeps 3 (by kernel_rfl)
      exact v_pure hi rfl rfl (x_assign _ s6)
  · intro w1 hB
    simp only [putAll, Act.put, List.setIfInBounds_toArray, List.set_cons_succ, List.set_cons_zero]
    go_wp2_with fail
    go_ret
    exact ⟨rfl, HB.out.trans (hB.mono HB.out.size)⟩
set_option maxRecDepth 100000 in
theorem reads_any (c : Cf) (s : Nat) (hok : c.Ok) (hs : s < 18446744073709551616) (w : World) :
    Calls Tryd.prog 14 #[.agg c.arr, .int .u64 ((s : Nat) : Int)] w fun e w' => e = .returned (.bool (decide ((c.r : Int) ≤ ((ofN c.vs s 8 : Nat) : Int)))) ∧ Below w.heap.size w w' := by
  have hsz := hok.size
  have HO := hide hok
  have HX := hide (box_new w c.arr 25)
  have HB := hide (alloc_below w (.cells c.arr 25))
  have CO := hide (fun W => ofB c s hok hs W)
  generalize ofN c.vs s 8 = T at *
  obtain ⟨b, hb⟩ : ∃ b, b = decide ((c.r : Int) ≤ ((T : Nat) : Int)) := ⟨_, rfl⟩
  rw [← hb]
  have HD := hide hb
  clear hok hb
  go_enter Tryd.func14, Tryd.ntmps14
  go_wp2_with fail
  refine wp_region_vals (by kernel_rfl) [(5, .agg c.arr), (6, .int .u64 ((s : Nat) : Int)), (7, .int .i64 ((T : Nat) : Int)), (8, .pointer (some ⟨w.heap.size, 1, none⟩)), (9, .int .u8 (c.r : Int)), (10, .int .i64 (c.r : Int)), (11, .bool b), (4, .bool b)] (by kernel_rfl) rfl ?_ ?_
  · intro i o hi A w1 hB hold hdeps
    have hX1 := HX.out.belowV hB
    have hlt : i < 8 := (Array.getElem?_eq_some_iff.1 hi).1
    have hc : i = 0 ∨ i = 1 ∨ i = 2 ∨ i = 3 ∨ i = 4 ∨ i = 5 ∨ i = 6 ∨ i = 7 := by omega
    clear hlt
    rcases hc with rfl | rfl | rfl | rfl | rfl | rfl | rfl | rfl
    · obtain rfl := Option.some.inj hi
      have s2 : A.tmps.getD 2 undef = .pointer (some ⟨w.heap.size, 0, none⟩) := hold 2 (by kernel_rfl)
      exact v_pure hi rfl rfl (x_loadC _ HO.out s2 hX1)
    · obtain rfl := Option.some.inj hi
      have s1 : A.tmps.getD 1 undef = .int .u64 ((s : Nat) : Int) := hold 1 (by kernel_rfl)
      exact v_pure hi rfl rfl (x_move _ s1)
    · obtain rfl := Option.some.inj hi
      have s5 : A.tmps.getD 5 undef = .agg c.arr := dep_of hdeps 0 (by kernel_rfl)
      have s6 : A.tmps.getD 6 undef = .int .u64 ((s : Nat) : Int) := dep_of hdeps 1 (by kernel_rfl)
      exact v_enter hi rfl rfl (x_call 10 _ #[.agg c.arr, .int .u64 ((s : Nat) : Int)] _ rfl (by simp only [List.map_toArray, List.map_cons, List.map_nil, show A.eval (.tmp 5) = .agg c.arr from s5, show A.eval (.tmp 6) = .int .u64 ((s : Nat) : Int) from s6]; try rfl) en_of) (CO.out w1)
    · obtain rfl := Option.some.inj hi
      have s2 : A.tmps.getD 2 undef = .pointer (some ⟨w.heap.size, 0, none⟩) := hold 2 (by kernel_rfl)
      exact v_pure hi rfl rfl (x_field1 _ s2)
    · obtain rfl := Option.some.inj hi
      have s8 : A.tmps.getD 8 undef = .pointer (some ⟨w.heap.size, 1, none⟩) := dep_of hdeps 3 (by kernel_rfl)
      exact v_pure hi rfl rfl (x_load8 _ s8 (arr_r hX1))
    · obtain rfl := Option.some.inj hi
      have s9 : A.tmps.getD 9 undef = .int .u8 (c.r : Int) := dep_of hdeps 4 (by kernel_rfl)
      exact v_pure hi rfl rfl (x_conv _ s9 HO.out.r)
    · obtain rfl := Option.some.inj hi
      have s7 : A.tmps.getD 7 undef = .int .i64 ((T : Nat) : Int) := dep_of hdeps 2 (by kernel_rfl)
      have s10 : A.tmps.getD 10 undef = .int .i64 (c.r : Int) := dep_of hdeps 5 (by kernel_rfl)
      exact v_pure hi rfl (congrArg Value.bool HD.out) (x_geq _ _ s7 s10)
    · obtain rfl := Option.some.inj hi
      have s11 : A.tmps.getD 11 undef = .bool b := dep_of hdeps 6 (by kernel_rfl)
      exact v_pure hi rfl rfl (x_assign _ s11)
  · intro w1 hB
    simp only [putAll, Act.put, List.setIfInBounds_toArray, List.set_cons_succ, List.set_cons_zero]
    go_wp2_with fail
    go_ret
    exact ⟨rfl, HB.out.trans (hB.mono HB.out.size)⟩
set_option maxRecDepth 100000 in
theorem writes_any (c : Cf) (s : Nat) (hok : c.Ok) (hs : s < 18446744073709551616) (w : World) :
    Calls Tryd.prog 15 #[.agg c.arr, .int .u64 ((s : Nat) : Int)] w fun e w' => e = .returned (.bool (decide ((c.w : Int) ≤ ((ofN c.vs s 8 : Nat) : Int)))) ∧ Below w.heap.size w w' := by
  have hsz := hok.size
  have HO := hide hok
  have HX := hide (box_new w c.arr 25)
  have HB := hide (alloc_below w (.cells c.arr 25))
  have CO := hide (fun W => ofB c s hok hs W)
  generalize ofN c.vs s 8 = T at *
  obtain ⟨b, hb⟩ : ∃ b, b = decide ((c.w : Int) ≤ ((T : Nat) : Int)) := ⟨_, rfl⟩
  rw [← hb]
  have HD := hide hb
  clear hok hb
  go_enter Tryd.func15, Tryd.ntmps15
  go_wp2_with fail
  refine wp_region_vals (by kernel_rfl) [(5, .agg c.arr), (6, .int .u64 ((s : Nat) : Int)), (7, .int .i64 ((T : Nat) : Int)), (8, .pointer (some ⟨w.heap.size, 2, none⟩)), (9, .int .u8 (c.w : Int)), (10, .int .i64 (c.w : Int)), (11, .bool b), (4, .bool b)] (by kernel_rfl) rfl ?_ ?_
  · intro i o hi A w1 hB hold hdeps
    have hX1 := HX.out.belowV hB
    have hlt : i < 8 := (Array.getElem?_eq_some_iff.1 hi).1
    have hc : i = 0 ∨ i = 1 ∨ i = 2 ∨ i = 3 ∨ i = 4 ∨ i = 5 ∨ i = 6 ∨ i = 7 := by omega
    clear hlt
    rcases hc with rfl | rfl | rfl | rfl | rfl | rfl | rfl | rfl
    · obtain rfl := Option.some.inj hi
      have s2 : A.tmps.getD 2 undef = .pointer (some ⟨w.heap.size, 0, none⟩) := hold 2 (by kernel_rfl)
      exact v_pure hi rfl rfl (x_loadC _ HO.out s2 hX1)
    · obtain rfl := Option.some.inj hi
      have s1 : A.tmps.getD 1 undef = .int .u64 ((s : Nat) : Int) := hold 1 (by kernel_rfl)
      exact v_pure hi rfl rfl (x_move _ s1)
    · obtain rfl := Option.some.inj hi
      have s5 : A.tmps.getD 5 undef = .agg c.arr := dep_of hdeps 0 (by kernel_rfl)
      have s6 : A.tmps.getD 6 undef = .int .u64 ((s : Nat) : Int) := dep_of hdeps 1 (by kernel_rfl)
      exact v_enter hi rfl rfl (x_call 10 _ #[.agg c.arr, .int .u64 ((s : Nat) : Int)] _ rfl (by simp only [List.map_toArray, List.map_cons, List.map_nil, show A.eval (.tmp 5) = .agg c.arr from s5, show A.eval (.tmp 6) = .int .u64 ((s : Nat) : Int) from s6]; try rfl) en_of) (CO.out w1)
    · obtain rfl := Option.some.inj hi
      have s2 : A.tmps.getD 2 undef = .pointer (some ⟨w.heap.size, 0, none⟩) := hold 2 (by kernel_rfl)
      exact v_pure hi rfl rfl (x_field2 _ s2)
    · obtain rfl := Option.some.inj hi
      have s8 : A.tmps.getD 8 undef = .pointer (some ⟨w.heap.size, 2, none⟩) := dep_of hdeps 3 (by kernel_rfl)
      exact v_pure hi rfl rfl (x_load8 _ s8 (arr_w hX1))
    · obtain rfl := Option.some.inj hi
      have s9 : A.tmps.getD 9 undef = .int .u8 (c.w : Int) := dep_of hdeps 4 (by kernel_rfl)
      exact v_pure hi rfl rfl (x_conv _ s9 HO.out.w)
    · obtain rfl := Option.some.inj hi
      have s7 : A.tmps.getD 7 undef = .int .i64 ((T : Nat) : Int) := dep_of hdeps 2 (by kernel_rfl)
      have s10 : A.tmps.getD 10 undef = .int .i64 (c.w : Int) := dep_of hdeps 5 (by kernel_rfl)
      exact v_pure hi rfl (congrArg Value.bool HD.out) (x_geq _ _ s7 s10)
    · obtain rfl := Option.some.inj hi
      have s11 : A.tmps.getD 11 undef = .bool b := dep_of hdeps 6 (by kernel_rfl)
      exact v_pure hi rfl rfl (x_assign _ s11)
  · intro w1 hB
    simp only [putAll, Act.put, List.setIfInBounds_toArray, List.set_cons_succ, List.set_cons_zero]
    go_wp2_with fail
    go_ret
    exact ⟨rfl, HB.out.trans (hB.mono HB.out.size)⟩
end Go.Proofs.YtnljibmdcknmeabDoor
