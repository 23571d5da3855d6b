/-
  Walks of quorum, Quorums and Least of the reference. Own work.
-/
import Derived.Test.YtnljibmdcknmeaaDoorVtQuo
import Derived.Test.YtnljibmdcknmeaaDoorVtRef
namespace Go.Proofs.YtnljibmdcknmeaaDoor
open Go Go.RowKit

section
variable {ρ : Operand → Value} {dst : Option Tmp} {ty : TypeId} {pos : String} {aft : Array Edge} {gd : Option (Nat × Bool)} {w : World}
theorem x_indexO (x y : Operand) {q o n c k : Nat} (hx : ρ x = .slice (some ⟨q, o, none⟩) n c) (hy : ρ y = .int .i64 (k : Int)) (h : k < n) : (execOp ρ ⟨dst, .indexAddr 76 x y, ty, pos, aft, gd⟩).run Tryd.prog w = .ok (.value (.pointer (some ⟨q, o + k, none⟩))) w := by
  have h1 : (0 : Int) ≤ (k : Int) := by omega
  have h2 : (k : Int) < (n : Int) := by omega
  simp [go_sem, hx, hy, h1, h2]
end
theorem rwithoutB (s n : Nat) (hs : s < 18446744073709551616) (hn : n < 64) (w : World) :
    Calls Tryd.prog 64 #[.int .u64 ((s : Nat) : Int), .int .i64 ((n : Nat) : Int)] w fun e w' => e = .returned (.int .u64 ((withoutN s n : Nat) : Int)) ∧ Below w.heap.size w w' :=
  (rwithout_in s n hs hn w).mono fun _ _ ⟨he, hw⟩ => ⟨he, hw ▸ Below.refl _ _⟩
set_option maxRecDepth 100000 in
set_option maxHeartbeats 3200000 in
theorem rquorum_any (c : Cf) (want : Int) (s : Nat) (hok : c.Ok) (hs : s < 18446744073709551616) (w : World) :
    Calls Tryd.prog 49 #[.agg c.arr, .int .i64 want, .int .u64 ((s : Nat) : Int)] w fun e w' => e = .returned (.bool (quoB c.vs want s)) ∧ Below w.heap.size w w' := by
  have hsz := hok.size
  have HO := hide hok
  have HX := hide (box_new w c.arr 25)
  have HB := hide (alloc_below w (.cells c.arr 25))
  have CV := hide (fun W => rvoters_any c hok W)
  have CP := hide (fun W => rpart_any s (votN c.vs 8) hs (vot64 c.vs) W)
  have CO := hide (fun W => rof_any c s hok hs W)
  have HQ : Hid (quoB c.vs want s = (partB s (votN c.vs 8) && minB c.vs want s)) := rfl
  have HF := hide (minB_few c.vs want s)
  have HYs := hide (minB_yes c.vs want s)
  have HNo := hide (minB_no c.vs want s)
  generalize hVV : votN c.vs 8 = V at *
  clear hVV
  generalize ofN c.vs s 8 = O at *
  clear hok
  cases hp : partB s V
  · rw [hp] at CP HQ
    have HE : Hid (quoB c.vs want s = false) := hide (by rw [HQ.out]; rfl)
    clear HQ HF HYs HNo CO hp
    go_enter Tryd.func49, Tryd.ntmps49
    go_wp2_with (first | (refine wp_load_cfg rfl _ rfl _ rfl HO.out HX.out ?_) | (go_at_call 18; refine (CV.out _).mono ?_; rintro e w1 ⟨rfl, hB1⟩; have HB1 := hide (HB.out.trans (hB1.mono HB.out.size)); clear hB1))
    refine (CP.out _).mono ?_
    rintro e w2 ⟨rfl, rfl⟩
    go_wp2_with fail
    go_ret
    exact ⟨ret_bool HE.out.symm, HB1.out⟩
  rw [hp, Bool.true_and] at HQ
  rw [hp] at CP
  clear hp
  by_cases hf : want ≤ (O : Int)
  case neg =>
    have HE : Hid (quoB c.vs want s = false) := hide (by rw [HQ.out, HF.out hf])
    have d1 : decide ((O : Int) < want) = true := decide_eq_true (by omega)
    clear HQ HF HYs HNo hf
    go_enter Tryd.func49, Tryd.ntmps49
    go_wp2_with (first | (refine wp_load_cfg rfl _ rfl _ rfl HO.out HX.out ?_) | (go_at_call 18; refine (CV.out _).mono ?_; rintro e w1 ⟨rfl, hB1⟩; have HX1 := hide (HX.out.belowV hB1); have HB1 := hide (HB.out.trans (hB1.mono HB.out.size)); clear hB1))
    refine (CP.out _).mono ?_
    rintro e w2 ⟨rfl, rfl⟩
    go_wp2_with (refine wp_load_cfg_g rfl _ rfl _ rfl HO.out HX1.out ?_)
    refine (CO.out _).mono ?_
    rintro e w3 ⟨rfl, hB3⟩
    have HB3 := hide (HB1.out.trans (hB3.mono HB1.out.size))
    clear hB3
    go_wp2_with fail
    go_ret
    exact ⟨ret_bool HE.out.symm, HB3.out⟩
  case pos =>
    have d1 : decide ((O : Int) < want) = false := decide_eq_false (by omega)
    have HYs2 := hide (HYs.out hf)
    clear HF HYs hf
    have hLs := listS_length s
    have hll2 := listS_len s
    have HLA := hide (listS_at s)
    have HLN := hide (listN_at s)
    go_enter Tryd.func49, Tryd.ntmps49
    go_wp2_with (first | (refine wp_load_cfg rfl _ rfl _ rfl HO.out HX.out ?_) | (go_at_call 18; refine (CV.out _).mono ?_; rintro e w1 ⟨rfl, hB1⟩; have HX1 := hide (HX.out.belowV hB1); have HB1 := hide (HB.out.trans (hB1.mono HB.out.size)); clear hB1))
    refine (CP.out _).mono ?_
    rintro e w2 ⟨rfl, rfl⟩
    go_wp2_with (refine wp_load_cfg_g rfl _ rfl _ rfl HO.out HX1.out ?_)
    refine (CO.out _).mono ?_
    rintro e w3 ⟨rfl, hB3⟩
    have HX3 := hide (HX1.out.belowV hB3)
    have HB3 := hide (HB1.out.trans (hB3.mono HB1.out.size))
    clear hB3 HX1 HB1
    go_wp2_with fail
    refine (rlist_any s hs _).mono ?_
    rintro e w4 ⟨v4, rfl, ho4, hB4⟩
    obtain ⟨ao, cap, hv4, hat⟩ := (Lies.of_own ho4).at
    subst hv4
    have HAt := hide hat
    have HX4 := hide (HX3.out.belowV hB4)
    have HB4 := hide (HB3.out.trans (hB4.mono HB3.out.size))
    clear ho4 hB4 hat HX3 HB3
    generalize hLN : (listS s).length = N at *
    have HLs := hide hLs
    clear hLs hLN
    go_wp2_with fail
    go_loopg [8] N (fun g i wr => ∃ j : Nat, j + g = N ∧ i = .int .i64 j ∧ Hid (noneTo c.vs want s j) ∧ Below w4.heap.size w4 wr)
    case atStart => exact ⟨0, by omega, rfl, hide (fun i hi => by omega), Below.refl _ _⟩
    case round =>
      obtain ⟨j, hj, rfl, HNo2, hBy⟩ := hrel
      have HBy := hide hBy
      have hsy := hBy.size
      clear hBy
      cases gk with
      | zero =>
        have hz : ¬ ((j : Int) < (N : Int)) := by omega
        have HE : Hid (quoB c.vs want s = true) := hide (by rw [HQ.out, HYs2.out (by rw [← HLs.out, show N = j by omega]; exact HNo2.out)])
        clear HYs2 HNo HQ
        go_wp2
        go_ret
        exact ⟨ret_bool HE.out.symm, HB4.out.trans (HBy.out.mono HB4.out.size)⟩
      | succ g =>
        have hz : (j : Int) < (N : Int) := by omega
        obtain ⟨b, off, rfl, hcs⟩ := HAt.out j (by omega)
        have hcj := hcs j (by omega)
        have hjl : j < (listN s).length := by rw [← HLs.out]; omega
        rw [HLA.out j hjl] at hcj
        obtain ⟨hn64, hnb⟩ := HLN.out j hjl
        have hbl : b < w4.heap.size := by
          rcases Nat.lt_or_ge b w4.heap.size with h | h
          · exact h
          · have hn : w4.heap[b]? = none := by simp [h]
            simp [World.cell?, hn] at hcj
        have HCR : Hid (∀ W, Below wr.heap.size wr W → W.cell? ⟨b, off + j, none⟩ = some (.int .i64 (((listN s).getD j 0 : Nat) : Int))) := hide (fun W hW => (hW.cell (p := ⟨b, off + j, none⟩) (show b < wr.heap.size by omega)).trans ((HBy.out.cell (p := ⟨b, off + j, none⟩) hbl).trans hcj))
        have CW := hide (fun W => rwithoutB s ((listN s).getD j 0) hs hn64 W)
        have CQ := hide (fun W => rof_any c (withoutN s ((listN s).getD j 0)) HO.out (without_lt _ _ hs) W)
        have HNj := hide (HNo.out j hjl)
        have HXy := hide (HX4.out.belowV HBy.out)
        have HNS : Hid (¬ want ≤ (ofN c.vs (withoutN s ((listN s).getD j 0)) 8 : Int) → noneTo c.vs want s (j + 1)) := hide (fun h i hi => by
          by_cases e : i = j
          · rw [e]; exact h
          · exact HNo2.out i (by omega))
        clear hcs hcj hnb hjl
        generalize (listN s).getD j 0 = n at *
        generalize withoutN s n = s2 at *
        generalize ofN c.vs s2 8 = O2 at *
        obtain ⟨bb, hbb⟩ : ∃ b, b = decide (want ≤ (O2 : Int)) := ⟨_, rfl⟩
        have HBB := hide hbb
        clear hbb
        go_wp2_with fail
        refine wp_region_vals (by kernel_rfl) [(29, .agg c.arr), (30, .int .u64 ((s : Nat) : Int)), (31, .slice (some ⟨b, off, none⟩) N cap), (32, .int .i64 ((j : Nat) : Int)), (33, .pointer (some ⟨b, off + j, none⟩)), (34, .int .i64 ((n : Nat) : Int)), (35, .int .u64 ((s2 : Nat) : Int)), (36, .int .i64 ((O2 : Nat) : Int)), (37, .int .i64 want), (38, .bool bb)] (by kernel_rfl) rfl ?_ ?_
        · intro i o hi A w5 hB hold hdeps
          have hX5 := HXy.out.belowV hB
          have hlt : i < 10 := (Array.getElem?_eq_some_iff.1 hi).1
          have hc : i = 0 ∨ i = 1 ∨ i = 2 ∨ i = 3 ∨ i = 4 ∨ i = 5 ∨ i = 6 ∨ i = 7 ∨ i = 8 ∨ i = 9 := by omega
          clear hlt
          rcases hc with rfl | rfl | rfl | rfl | rfl | rfl | rfl | rfl | rfl | rfl
          · obtain rfl := Option.some.inj hi
            have s3 : A.tmps.getD 3 undef = .pointer (some ⟨w.heap.size, 0, none⟩) := hold 3 (by kernel_rfl)
            exact v_pure hi rfl rfl (x_loadC _ HO.out s3 hX5)
          · obtain rfl := Option.some.inj hi
            have s2 : A.tmps.getD 2 undef = .int .u64 ((s : Nat) : Int) := hold 2 (by kernel_rfl)
            exact v_pure hi rfl rfl (x_move _ s2)
          · obtain rfl := Option.some.inj hi
            have s7 : A.tmps.getD 7 undef = .slice (some ⟨b, off, none⟩) N cap := hold 7 (by kernel_rfl)
            exact v_pure hi rfl rfl (x_move _ s7)
          · obtain rfl := Option.some.inj hi
            have s8 : A.tmps.getD 8 undef = .int .i64 ((j : Nat) : Int) := hold 8 (by kernel_rfl)
            exact v_pure hi rfl rfl (x_move _ s8)
          · obtain rfl := Option.some.inj hi
            have s31 : A.tmps.getD 31 undef = .slice (some ⟨b, off, none⟩) N cap := dep_of hdeps 2 (by kernel_rfl)
            have s32 : A.tmps.getD 32 undef = .int .i64 ((j : Nat) : Int) := dep_of hdeps 3 (by kernel_rfl)
            exact v_pure hi rfl rfl (x_indexO _ _ s31 s32 (by omega))
          · obtain rfl := Option.some.inj hi
            have s33 : A.tmps.getD 33 undef = .pointer (some ⟨b, off + j, none⟩) := dep_of hdeps 4 (by kernel_rfl)
            exact v_pure hi rfl rfl (x_loadI _ s33 (HCR.out w5 hB))
          · obtain rfl := Option.some.inj hi
            have s30 : A.tmps.getD 30 undef = .int .u64 ((s : Nat) : Int) := dep_of hdeps 1 (by kernel_rfl)
            have s34 : A.tmps.getD 34 undef = .int .i64 ((n : Nat) : Int) := dep_of hdeps 5 (by kernel_rfl)
            exact v_enter hi rfl rfl (x_call 64 _ #[.int .u64 ((s : Nat) : Int), .int .i64 ((n : Nat) : Int)] _ rfl (by simp only [List.map_toArray, List.map_cons, List.map_nil, show A.eval (.tmp 30) = .int .u64 ((s : Nat) : Int) from s30, show A.eval (.tmp 34) = .int .i64 ((n : Nat) : Int) from s34]; try rfl) en_rwithout) (CW.out w5)
          · obtain rfl := Option.some.inj hi
            have s29 : A.tmps.getD 29 undef = .agg c.arr := dep_of hdeps 0 (by kernel_rfl)
            have s35 : A.tmps.getD 35 undef = .int .u64 ((s2 : Nat) : Int) := dep_of hdeps 6 (by kernel_rfl)
            exact v_enter hi rfl rfl (x_call 14 _ #[.agg c.arr, .int .u64 ((s2 : Nat) : Int)] _ rfl (by simp only [List.map_toArray, List.map_cons, List.map_nil, show A.eval (.tmp 29) = .agg c.arr from s29, show A.eval (.tmp 35) = .int .u64 ((s2 : Nat) : Int) from s35]; try rfl) en_rof) (CQ.out w5)
          · obtain rfl := Option.some.inj hi
            have s1 : A.tmps.getD 1 undef = .int .i64 want := hold 1 (by kernel_rfl)
            exact v_pure hi rfl rfl (x_move _ s1)
          · obtain rfl := Option.some.inj hi
            have s36 : A.tmps.getD 36 undef = .int .i64 ((O2 : Nat) : Int) := dep_of hdeps 7 (by kernel_rfl)
            have s37 : A.tmps.getD 37 undef = .int .i64 want := dep_of hdeps 8 (by kernel_rfl)
            exact v_pure hi rfl (congrArg Value.bool HBB.out) (x_geq _ _ s36 s37)
        · intro w5 hB5
          have HB5 := hide hB5
          clear hB5
          simp only [putAll, Act.put, List.setIfInBounds_toArray, List.set_cons_succ, List.set_cons_zero]
          cases bb with
          | true =>
            have HE : Hid (quoB c.vs want s = false) := hide (by rw [HQ.out, HNj.out (of_decide_eq_true HBB.out.symm)])
            clear HNj HNS HBB CW CQ
            go_wp2_with fail
            go_ret
            exact ⟨ret_bool HE.out.symm, (HB4.out.trans (HBy.out.mono HB4.out.size)).trans (HB5.out.mono (by have := HB4.out.size; omega))⟩
          | false =>
            have HE := hide (HNS.out (by have := of_decide_eq_false HBB.out.symm; omega))
            clear HNj HNS HBB CW CQ
            go_wp2_with fail
            go_roundg g
            case measure => omega
            case rel => exact ⟨j + 1, by omega, by first | rfl | go_num, HE, HBy.out.trans (HB5.out.mono hsy)⟩
/-- The quorums below k, as the reference finds them. -/
def rqTo (vs : List Nat) (want : Int) (k : Nat) : List Int := ((List.range k).filter (quoB vs want)).map fun (q : Nat) => (q : Int)
theorem rqTo_hit (vs : List Nat) (want : Int) (k : Nat) (h : quoB vs want k = true) : rqTo vs want (k + 1) = rqTo vs want k ++ [(k : Int)] := by simp [rqTo, List.range_succ, h]
theorem rqTo_miss (vs : List Nat) (want : Int) (k : Nat) (h : quoB vs want k = false) : rqTo vs want (k + 1) = rqTo vs want k := by simp [rqTo, List.range_succ, h]
theorem rqTo_len (vs : List Nat) (want : Int) (k : Nat) : (rqTo vs want k).length ≤ k := by
  unfold rqTo
  rw [List.length_map]
  exact Nat.le_trans (List.length_filter_le _ _) (by simp)
set_option maxRecDepth 100000 in
set_option maxHeartbeats 1600000 in
theorem rquorums_any (c : Cf) (want : Int) (hok : c.Ok) (w : World) :
    Calls Tryd.prog 26 #[.agg c.arr, .int .i64 want] w fun e w' => ∃ v, e = .returned v ∧ Lies .u64 w' v (quoI c.vs want) ∧ Below w.heap.size w w' := by
  obtain ⟨i0, hi, hz0, hz1, hz2⟩ := info_parts info64
  have hsz := hok.size
  have HO := hide hok
  have HX := hide (box_new w c.arr 25)
  have HB := hide (alloc_below w (.cells c.arr 25))
  have HA : Hid (rqTo c.vs want 256 = quoI c.vs want) := rfl
  clear hok
  go_enter Tryd.func26, Tryd.ntmps26
  go_wp2
  go_loopg [5, 6] 256 (fun g x i wr => ∃ k : Nat, k + g = 256 ∧ i = .int .u64 k ∧ wr.ownsRow (w.heap.size + 1) 35 1 x (rqTo c.vs want k).length ((rqTo c.vs want k).map (Value.int .u64)) ∧ Below (w.heap.size + 1) (w.alloc (.cells c.arr 25)) wr)
  case atStart => exact ⟨0, by omega, rfl, World.ownsRow_nil _ _ _ _, Below.refl _ _⟩
  case round =>
    obtain ⟨k, hk, rfl, hown, hB⟩ := hrel
    have hss := hB.size
    rw [World.size_alloc] at hss
    have HW := hide hown
    have HBr := hide hB
    clear hown hB
    cases gk with
    | zero =>
      obtain rfl : k = 256 := by omega
      rw [HA.out] at HW
      go_wp2
      go_ret
      exact ⟨_, rfl, Lies.of_own HW.out, HB.out.trans (HBr.out.mono (by omega))⟩
    | succ g =>
      have HXr := hide (HX.out.belowB HBr.out (by omega))
      have hltI : (k : Int) < 256 := by omega
      have hll := rqTo_len c.vs want k
      have CQ := hide (fun W => rquorum_any c want k HO.out (by omega) W)
      have HM := hide (rqTo_miss c.vs want k)
      have HH := hide (rqTo_hit c.vs want k)
      generalize hL : rqTo c.vs want k = L at *
      clear hL
      cases hq : quoB c.vs want k
      · rw [hq] at CQ
        have HE : Hid (rqTo c.vs want (k + 1) = L) := hide (HM.out hq)
        clear HM HH hq
        go_wp2_with (first | (refine wp_load_cfg rfl _ rfl _ rfl HO.out HXr.out ?_) | (go_at_call 49; refine (CQ.out _).mono ?_; rintro e w2 ⟨rfl, hB2⟩; have HB2 := hide hB2; clear hB2))
        go_roundg g
        case measure => omega
        case rel => exact ⟨k + 1, by omega, by first | rfl | go_num, by rw [HE.out]; exact owns_below HW.out HB2.out, HBr.out.trans (HB2.out.mono (by omega))⟩
      · rw [hq] at CQ
        have HE : Hid (rqTo c.vs want (k + 1) = L ++ [(k : Int)]) := hide (HH.out hq)
        clear HM HH hq
        go_wp2_with (first | (refine wp_load_cfg rfl _ rfl _ rfl HO.out HXr.out ?_) | (go_at_call 49; refine (CQ.out _).mono ?_; rintro e w2 ⟨rfl, hB2⟩; have HB2 := hide hB2; have hs2 := hB2.size; have HW2 := hide (owns_below HW.out hB2); clear hB2) | (at_builtin; refine wpList_append_own _ rfl _ _ 43 rfl (w.heap.size + 1) 35 i0 (.int .u64 0) 1 8 Tryd.underlying43 hi hz0 hz1 hz2 rfl (by decide) _ _ _ rfl (HW2.out.alloc _) ⟨w2.heap.size, 0, none⟩ 1 1 [.int .u64 k] rfl rfl (cell_one_new _ _ _) (by simp [Value.oneCell']) (by unfold maxLen; omega) (by omega) (by simp; omega) ?_; intro v' w5 hown5 hgrow5 _))
        go_roundg g
        case measure => omega
        case rel => exact ⟨k + 1, by omega, by first | rfl | go_num, by rw [HE.out]; simpa using hown5, (HBr.out.trans (HB2.out.mono (by omega))).trans (((Below.refl _ _).alloc (by omega) _).grown hgrow5 (by simp; omega) (fun q hq => (HW2.out.lt q hq).1))⟩
set_option maxRecDepth 100000 in
set_option maxHeartbeats 3200000 in
theorem rleast_any (c : Cf) (want : Int) (fr : Nat) (hok : c.Ok) (hfr : fr < 18446744073709551616) (w : World) :
    Calls Tryd.prog 23 #[.agg c.arr, .int .i64 want, .int .u64 ((fr : Nat) : Int)] w fun e w' => e = .returned (.tuple #[.int .u64 (((leastF c.vs want fr).1 : Nat) : Int), .bool (leastF c.vs want fr).2]) ∧ Below w.heap.size w w' := by
  have hsz := hok.size
  have hV := vot256 c.vs
  have HO := hide hok
  have HX := hide (box_new w c.arr 25)
  have HB := hide (alloc_below w (.cells c.arr 25))
  have CV := hide (fun W => rvoters_any c hok W)
  obtain ⟨q0, hq0⟩ : ∃ q, q = leastF c.vs want fr := ⟨_, rfl⟩
  have HA : Hid (q0 = leastTo c.vs want (fr &&& votN c.vs 8) 256) := hide (by rw [hq0, least_all])
  rw [← hq0]
  clear hq0
  have HCD : Hid (∀ k, candB c.vs want (fr &&& votN c.vs 8) k = (partB k (votN c.vs 8) && partB k fr && decide (want ≤ (ofN c.vs k 8 : Int)))) := hide (fun k => by unfold candB; rw [partB_and])
  generalize fr &&& votN c.vs 8 = F at *
  generalize votN c.vs 8 = V at *
  clear hok
  go_enter Tryd.func23, Tryd.ntmps23
  go_wp2
  go_loopg [8, 9, 10] 256 (fun g x y i wr => ∃ k : Nat, k + g = 256 ∧ x = .int .u64 (((leastTo c.vs want F k).1 : Nat) : Int) ∧ y = .bool (leastTo c.vs want F k).2 ∧ i = .int .u64 k ∧ Below (w.alloc (.cells c.arr 25)).heap.size (w.alloc (.cells c.arr 25)) wr)
  case atStart => exact ⟨0, by omega, rfl, rfl, rfl, Below.refl _ _⟩
  case round =>
    obtain ⟨k, hk, rfl, rfl, rfl, hB⟩ := hrel
    have HBr := hide hB
    have hss := hB.size
    clear hB
    cases gk with
    | zero =>
      obtain rfl : k = 256 := by omega
      rw [← HA.out]
      go_wp2
      go_ret2
      exact ⟨rfl, HB.out.trans (HBr.out.mono HB.out.size)⟩
    | succ g =>
      have HXr := hide (HX.out.belowV HBr.out)
      have hltI : (k : Int) < 256 := by omega
      have CO := hide (fun W => rof_any c k HO.out (by omega) W)
      have CP := hide (fun W => rpart_any k V (by omega) (by omega) W)
      have CF := hide (fun W => rpart_any k fr (by omega) hfr W)
      have hle := leastTo_le c.vs want F k
      have HM := hide (leastTo_miss c.vs want F k)
      have HH := hide (leastTo_hit c.vs want F k)
      have HC := hide (HCD.out k)
      generalize hq : leastTo c.vs want F k = q at *
      clear hq
      obtain ⟨m, fd⟩ := q
      simp only at hle
      generalize ofN c.vs k 8 = O at *
      cases hp : partB k V
      · have HE : Hid (leastTo c.vs want F (k + 1) = (m, fd)) := hide (HM.out (by rw [HC.out, hp]; rfl))
        rw [hp] at CP
        clear HM HH HC CO CF hp
        go_wp2_with (first | (refine wp_load_cfg rfl _ rfl _ rfl HO.out HXr.out ?_) | (go_at_call 18; refine (CV.out _).mono ?_; rintro e w1 ⟨rfl, hB1⟩; have HB1 := hide (HBr.out.trans (hB1.mono hss)); clear hB1))
        refine (CP.out _).mono ?_
        rintro e w2 ⟨rfl, rfl⟩
        go_wp2_with fail
        go_roundg g
        case measure => omega
        case rel => exact ⟨k + 1, by omega, by rw [HE.out], by rw [HE.out], by first | rfl | go_num, HB1.out⟩
      rw [hp] at CP
      cases hf2 : partB k fr
      · have HE : Hid (leastTo c.vs want F (k + 1) = (m, fd)) := hide (HM.out (by rw [HC.out, hp, hf2]; rfl))
        rw [hf2] at CF
        clear HM HH HC CO hp hf2
        go_wp2_with (first | (refine wp_load_cfg rfl _ rfl _ rfl HO.out HXr.out ?_) | (go_at_call 18; refine (CV.out _).mono ?_; rintro e w1 ⟨rfl, hB1⟩; have HB1 := hide (HBr.out.trans (hB1.mono hss)); clear hB1))
        refine (CP.out _).mono ?_
        rintro e w2 ⟨rfl, rfl⟩
        go_wp2_with fail
        refine (CF.out _).mono ?_
        rintro e w2 ⟨rfl, rfl⟩
        go_wp2_with fail
        go_roundg g
        case measure => omega
        case rel => exact ⟨k + 1, by omega, by rw [HE.out], by rw [HE.out], by first | rfl | go_num, HB1.out⟩
      rw [hf2] at CF
      by_cases hf : want ≤ (O : Int)
      case neg =>
        have HE : Hid (leastTo c.vs want F (k + 1) = (m, fd)) := hide (HM.out (by rw [HC.out, decide_eq_false hf]; simp))
        have d1 : decide ((O : Int) < want) = true := decide_eq_true (by omega)
        clear HM HH HC hf hp hf2
        go_wp2_with (first | (refine wp_load_cfg rfl _ rfl _ rfl HO.out HXr.out ?_) | (go_at_call 18; refine (CV.out _).mono ?_; rintro e w1 ⟨rfl, hB1⟩; have HX1 := hide (HXr.out.belowV hB1); have HB1 := hide (HBr.out.trans (hB1.mono hss)); clear hB1 HXr))
        refine (CP.out _).mono ?_
        rintro e w2 ⟨rfl, rfl⟩
        go_wp2_with fail
        refine (CF.out _).mono ?_
        rintro e w2 ⟨rfl, rfl⟩
        go_wp2_with (refine wp_load_cfg_g rfl _ rfl _ rfl HO.out HX1.out ?_)
        refine (CO.out _).mono ?_
        rintro e w3 ⟨rfl, hB3⟩
        have HB3 := hide (HB1.out.trans (hB3.mono HB1.out.size))
        clear hB3
        go_wp2_with fail
        go_roundg g
        case measure => omega
        case rel => exact ⟨k + 1, by omega, by rw [HE.out], by rw [HE.out], by first | rfl | go_num, HB3.out⟩
      case pos =>
        have HE : Hid (leastTo c.vs want F (k + 1) = leastStep (m, fd) k) := hide (HH.out (by rw [HC.out, decide_eq_true hf, hp, hf2]; rfl))
        have d1 : decide ((O : Int) < want) = false := decide_eq_false (by omega)
        have CK := hide (fun W => rlist_any k (by omega) W)
        have CM := hide (fun W => rlist_any m (by omega) W)
        have HL : Hid (leastStep (m, fd) k = if !fd || decide ((listS k).length < (listS m).length) then (k, true) else (m, fd)) := rfl
        clear HM HH HC hf hp hf2
        go_wp2_with (first | (refine wp_load_cfg rfl _ rfl _ rfl HO.out HXr.out ?_) | (go_at_call 18; refine (CV.out _).mono ?_; rintro e w1 ⟨rfl, hB1⟩; have HX1 := hide (HXr.out.belowV hB1); have HB1 := hide (HBr.out.trans (hB1.mono hss)); clear hB1 HXr))
        refine (CP.out _).mono ?_
        rintro e w2 ⟨rfl, rfl⟩
        go_wp2_with fail
        refine (CF.out _).mono ?_
        rintro e w2 ⟨rfl, rfl⟩
        go_wp2_with (refine wp_load_cfg_g rfl _ rfl _ rfl HO.out HX1.out ?_)
        refine (CO.out _).mono ?_
        rintro e w3 ⟨rfl, hB3⟩
        have HB3 := hide (HB1.out.trans (hB3.mono HB1.out.size))
        clear hB3
        cases fd
        · have HE2 : Hid (leastTo c.vs want F (k + 1) = (k, true)) := hide (by rw [HE.out, HL.out]; rfl)
          clear HE HL CK CM
          go_wp2_with fail
          go_roundg g
          case measure => omega
          case rel => exact ⟨k + 1, by omega, by rw [HE2.out], by rw [HE2.out], by first | rfl | go_num, HB3.out⟩
        · have hlk := listS_len k
          have hlm := listS_len m
          go_wp2_with fail
          refine (CK.out _).mono ?_
          rintro e w5 ⟨v5, rfl, ho5, hB5⟩
          obtain ⟨ao5, cap5, hv5, _⟩ := (Lies.of_own ho5).at
          subst hv5
          have HB5 := hide (HB3.out.trans (hB5.mono HB3.out.size))
          clear ho5 hB5
          go_wp2_with fail
          refine (CM.out _).mono ?_
          rintro e w6 ⟨v6, rfl, ho6, hB6⟩
          obtain ⟨ao6, cap6, hv6, _⟩ := (Lies.of_own ho6).at
          subst hv6
          have HB6 := hide (HB5.out.trans (hB6.mono HB5.out.size))
          clear ho6 hB6 CK CM
          generalize (listS k).length = nk at *
          generalize (listS m).length = nm at *
          by_cases hn : nk < nm
          · have HE2 : Hid (leastTo c.vs want F (k + 1) = (k, true)) := hide (by rw [HE.out, HL.out, decide_eq_true hn]; rfl)
            have d2 : decide ((nk : Int) < (nm : Int)) = true := decide_eq_true (by omega)
            clear HE HL
            go_wp2_with fail
            go_roundg g
            case measure => omega
            case rel => exact ⟨k + 1, by omega, by rw [HE2.out], by rw [HE2.out], by first | rfl | go_num, HB6.out⟩
          · have HE2 : Hid (leastTo c.vs want F (k + 1) = (m, true)) := hide (by rw [HE.out, HL.out, decide_eq_false hn]; rfl)
            have d2 : decide ((nk : Int) < (nm : Int)) = false := decide_eq_false (by omega)
            clear HE HL
            go_wp2_with fail
            go_roundg g
            case measure => omega
            case rel => exact ⟨k + 1, by omega, by rw [HE2.out], by rw [HE2.out], by first | rfl | go_num, HB6.out⟩
end Go.Proofs.YtnljibmdcknmeaaDoor
