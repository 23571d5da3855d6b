/-
  Walks of Quorums and Least of the program. Own work.
-/
import Derived.Test.YtnljibmdcknmeabDoorVtMay
import Derived.WalkMore
import Derived.Deep.LoopGhost
namespace Go.Proofs.YtnljibmdcknmeabDoor
open Go.RowKit

theorem info64 : (Tryd.prog.info? 26).map (fun i => (i.zero, i.size, i.bytes)) = some (some (.int .u64 0), 1, 8) := by kernel_rfl
theorem owns_below {w w' : World} {base e size n : Nat} {v : Value} {xs : List Value} (h : w.ownsRow base e size v n xs) (hB : Below w.heap.size w w') : w'.ownsRow base e size v n xs := owns_keep h (KeepBut.of_below (fun _ => False) hB) (fun _ _ => id)
theorem Box.belowB {w w' : World} {p B : Nat} {cs : Array Value} {t : TypeId} (h : Box w p cs t) (hB : Below B w w') (hp : p < B) : Box w' p cs t := (hB.block p hp).trans h
theorem Lies.at {k : IntKind} {w : World} {v : Value} {xs : List Int} (h : Lies k w v xs) : ∃ (ao : Option Addr) (cap : Nat), v = .slice ao xs.length cap ∧ ∀ j, j < xs.length → ∃ b off, ao = some ⟨b, off, none⟩ ∧ ∀ i, i < xs.length → w.cell? ⟨b, off + i, none⟩ = some (.int k (xs.getD i 0)) := by
  rcases h with ⟨rfl, ao, cap, rfl, _⟩ | ⟨_, b, off, cap, rfl, _, _, _, hc⟩
  · exact ⟨ao, cap, rfl, fun j hj => by simp at hj⟩
  · exact ⟨_, cap, rfl, fun j _ => ⟨b, off, rfl, hc⟩⟩
/-- The quorums below k, as they lie. -/
def qTo (vs : List Nat) (want : Int) (k : Nat) : List Int := ((List.range k).filter (minB vs want)).map fun (q : Nat) => (q : Int)
theorem qTo_hit (vs : List Nat) (want : Int) (k : Nat) (h : minB vs want k = true) : qTo vs want (k + 1) = qTo vs want k ++ [(k : Int)] := by simp [qTo, List.range_succ, h]
theorem qTo_miss (vs : List Nat) (want : Int) (k : Nat) (h : minB vs want k = false) : qTo vs want (k + 1) = qTo vs want k := by simp [qTo, List.range_succ, h]
theorem qTo_len (vs : List Nat) (want : Int) (k : Nat) : (qTo vs want k).length ≤ k := by
  unfold qTo
  rw [List.length_map]
  exact Nat.le_trans (List.length_filter_le _ _) (by simp)
/-- The quorums, as numbers. -/
def quoI (vs : List Nat) (want : Int) : List Int := (quoL vs want).map fun (q : Nat) => (q : Int)
theorem qTo_all (vs : List Nat) (want : Int) : qTo vs want (votN vs 8 + 1) = quoI vs want := by unfold qTo quoI; rw [quoL_min]
/-- None of the first j nodes may be left out. -/
def noneTo (vs : List Nat) (want : Int) (s j : Nat) : Prop := ∀ i, i < j → ¬ want ≤ (ofN vs (withoutN s ((listN s).getD i 0)) 8 : Int)
theorem minB_yes (vs : List Nat) (want : Int) (s : Nat) (h1 : want ≤ (ofN vs s 8 : Int)) (h : noneTo vs want s (listN s).length) : minB vs want s = true := by
  unfold minB
  rw [decide_eq_true h1, Bool.true_and, List.all_eq_true]
  intro n hn
  obtain ⟨i, hi, rfl⟩ := List.getElem_of_mem hn
  have := h i hi
  rw [List.getD_eq_getElem?_getD, List.getElem?_eq_getElem hi, Option.getD_some] at this
  simpa using this
theorem minB_no (vs : List Nat) (want : Int) (s i : Nat) (hi : i < (listN s).length) (h : want ≤ (ofN vs (withoutN s ((listN s).getD i 0)) 8 : Int)) : minB vs want s = false := by
  unfold minB
  rw [Bool.and_eq_false_iff]
  right
  rw [List.all_eq_false]
  refine ⟨(listN s).getD i 0, ?_, by simpa using h⟩
  rw [List.getD_eq_getElem?_getD, List.getElem?_eq_getElem hi, Option.getD_some]
  exact List.getElem_mem hi
theorem minB_few (vs : List Nat) (want : Int) (s : Nat) (h : ¬ want ≤ (ofN vs s 8 : Int)) : minB vs want s = false := by
  unfold minB
  rw [decide_eq_false h, Bool.false_and]
theorem withoutB (s n : Nat) (hs : s < 18446744073709551616) (hn : n < 64) (w : World) :
    Calls Tryd.prog 22 #[.int .u64 ((s : Nat) : Int), .int .i64 ((n : Nat) : Int)] w fun e w' => e = .returned (.int .u64 ((withoutN s n : Nat) : Int)) ∧ Below w.heap.size w w' :=
  (without_in s n hs hn w).mono fun _ _ ⟨he, hw⟩ => ⟨he, hw ▸ Below.refl _ _⟩
set_option maxRecDepth 100000 in
set_option maxHeartbeats 3200000 in
theorem quorums_any (c : Cf) (want : Int) (hok : c.Ok) (w : World) (hT : Tab w) :
    Calls Tryd.prog 6 #[.agg c.arr, .int .i64 want] w fun e w' => ∃ v, e = .returned v ∧ Lies .u64 w' v (quoI c.vs want) ∧ Below w.heap.size w w' := by
  obtain ⟨i0, hi, hz0, hz1, hz2⟩ := info_parts info64
  have hTp := hT.pos
  have hsz := hok.size
  have hV := vot256 c.vs
  have HO := hide hok
  have HX := hide (box_new w c.arr 25)
  have HB := hide (alloc_below w (.cells c.arr 25))
  have HT := hide (hT.below HB.out hTp)
  have CV := hide (fun W => votersB c hok W)
  have HA := hide (qTo_all c.vs want)
  generalize votN c.vs 8 = V at *
  clear hok hT
  go_enter Tryd.func6, Tryd.ntmps6
  go_wp2_with fail
  go_step3
  go_wp2_with fail
  go_step3
  go_wp2_with (first | (refine wp_load_cfg rfl _ rfl _ rfl HO.out HX.out ?_) | (go_at_call 7; refine (CV.out _).mono ?_; rintro e w1 ⟨rfl, hB1⟩))
  have hs0 := hB1.size
  rw [World.size_alloc] at hs0
  have HX1 := hide (HX.out.belowV hB1)
  have HT1 := hide (HT.out.below hB1 (by simp))
  have HB1 := hide (HB.out.trans (hB1.mono HB.out.size))
  clear HX HT HB CV hB1
  go_loopg [5, 12] (V + 1) (fun g x i wr => ∃ k : Nat, k + g = V + 1 ∧ i = .int .u64 k ∧ wr.ownsRow (w.heap.size + 1) 26 1 x (qTo c.vs want k).length ((qTo c.vs want k).map (Value.int .u64)) ∧ Below (w.heap.size + 1) w1 wr)
  case atStart => exact ⟨0, by omega, rfl, World.ownsRow_nil _ _ _ _, Below.refl _ _⟩
  case round =>
    obtain ⟨k, hk, rfl, hown, hB⟩ := hrel
    have hss := hB.size
    cases gk with
    | zero =>
      obtain rfl : k = V + 1 := by omega
      rw [HA.out] at hown
      have HW := hide hown
      have HBr := hide hB
      clear hown hB
      have hz : ¬ (((V + 1 : Nat) : Int) < (V : Int) + 1) := by omega
      go_wp2
      try rw [Exit.noGoto_ret]
      go_ret
      exact ⟨_, rfl, Lies.of_own HW.out, HB1.out.trans (HBr.out.mono (by omega))⟩
    | succ g =>
      have HXr := hide (HX1.out.belowB hB (by omega))
      have HTr := hide (HT1.out.below hB (by omega))
      have hltI : (k : Int) < (V : Int) + 1 := by omega
      have hll := qTo_len c.vs want k
      have CO := hide (fun W => ofB c k HO.out (by omega) W)
      have HF := hide (minB_few c.vs want k)
      have HM := hide (qTo_miss c.vs want k)
      have HH := hide (qTo_hit c.vs want k)
      have HYs := hide (minB_yes c.vs want k)
      have HNo := hide (minB_no c.vs want k)
      have HW := hide hown
      have HBr := hide hB
      clear hown hB
      generalize hL : qTo c.vs want k = L at *
      clear hL
      generalize ofN c.vs k 8 = O at *
      by_cases hf : want ≤ (O : Int)
      case neg =>
        have HE : Hid (qTo c.vs want (k + 1) = L) := hide (HM.out (HF.out hf))
        have d1 : decide ((O : Int) < want) = true := decide_eq_true (by omega)
        clear HF HM HH HYs HNo hf
        go_wp2_with (first | (refine wp_load_cfg rfl _ rfl _ rfl HO.out HXr.out ?_) | (go_at_call 10; refine (CO.out _).mono ?_; rintro e w2 ⟨rfl, hB2⟩))
        go_roundg g
        case measure => omega
        case rel => exact ⟨k + 1, by omega, by first | rfl | go_num, by rw [HE.out]; exact owns_below HW.out hB2, HBr.out.trans (hB2.mono (by omega))⟩
      case pos =>
        have d1 : decide ((O : Int) < want) = false := decide_eq_false (by omega)
        have HYs2 := hide (HYs.out hf)
        clear HF HYs hf
        have hLs := listS_length k
        have hll2 := listS_len k
        have HLA := hide (listS_at k)
        have HLN := hide (listN_at k)
        go_wp2_with (first | (refine wp_load_cfg rfl _ rfl _ rfl HO.out HXr.out ?_) | (go_at_call 10; refine (CO.out _).mono ?_; rintro e w2 ⟨rfl, hB2⟩; have HB2 := hide hB2; clear hB2) | (go_at_call 21; refine (list_any k (by omega) _ (HTr.out.below HB2.out (by omega))).mono ?_; rintro e w3 ⟨v3, rfl, ho3, hB3⟩; have HB3 := hide hB3; obtain ⟨ao, cap, hv3, hat⟩ := (Lies.of_own ho3).at; subst hv3; have HAt := hide hat; clear ho3 hB3 hat))
        have hs2 := HB2.out.size
        have hs3 := HB3.out.size
        have HW3 := hide (owns_below (owns_below HW.out HB2.out) HB3.out)
        have HX3 := hide ((HXr.out.belowV HB2.out).belowV HB3.out)
        have HBx := hide (HBr.out.trans ((HB2.out.trans (HB3.out.mono hs2)).mono (by omega)))
        clear HB2 HB3 HW HXr HTr HBr CO
        generalize hLN : (listS k).length = N at *
        go_loopg [23] N (fun g2 i wy => ∃ j : Nat, j + g2 = N ∧ i = .int .i64 j ∧ Hid (noneTo c.vs want k j) ∧ Below w3.heap.size w3 wy)
        case atStart => exact ⟨0, by omega, rfl, hide (fun i hi => by omega), Below.refl _ _⟩
        case round =>
          obtain ⟨j, hj, rfl, HNo2, hBy⟩ := hrel
          have HBy := hide hBy
          have hsy := hBy.size
          clear hBy
          cases gk with
          | zero =>
            have hz : ¬ ((j : Int) < (N : Int)) := by omega
            have HE : Hid (qTo c.vs want (k + 1) = L ++ [(k : Int)]) := hide (HH.out (HYs2.out (by rw [← hLs, show N = j by omega]; exact HNo2.out)))
            have HW4 := hide (owns_below HW3.out HBy.out)
            clear HH HYs2 HNo HM HW3 HX3
            go_wp2_with (at_builtin; refine wpList_append_own _ rfl _ _ 27 rfl (w.heap.size + 1) 26 i0 (.int .u64 0) 1 8 Tryd.underlying27 hi hz0 hz1 hz2 rfl (by decide) _ _ _ rfl (HW4.out.alloc _) ⟨wr.heap.size, 0, none⟩ 1 1 [.int .u64 k] rfl rfl (cell_one_new _ _ _) (by simp [Value.oneCell']) (by unfold maxLen; omega) (by omega) (by simp; omega) ?_; intro v' w5 hown5 hgrow5 _)
            go_roundg g
            case measure => omega
            case rel => exact ⟨k + 1, by omega, by first | rfl | go_num, by rw [HE.out]; simpa using hown5, (HBx.out.trans (HBy.out.mono (by omega))).trans (((Below.refl _ _).alloc (by omega) _).grown hgrow5 (by simp; omega) (fun q hq => (HW4.out.lt q hq).1))⟩
          | succ g2 =>
            have hz : (j : Int) < (N : Int) := by omega
            obtain ⟨b, off, rfl, hcs⟩ := HAt.out j (by omega)
            have hcj := hcs j (by omega)
            rw [HLA.out j (by omega)] at hcj
            obtain ⟨hn64, hnb⟩ := HLN.out j (by omega)
            have hbl : b < w3.heap.size := by
              rcases Nat.lt_or_ge b w3.heap.size with h | h
              · exact h
              · have hn : w3.heap[b]? = none := by simp [h]
                simp [World.cell?, hn] at hcj
            have hcr : wr.cell? ⟨b, off + j, none⟩ = some (.int .i64 (((listN k).getD j 0 : Nat) : Int)) := (HBy.out.cell (p := ⟨b, off + j, none⟩) hbl).trans hcj
            have CW := hide (fun W => withoutB k ((listN k).getD j 0) (by omega) hn64 W)
            have CQ := hide (fun W => ofB c (withoutN k ((listN k).getD j 0)) HO.out (without_lt _ _ (by omega)) W)
            have HNj := hide (HNo.out j (by omega))
            have HXy := hide (HX3.out.belowV HBy.out)
            have HNN : Hid (∀ i, i < j + 1 → i ≠ j → ¬ want ≤ (ofN c.vs (withoutN k ((listN k).getD i 0)) 8 : Int)) := hide (fun i hi hne => HNo2.out i (by omega))
            have HNS : Hid (¬ want ≤ (ofN c.vs (withoutN k ((listN k).getD j 0)) 8 : Int) → noneTo c.vs want k (j + 1)) := hide (fun h i hi => by
              by_cases e : i = j
              · rw [e]; exact h
              · exact HNN.out i hi e)
            clear hcs hcj hnb HNN
            generalize (listN k).getD j 0 = n at *
            generalize withoutN k n = s2 at *
            generalize ofN c.vs s2 8 = O2 at *
            obtain ⟨bb, hbb⟩ : ∃ b, b = decide (want ≤ (O2 : Int)) := ⟨_, rfl⟩
            have HBB := hide hbb
            clear hbb
            go_wp2_with fail


            refine wp_region_vals (by kernel_rfl) [(27, .agg c.arr), (28, .int .u64 ((k : Nat) : Int)), (29, .int .i64 ((n : Nat) : Int)), (30, .int .u64 ((s2 : Nat) : Int)), (31, .int .i64 ((O2 : Nat) : Int)), (32, .int .i64 want), (33, .bool bb)] (by kernel_rfl) rfl ?_ ?_
            · intro i o hi A w4 hB hold hdeps
              have hX4 := HXy.out.belowV hB
              have hlt : i < 7 := (Array.getElem?_eq_some_iff.1 hi).1
              have hc : i = 0 ∨ i = 1 ∨ i = 2 ∨ i = 3 ∨ i = 4 ∨ i = 5 ∨ i = 6 := by omega
              clear hlt
              rcases hc with rfl | rfl | rfl | rfl | rfl | rfl | rfl
              · obtain rfl := Option.some.inj hi
                have s2 : A.tmps.getD 2 undef = .pointer (some ⟨w.heap.size, 0, none⟩) := hold 2 (by kernel_rfl)
                exact v_pure hi rfl rfl (x_loadC _ HO.out s2 hX4)
              · obtain rfl := Option.some.inj hi
                have s6 : A.tmps.getD 6 undef = .int .u64 ((k : Nat) : Int) := hold 6 (by kernel_rfl)
                exact v_pure hi rfl rfl (x_move _ s6)
              · obtain rfl := Option.some.inj hi
                have s8 : A.tmps.getD 8 undef = .int .i64 ((n : Nat) : Int) := hold 8 (by kernel_rfl)
                exact v_pure hi rfl rfl (x_move _ s8)
              · obtain rfl := Option.some.inj hi
                have s28 : A.tmps.getD 28 undef = .int .u64 ((k : Nat) : Int) := dep_of hdeps 1 (by kernel_rfl)
                have s29 : A.tmps.getD 29 undef = .int .i64 ((n : Nat) : Int) := dep_of hdeps 2 (by kernel_rfl)
                exact v_enter hi rfl rfl (x_call 22 _ #[.int .u64 ((k : Nat) : Int), .int .i64 ((n : Nat) : Int)] _ rfl (by simp only [List.map_toArray, List.map_cons, List.map_nil, show A.eval (.tmp 28) = .int .u64 ((k : Nat) : Int) from s28, show A.eval (.tmp 29) = .int .i64 ((n : Nat) : Int) from s29]; try rfl) en_without) (CW.out w4)
              · obtain rfl := Option.some.inj hi
                have s27 : A.tmps.getD 27 undef = .agg c.arr := dep_of hdeps 0 (by kernel_rfl)
                have s30 : A.tmps.getD 30 undef = .int .u64 ((s2 : Nat) : Int) := dep_of hdeps 3 (by kernel_rfl)
                exact v_enter hi rfl rfl (x_call 10 _ #[.agg c.arr, .int .u64 ((s2 : Nat) : Int)] _ rfl (by simp only [List.map_toArray, List.map_cons, List.map_nil, show A.eval (.tmp 27) = .agg c.arr from s27, show A.eval (.tmp 30) = .int .u64 ((s2 : Nat) : Int) from s30]; try rfl) en_of) (CQ.out w4)
              · obtain rfl := Option.some.inj hi
                have s1 : A.tmps.getD 1 undef = .int .i64 want := hold 1 (by kernel_rfl)
                exact v_pure hi rfl rfl (x_move _ s1)
              · obtain rfl := Option.some.inj hi
                have s31 : A.tmps.getD 31 undef = .int .i64 ((O2 : Nat) : Int) := dep_of hdeps 4 (by kernel_rfl)
                have s32 : A.tmps.getD 32 undef = .int .i64 want := dep_of hdeps 5 (by kernel_rfl)
                exact v_pure hi rfl (congrArg Value.bool HBB.out) (x_geq _ _ s31 s32)
            · intro w4 hB4
              have HB4 := hide hB4
              clear hB4
              simp only [putAll, Act.put, List.setIfInBounds_toArray, List.set_cons_succ, List.set_cons_zero]
              cases bb with
              | true =>
                have HE : Hid (qTo c.vs want (k + 1) = L) := hide (HM.out (HNj.out (of_decide_eq_true HBB.out.symm)))
                have HW5 := hide (owns_below (owns_below HW3.out HBy.out) HB4.out)
                clear HNj HNS HBB CW CQ
                go_wp2_with fail
                go_roundg g
                case measure => omega
                case rel => exact ⟨k + 1, by omega, by first | rfl | go_num, by rw [HE.out]; exact HW5.out, (HBx.out.trans (HBy.out.mono (by omega))).trans (HB4.out.mono (by omega))⟩
              | false =>
                have HE := hide (HNS.out (by have := of_decide_eq_false HBB.out.symm; omega))
                clear HNj HNS HBB CW CQ
                go_wp2_with fail
                go_roundg g2
                case measure => omega
                case rel => exact ⟨j + 1, by omega, by first | rfl | go_num, HE, HBy.out.trans (HB4.out.mono hsy)⟩
theorem leastTo_le (vs : List Nat) (want : Int) (f k : Nat) : (leastTo vs want f k).1 ≤ k := by
  obtain ⟨h, _⟩ := least_fold ((List.range k).filter (candB vs want f)) (0, false)
  unfold leastTo
  rcases h with h | ⟨_, h⟩
  · rw [h]; exact Nat.zero_le _
  · have := (List.mem_filter.1 h).1
    rw [List.mem_range] at this
    omega
theorem andNot_ne (a b : Nat) (ha : a < 18446744073709551616) (hb : b < 18446744073709551616) : (bits BinOp.andNot IntKind.u64 (a : Int) (b : Int) != 0) = !partB a b ∧ (bits BinOp.andNot IntKind.u64 (a : Int) (b : Int) == 0) = partB a b := by
  rw [u64_andNot_nat a b ha hb]
  have h := andNot_zero a b ha hb
  generalize a &&& (18446744073709551615 - b) = x at *
  cases hp : partB a b
  · have hx : x ≠ 0 := fun e => by rw [h.1 e] at hp; cases hp
    constructor <;> simp [hx]
  · have hx := h.2 hp
    subst hx
    constructor <;> rfl
set_option maxRecDepth 100000 in
set_option maxHeartbeats 3200000 in
theorem least_any (c : Cf) (want : Int) (fr : Nat) (hok : c.Ok) (hfr : fr < 18446744073709551616) (w : World) :
    Calls Tryd.prog 9 #[.agg c.arr, .int .i64 want, .int .u64 ((fr : Nat) : Int)] w fun e w' => e = .returned (.tuple #[.int .u64 (((leastF c.vs want fr).1 : Nat) : Int), .bool (leastF c.vs want fr).2]) ∧ Below w.heap.size w w' := by
  have hsz := hok.size
  have hV := vot256 c.vs
  have HO := hide hok
  have HX := hide (box_new w c.arr 25)
  have HB := hide (alloc_below w (.cells c.arr 25))
  have CV := hide (fun W => votersB c hok W)
  have hand := u64_and_nat fr (votN c.vs 8) hfr (by omega)
  have hF : fr &&& votN c.vs 8 ≤ votN c.vs 8 := Nat.and_le_right
  obtain ⟨q0, hq0⟩ : ∃ q, q = leastF c.vs want fr := ⟨_, rfl⟩
  have HA : Hid (q0 = leastTo c.vs want (fr &&& votN c.vs 8) ((fr &&& votN c.vs 8) + 1)) := hq0
  rw [← hq0]
  clear hq0
  generalize fr &&& votN c.vs 8 = F at *
  generalize votN c.vs 8 = V at *
  clear hok
  go_enter Tryd.func9, Tryd.ntmps9
  go_wp2_with (first | (refine wp_load_cfg rfl _ rfl _ rfl HO.out HX.out ?_) | (go_at_call 7; refine (CV.out _).mono ?_; rintro e w1 ⟨rfl, hB1⟩; have HB1 := hide hB1; clear hB1))
  have HX1 := hide (HX.out.belowV HB1.out)
  have HB2 := hide (HB.out.trans (HB1.out.mono HB.out.size))
  clear HX HB CV HB1
  go_loopg [8, 9, 17] (F + 1) (fun g x y i wr => ∃ k : Nat, k + g = F + 1 ∧ x = .int .u64 (((leastTo c.vs want F k).1 : Nat) : Int) ∧ y = .bool (leastTo c.vs want F k).2 ∧ i = .int .u64 k ∧ Below w1.heap.size w1 wr)
  case atStart => exact ⟨0, by omega, rfl, rfl, rfl, Below.refl _ _⟩
  case round =>
    obtain ⟨k, hk, rfl, rfl, rfl, hB⟩ := hrel
    have HBr := hide hB
    have hss := hB.size
    clear hB
    cases gk with
    | zero =>
      obtain rfl : k = F + 1 := by omega
      rw [← HA.out]
      have hz : ¬ (((F + 1 : Nat) : Int) < (F : Int) + 1) := by omega
      go_wp2
      go_ret2
      exact ⟨rfl, HB2.out.trans (HBr.out.mono HB2.out.size)⟩
    | succ g =>
      have HXr := hide (HX1.out.belowV HBr.out)
      have hltI : (k : Int) < (F : Int) + 1 := by omega
      have CO := hide (fun W => ofB c k HO.out (by omega) W)
      obtain ⟨hne, _⟩ := andNot_ne k F (by omega) (by omega)
      have hle := leastTo_le c.vs want F k
      have HM := hide (leastTo_miss c.vs want F k)
      have HH := hide (leastTo_hit c.vs want F k)
      have HC : Hid (candB c.vs want F k = (partB k F && decide (want ≤ (ofN c.vs k 8 : Int)))) := rfl
      generalize hq : leastTo c.vs want F k = q at *
      clear hq
      obtain ⟨m, fd⟩ := q
      simp only at hle
      generalize ofN c.vs k 8 = O at *
      cases hp : partB k F
      · have HE : Hid (leastTo c.vs want F (k + 1) = (m, fd)) := hide (HM.out (by rw [HC.out, hp]; rfl))
        rw [hp] at hne
        clear HM HH HC
        go_wp2
        go_roundg g
        case measure => omega
        case rel => exact ⟨k + 1, by omega, by rw [HE.out], by rw [HE.out], by first | rfl | go_num, HBr.out⟩
      · rw [hp] at hne
        by_cases hf : want ≤ (O : Int)
        case neg =>
          have HE : Hid (leastTo c.vs want F (k + 1) = (m, fd)) := hide (HM.out (by rw [HC.out, decide_eq_false hf]; simp))
          have d1 : decide ((O : Int) < want) = true := decide_eq_true (by omega)
          clear HM HH HC hf
          go_wp2_with (first | (refine wp_load_cfg_g rfl _ rfl _ rfl HO.out HXr.out ?_) | (go_at_call 10; refine (CO.out _).mono ?_; rintro e w2 ⟨rfl, hB2⟩; have HB3 := hide hB2; clear hB2))
          go_roundg g
          case measure => omega
          case rel => exact ⟨k + 1, by omega, by rw [HE.out], by rw [HE.out], by first | rfl | go_num, HBr.out.trans (HB3.out.mono hss)⟩
        case pos =>
          have HE : Hid (leastTo c.vs want F (k + 1) = leastStep (m, fd) k) := hide (HH.out (by rw [HC.out, decide_eq_true hf, hp]; rfl))
          have d1 : decide ((O : Int) < want) = false := decide_eq_false (by omega)
          have CK := hide (fun W => count_any k (by omega) W)
          have CM := hide (fun W => count_any m (by omega) W)
          have HL : Hid (leastStep (m, fd) k = if !fd || decide ((listS k).length < (listS m).length) then (k, true) else (m, fd)) := rfl
          generalize (listS k).length = nk at *
          generalize (listS m).length = nm at *
          clear HM HH HC hf
          cases fd
          · have HE2 : Hid (leastTo c.vs want F (k + 1) = (k, true)) := hide (by rw [HE.out, HL.out]; rfl)
            clear HE HL CK CM
            go_wp2_with (first | (refine wp_load_cfg_g rfl _ rfl _ rfl HO.out HXr.out ?_) | (go_at_call 10; refine (CO.out _).mono ?_; rintro e w2 ⟨rfl, hB2⟩; have HB3 := hide hB2; clear hB2))
            go_roundg g
            case measure => omega
            case rel => exact ⟨k + 1, by omega, by rw [HE2.out], by rw [HE2.out], by first | rfl | go_num, HBr.out.trans (HB3.out.mono hss)⟩
          · by_cases hn : nk < nm
            · have HE2 : Hid (leastTo c.vs want F (k + 1) = (k, true)) := hide (by rw [HE.out, HL.out, decide_eq_true hn]; rfl)
              have d2 : decide ((nk : Int) < (nm : Int)) = true := decide_eq_true (by omega)
              clear HE HL
              go_wp2_with (first | (refine wp_load_cfg_g rfl _ rfl _ rfl HO.out HXr.out ?_) | (go_at_call 10; refine (CO.out _).mono ?_; rintro e w2 ⟨rfl, hB2⟩; have HB3 := hide hB2; clear hB2) | (go_at_call 25; refine (CK.out _).mono ?_; rintro e w4 ⟨rfl, hw4⟩; rw [hw4]; clear hw4 CK) | (go_at_call 25; refine (CM.out _).mono ?_; rintro e w4 ⟨rfl, hw4⟩; rw [hw4]; clear hw4))
              go_roundg g
              case measure => omega
              case rel => exact ⟨k + 1, by omega, by rw [HE2.out], by rw [HE2.out], by first | rfl | go_num, HBr.out.trans (HB3.out.mono hss)⟩
            · have HE2 : Hid (leastTo c.vs want F (k + 1) = (m, true)) := hide (by rw [HE.out, HL.out, decide_eq_false hn]; rfl)
              have d2 : decide ((nk : Int) < (nm : Int)) = false := decide_eq_false (by omega)
              clear HE HL
              go_wp2_with (first | (refine wp_load_cfg_g rfl _ rfl _ rfl HO.out HXr.out ?_) | (go_at_call 10; refine (CO.out _).mono ?_; rintro e w2 ⟨rfl, hB2⟩; have HB3 := hide hB2; clear hB2) | (go_at_call 25; refine (CK.out _).mono ?_; rintro e w4 ⟨rfl, hw4⟩; rw [hw4]; clear hw4 CK) | (go_at_call 25; refine (CM.out _).mono ?_; rintro e w4 ⟨rfl, hw4⟩; rw [hw4]; clear hw4))
              go_roundg g
              case measure => omega
              case rel => exact ⟨k + 1, by omega, by rw [HE2.out], by rw [HE2.out], by first | rfl | go_num, HBr.out.trans (HB3.out.mono hss)⟩
end Go.Proofs.YtnljibmdcknmeabDoor
