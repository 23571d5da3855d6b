/-
  For every configuration and every list of votes the statement VotesMakes returns true: Make and May answer as the reference does, and the probe 'alive' holds; nothing that was there is written.
  Conditions: the library's table math/bits.deBruijn64tab holds what its initialiser lays (the card ties that to the program's text); else none.
-/
import Derived.Test.YtnljibmdcknmeaaDoorVtAlive
import Derived.Test.YtnljibmdcknmeaaDoorVtEq
import Derived.Test.YtnljibmdcknmeaaDoorVtOpen
namespace Go.Proofs.YtnljibmdcknmeaaDoor
open Go.ChangeShapes Go.WideShapes Go.ChangeAt Go.RowKit

namespace makes
theorem arr_set (e r w : Nat) (xs : List Nat) (k : Nat) (hk : k < 8) (hl : k < xs.length) : (mkTo e r w xs k).arr.setIfInBounds (3 + k) (.int .u8 ((xs.getD k 0 : Nat) : Int)) = (mkTo e r w xs (k + 1)).arr := by
  have h1 : (xs.take k ++ List.replicate (8 - k) 0).set k (xs.getD k 0) = xs.take (k + 1) ++ List.replicate (8 - (k + 1)) 0 := by
    have hlen : (xs.take k).length = k := by simp; omega
    rw [List.set_append_right _ _ (by omega), hlen, Nat.sub_self, show 8 - k = (8 - (k + 1)) + 1 by omega, List.replicate_succ, List.set_cons_zero, take_snocN xs k hl, List.append_assoc]
    rfl
  have h2 : (votL (xs.take k ++ List.replicate (8 - k) 0)).set k (.int .u8 ((xs.getD k 0 : Nat) : Int)) = votL (xs.take (k + 1) ++ List.replicate (8 - (k + 1)) 0) := by
    rw [← h1]
    unfold votL
    rw [List.map_set]
  unfold Cf.arr Cf.cells mkTo
  rw [show 3 + k = k + 1 + 1 + 1 by omega, List.setIfInBounds_toArray, List.set_cons_succ, List.set_cons_succ, List.set_cons_succ, h2]
set_option maxRecDepth 100000 in
set_option maxHeartbeats 3200000 in
theorem rmake_any (e r w0 : Nat) (xs : List Nat) (v : Value) (w : World) (hL : Lies .u8 w v (natI xs)) (he : e < 4294967296) (hr : r < 256) (hw : w0 < 256) (hx : ∀ x ∈ xs, x < 256) :
    Calls Tryd.prog 11 #[.int .u32 ((e : Nat) : Int), .int .u8 ((r : Nat) : Int), .int .u8 ((w0 : Nat) : Int), v] w fun e' w' => e' = .returned (.tuple #[.agg (makeF e r w0 xs).arr, .int .i64 (makeW e r w0 xs)]) ∧ Below w.heap.size w w' := by
  have hB0 := ((Below.refl w.heap.size w).alloc (Nat.le_refl _) (.cells #[.int .u32 0, .int .u8 0, .int .u8 0, .int .u8 0, .int .u8 0, .int .u8 0, .int .u8 0, .int .u8 0, .int .u8 0, .int .u8 0, .int .u8 0] 25)).alloc (by simp) (.cells #[.int .u32 0, .int .u8 0, .int .u8 0, .int .u8 0, .int .u8 0, .int .u8 0, .int .u8 0, .int .u8 0, .int .u8 0, .int .u8 0, .int .u8 0] 25)
  have HB0 := hide hB0
  have HR0 : Hid (Box ((w.alloc (.cells #[.int .u32 0, .int .u8 0, .int .u8 0, .int .u8 0, .int .u8 0, .int .u8 0, .int .u8 0, .int .u8 0, .int .u8 0, .int .u8 0, .int .u8 0] 25)).alloc (.cells #[.int .u32 0, .int .u8 0, .int .u8 0, .int .u8 0, .int .u8 0, .int .u8 0, .int .u8 0, .int .u8 0, .int .u8 0, .int .u8 0, .int .u8 0] 25)) w.heap.size zeroC.arr 25) := hide ((box_new w zeroC.arr 25).belowV ((Below.refl _ _).alloc (Nat.le_refl _) _))
  have HC0 : Hid (Box ((w.alloc (.cells #[.int .u32 0, .int .u8 0, .int .u8 0, .int .u8 0, .int .u8 0, .int .u8 0, .int .u8 0, .int .u8 0, .int .u8 0, .int .u8 0, .int .u8 0] 25)).alloc (.cells #[.int .u32 0, .int .u8 0, .int .u8 0, .int .u8 0, .int .u8 0, .int .u8 0, .int .u8 0, .int .u8 0, .int .u8 0, .int .u8 0, .int .u8 0] 25)) (w.heap.size + 1) zeroC.arr 25) := hide (by
    have := box_new (w.alloc (.cells #[.int .u32 0, .int .u8 0, .int .u8 0, .int .u8 0, .int .u8 0, .int .u8 0, .int .u8 0, .int .u8 0, .int .u8 0, .int .u8 0, .int .u8 0] 25)) zeroC.arr 25
    rw [World.size_alloc] at this
    exact this)
  have hlen := hL.len
  unfold maxLen at hlen
  have hnl := natI_len xs
  have HKT := hide (fun k hk hl => mkTo_ok e r w0 xs k he hr hw hx hk hl)
  have HXB := hide hx
  have HAS := hide (fun k hk hl => arr_set e r w0 xs k hk hl)
  have HNA := hide (fun k => natI_at xs k)
  obtain ⟨ao, cap, hv, hat⟩ := hL.at
  rw [hnl] at hv hat
  have HAT := hide hat
  clear hat
  subst hv
  have HAB : Hid (Value.agg #[.int .u32 ((e : Nat) : Int), .int .u8 ((r : Nat) : Int), .int .u8 ((w0 : Nat) : Int), .int .u8 0, .int .u8 0, .int .u8 0, .int .u8 0, .int .u8 0, .int .u8 0, .int .u8 0, .int .u8 0] = .agg (mkTo e r w0 xs 0).arr) := hide rfl
  have HKB : Hid (mkTo e r w0 xs 0).Ok := hide (mkTo_ok e r w0 xs 0 he hr hw hx (by omega) (by omega))
  clear hL hB0 hx
  by_cases h8 : xs.length ≤ 8
  case neg =>
    have d1 : decide ((xs.length : Int) > 8) = true := decide_eq_true (by omega)
    have HF2 : Hid (makeF e r w0 xs = zeroC) := hide (by unfold makeF; rw [decide_eq_false h8]; rfl)
    have HW2 : Hid (makeW e r w0 xs = 16) := hide (by unfold makeW; rw [decide_eq_false h8]; rfl)
    go_enter Tryd.func11, Tryd.ntmps11
    go_wp2_with (first
      | (refine wp_store_cfg rfl rfl _ _ rfl _ rfl zeroC_ok HKB.out HAB.out HC0.out ?_; intro w2 hb2 hk2; have HR2 := hide (HR0.out.keep hk2 (by omega)); have HB2 := hide (HB0.out.trans (hk2.below HB0.out.size (fun k hk => by omega))); clear hb2 hk2 HC0 HR0)
      | (refine wp_store_cfg rfl rfl _ _ rfl _ rfl zeroC_ok zeroC_ok rfl HR2.out ?_; intro w5 hb5 hk5; have HR5 := hide hb5; have HB5 := hide (HB2.out.trans (hk5.below HB2.out.size (fun k hk => by omega))); clear hb5 hk5 HR2))
    refine bodyPost_ret (v := .tuple #[.agg zeroC.arr, .int .i64 16]) (results_box2 Tryd.results11 _ _ w.heap.size rfl rfl HR5.out Tryd.underlying25 rfl (by rw [zeroC_ok.size]; exact infoCfg)) rfl ⟨by rw [HF2.out, HW2.out], HB5.out⟩
  case pos =>
    have d1 : decide ((xs.length : Int) > 8) = false := decide_eq_false (by omega)
    have HF : Hid (makeF e r w0 xs = if decide (xs.length ≤ 8) && mayB (mkC e r w0 xs) then mkC e r w0 xs else zeroC) := rfl
    have HW : Hid (makeW e r w0 xs = if decide (xs.length ≤ 8) && mayB (mkC e r w0 xs) then 0 else 16) := rfl
    rw [decide_eq_true h8] at HF HW
    go_enter Tryd.func11, Tryd.ntmps11
    go_wp2_with (refine wp_store_cfg rfl rfl _ _ rfl _ rfl zeroC_ok HKB.out HAB.out HC0.out ?_; intro w2 hb2 hk2; have HC2 := hide hb2; have HR2 := hide (HR0.out.keep hk2 (by omega)); have HB2 := hide (HB0.out.trans (hk2.below HB0.out.size (fun k hk => by omega))); clear hb2 hk2 HC0 HR0)
    go_loopg [11] xs.length (fun g i wr => ∃ k : Nat, k + g = xs.length ∧ i = .int .i64 k ∧ Box wr (w.heap.size + 1) (mkTo e r w0 xs k).arr 25 ∧ Box wr w.heap.size zeroC.arr 25 ∧ Below w.heap.size w wr)
    case atStart => exact ⟨0, by omega, rfl, HC2.out, HR2.out, HB2.out⟩
    case round =>
      obtain ⟨k, hk, rfl, hC, hR, hB⟩ := hrel
      have HC := hide hC
      have HR := hide hR
      have HBr := hide hB
      clear hC hR hB
      cases gk with
      | zero =>
        obtain rfl : k = xs.length := by omega
        have hz : ¬ ((xs.length : Int) < (xs.length : Int)) := by omega
        obtain ⟨cc, hcc⟩ : ∃ c : Cf, c = mkC e r w0 xs := ⟨_, rfl⟩
        have HKC : Hid cc.Ok := hide (by rw [hcc]; exact HKT.out xs.length h8 (Nat.le_refl _))
        have HC3 : Hid (Box wr (w.heap.size + 1) cc.arr 25) := hide (by rw [hcc]; exact HC.out)
        have CM := hide (fun W => rmay_any cc HKC.out W)
        rw [← hcc] at HF HW
        clear hcc HC HAT HNA HAS HKT
        cases hm : mayB cc
        · rw [hm] at CM HF HW
          have HF2 : Hid (makeF e r w0 xs = zeroC) := hide (by rw [HF.out]; rfl)
          have HW2 : Hid (makeW e r w0 xs = 16) := hide (by rw [HW.out]; rfl)
          clear HF HW hm
          go_wp2_with (first
            | (refine wp_load_cfg rfl _ rfl _ rfl HKC.out HC3.out ?_)
            | (go_at_call 13; refine (CM.out _).mono ?_; rintro e' w4 ⟨rfl, hB4⟩; have HR4 := hide (HR.out.belowV hB4); have HB4 := hide (HBr.out.trans (hB4.mono HBr.out.size)); clear hB4 HC3)
            | (refine wp_store_cfg rfl rfl _ _ rfl _ rfl zeroC_ok zeroC_ok rfl HR4.out ?_; intro w5 hb5 hk5; have HR5 := hide hb5; have HB5 := hide (HB4.out.trans (hk5.below HB4.out.size (fun k hk => by omega))); clear hb5 hk5 HR4))
          refine bodyPost_ret (v := .tuple #[.agg zeroC.arr, .int .i64 16]) (results_box2 Tryd.results11 _ _ w.heap.size rfl rfl HR5.out Tryd.underlying25 rfl (by rw [zeroC_ok.size]; exact infoCfg)) rfl ⟨by rw [HF2.out, HW2.out], HB5.out⟩
        · rw [hm] at CM HF HW
          have HF2 : Hid (makeF e r w0 xs = cc) := hide (by rw [HF.out]; rfl)
          have HW2 : Hid (makeW e r w0 xs = 0) := hide (by rw [HW.out]; rfl)
          clear HF HW hm
          go_wp2_with (first
            | (refine wp_load_cfg rfl _ rfl _ rfl HKC.out HC3.out ?_)
            | (go_at_call 13; refine (CM.out _).mono ?_; rintro e' w4 ⟨rfl, hB4⟩; have HC4 := hide (HC3.out.belowV hB4); have HR4 := hide (HR.out.belowV hB4); have HB4 := hide (HBr.out.trans (hB4.mono HBr.out.size)); clear hB4 HC3)
            | (refine wp_load_cfg rfl _ rfl _ rfl HKC.out HC4.out ?_)
            | (refine wp_store_cfg rfl rfl _ _ rfl _ rfl zeroC_ok HKC.out rfl HR4.out ?_; intro w5 hb5 hk5; have HR5 := hide hb5; have HB5 := hide (HB4.out.trans (hk5.below HB4.out.size (fun k hk => by omega))); clear hb5 hk5 HR4))
          refine bodyPost_ret (v := .tuple #[.agg cc.arr, .int .i64 0]) (results_box2 Tryd.results11 _ _ w.heap.size rfl rfl HR5.out Tryd.underlying25 rfl (by rw [HKC.out.size]; exact infoCfg)) rfl ⟨by rw [HF2.out, HW2.out], HB5.out⟩
      | succ g =>
        have hz : (k : Int) < (xs.length : Int) := by omega
        have hk8 : (k : Int) < 8 := by omega
        obtain ⟨b, off, rfl, hcs⟩ := HAT.out k (by omega)
        have hc0 := hcs k (by omega)
        have hbl : b < w.heap.size := by
          rcases Nat.lt_or_ge b w.heap.size with h | h
          · exact h
          · have hn : w.heap[b]? = none := by simp [h]
            simp [World.cell?, hn] at hc0
        have hcr := (HBr.out.cell (p := ⟨b, off + k, none⟩) hbl).trans hc0
        rw [HNA.out k] at hcr
        have hok := HKT.out k (by omega) (by omega)
        have hcell := box_at hok HC.out k (by omega)
        have hfz := HC.out.frozen (3 + k)
        have HS := hide (HAS.out k (by omega) (by omega))
        clear hcs hc0 hok
        generalize (mkTo e r w0 xs k).vs.getD k 0 = old at *
        generalize xs.getD k 0 = x at *
        go_wp2
        go_roundg g
        case measure => omega
        case rel =>
          refine ⟨k + 1, by omega, by first | rfl | go_num, ?_, ?_, HBr.out.setCell (by simp) _⟩
          · have := HC.out.set (i := 3 + k) (v := .int .u8 (x : Int))
            rw [HS.out] at this
            exact this
          · exact HR.out.keep ((KeepBut.refl (fun k => k = w.heap.size + 1) _).setCell (.inl rfl) _) (by omega)

set_option maxRecDepth 100000 in
set_option maxHeartbeats 6400000 in
theorem walkN (c : Cf) (xs : List Nat) (v : Value) (hok : c.Ok) (w : World) (hL : Lies .u8 w v (natI xs)) (hx : ∀ x ∈ xs, x < 256) (hT : Tab w) :
    Calls Tryd.prog 3 #[.agg c.arr, v] w fun e w' => e = .returned (.bool true) ∧ Below w.heap.size w w' := by
  have hTp := hT.pos
  have hsz := hok.size
  have HO := hide hok
  have HX := hide (box_new w c.arr 25)
  have x0 := arr_e HX.out
  have x1 := arr_r HX.out
  have x2 := arr_w HX.out
  have HB := hide (alloc_below w (.cells c.arr 25))
  have HT := hide (hT.below HB.out hTp)
  have CA := hide (fun W hW => alive_any W hW)
  have HL := hide hL
  have hlen := hL.len
  unfold maxLen at hlen
  have hnl := natI_len xs
  rw [hnl] at hlen
  obtain ⟨ao, cap, hv, _⟩ := hL.at
  rw [hnl] at hv
  subst hv
  by_cases h3 : xs.length > 300
  · have d1 : decide ((xs.length : Int) > 300) = true := decide_eq_true (by omega)
    clear hok hL hT
    go_enter Tryd.func3, Tryd.ntmps3
    go_wp2_with (go_at_call 9; refine (CA.out _ HT.out).mono ?_; rintro e w2 ⟨rfl, hB2⟩; have HB2 := hide (HB.out.trans (hB2.mono HB.out.size)); clear hB2)
    go_ret
    exact ⟨rfl, HB2.out⟩
  · have d1 : decide ((xs.length : Int) > 300) = false := decide_eq_false (by omega)
    have C1 := hide (fun W hW => make_any c.e c.r c.w xs (.slice ao xs.length cap) W hW hok.e hok.r hok.w hx)
    have C2 := hide (fun W hW => rmake_any c.e c.r c.w xs (.slice ao xs.length cap) W hW hok.e hok.r hok.w hx)
    have C3 := hide (fun W => may_any c hok W)
    have C4 := hide (fun W => rmay_any c hok W)
    have HKF : Hid (makeF c.e c.r c.w xs).Ok := hide (by
      unfold makeF
      by_cases h8 : xs.length ≤ 8
      · rw [decide_eq_true h8]
        cases mayB (mkC c.e c.r c.w xs)
        · exact zeroC_ok
        · exact mkTo_ok c.e c.r c.w xs xs.length hok.e hok.r hok.w hx h8 (Nat.le_refl _)
      · rw [decide_eq_false h8]; exact zeroC_ok)
    generalize makeF c.e c.r c.w xs = R at *
    generalize makeW c.e c.r c.w xs = Y at *
    generalize mayB c = mb at *
    have HYY : Hid ((Y == Y) = true) := hide (by simp)
    have HMM : Hid ((mb == mb) = true) := hide (by simp)
    clear hok hL hT hx
    go_enter Tryd.func3, Tryd.ntmps3
    go_wp2_with (first
      | (go_at_call 10; refine (C1.out _ (HL.out.below HB.out)).mono ?_; rintro e w2 ⟨rfl, hB2⟩; have HB2 := hide (HB.out.trans (hB2.mono HB.out.size)); have hs2 := hB2.size; rw [World.size_alloc] at hs2; have HZ2 := hide (box_new w2 zeroC.arr 25); have HX3 := hide ((HX.out.belowV hB2).belowV (alloc_below w2 (.cells zeroC.arr 25))); have HT3 := hide ((HT.out.below hB2 HT.out.pos).below (alloc_below w2 (.cells zeroC.arr 25)) (by omega)); have HB3 := hide (HB2.out.trans ((alloc_below w2 (.cells zeroC.arr 25)).mono HB2.out.size)); clear hB2 HX HT x0 x1 x2)
      | (refine wp_store_cfg rfl rfl _ _ rfl _ rfl zeroC_ok HKF.out rfl HZ2.out ?_; intro w4 hb4 hk4; have HR4 := hide hb4; have hs4 := hk4.size; rw [World.size_alloc] at hs4; have HX4 := hide (HX3.out.keep hk4 (by omega)); have HT4 := hide (HT3.out.below (hk4.below (B := w2.heap.size) (by simp) (fun k hk => by omega)) (by omega)); have HB4 := hide (HB3.out.trans (hk4.below HB3.out.size (fun k hk => by omega))); have y0 := arr_e HX4.out; have y1 := arr_r HX4.out; have y2 := arr_w HX4.out; have hlt4 := HX4.out.lt; clear hb4 hk4 HZ2 HX3 HT3 HB3)
      | (go_at_call 11; refine (C2.out _ (HL.out.below HB4.out)).mono ?_; rintro e w5 ⟨rfl, hB5⟩; have HB5 := hide (HB4.out.trans (hB5.mono HB4.out.size)); have hs5 := hB5.size; have HZ5 := hide (box_new w5 zeroC.arr 25); have HR6 := hide ((HR4.out.belowV hB5).belowV (alloc_below w5 (.cells zeroC.arr 25))); have HX6 := hide ((HX4.out.belowV hB5).belowV (alloc_below w5 (.cells zeroC.arr 25))); have HT6 := hide ((HT4.out.below hB5 HT4.out.pos).below (alloc_below w5 (.cells zeroC.arr 25)) (by omega)); have HB6 := hide (HB5.out.trans ((alloc_below w5 (.cells zeroC.arr 25)).mono HB5.out.size)); clear hB5 HR4 HX4 HT4 y0 y1 y2)
      | (refine wp_store_cfg rfl rfl _ _ rfl _ rfl zeroC_ok HKF.out rfl HZ5.out ?_; intro w7 hb7 hk7; have HS7 := hide hb7; have hs7 := hk7.size; rw [World.size_alloc] at hs7; have HR7 := hide (HR6.out.keep hk7 (by omega)); have HX7 := hide (HX6.out.keep hk7 (by omega)); have HT7 := hide (HT6.out.below (hk7.below (B := w5.heap.size) (by simp) (fun k hk => by omega)) (by omega)); have HB7 := hide (HB6.out.trans (hk7.below HB6.out.size (fun k hk => by omega))); clear hb7 hk7 HZ5 HR6 HX6 HT6 HB6))
    refine wp_region_vals (by kernel_rfl) [(35, .agg R.arr), (36, .agg R.arr), (37, .bool true), (38, .bool true), (39, .int .i64 Y), (40, .int .i64 Y), (41, .bool true), (42, .bool true), (43, .bool true), (44, .agg c.arr), (45, .bool mb), (46, .agg c.arr), (47, .bool mb), (48, .bool true), (49, .bool true), (50, .bool true), (51, .bool true), (52, .bool true), (4, .bool true)] (by kernel_rfl) rfl ?_ ?_
    · intro i o hi A w8 hB hold hdeps
      have hX8 := HX7.out.belowV hB
      have hR8 := HR7.out.belowV hB
      have hS8 := HS7.out.belowV hB
      have hlt : i < 19 := (Array.getElem?_eq_some_iff.1 hi).1
      have hc : i = 0 ∨ i = 1 ∨ i = 2 ∨ i = 3 ∨ i = 4 ∨ i = 5 ∨ i = 6 ∨ i = 7 ∨ i = 8 ∨ i = 9 ∨ i = 10 ∨ i = 11 ∨ i = 12 ∨ i = 13 ∨ i = 14 ∨ i = 15 ∨ i = 16 ∨ i = 17 ∨ i = 18 := by omega
      clear hlt
      rcases hc with rfl | rfl | rfl | rfl | rfl | rfl | rfl | rfl | rfl | rfl | rfl | rfl | rfl | rfl | rfl | rfl | rfl | rfl | rfl
      · obtain rfl := Option.some.inj hi
        have s5 : A.tmps.getD 5 undef = .pointer (some ⟨w2.heap.size, 0, none⟩) := hold 5 (by kernel_rfl)
        exact v_pure hi rfl rfl (x_loadC _ HKF.out s5 hR8)
      · obtain rfl := Option.some.inj hi
        have s7 : A.tmps.getD 7 undef = .pointer (some ⟨w5.heap.size, 0, none⟩) := hold 7 (by kernel_rfl)
        exact v_pure hi rfl rfl (x_loadC _ HKF.out s7 hS8)
      · obtain rfl := Option.some.inj hi
        have s35 : A.tmps.getD 35 undef = .agg R.arr := dep_of hdeps 0 (by kernel_rfl)
        have s36 : A.tmps.getD 36 undef = .agg R.arr := dep_of hdeps 1 (by kernel_rfl)
        exact v_pure hi rfl rfl (x_eqlC _ _ HKF.out s35 s36)
      · obtain rfl := Option.some.inj hi
        have s37 : A.tmps.getD 37 undef = .bool true := dep_of hdeps 2 (by kernel_rfl)
        exact v_pure hi rfl rfl (x_move _ s37)
      · obtain rfl := Option.some.inj hi
        have g4 : A.tmps.getD 38 undef = .bool true := dep_of hdeps 3 (by kernel_rfl)
        have s6 : A.tmps.getD 6 undef = .int .i64 Y := hold 6 (by kernel_rfl)
        exact v_pure hi (wanted_of rfl rfl g4) rfl (x_move _ s6)
      · obtain rfl := Option.some.inj hi
        have g5 : A.tmps.getD 38 undef = .bool true := dep_of hdeps 3 (by kernel_rfl)
        have s8 : A.tmps.getD 8 undef = .int .i64 Y := hold 8 (by kernel_rfl)
        exact v_pure hi (wanted_of rfl rfl g5) rfl (x_move _ s8)
      · obtain rfl := Option.some.inj hi
        have g6 : A.tmps.getD 38 undef = .bool true := dep_of hdeps 3 (by kernel_rfl)
        have s39 : A.tmps.getD 39 undef = .int .i64 Y := dep_of hdeps 4 (by kernel_rfl)
        have s40 : A.tmps.getD 40 undef = .int .i64 Y := dep_of hdeps 5 (by kernel_rfl)
        exact v_pure hi (wanted_of rfl rfl g6) (congrArg Value.bool HYY.out.symm) (x_eql _ _ (.inl ⟨rfl, rfl⟩) s39 s40)
      · obtain rfl := Option.some.inj hi
        have s38 : A.tmps.getD 38 undef = .bool true := dep_of hdeps 3 (by kernel_rfl)
        have s41 : A.tmps.getD 41 undef = .bool true := dep_of hdeps 6 (by kernel_rfl)
        exact v_pure hi rfl rfl (x_pickT _ _ _ s38 s41)
      · obtain rfl := Option.some.inj hi
        have s42 : A.tmps.getD 42 undef = .bool true := dep_of hdeps 7 (by kernel_rfl)
        exact v_pure hi rfl rfl (x_move _ s42)
      · obtain rfl := Option.some.inj hi
        have g9 : A.tmps.getD 43 undef = .bool true := dep_of hdeps 8 (by kernel_rfl)
        have s2 : A.tmps.getD 2 undef = .pointer (some ⟨w.heap.size, 0, none⟩) := hold 2 (by kernel_rfl)
        exact v_pure hi (wanted_of rfl rfl g9) rfl (x_loadC _ HO.out s2 hX8)
      · obtain rfl := Option.some.inj hi
        have g10 : A.tmps.getD 43 undef = .bool true := dep_of hdeps 8 (by kernel_rfl)
        have s44 : A.tmps.getD 44 undef = .agg c.arr := dep_of hdeps 9 (by kernel_rfl)
        exact v_enter hi (wanted_of rfl rfl g10) rfl (x_call 12 _ #[.agg c.arr] _ rfl (by simp only [List.map_toArray, List.map_cons, List.map_nil, show A.eval (.tmp 44) = .agg c.arr from s44]; try rfl) en_may) (C3.out w8)
      · obtain rfl := Option.some.inj hi
        have g11 : A.tmps.getD 43 undef = .bool true := dep_of hdeps 8 (by kernel_rfl)
        have s2 : A.tmps.getD 2 undef = .pointer (some ⟨w.heap.size, 0, none⟩) := hold 2 (by kernel_rfl)
        exact v_pure hi (wanted_of rfl rfl g11) rfl (x_loadC _ HO.out s2 hX8)
      · obtain rfl := Option.some.inj hi
        have g12 : A.tmps.getD 43 undef = .bool true := dep_of hdeps 8 (by kernel_rfl)
        have s46 : A.tmps.getD 46 undef = .agg c.arr := dep_of hdeps 11 (by kernel_rfl)
        exact v_enter hi (wanted_of rfl rfl g12) rfl (x_call 13 _ #[.agg c.arr] _ rfl (by simp only [List.map_toArray, List.map_cons, List.map_nil, show A.eval (.tmp 46) = .agg c.arr from s46]; try rfl) en_rmay) (C4.out w8)
      · obtain rfl := Option.some.inj hi
        have g13 : A.tmps.getD 43 undef = .bool true := dep_of hdeps 8 (by kernel_rfl)
        have s45 : A.tmps.getD 45 undef = .bool mb := dep_of hdeps 10 (by kernel_rfl)
        have s47 : A.tmps.getD 47 undef = .bool mb := dep_of hdeps 12 (by kernel_rfl)
        exact v_pure hi (wanted_of rfl rfl g13) (congrArg Value.bool HMM.out.symm) (x_eqlB _ _ s45 s47)
      · obtain rfl := Option.some.inj hi
        have s43 : A.tmps.getD 43 undef = .bool true := dep_of hdeps 8 (by kernel_rfl)
        have s48 : A.tmps.getD 48 undef = .bool true := dep_of hdeps 13 (by kernel_rfl)
        exact v_pure hi rfl rfl (x_pickT _ _ _ s43 s48)
      · obtain rfl := Option.some.inj hi
        have s49 : A.tmps.getD 49 undef = .bool true := dep_of hdeps 14 (by kernel_rfl)
        exact v_pure hi rfl rfl (x_move _ s49)
      · obtain rfl := Option.some.inj hi
        have g16 : A.tmps.getD 50 undef = .bool true := dep_of hdeps 15 (by kernel_rfl)
        exact v_enter hi (wanted_of rfl rfl g16) rfl (x_call 9 _ #[] _ rfl (by simp) en_alive) (CA.out w8 (HT7.out.below hB HT7.out.pos))
      · obtain rfl := Option.some.inj hi
        have s50 : A.tmps.getD 50 undef = .bool true := dep_of hdeps 15 (by kernel_rfl)
        have s51 : A.tmps.getD 51 undef = .bool true := dep_of hdeps 16 (by kernel_rfl)
        exact v_pure hi rfl rfl (x_pickT _ _ _ s50 s51)
      · obtain rfl := Option.some.inj hi
        have s52 : A.tmps.getD 52 undef = .bool true := dep_of hdeps 17 (by kernel_rfl)
        exact v_pure hi rfl rfl (x_assign _ s52)
    · intro w8 hB
      simp only [putAll, Act.put, List.setIfInBounds_toArray, List.set_cons_succ, List.set_cons_zero]
      go_wp2_with fail
      go_ret
      exact ⟨rfl, HB7.out.trans (hB.mono HB7.out.size)⟩
theorem walkI (c : Cf) (ks : List Int) (v : Value) (hok : c.Ok) (w : World) (hL : Lies .u8 w v ks) (hx : ∀ k ∈ ks, 0 ≤ k ∧ k < 256) (hT : Tab w) :
    Calls Tryd.prog 3 #[.agg c.arr, v] w fun e w' => e = .returned (.bool true) ∧ Below w.heap.size w w' := by
  obtain ⟨xs, rfl, hb⟩ := nats_of ks hx
  exact walkN c xs v hok w hL hb hT
end makes
namespace makes
set_option maxRecDepth 100000 in
theorem contract (H : Type) (enc : TypeId × Value → H) (W : World) (base : Nat) (args : Array Value) (ds gs : List (DataW H)) (before : List MemPlace)
    (hval : ∀ (j : Nat) t v, Tryd.f3.params[j]? = some t → args[j]? = some v → Value.okWide Tryd.prog W .any base t v)
    (hW : DataW.Whole enc Tryd.prog Tryd.f3.params.toList Rows.votesMakesSpec.vars false W args.toList ds gs before) (hL : laidMet Tryd.prog laidList W) :
    Calls Tryd.prog 3 args W fun e W' => ∃ v, e = .returned v ∧ Rows.votesMakesSpec.post enc Tryd.prog Tryd.f3 false true false false W args v W' := by
  have hW' := hW
  obtain ⟨p, q, hA0, hV, rfl, hfz, hnd⟩ := hW
  have hA : DataW.TrodAll enc Tryd.prog W 0 (fun _ => true) true Tryd.f3.params.toList args.toList ds p := hA0
  rw [Tryd.params3] at hA hval
  obtain ⟨v0, vs0, d0, ds0, p0, q0, hargs, rfl, rfl, h0, r0⟩ := trodAll_cons hA
  obtain ⟨v1, vs1, d1, ds1, p1, q1, rfl, rfl, rfl, h1, r1⟩ := trodAll_cons r0
  obtain ⟨rfl, rfl, rfl⟩ := trodAll_nil r1
  obtain rfl : args = #[v0, v1] := by cases args; simp_all
  obtain ⟨rfl, rfl⟩ := trodVars_none hV
  have k0 := h0
  have lt0 : ∀ x ∈ p0, x.block < W.heap.size := by obtain ⟨m, hm⟩ := k0; exact DataW.trod_lt m _ _ _ hm
  obtain ⟨c0, rfl, ok0⟩ := cfg_of_trod (hval 0 25 v0 rfl rfl) h0
  obtain ⟨a1, len1, cap1, rfl⟩ := okWide_slice Tryd.underlying26 (hval 1 26 v1 rfl rfl)
  have k1 := h1
  have lt1 : ∀ x ∈ p1, x.block < W.heap.size := by obtain ⟨m, hm⟩ := k1; exact DataW.trod_lt m _ _ _ hm
  obtain ⟨xs1, lies1, by1⟩ := lies_of_trod h1
  clear hA0
  refine (makes.walkI c0 xs1 _ ok0 W lies1 by1 (tab_of_laid hL)).mono fun e W' ⟨he, bel⟩ => ?_
  subst he
  exact ⟨_, rfl, _, _, _, [], _, [], hW', trodAll_mk1 (shut_bool Tryd.underlying4 _), (trodAll_cons_mk (Below.trod laidOut (by kernel_rfl) (of_decide_eq_true (by kernel_rfl)) k0 bel lt0) (trodAll_cons_mk (Below.trod laidOut (by kernel_rfl) (of_decide_eq_true (by kernel_rfl)) k1 bel lt1) trodAll_mk0)), rfl, bel.frame _, fun h => by cases h⟩

theorem laid_met (os : Os) : laidMet Tryd.prog laidList ((layTab (World.holding Tryd.prog os ⟨#[], #[], []⟩)).forCall (fun _ _ => 0) ⟨#[], #[.agg #[.int .u32 0, .int .u8 0, .int .u8 0, .int .u8 0, .int .u8 0, .int .u8 0, .int .u8 0, .int .u8 0, .int .u8 0, .int .u8 0, .int .u8 0], .slice none 0 0], []⟩).memory :=
  laidMet_of_run' 8 (by kernel_rfl) (by kernel_rfl)
theorem reads (os : Os) {H : Type} (enc : TypeId × Value → H) : ∃ places, DataW.whole enc Tryd.prog ((layTab (World.holding Tryd.prog os ⟨#[], #[], []⟩)).forCall (fun _ _ => 0) ⟨#[], #[.agg #[.int .u32 0, .int .u8 0, .int .u8 0, .int .u8 0, .int .u8 0, .int .u8 0, .int .u8 0, .int .u8 0, .int .u8 0, .int .u8 0, .int .u8 0], .slice none 0 0], []⟩).memory Tryd.f3.params.toList Rows.votesMakesSpec.vars false #[Value.agg #[.int .u32 0, .int .u8 0, .int .u8 0, .int .u8 0, .int .u8 0, .int .u8 0, .int .u8 0, .int .u8 0, .int .u8 0, .int .u8 0, .int .u8 0], Value.slice none 0 0].toList 8 = some ([.agg [.lit (.int .u32 0), .lit (.int .u8 0), .lit (.int .u8 0), .agg [.lit (.int .u8 0), .lit (.int .u8 0), .lit (.int .u8 0), .lit (.int .u8 0), .lit (.int .u8 0), .lit (.int .u8 0), .lit (.int .u8 0), .lit (.int .u8 0)]], .nil], [], places) :=
  ⟨[], by kernel_rfl⟩

set_option maxRecDepth 100000 in
theorem lifted (os : Os) (started : os.Started) (H : Type) (enc : TypeId × Value → H) (F : Stop.Interp) :
    ReturnsInHanded {} Tryd.checked os 3 .any ((OpenSpec.ofChange Rows.votesMakesSpec).preRow enc Tryd.prog Tryd.f3 Rows.votesMakesRow.domain false Rows.votesMakesRow.laid) (((OpenSpec.ofChange Rows.votesMakesSpec).at F).post enc Tryd.prog Tryd.f3 false true false false) := by
  obtain ⟨places, hx⟩ := reads os enc
  refine returnsInHanded_of_row (C := Tryd.checked) (s := OpenSpec.ofChange Rows.votesMakesSpec) own started (by kernel_rfl) Tryd.func3
    (witness_row_at (enc := enc) (C := Tryd.checked) false (layTab (World.holding Tryd.prog os ⟨#[], #[], []⟩)) #[.agg #[.int .u32 0, .int .u8 0, .int .u8 0, .int .u8 0, .int .u8 0, .int .u8 0, .int .u8 0, .int .u8 0, .int .u8 0, .int .u8 0, .int .u8 0], .slice none 0 0] rfl (by kernel_rfl) (by kernel_rfl) (by kernel_rfl)
      (OpenSpec.preRow_of_cond 8 hx (by kernel_rfl) (fun k hk => by cases hk) (by kernel_rfl) (laid_met os))) ?_
  intro W base args ds gs before hval hW _ _ _ hL _ _
  exact contract H enc W base args ds gs before hval hW hL

theorem said : Rows.VotesMakesSaid :=
  OpenClaim.holds_of_cond 3 Tryd.f3 rfl rfl rfl rfl rfl rfl rfl ⟨rfl, rfl, rfl, rfl, rfl⟩ rfl rfl rfl rfl rfl (by kernel_rfl) Tryd.func3 (by kernel_rfl)
    (of_decide_eq_true (by kernel_rfl)) (by unfold Func.isWrapper; first | (rw [if_pos (by decide +kernel)]; kernel_rfl) | (rw [if_neg (by decide +kernel)]; exact ⟨rfl, rfl⟩))
    (fun os started H enc _ F => by rw [OpenClaim.pre_eq_preRow]; exact lifted os started H enc F)

theorem plain (f : FuncId) (fn : Func) (hf : Tryd.pinned.checked.prog.funcNamed Tryd.f3.name = some f) (hfn : Tryd.pinned.checked.prog.funcs[f]? = some fn) :
    false = Tryd.pinned.checked.prog.looks [] ∧ ∀ (j : Nat) t, fn.params[j]? = some t → Tryd.pinned.checked.prog.wantsStandIn t = false := by
  obtain rfl : f = 3 := Option.some.inj ((show Tryd.prog.funcNamed Tryd.f3.name = some 3 by kernel_rfl).symm.trans hf) |>.symm
  obtain rfl : fn = Tryd.f3 := (Option.some.inj (Tryd.func3.symm.trans hfn)).symm
  refine ⟨by kernel_rfl, fun j t ht => ?_⟩
  rw [Tryd.params3] at ht
  have : t = 25 ∨ t = 26 := by simpa using Array.mem_of_getElem? ht
  rcases this with rfl | rfl
  · exact (show Tryd.prog.wantsStandIn 25 = false by kernel_rfl)
  · exact (show Tryd.prog.wantsStandIn 26 = false by kernel_rfl)
end makes

/-- THE CARD. -/
theorem votesMakes_card : Rows.VotesMakesCardSaid :=
  Claim7.holds_tied_plain_at .later [] _ _ _ _ makes.said (fun _ h => by cases h) (by kernel_rfl) (fun _ h => by cases h) votesMakes_row_tie rfl ⟨rfl, rfl⟩ (by kernel_rfl) rfl makes.plain (by kernel_rfl)
#print axioms votesMakes_card
end Go.Proofs.YtnljibmdcknmeaaDoor
