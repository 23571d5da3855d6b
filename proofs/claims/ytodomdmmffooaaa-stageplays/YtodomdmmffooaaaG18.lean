/-
  Own texts put together: MpWm, SgProg. Own work.
-/
import Derived.Test.YtodomdmmffooaaaG17
import Derived.Test.YtodomdmmffooaaaG10
import Derived.Test.YtodomdmmffooaaaG12
namespace Go.Proofs.Ytodomdmmffooaaa
section
open Go.RowKit Classical

theorem en10_keys : ∀ args w, (callFunc 56 args).run Try.prog w = .ok (.enter 56 args) w := enters_of Try.func56 (by kernel_rfl) rfl
theorem wpList_load_mid_g {ops : Array Oper} {rest : List Oper} {op : Oper} {a : Act} {w : World} {Q : Exit → Act → World → Prop} (hgd : Region.wanted op (yielded ops a.tmps) = true) (ty : TypeId) (x : Operand) (ho : op.op = .load ty x)
    (b o : Nat) (hx : a.eval x = .pointer (some ⟨b, o, none⟩)) (cs : List Value) (d : TypeDesc) (hc : w.rangeAt b o cs)
    (hu : Try.prog.underlying ty = some d) (hd : d.isRow = true) (hi : (Try.prog.info? ty).map (·.size) = some cs.length)
    (h : wpList Try.prog ops Q rest (a.put op.dst (.agg cs.toArray)) w) : wpList Try.prog ops Q (op :: rest) a w :=
  wpList_wanted hgd fun _ hK => wp_load_mid ty x ho b o hx cs d hc hu hd hi (hK _ _ h)
theorem wr_oneA10 (x : WrP) : (wrA x).all (·.oneCell') = true := by
  rw [Array.all_eq_true_iff_forall_mem]
  intro u hu
  exact wr_one x u (by simpa using hu)
set_option maxRecDepth 100000 in
set_option maxHeartbeats 3200000 in
theorem writesMay_any (v : Value) (ws : List WrP) (w : World) (h : RSrc wrE w v ws) (hok : ∀ x ∈ ws, KeyOk x.key ∧ ItOk x.it) :
    Calls Try.prog 34 #[v] w fun e w' => e = .returned (.bool (wsMayB ws)) ∧ Below w.heap.size w w' := by
  obtain ⟨a1, c1, rfl, hc1, hm1⟩ := h.shape
  have H1 := hide h
  have HA := hide hok
  obtain ⟨R, hR⟩ : ∃ R, R = wsMayB ws := ⟨_, rfl⟩
  rw [← hR]
  have HR := hide hR
  obtain ⟨L1, hL1⟩ : ∃ L1, L1 = ws.length := ⟨_, rfl⟩
  rw [← hL1]
  rw [← hL1] at hc1
  have HL1 := hide hL1
  clear h hok hR hL1 hm1
  by_cases hlen : L1 ≤ 16
  rotate_left
  · have hz : decide ((L1 : Int) > 16) = true := decide_eq_true (by omega)
    have HE : Hid (R = false) := hide (by
      rw [HR.out]
      cases hq : wsMayB ws with
      | false => rfl
      | true => have := (ws_all.1 hq).2; rw [← HL1.out] at this; exact absurd this hlen)
    have hz2 : (16 : Int) < (L1 : Int) := by omega
    clear hlen
    go_enter Try.func34, Try.ntmps34
    go_wp2_with fail
    go_ret
    exact ⟨by rw [HE.out]; rfl, Below.refl _ _⟩
  have hz16 : ¬ ((16 : Int) < (L1 : Int)) := by omega
  go_enter Try.func34, Try.ntmps34
  go_wp2_with fail
  clear hz16
  go_loopg [10] L1 (fun g i wr => ∃ k : Nat, k + g = L1 ∧ i = .int .i64 k ∧ Hid (Below w.heap.size w wr) ∧ Hid (∀ j, j < k → okAt ws j = true))
  case atStart => exact ⟨0, by omega, rfl, hide (Below.refl _ _), hide (fun j h => absurd h (Nat.not_lt_zero _))⟩
  case round =>
    obtain ⟨k, hk, rfl, HBW, HT⟩ := hrel
    cases gk with
    | zero =>
      obtain rfl : k = L1 := by omega
      have hz : ¬ ((k : Int) < (k : Int)) := by omega
      have HE : Hid (R = true) := hide (by
        rw [HR.out, ws_all, ← HL1.out]
        exact ⟨fun j hj => HT.out j hj, by omega⟩)
      go_wp2_with fail
      go_ret
      exact ⟨by rw [HE.out]; rfl, HBW.out⟩
    | succ g =>
      have hz : (k : Int) < (L1 : Int) := by omega
      have hz0 : (0 : Int) ≤ (k : Int) := by omega
      have hk1 : k < ws.length := by rw [← HL1.out]; omega
      have hkl : k < L1 := by omega
      have hS1 : RSrc wrE wr (.slice a1 L1 c1) ws := by have := H1.out.below HBW.out; rw [← HL1.out] at this; exact this
      obtain ⟨b1, o1, rfl, hr1⟩ := hS1.range hk1
      have hbl : b1 < wr.heap.size := by obtain ⟨_, _, _, e, hb, _⟩ := hS1.at recWR.len hk1; cases e; exact hb
      obtain ⟨x, hx⟩ : ∃ x, x = ws[k] := ⟨_, rfl⟩
      rw [← hx] at hr1
      have HR1 := hide hr1
      have HXD : Hid (ws.getD k zeroWr = x) := hide (by rw [hx]; simp [List.getD, hk1])
      have HXO : Hid (KeyOk x.key ∧ ItOk x.it) := hide (by rw [hx]; exact HA.out _ (List.getElem_mem hk1))
      have CK := hide (fun W => keyMay_any x.key HXO.out.1 W)
      have CI := hide (fun W => itemMay_any x.it HXO.out.2 W)
      have HZ := hide (box_new wr (wrA zeroWr) 59)
      have HBA := hide (alloc_below10 wr (.cells (wrA zeroWr) 59))
      have HK1 := hide hk1
      have HS1 := hide hS1
      have HBL := hide hbl
      clear hr1 hx hk1 hS1 hbl
      go_wp2_with (first
        | (refine wpList_load_mid rfl _ _ rfl b1 (o1 + k * 21) rfl (wrE x) _ HR1.out Try.underlying59 rfl infoWrite ?_)
        | (refine wp_store_box rfl rfl _ _ rfl wr.heap.size rfl (cs' := wrA x) rfl HZ.out rfl infoWrite (wr_oneA10 x) ?_; intro w4 hb4 hk4; have HX4 := hide hb4; have HK4 := hide hk4; have HRK := hide (range_key (x := x) (box_range hb4 0 _ (fun j u hu => by rw [Nat.zero_add, List.getElem?_toArray]; exact hu))); clear hb4 hk4)
        | (refine wpList_load_mid rfl _ _ rfl wr.heap.size 0 rfl (eightE x.key) _ HRK.out Try.underlying53 rfl infoKey10 ?_))
      have HB4 : Hid (Below wr.heap.size wr w4) := hide (HBA.out.trans (HK4.out.below HBA.out.size (fun k e => by omega)))
      clear HZ HBA HK4 HRK
      refine (CK.out w4).mono ?_
      rintro e w5 ⟨rfl, hB5⟩
      have HB5 := hide (HB4.out.trans (hB5.mono HB4.out.size))
      have HX5 := hide (HX4.out.belowI hB5)
      clear hB5 HB4 HX4 CK
      cases hkey : (nameF x.key).2 with
      | false =>
        have HE : Hid (R = false) := hide (by rw [HR.out]; exact ws_not HK1.out (by unfold okAt; rw [HXD.out, hkey]; rfl))
        clear hkey
        go_wp2_with fail
        go_ret
        exact ⟨by rw [HE.out]; rfl, HBW.out.trans (HB5.out.mono HBW.out.size)⟩
      | true =>
        have HRI := hide (range_item (x := x) (box_range HX5.out 0 _ (fun j u hu => by rw [Nat.zero_add, List.getElem?_toArray]; exact hu)))
        go_wp2_with (refine wpList_load_mid_g ?_ _ _ rfl wr.heap.size (0 + 8) rfl (itE x.it) _ HRI.out Try.underlying57 rfl infoItem ?_; rfl)
        refine (CI.out w5).mono ?_
        rintro e w6 ⟨rfl, hB6⟩
        have HB6 := hide (HB5.out.trans (hB6.mono HB5.out.size))
        have HX6 := hide (HX5.out.belowI hB6)
        clear hB6 HB5 HX5 CI HRI
        cases hit : itMayB x.it with
        | false =>
          have HE : Hid (R = false) := hide (by rw [HR.out]; exact ws_not HK1.out (by unfold okAt; rw [HXD.out, hit, Bool.and_false]; rfl))
          clear hkey hit
          go_wp2_with fail
          go_ret
          exact ⟨by rw [HE.out]; rfl, HBW.out.trans (HB6.out.mono HBW.out.size)⟩
        | true =>
          cases k with
          | zero =>
            have HT2 : Hid (∀ j, j < 0 + 1 → okAt ws j = true) := hide (fun j hj => by
              obtain rfl : j = 0 := by omega
              unfold okAt keysB
              rw [HXD.out, hkey, hit]
              rfl)
            clear hkey hit
            go_wp2_with fail
            refine wp_region_vals (by kernel_rfl) [(25, .int .i64 ((0 : Nat) : Int)), (26, .bool false), (27, .bool false), (28, undef), (29, undef), (30, undef), (31, undef), (32, undef), (33, undef), (34, undef), (35, undef), (36, undef), (37, undef), (38, .bool false)] (by kernel_rfl) rfl ?_ ?_
            · intro i o hi A w1 hB hold hdeps
              have hlt : i < 14 := (Array.getElem?_eq_some_iff.1 hi).1
              have hc : i = 0 ∨ i = 1 ∨ i = 2 ∨ i = 3 ∨ i = 4 ∨ i = 5 ∨ i = 6 ∨ i = 7 ∨ i = 8 ∨ i = 9 ∨ i = 10 ∨ i = 11 ∨ i = 12 ∨ i = 13 := by omega
              clear hlt
              rcases hc with rfl | rfl | rfl | rfl | rfl | rfl | rfl | rfl | rfl | rfl | rfl | rfl | rfl | rfl
              · obtain rfl := Option.some.inj hi
                have s3 : A.tmps.getD 3 undef = .int .i64 ((0 : Nat) : Int) := hold 3 (by kernel_rfl)
                exact r_pure hi rfl rfl (y_move _ s3)
              · obtain rfl := Option.some.inj hi
                have s25 : A.tmps.getD 25 undef = .int .i64 ((0 : Nat) : Int) := dep_of hdeps 0 (by kernel_rfl)
                exact r_pure hi rfl rfl (y_gtr0 _ _ s25 rfl (by simp))
              · obtain rfl := Option.some.inj hi
                have s26 : A.tmps.getD 26 undef = .bool false := dep_of hdeps 1 (by kernel_rfl)
                exact r_pure hi rfl rfl (y_move _ s26)
              · obtain rfl := Option.some.inj hi
                have g3 : A.tmps.getD 27 undef = .bool false := dep_of hdeps 2 (by kernel_rfl)
                exact each_skip hi rfl rfl (fun e => absurd (g3.symm.trans e) (by simp)) rfl
              · obtain rfl := Option.some.inj hi
                have g4 : A.tmps.getD 27 undef = .bool false := dep_of hdeps 2 (by kernel_rfl)
                exact each_skip hi rfl rfl (fun e => absurd (g4.symm.trans e) (by simp)) rfl
              · obtain rfl := Option.some.inj hi
                have g5 : A.tmps.getD 27 undef = .bool false := dep_of hdeps 2 (by kernel_rfl)
                exact each_skip hi rfl rfl (fun e => absurd (g5.symm.trans e) (by simp)) rfl
              · obtain rfl := Option.some.inj hi
                have g6 : A.tmps.getD 27 undef = .bool false := dep_of hdeps 2 (by kernel_rfl)
                exact each_skip hi rfl rfl (fun e => absurd (g6.symm.trans e) (by simp)) rfl
              · obtain rfl := Option.some.inj hi
                have g7 : A.tmps.getD 27 undef = .bool false := dep_of hdeps 2 (by kernel_rfl)
                exact each_skip hi rfl rfl (fun e => absurd (g7.symm.trans e) (by simp)) rfl
              · obtain rfl := Option.some.inj hi
                have g8 : A.tmps.getD 27 undef = .bool false := dep_of hdeps 2 (by kernel_rfl)
                exact each_skip hi rfl rfl (fun e => absurd (g8.symm.trans e) (by simp)) rfl
              · obtain rfl := Option.some.inj hi
                have g9 : A.tmps.getD 27 undef = .bool false := dep_of hdeps 2 (by kernel_rfl)
                exact each_skip hi rfl rfl (fun e => absurd (g9.symm.trans e) (by simp)) rfl
              · obtain rfl := Option.some.inj hi
                have g10 : A.tmps.getD 27 undef = .bool false := dep_of hdeps 2 (by kernel_rfl)
                exact each_skip hi rfl rfl (fun e => absurd (g10.symm.trans e) (by simp)) rfl
              · obtain rfl := Option.some.inj hi
                have g11 : A.tmps.getD 27 undef = .bool false := dep_of hdeps 2 (by kernel_rfl)
                exact each_skip hi rfl rfl (fun e => absurd (g11.symm.trans e) (by simp)) rfl
              · obtain rfl := Option.some.inj hi
                have g12 : A.tmps.getD 27 undef = .bool false := dep_of hdeps 2 (by kernel_rfl)
                exact each_skip hi rfl rfl (fun e => absurd (g12.symm.trans e) (by simp)) rfl
              · obtain rfl := Option.some.inj hi
                have s27 : A.tmps.getD 27 undef = .bool false := dep_of hdeps 2 (by kernel_rfl)
                exact r_pure hi rfl rfl (y_pickF _ _ _ s27 rfl)
            · intro w8 hB8
              simp only [putAll, Act.put, List.setIfInBounds_toArray, List.set_cons_succ, List.set_cons_zero]
              have HB8 := hide hB8
              clear hB8
              go_wp2_with fail
              go_roundg g
              case measure => omega
              case rel => exact ⟨0 + 1, by omega, by first | rfl | go_num, hide (HBW.out.trans ((HB6.out.trans (HB8.out.mono HB6.out.size)).mono HBW.out.size)), HT2⟩
          | succ k =>
            have hk0 : k < ws.length := by have := HK1.out; omega
            have hkl0 : k < L1 := by omega
            obtain ⟨b2, o2, e2, hr2⟩ := HS1.out.range hk0
            cases e2
            obtain ⟨y, hy⟩ : ∃ y, y = ws[k] := ⟨_, rfl⟩
            rw [← hy] at hr2
            have HR2 := hide hr2
            have HYD : Hid (ws.getD k zeroWr = y) := hide (by rw [hy]; simp [List.getD, hk0])
            have HYO : Hid (KeyOk y.key) := hide (by rw [hy]; exact (HA.out _ (List.getElem_mem hk0)).1)
            have CX : Hid (∀ W, Calls Try.prog 56 #[.agg (eightA y.key), .agg (eightA x.key)] W fun e w' => e = .returned (.int .i64 (lexF y.key x.key)) ∧ Below W.heap.size W w') := hide (fun W => by
              have := keys_any y.key x.key W HYO.out.l HXO.out.1.l HYO.out.b HXO.out.1.b
              rw [eight_cells8 HYO.out.l, eight_cells8 HXO.out.1.l] at this
              exact this)
            have hsm : k < 1000000 := by omega
            have HKB : Hid (keysB ws (k + 1) = decide (lexF y.key x.key < 0)) := hide (by unfold keysB; rw [Nat.add_sub_cancel, HXD.out, HYD.out]; simp)
            obtain ⟨r, hr⟩ : ∃ r, r = lexF y.key x.key := ⟨_, rfl⟩
            rw [← hr] at CX HKB
            clear hr2 hy hr hk0
            have hbl := HBL.out
            by_cases hlt : r < 0
            · have dge : decide (0 ≤ r) = false := decide_eq_false (by omega)
              have HT2 : Hid (∀ j, j < k + 1 + 1 → okAt ws j = true) := hide (fun j hj => by
                rcases Nat.lt_or_ge j (k + 1) with h | h
                · exact HT.out j h
                · obtain rfl : j = k + 1 := by omega
                  unfold okAt
                  rw [HXD.out, hkey, hit, HKB.out, decide_eq_true hlt]
                  rfl)
              clear hkey hit
              go_wp2_with fail
              refine wp_region_vals (by kernel_rfl) [(25, .int .i64 ((k + 1 : Nat) : Int)), (26, .bool true), (27, .bool true), (28, .slice (some ⟨b1, o1, none⟩) L1 c1), (29, .int .i64 ((k + 1 : Nat) : Int)), (30, .int .i64 (k : Int)), (31, .pointer (some ⟨b1, o1 + k * 21, none⟩)), (32, .pointer (some ⟨b1, o1 + k * 21, none⟩)), (33, .agg (eightA y.key)), (34, .pointer (some ⟨wr.heap.size, 0, none⟩)), (35, .agg (eightA x.key)), (36, .int .i64 r), (37, .bool false), (38, .bool false)] (by kernel_rfl) rfl ?_ ?_
              · intro i o hi A w1 hB hold hdeps
                have hlt : i < 14 := (Array.getElem?_eq_some_iff.1 hi).1
                have hc : i = 0 ∨ i = 1 ∨ i = 2 ∨ i = 3 ∨ i = 4 ∨ i = 5 ∨ i = 6 ∨ i = 7 ∨ i = 8 ∨ i = 9 ∨ i = 10 ∨ i = 11 ∨ i = 12 ∨ i = 13 := by omega
                clear hlt
                rcases hc with rfl | rfl | rfl | rfl | rfl | rfl | rfl | rfl | rfl | rfl | rfl | rfl | rfl | rfl
                · obtain rfl := Option.some.inj hi
                  have s3 : A.tmps.getD 3 undef = .int .i64 ((k + 1 : Nat) : Int) := hold 3 (by kernel_rfl)
                  exact r_pure hi rfl rfl (y_move _ s3)
                · obtain rfl := Option.some.inj hi
                  have s25 : A.tmps.getD 25 undef = .int .i64 ((k + 1 : Nat) : Int) := dep_of hdeps 0 (by kernel_rfl)
                  exact r_pure hi rfl rfl (y_gtr0 _ _ s25 rfl (by simp))
                · obtain rfl := Option.some.inj hi
                  have s26 : A.tmps.getD 26 undef = .bool true := dep_of hdeps 1 (by kernel_rfl)
                  exact r_pure hi rfl rfl (y_move _ s26)
                · obtain rfl := Option.some.inj hi
                  have g3 : A.tmps.getD 27 undef = .bool true := dep_of hdeps 2 (by kernel_rfl)
                  have s0 : A.tmps.getD 0 undef = .slice (some ⟨b1, o1, none⟩) L1 c1 := hold 0 (by kernel_rfl)
                  exact r_pure hi (wanted_of rfl rfl g3) rfl (y_move _ s0)
                · obtain rfl := Option.some.inj hi
                  have g4 : A.tmps.getD 27 undef = .bool true := dep_of hdeps 2 (by kernel_rfl)
                  have s3 : A.tmps.getD 3 undef = .int .i64 ((k + 1 : Nat) : Int) := hold 3 (by kernel_rfl)
                  exact r_pure hi (wanted_of rfl rfl g4) rfl (y_move _ s3)
                · obtain rfl := Option.some.inj hi
                  have g5 : A.tmps.getD 27 undef = .bool true := dep_of hdeps 2 (by kernel_rfl)
                  have s29 : A.tmps.getD 29 undef = .int .i64 ((k + 1 : Nat) : Int) := dep_of hdeps 4 (by kernel_rfl)
                  exact r_pure hi (wanted_of rfl rfl g5) rfl (y_sub1 _ _ s29 rfl hsm)
                · obtain rfl := Option.some.inj hi
                  have g6 : A.tmps.getD 27 undef = .bool true := dep_of hdeps 2 (by kernel_rfl)
                  have s28 : A.tmps.getD 28 undef = .slice (some ⟨b1, o1, none⟩) L1 c1 := dep_of hdeps 3 (by kernel_rfl)
                  have s30 : A.tmps.getD 30 undef = .int .i64 (k : Int) := dep_of hdeps 5 (by kernel_rfl)
                  exact r_pure hi (wanted_of rfl rfl g6) rfl (y_idxW _ _ s28 s30 hkl0)
                · obtain rfl := Option.some.inj hi
                  have g7 : A.tmps.getD 27 undef = .bool true := dep_of hdeps 2 (by kernel_rfl)
                  have s31 : A.tmps.getD 31 undef = .pointer (some ⟨b1, o1 + k * 21, none⟩) := dep_of hdeps 6 (by kernel_rfl)
                  exact r_pure hi (wanted_of rfl rfl g7) rfl (y_fldW0 _ s31)
                · obtain rfl := Option.some.inj hi
                  have g8 : A.tmps.getD 27 undef = .bool true := dep_of hdeps 2 (by kernel_rfl)
                  have s32 : A.tmps.getD 32 undef = .pointer (some ⟨b1, o1 + k * 21, none⟩) := dep_of hdeps 7 (by kernel_rfl)
                  exact r_pure hi (wanted_of rfl rfl g8) rfl (y_loadMid _ _ s32 (range_below (range_key HR2.out) hbl (HB6.out.trans (hB.mono HB6.out.size))) Try.underlying53 rfl infoKey10)
                · obtain rfl := Option.some.inj hi
                  have g9 : A.tmps.getD 27 undef = .bool true := dep_of hdeps 2 (by kernel_rfl)
                  have s4 : A.tmps.getD 4 undef = .pointer (some ⟨wr.heap.size, 0, none⟩) := hold 4 (by kernel_rfl)
                  exact r_pure hi (wanted_of rfl rfl g9) rfl (y_fldW0 _ s4)
                · obtain rfl := Option.some.inj hi
                  have g10 : A.tmps.getD 27 undef = .bool true := dep_of hdeps 2 (by kernel_rfl)
                  have s34 : A.tmps.getD 34 undef = .pointer (some ⟨wr.heap.size, 0, none⟩) := dep_of hdeps 9 (by kernel_rfl)
                  exact r_pure hi (wanted_of rfl rfl g10) rfl (y_loadMid _ _ s34 (range_key (x := x) (box_range (HX6.out.belowI hB) 0 _ (fun j u hu => by rw [Nat.zero_add, List.getElem?_toArray]; exact hu))) Try.underlying53 rfl infoKey10)
                · obtain rfl := Option.some.inj hi
                  have g11 : A.tmps.getD 27 undef = .bool true := dep_of hdeps 2 (by kernel_rfl)
                  have s33 : A.tmps.getD 33 undef = .agg (eightA y.key) := dep_of hdeps 8 (by kernel_rfl)
                  have s35 : A.tmps.getD 35 undef = .agg (eightA x.key) := dep_of hdeps 10 (by kernel_rfl)
                  exact r_enter hi (wanted_of rfl rfl g11) rfl (y_call 56 _ #[.agg (eightA y.key), .agg (eightA x.key)] _ rfl (by simp only [List.map_toArray, List.map_cons, List.map_nil, show A.eval (.tmp 33) = .agg (eightA y.key) from s33, show A.eval (.tmp 35) = .agg (eightA x.key) from s35]; try rfl) en10_keys) (CX.out w1)
                · obtain rfl := Option.some.inj hi
                  have g12 : A.tmps.getD 27 undef = .bool true := dep_of hdeps 2 (by kernel_rfl)
                  have s36 : A.tmps.getD 36 undef = .int .i64 r := dep_of hdeps 11 (by kernel_rfl)
                  exact r_pure hi (wanted_of rfl rfl g12) rfl (y_geq0 _ _ s36 rfl dge)
                · obtain rfl := Option.some.inj hi
                  have s27 : A.tmps.getD 27 undef = .bool true := dep_of hdeps 2 (by kernel_rfl)
                  have s37 : A.tmps.getD 37 undef = .bool false := dep_of hdeps 12 (by kernel_rfl)
                  exact r_pure hi rfl rfl (y_pickT _ _ _ s27 s37)
              · intro w8 hB8
                simp only [putAll, Act.put, List.setIfInBounds_toArray, List.set_cons_succ, List.set_cons_zero]
                have HB8 := hide hB8
                clear hB8
                go_wp2_with fail
                go_roundg g
                case measure => omega
                case rel => exact ⟨k + 1 + 1, by omega, by first | rfl | go_num, hide (HBW.out.trans ((HB6.out.trans (HB8.out.mono HB6.out.size)).mono HBW.out.size)), HT2⟩
            · have dge : decide (0 ≤ r) = true := decide_eq_true (by omega)
              have HE : Hid (R = false) := hide (by rw [HR.out]; exact ws_not HK1.out (by unfold okAt; rw [HKB.out, decide_eq_false hlt, Bool.and_false]))
              clear hkey hit
              go_wp2_with fail
              refine wp_region_vals (by kernel_rfl) [(25, .int .i64 ((k + 1 : Nat) : Int)), (26, .bool true), (27, .bool true), (28, .slice (some ⟨b1, o1, none⟩) L1 c1), (29, .int .i64 ((k + 1 : Nat) : Int)), (30, .int .i64 (k : Int)), (31, .pointer (some ⟨b1, o1 + k * 21, none⟩)), (32, .pointer (some ⟨b1, o1 + k * 21, none⟩)), (33, .agg (eightA y.key)), (34, .pointer (some ⟨wr.heap.size, 0, none⟩)), (35, .agg (eightA x.key)), (36, .int .i64 r), (37, .bool true), (38, .bool true)] (by kernel_rfl) rfl ?_ ?_
              · intro i o hi A w1 hB hold hdeps
                have hlt : i < 14 := (Array.getElem?_eq_some_iff.1 hi).1
                have hc : i = 0 ∨ i = 1 ∨ i = 2 ∨ i = 3 ∨ i = 4 ∨ i = 5 ∨ i = 6 ∨ i = 7 ∨ i = 8 ∨ i = 9 ∨ i = 10 ∨ i = 11 ∨ i = 12 ∨ i = 13 := by omega
                clear hlt
                rcases hc with rfl | rfl | rfl | rfl | rfl | rfl | rfl | rfl | rfl | rfl | rfl | rfl | rfl | rfl
                · obtain rfl := Option.some.inj hi
                  have s3 : A.tmps.getD 3 undef = .int .i64 ((k + 1 : Nat) : Int) := hold 3 (by kernel_rfl)
                  exact r_pure hi rfl rfl (y_move _ s3)
                · obtain rfl := Option.some.inj hi
                  have s25 : A.tmps.getD 25 undef = .int .i64 ((k + 1 : Nat) : Int) := dep_of hdeps 0 (by kernel_rfl)
                  exact r_pure hi rfl rfl (y_gtr0 _ _ s25 rfl (by simp))
                · obtain rfl := Option.some.inj hi
                  have s26 : A.tmps.getD 26 undef = .bool true := dep_of hdeps 1 (by kernel_rfl)
                  exact r_pure hi rfl rfl (y_move _ s26)
                · obtain rfl := Option.some.inj hi
                  have g3 : A.tmps.getD 27 undef = .bool true := dep_of hdeps 2 (by kernel_rfl)
                  have s0 : A.tmps.getD 0 undef = .slice (some ⟨b1, o1, none⟩) L1 c1 := hold 0 (by kernel_rfl)
                  exact r_pure hi (wanted_of rfl rfl g3) rfl (y_move _ s0)
                · obtain rfl := Option.some.inj hi
                  have g4 : A.tmps.getD 27 undef = .bool true := dep_of hdeps 2 (by kernel_rfl)
                  have s3 : A.tmps.getD 3 undef = .int .i64 ((k + 1 : Nat) : Int) := hold 3 (by kernel_rfl)
                  exact r_pure hi (wanted_of rfl rfl g4) rfl (y_move _ s3)
                · obtain rfl := Option.some.inj hi
                  have g5 : A.tmps.getD 27 undef = .bool true := dep_of hdeps 2 (by kernel_rfl)
                  have s29 : A.tmps.getD 29 undef = .int .i64 ((k + 1 : Nat) : Int) := dep_of hdeps 4 (by kernel_rfl)
                  exact r_pure hi (wanted_of rfl rfl g5) rfl (y_sub1 _ _ s29 rfl hsm)
                · obtain rfl := Option.some.inj hi
                  have g6 : A.tmps.getD 27 undef = .bool true := dep_of hdeps 2 (by kernel_rfl)
                  have s28 : A.tmps.getD 28 undef = .slice (some ⟨b1, o1, none⟩) L1 c1 := dep_of hdeps 3 (by kernel_rfl)
                  have s30 : A.tmps.getD 30 undef = .int .i64 (k : Int) := dep_of hdeps 5 (by kernel_rfl)
                  exact r_pure hi (wanted_of rfl rfl g6) rfl (y_idxW _ _ s28 s30 hkl0)
                · obtain rfl := Option.some.inj hi
                  have g7 : A.tmps.getD 27 undef = .bool true := dep_of hdeps 2 (by kernel_rfl)
                  have s31 : A.tmps.getD 31 undef = .pointer (some ⟨b1, o1 + k * 21, none⟩) := dep_of hdeps 6 (by kernel_rfl)
                  exact r_pure hi (wanted_of rfl rfl g7) rfl (y_fldW0 _ s31)
                · obtain rfl := Option.some.inj hi
                  have g8 : A.tmps.getD 27 undef = .bool true := dep_of hdeps 2 (by kernel_rfl)
                  have s32 : A.tmps.getD 32 undef = .pointer (some ⟨b1, o1 + k * 21, none⟩) := dep_of hdeps 7 (by kernel_rfl)
                  exact r_pure hi (wanted_of rfl rfl g8) rfl (y_loadMid _ _ s32 (range_below (range_key HR2.out) hbl (HB6.out.trans (hB.mono HB6.out.size))) Try.underlying53 rfl infoKey10)
                · obtain rfl := Option.some.inj hi
                  have g9 : A.tmps.getD 27 undef = .bool true := dep_of hdeps 2 (by kernel_rfl)
                  have s4 : A.tmps.getD 4 undef = .pointer (some ⟨wr.heap.size, 0, none⟩) := hold 4 (by kernel_rfl)
                  exact r_pure hi (wanted_of rfl rfl g9) rfl (y_fldW0 _ s4)
                · obtain rfl := Option.some.inj hi
                  have g10 : A.tmps.getD 27 undef = .bool true := dep_of hdeps 2 (by kernel_rfl)
                  have s34 : A.tmps.getD 34 undef = .pointer (some ⟨wr.heap.size, 0, none⟩) := dep_of hdeps 9 (by kernel_rfl)
                  exact r_pure hi (wanted_of rfl rfl g10) rfl (y_loadMid _ _ s34 (range_key (x := x) (box_range (HX6.out.belowI hB) 0 _ (fun j u hu => by rw [Nat.zero_add, List.getElem?_toArray]; exact hu))) Try.underlying53 rfl infoKey10)
                · obtain rfl := Option.some.inj hi
                  have g11 : A.tmps.getD 27 undef = .bool true := dep_of hdeps 2 (by kernel_rfl)
                  have s33 : A.tmps.getD 33 undef = .agg (eightA y.key) := dep_of hdeps 8 (by kernel_rfl)
                  have s35 : A.tmps.getD 35 undef = .agg (eightA x.key) := dep_of hdeps 10 (by kernel_rfl)
                  exact r_enter hi (wanted_of rfl rfl g11) rfl (y_call 56 _ #[.agg (eightA y.key), .agg (eightA x.key)] _ rfl (by simp only [List.map_toArray, List.map_cons, List.map_nil, show A.eval (.tmp 33) = .agg (eightA y.key) from s33, show A.eval (.tmp 35) = .agg (eightA x.key) from s35]; try rfl) en10_keys) (CX.out w1)
                · obtain rfl := Option.some.inj hi
                  have g12 : A.tmps.getD 27 undef = .bool true := dep_of hdeps 2 (by kernel_rfl)
                  have s36 : A.tmps.getD 36 undef = .int .i64 r := dep_of hdeps 11 (by kernel_rfl)
                  exact r_pure hi (wanted_of rfl rfl g12) rfl (y_geq0 _ _ s36 rfl dge)
                · obtain rfl := Option.some.inj hi
                  have s27 : A.tmps.getD 27 undef = .bool true := dep_of hdeps 2 (by kernel_rfl)
                  have s37 : A.tmps.getD 37 undef = .bool true := dep_of hdeps 12 (by kernel_rfl)
                  exact r_pure hi rfl rfl (y_pickT _ _ _ s27 s37)
              · intro w8 hB8
                simp only [putAll, Act.put, List.setIfInBounds_toArray, List.set_cons_succ, List.set_cons_zero]
                have HB8 := hide hB8
                clear hB8
                go_wp2_with fail
                go_ret
                exact ⟨by rw [HE.out]; rfl, HBW.out.trans ((HB6.out.trans (HB8.out.mono HB6.out.size)).mono HBW.out.size)⟩
end
section
open Go.RowKit Go.Maps Classical

abbrev TxT : Type := {t : TxN // TxB t}
/-- What is prepared, as a map's element. -/
abbrev wkV (e : (Nat × Nat) × Value) : Value := .agg #[.int .u32 (e.1.1 : Int), .int .u32 (e.1.2 : Int), e.2]
theorem txI_ok {t : TxN} (h : TxB t) : txOk (txI t) := by
  obtain ⟨h1, h2, h3⟩ := h
  unfold txOk txI
  simp only
  omega
theorem txI_inj {t u : TxN} (h : txI t = txI u) : t = u := by
  obtain ⟨a, b, c⟩ := t
  obtain ⟨d, e, f⟩ := u
  simp only [txI, Prod.mk.injEq] at h
  have h1 : a = d := by omega
  have h2 : b = e := by omega
  have h3 : c = f := by omega
  rw [h1, h2, h3]
theorem tx_back {x : TxP} (h : txOk x) : ∃ t : TxT, x = txI t.1 := by
  obtain ⟨a, b, c⟩ := x
  unfold txOk at h
  simp only at h
  refine ⟨⟨(a.toNat, b.toNat, c.toNat), ?_⟩, ?_⟩
  · unfold TxB
    simp only
    omega
  · simp only [txI, Prod.mk.injEq]
    omega
theorem pmTy : MapTy 62 33 86 (fun t : TxT => txVN t.1) (fun t => txKey (txI t.1)) wkV ((0, 0), .slice none 0 0) where
  und := Try.underlying62
  keyed := txKeyed
  key := fun k => keyOf_tx (txI k.1) (txI_ok k.2)
  inj := fun k l h => Subtype.ext (txI_inj (txKey_inj (txI_ok k.2) (txI_ok l.2) h))
  inv := fun v kl h => by
    obtain ⟨x, hx, rfl, rfl⟩ := keyOf_tx_inv h
    obtain ⟨t, rfl⟩ := tx_back hx
    exact ⟨t, rfl, rfl⟩
  zero := fun w => by kernel_rfl
  einj := fun a b h => by
    obtain ⟨⟨a1, a2⟩, a3⟩ := a
    obtain ⟨⟨b1, b2⟩, b3⟩ := b
    simp at h
    obtain ⟨h1, h2, h3⟩ := h
    have e1 : a1 = b1 := by omega
    have e2 : a2 = b2 := by omega
    rw [e1, e2, h3]
theorem txVN_inj {a b : TxN} (h : txVN a = txVN b) : a = b := by
  obtain ⟨a1, a2, a3⟩ := a
  obtain ⟨b1, b2, b3⟩ := b
  simp at h
  obtain ⟨h1, h2, h3⟩ := h
  have e1 : a1 = b1 := by omega
  have e2 : a2 = b2 := by omega
  have e3 : a3 = b3 := by omega
  rw [e1, e2, e3]
theorem omTy : MapTy 63 53 33 (fun k : KeyT => kyV k.1) (fun k => kyKey k.1) txVN (0, 0, 0) where
  und := Try.underlying63
  keyed := kyKeyed
  key := fun k => keyOf_ky k.1 k.2
  inj := fun k l h => Subtype.ext (kyKey_inj k.2 l.2 h)
  inv := fun v kl h => keyOf_ky_inv h
  zero := fun w => by kernel_rfl
  einj := fun a b h => txVN_inj h
abbrev PMap (w : World) (b : Nat) (g : TxT → Option ((Nat × Nat) × Value)) (n : Nat) : Prop := GMap 33 (fun t : TxT => txKey (txI t.1)) wkV w b g n
abbrev OMap (w : World) (b : Nat) (g : KeyT → Option TxN) (n : Nat) : Prop := GMap 53 (fun k : KeyT => kyKey k.1) txVN w b g n
abbrev gP (l : List OnP) (p : TxN → Value) (t : TxT) : Option ((Nat × Nat) × Value) := (onS l t.1).map fun x => (x.rg, p t.1)
/-- At q lies a stage that New gave: its maps are blocks b1 and b2, its slices p's. -/
structure PSg (w : World) (q b1 b2 : Nat) (p : TxN → Value) (l : List OnP) : Prop where
  box : Box w q #[.map (some b1), .map (some b2)] 65
  m1 : PMap w b1 (gP l p) l.length
  m2 : ∃ n, OMap w b2 (fun k => ownS l k.1) n
  ne : b1 ≠ b2
  rows : ∀ x ∈ l, w.ownsRow 0 59 21 (p x.tx) x.wr.length (flat wrE x.wr)
  apart : ∀ x ∈ l, ∀ y ∈ l, ∀ g, (p x.tx).ownBlock = some g → (p y.tx).ownBlock = some g → x.tx = y.tx
  all : SgAll l
  oks : ∀ x ∈ l, OnOk x
/-- Its blocks. -/
def FSg (q b1 b2 : Nat) (p : TxN → Value) (l : List OnP) (k : Nat) : Prop := k = q ∨ k = b1 ∨ k = b2 ∨ ∃ x ∈ l, (p x.tx).ownBlock = some k
/-- The program's stage. -/
def PS (w : World) (q : Nat) (F : Nat → Prop) (l : List OnP) : Prop := ∃ b1 b2 p, PSg w q b1 b2 p l ∧ ∀ k, F k ↔ FSg q b1 b2 p l k
section
variable {w w' : World} {q b1 b2 : Nat} {p : TxN → Value} {l : List OnP}
theorem row_block {base e K n g : Nat} {v : Value} {xs : List Value} (h : w.ownsRow base e K v n xs) (hg : v.ownBlock = some g) : ∃ cur, w.heap[g]? = some (.cells cur e (0, 0)) := by
  obtain ⟨_, ⟨rfl, _⟩ | ⟨g', cap, cur, rfl, _, hb, _⟩⟩ := h
  · cases hg
  · cases hg
    exact ⟨cur, hb⟩
theorem PSg.blk (h : PSg w q b1 b2 p l) {x : OnP} (hx : x ∈ l) {g : Nat} (hg : (p x.tx).ownBlock = some g) : g < w.heap.size ∧ g ≠ q ∧ g ≠ b1 ∧ g ≠ b2 := by
  obtain ⟨cur, hb⟩ := row_block (h.rows x hx) hg
  refine ⟨(Array.getElem?_eq_some_iff.1 hb).1, ?_, ?_, ?_⟩
  · rintro rfl
    have h2 : w.heap[g]? = _ := h.box
    rw [hb] at h2
    cases h2
  · rintro rfl
    obtain ⟨es, c, hm⟩ := h.m1.isMap
    rw [hb] at hm
    cases hm
  · rintro rfl
    obtain ⟨n, hn⟩ := h.m2
    obtain ⟨es, c, hm⟩ := hn.isMap
    rw [hb] at hm
    cases hm
theorem PSg.q_ne (h : PSg w q b1 b2 p l) : q ≠ b1 ∧ q ≠ b2 := ⟨h.m1.ne h.box, by obtain ⟨n, hn⟩ := h.m2; exact hn.ne h.box⟩
theorem PSg.lt2 (h : PSg w q b1 b2 p l) : b2 < w.heap.size := by obtain ⟨n, hn⟩ := h.m2; exact hn.lt
theorem PSg.keep {S : Nat → Prop} (h : PSg w q b1 b2 p l) (hk : KeepBut S w w') (hS : ∀ k, FSg q b1 b2 p l k → ¬ S k) : PSg w' q b1 b2 p l := by
  obtain ⟨n, hn⟩ := h.m2
  exact ⟨h.box.keep hk (hS _ (.inl rfl)), h.m1.keep hk (hS _ (.inr (.inl rfl))), ⟨n, hn.keep hk (hS _ (.inr (.inr (.inl rfl))))⟩, h.ne, fun x hx => owns_keep (h.rows x hx) hk (fun g hg => hS _ (.inr (.inr (.inr ⟨x, hx, hg⟩)))), h.apart, h.all, h.oks⟩
theorem PSg.below (h : PSg w q b1 b2 p l) (hB : Below w.heap.size w w') : PSg w' q b1 b2 p l := h.keep (KeepBut.of_below (fun _ => False) hB) (fun _ _ h => h)
theorem PSg.flt (h : PSg w q b1 b2 p l) {k : Nat} (hk : FSg q b1 b2 p l k) : k < w.heap.size := by
  rcases hk with rfl | rfl | rfl | ⟨x, hx, hg⟩
  · exact h.box.lt
  · exact h.m1.lt
  · exact h.lt2
  · exact (h.blk hx hg).1
end
theorem ps_keep {w w' : World} {q : Nat} {F S : Nat → Prop} {l : List OnP} (h : PS w q F l) (hk : KeepBut S w w') (hS : ∀ k, F k → ¬ S k) : PS w' q F l := by
  obtain ⟨b1, b2, p, h1, h2⟩ := h
  exact ⟨b1, b2, p, h1.keep hk (fun k hk => hS k ((h2 k).2 hk)), h2⟩
theorem ps_lt {w : World} {q : Nat} {F : Nat → Prop} {l : List OnP} (h : PS w q F l) : ∀ k, F k → k < w.heap.size := by
  obtain ⟨b1, b2, p, h1, h2⟩ := h
  exact fun k hk => h1.flt ((h2 k).1 hk)
theorem ps_ok {w : World} {q : Nat} {F : Nat → Prop} {l : List OnP} (h : PS w q F l) : SgAll l ∧ ∀ x ∈ l, OnOk x := by
  obtain ⟨b1, b2, p, h1, _⟩ := h
  exact ⟨h1.all, h1.oks⟩
theorem psNew_any (w : World) : Calls Try.prog 6 #[] w fun e w' => ∃ q F, e = .returned (.pointer (some ⟨q, 0, none⟩)) ∧ PS w' q F [] ∧ (∀ k, F k → w.heap.size ≤ k) ∧ Below w.heap.size w w' := by
  have hmm := @run_makeMap Try.prog
  go_enter Try.func6, Try.ntmps6
  go_wp2
  go_ret
  have hA : Below w.heap.size w (w.alloc (.map #[] 0)) := (Below.refl _ _).alloc (Nat.le_refl _) _
  have hA2 : Below (w.alloc (.map #[] 0)).heap.size (w.alloc (.map #[] 0)) ((w.alloc (.map #[] 0)).alloc (.map #[] 0)) := (Below.refl _ _).alloc (Nat.le_refl _) _
  have hA3 : Below ((w.alloc (.map #[] 0)).alloc (.map #[] 0)).heap.size ((w.alloc (.map #[] 0)).alloc (.map #[] 0)) (((w.alloc (.map #[] 0)).alloc (.map #[] 0)).alloc (.cells #[.map (some w.heap.size), .map (some (w.heap.size + 1))] 65)) := (Below.refl _ _).alloc (Nat.le_refl _) _
  have h1 := (gmap_made pmTy w).below (hA2.trans (hA3.mono hA2.size))
  have h2 := (gmap_made omTy (w.alloc (.map #[] 0))).below hA3
  have h3 := box_new ((w.alloc (.map #[] 0)).alloc (.map #[] 0)) #[.map (some w.heap.size), .map (some (w.heap.size + 1))] 65
  refine ⟨w.heap.size + 2, FSg (w.heap.size + 2) w.heap.size (w.heap.size + 1) (fun _ => .slice none 0 0) [], by simp, ⟨w.heap.size, w.heap.size + 1, fun _ => .slice none 0 0, ⟨?_, ?_, ⟨0, ?_⟩, by omega, (fun x hx => by cases hx), (fun x hx => by cases hx), sgall_nil, (fun x hx => by cases hx)⟩, fun k => Iff.rfl⟩, fun k hk => ?_, hA.trans ((hA2.mono hA.size).trans (hA3.mono (Nat.le_trans hA.size hA2.size)))⟩
  · simpa using h3
  · exact h1
  · have e : (w.alloc (.map #[] 0)).heap.size = w.heap.size + 1 := by simp
    rw [e] at h2
    exact h2
  · rcases hk with rfl | rfl | rfl | ⟨x, hx, _⟩
    · omega
    · omega
    · omega
    · cases hx
theorem neqSomeP (b : Nat) (w : World) : (binOp .neq 62 (.map (some b)) (.map none)).run Try.prog w = .ok (.bool true) w := by kernel_rfl
theorem made14 (q b1 b2 : Nat) (w : World) (h : Box w q #[.map (some b1), .map (some b2)] 65) : Calls Try.prog 30 #[.pointer (some ⟨q, 0, none⟩)] w fun e w' => e = .returned (.bool true) ∧ w' = w := by
  have h0 := h.cell 0 _ rfl
  have hm := neqSomeP b1
  go_enter Try.func30, Try.ntmps30
  go_wp2
  go_ret
  exact ⟨rfl, rfl⟩
theorem infoKey14 : (Try.prog.info? 53).map (·.size) = some 8 := by kernel_rfl
theorem infoTx14 : (Try.prog.info? 33).map (·.size) = some 3 := by kernel_rfl
theorem infoRg14 : (Try.prog.info? 35).map (·.size) = some 2 := by kernel_rfl
theorem infoWk14 : (Try.prog.info? 86).map (·.size) = some 3 := by kernel_rfl
theorem below_drew14 (w : World) : Below w.heap.size w w.drew := (Below.refl _ _).drew
theorem alloc_below14 (w : World) (o : Obj) : Below w.heap.size w (w.alloc o) := (Below.refl _ _).alloc (Nat.le_refl _) _
theorem box_eight14 {W : World} {b : Nat} {k : List Int} {t : TypeId} (h : Box W b (eightA k) t) : W.cell? ⟨b, 0, none⟩ = some (.int .u8 (at8 k 0)) ∧ W.cell? ⟨b, 1, none⟩ = some (.int .u8 (at8 k 1)) ∧ W.cell? ⟨b, 2, none⟩ = some (.int .u8 (at8 k 2)) ∧ W.cell? ⟨b, 3, none⟩ = some (.int .u8 (at8 k 3)) ∧ W.cell? ⟨b, 4, none⟩ = some (.int .u8 (at8 k 4)) ∧ W.cell? ⟨b, 5, none⟩ = some (.int .u8 (at8 k 5)) ∧ W.cell? ⟨b, 6, none⟩ = some (.int .u8 (at8 k 6)) ∧ W.cell? ⟨b, 7, none⟩ = some (.int .u8 (at8 k 7)) :=
  ⟨h.cell 0 _ rfl, h.cell 1 _ rfl, h.cell 2 _ rfl, h.cell 3 _ rfl, h.cell 4 _ rfl, h.cell 5 _ rfl, h.cell 6 _ rfl, h.cell 7 _ rfl⟩
end
end Go.Proofs.Ytodomdmmffooaaa
