/-
  Proved: no more than 64 keys are in the program's table, whatever number of them comes; one that is there is taken; a nil table and one that nobody made answer an error, have nothing, and stay so, whatever key and item are asked of them. For every input of the form's own reach (an item whose value has more than 1000 bytes is passed by, as the law says). Own work.
-/
import Derived.Test.YtlngejmojpkdkaaG20
import Derived.Test.YtlngejmojpkdkaaG19
import Derived.Deep.LoopGhost
import Derived.SizedLaws
import Derived.ChangeArms
namespace Go.Proofs.Ytlngejmojpkdkaa
section
open Go.RowKit Classical

theorem build_kk (c : Int) (w : World) : (Instr.build 31 #[(0, .int .u8 107), (1, .int .u8 c)]).run Try.prog w = .ok (.agg #[.int .u8 107, .int .u8 c, .int .u8 0, .int .u8 0, .int .u8 0, .int .u8 0, .int .u8 0, .int .u8 0]) w := by kernel_rfl
theorem build_tb0 (w : World) : (Instr.build 57 #[]).run Try.prog w = .ok (.agg #[.map none]) w := by kernel_rfl
theorem neq_z13 (w : World) : (binOp .neq 36 (.agg (itA zeroIt)) (.agg (itA zeroIt))).run Try.prog w = .ok (.bool false) w := by
  rw [neq_it14 zeroI_ok zeroI_ok w, decide_eq_true rfl]
  rfl
theorem neq_z13b (w : World) : (binOp .neq 36 (.agg (itA zeroIt)) (.agg #[.int .u32 0, .string ⟨#[]⟩, .int .u32 0, .int .u8 0, .int .u8 0, .int .u8 0, .int .u8 0, .int .u8 0, .int .u8 0, .int .u8 0, .int .u8 0, .int .u8 0, .int .u8 0])).run Try.prog w = .ok (.bool false) w := neq_z13 w
section
variable {D : World → Nat → (Nat → Prop) → List WrP → Prop}
set_option maxRecDepth 100000 in
set_option maxHeartbeats 12800000 in
theorem walkF13 (H : TableDo D) (many : Nat) (x : WrP) (w : World) (hm : many < 256) (hk : KeyOk x.key) (hv : x.it.val.length ≤ 9223372036854775807) :
    Calls Try.prog 7 #[.int .u8 (many : Int), .agg (wrA x)] w fun e w' => e = .returned (.bool true) ∧ Below w.heap.size w w' := by
  have HA := hide (fun w => alive_by13 H w)
  have HK := hide hk
  have HWB := hide (alloc_below13 w (.cells (wrA x) 38))
  have HXW := hide (box_new w (wrA x) 38)
  have hsz : (strOfNums x.it.val).size = x.it.val.length := by simp [strOfNums, ByteArray.size]
  obtain ⟨LV, hLV⟩ : ∃ LV, LV = x.it.val.length := ⟨_, rfl⟩
  rw [← hLV] at hsz hv
  clear hk hLV
  go_enter Try.func7, Try.ntmps7
  go_wp2_with fail
  obtain ⟨wK, hwK⟩ : ∃ wK, wK = w.alloc (.cells (wrA x) 38) := ⟨_, rfl⟩
  rw [← hwK] at HWB HXW ⊢
  obtain ⟨bk, hbk⟩ : ∃ bk, bk = w.heap.size := ⟨_, rfl⟩
  rw [← hbk] at HXW ⊢
  have HBK := hide hbk
  clear hwK hbk
  refine (H.new wK).mono ?_
  rintro e w1 ⟨q, F1, rfl, hD1, hF1, hB1⟩
  have HS1 : Hid (Since13 D wK q [] w1) := hide ⟨F1, hD1, hF1, hB1⟩
  have HB1 := hide hB1
  clear hD1 hF1 hB1
  have HXB : Hid (∀ W, Below wK.heap.size wK W → Box W bk (wrA x) 38) := hide (fun W hB => HXW.out.belowI hB)
  have c9 : w1.cell? ⟨bk, 9, none⟩ = some (.string (strOfNums x.it.val)) := (HXB.out w1 HB1.out).cell 9 _ rfl
  by_cases hl : 1000 < LV
  · have d1 : decide ((LV : Int) > 1000) = true := decide_eq_true (by omega)
    have d2 : (1000 : Int) < (LV : Int) := by omega
    go_wp2_with fail
    refine (HA.out _).mono ?_
    rintro e w2 ⟨rfl, hB⟩
    have HB := hide (HWB.out.trans ((HB1.out.trans (hB.mono HB1.out.size)).mono HWB.out.size))
    clear hB
    go_wp2_with fail
    go_ret
    exact ⟨rfl, HB.out⟩
  · have d1 : decide ((LV : Int) > 1000) = false := decide_eq_false (by omega)
    have d2 : ¬ (1000 : Int) < (LV : Int) := by omega
    obtain ⟨n, hn⟩ : ∃ n, n = many % 80 := ⟨_, rfl⟩
    have hn80 : n < 80 := by omega
    have hmi : (many : Int) % 80 = (n : Int) := by omega
    have hmt : (many : Int).tmod 80 = (n : Int) := by rw [Int.tmod_eq_emod_of_nonneg (by omega)]; omega
    have C1 : Hid (∀ W, Calls Try.prog 23 #[.int .u32 1, .string ⟨#[]⟩] W fun e w' => e = .returned (.agg (itA (oneI 1 []))) ∧ Below W.heap.size W w') := hide (fun W => one_any13 1 [] W)
    have C2 : Hid (∀ W, Calls Try.prog 23 #[.int .u32 2, .string ⟨#[]⟩] W fun e w' => e = .returned (.agg (itA (oneI 2 []))) ∧ Below W.heap.size W w') := hide (fun W => one_any13 2 [] W)
    have hbk' := fun c W => build_kk c W
    clear hn
    go_wp2_with fail
    go_loopg [32] n (fun g ix wr => ∃ (j : Nat), j + g = n ∧ ix = .int .i64 (j : Int) ∧ Hid (Since13 D wK q (kT (min j 64)) wr))
    case atStart => exact ⟨0, by omega, rfl, HS1⟩
    case round =>
      obtain ⟨j, hj, rfl, HS⟩ := hrel
      cases gk with
      | zero =>
        obtain rfl : j = n := by omega
        have hz : ¬ ((j : Int) < (j : Int)) := by omega
        rcases (by omega : j = 0 ∨ (0 < j ∧ j < 64) ∨ j = 64 ∨ 64 < j) with h0 | h0 | h0 | h0
        · subst h0
          obtain ⟨F, hD, hF, hB⟩ := HS.out
          have CL := hide (H.len hD)
          have HB := hide hB
          clear hD hF hB HS
          go_wp2_with fail
          refine CL.out.mono ?_
          rintro e w6 ⟨rfl, hB6⟩
          have HB6 := hide (HB.out.trans (hB6.mono HB.out.size))
          clear hB6 CL HB
          have HX6 := hide (HXB.out w6 HB6.out)
          have htb := build_tb0
          clear c9 C1 C2 hbk'
          go_wp2_with fail
          obtain ⟨w7, hw7⟩ : ∃ w7, w7 = (w6.alloc (.cells #[.map none] 57)).alloc (.cells #[.pointer none, .pointer (some ⟨w6.heap.size, 0, none⟩)] 23) := ⟨_, rfl⟩
          have HB7 : Hid (Below w6.heap.size w6 w7) := hide (by rw [hw7]; have h1 := alloc_below13 w6 (.cells #[.map none] 57); exact h1.trans ((alloc_below13 _ _).mono h1.size))
          have HT7 : Hid (Box w7 w6.heap.size #[.map none] 57) := hide (by rw [hw7]; exact (box_new w6 #[.map none] 57).belowI (alloc_below13 _ _))
          have HP7 : Hid (Box w7 (w6.heap.size + 1) #[.pointer none, .pointer (some ⟨w6.heap.size, 0, none⟩)] 23) := hide (by rw [hw7]; have h1 := box_new (w6.alloc (.cells #[.map none] 57)) #[.pointer none, .pointer (some ⟨w6.heap.size, 0, none⟩)] 23; simpa using h1)
          rw [← hw7]
          clear hw7
          have HBW := hide (HB6.out.trans (HB7.out.mono HB6.out.size))
          clear HX6 htb
          go_loopg [76] 2 (fun g ix wr => ∃ (j : Nat), j + g = 2 ∧ ix = .int .i64 (j : Int) ∧ Hid (Below w7.heap.size w7 wr))
          case atStart => exact ⟨0, by omega, rfl, hide (Below.refl _ _)⟩
          case round =>
            obtain ⟨j, hj, rfl, HBI⟩ := hrel
            have HWr := hide (HBW.out.trans (HBI.out.mono HBW.out.size))
            cases gk with
            | zero =>
              obtain rfl : j = 2 := by omega
              go_wp2_with fail
              refine (HA.out wr).mono ?_
              rintro e w8 ⟨rfl, hB8⟩
              have HB8 := hide (HWB.out.trans ((HWr.out.trans (hB8.mono HWr.out.size)).mono HWB.out.size))
              clear hB8
              go_wp2_with fail
              go_ret
              exact ⟨rfl, HB8.out⟩
            | succ g =>
              have hz : (j : Int) < 2 := by omega
              have HPr := hide (HP7.out.belowI HBI.out)
              obtain ⟨vx, hvx⟩ : ∃ vx : Value, (j = 0 ∧ vx = .pointer none) ∨ (j = 1 ∧ vx = .pointer (some ⟨w6.heap.size, 0, none⟩)) := by
                have : j = 0 ∨ j = 1 := by omega
                rcases this with h | h
                · exact ⟨_, .inl ⟨h, rfl⟩⟩
                · exact ⟨_, .inr ⟨h, rfl⟩⟩
              have cj : wr.cell? ⟨w6.heap.size + 1, j, none⟩ = some vx := by
                rcases hvx with ⟨rfl, rfl⟩ | ⟨rfl, rfl⟩
                · exact HPr.out.cell 0 _ rfl
                · exact HPr.out.cell 1 _ rfl
              have HNX : Hid (Nob13 wr vx) := hide (by
                rcases hvx with ⟨_, rfl⟩ | ⟨_, rfl⟩
                · exact .inl rfl
                · exact .inr ⟨_, rfl, HT7.out.belowI HBI.out⟩)
              have HXr := hide (HXB.out wr HWr.out)
              have HKr := hide (wr_key HXr.out)
              clear hvx HPr
              go_wp2_with (first | (refine wpList_load_mid rfl 31 _ rfl bk 0 rfl (eightE x.key) _ HKr.out Try.underlying31 rfl infoKey13 ?_))
              refine (nobGet x.key HNX.out).mono ?_
              rintro e w8 ⟨rfl, hB8⟩
              have HZ8 := hide (box_new w8 (itA zeroIt) 36)
              have HZB8 := hide (alloc_below13 w8 (.cells (itA zeroIt) 36))
              have HX8 := hide (HXr.out.belowI hB8)
              have HN8 := hide (HNX.out.below hB8)
              have HB8 := hide (HBI.out.trans (hB8.mono HBI.out.size))
              have hl8 := HX8.out.lt
              clear hB8 HXr HKr HNX HBI HWr cj
              go_wp2_with (first | ((with_reducible show wpList _ _ _ (⟨none, .store _ _ _, _, _, _, _⟩ :: _) _ _); refine wp_store_box rfl rfl _ _ rfl w8.heap.size rfl (cs' := itA zeroIt) rfl HZ8.out rfl infoIt13 (itA_one13 _) ?_; intro w9 hb4 hk4; have HI9 := hide hb4; have HX9 := hide ((HX8.out.belowI HZB8.out).keep hk4 (by omega)); have hB9 := HZB8.out.trans (hk4.below HZB8.out.size (fun j hj => by omega)); have HN9 := hide (HN8.out.below hB9); have HB9 := hide (HB8.out.trans (hB9.mono HB8.out.size)); have HK9 := hide (wr_key HX9.out); have HV9 := hide (wr_it HX9.out); clear hb4 hk4 hB9) | ((with_reducible show wpList _ _ _ (⟨_, .load 31 _, _, _, _, none⟩ :: _) _ _); refine wpList_load_mid rfl 31 _ rfl bk 0 rfl (eightE x.key) _ HK9.out Try.underlying31 rfl infoKey13 ?_) | ((with_reducible show wpList _ _ _ (⟨_, .load 36 _, _, _, _, none⟩ :: _) _ _); refine wpList_load_mid rfl 36 _ rfl bk 8 rfl (itE x.it) _ HV9.out Try.underlying36 rfl infoIt13 ?_))
              refine (nobIns x.key x.it HN9.out).mono ?_
              rintro e wA ⟨rfl, hBA⟩
              have HIA := hide (HI9.out.belowI hBA)
              have HNA := hide (HN9.out.below hBA)
              have HBA := hide (HB9.out.trans (hBA.mono HB9.out.size))
              have hnz := neq_z13
              have hnz2 := neq_z13b
              have hbz := build_it0
              clear hBA HI9 HX9 HN9 HB9 HK9 HV9 HX8 HN8 HB8 hl8 HZ8 HZB8
              go_wp2_with (first | ((with_reducible show wpList _ _ _ (⟨_, .load 36 _, _, _, _, some _⟩ :: _) _ _); refine wp_load_box_g rfl _ rfl w8.heap.size rfl HIA.out Try.underlying36 rfl infoIt13 ?_))
              refine (nobAll HNA.out).mono ?_
              rintro e wB ⟨rfl, hwB⟩
              subst hwB
              go_wp2_with fail
              refine (nobLen HNA.out).mono ?_
              rintro e wC ⟨rfl, hwC⟩
              subst hwC
              go_wp2_with fail
              refine (nobMerge _ HNA.out).mono ?_
              rintro e wD ⟨rfl, hwD⟩
              subst hwD
              go_wp2_with fail
              go_roundg g
              case measure => omega
              case rel => exact ⟨j + 1, by omega, by first | rfl | go_num, HBA⟩
        · rw [show min j 64 = j by omega] at HS
          have p1 : (0 : Int) < (j : Int) := by omega
          have p2 : decide ((j : Int) > 0) = true := decide_eq_true p1
          have p3 : (j : Int) < 64 := by omega
          have p5 : min (j : Int) 64 = (j : Int) := by omega
          have p4 : ¬ (64 : Int) < (j : Int) := by omega
          obtain ⟨F, hD, hF, hB⟩ := HS.out
          have HD := hide hD
          have HF := hide hF
          have HB := hide hB
          have CI : Hid (∀ W, D W q F (kT j) → Calls Try.prog 12 #[.pointer (some ⟨q, 0, none⟩), .agg #[.int .u8 107, .int .u8 1, .int .u8 0, .int .u8 0, .int .u8 0, .int .u8 0, .int .u8 0, .int .u8 0], .agg (itA (oneI 2 []))] W fun e w' => e = .returned (.int .i64 0) ∧ TDid D W w' q F (insD (kT j) (kk 0) (oneI 2 []))) := hide (fun W hD => by
            have h := H.ins (kk 0) (oneI 2 []) hD (kk_ok (by omega)) (one_ok 2 [] (by decide) (by decide)) (by decide)
            rw [(kT_again (j := j) (by omega) (by omega)).1] at h
            exact h)
          have HLE := hide (kT_again (j := j) (by omega) (by omega)).2
          clear hD hF hB HS
          go_wp2_with fail
          refine (C2.out wr).mono ?_
          rintro e w4 ⟨rfl, hB4⟩
          have HD4 := hide (H.below HD.out hB4)
          have HB4 := hide (HB.out.trans (hB4.mono HB.out.size))
          clear hB4
          go_wp2_with fail
          refine (CI.out w4 HD4.out).mono ?_
          rintro e w5 ⟨rfl, hd⟩
          obtain ⟨F5, hD5, _, hB5⟩ := Since13.did HB4.out HF.out hd
          have CL := H.len hD5
          rw [HLE.out] at CL
          have CL := hide CL
          have HB5 := hide hB5
          clear hd hD5 hB5 HD HD4 HB HB4 CI
          go_wp2_with fail
          refine CL.out.mono ?_
          rintro e w6 ⟨rfl, hB6⟩
          have HB6 := hide (HB5.out.trans (hB6.mono HB5.out.size))
          clear hB6 CL HB5
          have HX6 := hide (HXB.out w6 HB6.out)
          have htb := build_tb0
          clear c9 C1 C2 hbk'
          go_wp2_with fail
          obtain ⟨w7, hw7⟩ : ∃ w7, w7 = (w6.alloc (.cells #[.map none] 57)).alloc (.cells #[.pointer none, .pointer (some ⟨w6.heap.size, 0, none⟩)] 23) := ⟨_, rfl⟩
          have HB7 : Hid (Below w6.heap.size w6 w7) := hide (by rw [hw7]; have h1 := alloc_below13 w6 (.cells #[.map none] 57); exact h1.trans ((alloc_below13 _ _).mono h1.size))
          have HT7 : Hid (Box w7 w6.heap.size #[.map none] 57) := hide (by rw [hw7]; exact (box_new w6 #[.map none] 57).belowI (alloc_below13 _ _))
          have HP7 : Hid (Box w7 (w6.heap.size + 1) #[.pointer none, .pointer (some ⟨w6.heap.size, 0, none⟩)] 23) := hide (by rw [hw7]; have h1 := box_new (w6.alloc (.cells #[.map none] 57)) #[.pointer none, .pointer (some ⟨w6.heap.size, 0, none⟩)] 23; simpa using h1)
          rw [← hw7]
          clear hw7
          have HBW := hide (HB6.out.trans (HB7.out.mono HB6.out.size))
          clear HX6 htb
          go_loopg [76] 2 (fun g ix wr => ∃ (j : Nat), j + g = 2 ∧ ix = .int .i64 (j : Int) ∧ Hid (Below w7.heap.size w7 wr))
          case atStart => exact ⟨0, by omega, rfl, hide (Below.refl _ _)⟩
          case round =>
            obtain ⟨j, hj, rfl, HBI⟩ := hrel
            have HWr := hide (HBW.out.trans (HBI.out.mono HBW.out.size))
            cases gk with
            | zero =>
              obtain rfl : j = 2 := by omega
              go_wp2_with fail
              refine (HA.out wr).mono ?_
              rintro e w8 ⟨rfl, hB8⟩
              have HB8 := hide (HWB.out.trans ((HWr.out.trans (hB8.mono HWr.out.size)).mono HWB.out.size))
              clear hB8
              go_wp2_with fail
              go_ret
              exact ⟨rfl, HB8.out⟩
            | succ g =>
              have hz : (j : Int) < 2 := by omega
              have HPr := hide (HP7.out.belowI HBI.out)
              obtain ⟨vx, hvx⟩ : ∃ vx : Value, (j = 0 ∧ vx = .pointer none) ∨ (j = 1 ∧ vx = .pointer (some ⟨w6.heap.size, 0, none⟩)) := by
                have : j = 0 ∨ j = 1 := by omega
                rcases this with h | h
                · exact ⟨_, .inl ⟨h, rfl⟩⟩
                · exact ⟨_, .inr ⟨h, rfl⟩⟩
              have cj : wr.cell? ⟨w6.heap.size + 1, j, none⟩ = some vx := by
                rcases hvx with ⟨rfl, rfl⟩ | ⟨rfl, rfl⟩
                · exact HPr.out.cell 0 _ rfl
                · exact HPr.out.cell 1 _ rfl
              have HNX : Hid (Nob13 wr vx) := hide (by
                rcases hvx with ⟨_, rfl⟩ | ⟨_, rfl⟩
                · exact .inl rfl
                · exact .inr ⟨_, rfl, HT7.out.belowI HBI.out⟩)
              have HXr := hide (HXB.out wr HWr.out)
              have HKr := hide (wr_key HXr.out)
              clear hvx HPr
              go_wp2_with (first | (refine wpList_load_mid rfl 31 _ rfl bk 0 rfl (eightE x.key) _ HKr.out Try.underlying31 rfl infoKey13 ?_))
              refine (nobGet x.key HNX.out).mono ?_
              rintro e w8 ⟨rfl, hB8⟩
              have HZ8 := hide (box_new w8 (itA zeroIt) 36)
              have HZB8 := hide (alloc_below13 w8 (.cells (itA zeroIt) 36))
              have HX8 := hide (HXr.out.belowI hB8)
              have HN8 := hide (HNX.out.below hB8)
              have HB8 := hide (HBI.out.trans (hB8.mono HBI.out.size))
              have hl8 := HX8.out.lt
              clear hB8 HXr HKr HNX HBI HWr cj
              go_wp2_with (first | ((with_reducible show wpList _ _ _ (⟨none, .store _ _ _, _, _, _, _⟩ :: _) _ _); refine wp_store_box rfl rfl _ _ rfl w8.heap.size rfl (cs' := itA zeroIt) rfl HZ8.out rfl infoIt13 (itA_one13 _) ?_; intro w9 hb4 hk4; have HI9 := hide hb4; have HX9 := hide ((HX8.out.belowI HZB8.out).keep hk4 (by omega)); have hB9 := HZB8.out.trans (hk4.below HZB8.out.size (fun j hj => by omega)); have HN9 := hide (HN8.out.below hB9); have HB9 := hide (HB8.out.trans (hB9.mono HB8.out.size)); have HK9 := hide (wr_key HX9.out); have HV9 := hide (wr_it HX9.out); clear hb4 hk4 hB9) | ((with_reducible show wpList _ _ _ (⟨_, .load 31 _, _, _, _, none⟩ :: _) _ _); refine wpList_load_mid rfl 31 _ rfl bk 0 rfl (eightE x.key) _ HK9.out Try.underlying31 rfl infoKey13 ?_) | ((with_reducible show wpList _ _ _ (⟨_, .load 36 _, _, _, _, none⟩ :: _) _ _); refine wpList_load_mid rfl 36 _ rfl bk 8 rfl (itE x.it) _ HV9.out Try.underlying36 rfl infoIt13 ?_))
              refine (nobIns x.key x.it HN9.out).mono ?_
              rintro e wA ⟨rfl, hBA⟩
              have HIA := hide (HI9.out.belowI hBA)
              have HNA := hide (HN9.out.below hBA)
              have HBA := hide (HB9.out.trans (hBA.mono HB9.out.size))
              have hnz := neq_z13
              have hnz2 := neq_z13b
              have hbz := build_it0
              clear hBA HI9 HX9 HN9 HB9 HK9 HV9 HX8 HN8 HB8 hl8 HZ8 HZB8
              go_wp2_with (first | ((with_reducible show wpList _ _ _ (⟨_, .load 36 _, _, _, _, some _⟩ :: _) _ _); refine wp_load_box_g rfl _ rfl w8.heap.size rfl HIA.out Try.underlying36 rfl infoIt13 ?_))
              refine (nobAll HNA.out).mono ?_
              rintro e wB ⟨rfl, hwB⟩
              subst hwB
              go_wp2_with fail
              refine (nobLen HNA.out).mono ?_
              rintro e wC ⟨rfl, hwC⟩
              subst hwC
              go_wp2_with fail
              refine (nobMerge _ HNA.out).mono ?_
              rintro e wD ⟨rfl, hwD⟩
              subst hwD
              go_wp2_with fail
              go_roundg g
              case measure => omega
              case rel => exact ⟨j + 1, by omega, by first | rfl | go_num, HBA⟩
        · subst h0
          obtain ⟨F, hD, hF, hB⟩ := HS.out
          have HD := hide hD
          have HF := hide hF
          have HB := hide hB
          have CI : Hid (∀ W, D W q F (kT 64) → Calls Try.prog 12 #[.pointer (some ⟨q, 0, none⟩), .agg #[.int .u8 107, .int .u8 1, .int .u8 0, .int .u8 0, .int .u8 0, .int .u8 0, .int .u8 0, .int .u8 0], .agg (itA (oneI 2 []))] W fun e w' => e = .returned (.int .i64 0) ∧ TDid D W w' q F (insD (kT 64) (kk 0) (oneI 2 []))) := hide (fun W hD => by
            have h := H.ins (kk 0) (oneI 2 []) hD (kk_ok (by omega)) (one_ok 2 [] (by decide) (by decide)) (by decide)
            rw [(kT_again (j := 64) (by omega) (by omega)).1] at h
            exact h)
          have HLE := hide (kT_again (j := 64) (by omega) (by omega)).2
          clear hD hF hB HS
          go_wp2_with fail
          refine (C2.out wr).mono ?_
          rintro e w4 ⟨rfl, hB4⟩
          have HD4 := hide (H.below HD.out hB4)
          have HB4 := hide (HB.out.trans (hB4.mono HB.out.size))
          clear hB4
          go_wp2_with fail
          refine (CI.out w4 HD4.out).mono ?_
          rintro e w5 ⟨rfl, hd⟩
          obtain ⟨F5, hD5, _, hB5⟩ := Since13.did HB4.out HF.out hd
          have CL := H.len hD5
          rw [HLE.out] at CL
          have CL := hide CL
          have HB5 := hide hB5
          clear hd hD5 hB5 HD HD4 HB HB4 CI
          go_wp2_with fail
          refine CL.out.mono ?_
          rintro e w6 ⟨rfl, hB6⟩
          have HB6 := hide (HB5.out.trans (hB6.mono HB5.out.size))
          clear hB6 CL HB5
          have HX6 := hide (HXB.out w6 HB6.out)
          have htb := build_tb0
          clear c9 C1 C2 hbk'
          go_wp2_with fail
          obtain ⟨w7, hw7⟩ : ∃ w7, w7 = (w6.alloc (.cells #[.map none] 57)).alloc (.cells #[.pointer none, .pointer (some ⟨w6.heap.size, 0, none⟩)] 23) := ⟨_, rfl⟩
          have HB7 : Hid (Below w6.heap.size w6 w7) := hide (by rw [hw7]; have h1 := alloc_below13 w6 (.cells #[.map none] 57); exact h1.trans ((alloc_below13 _ _).mono h1.size))
          have HT7 : Hid (Box w7 w6.heap.size #[.map none] 57) := hide (by rw [hw7]; exact (box_new w6 #[.map none] 57).belowI (alloc_below13 _ _))
          have HP7 : Hid (Box w7 (w6.heap.size + 1) #[.pointer none, .pointer (some ⟨w6.heap.size, 0, none⟩)] 23) := hide (by rw [hw7]; have h1 := box_new (w6.alloc (.cells #[.map none] 57)) #[.pointer none, .pointer (some ⟨w6.heap.size, 0, none⟩)] 23; simpa using h1)
          rw [← hw7]
          clear hw7
          have HBW := hide (HB6.out.trans (HB7.out.mono HB6.out.size))
          clear HX6 htb
          go_loopg [76] 2 (fun g ix wr => ∃ (j : Nat), j + g = 2 ∧ ix = .int .i64 (j : Int) ∧ Hid (Below w7.heap.size w7 wr))
          case atStart => exact ⟨0, by omega, rfl, hide (Below.refl _ _)⟩
          case round =>
            obtain ⟨j, hj, rfl, HBI⟩ := hrel
            have HWr := hide (HBW.out.trans (HBI.out.mono HBW.out.size))
            cases gk with
            | zero =>
              obtain rfl : j = 2 := by omega
              go_wp2_with fail
              refine (HA.out wr).mono ?_
              rintro e w8 ⟨rfl, hB8⟩
              have HB8 := hide (HWB.out.trans ((HWr.out.trans (hB8.mono HWr.out.size)).mono HWB.out.size))
              clear hB8
              go_wp2_with fail
              go_ret
              exact ⟨rfl, HB8.out⟩
            | succ g =>
              have hz : (j : Int) < 2 := by omega
              have HPr := hide (HP7.out.belowI HBI.out)
              obtain ⟨vx, hvx⟩ : ∃ vx : Value, (j = 0 ∧ vx = .pointer none) ∨ (j = 1 ∧ vx = .pointer (some ⟨w6.heap.size, 0, none⟩)) := by
                have : j = 0 ∨ j = 1 := by omega
                rcases this with h | h
                · exact ⟨_, .inl ⟨h, rfl⟩⟩
                · exact ⟨_, .inr ⟨h, rfl⟩⟩
              have cj : wr.cell? ⟨w6.heap.size + 1, j, none⟩ = some vx := by
                rcases hvx with ⟨rfl, rfl⟩ | ⟨rfl, rfl⟩
                · exact HPr.out.cell 0 _ rfl
                · exact HPr.out.cell 1 _ rfl
              have HNX : Hid (Nob13 wr vx) := hide (by
                rcases hvx with ⟨_, rfl⟩ | ⟨_, rfl⟩
                · exact .inl rfl
                · exact .inr ⟨_, rfl, HT7.out.belowI HBI.out⟩)
              have HXr := hide (HXB.out wr HWr.out)
              have HKr := hide (wr_key HXr.out)
              clear hvx HPr
              go_wp2_with (first | (refine wpList_load_mid rfl 31 _ rfl bk 0 rfl (eightE x.key) _ HKr.out Try.underlying31 rfl infoKey13 ?_))
              refine (nobGet x.key HNX.out).mono ?_
              rintro e w8 ⟨rfl, hB8⟩
              have HZ8 := hide (box_new w8 (itA zeroIt) 36)
              have HZB8 := hide (alloc_below13 w8 (.cells (itA zeroIt) 36))
              have HX8 := hide (HXr.out.belowI hB8)
              have HN8 := hide (HNX.out.below hB8)
              have HB8 := hide (HBI.out.trans (hB8.mono HBI.out.size))
              have hl8 := HX8.out.lt
              clear hB8 HXr HKr HNX HBI HWr cj
              go_wp2_with (first | ((with_reducible show wpList _ _ _ (⟨none, .store _ _ _, _, _, _, _⟩ :: _) _ _); refine wp_store_box rfl rfl _ _ rfl w8.heap.size rfl (cs' := itA zeroIt) rfl HZ8.out rfl infoIt13 (itA_one13 _) ?_; intro w9 hb4 hk4; have HI9 := hide hb4; have HX9 := hide ((HX8.out.belowI HZB8.out).keep hk4 (by omega)); have hB9 := HZB8.out.trans (hk4.below HZB8.out.size (fun j hj => by omega)); have HN9 := hide (HN8.out.below hB9); have HB9 := hide (HB8.out.trans (hB9.mono HB8.out.size)); have HK9 := hide (wr_key HX9.out); have HV9 := hide (wr_it HX9.out); clear hb4 hk4 hB9) | ((with_reducible show wpList _ _ _ (⟨_, .load 31 _, _, _, _, none⟩ :: _) _ _); refine wpList_load_mid rfl 31 _ rfl bk 0 rfl (eightE x.key) _ HK9.out Try.underlying31 rfl infoKey13 ?_) | ((with_reducible show wpList _ _ _ (⟨_, .load 36 _, _, _, _, none⟩ :: _) _ _); refine wpList_load_mid rfl 36 _ rfl bk 8 rfl (itE x.it) _ HV9.out Try.underlying36 rfl infoIt13 ?_))
              refine (nobIns x.key x.it HN9.out).mono ?_
              rintro e wA ⟨rfl, hBA⟩
              have HIA := hide (HI9.out.belowI hBA)
              have HNA := hide (HN9.out.below hBA)
              have HBA := hide (HB9.out.trans (hBA.mono HB9.out.size))
              have hnz := neq_z13
              have hnz2 := neq_z13b
              have hbz := build_it0
              clear hBA HI9 HX9 HN9 HB9 HK9 HV9 HX8 HN8 HB8 hl8 HZ8 HZB8
              go_wp2_with (first | ((with_reducible show wpList _ _ _ (⟨_, .load 36 _, _, _, _, some _⟩ :: _) _ _); refine wp_load_box_g rfl _ rfl w8.heap.size rfl HIA.out Try.underlying36 rfl infoIt13 ?_))
              refine (nobAll HNA.out).mono ?_
              rintro e wB ⟨rfl, hwB⟩
              subst hwB
              go_wp2_with fail
              refine (nobLen HNA.out).mono ?_
              rintro e wC ⟨rfl, hwC⟩
              subst hwC
              go_wp2_with fail
              refine (nobMerge _ HNA.out).mono ?_
              rintro e wD ⟨rfl, hwD⟩
              subst hwD
              go_wp2_with fail
              go_roundg g
              case measure => omega
              case rel => exact ⟨j + 1, by omega, by first | rfl | go_num, HBA⟩
        · rw [show min j 64 = 64 by omega] at HS
          have p1 : (0 : Int) < (j : Int) := by omega
          have p2 : decide ((j : Int) > 0) = true := decide_eq_true p1
          have p3 : (64 : Int) < (j : Int) := by omega
          have p5 : min (j : Int) 64 = 64 := by omega
          have p4 : ¬ (j : Int) < 64 := by omega
          obtain ⟨F, hD, hF, hB⟩ := HS.out
          have HD := hide hD
          have HF := hide hF
          have HB := hide hB
          have CI : Hid (∀ W, D W q F (kT 64) → Calls Try.prog 12 #[.pointer (some ⟨q, 0, none⟩), .agg #[.int .u8 107, .int .u8 1, .int .u8 0, .int .u8 0, .int .u8 0, .int .u8 0, .int .u8 0, .int .u8 0], .agg (itA (oneI 2 []))] W fun e w' => e = .returned (.int .i64 0) ∧ TDid D W w' q F (insD (kT 64) (kk 0) (oneI 2 []))) := hide (fun W hD => by
            have h := H.ins (kk 0) (oneI 2 []) hD (kk_ok (by omega)) (one_ok 2 [] (by decide) (by decide)) (by decide)
            rw [(kT_again (j := 64) (by omega) (by omega)).1] at h
            exact h)
          have HLE := hide (kT_again (j := 64) (by omega) (by omega)).2
          clear hD hF hB HS
          go_wp2_with fail
          refine (C2.out wr).mono ?_
          rintro e w4 ⟨rfl, hB4⟩
          have HD4 := hide (H.below HD.out hB4)
          have HB4 := hide (HB.out.trans (hB4.mono HB.out.size))
          clear hB4
          go_wp2_with fail
          refine (CI.out w4 HD4.out).mono ?_
          rintro e w5 ⟨rfl, hd⟩
          obtain ⟨F5, hD5, _, hB5⟩ := Since13.did HB4.out HF.out hd
          have CL := H.len hD5
          rw [HLE.out] at CL
          have CL := hide CL
          have HB5 := hide hB5
          clear hd hD5 hB5 HD HD4 HB HB4 CI
          go_wp2_with fail
          refine CL.out.mono ?_
          rintro e w6 ⟨rfl, hB6⟩
          have HB6 := hide (HB5.out.trans (hB6.mono HB5.out.size))
          clear hB6 CL HB5
          have HX6 := hide (HXB.out w6 HB6.out)
          have htb := build_tb0
          clear c9 C1 C2 hbk'
          go_wp2_with fail
          obtain ⟨w7, hw7⟩ : ∃ w7, w7 = (w6.alloc (.cells #[.map none] 57)).alloc (.cells #[.pointer none, .pointer (some ⟨w6.heap.size, 0, none⟩)] 23) := ⟨_, rfl⟩
          have HB7 : Hid (Below w6.heap.size w6 w7) := hide (by rw [hw7]; have h1 := alloc_below13 w6 (.cells #[.map none] 57); exact h1.trans ((alloc_below13 _ _).mono h1.size))
          have HT7 : Hid (Box w7 w6.heap.size #[.map none] 57) := hide (by rw [hw7]; exact (box_new w6 #[.map none] 57).belowI (alloc_below13 _ _))
          have HP7 : Hid (Box w7 (w6.heap.size + 1) #[.pointer none, .pointer (some ⟨w6.heap.size, 0, none⟩)] 23) := hide (by rw [hw7]; have h1 := box_new (w6.alloc (.cells #[.map none] 57)) #[.pointer none, .pointer (some ⟨w6.heap.size, 0, none⟩)] 23; simpa using h1)
          rw [← hw7]
          clear hw7
          have HBW := hide (HB6.out.trans (HB7.out.mono HB6.out.size))
          clear HX6 htb
          go_loopg [76] 2 (fun g ix wr => ∃ (j : Nat), j + g = 2 ∧ ix = .int .i64 (j : Int) ∧ Hid (Below w7.heap.size w7 wr))
          case atStart => exact ⟨0, by omega, rfl, hide (Below.refl _ _)⟩
          case round =>
            obtain ⟨j, hj, rfl, HBI⟩ := hrel
            have HWr := hide (HBW.out.trans (HBI.out.mono HBW.out.size))
            cases gk with
            | zero =>
              obtain rfl : j = 2 := by omega
              go_wp2_with fail
              refine (HA.out wr).mono ?_
              rintro e w8 ⟨rfl, hB8⟩
              have HB8 := hide (HWB.out.trans ((HWr.out.trans (hB8.mono HWr.out.size)).mono HWB.out.size))
              clear hB8
              go_wp2_with fail
              go_ret
              exact ⟨rfl, HB8.out⟩
            | succ g =>
              have hz : (j : Int) < 2 := by omega
              have HPr := hide (HP7.out.belowI HBI.out)
              obtain ⟨vx, hvx⟩ : ∃ vx : Value, (j = 0 ∧ vx = .pointer none) ∨ (j = 1 ∧ vx = .pointer (some ⟨w6.heap.size, 0, none⟩)) := by
                have : j = 0 ∨ j = 1 := by omega
                rcases this with h | h
                · exact ⟨_, .inl ⟨h, rfl⟩⟩
                · exact ⟨_, .inr ⟨h, rfl⟩⟩
              have cj : wr.cell? ⟨w6.heap.size + 1, j, none⟩ = some vx := by
                rcases hvx with ⟨rfl, rfl⟩ | ⟨rfl, rfl⟩
                · exact HPr.out.cell 0 _ rfl
                · exact HPr.out.cell 1 _ rfl
              have HNX : Hid (Nob13 wr vx) := hide (by
                rcases hvx with ⟨_, rfl⟩ | ⟨_, rfl⟩
                · exact .inl rfl
                · exact .inr ⟨_, rfl, HT7.out.belowI HBI.out⟩)
              have HXr := hide (HXB.out wr HWr.out)
              have HKr := hide (wr_key HXr.out)
              clear hvx HPr
              go_wp2_with (first | (refine wpList_load_mid rfl 31 _ rfl bk 0 rfl (eightE x.key) _ HKr.out Try.underlying31 rfl infoKey13 ?_))
              refine (nobGet x.key HNX.out).mono ?_
              rintro e w8 ⟨rfl, hB8⟩
              have HZ8 := hide (box_new w8 (itA zeroIt) 36)
              have HZB8 := hide (alloc_below13 w8 (.cells (itA zeroIt) 36))
              have HX8 := hide (HXr.out.belowI hB8)
              have HN8 := hide (HNX.out.below hB8)
              have HB8 := hide (HBI.out.trans (hB8.mono HBI.out.size))
              have hl8 := HX8.out.lt
              clear hB8 HXr HKr HNX HBI HWr cj
              go_wp2_with (first | ((with_reducible show wpList _ _ _ (⟨none, .store _ _ _, _, _, _, _⟩ :: _) _ _); refine wp_store_box rfl rfl _ _ rfl w8.heap.size rfl (cs' := itA zeroIt) rfl HZ8.out rfl infoIt13 (itA_one13 _) ?_; intro w9 hb4 hk4; have HI9 := hide hb4; have HX9 := hide ((HX8.out.belowI HZB8.out).keep hk4 (by omega)); have hB9 := HZB8.out.trans (hk4.below HZB8.out.size (fun j hj => by omega)); have HN9 := hide (HN8.out.below hB9); have HB9 := hide (HB8.out.trans (hB9.mono HB8.out.size)); have HK9 := hide (wr_key HX9.out); have HV9 := hide (wr_it HX9.out); clear hb4 hk4 hB9) | ((with_reducible show wpList _ _ _ (⟨_, .load 31 _, _, _, _, none⟩ :: _) _ _); refine wpList_load_mid rfl 31 _ rfl bk 0 rfl (eightE x.key) _ HK9.out Try.underlying31 rfl infoKey13 ?_) | ((with_reducible show wpList _ _ _ (⟨_, .load 36 _, _, _, _, none⟩ :: _) _ _); refine wpList_load_mid rfl 36 _ rfl bk 8 rfl (itE x.it) _ HV9.out Try.underlying36 rfl infoIt13 ?_))
              refine (nobIns x.key x.it HN9.out).mono ?_
              rintro e wA ⟨rfl, hBA⟩
              have HIA := hide (HI9.out.belowI hBA)
              have HNA := hide (HN9.out.below hBA)
              have HBA := hide (HB9.out.trans (hBA.mono HB9.out.size))
              have hnz := neq_z13
              have hnz2 := neq_z13b
              have hbz := build_it0
              clear hBA HI9 HX9 HN9 HB9 HK9 HV9 HX8 HN8 HB8 hl8 HZ8 HZB8
              go_wp2_with (first | ((with_reducible show wpList _ _ _ (⟨_, .load 36 _, _, _, _, some _⟩ :: _) _ _); refine wp_load_box_g rfl _ rfl w8.heap.size rfl HIA.out Try.underlying36 rfl infoIt13 ?_))
              refine (nobAll HNA.out).mono ?_
              rintro e wB ⟨rfl, hwB⟩
              subst hwB
              go_wp2_with fail
              refine (nobLen HNA.out).mono ?_
              rintro e wC ⟨rfl, hwC⟩
              subst hwC
              go_wp2_with fail
              refine (nobMerge _ HNA.out).mono ?_
              rintro e wD ⟨rfl, hwD⟩
              subst hwD
              go_wp2_with fail
              go_roundg g
              case measure => omega
              case rel => exact ⟨j + 1, by omega, by first | rfl | go_num, HBA⟩
      | succ g =>
        have hz : (j : Int) < (n : Int) := by omega
        have hw8 : IntKind.u8.wrap ((j : Int) + 1) = (j : Int) + 1 := by rw [IntKind.wrap_u8]; omega
        obtain ⟨F, hD, hF, hB⟩ := HS.out
        have HD := hide hD
        have HF := hide hF
        have HB := hide hB
        have CI : Hid (∀ W F t, D W q F t → Calls Try.prog 12 #[.pointer (some ⟨q, 0, none⟩), .agg #[.int .u8 107, .int .u8 ((j : Int) + 1), .int .u8 0, .int .u8 0, .int .u8 0, .int .u8 0, .int .u8 0, .int .u8 0], .agg (itA (oneI 1 []))] W fun e w' => e = .returned (.int .i64 (insA t (kk j) (oneI 1 []))) ∧ TDid D W w' q F (insD t (kk j) (oneI 1 []))) := hide (fun W F t hD => H.ins (kk j) (oneI 1 []) hD (kk_ok (by omega)) (one_ok 1 [] (by decide) (by decide)) (by decide))
        clear hD hF hB HS c9
        go_wp2_with fail
        refine (C1.out wr).mono ?_
        rintro e w3 ⟨rfl, hB3⟩
        have HD3 := hide (H.below HD.out hB3)
        have HB3 := hide (HB.out.trans (hB3.mono HB.out.size))
        clear hB3
        go_wp2_with fail
        refine (CI.out w3 F _ HD3.out).mono ?_
        rintro e w4 ⟨rfl, hd⟩
        have HS4 := hide (Since13.did HB3.out HF.out hd)
        clear hd
        by_cases h64 : j < 64
        · have e1 : min j 64 = j := by omega
          have e2 : min (j + 1) 64 = j + 1 := by omega
          rw [e1, (kT_add h64).2] at HS4
          rw [e1, (kT_add h64).1]
          have HE2 := hide e2
          have d3 : decide ((j : Int) < 64) = true := decide_eq_true (by omega)
          have d4 : (j : Int) < 64 := by omega
          clear e1 e2 h64
          go_wp2_with fail
          go_roundg g
          case measure => omega
          case rel => exact ⟨j + 1, by omega, by first | rfl | go_num, hide (by rw [HE2.out]; exact HS4.out)⟩
        · have e1 : min j 64 = 64 := by omega
          have e2 : min (j + 1) 64 = 64 := by omega
          have hf := kT_full (j := j) (by omega) (by omega)
          rw [e1, hf.2] at HS4
          rw [e1, hf.1]
          have HE2 := hide e2
          have d3 : decide ((j : Int) < 64) = false := decide_eq_false (by omega)
          have d4 : ¬ (j : Int) < 64 := by omega
          clear e1 e2 h64 hf
          go_wp2_with fail
          go_roundg g
          case measure => omega
          case rel => exact ⟨j + 1, by omega, by first | rfl | go_num, hide (by rw [HE2.out]; exact HS4.out)⟩
end
end
section
open Go.RowKit Go.ChangeShapes Go.WideShapes Go.ChangeAt

namespace DFull
set_option maxRecDepth 100000 in
theorem lifted (os : Os) (started : os.Started) (H : Type) (enc : TypeId × Value → H) :
    ReturnsInHanded {} Try.checked os 7 .any (Rows.itemFullSpec.pre6 enc Try.prog Try.f7 Rows.itemFullRow.domain false) (Rows.itemFullSpec.post enc Try.prog Try.f7 false true false false) := by
  refine returnsInHanded_of_change_sized (C := Try.checked) own started (by kernel_rfl) Try.func7
    (ChangeSpec.witness6 (enc := enc) (C := Try.checked) false ⟨#[], #[.int .u8 0, .agg (wrA zeroWr)], []⟩ 8 (by kernel_rfl) (by kernel_rfl) (by kernel_rfl) (by kernel_rfl)) ?_
  intro W base args ds gs before hval0 hW hcnd hsz _
  have hval : ∀ (j : Nat) t v, Try.f7.params[j]? = some t → args[j]? = some v → Value.okWide Try.prog W .any base t v := hval0
  have hW' := hW
  obtain ⟨p, q, hA0, hV, rfl, hfz, hnd⟩ := hW
  have hA : DataW.TrodAll enc Try.prog W 0 (fun _ => true) true Try.f7.params.toList args.toList ds p := hA0
  have hsz2 : ∀ (j : Nat) (t : TypeId) (d : DataW H), Try.f7.params.toList[j]? = some t → ds[j]? = some d → ∀ n ∈ d.weights Try.prog t, n ≤ 140737488351232 := fun j t d ht hd n hn => by
    have h1 := List.all_eq_true.1 hsz n (DataW.weights_mem_each (j := j) (t := t) (d := d) (by rw [List.getElem?_append_left (List.getElem?_eq_some_iff.1 ht).1]; exact ht) (by rw [List.getElem?_append_left (List.getElem?_eq_some_iff.1 hd).1]; exact hd) n hn)
    have h2 : n ≤ reachBytes := by simpa using h1
    have h3 : reachBytes = 140737488351232 := rfl
    omega
  rw [Try.params7] at hA hval hsz2
  obtain ⟨v0, vs0, d0, ds0, p0, q0, hargs, rfl, rfl, h0, r0⟩ := trodAll_cons hA
  obtain ⟨v1, vs1, d1, ds1, p1, q1, rfl, rfl, rfl, h1, r1⟩ := trodAll_cons r0
  obtain ⟨rfl, rfl, rfl⟩ := trodAll_nil r1
  obtain rfl : args = #[v0, v1] := by cases args; simp_all
  obtain ⟨rfl, rfl⟩ := trodVars_none hV
  obtain ⟨a0, rfl, rfl, rfl, w0⟩ := open_int Try.underlying5 (hval 0 5 v0 rfl rfl) h0
  have b0 := bounds_u8 w0
  obtain ⟨m0, rfl⟩ := Int.eq_ofNat_of_zero_le b0.1
  have k1 := h1
  have lt1 : ∀ x ∈ p1, x.block < W.heap.size := by obtain ⟨m, hm⟩ := k1; exact DataW.trod_lt m _ _ _ hm
  obtain ⟨wx1, rfl, ok1⟩ := awrite_of_trod (hval 1 38 v1 rfl rfl) h1
  clear hA0 hval0
  refine (walkF13 pt_do m0 wx1 W (by have := b0; omega) ok1.1 ok1.2.2).mono fun e W' ⟨he, bel⟩ => ?_
  subst he
  exact ⟨_, rfl, _, _, _, [], _, [], hW', trodAll_mk1 (shut_bool Try.underlying4 _), (trodAll_cons_mk (shut_int Try.underlying5 w0) (trodAll_cons_mk (Below.trod laidOut (by kernel_rfl) (of_decide_eq_true (by kernel_rfl)) k1 bel lt1) trodAll_mk0)), rfl, bel.frame _, fun h => by cases h⟩

theorem over : Rows.itemFullRow.holds Try.pinned (OpenSpec.ofChange Rows.itemFullSpec) :=
  OpenClaim.holds_of_wide 7 Try.f7 rfl rfl rfl rfl rfl rfl rfl ⟨rfl, rfl, rfl, rfl, rfl⟩ rfl rfl rfl rfl rfl (by kernel_rfl) Try.func7 (by kernel_rfl)
    (of_decide_eq_true (by kernel_rfl)) (by unfold Func.isWrapper; first | (rw [if_pos (by decide +kernel)]; kernel_rfl) | (rw [if_neg (by decide +kernel)]; exact ⟨rfl, rfl⟩))
    (fun os started H enc _ => lifted os started H enc)
end DFull

/-- THE STATEMENT. -/
theorem itemFull_holds : Rows.ItemFullSaid := DFull.over
#print axioms itemFull_holds
end
end Go.Proofs.Ytlngejmojpkdkaa
