/-
  Proved: the program's stage answers every call, in every order, as the document's does, and has behind each what that has. For every input of the form's own reach (of a script the first 100 calls count; one that is too large is passed by, as the law says). Own work.
-/
import Derived.Test.YtodomdmmffooaaaG24
import Derived.Test.YtodomdmmffooaaaG21
import Derived.Test.YtodomdmmffooaaaG01
import Derived.SizedLaws
import Derived.ChangeArms
namespace Go.Proofs.Ytodomdmmffooaaa
section
open Go.RowKit Classical

theorem neq_bool14 (b : Bool) (w : World) : (binOp .neq 4 (.bool b) (.bool b)).run Try.prog w = .ok (.bool false) w := by cases b <;> kernel_rfl
theorem neq_rgN (a : Nat × Nat) (w : World) : (binOp .neq 35 (rgV a) (rgV a)).run Try.prog w = .ok (.bool false) w := by
  have := neq_reg14 (a.1 : Int) (a.2 : Int) (a.1 : Int) (a.2 : Int) w
  simpa using this
theorem neq_txS (a : TxN) (w : World) : (binOp .neq 33 (txVN a) (txVN a)).run Try.prog w = .ok (.bool false) w := by
  have := neq_txN a a w
  simpa using this
theorem far_len14 {fs : List SActV} (h : farS fs = false) {a : SActV} (ha : a ∈ fs.take 100) : a.a.on.wr.length ≤ 100000 := by
  unfold farS at h
  rw [Bool.or_eq_false_iff, List.any_eq_false] at h
  have := h.1 a ha
  unfold actB14 at this
  simp only [decide_eq_true_eq] at this
  omega
variable {D : World → Nat → (Nat → Prop) → List OnP → Prop}
set_option maxRecDepth 100000 in
set_option maxHeartbeats 12800000 in
theorem walkP14 (H : StageDo D) (v : Value) (fs : List SActV) (w : World) (hL : RSrc sactE w v fs) (hok : ∀ a ∈ fs, SvOk w a) :
    Calls Try.prog 3 #[v] w fun e w' => e = .returned (.bool true) ∧ Below w.heap.size w w' := by
  obtain ⟨ao, cap, rfl, hc, hm⟩ := hL.shape
  obtain ⟨LF, hLF⟩ : ∃ LF, LF = fs.length := ⟨_, rfl⟩
  have HSF : Hid (RSrc sactE w (.slice ao LF cap) fs) := hide (by rw [hLF]; exact hL)
  have HSO := hide hok
  rw [← hLF]
  clear hL hok hLF hc hm
  have CF := hide (fun W (hB : Below w.heap.size w W) => far_any14 (.slice ao LF cap) fs W (HSF.out.below hB) (fun a ha => (HSO.out a ha).below hB))
  have CA := hide (fun W => alive_by14 H W)
  have CSH := hide (fun W => short_any14 (.slice ao LF cap) fs W w HSF.out)
  go_enter Try.func3, Try.ntmps3
  go_wp2_with fail
  refine (H.new w).mono ?_
  rintro e w1 ⟨q, F1, rfl, hD1, hF1, hB1⟩
  have HDU := hide (duo_new14 H (⟨hD1, hF1, hB1⟩ : Since14 D w q F1 [] w1))
  obtain ⟨w2, hw2⟩ : ∃ w2, w2 = w1.alloc (.cells #[.slice none 0 0] 27) := ⟨_, rfl⟩
  obtain ⟨r, hr⟩ : ∃ r, r = w1.heap.size := ⟨_, rfl⟩
  rw [← hw2, ← hr] at HDU
  have HW2 := hide hw2
  have HR := hide hr
  have CF2 := hide (CF.out w2 HDU.out.B)
  obtain ⟨RF, hRF⟩ : ∃ RF, RF = farS fs := ⟨_, rfl⟩
  rw [← hRF] at CF2
  have HRF := hide hRF
  clear hD1 hF1 hB1 hw2 hr CF hRF
  go_wp2_with fail
  rw [← HW2.out, ← HR.out]
  cases RF with
  | true =>
    refine CF2.out.mono ?_
    rintro e w3 ⟨rfl, hB3⟩
    have HB3 := hide (HDU.out.B.trans (hB3.mono HDU.out.B.size))
    clear hB3
    go_wp2_with (go_at_call 8; refine (CA.out _).mono ?_; rintro e w4 ⟨rfl, hB4⟩; have HB4 := hide (HB3.out.trans (hB4.mono HB3.out.size)); clear hB4)
    go_ret
    exact ⟨rfl, HB4.out⟩
  | false =>
  refine CF2.out.mono ?_
  rintro e w3 ⟨rfl, hB3⟩
  replace HDU := hide (HDU.out.below H hB3)
  clear hB3 CF2
  obtain ⟨ts, hts⟩ : ∃ ts, ts = fs.take 100 := ⟨_, rfl⟩
  have HTO : Hid (∀ a ∈ ts, SvOk w a) := hide (fun a ha => by rw [hts] at ha; exact HSO.out a (List.mem_of_mem_take ha))
  have HTF : Hid (∀ a ∈ ts, a.a.on.wr.length ≤ 100000) := hide (fun a ha => by rw [hts] at ha; exact far_len14 HRF.out.symm ha)
  simp only [← hts] at CSH
  obtain ⟨LN, hLN⟩ : ∃ LN, LN = ts.length := ⟨_, rfl⟩
  have hKl : LN ≤ 100 := by rw [hLN, hts, List.length_take]; omega
  have HLN := hide hLN
  clear hts hLN
  go_wp2_with (go_at_call 9; refine (CSH.out _).mono ?_; rintro e Y1 ⟨v1, rfl, rfl, hT⟩; obtain ⟨ta, tc, e1, _, _⟩ := hT.shape; rw [← HLN.out] at e1; subst e1; have HT := hide hT; clear hT)
  go_loopg [38] LN (fun g i wr => ∃ (k : Nat) (F : Nat → Prop) (vb : Value) (vs : List OnV) (l : List OnP), k + g = LN ∧ i = .int .i64 k ∧ Hid (Duo14 D w q r F vb vs l wr) ∧ Hid (osV vs = l))
  case atStart => exact ⟨0, F1, _, _, _, by omega, rfl, HDU, hide rfl⟩
  case round =>
    obtain ⟨k, F, vb, vs, l, hk, rfl, HN, HEQ⟩ := hrel
    cases gk with
    | zero =>
      obtain rfl : k = LN := by omega
      have hz : ¬ ((k : Int) < (k : Int)) := by omega
      have HB := hide HN.out.B
      go_wp2_with (go_at_call 8; refine (CA.out _).mono ?_; rintro e w4 ⟨rfl, hB4⟩; have HB4 := hide (HB.out.trans (hB4.mono HB.out.size)); clear hB4)
      go_ret
      exact ⟨rfl, HB4.out⟩
    | succ g =>
      have hz : (k : Int) < (LN : Int) := by omega
      have hkn : k < ts.length := by rw [← HLN.out]; omega
      obtain ⟨en, b, off, rfl, hb, hcl⟩ := (HT.out.below HN.out.B).at recSA.len hkn
      have HRg : Hid (wr.rangeAt b (off + k * 7) (sactE ts[k])) := hide (fun j v hv => hcl j v hv)
      have HOA := hide (HTO.out _ (List.getElem_mem hkn))
      have HLL := hide (HTF.out _ (List.getElem_mem hkn))
      generalize ts[k] = a at *
      obtain ⟨⟨tk2, ⟨tx2, rg2, ws2⟩⟩, pv⟩ := a
      obtain ⟨ro, rc, e1, hrc, hrm⟩ := HOA.out.src.shape
      dsimp only at e1 hrc HLL
      subst e1
      obtain ⟨LR, hLR⟩ : ∃ LR, LR = ws2.length := ⟨_, rfl⟩
      have HLR := hide hLR
      have HS2 : Hid (∀ W, Below w.heap.size w W → RSrc wrE W (.slice ro LR rc) ws2) := hide (fun W hB => by rw [hLR]; exact HOA.out.src.below hB)
      have HO2 : Hid (OnOk ⟨tx2, rg2, ws2⟩) := hide HOA.out.on
      have HVL : Hid (∀ y ∈ ws2, y.it.val.length ≤ 9223372036854775807) := hide (fun y hy => (HOA.out.wr y hy).2.2)
      have HTW : Hid (∀ y ∈ tW l tx2, KeyOk y.key ∧ ItOk y.it) := hide (tW_ok (H.ok HN.out.dd).2 tx2)
      rw [← hLR] at HRg
      have hLR1 : LR ≤ 100000 := by rw [hLR]; exact HLL.out
      have HZ := hide (box_new wr (sactA zeroSV) 38)
      have hws := HN.out.B.size
      obtain ⟨bx, hbx⟩ : ∃ bx, bx = wr.heap.size := ⟨_, rfl⟩
      have HBX := hide hbx
      clear hcl en hb hrc hrm hLR hbx
      cases tk2 with
      | true =>
        go_wp2_with (first | (refine wpList_load_mid rfl 38 _ rfl b (off + k * 7) rfl (sactE ⟨⟨true, ⟨tx2, rg2, ws2⟩⟩, .slice ro LR rc⟩) _ HRg.out Try.underlying38 rfl infoSA ?_) | (refine wp_store_box rfl rfl _ _ rfl wr.heap.size rfl (cs' := sactA ⟨⟨true, ⟨tx2, rg2, ws2⟩⟩, .slice ro LR rc⟩) rfl HZ.out rfl infoSA (by simp [Value.oneCell']) ?_; intro w5 hb3 hk3; have HR5 := hide (HN.out.var H hk3 hb3); clear hb3 hk3; obtain ⟨y0, y1, y2, y3, y4, y5, y6⟩ := box_act HR5.out.box))
        rw [← HBX.out] at HR5 ⊢
        refine (H.take tx2 HR5.out.du.dd HO2.out.tx).mono ?_
        rintro e w6 ⟨v6, F6, rfl, hd6, hk6, hf6, hv6, hg6⟩
        have HV6 := hide hv6
        have HNR : Hid (∀ g, v6.ownBlock = some g → g ≠ r) := hide (fun g e e2 => HR5.out.du.ap r (.inl rfl) (by rw [← e2]; exact (hg6 g e).1))
        replace HR5 := hide (HR5.out.took hd6 hk6 hf6)
        clear hd6 hk6 hf6 hv6 hg6 y0 y1 y2 y3 y4 y5 y6
        obtain ⟨y0, y1, y2, y3, y4, y5, y6⟩ := box_act HR5.out.box
        have CT : Hid (Calls Try.prog 11 #[.pointer (some ⟨r, 0, none⟩), txVN tx2] w6 fun e w' => ∃ u, e = .returned (.tuple #[u, .int .i64 (tA l tx2)]) ∧ RSrc wrE w' u (tW l tx2) ∧ RSid w6 w' r vb vs (dropS l tx2)) := hide (by
          have h := rgTake_any r vb vs tx2 w6 HR5.out.du.rr
          rw [HEQ.out] at h
          exact h)
        go_wp2_with fail
        refine CT.out.mono ?_
        rintro e w7 ⟨u7, rfl, hu7, hd7⟩
        obtain ⟨vb7, vs7, hR7, he7, hk7⟩ := HR5.out.ref H hd7
        have HV7 := hide (HV6.out.keep hk7 (fun g e e2 => HNR.out g e e2))
        replace HEQ := hide he7
        replace HR5 := hide hR7
        have CS : Hid (Calls Try.prog 12 #[v6, u7] w7 fun e w' => e = .returned (.bool true) ∧ Below w7.heap.size w7 w') := hide (by
          have h := rsameWrites_any v6 u7 (tW l tx2) (tW l tx2) w7 HV7.out hu7 HTW.out HTW.out
          rw [decide_eq_true rfl] at h
          exact h)
        obtain ⟨TA, hTA⟩ : ∃ TA, TA = tA l tx2 := ⟨_, rfl⟩
        rw [← hTA]
        clear hu7 hd7 hR7 he7 hk7 CT HV6 HNR HV7 hTA y0 y1 y2 y3 y4 y5 y6
        go_wp2_with fail
        refine CS.out.mono ?_
        rintro e w8 ⟨rfl, hB8⟩
        replace HR5 := hide (HR5.out.below H hB8)
        obtain ⟨l2, hl2⟩ : ∃ l2, l2 = dropS l tx2 := ⟨_, rfl⟩
        rw [← hl2] at HR5 HEQ
        clear hB8 CS HTW hl2
        obtain ⟨y0, y1, y2, y3, y4, y5, y6⟩ := box_act HR5.out.box
        have CW := hide (fun W F (hD : D W q F l2) => H.writes tx2 hD HO2.out.tx)
        have CV : Hid (∀ W, RSg W r vb7 vs7 → Calls Try.prog 16 #[.pointer (some ⟨r, 0, none⟩), txVN tx2] W fun e w' => ∃ u, e = .returned (.tuple #[u, rgV (rgOf l2 tx2), .bool (onS l2 tx2).isSome]) ∧ RSrc wrE w' u (tW l2 tx2) ∧ Below W.heap.size W w') := hide (fun W hW => by
          have h := rgWrites_any r vb7 vs7 tx2 W hW
          rw [HEQ.out] at h
          exact h)
        have HT2 : Hid (∀ y ∈ tW l2 tx2, KeyOk y.key ∧ ItOk y.it) := hide (tW_ok (H.ok HR5.out.du.dd).2 tx2)
        have CS : Hid (∀ W u1 u2, RSrc wrE W u1 (tW l2 tx2) → RSrc wrE W u2 (tW l2 tx2) → Calls Try.prog 12 #[u1, u2] W fun e w' => e = .returned (.bool true) ∧ Below W.heap.size W w') := hide (fun W u1 u2 h1 h2 => by
          have h := rsameWrites_any u1 u2 (tW l2 tx2) (tW l2 tx2) W h1 h2 HT2.out HT2.out
          rw [decide_eq_true rfl] at h
          exact h)
        obtain ⟨G, hG⟩ : ∃ G, G = rgOf l2 tx2 := ⟨_, rfl⟩
        obtain ⟨B, hB0⟩ : ∃ B, B = (onS l2 tx2).isSome := ⟨_, rfl⟩
        obtain ⟨WS, hWS⟩ : ∃ WS, WS = tW l2 tx2 := ⟨_, rfl⟩
        rw [← hG, ← hB0, ← hWS] at CV
        simp only [← hG, ← hB0, ← hWS] at CW
        rw [← hWS] at CS
        clear hG hB0 hWS HT2
        go_wp2_with fail
        refine (CW.out _ _ HR5.out.du.dd).mono ?_
        rintro e X1 ⟨u1, rfl, ho1, hB1⟩
        replace HR5 := hide (HR5.out.below H hB1)
        have HU1 := hide (RSrc.of_own ho1)
        have HZ1 := hide (box_new X1 #[.int .u32 0, .int .u32 0] 35)
        have HA1 := hide (alloc_below14 X1 (.cells #[.int .u32 0, .int .u32 0] 35))
        obtain ⟨b1, hb1⟩ : ∃ b1, b1 = X1.heap.size := ⟨_, rfl⟩
        have HB1 := hide hb1
        clear ho1 hB1 y0 y1 y2 y3 y4 y5 y6 CW hb1
        go_wp2_with (refine wp_store_box rfl rfl _ _ rfl X1.heap.size rfl (cs' := #[.int .u32 (G.1 : Int), .int .u32 (G.2 : Int)]) rfl HZ1.out rfl infoRg14 (by simp [Value.oneCell']) ?_; intro X2 hb2 hk2; have HL2 : Hid (Below X1.heap.size X1 X2) := hide (HA1.out.trans (hk2.below HA1.out.size (fun k hk => by omega))); have HX1 := hide hb2; replace HR5 := hide (HR5.out.below H HL2.out); replace HU1 := hide (HU1.out.below HL2.out); obtain ⟨y0, y1, y2, y3, y4, y5, y6⟩ := box_act HR5.out.box; clear hb2 hk2)
        rw [← HB1.out] at HX1 ⊢
        refine (CV.out _ HR5.out.du.rr).mono ?_
        rintro e X3 ⟨u2, rfl, hu2, hB3⟩
        replace HR5 := hide (HR5.out.below H hB3)
        replace HU1 := hide (HU1.out.below hB3)
        replace HX1 := hide (HX1.out.belowI hB3)
        have HU2 := hide hu2
        have HZ3 := hide (box_new X3 #[.int .u32 0, .int .u32 0] 35)
        have HA3 := hide (alloc_below14 X3 (.cells #[.int .u32 0, .int .u32 0] 35))
        obtain ⟨b3, hb3⟩ : ∃ b3, b3 = X3.heap.size := ⟨_, rfl⟩
        have HB3 := hide hb3
        clear hu2 hB3 y0 y1 y2 y3 y4 y5 y6 CV hb3 HZ1 HA1 HL2 HB1
        go_wp2_with (refine wp_store_box rfl rfl _ _ rfl X3.heap.size rfl (cs' := #[.int .u32 (G.1 : Int), .int .u32 (G.2 : Int)]) rfl HZ3.out rfl infoRg14 (by simp [Value.oneCell']) ?_; intro X4 hb4 hk4; have HL4 : Hid (Below X3.heap.size X3 X4) := hide (HA3.out.trans (hk4.below HA3.out.size (fun k hk => by omega))); have HX3 := hide hb4; replace HR5 := hide (HR5.out.below H HL4.out); replace HU1 := hide (HU1.out.below HL4.out); replace HU2 := hide (HU2.out.below HL4.out); replace HX1 := hide (HX1.out.belowI HL4.out); clear hb4 hk4)
        rw [← HB3.out] at HX3 ⊢
        refine (CS.out _ _ _ HU1.out HU2.out).mono ?_
        rintro e X5 ⟨rfl, hB5⟩
        replace HR5 := hide (HR5.out.below H hB5)
        replace HX1 := hide (HX1.out.belowI hB5)
        replace HX3 := hide (HX3.out.belowI hB5)
        have hq1 := neq_rgN G
        have hq2 := neq_bool14 B
        clear hB5 CS HU1 HU2 HZ3 HA3 HL4 HB3
        go_wp2_with (first | (refine wp_load_box_g rfl _ rfl b1 rfl HX1.out Try.underlying35 rfl infoRg14 ?_) | (refine wp_load_box_g rfl _ rfl b3 rfl HX3.out Try.underlying35 rfl infoRg14 ?_))
        refine (H.all HR5.out.du.dd).mono ?_
        rintro e X6 ⟨u6, rfl, ho6, hB6⟩
        replace HR5 := hide (HR5.out.below H hB6)
        have CL : Hid (Calls Try.prog 19 #[.pointer (some ⟨r, 0, none⟩)] X6 fun e w' => ∃ u, e = .returned u ∧ w'.ownsRow X6.heap.size 33 3 u l2.length (rowOf (l2.map fun x => txI x.tx)) ∧ Below X6.heap.size X6 w') := hide (by
          have h := rgAll_any r vb7 vs7 X6 HR5.out.du.rr
          rw [HEQ.out] at h
          exact h)
        have HO6 := hide ho6
        have HFW : Hid (l2.length ≤ 64) := hide (H.ok HR5.out.du.dd).1.ok.few
        clear ho6 hB6 hq1 hq2 HX1 HX3
        go_wp2_with fail
        refine CL.out.mono ?_
        rintro e X7 ⟨u7, rfl, ho7, hB7⟩
        replace HR5 := hide (HR5.out.below H hB7)
        have CM : Hid (Calls Try.prog 17 #[u6, u7] X7 fun e w' => e = .returned (.bool true) ∧ Below X7.heap.size X7 w') := hide (by
          have e1 : (l2.map fun x => txI x.tx).length = l2.length := List.length_map _
          have h6 := owns_keep HO6.out (KeepBut.of_below (fun _ => False) hB7) (fun _ _ h => h)
          have h7 := ho7
          rw [← e1] at h6 h7
          exact same5_any _ _ u6 u7 _ X7 h6 h7 (by rw [e1]; exact Nat.le_trans HFW.out (by decide)))
        clear ho7 hB7 CL HO6 HFW
        go_wp2_with fail
        refine CM.out.mono ?_
        rintro e X8 ⟨rfl, hB8⟩
        replace HR5 := hide (HR5.out.below H hB8)
        have y6 := (box_act HR5.out.box).2.2.2.2.2.2
        clear hB8 CM
        go_wp2_with fail
        go_loopg [121] LR (fun g2 i wr => ∃ j : Nat, j + g2 = LR ∧ i = .int .i64 j ∧ Hid (Rn14 D w q r F6 vb7 vs7 l2 bx (sactA ⟨⟨true, ⟨tx2, rg2, ws2⟩⟩, .slice ro LR rc⟩) 38 wr))
        case atStart => exact ⟨0, by omega, rfl, HR5⟩
        case round =>
          obtain ⟨j, hj, rfl, HRJ⟩ := hrel
          cases gk with
          | zero =>
            obtain rfl : j = LR := by omega
            have hzz : ¬ ((j : Int) < (j : Int)) := by omega
            go_wp2_with fail
            go_roundg g
            case measure => omega
            case rel => exact ⟨k + 1, _, _, _, _, by omega, by first | rfl | go_num, hide HRJ.out.du, HEQ⟩
          | succ g2 =>
            have hzz : (j : Int) < (LR : Int) := by omega
            have hjn : j < ws2.length := by rw [← HLR.out]; omega
            obtain ⟨en, c, co, hro, hb, hcl⟩ := (HS2.out wr HRJ.out.du.B).at recWR.len hjn
            cases hro
            have HRw : Hid (wr.rangeAt c (co + j * 21) (wrE ws2[j])) := hide (fun m v hv => hcl m v hv)
            have HKO := hide (HO2.out.wr _ (List.getElem_mem hjn)).1
            generalize ws2[j] = y at *
            have HZ8 := hide (box_new wr (wrA zeroWr) 59)
            have HA8 := hide (alloc_below14 wr (.cells (wrA zeroWr) 59))
            obtain ⟨b8, hb8⟩ : ∃ b8, b8 = wr.heap.size := ⟨_, rfl⟩
            have HB8 := hide hb8
            clear hcl en hb hb8
            go_wp2_with (first | (refine wpList_load_mid rfl 59 _ rfl c (co + j * 21) rfl (wrE y) _ HRw.out Try.underlying59 rfl infoWrite ?_) | (refine wp_store_box rfl rfl _ _ rfl wr.heap.size rfl (cs' := wrA y) rfl HZ8.out rfl infoWrite (wrA_one14 y) ?_; intro X9 hb9 hk9; have HL9 : Hid (Below wr.heap.size wr X9) := hide (HA8.out.trans (hk9.below HA8.out.size (fun k hk => by omega))); have HX8 := hide hb9; replace HRJ := hide (HRJ.out.below H HL9.out); have x0 := HX8.out.cell 0 _ rfl; have x1 := HX8.out.cell 1 _ rfl; have x2 := HX8.out.cell 2 _ rfl; have x3 := HX8.out.cell 3 _ rfl; have x4 := HX8.out.cell 4 _ rfl; have x5 := HX8.out.cell 5 _ rfl; have x6 := HX8.out.cell 6 _ rfl; have x7 := HX8.out.cell 7 _ rfl; clear hb9 hk9))
            rw [← HB8.out] at HX8 x0 x1 x2 x3 x4 x5 x6 x7 ⊢
            obtain ⟨O, hO⟩ : ∃ O, O = ownS l2 y.key := ⟨_, rfl⟩
            have CO := hide (H.owner y.key HRJ.out.du.dd HKO.out)
            have CQ : Hid (∀ W, RSg W r vb7 vs7 → Calls Try.prog 21 #[.pointer (some ⟨r, 0, none⟩), .agg (eightA y.key)] W fun e w' => e = .returned (.tuple #[txVN (O.getD (0, 0, 0)), .bool O.isSome]) ∧ Below W.heap.size W w') := hide (fun W hW => by
              have h := rgOwner_any r vb7 vs7 y.key W hW HKO.out
              rw [HEQ.out, ← hO] at h
              exact h)
            rw [← hO] at CO
            obtain ⟨OT, hOT⟩ : ∃ OT, OT = O.getD (0, 0, 0) := ⟨_, rfl⟩
            obtain ⟨OB, hOB⟩ : ∃ OB, OB = O.isSome := ⟨_, rfl⟩
            rw [← hOT, ← hOB] at CO CQ
            clear hO hOT hOB
            refine CO.out.mono ?_
            rintro e Y2 ⟨rfl, hB2⟩
            replace HRJ := hide (HRJ.out.below H hB2)
            replace HX8 := hide (HX8.out.belowI hB2)
            have HZ2 := hide (box_new Y2 #[.int .u8 0, .int .u32 0, .int .u32 0] 33)
            have HA2 := hide (alloc_below14 Y2 (.cells #[.int .u8 0, .int .u32 0, .int .u32 0] 33))
            obtain ⟨b2, hb2⟩ : ∃ b2, b2 = Y2.heap.size := ⟨_, rfl⟩
            have HB2 := hide hb2
            clear hB2 hb2 CO x0 x1 x2 x3 x4 x5 x6 x7
            go_wp2_with (refine wp_store_box rfl rfl _ _ rfl Y2.heap.size rfl (cs' := #[.int .u8 (OT.1 : Int), .int .u32 (OT.2.1 : Int), .int .u32 (OT.2.2 : Int)]) rfl HZ2.out rfl info14Tx (by simp [Value.oneCell']) ?_; intro Y3 hb3 hk3; have HL3 : Hid (Below Y2.heap.size Y2 Y3) := hide (HA2.out.trans (hk3.below HA2.out.size (fun k hk => by omega))); have HX2 := hide hb3; replace HRJ := hide (HRJ.out.below H HL3.out); replace HX8 := hide (HX8.out.belowI HL3.out); have x0 := HX8.out.cell 0 _ rfl; have x1 := HX8.out.cell 1 _ rfl; have x2 := HX8.out.cell 2 _ rfl; have x3 := HX8.out.cell 3 _ rfl; have x4 := HX8.out.cell 4 _ rfl; have x5 := HX8.out.cell 5 _ rfl; have x6 := HX8.out.cell 6 _ rfl; have x7 := HX8.out.cell 7 _ rfl; clear hb3 hk3)
            rw [← HB2.out] at HX2 ⊢
            refine (CQ.out _ HRJ.out.du.rr).mono ?_
            rintro e Y4 ⟨rfl, hB4⟩
            replace HRJ := hide (HRJ.out.below H hB4)
            replace HX2 := hide (HX2.out.belowI hB4)
            have HZ4 := hide (box_new Y4 #[.int .u8 0, .int .u32 0, .int .u32 0] 33)
            have HA4 := hide (alloc_below14 Y4 (.cells #[.int .u8 0, .int .u32 0, .int .u32 0] 33))
            obtain ⟨b4, hb4⟩ : ∃ b4, b4 = Y4.heap.size := ⟨_, rfl⟩
            have HB4 := hide hb4
            have hq3 := neq_txS OT
            have hq4 := neq_bool14 OB
            clear hB4 hb4 CQ x0 x1 x2 x3 x4 x5 x6 x7 HZ2 HA2 HL3 HB2 HZ8 HA8 HL9 HB8
            go_wp2_with (first | (refine wp_store_box rfl rfl _ _ rfl Y4.heap.size rfl (cs' := #[.int .u8 (OT.1 : Int), .int .u32 (OT.2.1 : Int), .int .u32 (OT.2.2 : Int)]) rfl HZ4.out rfl info14Tx (by simp [Value.oneCell']) ?_; intro Y5 hb5 hk5; have HL5 : Hid (Below Y4.heap.size Y4 Y5) := hide (HA4.out.trans (hk5.below HA4.out.size (fun k hk => by omega))); have HX4 := hide hb5; replace HRJ := hide (HRJ.out.below H HL5.out); replace HX2 := hide (HX2.out.belowI HL5.out); clear hb5 hk5) | (refine wp_load_box rfl _ rfl b2 rfl HX2.out Try.underlying33 rfl info14Tx ?_) | (refine wp_load_box rfl _ rfl Y4.heap.size rfl HX4.out Try.underlying33 rfl info14Tx ?_))
            go_roundg g2
            case measure => omega
            case rel => exact ⟨j + 1, by omega, by first | rfl | go_num, HRJ⟩
      | false =>
        have CR : Hid (∀ W, RSg W r vb vs → Below w.heap.size w W → Calls Try.prog 14 #[.pointer (some ⟨r, 0, none⟩), txVN tx2, rgV rg2, .slice ro LR rc] W fun e w' => e = .returned (.int .i64 (pA l ⟨tx2, rg2, ws2⟩)) ∧ RSid W w' r vb vs (pS l ⟨tx2, rg2, ws2⟩)) := hide (fun W hW hB => by
          have h := rgPut_any r vb vs ⟨tx2, rg2, ws2⟩ (.slice ro LR rc) W hW HO2.out (HS2.out W hB) HVL.out (by dsimp only; rw [← HLR.out]; exact hLR1)
          rw [HEQ.out] at h
          exact h)
        have CP : Hid (∀ W F, D W q F l → Below w.heap.size w W → Calls Try.prog 13 #[.pointer (some ⟨q, 0, none⟩), txVN tx2, rgV rg2, .slice ro LR rc] W fun e w' => e = .returned (.int .i64 (pA l ⟨tx2, rg2, ws2⟩)) ∧ SDid D W w' q F (pS l ⟨tx2, rg2, ws2⟩)) := hide (fun W F hD hB => H.put ⟨tx2, rg2, ws2⟩ (.slice ro LR rc) hD HO2.out (HS2.out W hB))
        obtain ⟨PA, hPA⟩ : ∃ PA, PA = pA l ⟨tx2, rg2, ws2⟩ := ⟨_, rfl⟩
        obtain ⟨l2, hl2⟩ : ∃ l2, l2 = pS l ⟨tx2, rg2, ws2⟩ := ⟨_, rfl⟩
        rw [← hPA, ← hl2] at CR CP
        clear hPA hl2
        go_wp2_with (first | (refine wpList_load_mid rfl 38 _ rfl b (off + k * 7) rfl (sactE ⟨⟨false, ⟨tx2, rg2, ws2⟩⟩, .slice ro LR rc⟩) _ HRg.out Try.underlying38 rfl infoSA ?_) | (refine wp_store_box rfl rfl _ _ rfl wr.heap.size rfl (cs' := sactA ⟨⟨false, ⟨tx2, rg2, ws2⟩⟩, .slice ro LR rc⟩) rfl HZ.out rfl infoSA (by simp [Value.oneCell']) ?_; intro w5 hb3 hk3; have HR5 := hide (HN.out.var H hk3 hb3); clear hb3 hk3; obtain ⟨y0, y1, y2, y3, y4, y5, y6⟩ := box_act HR5.out.box))
        rw [← HBX.out] at HR5 ⊢
        replace HR5 := hide (HR5.out.below H (below_drew14 w5))
        have ss0 : w5.drew.cell? ⟨bx, 1, none⟩ = some (.int .u8 (tx2.1 : Int)) ∧ w5.drew.cell? ⟨bx, 2, none⟩ = some (.int .u32 (tx2.2.1 : Int)) ∧ w5.drew.cell? ⟨bx, 3, none⟩ = some (.int .u32 (tx2.2.2 : Int)) ∧ w5.drew.cell? ⟨bx, 4, none⟩ = some (.int .u32 (rg2.1 : Int)) ∧ w5.drew.cell? ⟨bx, 5, none⟩ = some (.int .u32 (rg2.2 : Int)) ∧ w5.drew.cell? ⟨bx, 6, none⟩ = some (.slice ro LR rc) := by obtain ⟨z0, z1, z2, z3, z4, z5, z6⟩ := box_act HR5.out.box; exact ⟨z1, z2, z3, z4, z5, z6⟩
        clear HBX
        go_region_held (fun w' => w'.cell? ⟨bx, 1, none⟩ = some (.int .u8 (tx2.1 : Int)) ∧ w'.cell? ⟨bx, 2, none⟩ = some (.int .u32 (tx2.2.1 : Int)) ∧ w'.cell? ⟨bx, 3, none⟩ = some (.int .u32 (tx2.2.2 : Int)) ∧ w'.cell? ⟨bx, 4, none⟩ = some (.int .u32 (rg2.1 : Int)) ∧ w'.cell? ⟨bx, 5, none⟩ = some (.int .u32 (rg2.2 : Int)) ∧ w'.cell? ⟨bx, 6, none⟩ = some (.slice ro LR rc)) (go_keep) (first
          | (go_at_call 13; refine (CP.out _ _ HR5.out.du.dd HR5.out.du.B).mono ?_; rintro e Z1 ⟨rfl, hd⟩; obtain ⟨F6, hR6⟩ := HR5.out.prog hd; replace HR5 := hide hR6; have ss : Z1.cell? ⟨bx, 1, none⟩ = some (.int .u8 (tx2.1 : Int)) ∧ Z1.cell? ⟨bx, 2, none⟩ = some (.int .u32 (tx2.2.1 : Int)) ∧ Z1.cell? ⟨bx, 3, none⟩ = some (.int .u32 (tx2.2.2 : Int)) ∧ Z1.cell? ⟨bx, 4, none⟩ = some (.int .u32 (rg2.1 : Int)) ∧ Z1.cell? ⟨bx, 5, none⟩ = some (.int .u32 (rg2.2 : Int)) ∧ Z1.cell? ⟨bx, 6, none⟩ = some (.slice ro LR rc) := (by obtain ⟨z0, z1, z2, z3, z4, z5, z6⟩ := box_act HR5.out.box; exact ⟨z1, z2, z3, z4, z5, z6⟩); clear hd hR6)
          | (go_at_call 14; refine (CR.out _ HR5.out.du.rr HR5.out.du.B).mono ?_; rintro e Z2 ⟨rfl, hd⟩; obtain ⟨vb7, vs7, hR7, he7, _⟩ := HR5.out.ref H hd; replace HR5 := hide hR7; replace HEQ := hide he7; have ss : Z2.cell? ⟨bx, 1, none⟩ = some (.int .u8 (tx2.1 : Int)) ∧ Z2.cell? ⟨bx, 2, none⟩ = some (.int .u32 (tx2.2.1 : Int)) ∧ Z2.cell? ⟨bx, 3, none⟩ = some (.int .u32 (tx2.2.2 : Int)) ∧ Z2.cell? ⟨bx, 4, none⟩ = some (.int .u32 (rg2.1 : Int)) ∧ Z2.cell? ⟨bx, 5, none⟩ = some (.int .u32 (rg2.2 : Int)) ∧ Z2.cell? ⟨bx, 6, none⟩ = some (.slice ro LR rc) := (by obtain ⟨z0, z1, z2, z3, z4, z5, z6⟩ := box_act HR5.out.box; exact ⟨z1, z2, z3, z4, z5, z6⟩); clear hd hR7 he7))
        all_goals
          clear ss ss0
          go_wp2_with fail
        all_goals
          obtain ⟨y0, y1, y2, y3, y4, y5, y6⟩ := box_act HR5.out.box
          have CW := hide (fun W F (hD : D W q F l2) => H.writes tx2 hD HO2.out.tx)
          have CV : Hid (∀ W, RSg W r vb7 vs7 → Calls Try.prog 16 #[.pointer (some ⟨r, 0, none⟩), txVN tx2] W fun e w' => ∃ u, e = .returned (.tuple #[u, rgV (rgOf l2 tx2), .bool (onS l2 tx2).isSome]) ∧ RSrc wrE w' u (tW l2 tx2) ∧ Below W.heap.size W w') := hide (fun W hW => by
            have h := rgWrites_any r vb7 vs7 tx2 W hW
            rw [HEQ.out] at h
            exact h)
          have HT2 : Hid (∀ y ∈ tW l2 tx2, KeyOk y.key ∧ ItOk y.it) := hide (tW_ok (H.ok HR5.out.du.dd).2 tx2)
          have CS : Hid (∀ W u1 u2, RSrc wrE W u1 (tW l2 tx2) → RSrc wrE W u2 (tW l2 tx2) → Calls Try.prog 12 #[u1, u2] W fun e w' => e = .returned (.bool true) ∧ Below W.heap.size W w') := hide (fun W u1 u2 h1 h2 => by
            have h := rsameWrites_any u1 u2 (tW l2 tx2) (tW l2 tx2) W h1 h2 HT2.out HT2.out
            rw [decide_eq_true rfl] at h
            exact h)
          obtain ⟨G, hG⟩ : ∃ G, G = rgOf l2 tx2 := ⟨_, rfl⟩
          obtain ⟨B, hB0⟩ : ∃ B, B = (onS l2 tx2).isSome := ⟨_, rfl⟩
          obtain ⟨WS, hWS⟩ : ∃ WS, WS = tW l2 tx2 := ⟨_, rfl⟩
          rw [← hG, ← hB0, ← hWS] at CV
          simp only [← hG, ← hB0, ← hWS] at CW
          rw [← hWS] at CS
          clear hG hB0 hWS HT2
          go_wp2_with fail
          refine (CW.out _ _ HR5.out.du.dd).mono ?_
          rintro e X1 ⟨u1, rfl, ho1, hB1⟩
          replace HR5 := hide (HR5.out.below H hB1)
          have HU1 := hide (RSrc.of_own ho1)
          have HZ1 := hide (box_new X1 #[.int .u32 0, .int .u32 0] 35)
          have HA1 := hide (alloc_below14 X1 (.cells #[.int .u32 0, .int .u32 0] 35))
          obtain ⟨b1, hb1⟩ : ∃ b1, b1 = X1.heap.size := ⟨_, rfl⟩
          have HB1 := hide hb1
          clear ho1 hB1 y0 y1 y2 y3 y4 y5 y6 CW hb1
          go_wp2_with (refine wp_store_box rfl rfl _ _ rfl X1.heap.size rfl (cs' := #[.int .u32 (G.1 : Int), .int .u32 (G.2 : Int)]) rfl HZ1.out rfl infoRg14 (by simp [Value.oneCell']) ?_; intro X2 hb2 hk2; have HL2 : Hid (Below X1.heap.size X1 X2) := hide (HA1.out.trans (hk2.below HA1.out.size (fun k hk => by omega))); have HX1 := hide hb2; replace HR5 := hide (HR5.out.below H HL2.out); replace HU1 := hide (HU1.out.below HL2.out); obtain ⟨y0, y1, y2, y3, y4, y5, y6⟩ := box_act HR5.out.box; clear hb2 hk2)
          rw [← HB1.out] at HX1 ⊢
          refine (CV.out _ HR5.out.du.rr).mono ?_
          rintro e X3 ⟨u2, rfl, hu2, hB3⟩
          replace HR5 := hide (HR5.out.below H hB3)
          replace HU1 := hide (HU1.out.below hB3)
          replace HX1 := hide (HX1.out.belowI hB3)
          have HU2 := hide hu2
          have HZ3 := hide (box_new X3 #[.int .u32 0, .int .u32 0] 35)
          have HA3 := hide (alloc_below14 X3 (.cells #[.int .u32 0, .int .u32 0] 35))
          obtain ⟨b3, hb3⟩ : ∃ b3, b3 = X3.heap.size := ⟨_, rfl⟩
          have HB3 := hide hb3
          clear hu2 hB3 y0 y1 y2 y3 y4 y5 y6 CV hb3 HZ1 HA1 HL2 HB1
          go_wp2_with (refine wp_store_box rfl rfl _ _ rfl X3.heap.size rfl (cs' := #[.int .u32 (G.1 : Int), .int .u32 (G.2 : Int)]) rfl HZ3.out rfl infoRg14 (by simp [Value.oneCell']) ?_; intro X4 hb4 hk4; have HL4 : Hid (Below X3.heap.size X3 X4) := hide (HA3.out.trans (hk4.below HA3.out.size (fun k hk => by omega))); have HX3 := hide hb4; replace HR5 := hide (HR5.out.below H HL4.out); replace HU1 := hide (HU1.out.below HL4.out); replace HU2 := hide (HU2.out.below HL4.out); replace HX1 := hide (HX1.out.belowI HL4.out); clear hb4 hk4)
          rw [← HB3.out] at HX3 ⊢
          refine (CS.out _ _ _ HU1.out HU2.out).mono ?_
          rintro e X5 ⟨rfl, hB5⟩
          replace HR5 := hide (HR5.out.below H hB5)
          replace HX1 := hide (HX1.out.belowI hB5)
          replace HX3 := hide (HX3.out.belowI hB5)
          have hq1 := neq_rgN G
          have hq2 := neq_bool14 B
          clear hB5 CS HU1 HU2 HZ3 HA3 HL4 HB3
          go_wp2_with (first | (refine wp_load_box_g rfl _ rfl b1 rfl HX1.out Try.underlying35 rfl infoRg14 ?_) | (refine wp_load_box_g rfl _ rfl b3 rfl HX3.out Try.underlying35 rfl infoRg14 ?_))
          refine (H.all HR5.out.du.dd).mono ?_
          rintro e X6 ⟨u6, rfl, ho6, hB6⟩
          replace HR5 := hide (HR5.out.below H hB6)
          have CL : Hid (Calls Try.prog 19 #[.pointer (some ⟨r, 0, none⟩)] X6 fun e w' => ∃ u, e = .returned u ∧ w'.ownsRow X6.heap.size 33 3 u l2.length (rowOf (l2.map fun x => txI x.tx)) ∧ Below X6.heap.size X6 w') := hide (by
            have h := rgAll_any r vb7 vs7 X6 HR5.out.du.rr
            rw [HEQ.out] at h
            exact h)
          have HO6 := hide ho6
          have HFW : Hid (l2.length ≤ 64) := hide (H.ok HR5.out.du.dd).1.ok.few
          clear ho6 hB6 hq1 hq2 HX1 HX3
          go_wp2_with fail
          refine CL.out.mono ?_
          rintro e X7 ⟨u7, rfl, ho7, hB7⟩
          replace HR5 := hide (HR5.out.below H hB7)
          have CM : Hid (Calls Try.prog 17 #[u6, u7] X7 fun e w' => e = .returned (.bool true) ∧ Below X7.heap.size X7 w') := hide (by
            have e1 : (l2.map fun x => txI x.tx).length = l2.length := List.length_map _
            have h6 := owns_keep HO6.out (KeepBut.of_below (fun _ => False) hB7) (fun _ _ h => h)
            have h7 := ho7
            rw [← e1] at h6 h7
            exact same5_any _ _ u6 u7 _ X7 h6 h7 (by rw [e1]; exact Nat.le_trans HFW.out (by decide)))
          clear ho7 hB7 CL HO6 HFW
          go_wp2_with fail
          refine CM.out.mono ?_
          rintro e X8 ⟨rfl, hB8⟩
          replace HR5 := hide (HR5.out.below H hB8)
          have y6 := (box_act HR5.out.box).2.2.2.2.2.2
          clear hB8 CM
          go_wp2_with fail
          go_loopg [121] LR (fun g2 i wr => ∃ j : Nat, j + g2 = LR ∧ i = .int .i64 j ∧ Hid (Rn14 D w q r F6 vb7 vs7 l2 bx (sactA ⟨⟨false, ⟨tx2, rg2, ws2⟩⟩, .slice ro LR rc⟩) 38 wr))
          case atStart => exact ⟨0, by omega, rfl, HR5⟩
          case round =>
            obtain ⟨j, hj, rfl, HRJ⟩ := hrel
            cases gk with
            | zero =>
              obtain rfl : j = LR := by omega
              have hzz : ¬ ((j : Int) < (j : Int)) := by omega
              go_wp2_with fail
              go_roundg g
              case measure => omega
              case rel => exact ⟨k + 1, _, _, _, _, by omega, by first | rfl | go_num, hide HRJ.out.du, HEQ⟩
            | succ g2 =>
              have hzz : (j : Int) < (LR : Int) := by omega
              have hjn : j < ws2.length := by rw [← HLR.out]; omega
              obtain ⟨en, c, co, hro, hb, hcl⟩ := (HS2.out wr HRJ.out.du.B).at recWR.len hjn
              cases hro
              have HRw : Hid (wr.rangeAt c (co + j * 21) (wrE ws2[j])) := hide (fun m v hv => hcl m v hv)
              have HKO := hide (HO2.out.wr _ (List.getElem_mem hjn)).1
              generalize ws2[j] = y at *
              have HZ8 := hide (box_new wr (wrA zeroWr) 59)
              have HA8 := hide (alloc_below14 wr (.cells (wrA zeroWr) 59))
              obtain ⟨b8, hb8⟩ : ∃ b8, b8 = wr.heap.size := ⟨_, rfl⟩
              have HB8 := hide hb8
              clear hcl en hb hb8
              go_wp2_with (first | (refine wpList_load_mid rfl 59 _ rfl c (co + j * 21) rfl (wrE y) _ HRw.out Try.underlying59 rfl infoWrite ?_) | (refine wp_store_box rfl rfl _ _ rfl wr.heap.size rfl (cs' := wrA y) rfl HZ8.out rfl infoWrite (wrA_one14 y) ?_; intro X9 hb9 hk9; have HL9 : Hid (Below wr.heap.size wr X9) := hide (HA8.out.trans (hk9.below HA8.out.size (fun k hk => by omega))); have HX8 := hide hb9; replace HRJ := hide (HRJ.out.below H HL9.out); have x0 := HX8.out.cell 0 _ rfl; have x1 := HX8.out.cell 1 _ rfl; have x2 := HX8.out.cell 2 _ rfl; have x3 := HX8.out.cell 3 _ rfl; have x4 := HX8.out.cell 4 _ rfl; have x5 := HX8.out.cell 5 _ rfl; have x6 := HX8.out.cell 6 _ rfl; have x7 := HX8.out.cell 7 _ rfl; clear hb9 hk9))
              rw [← HB8.out] at HX8 x0 x1 x2 x3 x4 x5 x6 x7 ⊢
              obtain ⟨O, hO⟩ : ∃ O, O = ownS l2 y.key := ⟨_, rfl⟩
              have CO := hide (H.owner y.key HRJ.out.du.dd HKO.out)
              have CQ : Hid (∀ W, RSg W r vb7 vs7 → Calls Try.prog 21 #[.pointer (some ⟨r, 0, none⟩), .agg (eightA y.key)] W fun e w' => e = .returned (.tuple #[txVN (O.getD (0, 0, 0)), .bool O.isSome]) ∧ Below W.heap.size W w') := hide (fun W hW => by
                have h := rgOwner_any r vb7 vs7 y.key W hW HKO.out
                rw [HEQ.out, ← hO] at h
                exact h)
              rw [← hO] at CO
              obtain ⟨OT, hOT⟩ : ∃ OT, OT = O.getD (0, 0, 0) := ⟨_, rfl⟩
              obtain ⟨OB, hOB⟩ : ∃ OB, OB = O.isSome := ⟨_, rfl⟩
              rw [← hOT, ← hOB] at CO CQ
              clear hO hOT hOB
              refine CO.out.mono ?_
              rintro e Y2 ⟨rfl, hB2⟩
              replace HRJ := hide (HRJ.out.below H hB2)
              replace HX8 := hide (HX8.out.belowI hB2)
              have HZ2 := hide (box_new Y2 #[.int .u8 0, .int .u32 0, .int .u32 0] 33)
              have HA2 := hide (alloc_below14 Y2 (.cells #[.int .u8 0, .int .u32 0, .int .u32 0] 33))
              obtain ⟨b2, hb2⟩ : ∃ b2, b2 = Y2.heap.size := ⟨_, rfl⟩
              have HB2 := hide hb2
              clear hB2 hb2 CO x0 x1 x2 x3 x4 x5 x6 x7
              go_wp2_with (refine wp_store_box rfl rfl _ _ rfl Y2.heap.size rfl (cs' := #[.int .u8 (OT.1 : Int), .int .u32 (OT.2.1 : Int), .int .u32 (OT.2.2 : Int)]) rfl HZ2.out rfl info14Tx (by simp [Value.oneCell']) ?_; intro Y3 hb3 hk3; have HL3 : Hid (Below Y2.heap.size Y2 Y3) := hide (HA2.out.trans (hk3.below HA2.out.size (fun k hk => by omega))); have HX2 := hide hb3; replace HRJ := hide (HRJ.out.below H HL3.out); replace HX8 := hide (HX8.out.belowI HL3.out); have x0 := HX8.out.cell 0 _ rfl; have x1 := HX8.out.cell 1 _ rfl; have x2 := HX8.out.cell 2 _ rfl; have x3 := HX8.out.cell 3 _ rfl; have x4 := HX8.out.cell 4 _ rfl; have x5 := HX8.out.cell 5 _ rfl; have x6 := HX8.out.cell 6 _ rfl; have x7 := HX8.out.cell 7 _ rfl; clear hb3 hk3)
              rw [← HB2.out] at HX2 ⊢
              refine (CQ.out _ HRJ.out.du.rr).mono ?_
              rintro e Y4 ⟨rfl, hB4⟩
              replace HRJ := hide (HRJ.out.below H hB4)
              replace HX2 := hide (HX2.out.belowI hB4)
              have HZ4 := hide (box_new Y4 #[.int .u8 0, .int .u32 0, .int .u32 0] 33)
              have HA4 := hide (alloc_below14 Y4 (.cells #[.int .u8 0, .int .u32 0, .int .u32 0] 33))
              obtain ⟨b4, hb4⟩ : ∃ b4, b4 = Y4.heap.size := ⟨_, rfl⟩
              have HB4 := hide hb4
              have hq3 := neq_txS OT
              have hq4 := neq_bool14 OB
              clear hB4 hb4 CQ x0 x1 x2 x3 x4 x5 x6 x7 HZ2 HA2 HL3 HB2 HZ8 HA8 HL9 HB8
              go_wp2_with (first | (refine wp_store_box rfl rfl _ _ rfl Y4.heap.size rfl (cs' := #[.int .u8 (OT.1 : Int), .int .u32 (OT.2.1 : Int), .int .u32 (OT.2.2 : Int)]) rfl HZ4.out rfl info14Tx (by simp [Value.oneCell']) ?_; intro Y5 hb5 hk5; have HL5 : Hid (Below Y4.heap.size Y4 Y5) := hide (HA4.out.trans (hk5.below HA4.out.size (fun k hk => by omega))); have HX4 := hide hb5; replace HRJ := hide (HRJ.out.below H HL5.out); replace HX2 := hide (HX2.out.belowI HL5.out); clear hb5 hk5) | (refine wp_load_box rfl _ rfl b2 rfl HX2.out Try.underlying33 rfl info14Tx ?_) | (refine wp_load_box rfl _ rfl Y4.heap.size rfl HX4.out Try.underlying33 rfl info14Tx ?_))
              go_roundg g2
              case measure => omega
              case rel => exact ⟨j + 1, by omega, by first | rfl | go_num, HRJ⟩
end
section
open Go.RowKit Go.ChangeShapes Go.WideShapes Go.ChangeAt

namespace stagePlays
set_option maxRecDepth 100000 in
theorem lifted (os : Os) (started : os.Started) (H : Type) (enc : TypeId × Value → H) :
    ReturnsInHanded {} Try.checked os 3 .any (Rows.stagePlaysSpec.pre6 enc Try.prog Try.f3 Rows.stagePlaysRow.domain false) (Rows.stagePlaysSpec.post enc Try.prog Try.f3 false true false false) := by
  refine returnsInHanded_of_change_sized (C := Try.checked) own started (by kernel_rfl) Try.func3
    (ChangeSpec.witness6 (enc := enc) (C := Try.checked) false ⟨#[], #[.slice none 0 0], []⟩ 8 (by kernel_rfl) (by kernel_rfl) (by kernel_rfl) (by kernel_rfl)) ?_
  intro W base args ds gs before hval0 hW hcnd hsz _
  have hval : ∀ (j : Nat) t v, Try.f3.params[j]? = some t → args[j]? = some v → Value.okWide Try.prog W .any base t v := hval0
  have hW' := hW
  obtain ⟨p, q, hA0, hV, rfl, hfz, hnd⟩ := hW
  have hA : DataW.TrodAll enc Try.prog W 0 (fun _ => true) true Try.f3.params.toList args.toList ds p := hA0
  have hsz2 : ∀ (j : Nat) (t : TypeId) (d : DataW H), Try.f3.params.toList[j]? = some t → ds[j]? = some d → ∀ n ∈ d.weights Try.prog t, n ≤ 140737488351232 := fun j t d ht hd n hn => by
    have h1 := List.all_eq_true.1 hsz n (DataW.weights_mem_each (j := j) (t := t) (d := d) (by rw [List.getElem?_append_left (List.getElem?_eq_some_iff.1 ht).1]; exact ht) (by rw [List.getElem?_append_left (List.getElem?_eq_some_iff.1 hd).1]; exact hd) n hn)
    have h2 : n ≤ reachBytes := by simpa using h1
    have h3 : reachBytes = 140737488351232 := rfl
    omega
  rw [Try.params3] at hA hval hsz2
  obtain ⟨v0, vs0, d0, ds0, p0, q0, hargs, rfl, rfl, h0, r0⟩ := trodAll_cons hA
  obtain ⟨rfl, rfl, rfl⟩ := trodAll_nil r0
  obtain rfl : args = #[v0] := by cases args; simp_all
  obtain ⟨rfl, rfl⟩ := trodVars_none hV
  obtain ⟨a0, len0, cap0, rfl⟩ := okWide_slice Try.underlying22 (hval 0 22 v0 rfl rfl)
  have k0 := h0
  have lt0 : ∀ x ∈ p0, x.block < W.heap.size := by obtain ⟨m, hm⟩ := k0; exact DataW.trod_lt m _ _ _ hm
  obtain ⟨xs0, lies0, by0⟩ := sacts_of_trod h0
  clear hA0 hval0
  refine (walkP14 ps_do _ xs0 W lies0 by0).mono fun e W' ⟨he, bel⟩ => ?_
  subst he
  exact ⟨_, rfl, _, _, _, [], _, [], hW', trodAll_mk1 (shut_bool Try.underlying4 _), (trodAll_cons_mk (Below.trod laidOut (by kernel_rfl) (of_decide_eq_true (by kernel_rfl)) k0 bel lt0) trodAll_mk0), rfl, bel.frame _, fun h => by cases h⟩

theorem over : Rows.stagePlaysRow.holds Try.pinned (OpenSpec.ofChange Rows.stagePlaysSpec) :=
  OpenClaim.holds_of_wide 3 Try.f3 rfl rfl rfl rfl rfl rfl rfl ⟨rfl, rfl, rfl, rfl, rfl⟩ rfl rfl rfl rfl rfl (by kernel_rfl) Try.func3 (by kernel_rfl)
    (of_decide_eq_true (by kernel_rfl)) (by unfold Func.isWrapper; first | (rw [if_pos (by decide +kernel)]; kernel_rfl) | (rw [if_neg (by decide +kernel)]; exact ⟨rfl, rfl⟩))
    (fun os started H enc _ => lifted os started H enc)
end stagePlays

/-- THE STATEMENT. -/
theorem stagePlays_holds : Rows.StagePlaysSaid := stagePlays.over
#print axioms stagePlays_holds
end
end Go.Proofs.Ytodomdmmffooaaa
