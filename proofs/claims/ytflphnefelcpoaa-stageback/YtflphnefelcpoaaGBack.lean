/-
  Proved: what was put in the program's stage is taken as it was, whatever calls of others came between, and then its keys are free and it is gone. For every input of the form's own reach (of a script the first 100 calls count; one that is too large is passed by, as the law says). Own work.
-/
import Derived.Test.YtflphnefelcpoaaG21
import Derived.Test.YtflphnefelcpoaaG01
import Derived.SizedLaws
import Derived.ChangeArms
namespace Go.Proofs.Ytflphnefelcpoaa
section
open Go.RowKit Classical

variable {D : World → Nat → (Nat → Prop) → List OnP → Prop}
set_option maxRecDepth 100000 in
set_option maxHeartbeats 6400000 in
theorem walkB14 (H : StageDo D) (one : SActV) (v : Value) (fs : List SActV) (w : World) (h1 : SvOk w one) (hL : RSrc sactE w v fs) (hok : ∀ a ∈ fs, SvOk w a) :
    Calls Try.prog 5 #[.agg (sactA one), v] w fun e w' => e = .returned (.bool true) ∧ Below w.heap.size w w' := by
  obtain ⟨ao, cap, rfl, hc, hm⟩ := hL.shape
  obtain ⟨⟨tk, ⟨tx, rg, ws⟩⟩, pv⟩ := one
  obtain ⟨oa, oc, e1, hoc, hom⟩ := h1.src.shape
  dsimp only at e1 hoc
  subst e1
  obtain ⟨LO, hLO⟩ : ∃ LO, LO = ws.length := ⟨_, rfl⟩
  obtain ⟨LF, hLF⟩ : ∃ LF, LF = fs.length := ⟨_, rfl⟩
  have hA : Below w.heap.size w (w.alloc (.cells (sactA ⟨⟨tk, ⟨tx, rg, ws⟩⟩, .slice oa ws.length oc⟩) 38)) := (Below.refl _ _).alloc (Nat.le_refl _) _
  obtain ⟨w0, hw0⟩ : ∃ w0, w0 = w.alloc (.cells (sactA ⟨⟨tk, ⟨tx, rg, ws⟩⟩, .slice oa ws.length oc⟩) 38) := ⟨_, rfl⟩
  have HBX : Hid (Box w0 w.heap.size (sactA ⟨⟨tk, ⟨tx, rg, ws⟩⟩, .slice oa LO oc⟩) 38) := hide (by rw [hw0, hLO]; exact box_new _ _ _)
  rw [← hw0] at hA
  have HB0 := hide hA
  have h01 := h1.below hA
  have HO1 : Hid (OnOk ⟨tx, rg, ws⟩) := hide h01.on
  have HS1 : Hid (RSrc wrE w0 (.slice oa LO oc) ws) := hide (by have := h01.src; dsimp only at this; rw [hLO]; exact this)
  have HSF : Hid (RSrc sactE w0 (.slice ao LF cap) fs) := hide (by rw [hLF]; exact hL.below hA)
  have HSO : Hid (∀ a ∈ fs, SvOk w0 a) := hide (fun a ha => (hok a ha).below hA)
  have HV1 : Hid (SvOk w0 ⟨⟨tk, ⟨tx, rg, ws⟩⟩, .slice oa LO oc⟩) := hide (by rw [hLO]; exact h01)
  have HLO := hide hLO
  rw [← hLO]
  rw [← hLO] at hw0 hoc
  rw [← hLF]
  have hsz : w0.heap.size = w.heap.size + 1 := by rw [hw0]; simp
  have HSZ := hide hsz
  have HW0 := hide hw0
  clear hL hok h1 h01 hA hLO hLF hc hm
  -- far
  have CF := hide (fun W (hB : Below w0.heap.size w0 W) => far_any14 (.slice ao LF cap) fs W (HSF.out.below hB) (fun a ha => (HSO.out a ha).below hB))
  have CF1 := hide (fun W v (hB : Below w0.heap.size w0 W) (hv : RSrc sactE W v [⟨⟨tk, ⟨tx, rg, ws⟩⟩, .slice oa LO oc⟩]) => far_any14 v [⟨⟨tk, ⟨tx, rg, ws⟩⟩, .slice oa LO oc⟩] W hv (fun a ha => by rw [List.mem_singleton.1 ha]; exact HV1.out.below hB))
  have CA := hide (fun W => alive_by14 H W)
  have CSH := hide (fun W => short_any14 (.slice ao LF cap) fs W w0 HSF.out)
  go_enter Try.func5, Try.ntmps5
  go_wp2_with fail
  rw [← HW0.out]
  refine (H.new w0).mono ?_
  rintro e w1 ⟨q, F1, rfl, hD1, hF1, hB1⟩
  have HN1 : Hid (Since14 D w0 q F1 [] w1) := hide ⟨hD1, hF1, hB1⟩
  clear hD1 hF1 hB1
  go_wp2_with fail
  obtain ⟨RF, hRF⟩ : ∃ RF, RF = farS fs := ⟨_, rfl⟩
  have CF' := hide (CF.out w1 HN1.out.b)
  rw [← hRF] at CF'
  clear hRF CF
  cases RF with
  | true =>
    refine CF'.out.mono ?_
    rintro e w2 ⟨rfl, hB2⟩
    have HB2 := hide (HB0.out.trans ((HN1.out.b.trans (hB2.mono HN1.out.b.size)).mono HB0.out.size))
    clear hB2
    go_wp2_with (go_at_call 9; refine (CA.out _).mono ?_; rintro e w3 ⟨rfl, hB3⟩; have HB3 := hide (HB2.out.trans (hB3.mono HB2.out.size)); clear hB3)
    go_ret
    exact ⟨rfl, HB3.out⟩
  | false =>
  refine CF'.out.mono ?_
  rintro e w2 ⟨rfl, hB2⟩
  replace HN1 := hide (HN1.out.below H hB2)
  have HBX2 := hide (HBX.out.belowI HN1.out.b)
  clear hB2 CF'
  go_wp2_with (refine wp_load_box_g rfl _ rfl w.heap.size rfl HBX2.out Try.underlying38 rfl infoSA ?_)
  have hA2 : Below w2.heap.size w2 (w2.alloc (.cells (sactA ⟨⟨tk, ⟨tx, rg, ws⟩⟩, .slice oa LO oc⟩) 38)) := (Below.refl _ _).alloc (Nat.le_refl _) _
  have CF2 := hide (CF1.out _ _ (HN1.out.b.trans (hA2.mono HN1.out.b.size)) (src_one14 w2 ⟨⟨tk, ⟨tx, rg, ws⟩⟩, .slice oa LO oc⟩))
  replace HN1 := hide (HN1.out.below H hA2)
  obtain ⟨RG, hRG⟩ : ∃ RG, RG = farS [⟨⟨tk, ⟨tx, rg, ws⟩⟩, .slice oa LO oc⟩] := ⟨_, rfl⟩
  rw [← hRG] at CF2
  clear hA2 CF1 hRG HBX2
  refine CF2.out.mono ?_
  rintro e w3 ⟨rfl, hB3⟩
  replace HN1 := hide (HN1.out.below H hB3)
  clear hB3 CF2
  cases RG with
  | true =>
    have HB2 := hide (HB0.out.trans (HN1.out.b.mono HB0.out.size))
    go_wp2_with (go_at_call 9; refine (CA.out _).mono ?_; rintro e w4 ⟨rfl, hB4⟩; have HB4 := hide (HB2.out.trans (hB4.mono HB2.out.size)); clear hB4)
    go_ret
    exact ⟨rfl, HB4.out⟩
  | false =>
  obtain ⟨b0, b1, b2, b3, b4, b5, b6⟩ := box_act (HBX.out.belowI HN1.out.b)
  have CP := hide (H.put ⟨tx, rg, ws⟩ (.slice oa LO oc) HN1.out.d HO1.out (HS1.out.below HN1.out.b))
  obtain ⟨PA, hPA⟩ : ∃ PA, PA = pA [] ⟨tx, rg, ws⟩ := ⟨_, rfl⟩
  rw [← hPA] at CP
  have HPA := hide hPA
  clear hPA
  go_wp2_with fail
  refine CP.out.mono ?_
  rintro e w4 ⟨rfl, hd4⟩
  obtain ⟨F4, hs4, _, _⟩ := HN1.out.did hd4
  have HN4 := hide hs4
  clear hd4 hs4 CP b0 b1 b2 b3 b4 b5 b6
  by_cases hp0 : PA = 0
  case neg =>
    have hne : (PA == 0) = false := by simpa using hp0
    have HPL : Hid (pS [] ⟨tx, rg, ws⟩ = []) := hide (put_refused sg_nil (by rw [← HPA.out]; exact hp0))
    rw [HPL.out] at HN4
    have CL := hide (H.all HN4.out.d)
    go_wp2_with (first | (go_at_call 19; refine CL.out.mono ?_; rintro e w5 ⟨v5, rfl, ho5, hB5⟩; have HB5 := hide (HB0.out.trans ((HN4.out.b.trans (hB5.mono HN4.out.b.size)).mono HB0.out.size)); clear hB5; obtain ⟨_, ⟨rfl, _⟩ | ⟨g5, cap5, cur5, rfl, _⟩⟩ := ho5) | (go_at_call 9; refine (CA.out _).mono ?_; rintro e w6 ⟨rfl, hB6⟩; have HB6 := hide (HB5.out.trans (hB6.mono HB5.out.size)); clear hB6))
    all_goals go_ret
    all_goals exact ⟨rfl, HB6.out⟩
  case pos =>
  subst hp0
  have HON : Hid (onS (pS [] ⟨tx, rg, ws⟩) tx = some ⟨tx, rg, ws⟩) := hide (put_there sg_nil HPA.out.symm)
  obtain ⟨l1, hl1⟩ : ∃ l1, l1 = pS [] ⟨tx, rg, ws⟩ := ⟨_, rfl⟩
  rw [← hl1] at HON HN4
  clear hl1 HPA
  obtain ⟨ts, hts⟩ : ∃ ts, ts = fs.take 100 := ⟨_, rfl⟩
  have HTO : Hid (∀ a ∈ ts, SvOk w0 a) := hide (fun a ha => by rw [hts] at ha; exact HSO.out a (List.mem_of_mem_take ha))
  simp only [← hts] at CSH
  obtain ⟨LN, hLN⟩ : ∃ LN, LN = ts.length := ⟨_, rfl⟩
  have hKl : LN ≤ 100 := by rw [hLN, hts, List.length_take]; omega
  have HLN := hide hLN
  clear hts hLN
  go_wp2_with (go_at_call 10; refine (CSH.out _).mono ?_; rintro e Y1 ⟨v1, rfl, rfl, hT⟩; obtain ⟨ta, tc, e1, _, _⟩ := hT.shape; rw [← HLN.out] at e1; subst e1; have HT := hide hT; clear hT)
  go_loopg [52] LN (fun g i wr => ∃ (k : Nat) (F : Nat → Prop), k + g = LN ∧ i = .int .i64 k ∧ Hid (Since14 D w0 q F ((ts.take k).foldl (butV tx) l1) wr))
  case atStart => exact ⟨0, F4, by omega, rfl, HN4⟩
  case round =>
    obtain ⟨k, F, hk, rfl, HN⟩ := hrel
    cases gk with
    | zero =>
      obtain rfl : k = LN := by omega
      have hz : ¬ ((k : Int) < (k : Int)) := by omega
      have HE : Hid (ts.take k = ts) := hide (by rw [HLN.out]; exact List.take_length)
      rw [HE.out, butV_play] at HN
      have HPB : Hid (SgAll (playBut tx l1 (ts.map SActV.a)) ∧ onS (playBut tx l1 (ts.map SActV.a)) tx = some ⟨tx, rg, ws⟩) := hide (by
        have := playBut_on (t := tx) (H.ok HN4.out.d).1 (acts_len HTO.out)
        rw [HON.out] at this
        exact this)
      obtain ⟨l2, hl2⟩ : ∃ l2, l2 = playBut tx l1 (ts.map SActV.a) := ⟨_, rfl⟩
      rw [← hl2] at HPB HN
      clear hl2
      have HTA : Hid (tA l2 tx = 0 ∧ tW l2 tx = ws ∧ onS (dropS l2 tx) tx = none ∧ ∀ y ∈ ws, ownS (dropS l2 tx) y.key = none) := hide (by
        refine ⟨?_, ?_, take_gone HPB.out.1.ok tx, fun y hy => take_free HPB.out.1.ok (x := ⟨tx, rg, ws⟩) HPB.out.2 hy⟩
        · unfold tA; rw [HPB.out.2]; rfl
        · unfold tW; rw [HPB.out.2])
      obtain ⟨b0, b1, b2, b3, b4, b5, b6⟩ := box_act (HBX.out.belowI HN.out.b)
      have CT := hide (H.take tx HN.out.d HO1.out.tx)
      rw [HTA.out.1, HTA.out.2.1] at CT
      go_wp2_with fail
      refine CT.out.mono ?_
      rintro e w5 ⟨v5, F5, rfl, hd5, hk5, hf5, hv5, hg5⟩
      have HN5 := hide (HN.out.took hd5 hk5 hf5)
      have HV5 := hide hv5
      have HG5 := hide hg5
      obtain ⟨va, vc, e5, _, _⟩ := hv5.shape
      rw [← HLO.out] at e5
      subst e5
      clear hd5 hk5 hf5 hv5 hg5 CT b0 b1 b2 b3 b4 b5 b6
      have c6 := (box_act (HBX.out.belowI HN5.out.b)).2.2.2.2.2.2
      obtain ⟨l3, hl3⟩ : ∃ l3, l3 = dropS l2 tx := ⟨_, rfl⟩
      rw [← hl3] at HN5 HTA
      have hLM : LO ≤ 9223372036854775807 := by unfold maxLen at hom; omega
      clear hl3 HN HPB
      go_wp2_with fail
      go_loopg [86] LO (fun g i wr => ∃ (j : Nat), j + g = LO ∧ i = .int .i64 j ∧ Hid (Below w5.heap.size w5 wr))
      case atStart => exact ⟨0, by omega, rfl, hide (Below.refl _ _)⟩
      case round =>
        obtain ⟨j, hj, rfl, HBW⟩ := hrel
        have HNW := hide (HN5.out.below H HBW.out)
        cases gk with
        | zero =>
          obtain rfl : j = LO := by omega
          have hz2 : ¬ ((j : Int) < (j : Int)) := by omega
          obtain ⟨b0, b1, b2, b3, b4, b5, b6⟩ := box_act (HBX.out.belowI HNW.out.b)
          have CT := hide (H.take tx HNW.out.d HO1.out.tx)
          have HT6 : Hid (tA l3 tx = 6) := hide (by unfold tA; rw [HTA.out.2.2.1]; rfl)
          rw [HT6.out] at CT
          have HVW := hide (HV5.out.below HBW.out)
          go_wp2_with fail
          refine CT.out.mono ?_
          rintro e w6 ⟨v6, F6, rfl, hd6, hk6, hf6, hv6, _⟩
          have HN6 := hide (HNW.out.took hd6 hk6 hf6)
          have HV6 := hide (HVW.out.keep hk6 (fun g hg => (HG5.out g hg).2))
          clear hd6 hk6 hf6 hv6 CT b0 b1 b2 b3 b4 b5 b6
          have c6 := (box_act (HBX.out.belowI HN6.out.b)).2.2.2.2.2.2
          have CM : Hid (Calls Try.prog 13 #[.slice va j vc, .slice oa j oc] w6 fun e w' => e = .returned (.bool true) ∧ Below w6.heap.size w6 w') := hide (by
            have h := rsameWrites_any _ _ ws ws w6 HV6.out (HS1.out.below HN6.out.b) HO1.out.wr HO1.out.wr
            rw [decide_eq_true rfl] at h
            exact h)
          go_wp2_with (first | (go_at_call 13; refine CM.out.mono ?_; rintro e w7 ⟨rfl, hB7⟩; have HB7 := hide (HB0.out.trans ((HN6.out.b.trans (hB7.mono HN6.out.b.size)).mono HB0.out.size)); clear hB7) | (go_at_call 9; refine (CA.out _).mono ?_; rintro e w8 ⟨rfl, hB8⟩; have HB8 := hide (HB7.out.trans (hB8.mono HB7.out.size)); clear hB8))
          go_ret
          exact ⟨rfl, HB8.out⟩
        | succ g =>
          have hz2 : (j : Int) < (LO : Int) := by omega
          have hjn : j < ws.length := by rw [← HLO.out]; omega
          obtain ⟨en, b, off, rfl, hb, hcl⟩ := (HS1.out.below HNW.out.b).at recWR.len hjn
          have HRg : Hid (wr.rangeAt b (off + j * 21) (wrE ws[j])) := hide (fun j v hv => hcl j v hv)
          have HKO := hide (HO1.out.wr _ (List.getElem_mem hjn)).1
          have HOW := hide (HTA.out.2.2.2 _ (List.getElem_mem hjn))
          generalize ws[j] = y at *
          have HZ := hide (box_new wr (wrA zeroWr) 59)
          have HZB : Hid (Below w5.heap.size w5 (wr.alloc (.cells (wrA zeroWr) 59))) := hide (HBW.out.alloc HBW.out.size _)
          have hws := HBW.out.size
          clear hcl en hb
          go_wp2_with (first | (refine wpList_load_mid rfl 59 _ rfl b (off + j * 21) rfl (wrE y) _ HRg.out Try.underlying59 rfl infoWrite ?_) | (refine wp_store_box rfl rfl _ _ rfl wr.heap.size rfl (cs' := wrA y) rfl HZ.out rfl infoWrite (wrA_one14 y) ?_; intro w6 hb3 hk3; have HX6 := hide hb3; have HB6 : Hid (Below w5.heap.size w5 w6) := hide (HZB.out.trans (hk3.below HZB.out.size (fun k hk => by omega))); have x0 := HX6.out.cell 0 _ rfl; have x1 := HX6.out.cell 1 _ rfl; have x2 := HX6.out.cell 2 _ rfl; have x3 := HX6.out.cell 3 _ rfl; have x4 := HX6.out.cell 4 _ rfl; have x5 := HX6.out.cell 5 _ rfl; have x6 := HX6.out.cell 6 _ rfl; have x7 := HX6.out.cell 7 _ rfl; clear hb3 hk3))
          have CO := hide (H.owner y.key (HN5.out.below H HB6.out).d HKO.out)
          rw [HOW.out] at CO
          refine CO.out.mono ?_
          rintro e w7 ⟨rfl, hB7⟩
          have HB7 := hide (HB6.out.trans (hB7.mono HB6.out.size))
          have h67 := HB7.out.size
          have HZ7 := hide (box_new w7 #[.int .u8 0, .int .u32 0, .int .u32 0] 33)
          have HZB7 : Hid (Below w5.heap.size w5 (w7.alloc (.cells #[.int .u8 0, .int .u32 0, .int .u32 0] 33))) := hide (HB7.out.alloc HB7.out.size _)
          clear x0 x1 x2 x3 x4 x5 x6 x7 hB7 CO
          go_wp2_with (refine wp_store_box rfl rfl _ _ rfl w7.heap.size rfl (cs' := #[.int .u8 0, .int .u32 0, .int .u32 0]) rfl HZ7.out rfl info14Tx (by simp [Value.oneCell']) ?_; intro w8 hb8 hk8; have HB8 : Hid (Below w5.heap.size w5 w8) := hide (HZB7.out.trans (hk8.below HZB7.out.size (fun k hk => by omega))); clear hb8 hk8)
          go_roundg g
          case measure => omega
          case rel => exact ⟨j + 1, by omega, by first | rfl | go_num, HB8⟩
    | succ g =>
      have hz : (k : Int) < (LN : Int) := by omega
      have hkn : k < ts.length := by rw [← HLN.out]; omega
      obtain ⟨en, b, off, rfl, hb, hcl⟩ := (HT.out.below HN.out.b).at recSA.len hkn
      have HRg : Hid (wr.rangeAt b (off + k * 7) (sactE ts[k])) := hide (fun j v hv => hcl j v hv)
      have HOA := hide ((HTO.out _ (List.getElem_mem hkn)).below HN.out.b)
      have HFO := hide (take_fold (butV tx) l1 ts hkn)
      generalize ts[k] = a at *
      obtain ⟨⟨tk2, ⟨tx2, rg2, ws2⟩⟩, pv⟩ := a
      obtain ⟨ro, rc, e1, hrc, _⟩ := HOA.out.src.shape
      dsimp only at e1
      subst e1
      obtain ⟨LR, hLR⟩ : ∃ LR, LR = ws2.length := ⟨_, rfl⟩
      have HS2 : Hid (RSrc wrE wr (.slice ro LR rc) ws2) := hide (by rw [hLR]; exact HOA.out.src)
      have HO2 : Hid (OnOk ⟨tx2, rg2, ws2⟩) := hide HOA.out.on
      rw [← hLR] at HRg HFO
      obtain ⟨lk, hlk⟩ : ∃ lk, lk = (ts.take k).foldl (butV tx) l1 := ⟨_, rfl⟩
      rw [← hlk] at HN HFO
      have HZ := hide (box_new wr (sactA zeroSV) 38)
      have HZN := hide (HN.out.below H ((Below.refl wr.heap.size wr).alloc (Nat.le_refl _) (.cells (sactA zeroSV) 38)))
      have HZS := hide (HS2.out.below ((Below.refl wr.heap.size wr).alloc (Nat.le_refl _) (.cells (sactA zeroSV) 38)))
      have HNF : Hid (¬ F wr.heap.size) := hide (fun hf => Nat.lt_irrefl _ (H.lt HN.out.d _ hf))
      have HSB : Hid (∀ g, (Value.slice ro LR rc).ownBlock = some g → LR ≠ 0 → g < wr.heap.size) := hide (fun g hg hne => by
        have hw : ws2 ≠ [] := fun e => hne (by rw [hLR, e]; rfl)
        obtain ⟨b9, o9, c9, e9, h9, _⟩ := HS2.out.block hw
        cases e9
        cases hg
        exact h9)
      have hws := HN.out.b.size
      clear hcl en hb hrc HOA hLR hlk
      by_cases htx : tx2 = tx
      · subst htx
        have HL2 : Hid ((ts.take (k + 1)).foldl (butV tx2) l1 = lk) := hide (by rw [HFO.out]; unfold butV; rw [if_pos rfl])
        have heq : ∀ W, (binOp .eql 33 (txVN tx2) (txVN tx2)).run Try.prog W = .ok (.bool true) W := fun W => by rw [eql_txN, decide_eq_true rfl]
        go_wp2_with (first | (refine wpList_load_mid rfl 38 _ rfl b (off + k * 7) rfl (sactE ⟨⟨tk2, ⟨tx2, rg2, ws2⟩⟩, .slice ro LR rc⟩) _ HRg.out Try.underlying38 rfl infoSA ?_) | (refine wp_store_box rfl rfl _ _ rfl wr.heap.size rfl (cs' := sactA ⟨⟨tk2, ⟨tx2, rg2, ws2⟩⟩, .slice ro LR rc⟩) rfl HZ.out rfl infoSA (by simp [Value.oneCell']) ?_; intro w5 hb3 hk3; have HX5 := hide hb3; have HN5 : Hid (Since14 D w0 q F lk w5) := hide (HZN.out.keep H hk3 (fun k hf e => HNF.out (by rw [← e]; exact hf)) (fun k e => by omega)); have HK5 := hide hk3; clear hb3 hk3; obtain ⟨y0, y1, y2, y3, y4, y5, y6⟩ := box_act HX5.out; obtain ⟨b0, b1, b2, b3, b4, b5, b6⟩ := box_act (HBX.out.belowI HN5.out.b)))
        have HNX : Hid (Since14 D w0 q F ((ts.take (k + 1)).foldl (butV tx2) l1) w5) := hide (by rw [HL2.out]; exact HN5.out)
        go_roundg g
        case measure => omega
        case rel => exact ⟨k + 1, F, by omega, by first | rfl | go_num, HNX⟩
      · have HL2 : Hid ((ts.take (k + 1)).foldl (butV tx) l1 = actS lk ⟨tk2, ⟨tx2, rg2, ws2⟩⟩) := hide (by rw [HFO.out]; unfold butV; rw [if_neg htx])
        have heq : ∀ W, (binOp .eql 33 (txVN tx2) (txVN tx)).run Try.prog W = .ok (.bool false) W := fun W => by rw [eql_txN, decide_eq_false htx]
        cases tk2 with
        | true =>
          have HL3 : Hid ((ts.take (k + 1)).foldl (butV tx) l1 = dropS lk tx2) := hide (by rw [HL2.out]; rfl)
          go_wp2_with (first | (refine wpList_load_mid rfl 38 _ rfl b (off + k * 7) rfl (sactE ⟨⟨true, ⟨tx2, rg2, ws2⟩⟩, .slice ro LR rc⟩) _ HRg.out Try.underlying38 rfl infoSA ?_) | (refine wp_store_box rfl rfl _ _ rfl wr.heap.size rfl (cs' := sactA ⟨⟨true, ⟨tx2, rg2, ws2⟩⟩, .slice ro LR rc⟩) rfl HZ.out rfl infoSA (by simp [Value.oneCell']) ?_; intro w5 hb3 hk3; have HX5 := hide hb3; have HN5 : Hid (Since14 D w0 q F lk w5) := hide (HZN.out.keep H hk3 (fun k hf e => HNF.out (by rw [← e]; exact hf)) (fun k e => by omega)); have HK5 := hide hk3; clear hb3 hk3; obtain ⟨y0, y1, y2, y3, y4, y5, y6⟩ := box_act HX5.out; obtain ⟨b0, b1, b2, b3, b4, b5, b6⟩ := box_act (HBX.out.belowI HN5.out.b)))
          refine (H.take tx2 HN5.out.d HO2.out.tx).mono ?_
          rintro e w6 ⟨v6, F6, rfl, hd6, hk6, hf6, hv6, _⟩
          have HNX : Hid (Since14 D w0 q F6 ((ts.take (k + 1)).foldl (butV tx) l1) w6) := hide (by rw [HL3.out]; exact HN5.out.took hd6 hk6 hf6)
          clear hd6 hk6 hf6 hv6 y0 y1 y2 y3 y4 y5 y6 b0 b1 b2 b3 b4 b5 b6
          go_wp2_with fail
          go_roundg g
          case measure => omega
          case rel => exact ⟨k + 1, F6, by omega, by first | rfl | go_num, HNX⟩
        | false =>
          have HL3 : Hid ((ts.take (k + 1)).foldl (butV tx) l1 = pS lk ⟨tx2, rg2, ws2⟩) := hide (by rw [HL2.out]; rfl)
          go_wp2_with (first | (refine wpList_load_mid rfl 38 _ rfl b (off + k * 7) rfl (sactE ⟨⟨false, ⟨tx2, rg2, ws2⟩⟩, .slice ro LR rc⟩) _ HRg.out Try.underlying38 rfl infoSA ?_) | (refine wp_store_box rfl rfl _ _ rfl wr.heap.size rfl (cs' := sactA ⟨⟨false, ⟨tx2, rg2, ws2⟩⟩, .slice ro LR rc⟩) rfl HZ.out rfl infoSA (by simp [Value.oneCell']) ?_; intro w5 hb3 hk3; have HX5 := hide hb3; have HN5 : Hid (Since14 D w0 q F lk w5) := hide (HZN.out.keep H hk3 (fun k hf e => HNF.out (by rw [← e]; exact hf)) (fun k e => by omega)); have HK5 := hide hk3; clear hb3 hk3; obtain ⟨y0, y1, y2, y3, y4, y5, y6⟩ := box_act HX5.out; obtain ⟨b0, b1, b2, b3, b4, b5, b6⟩ := box_act (HBX.out.belowI HN5.out.b)))
          have HS5 : Hid (RSrc wrE w5 (.slice ro LR rc) ws2) := hide (by
            by_cases hz9 : LR = 0
            · obtain ⟨ao9, c9, e9, r1, r2, r3, r4⟩ := HZS.out
              refine ⟨ao9, c9, e9, r1, r2, r3, fun hne => absurd hz9 (fun e => hne ?_)⟩
              cases e9
              exact List.eq_nil_of_length_eq_zero hz9
            · exact HZS.out.keep HK5.out (fun g hg e => by have := HSB.out g hg hz9; omega))
          refine (H.put ⟨tx2, rg2, ws2⟩ _ HN5.out.d HO2.out HS5.out).mono ?_
          rintro e w6 ⟨rfl, hd6⟩
          obtain ⟨F6, hs6, _, _⟩ := HN5.out.did hd6
          have HNX : Hid (Since14 D w0 q F6 ((ts.take (k + 1)).foldl (butV tx) l1) w6) := hide (by rw [HL3.out]; exact hs6)
          clear hd6 hs6 y0 y1 y2 y3 y4 y5 y6 b0 b1 b2 b3 b4 b5 b6
          go_wp2_with fail
          go_roundg g
          case measure => omega
          case rel => exact ⟨k + 1, F6, by omega, by first | rfl | go_num, HNX⟩
end
section
open Go.RowKit Go.ChangeShapes Go.WideShapes Go.ChangeAt

namespace stageBack
set_option maxRecDepth 100000 in
theorem lifted (os : Os) (started : os.Started) (H : Type) (enc : TypeId × Value → H) :
    ReturnsInHanded {} Try.checked os 5 .any (Rows.stageBackSpec.pre6 enc Try.prog Try.f5 Rows.stageBackRow.domain false) (Rows.stageBackSpec.post enc Try.prog Try.f5 false true false false) := by
  refine returnsInHanded_of_change_sized (C := Try.checked) own started (by kernel_rfl) Try.func5
    (ChangeSpec.witness6 (enc := enc) (C := Try.checked) false ⟨#[], #[.agg (sactA zeroSV), .slice none 0 0], []⟩ 8 (by kernel_rfl) (by kernel_rfl) (by kernel_rfl) (by kernel_rfl)) ?_
  intro W base args ds gs before hval0 hW hcnd hsz _
  have hval : ∀ (j : Nat) t v, Try.f5.params[j]? = some t → args[j]? = some v → Value.okWide Try.prog W .any base t v := hval0
  have hW' := hW
  obtain ⟨p, q, hA0, hV, rfl, hfz, hnd⟩ := hW
  have hA : DataW.TrodAll enc Try.prog W 0 (fun _ => true) true Try.f5.params.toList args.toList ds p := hA0
  have hsz2 : ∀ (j : Nat) (t : TypeId) (d : DataW H), Try.f5.params.toList[j]? = some t → ds[j]? = some d → ∀ n ∈ d.weights Try.prog t, n ≤ 140737488351232 := fun j t d ht hd n hn => by
    have h1 := List.all_eq_true.1 hsz n (DataW.weights_mem_each (j := j) (t := t) (d := d) (by rw [List.getElem?_append_left (List.getElem?_eq_some_iff.1 ht).1]; exact ht) (by rw [List.getElem?_append_left (List.getElem?_eq_some_iff.1 hd).1]; exact hd) n hn)
    have h2 : n ≤ reachBytes := by simpa using h1
    have h3 : reachBytes = 140737488351232 := rfl
    omega
  rw [Try.params5] at hA hval hsz2
  obtain ⟨v0, vs0, d0, ds0, p0, q0, hargs, rfl, rfl, h0, r0⟩ := trodAll_cons hA
  obtain ⟨v1, vs1, d1, ds1, p1, q1, rfl, rfl, rfl, h1, r1⟩ := trodAll_cons r0
  obtain ⟨rfl, rfl, rfl⟩ := trodAll_nil r1
  obtain rfl : args = #[v0, v1] := by cases args; simp_all
  obtain ⟨rfl, rfl⟩ := trodVars_none hV
  have k0 := h0
  have lt0 : ∀ x ∈ p0, x.block < W.heap.size := by obtain ⟨m, hm⟩ := k0; exact DataW.trod_lt m _ _ _ hm
  obtain ⟨ac0, rfl, ok0⟩ := sact_of_trod (hval 0 38 v0 rfl rfl) h0
  obtain ⟨a1, len1, cap1, rfl⟩ := okWide_slice Try.underlying22 (hval 1 22 v1 rfl rfl)
  have k1 := h1
  have lt1 : ∀ x ∈ p1, x.block < W.heap.size := by obtain ⟨m, hm⟩ := k1; exact DataW.trod_lt m _ _ _ hm
  obtain ⟨xs1, lies1, by1⟩ := sacts_of_trod h1
  clear hA0 hval0
  refine (walkB14 ps_do ac0 _ xs1 W ok0 lies1 by1).mono fun e W' ⟨he, bel⟩ => ?_
  subst he
  exact ⟨_, rfl, _, _, _, [], _, [], hW', trodAll_mk1 (shut_bool Try.underlying4 _), (trodAll_cons_mk (Below.trod laidOut (by kernel_rfl) (of_decide_eq_true (by kernel_rfl)) k0 bel lt0) (trodAll_cons_mk (Below.trod laidOut (by kernel_rfl) (of_decide_eq_true (by kernel_rfl)) k1 bel lt1) trodAll_mk0)), rfl, bel.frame _, fun h => by cases h⟩

theorem over : Rows.stageBackRow.holds Try.pinned (OpenSpec.ofChange Rows.stageBackSpec) :=
  OpenClaim.holds_of_wide 5 Try.f5 rfl rfl rfl rfl rfl rfl rfl ⟨rfl, rfl, rfl, rfl, rfl⟩ rfl rfl rfl rfl rfl (by kernel_rfl) Try.func5 (by kernel_rfl)
    (of_decide_eq_true (by kernel_rfl)) (by unfold Func.isWrapper; first | (rw [if_pos (by decide +kernel)]; kernel_rfl) | (rw [if_neg (by decide +kernel)]; exact ⟨rfl, rfl⟩))
    (fun os started H enc _ => lifted os started H enc)
end stageBack

/-- THE STATEMENT. -/
theorem stageBack_holds : Rows.StageBackSaid := stageBack.over
#print axioms stageBack_holds
end
end Go.Proofs.Ytflphnefelcpoaa
