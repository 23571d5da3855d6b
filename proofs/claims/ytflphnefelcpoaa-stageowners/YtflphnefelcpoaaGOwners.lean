/-
  Proved: in the program's stage no key has two owners, each owner writes it, and a key has an owner just if one that is there writes it, whatever calls came, in whatever order. For every input of the form's own reach (of a script the first 100 calls count; one that is too large is passed by, as the law says). Own work.
-/
import Derived.Test.YtflphnefelcpoaaG21
import Derived.Test.YtflphnefelcpoaaG01
import Derived.SizedLaws
import Derived.ChangeArms
namespace Go.Proofs.Ytflphnefelcpoaa
section
open Go.RowKit Go.Maps Classical

variable {D : World → Nat → (Nat → Prop) → List OnP → Prop}
set_option maxRecDepth 100000 in
set_option maxHeartbeats 6400000 in
theorem walkO14 (H : StageDo D) (v : Value) (fs : List SActV) (w : World) (hL : RSrc sactE w v fs) (hok : ∀ a ∈ fs, SvOk w a) :
    Calls Try.prog 4 #[v] w fun e w' => e = .returned (.bool true) ∧ Below w.heap.size w w' := by
  obtain ⟨ao, cap, rfl, hc, hm⟩ := hL.shape
  obtain ⟨LF, hLF⟩ : ∃ LF, LF = fs.length := ⟨_, rfl⟩
  rw [← hLF]
  have HSF : Hid (RSrc sactE w (.slice ao LF cap) fs) := hide (by rw [hLF]; exact hL)
  have HSO := hide hok
  have CF := hide (fun W (hB : Below w.heap.size w W) => far_any14 (.slice ao LF cap) fs W (HSF.out.below hB) (fun a ha => (HSO.out a ha).below hB))
  have CA := hide (fun W => alive_by14 H W)
  have CSH := hide (fun W => short_any14 (.slice ao LF cap) fs W w HSF.out)
  clear hL hok hLF hc hm
  go_enter Try.func4, Try.ntmps4
  go_wp2_with fail
  refine (H.new w).mono ?_
  rintro e w1 ⟨q, F1, rfl, hD1, hF1, hB1⟩
  have HN1 : Hid (Since14 D w q F1 [] w1) := hide ⟨hD1, hF1, hB1⟩
  clear hD1 hF1 hB1
  go_wp2_with fail
  obtain ⟨RF, hRF⟩ : ∃ RF, RF = farS fs := ⟨_, rfl⟩
  have CF' := hide (CF.out w1 HN1.out.b)
  rw [← hRF] at CF'
  clear hRF CF
  cases RF with
  | true =>
    refine CF'.out.mono ?_
    rintro e w2 ⟨rfl, hB2⟩
    have HB2 := hide (HN1.out.b.trans (hB2.mono HN1.out.b.size))
    clear hB2
    go_wp2_with (go_at_call 9; refine (CA.out _).mono ?_; rintro e w3 ⟨rfl, hB3⟩; have HB3 := hide (HB2.out.trans (hB3.mono HB2.out.size)); clear hB3)
    go_ret
    exact ⟨rfl, HB3.out⟩
  | false =>
  refine CF'.out.mono ?_
  rintro e w2 ⟨rfl, hB2⟩
  replace HN1 := hide (HN1.out.below H hB2)
  clear hB2 CF'
  obtain ⟨ts, hts⟩ : ∃ ts, ts = fs.take 100 := ⟨_, rfl⟩
  have HTO : Hid (∀ a ∈ ts, SvOk w a) := hide (fun a ha => by rw [hts] at ha; exact HSO.out a (List.mem_of_mem_take ha))
  simp only [← hts] at CSH
  obtain ⟨LN, hLN⟩ : ∃ LN, LN = ts.length := ⟨_, rfl⟩
  have hKl : LN ≤ 100 := by rw [hLN, hts, List.length_take]; omega
  have HLN := hide hLN
  clear hts hLN
  go_wp2_with (go_at_call 10; refine (CSH.out _).mono ?_; rintro e Y1 ⟨v1, rfl, rfl, hT⟩; obtain ⟨ta, tc, e1, _, _⟩ := hT.shape; rw [← HLN.out] at e1; subst e1; have HT := hide hT; clear hT)
  go_loopg [37] LN (fun g i wr => ∃ (k : Nat) (F : Nat → Prop), k + g = LN ∧ i = .int .i64 k ∧ Hid (Since14 D w q F ((ts.take k).foldl actV []) wr))
  case atStart => exact ⟨0, F1, by omega, rfl, HN1⟩
  case round =>
    obtain ⟨k, F, hk, rfl, HN⟩ := hrel
    cases gk with
    | zero =>
      obtain rfl : k = LN := by omega
      have hz : ¬ ((k : Int) < (k : Int)) := by omega
      obtain ⟨l, hl⟩ : ∃ l, l = (ts.take k).foldl actV [] := ⟨_, rfl⟩
      rw [← hl] at HN
      have HLA := hide (H.ok HN.out.d)
      have hmm := @run_makeMap Try.prog
      have hMA : Below wr.heap.size wr (wr.alloc (.map #[] 0)) := (Below.refl _ _).alloc (Nat.le_refl _) _
      have HM0 := hide (gmap_made kmTy wr)
      have HNA := hide (HN.out.below H hMA)
      have CL := hide (H.all HNA.out.d)
      obtain ⟨LL, hLL⟩ : ∃ LL, LL = l.length := ⟨_, rfl⟩
      rw [← hLL] at CL
      have HLL := hide hLL
      have hLLm : LL ≤ 64 := by rw [hLL]; exact HLA.out.1.ok.few
      have hwsz := HN.out.b.size
      have HNF : Hid (¬ F wr.heap.size) := hide (fun hf => Nat.lt_irrefl _ (H.lt HN.out.d _ hf))
      clear hl hMA hLL
      go_wp2_with (go_at_call 19; refine CL.out.mono ?_; rintro e wA ⟨vA, rfl, hoA, hBA⟩; have HNB := hide (HNA.out.below H hBA); have HMA := hide (HM0.out.below hBA); have HSA : Hid (RSrc txOn wA vA l) := hide (src_txs (by rw [← HLL.out]; exact hoA)); have HGA : Hid (∀ g, vA.ownBlock = some g → g ≠ wr.heap.size) := hide (fun g hg e => by have := (hoA.lt g hg).1; simp at this; omega); obtain ⟨ra, rc, eA, _, _⟩ := HSA.out.shape; rw [← HLL.out] at eA; subst eA; have HSZ := hBA.size; simp at HSZ; clear hoA hBA)
      obtain ⟨bm, hbm⟩ : ∃ bm, bm = wr.heap.size := ⟨_, rfl⟩
      rw [← hbm] at HMA HGA HNF ⊢
      have HBM : Hid (w.heap.size ≤ bm ∧ bm < wA.heap.size) := hide (by rw [hbm]; omega)
      clear hbm HN HNA HM0 CL HSZ hwsz
      have HKN : Hid ((keysS l).length < maxLen) := hide (by
        have e1 := keys_len14 (fun x hx => (HLA.out.1.may x hx).1)
        have e2 := HLA.out.1.ok.few
        unfold maxLen
        omega)
      have HNK : Hid (∀ W, KeepBut (fun k => k = bm) wA W → Since14 D w q F l W) := hide (fun W hW => HNB.out.keep H hW (fun k hf e => HNF.out (by rw [← e]; exact hf)) (fun k e => by rw [e]; exact HBM.out.1))
      have HSK : Hid (∀ W, KeepBut (fun k => k = bm) wA W → RSrc txOn W (.slice ra LL rc) l) := hide (fun W hW => HSA.out.keep hW (fun g hg => HGA.out g hg))
      have HM1 : Hid (KMap wA bm (keysS (l.take 0)) 0) := hide (HMA.out.as (fun k => by simp [metG, keysS]))
      clear HMA HSA HGA HNB
      go_loopg [60] LL (fun g i wr => ∃ (i0 n : Nat), i0 + g = LL ∧ i = .int .i64 i0 ∧ Hid (KeepBut (fun k => k = bm) wA wr) ∧ Hid (KMap wr bm (keysS (l.take i0)) n))
      case atStart => exact ⟨0, 0, by omega, rfl, hide (KeepBut.refl _ _), HM1⟩
      case round =>
        obtain ⟨i0, n, hi0, rfl, HKW, HKM⟩ := hrel
        have HNW := hide (HNK.out wr HKW.out)
        cases gk with
        | zero =>
          obtain rfl : i0 = LL := by omega
          have hz2 : ¬ ((i0 : Int) < (i0 : Int)) := by omega
          have HE : Hid (l.take i0 = l) := hide (by rw [HLL.out]; exact List.take_length)
          rw [HE.out] at HKM
          go_wp2_with (go_at_call 10; refine (CSH.out _).mono ?_; rintro e Y2 ⟨v2, rfl, rfl, hT⟩; obtain ⟨ta2, tc2, e1, _, _⟩ := hT.shape; rw [← HLN.out] at e1; subst e1; have HT2 := hide hT; clear hT)
          go_loopg [112] k (fun g i wr => ∃ (m : Nat), m + g = k ∧ i = .int .i64 m ∧ Hid (Below Y2.heap.size Y2 wr))
          case atStart => exact ⟨0, by omega, rfl, hide (Below.refl _ _)⟩
          case round =>
            obtain ⟨m, hmg, rfl, HBW⟩ := hrel
            have HNX := hide (HNW.out.below H HBW.out)
            cases gk with
            | zero =>
              obtain rfl : m = k := by omega
              have hz3 : ¬ ((m : Int) < (m : Int)) := by omega
              go_wp2_with (go_at_call 9; refine (CA.out _).mono ?_; rintro e w3 ⟨rfl, hB3⟩; have HB3 := hide (HNX.out.b.trans (hB3.mono HNX.out.b.size)); clear hB3)
              go_ret
              exact ⟨rfl, HB3.out⟩
            | succ g =>
              have hz3 : (m : Int) < (k : Int) := by omega
              have hkn : m < ts.length := by rw [← HLN.out]; omega
              obtain ⟨en, b, off, rfl, hb, hcl⟩ := (HT2.out.below HNX.out.b).at recSA.len hkn
              have HRg : Hid (wr.rangeAt b (off + m * 7) (sactE ts[m])) := hide (fun j v hv => hcl j v hv)
              have HOA := hide (HTO.out _ (List.getElem_mem hkn))
              generalize ts[m] = a at *
              obtain ⟨⟨tk2, ⟨tx2, rg2, ws2⟩⟩, pv⟩ := a
              obtain ⟨ro, rc2, e1, hrc, hrm⟩ := HOA.out.src.shape
              dsimp only at e1
              subst e1
              obtain ⟨LR, hLR⟩ : ∃ LR, LR = ws2.length := ⟨_, rfl⟩
              have HS2 : Hid (RSrc wrE w (.slice ro LR rc2) ws2) := hide (by rw [hLR]; exact HOA.out.src)
              have HO2 : Hid (OnOk ⟨tx2, rg2, ws2⟩) := hide HOA.out.on
              rw [← hLR] at HRg
              have HLR := hide hLR
              have hLRm : LR ≤ 9223372036854775807 := by unfold maxLen at hrm; dsimp only at hrc; omega
              have HZ := hide (box_new wr (sactA zeroSV) 38)
              have HZB : Hid (Below Y2.heap.size Y2 (wr.alloc (.cells (sactA zeroSV) 38))) := hide (HBW.out.alloc HBW.out.size _)
              have hws := HBW.out.size
              clear hcl en hb hrc HOA hLR hrm
              go_wp2_with (first | (refine wpList_load_mid rfl 38 _ rfl b (off + m * 7) rfl (sactE ⟨⟨tk2, ⟨tx2, rg2, ws2⟩⟩, .slice ro LR rc2⟩) _ HRg.out Try.underlying38 rfl infoSA ?_) | (refine wp_store_box rfl rfl _ _ rfl wr.heap.size rfl (cs' := sactA ⟨⟨tk2, ⟨tx2, rg2, ws2⟩⟩, .slice ro LR rc2⟩) rfl HZ.out rfl infoSA (by simp [Value.oneCell']) ?_; intro w5 hb3 hk3; have y6 := (box_act hb3).2.2.2.2.2.2; have HB5 : Hid (Below Y2.heap.size Y2 w5) := hide (HZB.out.trans (hk3.below HZB.out.size (fun k hk => by omega))); clear hb3 hk3))
              clear y6 HZ HZB HRg
              go_loopg [119] LR (fun g i wr => ∃ (j : Nat), j + g = LR ∧ i = .int .i64 j ∧ Hid (Below Y2.heap.size Y2 wr))
              case atStart => exact ⟨0, by omega, rfl, HB5⟩
              case round =>
                obtain ⟨j, hj, rfl, HBV⟩ := hrel
                cases gk with
                | zero =>
                  obtain rfl : j = LR := by omega
                  have hz4 : ¬ ((j : Int) < (j : Int)) := by omega
                  go_wp2_with fail
                  go_roundg g
                  case measure => omega
                  case rel => exact ⟨m + 1, by omega, by first | rfl | go_num, HBV⟩
                | succ g2 =>
                  have hz4 : (j : Int) < (LR : Int) := by omega
                  have hjn : j < ws2.length := by rw [← HLR.out]; omega
                  have HNV := hide (HNW.out.below H HBV.out)
                  obtain ⟨en, b, off, rfl, hb, hcl⟩ := (HS2.out.below HNV.out.b).at recWR.len hjn
                  have HRg : Hid (wr.rangeAt b (off + j * 21) (wrE ws2[j])) := hide (fun j v hv => hcl j v hv)
                  have HKO := hide (HO2.out.wr _ (List.getElem_mem hjn)).1
                  generalize ws2[j] = y at *
                  have HZ := hide (box_new wr (wrA zeroWr) 59)
                  have HZB : Hid (Below Y2.heap.size Y2 (wr.alloc (.cells (wrA zeroWr) 59))) := hide (HBV.out.alloc HBV.out.size _)
                  have hws := HBV.out.size
                  clear hcl en hb
                  go_wp2_with (first | (refine wpList_load_mid rfl 59 _ rfl b (off + j * 21) rfl (wrE y) _ HRg.out Try.underlying59 rfl infoWrite ?_) | (refine wp_store_box rfl rfl _ _ rfl wr.heap.size rfl (cs' := wrA y) rfl HZ.out rfl infoWrite (wrA_one14 y) ?_; intro w6 hb3 hk3; have HX6 := hide hb3; have HB6 : Hid (Below Y2.heap.size Y2 w6) := hide (HZB.out.trans (hk3.below HZB.out.size (fun k hk => by omega))); obtain ⟨x0, x1, x2, x3, x4, x5, x6, x7⟩ := box_wr14 HX6.out; clear hb3 hk3))
                  have CO := hide (H.owner y.key (HNW.out.below H HB6.out).d HKO.out)
                  obtain ⟨B, hB⟩ : ∃ B, B = decide (y.key ∈ keysS l) := ⟨_, rfl⟩
                  rw [own_keys HLA.out.1.ok y.key, ← hB] at CO
                  obtain ⟨OW, hOW⟩ : ∃ OW, OW = (ownS l y.key).getD (0, 0, 0) := ⟨_, rfl⟩
                  rw [← hOW] at CO
                  refine CO.out.mono ?_
                  rintro e w7 ⟨rfl, hB7⟩
                  have HX7 := hide (HX6.out.belowI hB7)
                  have HB7 := hide (HB6.out.trans (hB7.mono HB6.out.size))
                  have h67 := HB7.out.size
                  have h7l := HX7.out.lt
                  have hA7 : Below w7.heap.size w7 (w7.alloc (.cells #[.int .u8 0, .int .u32 0, .int .u32 0] 33)) := (Below.refl _ _).alloc (Nat.le_refl _) _
                  have HZ7 := hide (box_new w7 #[.int .u8 0, .int .u32 0, .int .u32 0] 33)
                  have HZX7 := hide (HX7.out.belowI hA7)
                  have HZB7 : Hid (Below Y2.heap.size Y2 (w7.alloc (.cells #[.int .u8 0, .int .u32 0, .int .u32 0] 33))) := hide (HB7.out.alloc HB7.out.size _)
                  have HLK : Hid (∀ W, Below Y2.heap.size Y2 W → (Instr.lookup 62 (.map (some bm)) (kyV y.key) false).run Try.prog W = .ok (.bool B) W) := hide (fun W hW => by
                    have := (HKM.out.below hW).look1 kmTy ⟨y.key, HKO.out⟩
                    rw [this]
                    show Result.ok (Value.bool ((if y.key ∈ keysS l then some true else none : Option Bool).getD false)) W = _
                    rw [hB]
                    by_cases e : y.key ∈ keysS l
                    · rw [if_pos e, decide_eq_true e]; rfl
                    · rw [if_neg e, decide_eq_false e]; rfl)
                  clear x0 x1 x2 x3 x4 x5 x6 x7 hB7 CO hB hOW hA7
                  go_wp2_with (refine wp_store_box rfl rfl _ _ rfl w7.heap.size rfl (cs' := #[.int .u8 (OW.1 : Int), .int .u32 (OW.2.1 : Int), .int .u32 (OW.2.2 : Int)]) rfl HZ7.out rfl info14Tx (by simp [Value.oneCell']) ?_; intro w8 hb8 hk8; have HB8 : Hid (Below Y2.heap.size Y2 w8) := hide (HZB7.out.trans (hk8.below HZB7.out.size (fun k hk => by omega))); obtain ⟨x0, x1, x2, x3, x4, x5, x6, x7⟩ := box_wr14 (HZX7.out.keep hk8 (by omega)); have hlk := HLK.out w8 HB8.out; clear hb8 hk8)
                  go_roundg g2
                  case measure => omega
                  case rel => exact ⟨j + 1, by omega, by first | rfl | go_num, HB8⟩
        | succ g =>
          have hz2 : (i0 : Int) < (LL : Int) := by omega
          have hin : i0 < l.length := by rw [← HLL.out]; omega
          obtain ⟨en, b, off, rfl, hb, hcl⟩ := (HSK.out wr HKW.out).at (K := 3) (fun _ => rfl) hin
          have HRg : Hid (wr.rangeAt b (off + i0 * 3) (txE l[i0].tx)) := hide (fun j v hv => hcl j v hv)
          have HXM := hide (HLA.out.2 _ (List.getElem_mem hin))
          have HXL : Hid (l[i0] ∈ l) := hide (List.getElem_mem hin)
          have HKT := hide (keys_take l hin)
          have HKF : Hid (∀ j, (hj : j < (l[i0]).wr.length) → ((l[i0]).wr[j]).key ∉ keysS (l.take i0) ++ ((l[i0]).wr.take j).map WrP.key) := hide (fun j hj => key_fresh HLA.out.1 hin hj)
          have HKP : Hid (∃ r, keysS l = keysS (l.take (i0 + 1)) ++ r) := hide (keys_sub l (i0 + 1))
          generalize l[i0] = x at *
          have hon := on_of HLA.out.1.ok HXL.out
          have HXW : Hid (tW l x.tx = x.wr ∧ (onS l x.tx).isSome = true) := hide (by unfold tW; rw [hon]; exact ⟨rfl, rfl⟩)
          have HNE := hide (HLA.out.1.ok.some x HXL.out)
          obtain ⟨tx, rg, ws⟩ := x
          dsimp only at HXW HNE HKF HKT
          have HZ := hide (box_new wr #[.int .u8 0, .int .u32 0, .int .u32 0] 33)
          have HZK : Hid (KeepBut (fun k => k = bm) wA (wr.alloc (.cells #[.int .u8 0, .int .u32 0, .int .u32 0] 33))) := hide (HKW.out.alloc _)
          have HZM := hide (HKM.out.below ((Below.refl wr.heap.size wr).alloc (Nat.le_refl _) (.cells #[.int .u8 0, .int .u32 0, .int .u32 0] 33)))
          have hws := HKW.out.size
          have hbml := HBM.out.2
          clear hcl en hb hon
          go_wp2_with (first | (refine wpList_load_mid rfl 33 _ rfl b (off + i0 * 3) rfl (txE tx) _ HRg.out Try.underlying33 rfl info14Tx ?_) | (refine wp_store_box rfl rfl _ _ rfl wr.heap.size rfl (cs' := #[.int .u8 (tx.1 : Int), .int .u32 (tx.2.1 : Int), .int .u32 (tx.2.2 : Int)]) rfl HZ.out rfl info14Tx (by simp [Value.oneCell']) ?_; intro w5 hb5 hk5; have HX5 := hide hb5; have HK5 : Hid (KeepBut (fun k => k = bm) wA w5) := hide (HZK.out.trans hk5 (fun k hk e => by omega)); have HM5 := hide (HZM.out.keep hk5 (by omega)); clear hb5 hk5) | (refine wp_load_box rfl _ rfl wr.heap.size rfl HX5.out Try.underlying33 rfl info14Tx ?_))
          have CW := hide (H.writes tx (HNK.out w5 HK5.out).d HXM.out.tx)
          rw [HXW.out.1, HXW.out.2] at CW
          obtain ⟨RG, hRG⟩ : ∃ RG, RG = rgOf l tx := ⟨_, rfl⟩
          obtain ⟨LW, hLW⟩ : ∃ LW, LW = ws.length := ⟨_, rfl⟩
          rw [← hRG, ← hLW] at CW
          have HLW := hide hLW
          have hne : ((LW : Int) == 0) = false := by
            have : LW ≠ 0 := fun e => HNE.out (List.eq_nil_of_length_eq_zero (by rw [← hLW]; exact e))
            simpa using this
          refine CW.out.mono ?_
          rintro e w6 ⟨v6, rfl, ho6, hB6⟩
          have HS6 : Hid (RSrc wrE w6 v6 ws) := hide (src_row14 (by rw [← HLW.out]; exact ho6))
          have HG6 : Hid (∀ g, v6.ownBlock = some g → g ≠ bm) := hide (fun g hg e => by have := (ho6.lt g hg).1; have := HK5.out.size; omega)
          obtain ⟨sa, sc, e6, hsc, hsm⟩ := HS6.out.shape
          rw [← HLW.out] at e6 hsc
          subst e6
          have HX6 := hide (HX5.out.belowI hB6)
          have HK6 : Hid (KeepBut (fun k => k = bm) wA w6) := hide (HK5.out.trans (KeepBut.of_below _ hB6) (fun _ _ e => e))
          have HM6 := hide (HM5.out.below hB6)
          have HZ6 := hide (box_new w6 #[.int .u32 0, .int .u32 0] 35)
          have hA6 : Below w6.heap.size w6 (w6.alloc (.cells #[.int .u32 0, .int .u32 0] 35)) := (Below.refl _ _).alloc (Nat.le_refl _) _
          have HZX6 := hide (HX6.out.belowI hA6)
          have HZS6 := hide (HS6.out.below hA6)
          have HZK6 : Hid (KeepBut (fun k => k = bm) wA (w6.alloc (.cells #[.int .u32 0, .int .u32 0] 35))) := hide (HK6.out.alloc _)
          have HZM6 := hide (HM6.out.below hA6)
          have h6s := HK6.out.size
          have h6x := HX6.out.lt
          have HSG : Hid (∀ g, (Value.slice sa LW sc).ownBlock = some g → g < w6.heap.size) := hide (fun g hg => (ho6.lt g hg).2)
          have hLWm : LW ≤ 9223372036854775807 := by unfold maxLen at hsm; omega
          clear hB6 ho6 hA6 hRG hLW CW HZ HZK HZM HRg hsm hsc
          go_wp2_with (refine wp_store_box rfl rfl _ _ rfl w6.heap.size rfl (cs' := #[.int .u32 (RG.1 : Int), .int .u32 (RG.2 : Int)]) rfl HZ6.out rfl info14Rg (by simp [Value.oneCell']) ?_; intro w7 hb7 hk7; have HX7 := hide (HZX6.out.keep hk7 (by omega)); have HK7 : Hid (KeepBut (fun k => k = bm) wA w7) := hide (HZK6.out.trans hk7 (fun k hk e => by omega)); have HM7 := hide (HZM6.out.keep hk7 (by omega)); have HS7 := hide (HZS6.out.keep hk7 (fun g hg e => by have := HSG.out g hg; omega)); clear hb7 hk7)
          have HT7 : Hid (KMap w7 bm (keysS (l.take i0) ++ (ws.take 0).map WrP.key) n) := hide (HM7.out.as (fun k => by simp [metG]))
          have HSK7 : Hid (∀ W, KeepBut (fun k => k = bm) w7 W → RSrc wrE W (.slice sa LW sc) ws ∧ Box W wr.heap.size #[.int .u8 (tx.1 : Int), .int .u32 (tx.2.1 : Int), .int .u32 (tx.2.2 : Int)] 33 ∧ KeepBut (fun k => k = bm) wA W) := hide (fun W hW => ⟨HS7.out.keep hW (fun g hg => HG6.out g hg), HX7.out.keep hW (by omega), HK7.out.trans hW (fun _ _ e => e)⟩)
          obtain ⟨b8, hb8⟩ : ∃ b8, b8 = wr.heap.size := ⟨_, rfl⟩
          rw [← hb8] at HSK7 ⊢
          have HB8 : Hid (b8 ≠ bm) := hide (by rw [hb8]; omega)
          have h7s := HK7.out.size
          clear HM7 HS7 HX7 hb8 HZX6 HZS6 HZK6 HZM6 HX6 HX5 HM5 HM6 HS6 HG6 HSG
          go_loopg [80] LW (fun g i wr => ∃ (j n : Nat), j + g = LW ∧ i = .int .i64 j ∧ Hid (KeepBut (fun k => k = bm) w7 wr) ∧ Hid (KMap wr bm (keysS (l.take i0) ++ (ws.take j).map WrP.key) n))
          case atStart => exact ⟨0, n, by omega, rfl, hide (KeepBut.refl _ _), HT7⟩
          case round =>
            obtain ⟨j, n2, hj, rfl, HKV, HKT2⟩ := hrel
            obtain ⟨hsV, hxV, hkV⟩ := HSK7.out wr HKV.out
            have HKA := hide hkV
            cases gk with
            | zero =>
              obtain rfl : j = LW := by omega
              have hz3 : ¬ ((j : Int) < (j : Int)) := by omega
              have HE : Hid (ws.take j = ws) := hide (by rw [HLW.out]; exact List.take_length)
              rw [HE.out, ← HKT.out] at HKT2
              clear hsV hxV hkV
              go_wp2_with fail
              go_roundg g
              case measure => omega
              case rel => exact ⟨i0 + 1, n2, by omega, by first | rfl | go_num, HKA, HKT2⟩
            | succ g2 =>
              have hz3 : (j : Int) < (LW : Int) := by omega
              have hjn : j < ws.length := by rw [← HLW.out]; omega
              obtain ⟨en, b, off, rfl, hb, hcl⟩ := hsV.at recWR.len hjn
              have HRg : Hid (wr.rangeAt b (off + j * 21) (wrE ws[j])) := hide (fun j v hv => hcl j v hv)
              have HKO := hide (HXM.out.wr _ (List.getElem_mem hjn)).1
              have HFR := hide (HKF.out j hjn)
              have HOW := hide (own_of HLA.out.1.ok HXL.out (List.getElem_mem hjn))
              have HTS : Hid ((ws.take (j + 1)).map WrP.key = (ws.take j).map WrP.key ++ [(ws[j]).key]) := hide (by rw [List.take_succ_eq_append_getElem hjn, List.map_append]; rfl)
              have HBD : Hid (n2 < maxLen) := hide (by
                have e1 := met_few HKT2.out
                obtain ⟨r, hr⟩ := HKP.out
                have e2 := HKN.out
                rw [hr, HKT.out] at e2
                rw [List.length_append, List.length_append, List.length_map] at e2
                rw [List.length_append, List.length_map, List.length_take] at e1
                omega)
              generalize ws[j] = y at *
              dsimp only at HOW
              have HZ := hide (box_new wr (wrA zeroWr) 59)
              have hA : Below wr.heap.size wr (wr.alloc (.cells (wrA zeroWr) 59)) := (Below.refl _ _).alloc (Nat.le_refl _) _
              have HZK : Hid (KeepBut (fun k => k = bm) w7 (wr.alloc (.cells (wrA zeroWr) 59))) := hide (HKV.out.alloc _)
              have HZM := hide (HKT2.out.below hA)
              have HZX := hide (hxV.belowI hA)
              have hws2 := HKV.out.size
              have hxl := hxV.lt
              clear hcl en hb hsV hxV hkV hA
              go_wp2_with (first | (refine wpList_load_mid rfl 59 _ rfl b (off + j * 21) rfl (wrE y) _ HRg.out Try.underlying59 rfl infoWrite ?_) | (refine wp_store_box rfl rfl _ _ rfl wr.heap.size rfl (cs' := wrA y) rfl HZ.out rfl infoWrite (wrA_one14 y) ?_; intro w8 hb3 hk3; have HY8 := hide hb3; have HK8 : Hid (KeepBut (fun k => k = bm) w7 w8) := hide (HZK.out.trans hk3 (fun k hk e => by omega)); have HM8 := hide (HZM.out.keep hk3 (by omega)); have HX8 := hide (HZX.out.keep hk3 (by omega)); obtain ⟨x0, x1, x2, x3, x4, x5, x6, x7⟩ := box_wr14 HY8.out; clear hb3 hk3))
              have CO : Hid (Calls Try.prog 21 #[.pointer (some ⟨q, 0, none⟩), .agg (eightA y.key)] w8 fun e w' => e = .returned (.tuple #[.agg #[.int .u8 (tx.1 : Int), .int .u32 (tx.2.1 : Int), .int .u32 (tx.2.2 : Int)], .bool true]) ∧ Below w8.heap.size w8 w') := hide (by
                have h9 := H.owner y.key (HNK.out w8 (HSK7.out w8 HK8.out).2.2).d HKO.out
                rw [HOW.out] at h9
                exact h9)
              refine CO.out.mono ?_
              rintro e w9 ⟨rfl, hB9⟩
              have HY9 := hide (HY8.out.belowI hB9)
              have HX9 := hide (HX8.out.belowI hB9)
              have HM9 := hide (HM8.out.below hB9)
              have HK9 : Hid (KeepBut (fun k => k = bm) w7 w9) := hide (HK8.out.trans (KeepBut.of_below _ hB9) (fun _ _ e => e))
              have h9s := HK9.out.size
              have h9y := HY9.out.lt
              have h9x := HX9.out.lt
              have hA9 : Below w9.heap.size w9 (w9.alloc (.cells #[.int .u8 0, .int .u32 0, .int .u32 0] 33)) := (Below.refl _ _).alloc (Nat.le_refl _) _
              have HZ9 := hide (box_new w9 #[.int .u8 0, .int .u32 0, .int .u32 0] 33)
              have HZY9 := hide (HY9.out.belowI hA9)
              have HZX9 := hide (HX9.out.belowI hA9)
              have HZM9 := hide (HM9.out.below hA9)
              have HZK9 : Hid (KeepBut (fun k => k = bm) w7 (w9.alloc (.cells #[.int .u8 0, .int .u32 0, .int .u32 0] 33))) := hide (HK9.out.alloc _)
              have hnq : ∀ W, (binOp .neq 33 (txVN tx) (txVN tx)).run Try.prog W = .ok (.bool false) W := fun W => by rw [neq_txN, decide_eq_true rfl]; rfl
              have HLK : Hid (∀ W, KMap W bm (keysS (l.take i0) ++ (ws.take j).map WrP.key) n2 → (Instr.lookup 62 (.map (some bm)) (kyV y.key) false).run Try.prog W = .ok (.bool false) W) := hide (fun W hW => by
                rw [hW.look1 kmTy ⟨y.key, HKO.out⟩]
                show Result.ok (Value.bool ((if y.key ∈ keysS (l.take i0) ++ (ws.take j).map WrP.key then some true else none : Option Bool).getD false)) W = _
                rw [if_neg HFR.out]
                rfl)
              have HARM : Hid (∀ w10, KeepBut (fun k => k = w9.heap.size) (w9.alloc (.cells #[.int .u8 0, .int .u32 0, .int .u32 0] 33)) w10 → Box w10 b8 #[.int .u8 (tx.1 : Int), .int .u32 (tx.2.1 : Int), .int .u32 (tx.2.2 : Int)] 33 ∧ Box w10 wr.heap.size (wrA y) 59 ∧ (Instr.lookup 62 (.map (some bm)) (kyV y.key) false).run Try.prog w10 = .ok (.bool false) w10 ∧ ∃ w11 n', (Instr.mapUpdate 62 (.map (some bm)) (kyV y.key) (.bool true)).run Try.prog w10 = .ok () w11 ∧ KMap w11 bm (keysS (l.take i0) ++ (ws.take (j + 1)).map WrP.key) n' ∧ KeepBut (fun k => k = bm) w7 w11) := hide (fun w10 hk10 => by
                have hm10 := HZM9.out.keep hk10 (by omega)
                have hk710 : KeepBut (fun k => k = bm) w7 w10 := HZK9.out.trans hk10 (fun k hk e => by omega)
                obtain ⟨w11, hrun, hm11, hk11⟩ := hm10.put kmTy HBD.out ⟨y.key, HKO.out⟩ true
                have hm := met_put HKO.out hm11 (if_pos rfl) (fun k' e => if_neg e)
                rw [List.append_assoc, ← HTS.out] at hm
                exact ⟨HZX9.out.keep hk10 (by omega), HZY9.out.keep hk10 (by omega), HLK.out w10 hm10, w11, _, hrun, hm, hk710.trans hk11 (fun _ _ e => e)⟩)
              clear x0 x1 x2 x3 x4 x5 x6 x7 hB9 CO hA9 HY8 HX8 HM8 HZM9 HZK9 HZX9 HZY9 HLK
              go_wp2_with (refine wp_store_box rfl rfl _ _ rfl w9.heap.size rfl (cs' := #[.int .u8 (tx.1 : Int), .int .u32 (tx.2.1 : Int), .int .u32 (tx.2.2 : Int)]) rfl HZ9.out rfl info14Tx (by simp [Value.oneCell']) ?_; intro w10 hb10 hk10; have HO10 := hide hb10; obtain ⟨hx10, hy10, hlk, w11, n', hrun, hm11, hk11⟩ := HARM.out w10 hk10; have HX10 := hide hx10; have HM11 := hide hm11; have HK11 := hide hk11; obtain ⟨x0, x1, x2, x3, x4, x5, x6, x7⟩ := box_wr14 hy10; obtain ⟨o0, o1, o2⟩ := HO10.out.three; obtain ⟨p0, p1, p2⟩ := HX10.out.three; clear hb10 hk10 hx10 hy10 hm11 hk11)
              go_roundg g2
              case measure => omega
              case rel => exact ⟨j + 1, n', by omega, by first | rfl | go_num, HK11, HM11⟩
    | succ g =>
      have hz : (k : Int) < (LN : Int) := by omega
      have hkn : k < ts.length := by rw [← HLN.out]; omega
      obtain ⟨en, b, off, rfl, hb, hcl⟩ := (HT.out.below HN.out.b).at recSA.len hkn
      have HRg : Hid (wr.rangeAt b (off + k * 7) (sactE ts[k])) := hide (fun j v hv => hcl j v hv)
      have HOA := hide ((HTO.out _ (List.getElem_mem hkn)).below HN.out.b)
      have HFO := hide (take_fold actV [] ts hkn)
      generalize ts[k] = a at *
      obtain ⟨⟨tk2, ⟨tx2, rg2, ws2⟩⟩, pv⟩ := a
      obtain ⟨ro, rc, e1, hrc, _⟩ := HOA.out.src.shape
      dsimp only at e1
      subst e1
      obtain ⟨LR, hLR⟩ : ∃ LR, LR = ws2.length := ⟨_, rfl⟩
      have HS2 : Hid (RSrc wrE wr (.slice ro LR rc) ws2) := hide (by rw [hLR]; exact HOA.out.src)
      have HO2 : Hid (OnOk ⟨tx2, rg2, ws2⟩) := hide HOA.out.on
      rw [← hLR] at HRg HFO
      obtain ⟨lk, hlk⟩ : ∃ lk, lk = (ts.take k).foldl actV [] := ⟨_, rfl⟩
      rw [← hlk] at HN HFO
      have HZ := hide (box_new wr (sactA zeroSV) 38)
      have HZN := hide (HN.out.below H ((Below.refl wr.heap.size wr).alloc (Nat.le_refl _) (.cells (sactA zeroSV) 38)))
      have HZS := hide (HS2.out.below ((Below.refl wr.heap.size wr).alloc (Nat.le_refl _) (.cells (sactA zeroSV) 38)))
      have HNF : Hid (¬ F wr.heap.size) := hide (fun hf => Nat.lt_irrefl _ (H.lt HN.out.d _ hf))
      have HSB : Hid (∀ g, (Value.slice ro LR rc).ownBlock = some g → LR ≠ 0 → g < wr.heap.size) := hide (fun g hg hne => by
        have hw : ws2 ≠ [] := fun e => hne (by rw [hLR, e]; rfl)
        obtain ⟨b9, o9, c9, e9, h9, _⟩ := HS2.out.block hw
        cases e9
        cases hg
        exact h9)
      have hws := HN.out.b.size
      clear hcl en hb hrc HOA hLR hlk
      cases tk2 with
      | true =>
        have HL3 : Hid ((ts.take (k + 1)).foldl actV [] = dropS lk tx2) := hide (by rw [HFO.out]; rfl)
        go_wp2_with (first | (refine wpList_load_mid rfl 38 _ rfl b (off + k * 7) rfl (sactE ⟨⟨true, ⟨tx2, rg2, ws2⟩⟩, .slice ro LR rc⟩) _ HRg.out Try.underlying38 rfl infoSA ?_) | (refine wp_store_box rfl rfl _ _ rfl wr.heap.size rfl (cs' := sactA ⟨⟨true, ⟨tx2, rg2, ws2⟩⟩, .slice ro LR rc⟩) rfl HZ.out rfl infoSA (by simp [Value.oneCell']) ?_; intro w5 hb3 hk3; have HX5 := hide hb3; have HN5 : Hid (Since14 D w q F lk w5) := hide (HZN.out.keep H hk3 (fun k hf e => HNF.out (by rw [← e]; exact hf)) (fun k e => by omega)); have HK5 := hide hk3; clear hb3 hk3; obtain ⟨y0, y1, y2, y3, y4, y5, y6⟩ := box_act HX5.out))
        refine (H.take tx2 HN5.out.d HO2.out.tx).mono ?_
        rintro e w6 ⟨v6, F6, rfl, hd6, hk6, hf6, hv6, _⟩
        have HNX : Hid (Since14 D w q F6 ((ts.take (k + 1)).foldl actV []) w6) := hide (by rw [HL3.out]; exact HN5.out.took hd6 hk6 hf6)
        clear hd6 hk6 hf6 hv6 y0 y1 y2 y3 y4 y5 y6
        go_wp2_with fail
        go_roundg g
        case measure => omega
        case rel => exact ⟨k + 1, F6, by omega, by first | rfl | go_num, HNX⟩
      | false =>
        have HL3 : Hid ((ts.take (k + 1)).foldl actV [] = pS lk ⟨tx2, rg2, ws2⟩) := hide (by rw [HFO.out]; rfl)
        go_wp2_with (first | (refine wpList_load_mid rfl 38 _ rfl b (off + k * 7) rfl (sactE ⟨⟨false, ⟨tx2, rg2, ws2⟩⟩, .slice ro LR rc⟩) _ HRg.out Try.underlying38 rfl infoSA ?_) | (refine wp_store_box rfl rfl _ _ rfl wr.heap.size rfl (cs' := sactA ⟨⟨false, ⟨tx2, rg2, ws2⟩⟩, .slice ro LR rc⟩) rfl HZ.out rfl infoSA (by simp [Value.oneCell']) ?_; intro w5 hb3 hk3; have HX5 := hide hb3; have HN5 : Hid (Since14 D w q F lk w5) := hide (HZN.out.keep H hk3 (fun k hf e => HNF.out (by rw [← e]; exact hf)) (fun k e => by omega)); have HK5 := hide hk3; clear hb3 hk3; obtain ⟨y0, y1, y2, y3, y4, y5, y6⟩ := box_act HX5.out))
        have HS5 : Hid (RSrc wrE w5 (.slice ro LR rc) ws2) := hide (by
          by_cases hz9 : LR = 0
          · obtain ⟨ao9, c9, e9, r1, r2, r3, r4⟩ := HZS.out
            refine ⟨ao9, c9, e9, r1, r2, r3, fun hne => absurd hz9 (fun e => hne ?_)⟩
            cases e9
            exact List.eq_nil_of_length_eq_zero hz9
          · exact HZS.out.keep HK5.out (fun g hg e => by have := HSB.out g hg hz9; omega))
        refine (H.put ⟨tx2, rg2, ws2⟩ _ HN5.out.d HO2.out HS5.out).mono ?_
        rintro e w6 ⟨rfl, hd6⟩
        obtain ⟨F6, hs6, _, _⟩ := HN5.out.did hd6
        have HNX : Hid (Since14 D w q F6 ((ts.take (k + 1)).foldl actV []) w6) := hide (by rw [HL3.out]; exact hs6)
        clear hd6 hs6 y0 y1 y2 y3 y4 y5 y6
        go_wp2_with fail
        go_roundg g
        case measure => omega
        case rel => exact ⟨k + 1, F6, by omega, by first | rfl | go_num, HNX⟩
end
section
open Go.RowKit Go.ChangeShapes Go.WideShapes Go.ChangeAt

namespace stageOwners
set_option maxRecDepth 100000 in
theorem lifted (os : Os) (started : os.Started) (H : Type) (enc : TypeId × Value → H) :
    ReturnsInHanded {} Try.checked os 4 .any (Rows.stageOwnersSpec.pre6 enc Try.prog Try.f4 Rows.stageOwnersRow.domain false) (Rows.stageOwnersSpec.post enc Try.prog Try.f4 false true false false) := by
  refine returnsInHanded_of_change_sized (C := Try.checked) own started (by kernel_rfl) Try.func4
    (ChangeSpec.witness6 (enc := enc) (C := Try.checked) false ⟨#[], #[.slice none 0 0], []⟩ 8 (by kernel_rfl) (by kernel_rfl) (by kernel_rfl) (by kernel_rfl)) ?_
  intro W base args ds gs before hval0 hW hcnd hsz _
  have hval : ∀ (j : Nat) t v, Try.f4.params[j]? = some t → args[j]? = some v → Value.okWide Try.prog W .any base t v := hval0
  have hW' := hW
  obtain ⟨p, q, hA0, hV, rfl, hfz, hnd⟩ := hW
  have hA : DataW.TrodAll enc Try.prog W 0 (fun _ => true) true Try.f4.params.toList args.toList ds p := hA0
  have hsz2 : ∀ (j : Nat) (t : TypeId) (d : DataW H), Try.f4.params.toList[j]? = some t → ds[j]? = some d → ∀ n ∈ d.weights Try.prog t, n ≤ 140737488351232 := fun j t d ht hd n hn => by
    have h1 := List.all_eq_true.1 hsz n (DataW.weights_mem_each (j := j) (t := t) (d := d) (by rw [List.getElem?_append_left (List.getElem?_eq_some_iff.1 ht).1]; exact ht) (by rw [List.getElem?_append_left (List.getElem?_eq_some_iff.1 hd).1]; exact hd) n hn)
    have h2 : n ≤ reachBytes := by simpa using h1
    have h3 : reachBytes = 140737488351232 := rfl
    omega
  rw [Try.params4] at hA hval hsz2
  obtain ⟨v0, vs0, d0, ds0, p0, q0, hargs, rfl, rfl, h0, r0⟩ := trodAll_cons hA
  obtain ⟨rfl, rfl, rfl⟩ := trodAll_nil r0
  obtain rfl : args = #[v0] := by cases args; simp_all
  obtain ⟨rfl, rfl⟩ := trodVars_none hV
  obtain ⟨a0, len0, cap0, rfl⟩ := okWide_slice Try.underlying22 (hval 0 22 v0 rfl rfl)
  have k0 := h0
  have lt0 : ∀ x ∈ p0, x.block < W.heap.size := by obtain ⟨m, hm⟩ := k0; exact DataW.trod_lt m _ _ _ hm
  obtain ⟨xs0, lies0, by0⟩ := sacts_of_trod h0
  clear hA0 hval0
  refine (walkO14 ps_do _ xs0 W lies0 by0).mono fun e W' ⟨he, bel⟩ => ?_
  subst he
  exact ⟨_, rfl, _, _, _, [], _, [], hW', trodAll_mk1 (shut_bool Try.underlying4 _), (trodAll_cons_mk (Below.trod laidOut (by kernel_rfl) (of_decide_eq_true (by kernel_rfl)) k0 bel lt0) trodAll_mk0), rfl, bel.frame _, fun h => by cases h⟩

theorem over : Rows.stageOwnersRow.holds Try.pinned (OpenSpec.ofChange Rows.stageOwnersSpec) :=
  OpenClaim.holds_of_wide 4 Try.f4 rfl rfl rfl rfl rfl rfl rfl ⟨rfl, rfl, rfl, rfl, rfl⟩ rfl rfl rfl rfl rfl (by kernel_rfl) Try.func4 (by kernel_rfl)
    (of_decide_eq_true (by kernel_rfl)) (by unfold Func.isWrapper; first | (rw [if_pos (by decide +kernel)]; kernel_rfl) | (rw [if_neg (by decide +kernel)]; exact ⟨rfl, rfl⟩))
    (fun os started H enc _ => lifted os started H enc)
end stageOwners

/-- THE STATEMENT. -/
theorem stageOwners_holds : Rows.StageOwnersSaid := stageOwners.over
#print axioms stageOwners_holds
end
end Go.Proofs.Ytflphnefelcpoaa
