/-
  Proved: what the program's stage refuses turns nothing of it; what was handed in, and what was answered, may be written over; a stage that nobody made answers an error, and has nothing. For every input of the form's own reach (of a script the first 100 calls count; one that is too large is passed by, as the law says). Own work.
-/
import Derived.Test.YtodomdmmffooaaaG21
import Derived.Test.YtodomdmmffooaaaG01
import Derived.SizedLaws
import Derived.ChangeArms
namespace Go.Proofs.Ytodomdmmffooaaa
section
open Go.RowKit Go.Maps Classical

theorem Below.trans_keep14 {a W w' : World} (h : Below a.heap.size a W) (hk : KeepBut (fun k => k = a.heap.size) W w') : Below a.heap.size a w' := h.trans (hk.below h.size (fun k e => by omega))
def keyA14 : List Int := [97, 0, 0, 0, 0, 0, 0, 0]
variable {D : World → Nat → (Nat → Prop) → List OnP → Prop} {N : World → Value → Prop}
set_option maxRecDepth 100000 in
set_option maxHeartbeats 6400000 in
theorem walkR14 (H : StageDo D) (HN : NobDo14 N) (v : Value) (fs : List SActV) (one : SActV) (w : World) (hL : RSrc sactE w v fs) (hok : ∀ a ∈ fs, SvOk w a) (h1 : SvOk w one) :
    Calls Try.prog 4 #[v, .agg (sactA one)] w fun e w' => e = .returned (.bool true) ∧ Below w.heap.size w w' := by
  obtain ⟨ao, cap, rfl, hc, hm⟩ := hL.shape
  obtain ⟨⟨tk, ⟨tx, rg, ws⟩⟩, pv⟩ := one
  obtain ⟨oa, oc, e1, hoc, hom⟩ := h1.src.shape
  dsimp only at e1 hoc
  subst e1
  obtain ⟨LO, hLO⟩ : ∃ LO, LO = ws.length := ⟨_, rfl⟩
  obtain ⟨LF, hLF⟩ : ∃ LF, LF = fs.length := ⟨_, rfl⟩
  have hA : Below w.heap.size w (w.alloc (.cells (sactA ⟨⟨tk, ⟨tx, rg, ws⟩⟩, .slice oa ws.length oc⟩) 38)) := (Below.refl _ _).alloc (Nat.le_refl _) _
  obtain ⟨w0, hw0⟩ : ∃ w0, w0 = w.alloc (.cells (sactA ⟨⟨tk, ⟨tx, rg, ws⟩⟩, .slice oa ws.length oc⟩) 38) := ⟨_, rfl⟩
  have HBX : Hid (Box w0 w.heap.size (sactA ⟨⟨tk, ⟨tx, rg, ws⟩⟩, .slice oa LO oc⟩) 38) := hide (by rw [hw0, hLO]; exact box_new _ _ _)
  rw [← hw0] at hA
  have HB0 := hide hA
  have h01 := h1.below hA
  have HO1 : Hid (OnOk ⟨tx, rg, ws⟩) := hide h01.on
  have HS1 : Hid (RSrc wrE w0 (.slice oa LO oc) ws) := hide (by have := h01.src; dsimp only at this; rw [hLO]; exact this)
  have HSF : Hid (RSrc sactE w0 (.slice ao LF cap) fs) := hide (by rw [hLF]; exact hL.below hA)
  have HSO : Hid (∀ a ∈ fs, SvOk w0 a) := hide (fun a ha => (hok a ha).below hA)
  have HV1 : Hid (SvOk w0 ⟨⟨tk, ⟨tx, rg, ws⟩⟩, .slice oa LO oc⟩) := hide (by rw [hLO]; exact h01)
  have HLO := hide hLO
  rw [← hLO]
  rw [← hLO] at hw0 hoc
  rw [← hLF]
  have hsz : w0.heap.size = w.heap.size + 1 := by rw [hw0]; simp
  have HSZ := hide hsz
  have HW0 := hide hw0
  clear hL hok h1 h01 hA hLO hLF hc hm
  -- far
  have CF := hide (fun W (hB : Below w0.heap.size w0 W) => far_any14 (.slice ao LF cap) fs W (HSF.out.below hB) (fun a ha => (HSO.out a ha).below hB))
  have CF1 := hide (fun W v (hB : Below w0.heap.size w0 W) (hv : RSrc sactE W v [⟨⟨tk, ⟨tx, rg, ws⟩⟩, .slice oa LO oc⟩]) => far_any14 v [⟨⟨tk, ⟨tx, rg, ws⟩⟩, .slice oa LO oc⟩] W hv (fun a ha => by rw [List.mem_singleton.1 ha]; exact HV1.out.below hB))
  have CA := hide (fun W => alive_by14 H W)
  have CSH := hide (fun W => short_any14 (.slice ao LF cap) fs W w0 HSF.out)
  go_enter Try.func4, Try.ntmps4
  go_wp2_with fail
  rw [← HW0.out]
  refine (H.new w0).mono ?_
  rintro e w1 ⟨q, F1, rfl, hD1, hF1, hB1⟩
  have HN1 : Hid (Since14 D w0 q F1 [] w1) := hide ⟨hD1, hF1, hB1⟩
  clear hD1 hF1 hB1
  go_wp2_with fail
  obtain ⟨RF, hRF⟩ : ∃ RF, RF = farS fs := ⟨_, rfl⟩
  have CF' := hide (CF.out w1 HN1.out.b)
  rw [← hRF] at CF'
  have HRF := hide hRF
  clear hRF CF
  cases RF with
  | true =>
    refine CF'.out.mono ?_
    rintro e w2 ⟨rfl, hB2⟩
    have HB2 := hide (HB0.out.trans ((HN1.out.b.trans (hB2.mono HN1.out.b.size)).mono HB0.out.size))
    clear hB2
    go_wp2_with (go_at_call 8; refine (CA.out _).mono ?_; rintro e w3 ⟨rfl, hB3⟩; have HB3 := hide (HB2.out.trans (hB3.mono HB2.out.size)); clear hB3)
    go_ret
    exact ⟨rfl, HB3.out⟩
  | false =>
  refine CF'.out.mono ?_
  rintro e w2 ⟨rfl, hB2⟩
  replace HN1 := hide (HN1.out.below H hB2)
  have HBX2 := hide (HBX.out.belowI HN1.out.b)
  clear hB2 CF'
  go_wp2_with (refine wp_load_box_g rfl _ rfl w.heap.size rfl HBX2.out Try.underlying38 rfl infoSA ?_)
  have hA2 : Below w2.heap.size w2 (w2.alloc (.cells (sactA ⟨⟨tk, ⟨tx, rg, ws⟩⟩, .slice oa LO oc⟩) 38)) := (Below.refl _ _).alloc (Nat.le_refl _) _
  have CF2 := hide (CF1.out _ _ (HN1.out.b.trans (hA2.mono HN1.out.b.size)) (src_one14 w2 ⟨⟨tk, ⟨tx, rg, ws⟩⟩, .slice oa LO oc⟩))
  replace HN1 := hide (HN1.out.below H hA2)
  obtain ⟨RG, hRG⟩ : ∃ RG, RG = farS [⟨⟨tk, ⟨tx, rg, ws⟩⟩, .slice oa LO oc⟩] := ⟨_, rfl⟩
  rw [← hRG] at CF2
  have HRG := hide hRG
  clear hA2 CF1 hRG HBX2
  refine CF2.out.mono ?_
  rintro e w3 ⟨rfl, hB3⟩
  replace HN1 := hide (HN1.out.below H hB3)
  clear hB3 CF2
  cases RG with
  | true =>
    have HB2 := hide (HB0.out.trans (HN1.out.b.mono HB0.out.size))
    go_wp2_with (go_at_call 8; refine (CA.out _).mono ?_; rintro e w4 ⟨rfl, hB4⟩; have HB4 := hide (HB2.out.trans (hB4.mono HB2.out.size)); clear hB4)
    go_ret
    exact ⟨rfl, HB4.out⟩
  | false =>
  have HF1 : Hid (ws.length ≤ 40) := hide (far_few HRG.out.symm ⟨⟨tk, ⟨tx, rg, ws⟩⟩, .slice oa LO oc⟩ (by simp))
  have HFF : Hid (∀ a ∈ fs.take 100, a.a.on.wr.length ≤ 40) := hide (far_few HRF.out.symm)
  obtain ⟨ts, hts⟩ : ∃ ts, ts = fs.take 100 := ⟨_, rfl⟩
  have HTO : Hid (∀ a ∈ ts, SvOk w0 a) := hide (fun a ha => by rw [hts] at ha; exact HSO.out a (List.mem_of_mem_take ha))
  rw [← hts] at HFF
  simp only [← hts] at CSH
  obtain ⟨LN, hLN⟩ : ∃ LN, LN = ts.length := ⟨_, rfl⟩
  have hKl : LN ≤ 100 := by rw [hLN, hts, List.length_take]; omega
  have HLN := hide hLN
  clear hts hLN HRF HRG
  go_wp2_with (go_at_call 9; refine (CSH.out _).mono ?_; rintro e Y1 ⟨v1, rfl, rfl, hT⟩; obtain ⟨ta, tc, e1, _, _⟩ := hT.shape; rw [← HLN.out] at e1; subst e1; have HT := hide hT; clear hT)
  go_loopg [48] LN (fun g i wr => ∃ (k : Nat) (F : Nat → Prop), k + g = LN ∧ i = .int .i64 k ∧ Hid (Since14 D w0 q F ((ts.take k).foldl putV []) wr))
  case atStart => exact ⟨0, F1, by omega, rfl, HN1⟩
  case round =>
    obtain ⟨k, F, hk, rfl, HNL⟩ := hrel
    cases gk with
    | zero =>
      obtain rfl : k = LN := by omega
      have hz : ¬ ((k : Int) < (k : Int)) := by omega
      obtain ⟨l, hl⟩ : ∃ l, l = (ts.take k).foldl putV [] := ⟨_, rfl⟩
      rw [← hl] at HNL
      have HLA := hide (H.ok HNL.out.d)
      have CL := hide (H.all HNL.out.d)
      clear hl
      go_wp2_with fail
      refine CL.out.mono ?_
      rintro e w2 ⟨v2, rfl, ho2, hB2⟩
      have HN2 := hide (HNL.out.below H hB2)
      have HW2 := hide ho2
      have HWG : Hid (∀ g, v2.ownBlock = some g → g < w2.heap.size ∧ ¬ F g) := hide (fun g hg => ⟨(ho2.lt g hg).2, fun hf => by have h9 := (ho2.lt g hg).1; have h8 := H.lt HNL.out.d _ hf; omega⟩)
      obtain ⟨wa, wc, e2⟩ : ∃ a c, v2 = .slice a l.length c := by
        obtain ⟨_, ⟨rfl, e⟩ | ⟨g', cap', cur, rfl, _⟩⟩ := ho2
        · exact ⟨_, _, by rw [e]⟩
        · exact ⟨_, _, rfl⟩
      obtain ⟨LL, hLL⟩ : ∃ LL, LL = l.length := ⟨_, rfl⟩
      rw [← hLL] at e2
      subst e2
      have HLL := hide hLL
      clear ho2 hB2 hLL CL
      obtain ⟨b0, b1, b2, b3, b4, b5, b6⟩ := box_act (HBX.out.belowI HN2.out.b)
      have HSM := hide (HS1.out.below HN2.out.b)
      have HLT2 : Hid (∀ k, F k → k < w2.heap.size) := hide (fun k hf => H.lt HN2.out.d k hf)
      -- mine
      go_wp2_with (refine wp_recs recWR _ rfl _ _ rfl w2.heap.size _ _ [] ws rfl (World.ownsRow_nil _ _ _ _) rfl HSM.out (fun x _ => wr_one x) (by have := HF1.out; simp; omega) (Nat.le_refl _) ?_; intro v3 w3 ho3 hg3 hb3; have HO3 := hide ho3; have hB3 := grown_none (Nat.le_refl _) hg3; have HN3 := hide (HN2.out.below H hB3); have HW3 := hide (owns_keep HW2.out (KeepBut.of_below (fun _ => False) hB3) (fun _ _ h => h)); obtain ⟨c0, c1, c2, c3, c4, c5, c6⟩ := box_act (HBX.out.belowI HN3.out.b); have h23 := hB3.size; clear ho3 hg3 hb3 hB3)
      rw [List.nil_append] at HO3
      have HS3 := hide (src_row14 HO3.out)
      have HG3 : Hid (∀ g, v3.ownBlock = some g → w2.heap.size ≤ g ∧ g < w3.heap.size) := hide (fun g hg => HO3.out.lt g hg)
      have CP := hide (H.put ⟨tx, rg, ws⟩ v3 HN3.out.d HO1.out HS3.out)
      obtain ⟨PA, hPA⟩ : ∃ PA, PA = pA l ⟨tx, rg, ws⟩ := ⟨_, rfl⟩
      rw [← hPA] at CP
      refine CP.out.mono ?_
      rintro e w4 ⟨rfl, hd4⟩
      obtain ⟨F4, hs4, hk4, hf4⟩ := HN3.out.did hd4
      have HN4 := hide hs4
      have HO4 := hide (owns_keep HO3.out hk4 (fun g hg hf => by have h9 := (HG3.out g hg).1; have h8 := HLT2.out g hf; omega))
      have HW4 := hide (owns_keep HW3.out hk4 (fun g hg => (HWG.out g hg).2))
      have HGF : Hid (∀ g, v3.ownBlock = some g → ¬ F4 g) := hide (fun g hg hf => (hf4 g hf).elim (fun h => by have h9 := (HG3.out g hg).1; have h8 := HLT2.out g h; omega) (fun h => by have h9 := (HG3.out g hg).2; omega))
      have HWF : Hid (∀ g, (Value.slice wa LL wc).ownBlock = some g → ¬ F4 g) := hide (fun g hg hf => (hf4 g hf).elim (HWG.out g hg).2 (fun h => by have h9 := (HWG.out g hg).1; omega))
      have HW23 : Hid (∀ g, v3.ownBlock = some g → ∀ g', (Value.slice wa LL wc).ownBlock = some g' → g ≠ g') := hide (fun g hg g' hg' e => by have h9 := (HG3.out g hg).1; have h8 := (HWG.out g' hg').1; omega)
      have HG4 : Hid (∀ g, v3.ownBlock = some g → w0.heap.size ≤ g) := hide (fun g hg => Nat.le_trans HN2.out.b.size (HG3.out g hg).1)
      have HPS : Hid (PA = 0 → onS (pS l ⟨tx, rg, ws⟩) tx = some ⟨tx, rg, ws⟩) := hide (fun e => put_there HLA.out.1.ok (x := ⟨tx, rg, ws⟩) (by rw [← hPA]; exact e))
      have HPN : Hid (PA ≠ 0 → pS l ⟨tx, rg, ws⟩ = l) := hide (fun e => put_refused HLA.out.1.ok (by rw [← hPA]; exact e))
      obtain ⟨l4, hl4⟩ : ∃ l4, l4 = pS l ⟨tx, rg, ws⟩ := ⟨_, rfl⟩
      rw [← hl4] at HPS HPN HN4
      clear hd4 hs4 hk4 hf4 hPA hl4 CP b0 b1 b2 b3 b4 b5 b6 c0 c1 c2 c3 c4 c5 c6 HO3 HS3 HW3 HW2 HN3 HN2 HSM
      obtain ⟨ma, mc, e3, hmc⟩ : ∃ a c, v3 = .slice a ws.length c ∧ c ≤ maxLen := by
        obtain ⟨_, ⟨rfl, e⟩ | ⟨g', cap', cur, rfl, _, _, _, h9, _⟩⟩ := HO4.out
        · exact ⟨_, _, by rw [e], by decide⟩
        · exact ⟨_, _, rfl, h9⟩
      subst e3
      rw [← HLO.out] at HO4 HGF HW23 HG4 ⊢
      have HF1' : LO ≤ 40 := by rw [HLO.out]; exact HF1.out
      go_wp2_with fail
      -- mine is written over
      go_loopg [76] LO (fun g i wr => ∃ (j : Nat), j + g = LO ∧ i = .int .i64 j ∧ Hid (KeepBut (fun k => (Value.slice ma LO mc).ownBlock = some k) w4 wr) ∧ Hid (∀ g, (Value.slice ma LO mc).ownBlock = some g → IncB wr g LO j))
      case atStart =>
        refine ⟨0, by omega, rfl, hide (KeepBut.refl _ _), hide (fun g hg => ?_)⟩
        cases ma with
        | none => cases hg
        | some ad =>
          obtain ⟨_, ⟨e, _⟩ | ⟨g', cap', cur, e, _⟩⟩ := id HO4.out
          · cases e
          · cases e
            cases hg
            have := inc_start (xs := ws) (by rw [← HLO.out]; exact HO4.out)
            rw [← HLO.out] at this
            exact this
      case round =>
        obtain ⟨j, hj, rfl, HKW, HIN⟩ := hrel
        cases gk with
        | zero =>
          obtain rfl : j = LO := by omega
          have hz2 : ¬ ((j : Int) < (j : Int)) := by omega
          have HN5 : Hid (Since14 D w0 q F4 l4 wr) := hide (HN4.out.keep H HKW.out (fun k hf hg => HGF.out k hg hf) (fun k hg => HG4.out k hg))
          have HW5 := hide (owns_keep HW4.out HKW.out (fun g hg hg' => HW23.out g hg' g hg rfl))
          obtain ⟨b0, b1, b2, b3, b4, b5, b6⟩ := box_act (HBX.out.belowI HN5.out.b)
          go_wp2_with fail
          refine (H.writes tx HN5.out.d HO1.out.tx).mono ?_
          rintro e w6 ⟨v6, rfl, ho6, hB6⟩
          have HN6 := hide (HN5.out.below H hB6)
          have HW6 := hide (owns_keep HW5.out (KeepBut.of_below (fun _ => False) hB6) (fun _ _ h => h))
          have HO6 := hide ho6
          have HLF : Hid (∀ k, F4 k → k < wr.heap.size) := hide (fun k hf => H.lt HN5.out.d k hf)
          have HG6 : Hid (∀ g, v6.ownBlock = some g → ¬ F4 g ∧ w0.heap.size ≤ g ∧ g < w6.heap.size) := hide (fun g hg => by have h9 := ho6.lt g hg; have h8 := HN5.out.b.size; exact ⟨fun hf => by have h7 := HLF.out g hf; omega, by omega, h9.2⟩)
          have HZ6 := hide (box_new w6 #[.int .u32 0, .int .u32 0] 35)
          have hA6 : Below w6.heap.size w6 (w6.alloc (.cells #[.int .u32 0, .int .u32 0] 35)) := (Below.refl _ _).alloc (Nat.le_refl _) _
          have HZN := hide (HN6.out.below H hA6)
          have HZO := hide (owns_keep HO6.out (KeepBut.of_below (fun _ => False) hA6) (fun _ _ h => h))
          have HZW := hide (owns_keep HW6.out (KeepBut.of_below (fun _ => False) hA6) (fun _ _ h => h))
          have HWL : Hid (∀ g, (Value.slice wa LL wc).ownBlock = some g → g < w6.heap.size) := hide (fun g hg => (HW6.out.lt g hg).2)
          have HNF6 : Hid (¬ F4 w6.heap.size) := hide (fun hf => Nat.lt_irrefl _ (H.lt HN6.out.d _ hf))
          have h06 := HN6.out.b.size
          obtain ⟨RG, hRG⟩ : ∃ RG, RG = rgOf l4 tx := ⟨_, rfl⟩
          obtain ⟨LT, hLT⟩ : ∃ LT, LT = (tW l4 tx).length := ⟨_, rfl⟩
          obtain ⟨sa, sc, e6⟩ : ∃ a c, v6 = .slice a (tW l4 tx).length c := by
            obtain ⟨_, ⟨rfl, e⟩ | ⟨g', cap', cur, rfl, _⟩⟩ := ho6
            · exact ⟨_, _, by rw [e]⟩
            · exact ⟨_, _, rfl⟩
          subst e6
          rw [← hLT] at HO6 HG6 HZO ⊢
          rw [← hRG]
          have HLT := hide hLT
          have hLTm : LT ≤ 1000 := by
            have h9 := (H.ok HN6.out.d).1
            rw [hLT]
            unfold tW
            cases hf : onS l4 tx with
            | none => simp
            | some x =>
              have hm := (h9.may x (List.mem_of_find?_eq_some hf)).1
              unfold mayO wsMayB at hm
              simp only [Bool.and_eq_true, decide_eq_true_eq] at hm
              exact Nat.le_trans hm.2.2 (by decide)
          clear hB6 ho6 hA6 hRG hLT b0 b1 b2 b3 b4 b5 b6
          by_cases hp0 : PA = 0
          · subst hp0
            have hon := HPS.out rfl
            have HTW : Hid (tW l4 tx = ws ∧ (onS l4 tx).isSome = true) := hide (by unfold tW; rw [hon]; exact ⟨rfl, rfl⟩)
            rw [HTW.out.2]
            go_wp2_with (refine wp_store_box rfl rfl _ _ rfl w6.heap.size rfl (cs' := #[.int .u32 (RG.1 : Int), .int .u32 (RG.2 : Int)]) rfl HZ6.out rfl info14Rg (by simp [Value.oneCell']) ?_; intro w7 hb7 hk7; have HN7 : Hid (Since14 D w0 q F4 l4 w7) := hide (HZN.out.keep H hk7 (fun k hf e => HNF6.out (by rw [← e]; exact hf)) (fun k e => by omega)); have HO7 := hide (owns_keep HZO.out hk7 (fun g hg e => by have h9 := (HG6.out g hg).2.2; omega)); have HW7 := hide (owns_keep HZW.out hk7 (fun g hg e => by have h9 := HWL.out g hg; omega)); obtain ⟨b0, b1, b2, b3, b4, b5, b6⟩ := box_act (HBX.out.belowI HN7.out.b); clear hb7 hk7)
            have CM : Hid (Calls Try.prog 12 #[.slice sa LT sc, .slice oa j oc] w7 fun e w' => e = .returned (.bool true) ∧ Below w7.heap.size w7 w') := hide (by
              have h9 : RSrc wrE w7 (.slice sa LT sc) ws := by
                have h8 := HO7.out
                rw [HLT.out] at h8
                have h7 := src_row14 h8
                rw [HTW.out.1] at h7
                rw [HLT.out, HTW.out.1]
                exact h7
              have h := rsameWrites_any _ _ ws ws w7 h9 (HS1.out.below HN7.out.b) HO1.out.wr HO1.out.wr
              rw [decide_eq_true rfl] at h
              exact h)
            refine CM.out.mono ?_
            rintro e w8 ⟨rfl, hB8⟩
            have HN8 := hide (HN7.out.below H hB8)
            have HO8 := hide (owns_keep HO7.out (KeepBut.of_below (fun _ => False) hB8) (fun _ _ h => h))
            clear hB8 CM b0 b1 b2 b3 b4 b5 b6
            go_wp2_with fail
            go_loopg [124] LT (fun g i wr => ∃ (j : Nat), j + g = LT ∧ i = .int .i64 j ∧ Hid (KeepBut (fun k => (Value.slice sa LT sc).ownBlock = some k) w8 wr) ∧ Hid (∀ g, (Value.slice sa LT sc).ownBlock = some g → IncB wr g LT j))
            case atStart =>
              refine ⟨0, by omega, rfl, hide (KeepBut.refl _ _), hide (fun g hg => ?_)⟩
              cases sa with
              | none => cases hg
              | some ad =>
                obtain ⟨_, ⟨e, _⟩ | ⟨g', cap', cur, e, _⟩⟩ := id HO8.out
                · cases e
                · cases e
                  cases hg
                  have := inc_start (xs := tW l4 tx) (by rw [← HLT.out]; exact HO8.out)
                  rw [← HLT.out] at this
                  exact this
            case round =>
              obtain ⟨i2, hj2, rfl, HKW2, HIN2⟩ := hrel
              cases gk with
              | succ g =>
                have hz3 : (i2 : Int) < (LT : Int) := by omega
                have hsa : ∃ g0 o0, sa = some ⟨g0, o0, none⟩ ∧ o0 = 0 := by
                  obtain ⟨_, ⟨e, e9⟩ | ⟨g', cap', cur, e, _⟩⟩ := id HO8.out
                  · have := HLT.out; omega
                  · cases e
                    exact ⟨_, _, rfl, rfl⟩
                obtain ⟨g0, o0, rfl, rfl⟩ := hsa
                obtain ⟨ver, hc1, hc2, hc3, hc4⟩ := inc_step (HIN2.out g0 rfl) (by omega : i2 < LT)
                have HC4 := hide hc4
                have hcap : LT ≤ sc := by
                  obtain ⟨_, ⟨e, e9⟩ | ⟨g', cap', cur, e, _, _, h9, _⟩⟩ := id HO8.out
                  · cases e
                  · cases e
                    have := HLT.out
                    omega
                clear hc4
                go_wp2_with fail
                go_roundg g
                case measure => omega
                case rel =>
                  refine ⟨i2 + 1, by omega, by first | rfl | go_num, hide (keep_set HKW2.out rfl), hide (fun g hg => ?_)⟩
                  cases hg
                  exact HC4.out _
              | zero =>
                obtain rfl : i2 = LT := by omega
                have hz3 : ¬ ((i2 : Int) < (i2 : Int)) := by omega
                have HN9 : Hid (Since14 D w0 q F4 l4 wr) := hide (HN8.out.keep H HKW2.out (fun k hf hg => (HG6.out k hg).1 hf) (fun k hg => (HG6.out k hg).2.1))
                obtain ⟨b0, b1, b2, b3, b4, b5, b6⟩ := box_act (HBX.out.belowI HN9.out.b)
                go_wp2_with fail
                refine (H.writes tx HN9.out.d HO1.out.tx).mono ?_
                rintro e w10 ⟨v10, rfl, ho10, hB10⟩
                have HN10 := hide (HN9.out.below H hB10)
                have HO10 := hide ho10
                have HG10 : Hid (∀ g, v10.ownBlock = some g → g < w10.heap.size) := hide (fun g hg => (ho10.lt g hg).2)
                have HZ10 := hide (box_new w10 #[.int .u32 0, .int .u32 0] 35)
                have hA10 : Below w10.heap.size w10 (w10.alloc (.cells #[.int .u32 0, .int .u32 0] 35)) := (Below.refl _ _).alloc (Nat.le_refl _) _
                have HZN10 := hide (HN10.out.below H hA10)
                have HZO10 := hide (owns_keep HO10.out (KeepBut.of_below (fun _ => False) hA10) (fun _ _ h => h))
                have HNF10 : Hid (¬ F4 w10.heap.size) := hide (fun hf => Nat.lt_irrefl _ (H.lt HN10.out.d _ hf))
                have h10 := HN10.out.b.size
                obtain ⟨ka, kc, e10⟩ : ∃ a c, v10 = .slice a (tW l4 tx).length c := by
                  obtain ⟨_, ⟨rfl, e⟩ | ⟨g', cap', cur, rfl, _⟩⟩ := ho10
                  · exact ⟨_, _, by rw [e]⟩
                  · exact ⟨_, _, rfl⟩
                subst e10
                rw [← HLT.out] at HO10 HG10 HZO10 ⊢
                obtain ⟨RG2, hRG2⟩ : ∃ RG, RG = rgOf l4 tx := ⟨_, rfl⟩
                obtain ⟨BJ, hBJ⟩ : ∃ BI, BI = (onS l4 tx).isSome := ⟨_, rfl⟩
                rw [← hRG2, ← hBJ]
                clear hRG2 hBJ hB10 ho10 hA10 b0 b1 b2 b3 b4 b5 b6
                go_wp2_with (refine wp_store_box rfl rfl _ _ rfl w10.heap.size rfl (cs' := #[.int .u32 (RG2.1 : Int), .int .u32 (RG2.2 : Int)]) rfl HZ10.out rfl info14Rg (by simp [Value.oneCell']) ?_; intro w11 hb11 hk11; have HN11 : Hid (Since14 D w0 q F4 l4 w11) := hide (HZN10.out.keep H hk11 (fun k hf e => HNF10.out (by rw [← e]; exact hf)) (fun k e => by omega)); have HO11 := hide (owns_keep HZO10.out hk11 (fun g hg e => by have h9 := HG10.out g hg; omega)); obtain ⟨b0, b1, b2, b3, b4, b5, b6⟩ := box_act (HBX.out.belowI HN11.out.b); clear hb11 hk11)
                have CM2 : Hid (Calls Try.prog 12 #[.slice ka i2 kc, .slice oa j oc] w11 fun e w' => e = .returned (.bool true) ∧ Below w11.heap.size w11 w') := hide (by
                  have h9 : RSrc wrE w11 (.slice ka i2 kc) ws := by
                    have h8 := HO11.out
                    rw [HLT.out] at h8
                    have h7 := src_row14 h8
                    rw [HTW.out.1] at h7
                    rw [HLT.out, HTW.out.1]
                    exact h7
                  have h := rsameWrites_any _ _ ws ws w11 h9 (HS1.out.below HN11.out.b) HO1.out.wr HO1.out.wr
                  rw [decide_eq_true rfl] at h
                  exact h)
                refine CM2.out.mono ?_
                rintro e w12 ⟨rfl, hB12⟩
                have HB12 := hide (HN11.out.b.trans (hB12.mono HN11.out.b.size))
                clear hB12 CM2 b0 b1 b2 b3 b4 b5 b6
                go_wp2_with fail
                obtain ⟨w13, hw13⟩ : ∃ w13, w13 = (w12.alloc (.cells #[.map none, .map none] 65)).alloc (.cells #[.pointer none, .pointer (some ⟨w12.heap.size, 0, none⟩)] 23) := ⟨_, rfl⟩
                rw [← hw13]
                have hA13 : Below w12.heap.size w12 w13 := by rw [hw13]; exact ((Below.refl _ _).alloc (Nat.le_refl _) _).alloc (by simp) _
                have HB13 := hide (HB12.out.trans (hA13.mono HB12.out.size))
                have HZS : Hid (Box w13 w12.heap.size #[.map none, .map none] 65) := hide (by rw [hw13]; exact (box_new _ _ _).belowI ((Below.refl _ _).alloc (Nat.le_refl _) _))
                have HZP : Hid (Box w13 (w12.heap.size + 1) #[.pointer none, .pointer (some ⟨w12.heap.size, 0, none⟩)] 23) := hide (by rw [hw13]; have := box_new (w12.alloc (.cells #[.map none, .map none] 65)) #[.pointer none, .pointer (some ⟨w12.heap.size, 0, none⟩)] 23; simpa using this)
                clear hw13 hA13
                go_loopg [159] 2 (fun g i wr => ∃ (j : Nat), j + g = 2 ∧ i = .int .i64 j ∧ Hid (Below w13.heap.size w13 wr))
                case atStart => exact ⟨0, by omega, rfl, hide (Below.refl _ _)⟩
                case round =>
                  obtain ⟨i3, hj3, rfl, HBL⟩ := hrel
                  cases gk with
                  | zero =>
                    obtain rfl : i3 = 2 := by omega
                    have HBE := hide (HB0.out.trans ((HB13.out.trans (HBL.out.mono HB13.out.size)).mono HB0.out.size))
                    go_wp2_with (go_at_call 8; refine (CA.out _).mono ?_; rintro e w14 ⟨rfl, hB14⟩; have HB14 := hide (HBE.out.trans (hB14.mono HBE.out.size)); clear hB14)
                    go_ret
                    exact ⟨rfl, HB14.out⟩
                  | succ g =>
                    have hz4 : (i3 : Int) < 2 := by omega
                    obtain ⟨p, hcp, HNn⟩ : ∃ p, wr.cell? ⟨w12.heap.size + 1, i3, none⟩ = some (.pointer p) ∧ Hid (N wr (.pointer p)) := by
                      have h1 := HZP.out.belowI HBL.out
                      rcases (show i3 = 0 ∨ i3 = 1 by omega) with rfl | rfl
                      · exact ⟨none, h1.cell _ _ rfl, hide (HN.nil _)⟩
                      · exact ⟨some ⟨w12.heap.size, 0, none⟩, h1.cell _ _ rfl, hide (HN.zero (HZS.out.belowI HBL.out))⟩
                    have HBW := hide (HB13.out.trans (HBL.out.mono HB13.out.size))
                    obtain ⟨b0, b1, b2, b3, b4, b5, b6⟩ := box_act (HBX.out.belowI HBW.out)
                    go_wp2_with fail
                    refine (HN.take tx HNn.out).mono ?_
                    rintro e w14 ⟨rfl, hB14⟩
                    have HB14 := hide hB14
                    have HBW14 := hide (HBW.out.trans (HB14.out.mono HBW.out.size))
                    have HNn14 := hide (HN.below HNn.out HB14.out)
                    clear hB14 b0 b1 b2 b3 b4 b5 b6
                    obtain ⟨b0, b1, b2, b3, b4, b5, b6⟩ := box_act (HBX.out.belowI HBW14.out)
                    go_wp2_with fail
                    refine (HN.writes tx HNn14.out).mono ?_
                    rintro e w15 ⟨rfl, hB15⟩
                    have HB15 := hide (HB14.out.trans (hB15.mono HB14.out.size))
                    have HNn15 := hide (HN.below HNn14.out hB15)
                    have HZ15 := hide (box_new w15 #[.int .u32 0, .int .u32 0] 35)
                    have HAA15 : Hid (Below w15.heap.size w15 (w15.alloc (.cells #[.int .u32 0, .int .u32 0] 35))) := hide ((Below.refl _ _).alloc (Nat.le_refl _) _)
                    clear hB15 b0 b1 b2 b3 b4 b5 b6
                    go_wp2_with (refine wp_store_box rfl rfl _ _ rfl w15.heap.size rfl (cs' := #[.int .u32 0, .int .u32 0]) rfl HZ15.out rfl info14Rg (by simp [Value.oneCell']) ?_; intro w16 hb16 hk16; have HA16 : Hid (Below w15.heap.size w15 w16) := hide (Below.trans_keep14 HAA15.out hk16); have HB16 := hide (HB15.out.trans (HA16.out.mono HB15.out.size)); have HNn16 := hide (HN.below HNn15.out HA16.out); clear hb16 hk16)
                    refine (HN.owner keyA14 HNn16.out).mono ?_
                    rintro e w17 ⟨rfl, hB17⟩
                    have HB17 := hide (HB16.out.trans (hB17.mono HB16.out.size))
                    have HNn17 := hide (HN.below HNn16.out hB17)
                    have HZ17 := hide (box_new w17 #[.int .u8 0, .int .u32 0, .int .u32 0] 33)
                    have HAA17 : Hid (Below w17.heap.size w17 (w17.alloc (.cells #[.int .u8 0, .int .u32 0, .int .u32 0] 33))) := hide ((Below.refl _ _).alloc (Nat.le_refl _) _)
                    clear hB17
                    go_wp2_with (refine wp_store_box rfl rfl _ _ rfl w17.heap.size rfl (cs' := #[.int .u8 0, .int .u32 0, .int .u32 0]) rfl HZ17.out rfl info14Tx (by simp [Value.oneCell']) ?_; intro w18 hb18 hk18; have HA18 : Hid (Below w17.heap.size w17 w18) := hide (Below.trans_keep14 HAA17.out hk18); have HB18 := hide (HB17.out.trans (HA18.out.mono HB17.out.size)); have HNn18 := hide (HN.below HNn17.out HA18.out); have HBW18 := hide (HBW.out.trans (HB18.out.mono HBW.out.size)); obtain ⟨b0, b1, b2, b3, b4, b5, b6⟩ := box_act (HBX.out.belowI HBW18.out); clear hb18 hk18)
                    refine (HN.put tx rg _ HNn18.out).mono ?_
                    rintro e w19 ⟨rfl, hB19⟩
                    have HB19 := hide (HB18.out.trans (hB19.mono HB18.out.size))
                    have HNn19 := hide (HN.below HNn18.out hB19)
                    clear hB19 b0 b1 b2 b3 b4 b5 b6
                    go_wp2_with fail
                    refine (HN.all HNn19.out).mono ?_
                    rintro e w20 ⟨rfl, rfl⟩
                    go_wp2_with fail
                    go_roundg g
                    case measure => omega
                    case rel => exact ⟨i3 + 1, by omega, by first | rfl | go_num, hide (HBL.out.trans (HB19.out.mono HBL.out.size))⟩
          · have hne : (PA == 0) = false := by simpa using hp0
            obtain ⟨BI, hBI⟩ : ∃ BI, BI = (onS l4 tx).isSome := ⟨_, rfl⟩
            rw [← hBI]
            clear hBI
            go_wp2_with (refine wp_store_box rfl rfl _ _ rfl w6.heap.size rfl (cs' := #[.int .u32 (RG.1 : Int), .int .u32 (RG.2 : Int)]) rfl HZ6.out rfl info14Rg (by simp [Value.oneCell']) ?_; intro w7 hb7 hk7; have HN7 : Hid (Since14 D w0 q F4 l4 w7) := hide (HZN.out.keep H hk7 (fun k hf e => HNF6.out (by rw [← e]; exact hf)) (fun k e => by omega)); have HO7 := hide (owns_keep HZO.out hk7 (fun g hg e => by have h9 := (HG6.out g hg).2.2; omega)); have HW7 := hide (owns_keep HZW.out hk7 (fun g hg e => by have h9 := HWL.out g hg; omega)); obtain ⟨b0, b1, b2, b3, b4, b5, b6⟩ := box_act (HBX.out.belowI HN7.out.b); clear hb7 hk7)
            have HL4 := hide (HPN.out hp0)
            refine (H.all HN7.out.d).mono ?_
            rintro e w8 ⟨v8, rfl, ho8, hB8⟩
            have HN8 := hide (HN7.out.below H hB8)
            have HO8 := hide (owns_keep HO7.out (KeepBut.of_below (fun _ => False) hB8) (fun _ _ h => h))
            have HW8 := hide (owns_keep HW7.out (KeepBut.of_below (fun _ => False) hB8) (fun _ _ h => h))
            have CS : Hid (Calls Try.prog 17 #[v8, .slice wa LL wc] w8 fun e w' => e = .returned (.bool true) ∧ Below w8.heap.size w8 w') := hide (by
              rw [HL4.out] at ho8
              have h9 := HLA.out.1.ok.few
              exact same5_any _ _ v8 _ (l.map fun x => txI x.tx) w8 (by rw [List.length_map]; exact ho8) (by rw [List.length_map]; exact HW8.out) (by rw [List.length_map]; omega))
            clear ho8 hB8 b0 b1 b2 b3 b4 b5 b6
            go_wp2_with fail
            refine CS.out.mono ?_
            rintro e w9 ⟨rfl, hB9⟩
            replace HN8 := hide (HN8.out.below H hB9)
            replace HO8 := hide (owns_keep HO8.out (KeepBut.of_below (fun _ => False) hB9) (fun _ _ h => h))
            clear hB9 CS
            go_wp2_with fail
            go_loopg [124] LT (fun g i wr => ∃ (j : Nat), j + g = LT ∧ i = .int .i64 j ∧ Hid (KeepBut (fun k => (Value.slice sa LT sc).ownBlock = some k) w9 wr) ∧ Hid (∀ g, (Value.slice sa LT sc).ownBlock = some g → IncB wr g LT j))
            case atStart =>
              refine ⟨0, by omega, rfl, hide (KeepBut.refl _ _), hide (fun g hg => ?_)⟩
              cases sa with
              | none => cases hg
              | some ad =>
                obtain ⟨_, ⟨e, _⟩ | ⟨g', cap', cur, e, _⟩⟩ := id HO8.out
                · cases e
                · cases e
                  cases hg
                  have := inc_start (xs := tW l4 tx) (by rw [← HLT.out]; exact HO8.out)
                  rw [← HLT.out] at this
                  exact this
            case round =>
              obtain ⟨i2, hj2, rfl, HKW2, HIN2⟩ := hrel
              cases gk with
              | succ g =>
                have hz3 : (i2 : Int) < (LT : Int) := by omega
                have hsa : ∃ g0 o0, sa = some ⟨g0, o0, none⟩ ∧ o0 = 0 := by
                  obtain ⟨_, ⟨e, e9⟩ | ⟨g', cap', cur, e, _⟩⟩ := id HO8.out
                  · have := HLT.out; omega
                  · cases e
                    exact ⟨_, _, rfl, rfl⟩
                obtain ⟨g0, o0, rfl, rfl⟩ := hsa
                obtain ⟨ver, hc1, hc2, hc3, hc4⟩ := inc_step (HIN2.out g0 rfl) (by omega : i2 < LT)
                have HC4 := hide hc4
                have hcap : LT ≤ sc := by
                  obtain ⟨_, ⟨e, e9⟩ | ⟨g', cap', cur, e, _, _, h9, _⟩⟩ := id HO8.out
                  · cases e
                  · cases e
                    have := HLT.out
                    omega
                clear hc4
                go_wp2_with fail
                go_roundg g
                case measure => omega
                case rel =>
                  refine ⟨i2 + 1, by omega, by first | rfl | go_num, hide (keep_set HKW2.out rfl), hide (fun g hg => ?_)⟩
                  cases hg
                  exact HC4.out _
              | zero =>
                obtain rfl : i2 = LT := by omega
                have hz3 : ¬ ((i2 : Int) < (i2 : Int)) := by omega
                have HN9 : Hid (Since14 D w0 q F4 l4 wr) := hide (HN8.out.keep H HKW2.out (fun k hf hg => (HG6.out k hg).1 hf) (fun k hg => (HG6.out k hg).2.1))
                obtain ⟨b0, b1, b2, b3, b4, b5, b6⟩ := box_act (HBX.out.belowI HN9.out.b)
                go_wp2_with fail
                refine (H.writes tx HN9.out.d HO1.out.tx).mono ?_
                rintro e w10 ⟨v10, rfl, ho10, hB10⟩
                have HN10 := hide (HN9.out.below H hB10)
                have HO10 := hide ho10
                have HG10 : Hid (∀ g, v10.ownBlock = some g → g < w10.heap.size) := hide (fun g hg => (ho10.lt g hg).2)
                have HZ10 := hide (box_new w10 #[.int .u32 0, .int .u32 0] 35)
                have hA10 : Below w10.heap.size w10 (w10.alloc (.cells #[.int .u32 0, .int .u32 0] 35)) := (Below.refl _ _).alloc (Nat.le_refl _) _
                have HZN10 := hide (HN10.out.below H hA10)
                have HZO10 := hide (owns_keep HO10.out (KeepBut.of_below (fun _ => False) hA10) (fun _ _ h => h))
                have HNF10 : Hid (¬ F4 w10.heap.size) := hide (fun hf => Nat.lt_irrefl _ (H.lt HN10.out.d _ hf))
                have h10 := HN10.out.b.size
                obtain ⟨ka, kc, e10⟩ : ∃ a c, v10 = .slice a (tW l4 tx).length c := by
                  obtain ⟨_, ⟨rfl, e⟩ | ⟨g', cap', cur, rfl, _⟩⟩ := ho10
                  · exact ⟨_, _, by rw [e]⟩
                  · exact ⟨_, _, rfl⟩
                subst e10
                rw [← HLT.out] at HO10 HG10 HZO10 ⊢
                obtain ⟨RG2, hRG2⟩ : ∃ RG, RG = rgOf l4 tx := ⟨_, rfl⟩
                obtain ⟨BJ, hBJ⟩ : ∃ BI, BI = (onS l4 tx).isSome := ⟨_, rfl⟩
                rw [← hRG2, ← hBJ]
                clear hRG2 hBJ hB10 ho10 hA10 b0 b1 b2 b3 b4 b5 b6
                go_wp2_with (refine wp_store_box rfl rfl _ _ rfl w10.heap.size rfl (cs' := #[.int .u32 (RG2.1 : Int), .int .u32 (RG2.2 : Int)]) rfl HZ10.out rfl info14Rg (by simp [Value.oneCell']) ?_; intro w11 hb11 hk11; have HN11 : Hid (Since14 D w0 q F4 l4 w11) := hide (HZN10.out.keep H hk11 (fun k hf e => HNF10.out (by rw [← e]; exact hf)) (fun k e => by omega)); have HO11 := hide (owns_keep HZO10.out hk11 (fun g hg e => by have h9 := HG10.out g hg; omega)); obtain ⟨b0, b1, b2, b3, b4, b5, b6⟩ := box_act (HBX.out.belowI HN11.out.b); clear hb11 hk11)
                have HB12 := hide HN11.out.b
                clear b0 b1 b2 b3 b4 b5 b6
                obtain ⟨w13, hw13⟩ : ∃ w13, w13 = (w11.alloc (.cells #[.map none, .map none] 65)).alloc (.cells #[.pointer none, .pointer (some ⟨w11.heap.size, 0, none⟩)] 23) := ⟨_, rfl⟩
                rw [← hw13]
                have hA13 : Below w11.heap.size w11 w13 := by rw [hw13]; exact ((Below.refl _ _).alloc (Nat.le_refl _) _).alloc (by simp) _
                have HB13 := hide (HB12.out.trans (hA13.mono HB12.out.size))
                have HZS : Hid (Box w13 w11.heap.size #[.map none, .map none] 65) := hide (by rw [hw13]; exact (box_new _ _ _).belowI ((Below.refl _ _).alloc (Nat.le_refl _) _))
                have HZP : Hid (Box w13 (w11.heap.size + 1) #[.pointer none, .pointer (some ⟨w11.heap.size, 0, none⟩)] 23) := hide (by rw [hw13]; have := box_new (w11.alloc (.cells #[.map none, .map none] 65)) #[.pointer none, .pointer (some ⟨w11.heap.size, 0, none⟩)] 23; simpa using this)
                clear hw13 hA13
                go_loopg [159] 2 (fun g i wr => ∃ (j : Nat), j + g = 2 ∧ i = .int .i64 j ∧ Hid (Below w13.heap.size w13 wr))
                case atStart => exact ⟨0, by omega, rfl, hide (Below.refl _ _)⟩
                case round =>
                  obtain ⟨i3, hj3, rfl, HBL⟩ := hrel
                  cases gk with
                  | zero =>
                    obtain rfl : i3 = 2 := by omega
                    have HBE := hide (HB0.out.trans ((HB13.out.trans (HBL.out.mono HB13.out.size)).mono HB0.out.size))
                    go_wp2_with (go_at_call 8; refine (CA.out _).mono ?_; rintro e w14 ⟨rfl, hB14⟩; have HB14 := hide (HBE.out.trans (hB14.mono HBE.out.size)); clear hB14)
                    go_ret
                    exact ⟨rfl, HB14.out⟩
                  | succ g =>
                    have hz4 : (i3 : Int) < 2 := by omega
                    obtain ⟨p, hcp, HNn⟩ : ∃ p, wr.cell? ⟨w11.heap.size + 1, i3, none⟩ = some (.pointer p) ∧ Hid (N wr (.pointer p)) := by
                      have h1 := HZP.out.belowI HBL.out
                      rcases (show i3 = 0 ∨ i3 = 1 by omega) with rfl | rfl
                      · exact ⟨none, h1.cell _ _ rfl, hide (HN.nil _)⟩
                      · exact ⟨some ⟨w11.heap.size, 0, none⟩, h1.cell _ _ rfl, hide (HN.zero (HZS.out.belowI HBL.out))⟩
                    have HBW := hide (HB13.out.trans (HBL.out.mono HB13.out.size))
                    obtain ⟨b0, b1, b2, b3, b4, b5, b6⟩ := box_act (HBX.out.belowI HBW.out)
                    go_wp2_with fail
                    refine (HN.take tx HNn.out).mono ?_
                    rintro e w14 ⟨rfl, hB14⟩
                    have HB14 := hide hB14
                    have HBW14 := hide (HBW.out.trans (HB14.out.mono HBW.out.size))
                    have HNn14 := hide (HN.below HNn.out HB14.out)
                    clear hB14 b0 b1 b2 b3 b4 b5 b6
                    obtain ⟨b0, b1, b2, b3, b4, b5, b6⟩ := box_act (HBX.out.belowI HBW14.out)
                    go_wp2_with fail
                    refine (HN.writes tx HNn14.out).mono ?_
                    rintro e w15 ⟨rfl, hB15⟩
                    have HB15 := hide (HB14.out.trans (hB15.mono HB14.out.size))
                    have HNn15 := hide (HN.below HNn14.out hB15)
                    have HZ15 := hide (box_new w15 #[.int .u32 0, .int .u32 0] 35)
                    have HAA15 : Hid (Below w15.heap.size w15 (w15.alloc (.cells #[.int .u32 0, .int .u32 0] 35))) := hide ((Below.refl _ _).alloc (Nat.le_refl _) _)
                    clear hB15 b0 b1 b2 b3 b4 b5 b6
                    go_wp2_with (refine wp_store_box rfl rfl _ _ rfl w15.heap.size rfl (cs' := #[.int .u32 0, .int .u32 0]) rfl HZ15.out rfl info14Rg (by simp [Value.oneCell']) ?_; intro w16 hb16 hk16; have HA16 : Hid (Below w15.heap.size w15 w16) := hide (Below.trans_keep14 HAA15.out hk16); have HB16 := hide (HB15.out.trans (HA16.out.mono HB15.out.size)); have HNn16 := hide (HN.below HNn15.out HA16.out); clear hb16 hk16)
                    refine (HN.owner keyA14 HNn16.out).mono ?_
                    rintro e w17 ⟨rfl, hB17⟩
                    have HB17 := hide (HB16.out.trans (hB17.mono HB16.out.size))
                    have HNn17 := hide (HN.below HNn16.out hB17)
                    have HZ17 := hide (box_new w17 #[.int .u8 0, .int .u32 0, .int .u32 0] 33)
                    have HAA17 : Hid (Below w17.heap.size w17 (w17.alloc (.cells #[.int .u8 0, .int .u32 0, .int .u32 0] 33))) := hide ((Below.refl _ _).alloc (Nat.le_refl _) _)
                    clear hB17
                    go_wp2_with (refine wp_store_box rfl rfl _ _ rfl w17.heap.size rfl (cs' := #[.int .u8 0, .int .u32 0, .int .u32 0]) rfl HZ17.out rfl info14Tx (by simp [Value.oneCell']) ?_; intro w18 hb18 hk18; have HA18 : Hid (Below w17.heap.size w17 w18) := hide (Below.trans_keep14 HAA17.out hk18); have HB18 := hide (HB17.out.trans (HA18.out.mono HB17.out.size)); have HNn18 := hide (HN.below HNn17.out HA18.out); have HBW18 := hide (HBW.out.trans (HB18.out.mono HBW.out.size)); obtain ⟨b0, b1, b2, b3, b4, b5, b6⟩ := box_act (HBX.out.belowI HBW18.out); clear hb18 hk18)
                    refine (HN.put tx rg _ HNn18.out).mono ?_
                    rintro e w19 ⟨rfl, hB19⟩
                    have HB19 := hide (HB18.out.trans (hB19.mono HB18.out.size))
                    have HNn19 := hide (HN.below HNn18.out hB19)
                    clear hB19 b0 b1 b2 b3 b4 b5 b6
                    go_wp2_with fail
                    refine (HN.all HNn19.out).mono ?_
                    rintro e w20 ⟨rfl, rfl⟩
                    go_wp2_with fail
                    go_roundg g
                    case measure => omega
                    case rel => exact ⟨i3 + 1, by omega, by first | rfl | go_num, hide (HBL.out.trans (HB19.out.mono HBL.out.size))⟩
        | succ g =>
          have hz2 : (j : Int) < (LO : Int) := by omega
          have hma : ∃ g0 o0, ma = some ⟨g0, o0, none⟩ ∧ o0 = 0 := by
            obtain ⟨_, ⟨e, e9⟩ | ⟨g', cap', cur, e, _⟩⟩ := id HO4.out
            · omega
            · cases e
              exact ⟨_, _, rfl, rfl⟩
          obtain ⟨g0, o0, rfl, rfl⟩ := hma
          obtain ⟨ver, hc1, hc2, hc3, hc4⟩ := inc_step (HIN.out g0 rfl) (by omega : j < LO)
          have HC4 := hide hc4
          have hcap : LO ≤ mc := by
            obtain ⟨_, ⟨e, e9⟩ | ⟨g', cap', cur, e, _, _, h9, _⟩⟩ := id HO4.out
            · cases e
            · cases e
              exact h9
          clear hc4
          go_wp2_with fail
          go_roundg g
          case measure => omega
          case rel =>
            refine ⟨j + 1, by omega, by first | rfl | go_num, hide (keep_set HKW.out rfl), hide (fun g hg => ?_)⟩
            cases hg
            exact HC4.out _
    | succ g =>
      have hz : (k : Int) < (LN : Int) := by omega
      have hkn : k < ts.length := by rw [← HLN.out]; omega
      obtain ⟨en, b, off, rfl, hb, hcl⟩ := (HT.out.below HNL.out.b).at recSA.len hkn
      have HRg : Hid (wr.rangeAt b (off + k * 7) (sactE ts[k])) := hide (fun j v hv => hcl j v hv)
      have HOA := hide ((HTO.out _ (List.getElem_mem hkn)).below HNL.out.b)
      have HFW := hide (HFF.out _ (List.getElem_mem hkn))
      have HFO := hide (take_fold putV [] ts hkn)
      generalize ts[k] = a at *
      obtain ⟨⟨tk2, ⟨tx2, rg2, ws2⟩⟩, pv⟩ := a
      obtain ⟨ro, rc, e1, hrc, _⟩ := HOA.out.src.shape
      dsimp only at e1
      subst e1
      obtain ⟨LR, hLR⟩ : ∃ LR, LR = ws2.length := ⟨_, rfl⟩
      have HS2 : Hid (RSrc wrE wr (.slice ro LR rc) ws2) := hide (by rw [hLR]; exact HOA.out.src)
      have HO2 : Hid (OnOk ⟨tx2, rg2, ws2⟩) := hide HOA.out.on
      rw [← hLR] at HRg HFO
      obtain ⟨lk, hlk⟩ : ∃ lk, lk = (ts.take k).foldl putV [] := ⟨_, rfl⟩
      rw [← hlk] at HNL HFO
      have HZ := hide (box_new wr (sactA zeroSV) 38)
      have HZN := hide (HNL.out.below H ((Below.refl wr.heap.size wr).alloc (Nat.le_refl _) (.cells (sactA zeroSV) 38)))
      have HZS := hide (HS2.out.below ((Below.refl wr.heap.size wr).alloc (Nat.le_refl _) (.cells (sactA zeroSV) 38)))
      have HNF : Hid (¬ F wr.heap.size) := hide (fun hf => Nat.lt_irrefl _ (H.lt HNL.out.d _ hf))
      have HSB : Hid (∀ g, (Value.slice ro LR rc).ownBlock = some g → LR ≠ 0 → g < wr.heap.size) := hide (fun g hg hne => by
        have hw : ws2 ≠ [] := fun e => hne (by rw [hLR, e]; rfl)
        obtain ⟨b9, o9, c9, e9, h9, _⟩ := HS2.out.block hw
        cases e9
        cases hg
        exact h9)
      have hws := HNL.out.b.size
      clear hcl en hb hrc HOA hLR hlk
      go_wp2_with (first | (refine wpList_load_mid rfl 38 _ rfl b (off + k * 7) rfl (sactE ⟨⟨tk2, ⟨tx2, rg2, ws2⟩⟩, .slice ro LR rc⟩) _ HRg.out Try.underlying38 rfl infoSA ?_) | (refine wp_store_box rfl rfl _ _ rfl wr.heap.size rfl (cs' := sactA ⟨⟨tk2, ⟨tx2, rg2, ws2⟩⟩, .slice ro LR rc⟩) rfl HZ.out rfl infoSA (by simp [Value.oneCell']) ?_; intro w5 hb3 hk3; have HX5 := hide hb3; have HN5 : Hid (Since14 D w0 q F lk w5) := hide (HZN.out.keep H hk3 (fun k hf e => HNF.out (by rw [← e]; exact hf)) (fun k e => by omega)); have HK5 := hide hk3; clear hb3 hk3; obtain ⟨y0, y1, y2, y3, y4, y5, y6⟩ := box_act HX5.out))
      have HL3 : Hid ((ts.take (k + 1)).foldl putV [] = pS lk ⟨tx2, rg2, ws2⟩) := hide (by rw [HFO.out]; rfl)
      have HS5 : Hid (RSrc wrE w5 (.slice ro LR rc) ws2) := hide (by
        by_cases hz9 : LR = 0
        · obtain ⟨ao9, c9, e9, r1, r2, r3, r4⟩ := HZS.out
          refine ⟨ao9, c9, e9, r1, r2, r3, fun hne => absurd hz9 (fun e => hne ?_)⟩
          cases e9
          exact List.eq_nil_of_length_eq_zero hz9
        · exact HZS.out.keep HK5.out (fun g hg e => by have := HSB.out g hg hz9; omega))
      have hdr : Below w5.heap.size w5 w5.drew := (Below.refl _ _).drew
      have HSD := hide (HS5.out.below hdr)
      have HFB : Hid (([] : List WrP).length + ws2.length ≤ 1000000) := hide (by have h9 : ws2.length ≤ 40 := HFW.out; simp; omega)
      go_wp2_with fail
      (go_region_held_law (fun w' => w'.cell? ⟨wr.heap.size, 1, none⟩ = some (.int .u8 (tx2.1 : Int)) ∧ w'.cell? ⟨wr.heap.size, 2, none⟩ = some (.int .u32 (tx2.2.1 : Int)) ∧ w'.cell? ⟨wr.heap.size, 3, none⟩ = some (.int .u32 (tx2.2.2 : Int)) ∧ w'.cell? ⟨wr.heap.size, 4, none⟩ = some (.int .u32 (rg2.1 : Int)) ∧ w'.cell? ⟨wr.heap.size, 5, none⟩ = some (.int .u32 (rg2.2 : Int)) ∧ w'.cell? ⟨wr.heap.size, 6, none⟩ = some (.slice ro LR rc)) (go_keep) ((first
        | (refine step_recs recWR _ rfl _ _ rfl w5.heap.size _ _ [] ws2 rfl (World.ownsRow_nil _ _ _ _) rfl HSD.out (fun x _ => wr_one x) HFB.out (Nat.le_refl _) ?_; intro v6 w6 ho6 hg6 hb6; have hB6 : Below w5.heap.size w5 w6 := hdr.trans (grown_none (Nat.le_refl _) hg6); have HN6 := hide (HN5.out.below H hB6); have HX6 := hide (HX5.out.belowI hB6); have HS6 := hide (src_row14 (xs := ws2) ho6); obtain ⟨u0, u1, u2, u3, u4, u5, u6⟩ := box_act HX6.out; clear ho6 hg6 hb6 hB6 y0 y1 y2 y3 y4 y5 y6)
        | (go_at_call 13; refine (H.put ⟨tx2, rg2, ws2⟩ _ HN6.out.d HO2.out HS6.out).mono ?_; rintro e w7 ⟨rfl, hd7⟩; obtain ⟨F7, hs7, hk7, _⟩ := HN6.out.did hd7; have HN7 := hide hs7; obtain ⟨t0, t1, t2, t3, t4, t5, t6⟩ := box_act (HX6.out.keep hk7 HNF.out); clear hd7 hs7 hk7 u0 u1 u2 u3 u4 u5 u6))))
      have HNX : Hid (Since14 D w0 q F7 ((ts.take (k + 1)).foldl putV []) w7) := hide (by rw [HL3.out]; exact HN7.out)
      go_wp2_with fail
      go_roundg g
      case measure => omega
      case rel => exact ⟨k + 1, F7, by omega, by first | rfl | go_num, HNX⟩
end
section
open Go.RowKit Go.ChangeShapes Go.WideShapes Go.ChangeAt

namespace stageRefused
set_option maxRecDepth 100000 in
theorem lifted (os : Os) (started : os.Started) (H : Type) (enc : TypeId × Value → H) :
    ReturnsInHanded {} Try.checked os 4 .any (Rows.stageRefusedSpec.pre6 enc Try.prog Try.f4 Rows.stageRefusedRow.domain false) (Rows.stageRefusedSpec.post enc Try.prog Try.f4 false true false false) := by
  refine returnsInHanded_of_change_sized (C := Try.checked) own started (by kernel_rfl) Try.func4
    (ChangeSpec.witness6 (enc := enc) (C := Try.checked) false ⟨#[], #[.slice none 0 0, .agg (sactA zeroSV)], []⟩ 8 (by kernel_rfl) (by kernel_rfl) (by kernel_rfl) (by kernel_rfl)) ?_
  intro W base args ds gs before hval0 hW hcnd hsz _
  have hval : ∀ (j : Nat) t v, Try.f4.params[j]? = some t → args[j]? = some v → Value.okWide Try.prog W .any base t v := hval0
  have hW' := hW
  obtain ⟨p, q, hA0, hV, rfl, hfz, hnd⟩ := hW
  have hA : DataW.TrodAll enc Try.prog W 0 (fun _ => true) true Try.f4.params.toList args.toList ds p := hA0
  have hsz2 : ∀ (j : Nat) (t : TypeId) (d : DataW H), Try.f4.params.toList[j]? = some t → ds[j]? = some d → ∀ n ∈ d.weights Try.prog t, n ≤ 140737488351232 := fun j t d ht hd n hn => by
    have h1 := List.all_eq_true.1 hsz n (DataW.weights_mem_each (j := j) (t := t) (d := d) (by rw [List.getElem?_append_left (List.getElem?_eq_some_iff.1 ht).1]; exact ht) (by rw [List.getElem?_append_left (List.getElem?_eq_some_iff.1 hd).1]; exact hd) n hn)
    have h2 : n ≤ reachBytes := by simpa using h1
    have h3 : reachBytes = 140737488351232 := rfl
    omega
  rw [Try.params4] at hA hval hsz2
  obtain ⟨v0, vs0, d0, ds0, p0, q0, hargs, rfl, rfl, h0, r0⟩ := trodAll_cons hA
  obtain ⟨v1, vs1, d1, ds1, p1, q1, rfl, rfl, rfl, h1, r1⟩ := trodAll_cons r0
  obtain ⟨rfl, rfl, rfl⟩ := trodAll_nil r1
  obtain rfl : args = #[v0, v1] := by cases args; simp_all
  obtain ⟨rfl, rfl⟩ := trodVars_none hV
  obtain ⟨a0, len0, cap0, rfl⟩ := okWide_slice Try.underlying22 (hval 0 22 v0 rfl rfl)
  have k0 := h0
  have lt0 : ∀ x ∈ p0, x.block < W.heap.size := by obtain ⟨m, hm⟩ := k0; exact DataW.trod_lt m _ _ _ hm
  obtain ⟨xs0, lies0, by0⟩ := sacts_of_trod h0
  have k1 := h1
  have lt1 : ∀ x ∈ p1, x.block < W.heap.size := by obtain ⟨m, hm⟩ := k1; exact DataW.trod_lt m _ _ _ hm
  obtain ⟨ac1, rfl, ok1⟩ := sact_of_trod (hval 1 38 v1 rfl rfl) h1
  clear hA0 hval0
  refine (walkR14 ps_do nob14_do _ xs0 ac1 W lies0 by0 ok1).mono fun e W' ⟨he, bel⟩ => ?_
  subst he
  exact ⟨_, rfl, _, _, _, [], _, [], hW', trodAll_mk1 (shut_bool Try.underlying4 _), (trodAll_cons_mk (Below.trod laidOut (by kernel_rfl) (of_decide_eq_true (by kernel_rfl)) k0 bel lt0) (trodAll_cons_mk (Below.trod laidOut (by kernel_rfl) (of_decide_eq_true (by kernel_rfl)) k1 bel lt1) trodAll_mk0)), rfl, bel.frame _, fun h => by cases h⟩

theorem over : Rows.stageRefusedRow.holds Try.pinned (OpenSpec.ofChange Rows.stageRefusedSpec) :=
  OpenClaim.holds_of_wide 4 Try.f4 rfl rfl rfl rfl rfl rfl rfl ⟨rfl, rfl, rfl, rfl, rfl⟩ rfl rfl rfl rfl rfl (by kernel_rfl) Try.func4 (by kernel_rfl)
    (of_decide_eq_true (by kernel_rfl)) (by unfold Func.isWrapper; first | (rw [if_pos (by decide +kernel)]; kernel_rfl) | (rw [if_neg (by decide +kernel)]; exact ⟨rfl, rfl⟩))
    (fun os started H enc _ => lifted os started H enc)
end stageRefused

/-- THE STATEMENT. -/
theorem stageRefused_holds : Rows.StageRefusedSaid := stageRefused.over
#print axioms stageRefused_holds
end
end Go.Proofs.Ytodomdmmffooaaa
