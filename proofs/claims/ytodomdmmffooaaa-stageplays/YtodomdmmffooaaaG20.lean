/-
  Own texts put together: SgPut2, SgTake. Own work.
-/
import Derived.Test.YtodomdmmffooaaaG19
namespace Go.Proofs.Ytodomdmmffooaaa
section
open Go.RowKit Go.Maps Classical

/-- What a Put leaves. -/
def PDid (w w' : World) (q b1 b2 : Nat) (p : TxN → Value) (l l' : List OnP) : Prop := ∃ p', PSg w' q b1 b2 p' l' ∧ KeepBut (fun k => k = b1 ∨ k = b2) w w' ∧ ∀ k, FSg q b1 b2 p' l' k → FSg q b1 b2 p l k ∨ w.heap.size ≤ k
theorem PDid.same {w w' : World} {q b1 b2 : Nat} {p : TxN → Value} {l : List OnP} (h : PSg w q b1 b2 p l) (hB : Below w.heap.size w w') : PDid w w' q b1 b2 p l l := ⟨p, h.below hB, KeepBut.of_below _ hB, fun _ h => .inl h⟩
theorem may_split (x : OnP) : mayO x = (txMayB (txI x.tx) && regMayB ((x.rg.1 : Int), (x.rg.2 : Int)) && !x.wr.isEmpty && wsMayB x.wr) := rfl
theorem pA_ref {l : List OnP} {x : OnP} (hm : mayO x = true) (hn : onS l x.tx = none) : pA l x = refS l x.wr := by
  unfold pA putA
  rw [if_pos hm, hn]
  rfl
/-- Put's loop, and what comes behind. -/
theorem len_empty {ws : List WrP} : (((ws.length : Nat) : Int) == 0) = ws.isEmpty := by
  cases ws with
  | nil => rfl
  | cons a l =>
    simp
    omega
theorem row_shape14 {w : World} {base e K n : Nat} {v : Value} {xs : List Value} (h : w.ownsRow base e K v n xs) : ∃ a c, v = .slice a n c := by
  obtain ⟨_, ⟨rfl, rfl⟩ | ⟨g', cap, cur, rfl, _⟩⟩ := h
  · exact ⟨_, _, rfl⟩
  · exact ⟨_, _, rfl⟩
set_option maxRecDepth 100000 in
set_option maxHeartbeats 6400000 in
theorem psPut_any (q b1 b2 : Nat) (p : TxN → Value) (l : List OnP) (x : OnP) (v : Value) (w : World) (h : PSg w q b1 b2 p l) (hx : OnOk x) (hs : RSrc wrE w v x.wr) :
    Calls Try.prog 13 #[.pointer (some ⟨q, 0, none⟩), txVN x.tx, rgV x.rg, v] w fun e w' => e = .returned (.int .i64 (pA l x)) ∧ PDid w w' q b1 b2 p l (pS l x) := by
  obtain ⟨tx, rg, ws⟩ := x
  have hA := alloc_below14 w (.cells #[.int .u8 (tx.1 : Int), .int .u32 (tx.2.1 : Int), .int .u32 (tx.2.2 : Int)] 33)
  have hA2 := alloc_below14 (w.alloc (.cells #[.int .u8 (tx.1 : Int), .int .u32 (tx.2.1 : Int), .int .u32 (tx.2.2 : Int)] 33)) (.cells #[.int .u32 (rg.1 : Int), .int .u32 (rg.2 : Int)] 35)
  have hB2 := hA.trans (hA2.mono hA.size)
  have HPS := hide h
  have H2 := hide (h.below hB2)
  have HSR := hide (hs.below hB2)
  have C := hide (made14 q b1 b2 _ H2.out.box)
  have HXT := hide ((box_new w #[.int .u8 (tx.1 : Int), .int .u32 (tx.2.1 : Int), .int .u32 (tx.2.2 : Int)] 33).belowI hA2)
  have HXR : Hid (Box ((w.alloc (.cells #[.int .u8 (tx.1 : Int), .int .u32 (tx.2.1 : Int), .int .u32 (tx.2.2 : Int)] 33)).alloc (.cells #[.int .u32 (rg.1 : Int), .int .u32 (rg.2 : Int)] 35)) (w.heap.size + 1) #[.int .u32 (rg.1 : Int), .int .u32 (rg.2 : Int)] 35) := hide (by have := box_new (w.alloc (.cells #[.int .u8 (tx.1 : Int), .int .u32 (tx.2.1 : Int), .int .u32 (tx.2.2 : Int)] 33)) #[.int .u32 (rg.1 : Int), .int .u32 (rg.2 : Int)] 35; simpa using this)
  have HB2 := hide hB2
  have HOK := hide hx
  have CT := hide (fun W => txMay_any (tx.1 : Int) (tx.2.1 : Int) (tx.2.2 : Int) W)
  have CR := hide (fun W => regMay_any (rg.1 : Int) (rg.2 : Int) W)
  have CW := hide (fun W hW => writesMay_any v ws W hW hx.wr)
  obtain ⟨ao, cap, rfl, hc, hm⟩ := hs.shape
  unfold maxLen at hm
  dsimp only at hc
  have HMS := hide (may_split ⟨tx, rg, ws⟩)
  have HLE := hide (len_empty (ws := ws))
  obtain ⟨N1, hN1⟩ : ∃ N1, N1 = txMayB (txI tx) := ⟨_, rfl⟩
  obtain ⟨N2, hN2⟩ : ∃ N2, N2 = regMayB ((rg.1 : Int), (rg.2 : Int)) := ⟨_, rfl⟩
  obtain ⟨N3, hN3⟩ : ∃ N3, N3 = ws.isEmpty := ⟨_, rfl⟩
  obtain ⟨N4, hN4⟩ : ∃ N4, N4 = wsMayB ws := ⟨_, rfl⟩
  have hN1' : N1 = txMayB ((tx.1 : Int), (tx.2.1 : Int), (tx.2.2 : Int)) := hN1
  dsimp only at HMS
  rw [← hN1, ← hN2, ← hN3, ← hN4] at HMS
  rw [← hN1'] at CT
  rw [← hN2] at CR
  rw [← hN3] at HLE
  rw [← hN4] at CW
  have HN3 := hide hN3
  obtain ⟨LN, hLN⟩ : ∃ LN, LN = ws.length := ⟨_, rfl⟩
  dsimp only at HSR CW
  rw [← hLN] at HSR HLE hc CW ⊢
  have hle : ((LN : Int) == 0) = N3 := HLE.out
  have HLN := hide hLN
  have HP1 : Hid (mayO ⟨tx, rg, ws⟩ = false → pA l ⟨tx, rg, ws⟩ = 1 ∧ pS l ⟨tx, rg, ws⟩ = l) := hide (fun e => by unfold pA pS; rw [e]; exact ⟨rfl, rfl⟩)
  clear h hx hs hA hA2 hB2 hN1 hN2 hN3 hN4 hN1' HLE hLN
  go_enter Try.func13, Try.ntmps13
  go_wp2_with fail
  refine C.out.mono ?_
  rintro e w1 ⟨rfl, hw1⟩
  replace H2 : Hid (PSg w1 q b1 b2 p l) := hide (by rw [hw1]; exact H2.out)
  replace HSR : Hid (RSrc wrE w1 (.slice ao LN cap) ws) := hide (by rw [hw1]; exact HSR.out)
  replace HXT : Hid (Box w1 w.heap.size #[.int .u8 (tx.1 : Int), .int .u32 (tx.2.1 : Int), .int .u32 (tx.2.2 : Int)] 33) := hide (by rw [hw1]; exact HXT.out)
  replace HXR : Hid (Box w1 (w.heap.size + 1) #[.int .u32 (rg.1 : Int), .int .u32 (rg.2 : Int)] 35) := hide (by rw [hw1]; exact HXR.out)
  replace HB2 : Hid (Below w.heap.size w w1) := hide (by rw [hw1]; exact HB2.out)
  clear hw1 C
  go_wp2_with (refine wp_load_box rfl _ rfl w.heap.size rfl HXT.out Try.underlying33 rfl infoTx14 ?_)
  cases N1 with
  | false =>
    have HM := HP1.out (by rw [HMS.out]; rfl)
    refine (CT.out w1).mono ?_
    rintro e w3 ⟨rfl, hB3⟩
    have HB3 := hide (HB2.out.trans (hB3.mono HB2.out.size))
    clear hB3
    go_wp2_with fail
    go_ret
    exact ⟨by rw [HM.1]; rfl, by rw [HM.2]; exact PDid.same HPS.out HB3.out⟩
  | true =>
  refine (CT.out w1).mono ?_
  rintro e w3 ⟨rfl, hB3⟩
  replace HB2 := hide (HB2.out.trans (hB3.mono HB2.out.size))
  replace H2 := hide (H2.out.below hB3)
  replace HSR := hide (HSR.out.below hB3)
  replace HXT := hide (HXT.out.belowI hB3)
  replace HXR := hide (HXR.out.belowI hB3)
  clear hB3 CT
  go_wp2_with (first | (refine wp_load_box_g rfl _ rfl (w.heap.size + 1) rfl HXR.out Try.underlying35 rfl infoRg14 ?_))
  cases N2 with
  | false =>
    have HM := HP1.out (by rw [HMS.out]; rfl)
    refine (CR.out w3).mono ?_
    rintro e w4 ⟨rfl, hB3⟩
    have HB3 := hide (HB2.out.trans (hB3.mono HB2.out.size))
    clear hB3
    go_wp2_with fail
    go_ret
    exact ⟨by rw [HM.1]; rfl, by rw [HM.2]; exact PDid.same HPS.out HB3.out⟩
  | true =>
  refine (CR.out w3).mono ?_
  rintro e w4 ⟨rfl, hB3⟩
  replace HB2 := hide (HB2.out.trans (hB3.mono HB2.out.size))
  replace H2 := hide (H2.out.below hB3)
  replace HSR := hide (HSR.out.below hB3)
  replace HXT := hide (HXT.out.belowI hB3)
  replace HXR := hide (HXR.out.belowI hB3)
  clear hB3 CR
  cases N3 with
  | true =>
    have HM := HP1.out (by rw [HMS.out]; rfl)
    go_wp2_with fail
    go_ret
    exact ⟨by rw [HM.1]; rfl, by rw [HM.2]; exact PDid.same HPS.out HB2.out⟩
  | false =>
  have CW4 := hide (CW.out w4 HSR.out)
  clear CW
  go_wp2_with fail
  cases N4 with
  | false =>
    have HM := HP1.out (by rw [HMS.out]; rfl)
    refine CW4.out.mono ?_
    rintro e w5 ⟨rfl, hB3⟩
    have HB3 := hide (HB2.out.trans (hB3.mono HB2.out.size))
    clear hB3
    go_wp2_with fail
    go_ret
    exact ⟨by rw [HM.1]; rfl, by rw [HM.2]; exact PDid.same HPS.out HB3.out⟩
  | true =>
  refine CW4.out.mono ?_
  rintro e w5 ⟨rfl, hB3⟩
  replace HB2 := hide (HB2.out.trans (hB3.mono HB2.out.size))
  replace H2 := hide (H2.out.below hB3)
  replace HSR := hide (HSR.out.below hB3)
  replace HXT := hide (HXT.out.belowI hB3)
  replace HXR := hide (HXR.out.belowI hB3)
  have HMM : Hid (mayO ⟨tx, rg, ws⟩ = true) := hide (by rw [HMS.out]; rfl)
  clear hB3 CW4 HMS HP1
  -- the one that is there
  have h0 : w5.cell? ⟨q, 0, none⟩ = some (.map (some b1)) := H2.out.box.cell 0 _ rfl
  obtain ⟨k0, k1, k2⟩ := HXT.out.three
  have L1 := (H2.out.m1.below (below_drew14 w5)).look pmTy ⟨tx, HOK.out.tx⟩
  have L2 := fun o => ((H2.out.m1.below (alloc_below14 w5 o)).below (below_drew14 _)).look pmTy ⟨tx, HOK.out.tx⟩
  have hlt := HXT.out.lt
  have hqt := H2.out.box.lt
  cases hf : onS l tx with
  | some y =>
    obtain ⟨yt, ⟨ya, yb⟩, yws⟩ := y
    have e1 : gP l p ⟨tx, HOK.out.tx⟩ = some ((ya, yb), p tx) := by show (onS l tx).map _ = _; rw [hf]; rfl
    simp only [e1, Option.getD_some, Option.isSome_some] at L1 L2
    have hy := (onS_some H2.out.all.ok).1 hf
    have hrow : RSrc wrE w5 (p tx) yws := by have := src_of_row (H2.out.rows _ hy.1); rw [hy.2] at this; exact this
    have HYO := hide (H2.out.oks _ hy.1)
    obtain ⟨sa, sc, e2, _, _⟩ := hrow.shape
    rw [e2] at L1 hrow
    simp only [e2] at L2
    have HEA : Hid (pA l ⟨tx, rg, ws⟩ = (if (decide ((ya, yb) = rg) && wsEqB yws ws) = true then 0 else 7) ∧ pS l ⟨tx, rg, ws⟩ = l) := hide (by
      unfold pA pS putA putS
      dsimp only
      rw [HMM.out, hf]
      simp)
    have CF := hide (fun W hW hW2 => wkRefusal (ya, yb) rg (.slice sa yws.length sc) (.slice ao LN cap) yws ws W hW hW2 HYO.out.wr HOK.out.wr)
    have HROW := hide hrow
    obtain ⟨R, hR⟩ : ∃ R : Int, R = (if (decide ((ya, yb) = rg) && wsEqB yws ws) = true then 0 else 7) := ⟨_, rfl⟩
    rw [← hR] at HEA
    simp only [← hR] at CF
    generalize yws.length = yn at *
    clear hf e1 hrow hy e2 hR
    go_wp2_with fail
    go_region
    have hA3 := (alloc_below14 w5 (.cells #[.int .u32 (ya : Int), .int .u32 (yb : Int), .slice sa yn sc] 86)).trans ((below_drew14 (w5.alloc (.cells #[.int .u32 (ya : Int), .int .u32 (yb : Int), .slice sa yn sc] 86))).mono (by simp))
    have HX3 := hide ((box_new w5 #[.int .u32 (ya : Int), .int .u32 (yb : Int), .slice sa yn sc] 86).belowI (below_drew14 _))
    have HR3 := hide (HXR.out.belowI hA3)
    have HB3 := hide (HB2.out.trans (hA3.mono HB2.out.size))
    have CF3 := hide (CF.out _ (HROW.out.below hA3) (HSR.out.below hA3))
    clear hA3 L1 L2 HXT HXR HB2 H2 h0 k0 k1 k2 hlt hqt CF
    generalize (w5.alloc (.cells #[.int .u32 (ya : Int), .int .u32 (yb : Int), .slice sa yn sc] 86)).drew = w6 at *
    go_wp2_with (first | (refine wp_load_box rfl _ rfl w5.heap.size rfl HX3.out Try.underlying86 rfl infoWk14 ?_) | (refine wp_load_box rfl _ rfl (w.heap.size + 1) rfl HR3.out Try.underlying35 rfl infoRg14 ?_))
    refine CF3.out.mono ?_
    rintro e w7 ⟨rfl, hB7⟩
    have HB7 := hide (HB3.out.trans (hB7.mono HB3.out.size))
    clear hB7
    go_wp2_with fail
    go_ret
    exact ⟨by rw [HEA.out.1]; rfl, by rw [HEA.out.2]; exact PDid.same HPS.out HB7.out⟩
  | none =>
    have e1 : gP l p ⟨tx, HOK.out.tx⟩ = none := by show (onS l tx).map _ = _; rw [hf]; rfl
    simp only [e1, Option.getD_none, Option.isSome_none] at L1 L2
    have HNO := hide hf
    have HEA := hide (pA_ref HMM.out hf)
    clear hf e1
    go_wp2_with fail
    go_region
    have hA3 := (alloc_below14 w5 (.cells #[.int .u32 0, .int .u32 0, .slice none 0 0] 86)).trans ((below_drew14 (w5.alloc (.cells #[.int .u32 0, .int .u32 0, .slice none 0 0] 86))).mono (by simp))
    replace HXR := hide (HXR.out.belowI hA3)
    replace HXT := hide (HXT.out.belowI hA3)
    replace HB2 := hide (HB2.out.trans (hA3.mono HB2.out.size))
    replace HSR := hide (HSR.out.below hA3)
    replace H2 := hide (H2.out.below hA3)
    have CF := hide (psRefusal q b1 b2 p l (.slice ao LN cap) ws _ H2.out HSR.out HOK.out.wr)
    clear hA3 L1 L2 h0 k0 k1 k2 hlt hqt
    generalize (w5.alloc (.cells #[.int .u32 0, .int .u32 0, .slice none 0 0] 86)).drew = w6 at *
    go_wp2_with fail
    refine CF.out.mono ?_
    rintro e w7 ⟨rfl, hB7⟩
    replace HXR := hide (HXR.out.belowI hB7)
    replace HXT := hide (HXT.out.belowI hB7)
    replace HB2 := hide (HB2.out.trans (hB7.mono HB2.out.size))
    replace HSR := hide (HSR.out.below hB7)
    replace H2 := hide (H2.out.below hB7)
    clear hB7 CF
    obtain ⟨R, hR⟩ : ∃ R, R = refS l ws := ⟨_, rfl⟩
    rw [show refS l (OnP.mk tx rg ws).wr = R from hR.symm] at HEA
    rw [← hR]
    have HR := hide hR
    clear hR
    by_cases hr0 : R = 0
    · subst hr0
      have HIN : Hid (pS l ⟨tx, rg, ws⟩ = insS l ⟨tx, rg, ws⟩ ∧ SgOk (insS l ⟨tx, rg, ws⟩)) := hide (by
        rcases pS_ways HPS.out.all.ok ⟨tx, rg, ws⟩ with ⟨_, h1⟩ | ⟨_, _, _, e, ok⟩
        · have := (h1 HEA.out).1
          rw [show (OnP.mk tx rg ws).tx = tx from rfl, HNO.out] at this
          cases this
        · exact ⟨e, ok⟩)
      have hwl := may_len HMM.out
      dsimp only at hwl
      rw [← HLN.out] at hwl
      have CC := hide (fun W hW => clone14 (.slice ao LN cap) ws W hW (by rw [← HLN.out]; omega))
      have g0 : w7.cell? ⟨q, 0, none⟩ = some (.map (some b1)) := H2.out.box.cell 0 _ rfl
      obtain ⟨k0, k1, k2⟩ := HXT.out.three
      obtain ⟨r0, r1⟩ := HXR.out.two
      have tl := HXT.out.lt
      have rl := HXR.out.lt
      have ql := H2.out.box.lt
      have hdr := below_drew14 w7
      have HKB : Hid ((keysS l ++ ws.map WrP.key).length < maxLen) := hide (by
        have e1 := keys_len (fun x hx => may_len (HPS.out.all.may x hx).1)
        have e2 := HPS.out.all.ok.few
        rw [List.length_append, List.length_map, ← HLN.out]
        unfold maxLen
        omega)
      go_wp2_with fail
      first | (go_region_held (fun w' => w'.cell? ⟨q, 0, none⟩ = some (.map (some b1)) ∧ w'.cell? ⟨w.heap.size, 0, none⟩ = some (.int .u8 (tx.1 : Int)) ∧ w'.cell? ⟨w.heap.size, 1, none⟩ = some (.int .u32 (tx.2.1 : Int)) ∧ w'.cell? ⟨w.heap.size, 2, none⟩ = some (.int .u32 (tx.2.2 : Int)) ∧ w'.cell? ⟨w.heap.size + 1, 0, none⟩ = some (.int .u32 (rg.1 : Int)) ∧ w'.cell? ⟨w.heap.size + 1, 1, none⟩ = some (.int .u32 (rg.2 : Int))) (go_keep) (first | (go_at_call 37; refine (CC.out _ (HSR.out.below (below_drew14 _))).mono ?_; rintro e w8 ⟨v8, rfl, ho8, hB8⟩; obtain ⟨sa, sc, rfl⟩ := row_shape14 ho8; have hB78 : Below w7.heap.size w7 w8 := hdr.trans hB8; have H8 := hide (H2.out.below hB78); obtain ⟨w9, hrun, hm9, hk9⟩ := H8.out.m1.put pmTy (by have := HPS.out.all.ok.few; unfold maxLen; omega) ⟨tx, HOK.out.tx⟩ (rg, .slice sa ws.length sc); have HO8 := hide ho8; have HB8 := hide (HB2.out.trans (hB78.mono HB2.out.size)); have HS8 := hide (HSR.out.below hB78); have HX8 := hide (HXT.out.belowI hB78); obtain ⟨a0, a1, a2⟩ := HX8.out.three; obtain ⟨c0, c1⟩ := (HXR.out.belowI hB78).two; have d0 : w8.cell? ⟨q, 0, none⟩ = some (.map (some b1)) := H8.out.box.cell 0 _ rfl; have al := HX8.out.lt; have cl := (HXR.out.belowI hB78).lt; have dl := H8.out.box.lt; have HM9 := hide hm9; have HK9 := hide hk9; have HSZ : Hid (w7.heap.size ≤ w7.drew.heap.size) := hide (Nat.le_refl _); have e0 : w9.cell? ⟨q, 0, none⟩ = some (.map (some b1)) := (H8.out.box.keep hk9 H8.out.q_ne.1).cell 0 _ rfl; obtain ⟨e1, e2, e3⟩ := (HX8.out.keep hk9 (H8.out.m1.ne HX8.out)).three; obtain ⟨e4, e5⟩ := ((HXR.out.belowI hB78).keep hk9 (H8.out.m1.ne (HXR.out.belowI hB78))).two; clear ho8 hB8 hB78 hm9 hk9))) | fail
      have HP9 : Hid (PMap w9 b1 (fun t => if t.1 = tx then some (rg, .slice sa ws.length sc) else gP l p t) (l.length + 1)) := hide (by
        have e1 : gP l p ⟨tx, HOK.out.tx⟩ = none := by show (onS l tx).map _ = _; rw [HNO.out]; rfl
        have := HM9.out
        rw [e1] at this
        refine this.as fun t => ?_
        by_cases e2 : t = ⟨tx, HOK.out.tx⟩
        · rw [if_pos e2, e2, if_pos rfl]
        · rw [if_neg e2, if_neg (fun e3 => e2 (Subtype.ext e3))])
      have HMA : Hid (∀ k, (k = b1 ∨ k = b2) → ∃ es c, w8.heap[k]? = some (.map es c)) := hide (fun k hk => hk.elim (fun e => by rw [e]; exact H8.out.m1.isMap) (fun e => by rw [e]; obtain ⟨n, hn⟩ := H8.out.m2; exact hn.isMap))
      have HS9 : Hid (∀ W, KeepBut (fun k => k = b1 ∨ k = b2) w8 W → RSrc wrE W (.slice ao LN cap) ws) := hide (fun W hW => src_no_map HS8.out hW HMA.out)
      have HK89 : Hid (KeepBut (fun k => k = b1 ∨ k = b2) w8 w9) := hide (HK9.out.mono (fun k e => .inl e))
      have HBX : Hid (∀ W, KeepBut (fun k => k = b1 ∨ k = b2) w8 W → Box W q #[.map (some b1), .map (some b2)] 65 ∧ Box W w.heap.size #[.int .u8 (tx.1 : Int), .int .u32 (tx.2.1 : Int), .int .u32 (tx.2.2 : Int)] 33) := hide (fun W hW => ⟨H8.out.box.keep hW (fun e => e.elim H8.out.q_ne.1 H8.out.q_ne.2), HX8.out.keep hW (fun e => e.elim (H8.out.m1.ne HX8.out) (by obtain ⟨n, hn⟩ := H8.out.m2; exact hn.ne HX8.out))⟩)
      have HO9 : Hid (∃ n, OMap w9 b2 (fun k => if k.1 ∈ (ws.take 0).map WrP.key then some tx else ownS l k.1) n) := hide (by
        obtain ⟨n, hn⟩ := H8.out.m2
        exact ⟨n, (hn.keep HK9.out (fun e => H8.out.ne e.symm)).as (fun k => by simp)⟩)
      have HLM : Hid (LN ≤ 9223372036854775807) := hide (by omega)
      have hLM : LN ≤ 9223372036854775807 := HLM.out
      clear HM9 HK9 HMA HS8 g0 k0 k1 k2 r0 r1 tl rl ql hrun CC HSR H2 HXT HXR
      go_wp2_with fail
      go_loopg [66] LN (fun g i wr => ∃ j n : Nat, j + g = LN ∧ i = .int .i64 j ∧ Hid (KeepBut (fun k => k = b2) w9 wr) ∧ Hid (OMap wr b2 (fun k => if k.1 ∈ (ws.take j).map WrP.key then some tx else ownS l k.1) n))
      case atStart => obtain ⟨n, hn⟩ := HO9.out; exact ⟨0, n, by omega, rfl, hide (KeepBut.refl _ _), hide hn⟩
      case round =>
        obtain ⟨j, n, hj, rfl, HKW, HOM⟩ := hrel
        have HK8 : Hid (KeepBut (fun k => k = b1 ∨ k = b2) w8 wr) := hide (HK89.out.trans HKW.out (fun _ _ e => .inr e))
        cases gk with
        | zero =>
          obtain rfl : j = LN := by omega
          have hz : ¬ ((j : Int) < (j : Int)) := by omega
          have HE : Hid (ws.take j = ws) := hide (by rw [HLN.out]; exact List.take_length)
          rw [HE.out] at HOM
          go_wp2_with fail
          go_ret
          have hkk := (KeepBut.of_below (fun k => k = b1 ∨ k = b2) HB8.out).trans HK8.out (fun _ _ e => e)
          have hvv : wr.ownsRow w.heap.size 59 21 (.slice sa ws.length sc) ws.length (flat wrE ws) := by
            refine owns_keep (own_base HO8.out (Nat.le_trans HB2.out.size HSZ.out)) HK8.out (fun g hg e => ?_)
            have a1 := (HO8.out.lt g hg).1
            have a2 := HPS.out.m1.lt
            have a3 := HPS.out.lt2
            have a4 := HB2.out.size
            have a5 := HSZ.out
            omega
          have := HPS.out.put hkk HOK.out HMM.out HNO.out HIN.out.2 (HP9.out.keep HKW.out HPS.out.ne) HOM.out hvv
          exact ⟨by rw [HEA.out]; rfl, by rw [HIN.out.1]; exact ⟨_, this.1, hkk, this.2⟩⟩
        | succ g =>
          have hz : (j : Int) < (LN : Int) := by omega
          have hkn : j < ws.length := by rw [← HLN.out]; omega
          obtain ⟨en, b, off, rfl, hb, hcl⟩ := (HS9.out wr HK8.out).at recWR.len hkn
          have HRg : Hid (wr.rangeAt b (off + j * 21) (wrE ws[j])) := hide (fun j v hv => hcl j v hv)
          have HKO := hide (HOK.out.wr _ (List.getElem_mem hkn)).1
          have HTS : Hid ((ws.take (j + 1)).map WrP.key = (ws.take j).map WrP.key ++ [(ws[j]).key]) := hide (by rw [List.take_succ_eq_append_getElem hkn, List.map_append]; rfl)
          have HBD : Hid (n < maxLen) := hide (Nat.lt_of_le_of_lt (own_few HOM.out (keysS l ++ ws.map WrP.key) (fun k hk => by
            by_cases e : k.1 ∈ (ws.take j).map WrP.key
            · obtain ⟨y, hy, ey⟩ := List.mem_map.1 e
              exact List.mem_append_right _ (List.mem_map.2 ⟨y, List.mem_of_mem_take hy, ey⟩)
            · rw [if_neg e] at hk
              have e3 := own_keys HPS.out.all.ok k.1
              rw [hk] at e3
              exact List.mem_append_left _ (of_decide_eq_true e3.symm))) HKB.out)
          generalize ws[j] = y at *
          have HZ := hide (box_new wr (wrA zeroWr) 59)
          have HZK : Hid (KeepBut (fun k => k = b2) w9 (wr.alloc (.cells (wrA zeroWr) 59))) := hide (HKW.out.alloc _)
          have HLT2 : Hid (b2 < wr.heap.size) := hide HOM.out.lt
          have HZO := hide (HOM.out.below (alloc_below14 wr (.cells (wrA zeroWr) 59)))
          have hws := HKW.out.size
          clear hcl en hb
          go_wp2_with (first | (refine wpList_load_mid rfl 59 _ rfl b (off + j * 21) rfl (wrE y) _ HRg.out Try.underlying59 rfl infoWrite ?_) | (refine wp_store_box rfl rfl _ _ rfl wr.heap.size rfl (cs' := wrA y) rfl HZ.out rfl infoWrite (wrA_one14 y) ?_; intro w3 hb3 hk3; have HX3 := hide hb3; have HK3 : Hid (KeepBut (fun k => k = b2) w9 w3) := hide (HZK.out.trans hk3 (fun k hk e => by omega)); have HO3 := hide (HZO.out.keep hk3 (by have := HLT2.out; omega)); clear hb3 hk3))
          obtain ⟨hbq, hbt⟩ := HBX.out w3 (HK89.out.trans HK3.out (fun _ _ e => .inr e))
          have h1 : w3.cell? ⟨q, 1, none⟩ = some (.map (some b2)) := hbq.cell 1 _ rfl
          obtain ⟨t0, t1, t2⟩ := hbt.three
          have x0 := HX3.out.cell 0 _ rfl
          have x1 := HX3.out.cell 1 _ rfl
          have x2 := HX3.out.cell 2 _ rfl
          have x3 := HX3.out.cell 3 _ rfl
          have x4 := HX3.out.cell 4 _ rfl
          have x5 := HX3.out.cell 5 _ rfl
          have x6 := HX3.out.cell 6 _ rfl
          have x7 := HX3.out.cell 7 _ rfl
          have hlt := HX3.out.lt
          have hql := hbq.lt
          have htl := hbt.lt
          obtain ⟨w4, hrun, hm4, hk4⟩ := (HO3.out.below (below_drew14 w3)).put omTy HBD.out ⟨y.key, HKO.out⟩ tx
          have HO4 : Hid (∃ n', OMap w4 b2 (fun k => if k.1 ∈ (ws.take (j + 1)).map WrP.key then some tx else ownS l k.1) n') := hide ⟨_, hm4.as (fun k => by
            rw [HTS.out]
            by_cases e : k = ⟨y.key, HKO.out⟩
            · rw [if_pos e, e, if_pos (by simp)]
            · have e3 : k.1 ≠ y.key := fun e4 => e (Subtype.ext e4)
              rw [if_neg e]
              by_cases e5 : k.1 ∈ (ws.take j).map WrP.key
              · rw [if_pos e5, if_pos (List.mem_append_left _ e5)]
              · rw [if_neg e5, if_neg (fun e6 => (List.mem_append.1 e6).elim e5 (fun e7 => e3 (by simpa using e7)))])⟩
          have HK4 : Hid (KeepBut (fun k => k = b2) w9 w4) := hide (HK3.out.trans ((KeepBut.refl (fun k => k = b2) w3).drew.trans hk4 (fun _ _ e => e)) (fun _ _ e => e))
          clear hm4 hk4 hbq hbt HZ HZK HZO HRg
          go_wp2_with fail
          go_region
          go_wp2_with fail
          go_roundg g
          case measure => omega
          case rel => obtain ⟨n', hn'⟩ := HO4.out; exact ⟨j + 1, n', by omega, by first | rfl | go_num, HK4, hide hn'⟩
    · have hne : (R == 0) = false := by simpa using hr0
      have HPL : Hid (pS l ⟨tx, rg, ws⟩ = l) := hide (put_refused HPS.out.all.ok (by rw [HEA.out]; exact hr0))
      go_wp2_with fail
      go_ret
      exact ⟨by rw [HEA.out]; rfl, by rw [HPL.out]; exact PDid.same HPS.out HB2.out⟩
end
section
open Go.RowKit Go.Maps Classical

theorem drop_none {l : List OnP} {t : TxN} (h : onS l t = none) : dropS l t = l := by
  unfold dropS
  rw [List.filter_eq_self]
  intro x hx
  simpa using onS_none.1 h x hx
theorem drop_len : ∀ {l : List OnP} (_ : l.Pairwise fun a b => txO a.tx b.tx < 0) {t : TxN} {x : OnP} (_ : onS l t = some x), (dropS l t).length + 1 = l.length
  | [], _, _, _, h => by cases h
  | y :: l, hp, t, x, h => by
    obtain ⟨h1, h2⟩ := List.pairwise_cons.1 hp
    by_cases e : y.tx = t
    · have hn : onS l t = none := onS_none.2 (fun z hz ez => by
        have := h1 z hz
        rw [ez, e, (txO_zero _ _).2 rfl] at this
        omega)
      have e2 : dropS (y :: l) t = dropS l t := by
        unfold dropS
        rw [List.filter_cons_of_neg (by simpa using e)]
      rw [e2, drop_none hn, List.length_cons]
    · have e2 : dropS (y :: l) t = y :: dropS l t := by
        unfold dropS
        rw [List.filter_cons_of_pos (by simpa using e)]
      have e3 : onS l t = some x := by
        unfold onS at h ⊢
        rw [List.find?_cons_of_neg (by simpa using e)] at h
        exact h
      rw [e2, List.length_cons, List.length_cons, drop_len h2 e3]
theorem PSg.drop {w w' : World} {q b1 b2 : Nat} {p : TxN → Value} {l : List OnP} (h : PSg w q b1 b2 p l) {x : OnP} {n : Nat} (hk : KeepBut (fun k => k = b1 ∨ k = b2) w w') {t : TxN} (hf : onS l t = some x)
    (h1 : PMap w' b1 (fun u => if u.1 = t then none else gP l p u) (l.length - 1))
    (h2 : OMap w' b2 (fun k => if k.1 ∈ x.wr.map WrP.key then none else ownS l k.1) n) :
    PSg w' q b1 b2 p (dropS l t) := by
  obtain ⟨hq1, hq2⟩ := h.q_ne
  have hx := (onS_some h.all.ok).1 hf
  refine ⟨h.box.keep hk (fun e => e.elim hq1 hq2), ?_, ⟨n, h2.as fun k => ?_⟩, h.ne, fun y hy => ?_, fun y hy z hz => ?_, drop_all h.all t, fun y hy => ?_⟩
  · have e := drop_len h.all.ok.rise hf
    have e2 : (dropS l t).length = l.length - 1 := by omega
    rw [e2]
    refine h1.as fun u => ?_
    show _ = (onS (dropS l t) u.1).map _
    rw [onS_drop h.all.ok]
    by_cases e3 : u.1 = t
    · rw [if_pos e3, if_pos e3]
      rfl
    · rw [if_neg e3, if_neg e3]
  · rw [ownS_drop h.all.ok]
    by_cases e3 : k.1 ∈ x.wr.map WrP.key
    · obtain ⟨y, hy, ey⟩ := List.mem_map.1 e3
      have := own_of h.all.ok hx.1 hy
      rw [ey, hx.2] at this
      rw [if_pos e3, if_pos this]
    · rw [if_neg e3, if_neg]
      intro e4
      obtain ⟨z, hz, e5, e6⟩ := (ownS_some h.all.ok).1 e4
      have e7 := (onS_some h.all.ok).2 ⟨hz, e5⟩
      rw [hf] at e7
      cases e7
      exact e3 (List.mem_map.2 ((hasK_iff x _).1 e6))
  · have hy2 := ((dropS_mem l t y).1 hy).1
    exact owns_keep (h.rows y hy2) hk (fun g hg e => e.elim (h.blk hy2 hg).2.2.1 (h.blk hy2 hg).2.2.2)
  · exact h.apart y ((dropS_mem l t y).1 hy).1 z ((dropS_mem l t z).1 hz).1
  · exact h.oks y ((dropS_mem l t y).1 hy).1
/-- What a Take leaves, and answers. -/
def TDid14 (w w' : World) (q b1 b2 : Nat) (p : TxN → Value) (l : List OnP) (t : TxN) (v : Value) : Prop :=
  PSg w' q b1 b2 p (dropS l t) ∧ KeepBut (fun k => k = b1 ∨ k = b2) w w' ∧ RSrc wrE w' v (tW l t) ∧ ∀ g, v.ownBlock = some g → (∃ x ∈ l, (p x.tx).ownBlock = some g) ∧ ∀ y ∈ dropS l t, (p y.tx).ownBlock ≠ some g
set_option maxRecDepth 100000 in
set_option maxHeartbeats 6400000 in
theorem psTake_any (q b1 b2 : Nat) (p : TxN → Value) (l : List OnP) (t : TxN) (w : World) (h : PSg w q b1 b2 p l) (ht : TxB t) :
    Calls Try.prog 10 #[.pointer (some ⟨q, 0, none⟩), txVN t] w fun e w' => ∃ v, e = .returned (.tuple #[v, .int .i64 (tA l t)]) ∧ TDid14 w w' q b1 b2 p l t v := by
  have hA := alloc_below14 w (.cells #[.int .u8 (t.1 : Int), .int .u32 (t.2.1 : Int), .int .u32 (t.2.2 : Int)] 33)
  have HPS := hide h
  have H2 := hide (h.below hA)
  have C := hide (made14 q b1 b2 _ H2.out.box)
  have HXK := hide (box_new w #[.int .u8 (t.1 : Int), .int .u32 (t.2.1 : Int), .int .u32 (t.2.2 : Int)] 33)
  have HB2 := hide hA
  have HTB := hide ht
  clear hA h ht
  go_enter Try.func10, Try.ntmps10
  go_wp2_with fail
  refine C.out.mono ?_
  rintro e w1 ⟨rfl, hw1⟩
  replace H2 : Hid (PSg w1 q b1 b2 p l) := hide (by rw [hw1]; exact H2.out)
  replace HXK : Hid (Box w1 w.heap.size #[.int .u8 (t.1 : Int), .int .u32 (t.2.1 : Int), .int .u32 (t.2.2 : Int)] 33) := hide (by rw [hw1]; exact HXK.out)
  replace HB2 : Hid (Below w.heap.size w w1) := hide (by rw [hw1]; exact HB2.out)
  clear hw1 C
  have h0 : w1.cell? ⟨q, 0, none⟩ = some (.map (some b1)) := H2.out.box.cell 0 _ rfl
  obtain ⟨k0, k1, k2⟩ := HXK.out.three
  have L1 := (H2.out.m1.below (below_drew14 w1)).look pmTy ⟨t, HTB.out⟩
  have L2 := fun o => ((H2.out.m1.below (alloc_below14 w1 o)).below (below_drew14 _)).look pmTy ⟨t, HTB.out⟩
  have hlt := HXK.out.lt
  have hqt := H2.out.box.lt
  cases hf : onS l t with
  | none =>
    have e1 : gP l p ⟨t, HTB.out⟩ = none := by show (onS l t).map _ = _; rw [hf]; rfl
    simp only [e1, Option.getD_none, Option.isSome_none] at L1 L2
    have HE : Hid (tA l t = 6 ∧ tW l t = [] ∧ dropS l t = l) := hide (by unfold tA tW; rw [hf]; exact ⟨rfl, rfl, drop_none hf⟩)
    clear hf e1
    go_wp2_with fail
    go_region
    have hA3 := (alloc_below14 w1 (.cells #[.int .u32 0, .int .u32 0, .slice none 0 0] 86)).trans ((below_drew14 (w1.alloc (.cells #[.int .u32 0, .int .u32 0, .slice none 0 0] 86))).mono (by simp))
    have HB3 := hide (HB2.out.trans (hA3.mono HB2.out.size))
    clear hA3 L1 L2 h0 k0 k1 k2 hlt hqt
    generalize (w1.alloc (.cells #[.int .u32 0, .int .u32 0, .slice none 0 0] 86)).drew = w3 at *
    go_wp2_with fail
    go_ret2
    refine ⟨.slice none 0 0, by rw [HE.out.1]; rfl, ?_, KeepBut.of_below _ HB3.out, ?_, fun g hg => by cases hg⟩
    · rw [HE.out.2.2]
      exact HPS.out.below HB3.out
    · rw [HE.out.2.1]
      exact RSrc.nil _
  | some x =>
    have e1 : gP l p ⟨t, HTB.out⟩ = some (x.rg, p t) := by show (onS l t).map _ = _; rw [hf]; rfl
    simp only [e1, Option.getD_some, Option.isSome_some] at L1 L2
    have hxx := (onS_some H2.out.all.ok).1 hf
    have hsr : RSrc wrE w1 (p t) x.wr := by have := src_of_row (H2.out.rows x hxx.1); rw [hxx.2] at this; exact this
    have HE : Hid (tA l t = 0 ∧ tW l t = x.wr) := hide (by unfold tA tW; rw [hf]; exact ⟨rfl, rfl⟩)
    have HGB : Hid (∀ g, (p t).ownBlock = some g → (∃ y ∈ l, (p y.tx).ownBlock = some g) ∧ ∀ y ∈ dropS l t, (p y.tx).ownBlock ≠ some g) := hide (fun g hg => ⟨⟨x, hxx.1, by rw [hxx.2]; exact hg⟩, fun y hy e => by
      have h3 := (dropS_mem l t y).1 hy
      exact h3.2 ((HPS.out.apart y h3.1 x hxx.1 g e (by rw [hxx.2]; exact hg)).trans hxx.2)⟩)
    have HMA : Hid (∀ k, (k = b1 ∨ k = b2) → ∃ es c, w1.heap[k]? = some (.map es c)) := hide (fun k hk => hk.elim (fun e => by rw [e]; exact H2.out.m1.isMap) (fun e => by rw [e]; obtain ⟨n, hn⟩ := H2.out.m2; exact hn.isMap))
    have HKO : Hid (∀ y ∈ x.wr, KeyOk y.key) := hide (fun y hy => ((HPS.out.oks x hxx.1).wr y hy).1)
    have HF := hide hf
    obtain ⟨yt, ⟨ya, yb⟩, ws⟩ := x
    obtain ⟨sa, sc, e2, hsc, hsm⟩ := hsr.shape
    dsimp only at e2 hsr hsc HKO HE
    obtain ⟨LN, hLN⟩ : ∃ LN, LN = ws.length := ⟨_, rfl⟩
    rw [← hLN] at e2 hsc
    rw [e2] at L1 hsr HGB
    simp only [e2] at L2
    have HSW : Hid (∀ W, KeepBut (fun k => k = b1 ∨ k = b2) w1 W → RSrc wrE W (.slice sa LN sc) ws) := hide (fun W hW => src_no_map hsr hW HMA.out)
    have HLN := hide hLN
    have hLM : LN ≤ 9223372036854775807 := by unfold maxLen at hsm; omega
    clear hf e1 hxx hsr e2 hLN hsc hsm HMA
    go_wp2_with fail
    go_region
    have hA3 := (alloc_below14 w1 (.cells #[.int .u32 (ya : Int), .int .u32 (yb : Int), .slice sa LN sc] 86)).trans ((below_drew14 (w1.alloc (.cells #[.int .u32 (ya : Int), .int .u32 (yb : Int), .slice sa LN sc] 86))).mono (by simp))
    have HX3 := hide ((box_new w1 #[.int .u32 (ya : Int), .int .u32 (yb : Int), .slice sa LN sc] 86).belowI (below_drew14 _))
    have HK3 : Hid (KeepBut (fun k => k = b1 ∨ k = b2) w1 ((w1.alloc (.cells #[.int .u32 (ya : Int), .int .u32 (yb : Int), .slice sa LN sc] 86)).drew)) := hide (KeepBut.of_below _ hA3)
    have H3 := hide (H2.out.below hA3)
    have HT3 := hide (HXK.out.belowI hA3)
    clear hA3 L1 L2 h0 k0 k1 k2 hlt hqt
    generalize (w1.alloc (.cells #[.int .u32 (ya : Int), .int .u32 (yb : Int), .slice sa LN sc] 86)).drew = w3 at *
    -- delete(s.prepared, t)
    have g0 : w3.cell? ⟨q, 0, none⟩ = some (.map (some b1)) := H3.out.box.cell 0 _ rfl
    obtain ⟨k0, k1, k2⟩ := HT3.out.three
    obtain ⟨w4, hrun, hm4, hk4⟩ := (H3.out.m1.below (below_drew14 w3)).del pmTy ⟨t, HTB.out⟩
    have hlt := HT3.out.lt
    have hqt := H3.out.box.lt
    have HP4 : Hid (PMap w4 b1 (fun u => if u.1 = t then none else gP l p u) (l.length - 1)) := hide (by
      have e1 : gP l p ⟨t, HTB.out⟩ = some ((ya, yb), p t) := by show (onS l t).map _ = _; rw [HF.out]; rfl
      rw [e1] at hm4
      refine hm4.as fun u => ?_
      by_cases e2 : u = ⟨t, HTB.out⟩
      · rw [if_pos e2, e2, if_pos rfl]
      · rw [if_neg e2, if_neg (fun e3 => e2 (Subtype.ext e3))])
    have hk34 : KeepBut (fun k => k = b1) w3 w4 := (KeepBut.refl (fun k => k = b1) w3).drew.trans hk4 (fun _ _ e => e)
    have HK4 : Hid (KeepBut (fun k => k = b1 ∨ k = b2) w1 w4) := hide (HK3.out.trans hk34 (fun _ _ e => .inl e))
    have HX4 := hide (HX3.out.keep hk34 (H3.out.m1.ne HX3.out))
    have HQ4 := hide (H3.out.box.keep hk34 H3.out.q_ne.1)
    have HO4 : Hid (∃ n, OMap w4 b2 (fun k => if k.1 ∈ (ws.take 0).map WrP.key then none else ownS l k.1) n) := hide (by
      obtain ⟨n, hn⟩ := H3.out.m2
      exact ⟨n, (hn.keep hk34 (fun e => H3.out.ne e.symm)).as (fun k => by simp)⟩)
    have HXN : Hid (w1.heap.size ≠ b2 ∧ q ≠ b2) := hide ⟨by obtain ⟨n, hn⟩ := H3.out.m2; exact hn.ne HX3.out, H3.out.q_ne.2⟩
    clear hm4 hk4 hk34
    go_wp2_with fail
    go_region
    obtain ⟨z0, z1, z2⟩ := HX4.out.three
    clear hrun g0 k0 k1 k2 hlt hqt z0 z1 HK3 HX3 HT3 H3 HXK H2
    go_wp2_with fail
    go_loopg [32] LN (fun g i wr => ∃ j n : Nat, j + g = LN ∧ i = .int .i64 j ∧ Hid (KeepBut (fun k => k = b2) w4 wr) ∧ Hid (OMap wr b2 (fun k => if k.1 ∈ (ws.take j).map WrP.key then none else ownS l k.1) n))
    case atStart => obtain ⟨n, hn⟩ := HO4.out; exact ⟨0, n, by omega, rfl, hide (KeepBut.refl _ _), hide hn⟩
    case round =>
      obtain ⟨j, n, hj, rfl, HKW, HOM⟩ := hrel
      have HK8 : Hid (KeepBut (fun k => k = b1 ∨ k = b2) w1 wr) := hide (HK4.out.trans HKW.out (fun _ _ e => .inr e))
      cases gk with
      | zero =>
        obtain rfl : j = LN := by omega
        have hz : ¬ ((j : Int) < (j : Int)) := by omega
        have HE2 : Hid (ws.take j = ws) := hide (by rw [HLN.out]; exact List.take_length)
        rw [HE2.out] at HOM
        have y2 := (HX4.out.keep HKW.out HXN.out.1).three.2.2
        go_wp2_with fail
        go_ret2
        have hkk := (KeepBut.of_below (fun k => k = b1 ∨ k = b2) HB2.out).trans HK8.out (fun _ _ e => e)
        refine ⟨.slice sa j sc, by rw [HE.out.1]; rfl, HPS.out.drop hkk HF.out (HP4.out.keep HKW.out HPS.out.ne) HOM.out, hkk, ?_, HGB.out⟩
        rw [HE.out.2]
        exact HSW.out _ HK8.out
      | succ g =>
        have hz : (j : Int) < (LN : Int) := by omega
        have hkn : j < ws.length := by rw [← HLN.out]; omega
        obtain ⟨en, b, off, rfl, hb, hcl⟩ := (HSW.out wr HK8.out).at recWR.len hkn
        have HRg : Hid (wr.rangeAt b (off + j * 21) (wrE ws[j])) := hide (fun j v hv => hcl j v hv)
        have HKY := hide (HKO.out _ (List.getElem_mem hkn))
        have HTS : Hid ((ws.take (j + 1)).map WrP.key = (ws.take j).map WrP.key ++ [(ws[j]).key]) := hide (by rw [List.take_succ_eq_append_getElem hkn, List.map_append]; rfl)
        generalize ws[j] = y at *
        have HZ := hide (box_new wr (wrA zeroWr) 59)
        have HZK : Hid (KeepBut (fun k => k = b2) w4 (wr.alloc (.cells (wrA zeroWr) 59))) := hide (HKW.out.alloc _)
        have HLT2 : Hid (b2 < wr.heap.size) := hide HOM.out.lt
        have HZO := hide (HOM.out.below (alloc_below14 wr (.cells (wrA zeroWr) 59)))
        have hws := HKW.out.size
        clear hcl en hb
        go_wp2_with (first | (refine wpList_load_mid rfl 59 _ rfl b (off + j * 21) rfl (wrE y) _ HRg.out Try.underlying59 rfl infoWrite ?_) | (refine wp_store_box rfl rfl _ _ rfl wr.heap.size rfl (cs' := wrA y) rfl HZ.out rfl infoWrite (wrA_one14 y) ?_; intro w5 hb3 hk3; have HX5 := hide hb3; have HK5 : Hid (KeepBut (fun k => k = b2) w4 w5) := hide (HZK.out.trans hk3 (fun k hk e => by omega)); have HO5 := hide (HZO.out.keep hk3 (by have := HLT2.out; omega)); clear hb3 hk3))
        have hbq := HQ4.out.keep HK5.out HXN.out.2
        have h1 : w5.cell? ⟨q, 1, none⟩ = some (.map (some b2)) := hbq.cell 1 _ rfl
        have x0 := HX5.out.cell 0 _ rfl
        have x1 := HX5.out.cell 1 _ rfl
        have x2 := HX5.out.cell 2 _ rfl
        have x3 := HX5.out.cell 3 _ rfl
        have x4 := HX5.out.cell 4 _ rfl
        have x5 := HX5.out.cell 5 _ rfl
        have x6 := HX5.out.cell 6 _ rfl
        have x7 := HX5.out.cell 7 _ rfl
        have hlt := HX5.out.lt
        have hql := hbq.lt
        obtain ⟨w6, hrun, hm6, hk6⟩ := (HO5.out.below (below_drew14 w5)).del omTy ⟨y.key, HKY.out⟩
        have HO6 : Hid (∃ n', OMap w6 b2 (fun k => if k.1 ∈ (ws.take (j + 1)).map WrP.key then none else ownS l k.1) n') := hide ⟨_, hm6.as (fun k => by
          rw [HTS.out]
          by_cases e : k = ⟨y.key, HKY.out⟩
          · rw [if_pos e, e, if_pos (by simp)]
          · have e3 : k.1 ≠ y.key := fun e4 => e (Subtype.ext e4)
            rw [if_neg e]
            by_cases e5 : k.1 ∈ (ws.take j).map WrP.key
            · rw [if_pos e5, if_pos (List.mem_append_left _ e5)]
            · rw [if_neg e5, if_neg (fun e6 => (List.mem_append.1 e6).elim e5 (fun e7 => e3 (by simpa using e7)))])⟩
        have HK6 : Hid (KeepBut (fun k => k = b2) w4 w6) := hide (HK5.out.trans ((KeepBut.refl (fun k => k = b2) w5).drew.trans hk6 (fun _ _ e => e)) (fun _ _ e => e))
        clear hm6 hk6 hbq HZ HZK HZO HRg
        go_wp2_with fail
        go_region
        go_wp2_with fail
        go_roundg g
        case measure => omega
        case rel => obtain ⟨n', hn'⟩ := HO6.out; exact ⟨j + 1, n', by omega, by first | rfl | go_num, HK6, hide hn'⟩
end
end Go.Proofs.Ytodomdmmffooaaa
