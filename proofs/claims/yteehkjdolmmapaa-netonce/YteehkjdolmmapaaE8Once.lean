/-
  NetOnce: what is taken was sent; what was not doubled is taken at most once. The walk, by the bundle. Own work.
-/
import Derived.Test.YteehkjdolmmapaaNtAlive
import Derived.Test.YteehkjdolmmapaaNtCount
import Derived.Test.YteehkjdolmmapaaNtOncS
import Derived.Test.YteehkjdolmmapaaNtRef2
import Derived.Deep.LoopGhost
namespace Go.Proofs.Yteehkjdolmmapaa
open Go.RowKit

section
variable {D : World → Nat → (Nat → Prop) → Nt → Prop}
set_option maxRecDepth 100000 in
set_option maxHeartbeats 3200000 in
theorem walkN8 (H : NetDo D) (v : Value) (fs : List NAct) (w : World) (hL : NLies w v fs) (hok : ∀ f ∈ fs, f.Ok) :
    Calls Try.prog 4 #[v] w fun e w' => e = .returned (.bool true) ∧ Below w.heap.size w w' := by
  have CL := hide (long_any8 v fs w hL)
  have CA := hide (fun W => alive_by8 H W)
  have CS := hide (fun W (h : NLies W v fs) => short_any8 v fs W h)
  have HLS := hide hL
  obtain ⟨ao0, cap0, hv0, _⟩ := hL.shape
  subst hv0
  have hokt : ∀ f ∈ fs.take 100, f.Ok := fun f hf => hok f (List.mem_of_mem_take hf)
  have hal : (fs.take 100).length ≤ 100 := by simp; omega
  obtain ⟨ts, hts⟩ : ∃ ts, ts = fs.take 100 := ⟨_, rfl⟩
  rw [← hts] at CL CS hokt hal
  have HOKT := hide hokt
  clear hts hok hL hokt
  by_cases hlong : 32768 < bulkN ts
  · rw [decide_eq_true hlong] at CL
    go_enter Try.func4, Try.ntmps4
    go_wp2_with fail
    refine CL.out.mono ?_
    rintro e w1 ⟨rfl, hB⟩
    have HB := hide hB
    clear hB CL
    go_wp2_with fail
    refine (CA.out w1).mono ?_
    rintro e we ⟨rfl, hB⟩
    replace HB := hide (HB.out.trans (hB.mono HB.out.size))
    clear hB
    go_wp2_with fail
    go_ret
    exact ⟨rfl, HB.out⟩
  · rw [decide_eq_false hlong] at CL
    clear hlong
    go_enter Try.func4, Try.ntmps4
    go_wp2_with fail
    refine CL.out.mono ?_
    rintro e w1 ⟨rfl, hB⟩
    have HB := hide hB
    clear hB CL
    go_wp2_with fail
    refine (H.new 40 w1 (by decide)).mono ?_
    rintro e w2 ⟨q, F0, rfl, hD, hF, hB⟩
    have HOS : Hid (OnS D w q w2.heap.size (w2.heap.size + 1) (w2.heap.size + 1 + 1) F0 (newN 40) (fun _ => false) (fun _ => false) (fun _ => 0) 0 (((w2.alloc (.map #[] 0)).alloc (.map #[] 0)).alloc (.map #[] 0))) := hide (by
      have hlt := H.lt hD
      have b1 := alloc_below8 w2 (.map #[] 0)
      have b2 := alloc_below8 (w2.alloc (.map #[] 0)) (.map #[] 0)
      have b3 := alloc_below8 ((w2.alloc (.map #[] 0)).alloc (.map #[] 0)) (.map #[] 0)
      have m1 := ((mapB_made w2).below b2).below b3
      have m2 := (mapB_made (w2.alloc (.map #[] 0))).below b3
      have m3 := mapT_made ((w2.alloc (.map #[] 0)).alloc (.map #[] 0))
      have e1 : (w2.alloc (.map #[] 0)).heap.size = w2.heap.size + 1 := by simp
      have e2 : ((w2.alloc (.map #[] 0)).alloc (.map #[] 0)).heap.size = w2.heap.size + 1 + 1 := by simp
      rw [e1] at m2
      rw [e2] at m3
      have hs := HB.out.size
      have hs2 := hB.size
      exact ⟨H.below (H.below (H.below hD b1) b2) b3, fun k hk => Nat.le_trans hs (hF k hk), ((HB.out.trans (hB.mono hs)).trans (b1.mono (by omega))).trans ((b2.mono (by omega)).trans (b3.mono (by omega))), m1, m2, m3, ⟨by omega, by omega, by omega⟩, ⟨by omega, by omega, by omega⟩, fun hf => (by have := hlt _ hf; omega), fun hf => (by have := hlt _ hf; omega), fun hf => (by have := hlt _ hf; omega)⟩)
    clear hD hF hB HB
    have hmm := @run_makeMap Try.prog
    go_wp2_with fail
    clear hmm
    generalize (((w2.alloc (.map #[] 0)).alloc (.map #[] 0)).alloc (.map #[] 0)) = w3 at HOS ⊢
    generalize w2.heap.size = ms at *
    have HB := hide HOS.out.B
    refine (CS.out w3 (HLS.out.below HB.out)).mono ?_
    rintro e wS ⟨v3, rfl, hL3, hw3, hLW⟩
    subst hw3
    obtain ⟨ao3, cap3, hv3, hc3, _, _⟩ := hL3.shape
    subst hv3
    have HLT := hide (hLW w HLS.out)
    clear hL3 hLW HB CS HLS
    go_wp2_with fail
    go_loopg [34] ts.length (fun g i wr => ∃ (k : Nat) (n : Nt) (F : Nat → Prop) (S Db : Nat → Bool) (T : Nat → Nat), k + g = ts.length ∧ i = .int .i64 k ∧ Hid (OnS D w q ms (ms + 1) (ms + 1 + 1) F n S Db T k wr) ∧ Hid (Onc n k S Db T) ∧ n.lost ≤ k)
    case atStart => exact ⟨0, newN 40, F0, _, _, _, by omega, rfl, HOS, hide (onc_new 40), Nat.le_refl _⟩
    case round =>
      obtain ⟨k, n, F, S, Db, T, hk, rfl, HU, HO, hlk⟩ := hrel
      clear HOS
      have HB := hide HU.out.B
      cases gk with
      | zero =>
        obtain rfl : k = ts.length := by omega
        have hz : ¬ ((ts.length : Int) < (ts.length : Int)) := by omega
        go_wp2_with fail
        refine (CA.out _).mono ?_
        rintro e we ⟨rfl, hB⟩
        replace HB := hide (HB.out.trans (hB.mono HB.out.size))
        clear hB
        go_wp2_with fail
        go_ret
        exact ⟨rfl, HB.out⟩
      | succ g =>
        have hz : (k : Int) < (ts.length : Int) := by omega
        have hlost : n.lost ≤ 1000000 := by omega
        have hk100 : k < 100 := by omega
        obtain ⟨b, off, cap', sv, e, hb, hLs, c0, c1, c2, c3, c4⟩ := (HLT.out.below HB.out).at k (by omega)
        cases e
        obtain ⟨sa, sc, hsv⟩ := hLs.shape
        subst hsv
        have ha := HOKT.out ts[k] (List.getElem_mem _)
        generalize ts[k] = a at *
        have hak := ha.k
        obtain ⟨a', ha'⟩ : ∃ a' : NAct, a' = ⟨a.kind, a.fr, a.to, a.i, [(k : Int)]⟩ := ⟨_, rfl⟩
        have HA : Hid a'.Ok := hide (by rw [ha']; exact ⟨ha.k, ha.f, ha.t, ha.i1, ha.i2, by simp; omega⟩)
        have HA' := hide ha'
        have b1 := alloc_below8 wr (.cells #[.int .u8 (a.kind : Int), .int .u8 (a.fr : Int), .int .u8 (a.to : Int), .int .i64 a.i, .slice (some ⟨wr.heap.size + 1, 0, none⟩) 1 1] 37)
        have b2 := alloc_below8 (wr.alloc (.cells #[.int .u8 (a.kind : Int), .int .u8 (a.fr : Int), .int .u8 (a.to : Int), .int .i64 a.i, .slice (some ⟨wr.heap.size + 1, 0, none⟩) 1 1] 37)) (.cells #[.int .u8 (k : Int)] 5)
        have HX := hide ((box_new wr #[.int .u8 (a.kind : Int), .int .u8 (a.fr : Int), .int .u8 (a.to : Int), .int .i64 a.i, .slice (some ⟨wr.heap.size + 1, 0, none⟩) 1 1] 37).below8 b2)
        have HLB : Hid (Lies .u8 ((wr.alloc (.cells #[.int .u8 (a.kind : Int), .int .u8 (a.fr : Int), .int .u8 (a.to : Int), .int .i64 a.i, .slice (some ⟨wr.heap.size + 1, 0, none⟩) 1 1] 37)).alloc (.cells #[.int .u8 (k : Int)] 5)) (.slice (some ⟨wr.heap.size + 1, 0, none⟩) 1 1) [(k : Int)]) := hide (by
          have := build1n (t := 5) (wr.alloc (.cells #[.int .u8 (a.kind : Int), .int .u8 (a.fr : Int), .int .u8 (a.to : Int), .int .i64 a.i, .slice (some ⟨wr.heap.size + 1, 0, none⟩) 1 1] 37)) (k : Int) (0, 0)
          simpa using this)
        have HLT8 : Hid (wr.heap.size + 1 < ((wr.alloc (.cells #[.int .u8 (a.kind : Int), .int .u8 (a.fr : Int), .int .u8 (a.to : Int), .int .i64 a.i, .slice (some ⟨wr.heap.size + 1, 0, none⟩) 1 1] 37)).alloc (.cells #[.int .u8 (k : Int)] 5)).heap.size) := hide (by simp)
        have HFX : Hid (¬ F wr.heap.size) := hide (fun hf => by have := H.lt HU.out.dd _ hf; omega)
        have HMX : Hid (ms < wr.heap.size ∧ ms + 1 < wr.heap.size ∧ ms + 1 + 1 < wr.heap.size) := hide ⟨HU.out.s1.lt, HU.out.d1.lt, HU.out.t1.lt⟩
        replace HU := hide ((HU.out.below H b1).below H b2)
        clear hLs ha ha' b1 b2 HB
        go_wp2_with fail
        generalize ((wr.alloc (.cells #[.int .u8 (a.kind : Int), .int .u8 (a.fr : Int), .int .u8 (a.to : Int), .int .i64 a.i, .slice (some ⟨wr.heap.size + 1, 0, none⟩) 1 1] 37)).alloc (.cells #[.int .u8 (k : Int)] 5)) = W1 at HU HX HLB HLT8 ⊢
        clear c0 c1 c2 c3 c4 hb
        obtain ⟨AT, hAT⟩ : ∃ AT, AT = atA n a.i := ⟨_, rfl⟩
        obtain ⟨x, hx⟩ : ∃ x, x = n.nth a.i := ⟨_, rfl⟩
        refine (H.at' a.i HU.out.dd).mono ?_
        rintro e W2 ⟨sv2, rfl, ho, hB⟩
        obtain ⟨a2, c2, hv2⟩ := (Lies.of_own ho).shape
        subst hv2
        have HL2 := hide (Lies.of_own ho)
        rw [← hx] at HL2 ⊢
        rw [← hAT]
        have HXX := hide hx
        have HAT := hide hAT
        have HSZ : Hid (wr.heap.size + 1 < W2.heap.size) := hide (Nat.lt_of_lt_of_le HLT8.out hB.size)
        replace HU := hide (HU.out.below H hB)
        replace HX := hide (HX.out.below8 hB)
        replace HLB := hide (HLB.out.below hB)
        unfold wcs
        have hA := alloc_below8 W2 (.cells #[.int .u8 (x.fr : Int), .int .u8 (x.to : Int), .slice a2 x.b.length c2] 50)
        have hY := box_new W2 #[.int .u8 (x.fr : Int), .int .u8 (x.to : Int), .slice a2 x.b.length c2] 50
        replace HU := hide (HU.out.below H hA)
        replace HX := hide (HX.out.below8 hA)
        replace HLB := hide (HLB.out.below hA)
        replace HL2 := hide (HL2.out.below hA)
        have y2 := hY.cell 2 _ rfl
        have x0 := HX.out.cell 0 _ rfl
        have x1 := HX.out.cell 1 _ rfl
        have x2 := HX.out.cell 2 _ rfl
        have x3 := HX.out.cell 3 _ rfl
        have x4 := HX.out.cell 4 _ rfl
        have e0 : a'.kind = a.kind := by rw [HA'.out]
        have e1 : a'.fr = a.fr := by rw [HA'.out]
        have e2 : a'.to = a.to := by rw [HA'.out]
        have e3 : a'.i = a.i := by rw [HA'.out]
        have e4 : a'.b = [(k : Int)] := by rw [HA'.out]
        have HE := hide e3
        have HE4 := hide e4
        have HDO : Hid (∀ W F n, D W q F n → n.lost ≤ 1000000 → Lies .u8 W (.slice (some ⟨wr.heap.size + 1, 0, none⟩) 1 1) [(k : Int)] → Calls Try.prog 13 #[.pointer (some ⟨q, 0, none⟩), .agg #[.int .u8 (a.kind : Int), .int .u8 (a.fr : Int), .int .u8 (a.to : Int), .int .i64 a.i, .slice (some ⟨wr.heap.size + 1, 0, none⟩) 1 1]] W fun e w' => ∃ sv, e = .returned (.tuple #[.agg (wcs (nctW n a') sv), .int .i64 (nctA n a')]) ∧ NDidW D W w' q F (nctD n a') sv (nctW n a').b) := hide (fun W F n hd hl hb => by
          have C := does_any8 H q F n a' (.slice (some ⟨wr.heap.size + 1, 0, none⟩) 1 1) W hd HA.out (by rw [e4]; exact hb) hl
          rw [e0, e1, e2, e3] at C
          exact C)
        have hrem : (a.kind : Int).tmod 6 = ((a.kind % 6 : Nat) : Int) := by
          rw [Int.tmod_eq_emod_of_nonneg (by omega)]; omega
        have hrem' : (a.kind : Int) % 6 = ((a.kind % 6 : Nat) : Int) := by omega
        have HAK : Hid (nctA n a' = if a.kind % 6 = 1 then atA n a.i else if a.kind % 6 = 2 then atA n a.i else if a.kind % 6 = 3 then atA n a.i else if a.kind % 6 = 4 then twiA n a.i else if a.kind % 6 = 5 then atA n a.i else senA n a'.wire) := hide (by unfold nctA; rw [e0, e3])
        have HDK : Hid (nctD n a' = if a.kind % 6 = 1 then takD n a.i else if a.kind % 6 = 2 then n else if a.kind % 6 = 3 then droD n a.i else if a.kind % 6 = 4 then twiD n a.i else if a.kind % 6 = 5 then latD n a.i else senD n a'.wire) := hide (by unfold nctD; rw [e0, e3])
        have HWK : Hid (nctW n a' = if a.kind % 6 = 1 then n.nth a.i else if a.kind % 6 = 2 then n.nth a.i else nilW) := hide (by unfold nctW; rw [e0, e3])
        have hnl := nct_lost n a'
        have hr6 : a.kind % 6 < 6 := Nat.mod_lt _ (by decide)
        generalize a.kind % 6 = r at *
        have hcs : r = 0 ∨ r = 1 ∨ r = 2 ∨ r = 3 ∨ r = 4 ∨ r = 5 := by omega
        clear hA hY hB ho hx hAT hr6 e0 e1 e2 e3 e4 HLT8
        rcases hcs with rfl | rfl | rfl | rfl | rfl | rfl
        · go_wp2_with fail
          clear x0 x1 x2 x3 x4 y2
          refine (HDO.out _ _ _ HU.out.dd hlost HLB.out).mono ?_
          rintro e W4 ⟨sv5, rfl, F2, hD2, hk2, hF2, ho2, hg2⟩
          obtain ⟨a5, c5, hv5⟩ := (Lies.of_own ho2).shape
          subst hv5
          have HL5 := hide (Lies.of_own ho2)
          replace HX := hide (HX.out.keep hk2 HFX.out)
          replace HU := hide (HU.out.does hD2 hk2 hF2)
          clear hD2 hk2 hF2 ho2 hg2 HDO HLB
          obtain ⟨A, hA⟩ : ∃ A, A = nctA n a' := ⟨_, rfl⟩
          obtain ⟨n', hn'⟩ : ∃ n', n' = nctD n a' := ⟨_, rfl⟩
          obtain ⟨wx, hwx⟩ : ∃ wx, wx = nctW n a' := ⟨_, rfl⟩
          rw [← hA] at HAK ⊢
          rw [← hn'] at HDK hnl HU
          rw [← hwx] at HWK HL5 ⊢
          clear hA hn' hwx
          unfold wcs
          have hA := alloc_below8 W4 (.cells #[.int .u8 (wx.fr : Int), .int .u8 (wx.to : Int), .slice a5 wx.b.length c5] 39)
          have hZ := box_new W4 #[.int .u8 (wx.fr : Int), .int .u8 (wx.to : Int), .slice a5 wx.b.length c5] 39
          replace HU := hide (HU.out.below H hA)
          replace HX := hide (HX.out.below8 hA)
          replace HL5 := hide (HL5.out.below hA)
          have x0 := HX.out.cell 0 _ rfl
          have z2 := hZ.cell 2 _ rfl
          clear hA hZ
          have hAA : A = senA n a'.wire := by rw [HAK.out]; simp
          have hDD : n' = senD n a'.wire := by rw [HDK.out]; simp
          clear HAK HDK HWK
          by_cases h0 : A = 0
          · have HO2 : Hid (Onc n' (k + 1) (updB S k) Db T) := hide (by rw [hDD]; exact onc_send HO.out HE4.out (by rw [← hAA]; exact h0))
            clear hAA hDD
            subst h0
            obtain ⟨W6, hrun, hU6, hk6⟩ := HU.out.putS H (by omega) (show k < 256 by omega)
            have HU7 := hide hU6
            clear hU6 hk6 HU
            go_wp2_with fail
            have HU := HU7
            clear hrun
            go_roundg g
            case measure => omega
            case rel => exact ⟨k + 1, n', _, updB S k, Db, T, by omega, by first | rfl | go_num, hide (HU.out.mono (by omega)), HO2, by omega⟩
          · have HO2 : Hid (Onc n' (k + 1) S Db T) := hide (by rw [hDD]; exact onc_sendNo HO.out (by rw [← hAA]; exact h0))
            clear hAA hDD
            have d0 : (A == 0) = false := by simpa using h0
            clear h0
            go_wp2_with fail
            go_roundg g
            case measure => omega
            case rel => exact ⟨k + 1, n', _, S, Db, T, by omega, by first | rfl | go_num, hide (HU.out.mono (by omega)), HO2, by omega⟩
        · go_wp2_with fail
          clear x0 x1 x2 x3 x4 y2
          refine (HDO.out _ _ _ HU.out.dd hlost HLB.out).mono ?_
          rintro e W4 ⟨sv5, rfl, F2, hD2, hk2, hF2, ho2, hg2⟩
          obtain ⟨a5, c5, hv5⟩ := (Lies.of_own ho2).shape
          subst hv5
          have HL5 := hide (Lies.of_own ho2)
          replace HX := hide (HX.out.keep hk2 HFX.out)
          replace HU := hide (HU.out.does hD2 hk2 hF2)
          clear hD2 hk2 hF2 ho2 hg2 HDO HLB
          obtain ⟨A, hA⟩ : ∃ A, A = nctA n a' := ⟨_, rfl⟩
          obtain ⟨n', hn'⟩ : ∃ n', n' = nctD n a' := ⟨_, rfl⟩
          obtain ⟨wx, hwx⟩ : ∃ wx, wx = nctW n a' := ⟨_, rfl⟩
          rw [← hA] at HAK ⊢
          rw [← hn'] at HDK hnl HU
          rw [← hwx] at HWK HL5 ⊢
          clear hA hn' hwx
          unfold wcs
          have hA := alloc_below8 W4 (.cells #[.int .u8 (wx.fr : Int), .int .u8 (wx.to : Int), .slice a5 wx.b.length c5] 39)
          have hZ := box_new W4 #[.int .u8 (wx.fr : Int), .int .u8 (wx.to : Int), .slice a5 wx.b.length c5] 39
          replace HU := hide (HU.out.below H hA)
          replace HX := hide (HX.out.below8 hA)
          replace HL5 := hide (HL5.out.below hA)
          have x0 := HX.out.cell 0 _ rfl
          have z2 := hZ.cell 2 _ rfl
          clear hA hZ
          have hAA : A = atA n a.i := by rw [HAK.out]; simp
          have hDD : n' = takD n a.i := by rw [HDK.out]; simp
          have hWW : wx = n.nth a.i := by rw [HWK.out]; simp
          clear HAK HDK HWK
          cases hin : n.inN a.i
          · have h6 : A = 6 := by rw [hAA]; unfold atA; rw [hin]; rfl
            have HO2 : Hid (Onc n' (k + 1) S Db T) := hide (by rw [hDD]; exact onc_takeNo HO.out hin)
            subst h6
            clear hAA hDD hWW hin
            go_wp2_with fail
            go_roundg g
            case measure => omega
            case rel => exact ⟨k + 1, n', _, S, Db, T, by omega, by first | rfl | go_num, hide (HU.out.mono (by omega)), HO2, by omega⟩
          · have h6 : A = 0 := by rw [hAA]; unfold atA; rw [hin]; rfl
            obtain ⟨y, hyk, hyb, hyS⟩ := HO.out.at hin
            have hto := onc_take HO.out hin hyb
            rw [← hDD] at hto
            have HO2 : Hid (Onc n' (k + 1) S Db (updT T y)) := hide hto.1
            have HTO := hide hto.2
            have hwb : wx.b = [(y : Int)] := by rw [hWW]; exact hyb
            have hwl : wx.b.length = 1 := by rw [hwb]; rfl
            have hTb := HO.out.bnd y
            rw [hwl] at HU HX HL5 x0 z2 ⊢
            rw [hwb] at HL5
            subst h6
            obtain ⟨g5, o5, he5, hc5⟩ := lies_one8 HL5.out
            subst he5
            have hy256 : y < 256 := by omega
            have l1 := HU.out.s1.look hy256
            have l2 := HU.out.t1.look hy256
            rw [hyS] at l1
            obtain ⟨W6, hrun, hU6, hk6⟩ := HU.out.putT H (by omega) hy256 (by omega)
            have l3 := hU6.t1.look hy256
            have l4 := hU6.d1.look hy256
            have e5 : ((updT T y y : Nat) : Int) = (T y : Int) + 1 := by unfold updT; rw [if_pos rfl]; omega
            rw [e5] at l3
            have HU7 := hide hU6
            clear hU6 hk6 HU HL5 hto hyb hyS hwb hwl hAA hDD hWW hin e5
            obtain ⟨c, hc⟩ : ∃ c, c = T y := ⟨_, rfl⟩
            rw [← hc] at l2 l3 hrun HTO hTb
            by_cases h0 : c = 0
            · subst h0
              have q1 : ((0 : Nat) : Int) + 1 = 1 := rfl
              have q0 : ((0 : Nat) : Int) = 0 := rfl
              rw [q1] at l3 hrun
              rw [q0] at l2
              clear l4 hc q0 q1
              go_wp2_with fail
              have HU := HU7
              clear l1 l2 l3 hrun
              go_roundg g
              case measure => omega
              case rel => exact ⟨k + 1, n', _, S, Db, updT T y, by omega, by first | rfl | go_num, hide (HU.out.mono (by omega)), HO2, by omega⟩
            · have hd : Db y = true := by
                cases h : Db y
                · exact absurd (HTO.out h) h0
                · rfl
              rw [hd] at l4
              have d1 : decide ((c : Int) + 1 > 1) = true := decide_eq_true (by omega)
              have d2 : (1 : Int) < (c : Int) + 1 := by omega
              have d3 : (0 : Int) < (c : Int) := by omega
              clear hc hd
              go_wp2_with fail
              have HU := HU7
              clear l1 l2 l3 l4 hrun
              go_roundg g
              case measure => omega
              case rel => exact ⟨k + 1, n', _, S, Db, updT T y, by omega, by first | rfl | go_num, hide (HU.out.mono (by omega)), HO2, by omega⟩
        · go_wp2_with fail
          clear x0 x1 x2 x3 x4 y2
          refine (HDO.out _ _ _ HU.out.dd hlost HLB.out).mono ?_
          rintro e W4 ⟨sv5, rfl, F2, hD2, hk2, hF2, ho2, hg2⟩
          obtain ⟨a5, c5, hv5⟩ := (Lies.of_own ho2).shape
          subst hv5
          have HL5 := hide (Lies.of_own ho2)
          replace HX := hide (HX.out.keep hk2 HFX.out)
          replace HU := hide (HU.out.does hD2 hk2 hF2)
          clear hD2 hk2 hF2 ho2 hg2 HDO HLB
          obtain ⟨A, hA⟩ : ∃ A, A = nctA n a' := ⟨_, rfl⟩
          obtain ⟨n', hn'⟩ : ∃ n', n' = nctD n a' := ⟨_, rfl⟩
          obtain ⟨wx, hwx⟩ : ∃ wx, wx = nctW n a' := ⟨_, rfl⟩
          rw [← hA] at HAK ⊢
          rw [← hn'] at HDK hnl HU
          rw [← hwx] at HWK HL5 ⊢
          clear hA hn' hwx
          unfold wcs
          have hA := alloc_below8 W4 (.cells #[.int .u8 (wx.fr : Int), .int .u8 (wx.to : Int), .slice a5 wx.b.length c5] 39)
          have hZ := box_new W4 #[.int .u8 (wx.fr : Int), .int .u8 (wx.to : Int), .slice a5 wx.b.length c5] 39
          replace HU := hide (HU.out.below H hA)
          replace HX := hide (HX.out.below8 hA)
          replace HL5 := hide (HL5.out.below hA)
          have x0 := HX.out.cell 0 _ rfl
          have z2 := hZ.cell 2 _ rfl
          clear hA hZ
          have HO2 : Hid (Onc n' (k + 1) S Db T) := hide (by rw [HDK.out]; simpa using HO.out.next)
          clear HAK HDK HWK
          by_cases h0 : A = 0
          · subst h0
            go_wp2_with fail
            go_roundg g
            case measure => omega
            case rel => exact ⟨k + 1, n', _, S, Db, T, by omega, by first | rfl | go_num, hide (HU.out.mono (by omega)), HO2, by omega⟩
          · have d0 : (A == 0) = false := by simpa using h0
            clear h0
            go_wp2_with fail
            go_roundg g
            case measure => omega
            case rel => exact ⟨k + 1, n', _, S, Db, T, by omega, by first | rfl | go_num, hide (HU.out.mono (by omega)), HO2, by omega⟩
        · go_wp2_with fail
          clear x0 x1 x2 x3 x4 y2
          refine (HDO.out _ _ _ HU.out.dd hlost HLB.out).mono ?_
          rintro e W4 ⟨sv5, rfl, F2, hD2, hk2, hF2, ho2, hg2⟩
          obtain ⟨a5, c5, hv5⟩ := (Lies.of_own ho2).shape
          subst hv5
          have HL5 := hide (Lies.of_own ho2)
          replace HX := hide (HX.out.keep hk2 HFX.out)
          replace HU := hide (HU.out.does hD2 hk2 hF2)
          clear hD2 hk2 hF2 ho2 hg2 HDO HLB
          obtain ⟨A, hA⟩ : ∃ A, A = nctA n a' := ⟨_, rfl⟩
          obtain ⟨n', hn'⟩ : ∃ n', n' = nctD n a' := ⟨_, rfl⟩
          obtain ⟨wx, hwx⟩ : ∃ wx, wx = nctW n a' := ⟨_, rfl⟩
          rw [← hA] at HAK ⊢
          rw [← hn'] at HDK hnl HU
          rw [← hwx] at HWK HL5 ⊢
          clear hA hn' hwx
          unfold wcs
          have hA := alloc_below8 W4 (.cells #[.int .u8 (wx.fr : Int), .int .u8 (wx.to : Int), .slice a5 wx.b.length c5] 39)
          have hZ := box_new W4 #[.int .u8 (wx.fr : Int), .int .u8 (wx.to : Int), .slice a5 wx.b.length c5] 39
          replace HU := hide (HU.out.below H hA)
          replace HX := hide (HX.out.below8 hA)
          replace HL5 := hide (HL5.out.below hA)
          have x0 := HX.out.cell 0 _ rfl
          have z2 := hZ.cell 2 _ rfl
          clear hA hZ
          have HO2 : Hid (Onc n' (k + 1) S Db T) := hide (by rw [HDK.out]; simpa using onc_drop HO.out a.i)
          clear HAK HDK HWK
          by_cases h0 : A = 0
          · subst h0
            go_wp2_with fail
            go_roundg g
            case measure => omega
            case rel => exact ⟨k + 1, n', _, S, Db, T, by omega, by first | rfl | go_num, hide (HU.out.mono (by omega)), HO2, by omega⟩
          · have d0 : (A == 0) = false := by simpa using h0
            clear h0
            go_wp2_with fail
            go_roundg g
            case measure => omega
            case rel => exact ⟨k + 1, n', _, S, Db, T, by omega, by first | rfl | go_num, hide (HU.out.mono (by omega)), HO2, by omega⟩
        · cases hin : n.inN a.i
          · have hat : AT = 6 := by rw [HAT.out]; unfold atA; rw [hin]; rfl
            subst hat
            have HIN := hide hin
            clear hin
            go_wp2_with fail
            clear x0 x1 x2 x3 x4 y2
            refine (HDO.out _ _ _ HU.out.dd hlost HLB.out).mono ?_
            rintro e W4 ⟨sv5, rfl, F2, hD2, hk2, hF2, ho2, hg2⟩
            obtain ⟨a5, c5, hv5⟩ := (Lies.of_own ho2).shape
            subst hv5
            have HL5 := hide (Lies.of_own ho2)
            replace HX := hide (HX.out.keep hk2 HFX.out)
            replace HU := hide (HU.out.does hD2 hk2 hF2)
            clear hD2 hk2 hF2 ho2 hg2 HDO HLB
            obtain ⟨A, hA⟩ : ∃ A, A = nctA n a' := ⟨_, rfl⟩
            obtain ⟨n', hn'⟩ : ∃ n', n' = nctD n a' := ⟨_, rfl⟩
            obtain ⟨wx, hwx⟩ : ∃ wx, wx = nctW n a' := ⟨_, rfl⟩
            rw [← hA] at HAK ⊢
            rw [← hn'] at HDK hnl HU
            rw [← hwx] at HWK HL5 ⊢
            clear hA hn' hwx
            unfold wcs
            have hA := alloc_below8 W4 (.cells #[.int .u8 (wx.fr : Int), .int .u8 (wx.to : Int), .slice a5 wx.b.length c5] 39)
            have hZ := box_new W4 #[.int .u8 (wx.fr : Int), .int .u8 (wx.to : Int), .slice a5 wx.b.length c5] 39
            replace HU := hide (HU.out.below H hA)
            replace HX := hide (HX.out.below8 hA)
            replace HL5 := hide (HL5.out.below hA)
            have x0 := HX.out.cell 0 _ rfl
            have z2 := hZ.cell 2 _ rfl
            clear hA hZ
            have HO2 : Hid (Onc n' (k + 1) S Db T) := hide (by rw [HDK.out]; simpa using onc_twiceNo HO.out HIN.out)
            clear HAK HDK HWK
            by_cases h0 : A = 0
            · subst h0
              go_wp2_with fail
              go_roundg g
              case measure => omega
              case rel => exact ⟨k + 1, n', _, S, Db, T, by omega, by first | rfl | go_num, hide (HU.out.mono (by omega)), HO2, by omega⟩
            · have d0 : (A == 0) = false := by simpa using h0
              clear h0
              go_wp2_with fail
              go_roundg g
              case measure => omega
              case rel => exact ⟨k + 1, n', _, S, Db, T, by omega, by first | rfl | go_num, hide (HU.out.mono (by omega)), HO2, by omega⟩
          · have hat : AT = 0 := by rw [HAT.out]; unfold atA; rw [hin]; rfl
            subst hat
            obtain ⟨y, hyk, hyb, _⟩ := HO.out.at hin
            have HIN := hide hin
            have HYB := hide hyb
            have hxb : x.b = [(y : Int)] := by rw [HXX.out]; exact hyb
            have hxl : x.b.length = 1 := by rw [hxb]; rfl
            rw [hxl] at HU HX HLB HL2 y2 x0 x1 x2 x3 x4 ⊢
            rw [hxb] at HL2
            obtain ⟨g2, o2, he2, hc2⟩ := lies_one8 HL2.out
            subst he2
            obtain ⟨W3, hrun, hU3, hk3⟩ := HU.out.putD H (by omega) (show y < 256 by omega)
            have HU3 := hide hU3
            have HX3 := hide (HX.out.keep hk3 (fun e => by have e3 : wr.heap.size = ms + 1 := e; have := HMX.out; omega))
            have HLB3 := hide (HLB.out.kept8 hk3 (fun g e e2 => by cases e; have e3 : wr.heap.size + 1 = ms + 1 := e2; have := HMX.out; omega))
            have v0 := HX3.out.cell 0 _ rfl
            have v1 := HX3.out.cell 1 _ rfl
            have v2 := HX3.out.cell 2 _ rfl
            have v3 := HX3.out.cell 3 _ rfl
            have v4 := HX3.out.cell 4 _ rfl
            clear hU3 hk3 hin hyb hxb hxl HU HX HLB HL2
            go_wp2_with fail
            clear v0 v1 v2 v3 v4 x0 x1 x2 x3 x4 y2 hrun hc2
            have HU := HU3
            have HX := HX3
            have HLB := HLB3
            clear HU3 HX3 HLB3
            refine (HDO.out _ _ _ HU.out.dd hlost HLB.out).mono ?_
            rintro e W4 ⟨sv5, rfl, F2, hD2, hk2, hF2, ho2, hg2⟩
            obtain ⟨a5, c5, hv5⟩ := (Lies.of_own ho2).shape
            subst hv5
            have HL5 := hide (Lies.of_own ho2)
            replace HX := hide (HX.out.keep hk2 HFX.out)
            replace HU := hide (HU.out.does hD2 hk2 hF2)
            clear hD2 hk2 hF2 ho2 hg2 HDO HLB
            obtain ⟨A, hA⟩ : ∃ A, A = nctA n a' := ⟨_, rfl⟩
            obtain ⟨n', hn'⟩ : ∃ n', n' = nctD n a' := ⟨_, rfl⟩
            obtain ⟨wx, hwx⟩ : ∃ wx, wx = nctW n a' := ⟨_, rfl⟩
            rw [← hA] at HAK ⊢
            rw [← hn'] at HDK hnl HU
            rw [← hwx] at HWK HL5 ⊢
            clear hA hn' hwx
            unfold wcs
            have hA := alloc_below8 W4 (.cells #[.int .u8 (wx.fr : Int), .int .u8 (wx.to : Int), .slice a5 wx.b.length c5] 39)
            have hZ := box_new W4 #[.int .u8 (wx.fr : Int), .int .u8 (wx.to : Int), .slice a5 wx.b.length c5] 39
            replace HU := hide (HU.out.below H hA)
            replace HX := hide (HX.out.below8 hA)
            replace HL5 := hide (HL5.out.below hA)
            have x0 := HX.out.cell 0 _ rfl
            have z2 := hZ.cell 2 _ rfl
            clear hA hZ
            have HO2 : Hid (Onc n' (k + 1) S (updB Db y) T) := hide (by rw [HDK.out]; simpa using onc_twice HO.out HIN.out HYB.out)
            clear HAK HDK HWK
            by_cases h0 : A = 0
            · subst h0
              go_wp2_with fail
              go_roundg g
              case measure => omega
              case rel => exact ⟨k + 1, n', _, S, updB Db y, T, by omega, by first | rfl | go_num, hide (HU.out.mono (by omega)), HO2, by omega⟩
            · have d0 : (A == 0) = false := by simpa using h0
              clear h0
              go_wp2_with fail
              go_roundg g
              case measure => omega
              case rel => exact ⟨k + 1, n', _, S, updB Db y, T, by omega, by first | rfl | go_num, hide (HU.out.mono (by omega)), HO2, by omega⟩
        · go_wp2_with fail
          clear x0 x1 x2 x3 x4 y2
          refine (HDO.out _ _ _ HU.out.dd hlost HLB.out).mono ?_
          rintro e W4 ⟨sv5, rfl, F2, hD2, hk2, hF2, ho2, hg2⟩
          obtain ⟨a5, c5, hv5⟩ := (Lies.of_own ho2).shape
          subst hv5
          have HL5 := hide (Lies.of_own ho2)
          replace HX := hide (HX.out.keep hk2 HFX.out)
          replace HU := hide (HU.out.does hD2 hk2 hF2)
          clear hD2 hk2 hF2 ho2 hg2 HDO HLB
          obtain ⟨A, hA⟩ : ∃ A, A = nctA n a' := ⟨_, rfl⟩
          obtain ⟨n', hn'⟩ : ∃ n', n' = nctD n a' := ⟨_, rfl⟩
          obtain ⟨wx, hwx⟩ : ∃ wx, wx = nctW n a' := ⟨_, rfl⟩
          rw [← hA] at HAK ⊢
          rw [← hn'] at HDK hnl HU
          rw [← hwx] at HWK HL5 ⊢
          clear hA hn' hwx
          unfold wcs
          have hA := alloc_below8 W4 (.cells #[.int .u8 (wx.fr : Int), .int .u8 (wx.to : Int), .slice a5 wx.b.length c5] 39)
          have hZ := box_new W4 #[.int .u8 (wx.fr : Int), .int .u8 (wx.to : Int), .slice a5 wx.b.length c5] 39
          replace HU := hide (HU.out.below H hA)
          replace HX := hide (HX.out.below8 hA)
          replace HL5 := hide (HL5.out.below hA)
          have x0 := HX.out.cell 0 _ rfl
          have z2 := hZ.cell 2 _ rfl
          clear hA hZ
          have HO2 : Hid (Onc n' (k + 1) S Db T) := hide (by rw [HDK.out]; simpa using onc_late HO.out a.i)
          clear HAK HDK HWK
          by_cases h0 : A = 0
          · subst h0
            go_wp2_with fail
            go_roundg g
            case measure => omega
            case rel => exact ⟨k + 1, n', _, S, Db, T, by omega, by first | rfl | go_num, hide (HU.out.mono (by omega)), HO2, by omega⟩
          · have d0 : (A == 0) = false := by simpa using h0
            clear h0
            go_wp2_with fail
            go_roundg g
            case measure => omega
            case rel => exact ⟨k + 1, n', _, S, Db, T, by omega, by first | rfl | go_num, hide (HU.out.mono (by omega)), HO2, by omega⟩
end
end Go.Proofs.Yteehkjdolmmapaa
