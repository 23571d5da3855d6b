/-
  NetPlays: a network answers as the document's. The walk, by the bundle. Own work.
-/
import Derived.Test.YteehkjdolmmapaaNtAlive
import Derived.Test.YteehkjdolmmapaaNtCount
import Derived.Test.YteehkjdolmmapaaNtDuo
import Derived.Deep.RegionHeldLaw
import Derived.Deep.LoopGhost
namespace Go.Proofs.Yteehkjdolmmapaa
open Go.RowKit

section
variable {D : World → Nat → (Nat → Prop) → Nt → Prop}
set_option maxRecDepth 100000 in
set_option maxHeartbeats 3200000 in
theorem walkP8 (H : NetDo D) (room : Int) (v : Value) (fs : List NAct) (w : World) (hL : NLies w v fs) (hok : ∀ f ∈ fs, f.Ok) :
    Calls Try.prog 3 #[.int .i64 room, v] w fun e w' => e = .returned (.bool true) ∧ Below w.heap.size w w' := by
  have CL := hide (long_any8 v fs w hL)
  have CA := hide (fun W => alive_by8 H W)
  have CS := hide (fun W (h : NLies W v fs) => short_any8 v fs W h)
  have HLS := hide hL
  obtain ⟨ao0, cap0, hv0, _⟩ := hL.shape
  subst hv0
  have hokt : ∀ f ∈ fs.take 100, f.Ok := fun f hf => hok f (List.mem_of_mem_take hf)
  have hal : (fs.take 100).length ≤ 100 := by simp; omega
  obtain ⟨ts, hts⟩ : ∃ ts, ts = fs.take 100 := ⟨_, rfl⟩
  rw [← hts] at CL CS hokt hal
  have HOKT := hide hokt
  clear hts hok hL hokt
  by_cases hlong : 32768 < bulkN ts
  · rw [decide_eq_true hlong] at CL
    go_enter Try.func3, Try.ntmps3
    go_wp2_with fail
    refine CL.out.mono ?_
    rintro e w1 ⟨rfl, hB⟩
    have HB := hide hB
    clear hB CL
    go_wp2_with fail
    refine (CA.out w1).mono ?_
    rintro e we ⟨rfl, hB⟩
    replace HB := hide (HB.out.trans (hB.mono HB.out.size))
    clear hB
    go_wp2_with fail
    go_ret
    exact ⟨rfl, HB.out⟩
  · rw [decide_eq_false hlong] at CL
    clear hlong
    cases hn : newOk8 room
    · have hna : newA8 room = 1 := by unfold newA8; rw [hn]; rfl
      go_enter Try.func3, Try.ntmps3
      go_wp2_with fail
      refine CL.out.mono ?_
      rintro e w1 ⟨rfl, hB⟩
      have HB := hide hB
      clear hB CL
      go_wp2_with fail
      refine (H.newNo room w1 hn).mono ?_
      rintro e w2 ⟨rfl, hB⟩
      replace HB := hide (HB.out.trans (hB.mono HB.out.size))
      clear hB
      go_wp2_with fail
      refine (rnew8_any room w2).mono ?_
      rintro e w3 ⟨rfl, hB⟩
      rw [hna]
      replace HB := hide (HB.out.trans (hB.mono HB.out.size))
      clear hB
      have hr : newR8 room = newN 0 := by unfold newR8; rw [hn]; rfl
      rw [hr]
      unfold rncells newN
      go_wp2_with fail
      have hB := alloc_below8 w3 (.cells #[.int .i64 0, .slice none 0 0, .int .i64 0] 31)
      revert hB
      generalize w3.alloc (.cells #[.int .i64 0, .slice none 0 0, .int .i64 0] 31) = w4
      intro hB
      replace HB := hide (HB.out.trans (hB.mono HB.out.size))
      clear hB
      refine (CA.out w4).mono ?_
      rintro e we ⟨rfl, hB⟩
      replace HB := hide (HB.out.trans (hB.mono HB.out.size))
      clear hB
      go_wp2_with fail
      go_ret
      exact ⟨rfl, HB.out⟩
    · have hna : newA8 room = 0 := by unfold newA8; rw [hn]; rfl
      obtain ⟨rn, hrn⟩ : ∃ rn : Nat, rn = room.toNat := ⟨_, rfl⟩
      have hnr : newR8 room = newN rn := by unfold newR8; rw [hn, hrn]; rfl
      have hrb : 1 ≤ rn ∧ rn ≤ 256 := by unfold newOk8 at hn; simp at hn; omega
      go_enter Try.func3, Try.ntmps3
      go_wp2_with fail
      refine CL.out.mono ?_
      rintro e w1 ⟨rfl, hB⟩
      have HB := hide hB
      clear hB CL
      go_wp2_with fail
      refine (H.new room w1 hn).mono ?_
      rintro e w2 ⟨q, F0, rfl, hD, hF, hB⟩
      rw [← hrn] at hD
      have HD := hide hD
      have HF0 : Hid (∀ k, F0 k → w.heap.size ≤ k) := hide (fun k hk => Nat.le_trans HB.out.size (hF k hk))
      replace HB := hide (HB.out.trans (hB.mono HB.out.size))
      clear hB hD hF hn hrn
      go_wp2_with fail
      refine (rnew8_any room w2).mono ?_
      rintro e w3 ⟨rfl, hB⟩
      rw [hna, hnr]
      replace HB := hide (HB.out.trans (hB.mono HB.out.size))
      replace HD := hide (H.below HD.out hB)
      clear hB hna hnr
      unfold rncells newN
      go_wp2_with fail
      have hB := alloc_below8 w3 (.cells #[.int .i64 (rn : Int), .slice none 0 0, .int .i64 0] 31)
      have hX := box_new w3 #[.int .i64 (rn : Int), .slice none 0 0, .int .i64 0] 31
      have HLT0 := H.lt HD.out
      have HLE0 := HB.out.size
      revert hB hX
      generalize w3.alloc (.cells #[.int .i64 (rn : Int), .slice none 0 0, .int .i64 0] 31) = w4
      intro hB hX
      have hu1 : ∀ k, usesR w3.heap.size (.slice none 0 0) [] k → w.heap.size ≤ k := fun k hu => by
        rcases hu with h | h | ⟨y, hy, _⟩
        · rw [h]; exact HLE0
        · cases h
        · cases hy
      have hap : ∀ k, usesR w3.heap.size (.slice none 0 0) [] k → ¬ F0 k := fun k hu hf => by
        rcases hu with h | h | ⟨y, hy, _⟩
        · have := HLT0 k hf; omega
        · cases h
        · cases hy
      have HDU : Hid (Duo8 D w q w3.heap.size F0 (.slice none 0 0) [] (newN rn) (newN rn) w4) := hide ⟨H.below HD.out hB, ⟨hX, World.ownsRow_nil _ _ _ _, fun x hx => (by cases hx), rfl, newN_ok rn hrb.1 hrb.2, fun x hx => (by cases hx)⟩, HF0.out, hu1, hap, HB.out.trans (hB.mono HLE0)⟩
      clear hu1 hap
      replace HB := hide (HB.out.trans (hB.mono HB.out.size))
      generalize w3.heap.size = p at *
      clear hB hX HD HF0 HLT0 HLE0
      refine (CS.out w4 (HLS.out.below HB.out)).mono ?_
      rintro e wS ⟨v3, rfl, hL3, hw3, hLW⟩
      subst hw3
      obtain ⟨ao3, cap3, hv3, hc3, _, _⟩ := hL3.shape
      subst hv3
      have HLT := hide (hLW w HLS.out)
      clear hL3 hLW HB CS HLS
      go_wp2_with fail
      go_loopg [47] ts.length (fun g i wr => ∃ (k : Nat) (n : Nt) (F : Nat → Prop) (vb : Value) (ws : List (Wr × Value)), k + g = ts.length ∧ i = .int .i64 k ∧ Hid (Duo8 D w q p F vb ws n n wr) ∧ n.lost ≤ k)
      case atStart => exact ⟨0, newN rn, F0, _, _, by omega, rfl, HDU, Nat.le_refl _⟩
      case round =>
        obtain ⟨k, n, F, vb, ws, hk, rfl, HU, hlk⟩ := hrel
        clear HDU
        cases gk with
        | succ g =>
          have hz : (k : Int) < (ts.length : Int) := by omega
          have hlost : n.lost ≤ 1000000 := by omega
          obtain ⟨b, off, cap', sv, e, hb, hLs, c0, c1, c2, c3, c4⟩ := HLT.out.at k (by omega)
          cases e
          obtain ⟨sa, sc, hsv⟩ := hLs.shape
          subst hsv
          have ha := HOKT.out ts[k] (List.getElem_mem _)
          generalize ts[k] = a at *
          have HA := hide ha
          have HLA := hide hLs
          have hat := ha.t
          have k0 := (HU.out.B.cell (p := ⟨b, off + k * 5, none⟩) hb).trans c0
          have k1 := (HU.out.B.cell (p := ⟨b, off + k * 5 + 1, none⟩) hb).trans c1
          have k2 := (HU.out.B.cell (p := ⟨b, off + k * 5 + 2, none⟩) hb).trans c2
          have k3 := (HU.out.B.cell (p := ⟨b, off + k * 5 + 3, none⟩) hb).trans c3
          have k4 := (HU.out.B.cell (p := ⟨b, off + k * 5 + 4, none⟩) hb).trans c4
          clear hLs ha c0 c1 c2 c3 c4
          go_wp2_with fail
          have hA := alloc_below8 wr (.cells #[.int .u8 (a.kind : Int), .int .u8 (a.fr : Int), .int .u8 (a.to : Int), .int .i64 a.i, .slice sa a.b.length sc] 37)
          have hX := box_new wr #[.int .u8 (a.kind : Int), .int .u8 (a.fr : Int), .int .u8 (a.to : Int), .int .i64 a.i, .slice sa a.b.length sc] 37
          revert hA hX
          generalize wr.alloc (.cells #[.int .u8 (a.kind : Int), .int .u8 (a.fr : Int), .int .u8 (a.to : Int), .int .i64 a.i, .slice sa a.b.length sc] 37) = W1
          intro hB hX
          have HX := hide hX
          have HPL : Hid (p < wr.heap.size ∧ ∀ k, F k → k < wr.heap.size) := hide ⟨HU.out.rr.box.lt, H.lt HU.out.dd⟩
          have HW1 : Hid (wr.heap.size < W1.heap.size) := hide hX.lt
          replace HU := hide (HU.out.below H hB)
          clear hB hX k0 k1 k2 k3 k4 hb
          refine (does_any8 H q F n a _ W1 HU.out.dd HA.out (HLA.out.below HU.out.B) hlost).mono ?_
          rintro e W2 ⟨sv2, rfl, F2, hD2, hk2, hF2, ho2, hg2⟩
          obtain ⟨a2, c2, hv2⟩ := (Lies.of_own ho2).shape
          subst hv2
          have HL2 := hide (Lies.of_own ho2)
          have HP2 : Hid (∀ g, (Value.slice a2 (nctW n a).b.length c2).ownBlock = some g → g ≠ p) := hide (fun g e e2 => by
            rcases (hg2 g e).2 with h | h
            · exact HU.out.ap p (.inl rfl) (e2 ▸ h)
            · have := HPL.out.1; have := HW1.out; omega)
          replace HX := hide (HX.out.keep hk2 (fun hf => by have := HPL.out.2 _ hf; omega))
          have HXP : Hid (wr.heap.size ≠ p) := hide (by have := HPL.out.1; omega)
          have HPL2 : Hid (p < W2.heap.size) := hide (by have := HPL.out.1; have := HW1.out; have := hk2.size; omega)
          replace HU := hide (HU.out.does hD2 hk2 hF2)
          clear hD2 hk2 hF2 ho2 hg2 HPL HW1
          obtain ⟨x, hx⟩ : ∃ x, x = nctW n a := ⟨_, rfl⟩
          rw [← hx] at HL2 HP2 ⊢
          have HXX := hide hx
          clear hx
          unfold wcs
          have hA := alloc_below8 W2 (.cells #[.int .u8 (x.fr : Int), .int .u8 (x.to : Int), .slice a2 x.b.length c2] 39)
          have HY := hide (box_new W2 #[.int .u8 (x.fr : Int), .int .u8 (x.to : Int), .slice a2 x.b.length c2] 39)
          replace HU := hide (HU.out.below H hA)
          replace HX := hide (HX.out.below8 hA)
          replace HL2 := hide (HL2.out.below hA)
          have x0 := HX.out.cell 0 _ rfl
          have x1 := HX.out.cell 1 _ rfl
          have x2 := HX.out.cell 2 _ rfl
          have x3 := HX.out.cell 3 _ rfl
          have x4 := HX.out.cell 4 _ rfl
          have C := hide (would_any8 p vb ws n a (.slice sa a.b.length sc) _ HU.out.rr HA.out (HLA.out.below HU.out.B) hlost)
          clear hA
          go_wp2_with fail
          refine C.out.mono ?_
          rintro e W3 ⟨sv3, rfl, ⟨vb3, ws3, hR3, hk3, hu3⟩, hL3⟩
          obtain ⟨a3, c3, hv3⟩ := hL3.shape
          subst hv3
          have HL3 := hide hL3
          replace HX := hide (HX.out.keep hk3 (fun e => HXP.out e))
          replace HY := hide (HY.out.keep hk3 (fun e => by have := HPL2.out; omega))
          replace HL2 := hide (HL2.out.kept8 hk3 (fun g e => HP2.out g e))
          replace HU := hide (HU.out.would H hR3 hk3 hu3)
          rw [← HXX.out] at HL3 ⊢
          clear hR3 hk3 hu3 hL3 x0 x1 x2 x3 x4 C HP2 HPL2
          have hlo := nct_lost n a
          generalize nctA n a = A
          generalize nctD n a = n' at *
          have hlost2 : n'.lost ≤ 1000000 := by omega
          unfold wcs
          have hA := alloc_below8 W3 (.cells #[.int .u8 (x.fr : Int), .int .u8 (x.to : Int), .slice a3 x.b.length c3] 39)
          have HZ := hide (box_new W3 #[.int .u8 (x.fr : Int), .int .u8 (x.to : Int), .slice a3 x.b.length c3] 39)
          replace HU := hide (HU.out.below H hA)
          replace HX := hide (HX.out.below8 hA)
          replace HY := hide (HY.out.below8 hA)
          replace HL2 := hide (HL2.out.below hA)
          replace HL3 := hide (HL3.out.below hA)
          clear hA
          go_wp2_with fail
          generalize W3.alloc (.cells #[.int .u8 (x.fr : Int), .int .u8 (x.to : Int), .slice a3 x.b.length c3] 39) = W4 at HU HX HY HZ HL2 HL3 ⊢
          obtain ⟨ar, cr, hvr, _⟩ := HU.out.rr.shape
          have HVR := hide hvr
          have SS : Hid (∀ Z, Below W4.heap.size W4 Z → (Z.cell? ⟨wr.heap.size, 2, none⟩ = some (.int .u8 (a.to : Int)) ∧ Z.cell? ⟨W2.heap.size, 0, none⟩ = some (.int .u8 (x.fr : Int)) ∧ Z.cell? ⟨W2.heap.size, 1, none⟩ = some (.int .u8 (x.to : Int)) ∧ Z.cell? ⟨W2.heap.size, 2, none⟩ = some (.slice a2 x.b.length c2) ∧ Z.cell? ⟨W3.heap.size, 0, none⟩ = some (.int .u8 (x.fr : Int)) ∧ Z.cell? ⟨W3.heap.size, 1, none⟩ = some (.int .u8 (x.to : Int)) ∧ Z.cell? ⟨W3.heap.size, 2, none⟩ = some (.slice a3 x.b.length c3) ∧ Z.cell? ⟨p, 1, none⟩ = some (.slice ar n'.l.length cr) ∧ Z.cell? ⟨p, 2, none⟩ = some (.int .i64 (n'.lost : Int)))) := hide (fun Z hB => by
            have hb1 := HX.out.below8 hB
            have hb2 := HY.out.below8 hB
            have hb3 := HZ.out.below8 hB
            have hr := (HU.out.rr.below hB).at
            rw [HVR.out] at hr
            exact ⟨hb1.cell 2 _ rfl, hb2.cell 0 _ rfl, hb2.cell 1 _ rfl, hb2.cell 2 _ rfl, hb3.cell 0 _ rfl, hb3.cell 1 _ rfl, hb3.cell 2 _ rfl, hr.2.1, hr.2.2⟩)
          have HCUR : Hid (Below W4.heap.size W4 W4.drew) := hide (Below.refl _ _).drew
          have CSAME := hide (fun Z (hB : Below W4.heap.size W4 Z) => same8_any x (.slice a2 x.b.length c2) (.slice a3 x.b.length c3) Z (HL2.out.below hB) (HL3.out.below hB))
          unfold wcs at CSAME
          have ss0 := SS.out W4 (Below.refl _ _)
          clear hvr
          go_region_held (fun w' => (w'.cell? ⟨wr.heap.size, 2, none⟩ = some (.int .u8 (a.to : Int)) ∧ w'.cell? ⟨W2.heap.size, 0, none⟩ = some (.int .u8 (x.fr : Int)) ∧ w'.cell? ⟨W2.heap.size, 1, none⟩ = some (.int .u8 (x.to : Int)) ∧ w'.cell? ⟨W2.heap.size, 2, none⟩ = some (.slice a2 x.b.length c2) ∧ w'.cell? ⟨W3.heap.size, 0, none⟩ = some (.int .u8 (x.fr : Int)) ∧ w'.cell? ⟨W3.heap.size, 1, none⟩ = some (.int .u8 (x.to : Int)) ∧ w'.cell? ⟨W3.heap.size, 2, none⟩ = some (.slice a3 x.b.length c3) ∧ w'.cell? ⟨p, 1, none⟩ = some (.slice ar n'.l.length cr) ∧ w'.cell? ⟨p, 2, none⟩ = some (.int .i64 (n'.lost : Int)))) (go_keep) (first
            | (go_at_call 15; refine (CSAME.out _ HCUR.out).mono ?_; rintro e Z1 ⟨rfl, hB⟩; replace HCUR := hide (HCUR.out.trans (hB.mono HCUR.out.size)); have ss := SS.out Z1 HCUR.out; clear hB)
            | (go_at_call 16; refine (H.len (H.below HU.out.dd HCUR.out)).mono ?_; rintro e Z2 ⟨rfl, m, hw⟩; have hB : Below _ _ Z2 := hw ▸ below_drewN8 _ m; replace HCUR := hide (HCUR.out.trans (hB.mono HCUR.out.size)); have ss := SS.out Z2 HCUR.out; clear hB hw)
            | (go_at_call 17; refine (H.los (H.below HU.out.dd HCUR.out) hlost2).mono ?_; rintro e Z3 ⟨rfl, m, hw⟩; have hB : Below _ _ Z3 := hw ▸ below_drewN8 _ m; replace HCUR := hide (HCUR.out.trans (hB.mono HCUR.out.size)); have ss := SS.out Z3 HCUR.out; clear hB hw)
            | (go_at_call 19; refine (H.to' a.to (H.below HU.out.dd HCUR.out) hat).mono ?_; rintro e Z4 ⟨u4, rfl, hL4, hB⟩; obtain ⟨a4', c4', hu4⟩ := hL4.shape; subst hu4; replace HCUR := hide (HCUR.out.trans (hB.mono HCUR.out.size)); have HT1 := hide hL4; (try replace HT2 := hide (HT2.out.below hB)); have ss := SS.out Z4 HCUR.out; clear hB hL4)
            | (go_at_call 20; refine (rto_any p vb3 ws3 n' a.to _ (HU.out.rr.below HCUR.out)).mono ?_; rintro e Z5 ⟨u5, rfl, hL5, hB⟩; obtain ⟨a5', c5', hu5⟩ := hL5.shape; subst hu5; replace HCUR := hide (HCUR.out.trans (hB.mono HCUR.out.size)); have HT2 := hide hL5; (try replace HT1 := hide (HT1.out.below hB)); have ss := SS.out Z5 HCUR.out; clear hB hL5)
            | (go_at_call 18; refine (ints_any _ _ (toL n' a.to) _ HT1.out HT2.out).mono ?_; rintro e Z6 ⟨rfl, m, hw⟩; have hB : Below _ _ Z6 := hw ▸ below_drewN8 _ m; replace HCUR := hide (HCUR.out.trans (hB.mono HCUR.out.size)); have ss := SS.out Z6 HCUR.out; clear hB hw))
          all_goals go_wp2_with fail
          all_goals go_roundg g
          all_goals first
            | omega
            | exact ⟨k + 1, n', F2, vb3, ws3, by omega, by first | rfl | go_num, hide (HU.out.below H HCUR.out), by omega⟩
        | zero =>
          obtain rfl : k = ts.length := by omega
          have hz : ¬ ((ts.length : Int) < (ts.length : Int)) := by omega
          obtain ⟨ar, cr, hvr, _⟩ := HU.out.rr.shape
          have m1 := HU.out.rr.at.2.1
          rw [hvr] at m1
          have hmx : n.l.length ≤ 256 := Nat.le_trans HU.out.rr.ok.full HU.out.rr.ok.r2
          clear hvr
          go_wp2_with fail
          clear m1
          go_loopg [101] n.l.length (fun g i wy => ∃ j : Nat, j + g = n.l.length ∧ i = .int .i64 j ∧ Hid (Duo8 D w q p F vb ws n n wy))
          case atStart => exact ⟨0, by omega, rfl, HU⟩
          case round =>
            obtain ⟨j, hj, rfl, HU2⟩ := hrel
            clear HU
            cases gk with
            | zero =>
              obtain rfl : j = n.l.length := by omega
              have hz2 : ¬ ((n.l.length : Int) < (n.l.length : Int)) := by omega
              have HB := hide HU2.out.B
              go_wp2_with fail
              refine (CA.out _).mono ?_
              rintro e we ⟨rfl, hB⟩
              replace HB := hide (HB.out.trans (hB.mono HB.out.size))
              clear hB
              go_wp2_with fail
              go_ret
              exact ⟨rfl, HB.out⟩
            | succ g =>
              have hz2 : (j : Int) < (n.l.length : Int) := by omega
              have HIN : Hid (n.inN (j : Int) = true) := hide (by unfold Nt.inN; simp; omega)
              have HE : Hid (atA n (j : Int) = 0) := hide (by unfold atA; rw [HIN.out]; rfl)
              obtain ⟨x, hx⟩ : ∃ x, x = n.nth (j : Int) := ⟨_, rfl⟩
              have HXX := hide hx
              clear hx
              go_wp2_with fail
              refine (H.at' (j : Int) HU2.out.dd).mono ?_
              rintro e W1 ⟨sv, rfl, ho, hB⟩
              obtain ⟨a1, c1, hv1⟩ := (Lies.of_own ho).shape
              subst hv1
              have HL1 := hide (Lies.of_own ho)
              rw [HE.out]
              rw [← HXX.out] at HL1 ⊢
              clear ho
              replace HU2 := hide (HU2.out.below H hB)
              clear hB
              unfold wcs
              have hA := alloc_below8 W1 (.cells #[.int .u8 (x.fr : Int), .int .u8 (x.to : Int), .slice a1 x.b.length c1] 50)
              have HY := hide (box_new W1 #[.int .u8 (x.fr : Int), .int .u8 (x.to : Int), .slice a1 x.b.length c1] 50)
              replace HU2 := hide (HU2.out.below H hA)
              replace HL1 := hide (HL1.out.below hA)
              clear hA
              go_wp2_with fail
              generalize W1.alloc (.cells #[.int .u8 (x.fr : Int), .int .u8 (x.to : Int), .slice a1 x.b.length c1] 50) = W2 at HU2 HY HL1 ⊢
              have hkw : j < ws.length := by rw [HU2.out.rr.len]; omega
              have HCC := hide (wcl_at hkw)
              have hm := List.getElem_mem hkw
              obtain ⟨a2, c2, hsv⟩ := (HU2.out.rr.by8 _ hm).shape
              have HL2 := hide (HU2.out.rr.by8 _ hm)
              have hn := HU2.out.rr.nth hkw
              rw [← HXX.out] at hn
              rw [hn] at HL2 hsv HCC
              rw [hsv] at HL2 HCC
              obtain ⟨gb, cap2, hg, hvb2, _⟩ := HU2.out.rr.block (by omega)
              have HG := hide hg
              have HVB := hide hvb2
              clear hm hn hsv hg hvb2
              have SS : Hid (∀ Z, Below W2.heap.size W2 Z → (Z.cell? ⟨W1.heap.size, 0, none⟩ = some (.int .u8 (x.fr : Int)) ∧ Z.cell? ⟨W1.heap.size, 1, none⟩ = some (.int .u8 (x.to : Int)) ∧ Z.cell? ⟨W1.heap.size, 2, none⟩ = some (.slice a1 x.b.length c1) ∧ Z.cell? ⟨p, 1, none⟩ = some (.slice (some ⟨gb, 0, none⟩) n.l.length cap2) ∧ Z.cell? ⟨gb, j * 3, none⟩ = some (.int .u8 (x.fr : Int)) ∧ Z.cell? ⟨gb, j * 3 + 1, none⟩ = some (.int .u8 (x.to : Int)) ∧ Z.cell? ⟨gb, j * 3 + 2, none⟩ = some (.slice a2 x.b.length c2))) := hide (fun Z hB => by
                have hb1 := HY.out.below8 hB
                have hr := HU2.out.rr.below hB
                have hr1 := hr.at.2.1
                rw [HVB.out] at hr1
                have q0 := hr.own.cells HG.out _ _ HCC.out.1
                have q1 := hr.own.cells HG.out _ _ HCC.out.2.1
                have q2 := hr.own.cells HG.out _ _ HCC.out.2.2
                rw [Addr.add_lit, Nat.zero_add] at q0 q1 q2
                exact ⟨hb1.cell 0 _ rfl, hb1.cell 1 _ rfl, hb1.cell 2 _ rfl, hr1, q0, q1, q2⟩)
              have HCUR : Hid (Below W2.heap.size W2 W2.drew) := hide (Below.refl _ _).drew
              have CSAME := hide (fun Z (hB : Below W2.heap.size W2 Z) => same8_any x (.slice a1 x.b.length c1) (.slice a2 x.b.length c2) Z (HL1.out.below hB) (HL2.out.below hB))
              have COURS := hide (fun Z => ours_any x a1 x.b.length c1 Z)
              unfold wcs at CSAME COURS
              have ss0 := SS.out W2 (Below.refl _ _)
              go_region_held (fun w' => (w'.cell? ⟨W1.heap.size, 0, none⟩ = some (.int .u8 (x.fr : Int)) ∧ w'.cell? ⟨W1.heap.size, 1, none⟩ = some (.int .u8 (x.to : Int)) ∧ w'.cell? ⟨W1.heap.size, 2, none⟩ = some (.slice a1 x.b.length c1) ∧ w'.cell? ⟨p, 1, none⟩ = some (.slice (some ⟨gb, 0, none⟩) n.l.length cap2) ∧ w'.cell? ⟨gb, j * 3, none⟩ = some (.int .u8 (x.fr : Int)) ∧ w'.cell? ⟨gb, j * 3 + 1, none⟩ = some (.int .u8 (x.to : Int)) ∧ w'.cell? ⟨gb, j * 3 + 2, none⟩ = some (.slice a2 x.b.length c2))) (go_keep) (first
                | (go_at_call 22; refine (COURS.out _).mono ?_; rintro e Z1 ⟨rfl, hB⟩; replace HCUR := hide (HCUR.out.trans (hB.mono HCUR.out.size)); have ss := SS.out Z1 HCUR.out; clear hB)
                | (go_at_call 15; refine (CSAME.out _ HCUR.out).mono ?_; rintro e Z2 ⟨rfl, hB⟩; replace HCUR := hide (HCUR.out.trans (hB.mono HCUR.out.size)); have ss := SS.out Z2 HCUR.out; clear hB))
              all_goals go_wp2_with fail
              all_goals go_roundg g
              all_goals first
                | omega
                | exact ⟨j + 1, by omega, by first | rfl | go_num, hide (HU2.out.below H HCUR.out)⟩
end
end Go.Proofs.Yteehkjdolmmapaa
