/-
  Proved: whatever bytes and kinds come, what is read without a fault is written as the same bytes; a fault tells the byte at which its field begins. For every input of the form's own reach. Own work.
-/
import Derived.Test.YtkeedioifjabeaaFramePlain
import Derived.Test.YtkeedioifjabeaaPair
import Derived.Test.YtkeedioifjabeaaEqVals
namespace Go.Proofs.Ytkeedioifjabeaa
open Go.ChangeShapes Go.WideShapes Go.ChangeAt Go.RowKit

namespace one
/-- What each round finds. -/
structure Inv (W wr : World) (bs : List Int) (p : Nat) (vb : Value) (r : RS) (pc : Nat) (v : Value) (xs : List Int) : Prop where
  rw : RW wr p vb bs r pc v xs
  why : r.why = 0
  fat : r.fat = 0
  all : bs = xs ++ r.bs
  went : r.went = xs.length
  bel : Below W.heap.size W wr
  p0 : W.heap.size ≤ p
  pc0 : W.heap.size ≤ pc
  v0 : ∀ g, v.ownBlock = some g → W.heap.size ≤ g
theorem Inv.next {W wr w4 w5 : World} {bs : List Int} {p : Nat} {vb : Value} {r r' : RS} {pc : Nat} {v v4 : Value} {xs ys : List Int} (h : Inv W wr bs p vb r pc v xs) (h4 : RW w4 p vb bs r' pc v4 (xs ++ ys)) (hra : ReadAs r r' ys) (hw : r'.why = 0)
    (hB4 : Below W.heap.size W w4) (hv4 : ∀ g, v4.ownBlock = some g → W.heap.size ≤ g) (hB5 : Below w4.heap.size w4 w5) : Inv W w5 bs p vb r' pc v4 (xs ++ ys) := by
  obtain ⟨h1, h2, h3⟩ := hra.fine h.all h.went hw
  exact ⟨h4.below hB5, hw, h3.trans h.fat, h1, h2, hB4.trans (hB5.mono hB4.size), h.p0, h.pc0, hv4⟩
set_option maxRecDepth 100000 in
set_option maxHeartbeats 6400000 in
theorem walkN (v0 v1 : Value) (bs ks : List Int) (W : World) (h0 : Lies .u8 W v0 bs) (hx0 : ∀ c ∈ bs, 0 ≤ c ∧ c < 256) (h1 : Lies .u8 W v1 ks) (hx1 : ∀ c ∈ ks, 0 ≤ c ∧ c < 256) :
    Calls Try.prog 5 #[v0, v1] W fun e w' => e = .returned (.bool true) ∧ Below W.heap.size W w' := by
  have hfl := fld_why
  have hfa := fld_at
  have hne := neq_fault
  have hm0 := h0.len
  have hm1 := h1.len
  unfold maxLen at hm0 hm1
  obtain ⟨ao0, cap0, rfl⟩ := h0.shape
  obtain ⟨ao1, cap1, rfl⟩ := h1.shape
  have H0 := hide h0
  have H1 := hide h1
  clear h0 h1
  by_cases hL0 : 65536 < bs.length
  · have hd : (65536 : Int) < (bs.length : Int) := by omega
    clear H0 H1
    generalize bs.length = n0 at *
    generalize ks.length = n1 at *
    go_enter Try.func5, Try.ntmps5
    go_wp2_with (go_at_call 9; refine (alive_any _).mono ?_; rintro e w2 ⟨rfl, hB2⟩; have HB2 := hide hB2; clear hB2)
    go_ret
    exact ⟨rfl, HB2.out⟩
  by_cases hL1 : 300 < ks.length
  · have hd : (300 : Int) < (ks.length : Int) := by omega
    have hd0 : (bs.length : Int) ≤ 65536 := by omega
    clear H0 H1
    generalize bs.length = n0 at *
    generalize ks.length = n1 at *
    go_enter Try.func5, Try.ntmps5
    go_wp2_with (go_at_call 9; refine (alive_any _).mono ?_; rintro e w2 ⟨rfl, hB2⟩; have HB2 := hide hB2; clear hB2)
    go_ret
    exact ⟨rfl, HB2.out⟩
  have hd0 : (bs.length : Int) ≤ 65536 := by omega
  have hd1 : (ks.length : Int) ≤ 300 := by omega
  have CN := hide (new_any _ bs W H0.out hx0 (by omega))
  go_enter Try.func5, Try.ntmps5
  go_wp2_with fail
  refine CN.out.mono ?_
  rintro e w1 ⟨p, vb, rfl, hCR, hp, hvb, hB1⟩
  have HI0 : Hid (Inv W (w1.alloc (.cells #[.slice none 0 0] 27)) bs p vb ⟨bs, 0, 0, 0⟩ w1.heap.size (.slice none 0 0) []) := hide (by
    have hba := (Below.refl w1.heap.size w1).alloc (Nat.le_refl _) (.cells #[.slice none 0 0] 27)
    refine ⟨⟨hCR.below hba, ⟨box_new w1 _ _, World.ownsRow_nil _ _ _ _⟩, ?_, (by intro e; cases e), ?_, (by intro g _ e; cases e)⟩, rfl, rfl, rfl, rfl, hB1.alloc hB1.size _, hp, hB1.size, (by intro g hg; cases hg)⟩
    · have := hCR.box.lt; omega
    · intro e
      have := owns_lt hCR.own e
      omega)
  clear hCR hp hvb hB1 CN
  go_wp2_with fail
  generalize w1.alloc (.cells #[.slice none 0 0] 27) = W1 at *
  generalize w1.heap.size = pc at *
  go_loopw [24] (fun i wr => ∃ (k : Nat) (r : RS) (v : Value) (xs : List Int), k ≤ ks.length ∧ i = .int .i64 k ∧ Hid (Inv W wr bs p vb r pc v xs)) (fun i _ => ks.length - (intOf i).toNat)
  case atStart => exact ⟨0, _, _, _, by omega, rfl, HI0⟩
  case round =>
    obtain ⟨k, r, v, xs, hk, rfl, HI⟩ := hrel
    have hxl : xs.length ≤ bs.length := by rw [HI.out.all, List.length_append]; omega
    have hwent : r.went = xs.length := HI.out.went
    have hlr : Hid (leftS r = bs.length - xs.length) := hide (by unfold leftS; rw [if_neg (by simp [HI.out.why]), HI.out.rw.cr.len, hwent])
    have hbl : r.bs.length ≤ 65536 := by rw [HI.out.rw.cr.len]; omega
    have HTK : Hid (bs.take xs.length = xs) := hide (by rw [HI.out.all]; simp)
    by_cases hlt : k < ks.length
    · rcases H1.out with ⟨e, _⟩ | ⟨_, b1, off1, cap1', e, hb1, _, _, hc1⟩
      · rw [e] at hlt; simp at hlt
      · cases e
        have hcell := (HI.out.bel.cell (p := ⟨b1, off1 + k, none⟩) hb1).trans (hc1 k hlt)
        have hc01 : 0 ≤ ks.getD k 0 ∧ ks.getD k 0 < 256 := hx1 _ (by simp [List.getD, hlt])
        generalize ks.getD k 0 = c at *
        obtain ⟨kd, rfl⟩ := Int.eq_ofNat_of_zero_le hc01.1
        have hkd : kd < 256 := by omega
        have hmod : ((kd : Int) % 5) = ((kd % 5 : Nat) : Int) := by omega
        have h5 : kd % 5 < 5 := by omega
        have e5 : kd % 5 = 0 ∨ kd % 5 = 1 ∨ kd % 5 = 2 ∨ kd % 5 = 3 ∨ kd % 5 = 4 := by omega
        have CL := hide (left_any p vb bs r wr HI.out.rw.cr)
        rw [hlr.out] at CL
        have HW := hide HI.out.why
        clear hc1 hc01
        rcases e5 with e5 | e5 | e5 | e5 | e5
        · rw [e5] at hmod
          clear e5 h5
          go_wp2_with fail
          refine CL.out.mono ?_
          rintro e wa ⟨rfl, hBa⟩
          have HIa := hide (HI.out.rw.below hBa)
          have HBa := hide (HI.out.bel.trans (hBa.mono HI.out.bel.size))
          have CBY := hide (cwbytes_any pc v xs wa HIa.out.cw (by omega))
          clear hBa CL hcell
          go_wp2_with fail
          refine CBY.out.mono ?_
          rintro e w2 ⟨vw, rfl, how, hB2⟩
          have HP2 := hide (HIa.out.below hB2)
          have HB2 := hide (HBa.out.trans (hB2.mono HBa.out.size))
          have HOW := hide how
          have hpa := HIa.out.cr.box.lt
          have hpca := HIa.out.cw.box.lt
          have CRD := hide (crnum_any p vb bs r w2 HP2.out.cr 18446744073709551615)
          obtain ⟨n3, hn3, hlt3, hra⟩ := num_one 18446744073709551615 r HW.out HP2.out.cr.byte'
          rw [hn3] at CRD
          have HRA := hide hra
          clear how hB2 CBY hra
          go_wp2_with fail
          refine CRD.out.mono ?_
          rintro e w3 ⟨rfl, h3, hk3⟩
          have HP3 := hide (HP2.out.read h3 hk3)
          have HB3 := hide (HB2.out.trans (hk3.below HB2.out.size (fun k hk => by rw [hk]; exact HI.out.p0)))
          have HOW3 := hide (owns_keep HOW.out hk3 (fun g hg e => by have := (HOW.out.lt g hg).1; omega))
          have CWT := hide (cwnum_any pc v xs n3 w3 HP3.out.cw (by unfold roomFor; omega) hlt3)
          clear h3 hk3 CRD HP2 HB2 hmod
          go_wp2_with fail
          refine CWT.out.mono ?_
          rintro e w4 ⟨rfl, v4, h4⟩
          have HP4 : Hid (RW w4 p vb bs (numS 18446744073709551615 r).2 pc v4 (xs ++ (shortS n3))) := hide (HP3.out.wrote h4)
          have HB4 := hide (HB3.out.trans (h4.keep.below HB3.out.size (fun k hk => by
            rcases hk with e | e
            · rw [e]; exact HI.out.pc0
            · exact HI.out.v0 k e)))
          have HV4 : Hid (∀ g, v4.ownBlock = some g → W.heap.size ≤ g) := hide (fun g hg => by
            rcases h4.place with e | ⟨g2, e, hg2⟩
            · exact HI.out.v0 g (e ▸ hg)
            · rw [e] at hg; cases hg; exact Nat.le_trans HB3.out.size hg2)
          have HLW := hide (Lies.of_own (owns_keep HOW3.out h4.keep (fun g hg hS => by
            have h5 := (HOW.out.lt g hg).1
            rcases hS with e | e
            · omega
            · have := owns_lt HIa.out.cw.own e
              omega)))
          clear h4 CWT HP3 HB3 HOW3 HOW
          generalize (numS 18446744073709551615 r).2 = r' at *
          generalize shortS n3 = ys at *
          have CF := hide (fun w' (h' : RW w' p vb bs r' pc v4 (xs ++ ys)) => fault_any p vb bs r' w' h'.cr)
          by_cases hw' : r'.why = 0
          · have hf' : r'.fat = 0 := by
              have := HRA.out.fine HI.out.all HI.out.went hw'
              rw [this.2.2]; exact HI.out.fat
            have hb' : (!(r'.why == 0 && ((r'.fat : Nat) : Int) == 0)) = false := by simp [hw', hf']
            go_wp2_with fail
            refine (CF.out _ HP4.out).mono ?_
            rintro e w5 ⟨rfl, hB5⟩
            have HN := hide (HI.out.next HP4.out HRA.out hw' HB4.out HV4.out hB5)
            clear hB5 CF hw' hf'
            go_wp2_with fail
            go_roundw
            case rel => exact ⟨k + 1, r', v4, xs ++ ys, by omega, by go_num, HN⟩
            case measure => simp [intOf]; omega
          · have hwb : (r'.why == 0) = false := by simpa using hw'
            have hfat := HRA.out.wrong hw'
            rw [hwent] at hfat
            have hft : (((r'.fat : Nat) : Int) == (bs.length : Int) - ((bs.length - xs.length : Nat) : Int)) = true := by simp; omega
            have HFAT := hide hfat
            clear hfat hw'
            have hsl : ∀ w', (Instr.sliceAt 25 (.slice ao0 bs.length cap0) none (some (.int .i64 ((bs.length : Int) - ((bs.length - xs.length : Nat) : Int)))) none).run Try.prog w' = .ok (.slice ao0 xs.length cap0) w' := by
              intro w'
              have e : (bs.length : Int) - ((bs.length - xs.length : Nat) : Int) = (xs.length : Int) := by omega
              rw [e]
              exact run_to w' .i64 ao0 bs.length cap0 xs.length (Nat.le_trans hxl H0.out.cap)
            go_wp2_with fail
            refine (CF.out _ HP4.out).mono ?_
            rintro e w5 ⟨rfl, hB5⟩
            have HP5 := hide (HP4.out.below hB5)
            have HB5 := hide (HB4.out.trans (hB5.mono HB4.out.size))
            have HLW5 := hide (HLW.out.below hB5)
            clear hB5
            go_wp2_with fail
            refine (CF.out _ HP5.out).mono ?_
            rintro e w6 ⟨rfl, hB6⟩
            have HB6 := hide (HB5.out.trans (hB6.mono HB5.out.size))
            have HLW6 := hide (HLW5.out.below hB6)
            have HLB6 := hide ((H0.out.below HB6.out).take hxl)
            rw [HTK.out] at HLB6
            clear hB6 CF
            go_wp2_with (go_at_call 12; refine (same_any _ _ xs _ HLW6.out HLB6.out).mono ?_; rintro e w7 ⟨rfl, hw7⟩; subst hw7)
            go_wp2_with (go_at_call 9; refine (alive_any _).mono ?_; rintro e w8 ⟨rfl, hB8⟩; have HB8 := hide hB8; clear hB8)
            go_ret
            exact ⟨rfl, HB6.out.trans (HB8.out.mono HB6.out.size)⟩
        · rw [e5] at hmod
          clear e5 h5
          go_wp2_with fail
          refine CL.out.mono ?_
          rintro e wa ⟨rfl, hBa⟩
          have HIa := hide (HI.out.rw.below hBa)
          have HBa := hide (HI.out.bel.trans (hBa.mono HI.out.bel.size))
          have CBY := hide (cwbytes_any pc v xs wa HIa.out.cw (by omega))
          clear hBa CL hcell
          go_wp2_with fail
          refine CBY.out.mono ?_
          rintro e w2 ⟨vw, rfl, how, hB2⟩
          have HP2 := hide (HIa.out.below hB2)
          have HB2 := hide (HBa.out.trans (hB2.mono HBa.out.size))
          have HOW := hide how
          have hpa := HIa.out.cr.box.lt
          have hpca := HIa.out.cw.box.lt
          have CRD := hide (crbyte_any p vb bs r w2 HP2.out.cr)
          have hra := byte_one r HW.out
          have HRA := hide hra
          clear how hB2 CBY hra
          go_wp2_with fail
          refine CRD.out.mono ?_
          rintro e w3 ⟨rfl, h3, hk3⟩
          have HP3 := hide (HP2.out.read h3 hk3)
          have HB3 := hide (HB2.out.trans (hk3.below HB2.out.size (fun k hk => by rw [hk]; exact HI.out.p0)))
          have HOW3 := hide (owns_keep HOW.out hk3 (fun g hg e => by have := (HOW.out.lt g hg).1; omega))
          have CWT := hide (cwbyte_any pc v xs (byteS r).1 w3 HP3.out.cw (by unfold roomFor; omega))
          clear h3 hk3 CRD HP2 HB2 hmod
          go_wp2_with fail
          refine CWT.out.mono ?_
          rintro e w4 ⟨rfl, v4, h4⟩
          have HP4 : Hid (RW w4 p vb bs (byteS r).2 pc v4 (xs ++ ([(byteS r).1]))) := hide (HP3.out.wrote h4)
          have HB4 := hide (HB3.out.trans (h4.keep.below HB3.out.size (fun k hk => by
            rcases hk with e | e
            · rw [e]; exact HI.out.pc0
            · exact HI.out.v0 k e)))
          have HV4 : Hid (∀ g, v4.ownBlock = some g → W.heap.size ≤ g) := hide (fun g hg => by
            rcases h4.place with e | ⟨g2, e, hg2⟩
            · exact HI.out.v0 g (e ▸ hg)
            · rw [e] at hg; cases hg; exact Nat.le_trans HB3.out.size hg2)
          have HLW := hide (Lies.of_own (owns_keep HOW3.out h4.keep (fun g hg hS => by
            have h5 := (HOW.out.lt g hg).1
            rcases hS with e | e
            · omega
            · have := owns_lt HIa.out.cw.own e
              omega)))
          clear h4 CWT HP3 HB3 HOW3 HOW
          generalize (byteS r).2 = r' at *
          generalize [(byteS r).1] = ys at *
          have CF := hide (fun w' (h' : RW w' p vb bs r' pc v4 (xs ++ ys)) => fault_any p vb bs r' w' h'.cr)
          by_cases hw' : r'.why = 0
          · have hf' : r'.fat = 0 := by
              have := HRA.out.fine HI.out.all HI.out.went hw'
              rw [this.2.2]; exact HI.out.fat
            have hb' : (!(r'.why == 0 && ((r'.fat : Nat) : Int) == 0)) = false := by simp [hw', hf']
            go_wp2_with fail
            refine (CF.out _ HP4.out).mono ?_
            rintro e w5 ⟨rfl, hB5⟩
            have HN := hide (HI.out.next HP4.out HRA.out hw' HB4.out HV4.out hB5)
            clear hB5 CF hw' hf'
            go_wp2_with fail
            go_roundw
            case rel => exact ⟨k + 1, r', v4, xs ++ ys, by omega, by go_num, HN⟩
            case measure => simp [intOf]; omega
          · have hwb : (r'.why == 0) = false := by simpa using hw'
            have hfat := HRA.out.wrong hw'
            rw [hwent] at hfat
            have hft : (((r'.fat : Nat) : Int) == (bs.length : Int) - ((bs.length - xs.length : Nat) : Int)) = true := by simp; omega
            have HFAT := hide hfat
            clear hfat hw'
            have hsl : ∀ w', (Instr.sliceAt 25 (.slice ao0 bs.length cap0) none (some (.int .i64 ((bs.length : Int) - ((bs.length - xs.length : Nat) : Int)))) none).run Try.prog w' = .ok (.slice ao0 xs.length cap0) w' := by
              intro w'
              have e : (bs.length : Int) - ((bs.length - xs.length : Nat) : Int) = (xs.length : Int) := by omega
              rw [e]
              exact run_to w' .i64 ao0 bs.length cap0 xs.length (Nat.le_trans hxl H0.out.cap)
            go_wp2_with fail
            refine (CF.out _ HP4.out).mono ?_
            rintro e w5 ⟨rfl, hB5⟩
            have HP5 := hide (HP4.out.below hB5)
            have HB5 := hide (HB4.out.trans (hB5.mono HB4.out.size))
            have HLW5 := hide (HLW.out.below hB5)
            clear hB5
            go_wp2_with fail
            refine (CF.out _ HP5.out).mono ?_
            rintro e w6 ⟨rfl, hB6⟩
            have HB6 := hide (HB5.out.trans (hB6.mono HB5.out.size))
            have HLW6 := hide (HLW5.out.below hB6)
            have HLB6 := hide ((H0.out.below HB6.out).take hxl)
            rw [HTK.out] at HLB6
            clear hB6 CF
            go_wp2_with (go_at_call 12; refine (same_any _ _ xs _ HLW6.out HLB6.out).mono ?_; rintro e w7 ⟨rfl, hw7⟩; subst hw7)
            go_wp2_with (go_at_call 9; refine (alive_any _).mono ?_; rintro e w8 ⟨rfl, hB8⟩; have HB8 := hide hB8; clear hB8)
            go_ret
            exact ⟨rfl, HB6.out.trans (HB8.out.mono HB6.out.size)⟩
        · rw [e5] at hmod
          clear e5 h5
          go_wp2_with fail
          refine CL.out.mono ?_
          rintro e wa ⟨rfl, hBa⟩
          have HIa := hide (HI.out.rw.below hBa)
          have HBa := hide (HI.out.bel.trans (hBa.mono HI.out.bel.size))
          have CBY := hide (cwbytes_any pc v xs wa HIa.out.cw (by omega))
          clear hBa CL hcell
          go_wp2_with fail
          refine CBY.out.mono ?_
          rintro e w2 ⟨vw, rfl, how, hB2⟩
          have HP2 := hide (HIa.out.below hB2)
          have HB2 := hide (HBa.out.trans (hB2.mono HBa.out.size))
          have HOW := hide how
          have hpa := HIa.out.cr.box.lt
          have hpca := HIa.out.cw.box.lt
          have CRD := hide (crbool_any p vb bs r w2 HP2.out.cr)
          have hra := bool_one r HW.out HP2.out.cr.byte'
          have HRA := hide hra
          clear how hB2 CBY hra
          go_wp2_with fail
          refine CRD.out.mono ?_
          rintro e w3 ⟨rfl, h3, hk3⟩
          have HP3 := hide (HP2.out.read h3 hk3)
          have HB3 := hide (HB2.out.trans (hk3.below HB2.out.size (fun k hk => by rw [hk]; exact HI.out.p0)))
          have HOW3 := hide (owns_keep HOW.out hk3 (fun g hg e => by have := (HOW.out.lt g hg).1; omega))
          have CWT := hide (cwbool_any pc v xs (boolS r).1 w3 HP3.out.cw (by unfold roomFor; omega))
          clear h3 hk3 CRD HP2 HB2 hmod
          go_wp2_with fail
          refine CWT.out.mono ?_
          rintro e w4 ⟨rfl, v4, h4⟩
          have HP4 : Hid (RW w4 p vb bs (boolS r).2 pc v4 (xs ++ (([if (boolS r).1 then 1 else 0] : List Int)))) := hide (HP3.out.wrote h4)
          have HB4 := hide (HB3.out.trans (h4.keep.below HB3.out.size (fun k hk => by
            rcases hk with e | e
            · rw [e]; exact HI.out.pc0
            · exact HI.out.v0 k e)))
          have HV4 : Hid (∀ g, v4.ownBlock = some g → W.heap.size ≤ g) := hide (fun g hg => by
            rcases h4.place with e | ⟨g2, e, hg2⟩
            · exact HI.out.v0 g (e ▸ hg)
            · rw [e] at hg; cases hg; exact Nat.le_trans HB3.out.size hg2)
          have HLW := hide (Lies.of_own (owns_keep HOW3.out h4.keep (fun g hg hS => by
            have h5 := (HOW.out.lt g hg).1
            rcases hS with e | e
            · omega
            · have := owns_lt HIa.out.cw.own e
              omega)))
          clear h4 CWT HP3 HB3 HOW3 HOW
          generalize (boolS r).2 = r' at *
          generalize ([if (boolS r).1 then 1 else 0] : List Int) = ys at *
          have CF := hide (fun w' (h' : RW w' p vb bs r' pc v4 (xs ++ ys)) => fault_any p vb bs r' w' h'.cr)
          by_cases hw' : r'.why = 0
          · have hf' : r'.fat = 0 := by
              have := HRA.out.fine HI.out.all HI.out.went hw'
              rw [this.2.2]; exact HI.out.fat
            have hb' : (!(r'.why == 0 && ((r'.fat : Nat) : Int) == 0)) = false := by simp [hw', hf']
            go_wp2_with fail
            refine (CF.out _ HP4.out).mono ?_
            rintro e w5 ⟨rfl, hB5⟩
            have HN := hide (HI.out.next HP4.out HRA.out hw' HB4.out HV4.out hB5)
            clear hB5 CF hw' hf'
            go_wp2_with fail
            go_roundw
            case rel => exact ⟨k + 1, r', v4, xs ++ ys, by omega, by go_num, HN⟩
            case measure => simp [intOf]; omega
          · have hwb : (r'.why == 0) = false := by simpa using hw'
            have hfat := HRA.out.wrong hw'
            rw [hwent] at hfat
            have hft : (((r'.fat : Nat) : Int) == (bs.length : Int) - ((bs.length - xs.length : Nat) : Int)) = true := by simp; omega
            have HFAT := hide hfat
            clear hfat hw'
            have hsl : ∀ w', (Instr.sliceAt 25 (.slice ao0 bs.length cap0) none (some (.int .i64 ((bs.length : Int) - ((bs.length - xs.length : Nat) : Int)))) none).run Try.prog w' = .ok (.slice ao0 xs.length cap0) w' := by
              intro w'
              have e : (bs.length : Int) - ((bs.length - xs.length : Nat) : Int) = (xs.length : Int) := by omega
              rw [e]
              exact run_to w' .i64 ao0 bs.length cap0 xs.length (Nat.le_trans hxl H0.out.cap)
            go_wp2_with fail
            refine (CF.out _ HP4.out).mono ?_
            rintro e w5 ⟨rfl, hB5⟩
            have HP5 := hide (HP4.out.below hB5)
            have HB5 := hide (HB4.out.trans (hB5.mono HB4.out.size))
            have HLW5 := hide (HLW.out.below hB5)
            clear hB5
            go_wp2_with fail
            refine (CF.out _ HP5.out).mono ?_
            rintro e w6 ⟨rfl, hB6⟩
            have HB6 := hide (HB5.out.trans (hB6.mono HB5.out.size))
            have HLW6 := hide (HLW5.out.below hB6)
            have HLB6 := hide ((H0.out.below HB6.out).take hxl)
            rw [HTK.out] at HLB6
            clear hB6 CF
            go_wp2_with (go_at_call 12; refine (same_any _ _ xs _ HLW6.out HLB6.out).mono ?_; rintro e w7 ⟨rfl, hw7⟩; subst hw7)
            go_wp2_with (go_at_call 9; refine (alive_any _).mono ?_; rintro e w8 ⟨rfl, hB8⟩; have HB8 := hide hB8; clear hB8)
            go_ret
            exact ⟨rfl, HB6.out.trans (HB8.out.mono HB6.out.size)⟩
        · rw [e5] at hmod
          clear e5 h5
          go_wp2_with fail
          refine CL.out.mono ?_
          rintro e wa ⟨rfl, hBa⟩
          have HIa := hide (HI.out.rw.below hBa)
          have HBa := hide (HI.out.bel.trans (hBa.mono HI.out.bel.size))
          have CBY := hide (cwbytes_any pc v xs wa HIa.out.cw (by omega))
          clear hBa CL hcell
          go_wp2_with fail
          refine CBY.out.mono ?_
          rintro e w2 ⟨vw, rfl, how, hB2⟩
          have HP2 := hide (HIa.out.below hB2)
          have HB2 := hide (HBa.out.trans (hB2.mono HBa.out.size))
          have HOW := hide how
          have hpa := HIa.out.cr.box.lt
          have hpca := HIa.out.cw.box.lt
          have CRD := hide (crtext_any p vb bs r w2 HP2.out.cr 65536 (by decide) (by decide))
          have hra := text_one 65536 r HW.out HP2.out.cr.byte'
          have htb := hide (text_byte 65536 r HP2.out.cr.byte')
          have htl := text_len 65536 r
          have HRA := hide hra
          clear how hB2 CBY hra
          go_wp2_with fail
          refine CRD.out.mono ?_
          rintro e w3 ⟨rfl, h3, hk3⟩
          have HP3 := hide (HP2.out.read h3 hk3)
          have HB3 := hide (HB2.out.trans (hk3.below HB2.out.size (fun k hk => by rw [hk]; exact HI.out.p0)))
          have HOW3 := hide (owns_keep HOW.out hk3 (fun g hg e => by have := (HOW.out.lt g hg).1; omega))
          have CWT := hide (cwtext_any pc v xs (strOfNums (textS 65536 r).1) w3 HP3.out.cw (by unfold roomFor; rw [strOfNums_size]; omega))
          clear h3 hk3 CRD HP2 HB2 hmod
          go_wp2_with fail
          refine CWT.out.mono ?_
          rintro e w4 ⟨rfl, v4, h4⟩
          rw [strOfNums_size, strI_strOf _ htb.out, List.append_assoc] at h4
          have HP4 : Hid (RW w4 p vb bs (textS 65536 r).2 pc v4 (xs ++ (shortS (textS 65536 r).1.length ++ (textS 65536 r).1))) := hide (HP3.out.wrote h4)
          have HB4 := hide (HB3.out.trans (h4.keep.below HB3.out.size (fun k hk => by
            rcases hk with e | e
            · rw [e]; exact HI.out.pc0
            · exact HI.out.v0 k e)))
          have HV4 : Hid (∀ g, v4.ownBlock = some g → W.heap.size ≤ g) := hide (fun g hg => by
            rcases h4.place with e | ⟨g2, e, hg2⟩
            · exact HI.out.v0 g (e ▸ hg)
            · rw [e] at hg; cases hg; exact Nat.le_trans HB3.out.size hg2)
          have HLW := hide (Lies.of_own (owns_keep HOW3.out h4.keep (fun g hg hS => by
            have h5 := (HOW.out.lt g hg).1
            rcases hS with e | e
            · omega
            · have := owns_lt HIa.out.cw.own e
              omega)))
          clear h4 CWT HP3 HB3 HOW3 HOW
          generalize (textS 65536 r).2 = r' at *
          generalize shortS (textS 65536 r).1.length ++ (textS 65536 r).1 = ys at *
          have CF := hide (fun w' (h' : RW w' p vb bs r' pc v4 (xs ++ ys)) => fault_any p vb bs r' w' h'.cr)
          by_cases hw' : r'.why = 0
          · have hf' : r'.fat = 0 := by
              have := HRA.out.fine HI.out.all HI.out.went hw'
              rw [this.2.2]; exact HI.out.fat
            have hb' : (!(r'.why == 0 && ((r'.fat : Nat) : Int) == 0)) = false := by simp [hw', hf']
            go_wp2_with fail
            refine (CF.out _ HP4.out).mono ?_
            rintro e w5 ⟨rfl, hB5⟩
            have HN := hide (HI.out.next HP4.out HRA.out hw' HB4.out HV4.out hB5)
            clear hB5 CF hw' hf'
            go_wp2_with fail
            go_roundw
            case rel => exact ⟨k + 1, r', v4, xs ++ ys, by omega, by go_num, HN⟩
            case measure => simp [intOf]; omega
          · have hwb : (r'.why == 0) = false := by simpa using hw'
            have hfat := HRA.out.wrong hw'
            rw [hwent] at hfat
            have hft : (((r'.fat : Nat) : Int) == (bs.length : Int) - ((bs.length - xs.length : Nat) : Int)) = true := by simp; omega
            have HFAT := hide hfat
            clear hfat hw'
            have hsl : ∀ w', (Instr.sliceAt 25 (.slice ao0 bs.length cap0) none (some (.int .i64 ((bs.length : Int) - ((bs.length - xs.length : Nat) : Int)))) none).run Try.prog w' = .ok (.slice ao0 xs.length cap0) w' := by
              intro w'
              have e : (bs.length : Int) - ((bs.length - xs.length : Nat) : Int) = (xs.length : Int) := by omega
              rw [e]
              exact run_to w' .i64 ao0 bs.length cap0 xs.length (Nat.le_trans hxl H0.out.cap)
            go_wp2_with fail
            refine (CF.out _ HP4.out).mono ?_
            rintro e w5 ⟨rfl, hB5⟩
            have HP5 := hide (HP4.out.below hB5)
            have HB5 := hide (HB4.out.trans (hB5.mono HB4.out.size))
            have HLW5 := hide (HLW.out.below hB5)
            clear hB5
            go_wp2_with fail
            refine (CF.out _ HP5.out).mono ?_
            rintro e w6 ⟨rfl, hB6⟩
            have HB6 := hide (HB5.out.trans (hB6.mono HB5.out.size))
            have HLW6 := hide (HLW5.out.below hB6)
            have HLB6 := hide ((H0.out.below HB6.out).take hxl)
            rw [HTK.out] at HLB6
            clear hB6 CF
            go_wp2_with (go_at_call 12; refine (same_any _ _ xs _ HLW6.out HLB6.out).mono ?_; rintro e w7 ⟨rfl, hw7⟩; subst hw7)
            go_wp2_with (go_at_call 9; refine (alive_any _).mono ?_; rintro e w8 ⟨rfl, hB8⟩; have HB8 := hide hB8; clear hB8)
            go_ret
            exact ⟨rfl, HB6.out.trans (HB8.out.mono HB6.out.size)⟩
        · rw [e5] at hmod
          clear e5 h5
          go_wp2_with fail
          refine CL.out.mono ?_
          rintro e wa ⟨rfl, hBa⟩
          have HIa := hide (HI.out.rw.below hBa)
          have HBa := hide (HI.out.bel.trans (hBa.mono HI.out.bel.size))
          have CBY := hide (cwbytes_any pc v xs wa HIa.out.cw (by omega))
          clear hBa CL hcell
          go_wp2_with fail
          refine CBY.out.mono ?_
          rintro e w2 ⟨vw, rfl, how, hB2⟩
          have HP2 := hide (HIa.out.below hB2)
          have HB2 := hide (HBa.out.trans (hB2.mono HBa.out.size))
          have HOW := hide how
          have hpa := HIa.out.cr.box.lt
          have hpca := HIa.out.cw.box.lt
          have CRD := hide (crkey_any p vb bs r w2 HP2.out.cr)
          have hra := key_one r HW.out
          have HRA := hide hra
          clear how hB2 CBY hra
          go_wp2_with fail
          refine CRD.out.mono ?_
          rintro e w3 ⟨rfl, h3, hk3⟩
          have HP3 := hide (HP2.out.read h3 hk3)
          have HB3 := hide (HB2.out.trans (hk3.below HB2.out.size (fun k hk => by rw [hk]; exact HI.out.p0)))
          have HOW3 := hide (owns_keep HOW.out hk3 (fun g hg e => by have := (HOW.out.lt g hg).1; omega))
          have CWT := hide (cwkey_any pc v xs (keyS r).1 w3 HP3.out.cw (by unfold roomFor; omega) (keyS_length r))
          clear h3 hk3 CRD HP2 HB2 hmod
          go_wp2_with fail
          refine CWT.out.mono ?_
          rintro e w4 ⟨rfl, v4, h4⟩
          have HP4 : Hid (RW w4 p vb bs (keyS r).2 pc v4 (xs ++ ((keyS r).1))) := hide (HP3.out.wrote h4)
          have HB4 := hide (HB3.out.trans (h4.keep.below HB3.out.size (fun k hk => by
            rcases hk with e | e
            · rw [e]; exact HI.out.pc0
            · exact HI.out.v0 k e)))
          have HV4 : Hid (∀ g, v4.ownBlock = some g → W.heap.size ≤ g) := hide (fun g hg => by
            rcases h4.place with e | ⟨g2, e, hg2⟩
            · exact HI.out.v0 g (e ▸ hg)
            · rw [e] at hg; cases hg; exact Nat.le_trans HB3.out.size hg2)
          have HLW := hide (Lies.of_own (owns_keep HOW3.out h4.keep (fun g hg hS => by
            have h5 := (HOW.out.lt g hg).1
            rcases hS with e | e
            · omega
            · have := owns_lt HIa.out.cw.own e
              omega)))
          clear h4 CWT HP3 HB3 HOW3 HOW
          generalize (keyS r).2 = r' at *
          generalize (keyS r).1 = ys at *
          have CF := hide (fun w' (h' : RW w' p vb bs r' pc v4 (xs ++ ys)) => fault_any p vb bs r' w' h'.cr)
          by_cases hw' : r'.why = 0
          · have hf' : r'.fat = 0 := by
              have := HRA.out.fine HI.out.all HI.out.went hw'
              rw [this.2.2]; exact HI.out.fat
            have hb' : (!(r'.why == 0 && ((r'.fat : Nat) : Int) == 0)) = false := by simp [hw', hf']
            go_wp2_with fail
            refine (CF.out _ HP4.out).mono ?_
            rintro e w5 ⟨rfl, hB5⟩
            have HN := hide (HI.out.next HP4.out HRA.out hw' HB4.out HV4.out hB5)
            clear hB5 CF hw' hf'
            go_wp2_with fail
            go_roundw
            case rel => exact ⟨k + 1, r', v4, xs ++ ys, by omega, by go_num, HN⟩
            case measure => simp [intOf]; omega
          · have hwb : (r'.why == 0) = false := by simpa using hw'
            have hfat := HRA.out.wrong hw'
            rw [hwent] at hfat
            have hft : (((r'.fat : Nat) : Int) == (bs.length : Int) - ((bs.length - xs.length : Nat) : Int)) = true := by simp; omega
            have HFAT := hide hfat
            clear hfat hw'
            have hsl : ∀ w', (Instr.sliceAt 25 (.slice ao0 bs.length cap0) none (some (.int .i64 ((bs.length : Int) - ((bs.length - xs.length : Nat) : Int)))) none).run Try.prog w' = .ok (.slice ao0 xs.length cap0) w' := by
              intro w'
              have e : (bs.length : Int) - ((bs.length - xs.length : Nat) : Int) = (xs.length : Int) := by omega
              rw [e]
              exact run_to w' .i64 ao0 bs.length cap0 xs.length (Nat.le_trans hxl H0.out.cap)
            go_wp2_with fail
            refine (CF.out _ HP4.out).mono ?_
            rintro e w5 ⟨rfl, hB5⟩
            have HP5 := hide (HP4.out.below hB5)
            have HB5 := hide (HB4.out.trans (hB5.mono HB4.out.size))
            have HLW5 := hide (HLW.out.below hB5)
            clear hB5
            go_wp2_with fail
            refine (CF.out _ HP5.out).mono ?_
            rintro e w6 ⟨rfl, hB6⟩
            have HB6 := hide (HB5.out.trans (hB6.mono HB5.out.size))
            have HLW6 := hide (HLW5.out.below hB6)
            have HLB6 := hide ((H0.out.below HB6.out).take hxl)
            rw [HTK.out] at HLB6
            clear hB6 CF
            go_wp2_with (go_at_call 12; refine (same_any _ _ xs _ HLW6.out HLB6.out).mono ?_; rintro e w7 ⟨rfl, hw7⟩; subst hw7)
            go_wp2_with (go_at_call 9; refine (alive_any _).mono ?_; rintro e w8 ⟨rfl, hB8⟩; have HB8 := hide hB8; clear hB8)
            go_ret
            exact ⟨rfl, HB6.out.trans (HB8.out.mono HB6.out.size)⟩
    · have hge : decide ((k : Int) < (ks.length : Int)) = false := by simp; omega
      have CBY := hide (cwbytes_any pc v xs wr HI.out.rw.cw (by omega))
      have hsl : ∀ w', (Instr.sliceAt 25 (.slice ao0 bs.length cap0) none (some (.int .i64 ((bs.length : Int) - ((bs.length - xs.length : Nat) : Int)))) none).run Try.prog w' = .ok (.slice ao0 xs.length cap0) w' := by
        intro w'
        have e : (bs.length : Int) - ((bs.length - xs.length : Nat) : Int) = (xs.length : Int) := by omega
        rw [e]
        exact run_to w' .i64 ao0 bs.length cap0 xs.length (Nat.le_trans hxl H0.out.cap)
      go_wp2_with fail
      refine CBY.out.mono ?_
      rintro e w2 ⟨vw, rfl, how, hB2⟩
      have HP2 := hide (HI.out.rw.below hB2)
      have HB2 := hide (HI.out.bel.trans (hB2.mono HI.out.bel.size))
      have HLW := hide (Lies.of_own how)
      have CL := hide (left_any p vb bs r w2 HP2.out.cr)
      rw [hlr.out] at CL
      clear how hB2 CBY
      go_wp2_with fail
      refine CL.out.mono ?_
      rintro e w3 ⟨rfl, hB3⟩
      have HB3 := hide (HB2.out.trans (hB3.mono HB2.out.size))
      have HLW3 := hide (HLW.out.below hB3)
      have HLB3 := hide ((H0.out.below HB3.out).take hxl)
      rw [HTK.out] at HLB3
      clear hB3 CL HB2 HP2 HLW
      go_wp2_with (go_at_call 12; refine (same_any _ _ xs _ HLW3.out HLB3.out).mono ?_; rintro e w7 ⟨rfl, hw7⟩; subst hw7)
      go_wp2_with (go_at_call 9; refine (alive_any _).mono ?_; rintro e w8 ⟨rfl, hB8⟩; have HB8 := hide hB8; clear hB8)
      go_ret
      exact ⟨rfl, HB3.out.trans (HB8.out.mono HB3.out.size)⟩
end one
namespace one
set_option maxRecDepth 100000 in
theorem lifted (os : Os) (started : os.Started) (H : Type) (enc : TypeId × Value → H) :
    ReturnsInHanded {} Try.checked os 5 .any (Rows.codeOneSpec.pre6 enc Try.prog Try.f5 Rows.codeOneRow.domain false) (Rows.codeOneSpec.post enc Try.prog Try.f5 false true false false) := by
  refine returnsInHanded_of_change_sized (C := Try.checked) own started (by kernel_rfl) Try.func5
    (ChangeSpec.witness6 (enc := enc) (C := Try.checked) false ⟨#[], #[.slice none 0 0, .slice none 0 0], []⟩ 8 (by kernel_rfl) (by kernel_rfl) (by kernel_rfl) (by kernel_rfl)) ?_
  intro W base args ds gs before hval0 hW hcnd hsz _
  have hval : ∀ (j : Nat) t v, Try.f5.params[j]? = some t → args[j]? = some v → Value.okWide Try.prog W .any base t v := hval0
  have hW' := hW
  obtain ⟨p, q, hA0, hV, rfl, hfz, hnd⟩ := hW
  have hA : DataW.TrodAll enc Try.prog W 0 (fun _ => true) true Try.f5.params.toList args.toList ds p := hA0
  have hsz2 : ∀ (j : Nat) (t : TypeId) (d : DataW H), Try.f5.params.toList[j]? = some t → ds[j]? = some d → ∀ n ∈ d.weights Try.prog t, n ≤ 140737488351232 := fun j t d ht hd n hn => by
    have h1 := List.all_eq_true.1 hsz n (DataW.weights_mem_each (j := j) (t := t) (d := d) (by rw [List.getElem?_append_left (List.getElem?_eq_some_iff.1 ht).1]; exact ht) (by rw [List.getElem?_append_left (List.getElem?_eq_some_iff.1 hd).1]; exact hd) n hn)
    have h2 : n ≤ reachBytes := by simpa using h1
    have h3 : reachBytes = 140737488351232 := rfl
    omega
  rw [Try.params5] at hA hval hsz2
  obtain ⟨v0, vs0, d0, ds0, p0, q0, hargs, rfl, rfl, h0, r0⟩ := trodAll_cons hA
  obtain ⟨v1, vs1, d1, ds1, p1, q1, rfl, rfl, rfl, h1, r1⟩ := trodAll_cons r0
  obtain ⟨rfl, rfl, rfl⟩ := trodAll_nil r1
  obtain rfl : args = #[v0, v1] := by cases args; simp_all
  obtain ⟨rfl, rfl⟩ := trodVars_none hV
  obtain ⟨a0, len0, cap0, rfl⟩ := okWide_slice Try.underlying25 (hval 0 25 v0 rfl rfl)
  have k0 := h0
  have lt0 : ∀ x ∈ p0, x.block < W.heap.size := by obtain ⟨m, hm⟩ := k0; exact DataW.trod_lt m _ _ _ hm
  obtain ⟨xs0, lies0, by0⟩ := lies_of_trod h0
  obtain ⟨a1, len1, cap1, rfl⟩ := okWide_slice Try.underlying25 (hval 1 25 v1 rfl rfl)
  have k1 := h1
  have lt1 : ∀ x ∈ p1, x.block < W.heap.size := by obtain ⟨m, hm⟩ := k1; exact DataW.trod_lt m _ _ _ hm
  obtain ⟨xs1, lies1, by1⟩ := lies_of_trod h1
  clear hA0 hval0
  refine (one.walkN _ _ xs0 xs1 W lies0 by0 lies1 by1).mono fun e W' ⟨he, bel⟩ => ?_
  subst he
  exact ⟨_, rfl, _, _, _, [], _, [], hW', trodAll_mk1 (shut_bool Try.underlying4 _), (trodAll_cons_mk (Below.trod laidOut (by kernel_rfl) (of_decide_eq_true (by kernel_rfl)) k0 bel lt0) (trodAll_cons_mk (Below.trod laidOut (by kernel_rfl) (of_decide_eq_true (by kernel_rfl)) k1 bel lt1) trodAll_mk0)), rfl, bel.frame _, fun h => by cases h⟩

theorem over : Rows.codeOneRow.holds Try.pinned (OpenSpec.ofChange Rows.codeOneSpec) :=
  OpenClaim.holds_of_wide 5 Try.f5 rfl rfl rfl rfl rfl rfl rfl ⟨rfl, rfl, rfl, rfl, rfl⟩ rfl rfl rfl rfl rfl (by kernel_rfl) Try.func5 (by kernel_rfl)
    (of_decide_eq_true (by kernel_rfl)) (by unfold Func.isWrapper; first | (rw [if_pos (by decide +kernel)]; kernel_rfl) | (rw [if_neg (by decide +kernel)]; exact ⟨rfl, rfl⟩))
    (fun os started H enc _ => lifted os started H enc)
end one

/-- THE STATEMENT. -/
theorem codeOne_holds : Rows.CodeOneSaid := one.over
#print axioms codeOne_holds
end Go.Proofs.Ytkeedioifjabeaa
