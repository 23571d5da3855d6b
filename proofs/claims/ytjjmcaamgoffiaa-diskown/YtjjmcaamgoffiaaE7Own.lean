/-
  DiskOwn: what was handed in, or answered, may be written over. The walk, by the bundle. Own work.
-/
import Derived.Test.YtjjmcaamgoffiaaDkAlive
import Derived.Test.YtjjmcaamgoffiaaDkOwnP
import Derived.Test.YtjjmcaamgoffiaaDkNob
import Derived.Test.YtjjmcaamgoffiaaDkFacts
import Derived.Test.YtjjmcaamgoffiaaDkOpen
import Derived.Deep.LoopGhost
namespace Go.Proofs.Ytjjmcaamgoffiaa
open Go.RowKit Go.ChangeShapes Go.WideShapes Go.ChangeAt

section
variable {D : World → Nat → (Nat → Prop) → Dk → Prop}
set_option maxRecDepth 100000 in
set_option maxHeartbeats 3200000 in
theorem walkO (H : DiskDo D) (va vb : Value) (xa xb : List Int) (n : Int) (w : World) (hLa : Lies .u8 w va xa) (h8a : ∀ c ∈ xa, 0 ≤ c ∧ c < 256) (hLb : Lies .u8 w vb xb) (h8b : ∀ c ∈ xb, 0 ≤ c ∧ c < 256) (hla : xa.length ≤ 140737488351232) (hlb : xb.length ≤ 140737488351232) :
    Calls Try.prog 7 #[va, vb, .int .i64 n] w fun e w' => e = .returned (.bool true) ∧ Below w.heap.size w w' := by
  have CA := hide (fun W => alive_by H W)
  obtain ⟨aa, ca, hva⟩ := hLa.shape
  obtain ⟨ab, cb, hvb⟩ := hLb.shape
  subst hva
  subst hvb
  have HLA := hide hLa
  have HLB := hide hLb
  have H8A := hide h8a
  have H8B := hide h8b
  have HB : Hid (Below w.heap.size w w) := hide (Below.refl _ _)
  clear hLa hLb h8a h8b
  by_cases hlong : 32768 < xa.length + xb.length
  · have d0 : decide ((xa.length : Int) + (xb.length : Int) > 32768) = true := decide_eq_true (by omega)
    clear hlong
    go_enter Try.func7, Try.ntmps7
    go_wp2_with fail
    refine (CA.out w).mono ?_
    rintro e we ⟨rfl, hB⟩
    replace HB := hide (HB.out.trans (hB.mono HB.out.size))
    clear hB
    go_wp2_with fail
    go_ret
    exact ⟨rfl, HB.out⟩
  · have d0 : decide ((xa.length : Int) + (xb.length : Int) > 32768) = false := decide_eq_false (by omega)
    have hal : xa.length ≤ 32768 := by omega
    have hbl : xb.length ≤ 32768 := by omega
    have HOW := hide (ow_facts xa xb (by omega))
    clear hla hlb
    go_enter Try.func7, Try.ntmps7
    go_wp2_with fail
    refine (H.new 65536 w (by decide)).mono ?_
    rintro e w2 ⟨q, F, rfl, hD, hF, hB⟩
    have HD := hide (show D w2 q F (newD 65536) from hD)
    have HF := hide hF
    replace HB := hide (HB.out.trans (hB.mono HB.out.size))
    have HLT2 := hide (H.lt hD)
    have HW2 := hide HB.out.size
    clear hB hD hF
    go_wp2_with (first
      | (at_builtin; refine append_lies _ rfl _ _ rfl w2.heap.size (.slice none 0 0) (.slice aa xa.length ca) 0 [] xa rfl (World.ownsRow_nil _ _ _ _) rfl (HLA.out.below HB.out) (by omega) (Nat.le_refl _) ?_; intro vx w3 ho3 hg3; simp only [Nat.zero_add, List.nil_append] at ho3; have hB3 := (Below.refl w2.heap.size w2).grown hg3 (Nat.le_refl _) (fun k hk => by cases hk); obtain ⟨ax, cx, hvx⟩ := (Lies.of_own ho3).shape; subst hvx; have HOX := hide ho3; have HB3 := hide hB3; clear ho3 hg3 hB3)
      | (at_builtin; refine append_lies _ rfl _ _ rfl w3.heap.size (.slice none 0 0) (.slice ab xb.length cb) 0 [] xb rfl (World.ownsRow_nil _ _ _ _) rfl (HLB.out.below (HB.out.trans (HB3.out.mono HB.out.size))) (by omega) (Nat.le_refl _) ?_; intro vy w4 ho4 hg4; simp only [Nat.zero_add, List.nil_append] at ho4; have hB4 := (Below.refl w3.heap.size w3).grown hg4 (Nat.le_refl _) (fun k hk => by cases hk); obtain ⟨ay, cy, hvy⟩ := (Lies.of_own ho4).shape; subst hvy; have HOY := hide ho4; have HB4 := hide hB4; clear ho4 hg4 hB4))
    have HB24 := hide (HB3.out.trans (HB4.out.mono HB3.out.size))
    have HXY : Hid (∀ g, (Value.slice ax xa.length cx).ownBlock = some g → (Value.slice ay xb.length cy).ownBlock ≠ some g) := hide (fun g hg e => by have h1 := (HOX.out.lt g hg).2; have h2 := (HOY.out.lt g e).1; omega)
    have HGX : Hid (∀ g, (Value.slice ax xa.length cx).ownBlock = some g → w.heap.size ≤ g) := hide (fun g hg => Nat.le_trans HW2.out (HOX.out.lt g hg).1)
    have HGY : Hid (∀ g, (Value.slice ay xb.length cy).ownBlock = some g → w.heap.size ≤ g) := hide (fun g hg => Nat.le_trans HW2.out (Nat.le_trans HB3.out.size (HOY.out.lt g hg).1))
    have HFX : Hid (Far F w4 (.slice ax xa.length cx)) := hide (fun g hg => ⟨Nat.lt_of_lt_of_le (HOX.out.lt g hg).2 HB4.out.size, fun hf => by have h1 := (HOX.out.lt g hg).1; have h2 := HLT2.out g hf; omega⟩)
    have HFY : Hid (Far F w4 (.slice ay xb.length cy)) := hide (fun g hg => ⟨(HOY.out.lt g hg).2, fun hf => by have h1 := (HOY.out.lt g hg).1; have h2 := HLT2.out g hf; have h3 := HB3.out.size; omega⟩)
    replace HOX := hide (owns_any7 (owns_below HOX.out HB4.out))
    replace HOY := hide (owns_any7 HOY.out)
    replace HD := hide (H.below HD.out HB24.out)
    replace HB := hide (HB.out.trans (HB24.out.mono HB.out.size))
    clear HB3 HB4 HB24 HLT2 HW2
    refine (H.app _ xa HD.out (Lies.of_own HOX.out) H8A.out (by omega) (by decide)).mono ?_
    rintro e w5 ⟨rfl, F2, hD2, hk2, hF2⟩
    replace HOX := hide (owns_keep HOX.out hk2 (fun g hg => (HFX.out g hg).2))
    replace HFX := hide (HFX.out.did hk2 hF2)
    replace HOY := hide (owns_keep HOY.out hk2 (fun g hg => (HFY.out g hg).2))
    replace HFY := hide (HFY.out.did hk2 hF2)
    have HFN : Hid (∀ k, F2 k → w.heap.size ≤ k) := hide (fun k hk => by
      rcases hF2 k hk with h | h
      · exact HF.out k h
      · exact Nat.le_trans HB.out.size h)
    replace HB := hide (HB.out.trans (hk2.below HB.out.size HF.out))
    replace HD := hide (show D w5 q F2 (ow1 xa) from hD2)
    replace HF := HFN
    clear hD2 hk2 hF2 HFN
    go_wp2_with fail
    refine (H.for' HD.out).mono ?_
    rintro e w6 ⟨rfl, F3, hD2, hk2, hF2⟩
    replace HOX := hide (owns_keep HOX.out hk2 (fun g hg => (HFX.out g hg).2))
    replace HFX := hide (HFX.out.did hk2 hF2)
    replace HOY := hide (owns_keep HOY.out hk2 (fun g hg => (HFY.out g hg).2))
    replace HFY := hide (HFY.out.did hk2 hF2)
    have HFN : Hid (∀ k, F3 k → w.heap.size ≤ k) := hide (fun k hk => by
      rcases hF2 k hk with h | h
      · exact HF.out k h
      · exact Nat.le_trans HB.out.size h)
    replace HB := hide (HB.out.trans (hk2.below HB.out.size HF.out))
    replace HD := hide (show D w6 q F3 (ow2 xa) from hD2)
    replace HF := HFN
    clear hD2 hk2 hF2 HFN
    go_wp2_with fail
    refine (H.fai HD.out).mono ?_
    rintro e w7 ⟨rfl, F4, hD2, hk2, hF2⟩
    replace HOX := hide (owns_keep HOX.out hk2 (fun g hg => (HFX.out g hg).2))
    replace HFX := hide (HFX.out.did hk2 hF2)
    replace HOY := hide (owns_keep HOY.out hk2 (fun g hg => (HFY.out g hg).2))
    replace HFY := hide (HFY.out.did hk2 hF2)
    have HFN : Hid (∀ k, F4 k → w.heap.size ≤ k) := hide (fun k hk => by
      rcases hF2 k hk with h | h
      · exact HF.out k h
      · exact Nat.le_trans HB.out.size h)
    replace HB := hide (HB.out.trans (hk2.below HB.out.size HF.out))
    replace HD := hide (show D w7 q F4 (ow3 xa) from hD2)
    replace HF := HFN
    clear hD2 hk2 hF2 HFN
    go_wp2_with fail
    refine (H.sta 0 true _ xb HD.out (Lies.of_own HOY.out) H8B.out (by omega) (by rw [HOW.out.1]; omega) (by decide)).mono ?_
    rintro e w8 ⟨rfl, F5, hD2, hk2, hF2⟩
    replace HOX := hide (owns_keep HOX.out hk2 (fun g hg => (HFX.out g hg).2))
    replace HFX := hide (HFX.out.did hk2 hF2)
    replace HOY := hide (owns_keep HOY.out hk2 (fun g hg => (HFY.out g hg).2))
    replace HFY := hide (HFY.out.did hk2 hF2)
    have HFN : Hid (∀ k, F5 k → w.heap.size ≤ k) := hide (fun k hk => by
      rcases hF2 k hk with h | h
      · exact HF.out k h
      · exact Nat.le_trans HB.out.size h)
    replace HB := hide (HB.out.trans (hk2.below HB.out.size HF.out))
    replace HD := hide (show D w8 q F5 (ow4 xa xb) from hD2)
    replace HF := HFN
    clear hD2 hk2 hF2 HFN
    have HOV := hide (Over7.start HOX.out)
    clear HOX
    go_wp2_with fail
    go_loopw [59] (fun i wr => ∃ k : Nat, k ≤ xa.length ∧ i = .int .i64 k ∧ Hid (Over7 w8 wr (.slice ax xa.length cx) xa.length)) (fun i _ => xa.length - (intOf i).toNat)
    case atStart => exact ⟨0, by omega, rfl, HOV⟩
    case round =>
      obtain ⟨k, hk, rfl, HO⟩ := hrel
      by_cases hlt : k < xa.length
      · obtain ⟨hkeep, h0 | ⟨g, cap', cur, e, hbx, hcur⟩⟩ := HO.out
        · omega
        · cases e
          obtain ⟨z, hz⟩ := hcur k hlt
          have hcell := hbx.cell k _ hz
          have hfro := hbx.frozen k
          have HST := hide (fun z => Over7.step (k := k) hkeep hbx hcur z)
          clear hkeep hbx hcur hz HO
          go_wp2_with fail
          go_roundw
          case rel => exact ⟨k + 1, by omega, by go_num, hide (HST.out _)⟩
          case measure => simp [intOf]; omega
      · have hge : decide ((k : Int) < (xa.length : Int)) = false := by simp; omega
        have hko := HO.out.1
        clear HO HOV
        replace HD := hide (H.keep HD.out hko (fun k hf e => (HFX.out k e).2 hf))
        replace HB := hide (HB.out.trans (hko.below HB.out.size (fun k e => HGX.out k e)))
        replace HOY := hide (owns_keep HOY.out hko (fun g hg e => HXY.out g e hg))
        replace HFY := hide (HFY.out.size hko.size)
        clear hko HFX HGX HXY
        have HOV := hide (Over7.start HOY.out)
        clear HOY
        obtain ⟨X1, hX1⟩ : ∃ X1, X1 = wr := ⟨_, rfl⟩
        rw [← hX1] at HD HB HOV HFY ⊢
        clear hX1
        go_wp2_with fail
        go_loopw [71] (fun i wr => ∃ k : Nat, k ≤ xb.length ∧ i = .int .i64 k ∧ Hid (Over7 X1 wr (.slice ay xb.length cy) xb.length)) (fun i _ => xb.length - (intOf i).toNat)
        case atStart => exact ⟨0, by omega, rfl, HOV⟩
        case round =>
          obtain ⟨k, hk, rfl, HO⟩ := hrel
          by_cases hlt : k < xb.length
          · obtain ⟨hkeep, h0 | ⟨g, cap', cur, e, hbx, hcur⟩⟩ := HO.out
            · omega
            · cases e
              obtain ⟨z, hz⟩ := hcur k hlt
              have hcell := hbx.cell k _ hz
              have hfro := hbx.frozen k
              have HST := hide (fun z => Over7.step (k := k) hkeep hbx hcur z)
              clear hkeep hbx hcur hz HO
              go_wp2_with fail
              go_roundw
              case rel => exact ⟨k + 1, by omega, by go_num, hide (HST.out _)⟩
              case measure => simp [intOf]; omega
          · have hge : decide ((k : Int) < (xb.length : Int)) = false := by simp; omega
            have hko := HO.out.1
            clear HO HOV
            replace HD := hide (H.keep HD.out hko (fun k hf e => (HFY.out k e).2 hf))
            replace HB := hide (HB.out.trans (hko.below HB.out.size (fun k e => HGY.out k e)))
            clear hko HFY HGY
            go_wp2_with fail
            have HLT3 := hide (H.lt HD.out)
            have HW3 := hide HB.out.size
            have C := H.rea HD.out
            rw [HOW.out.2.1, HOW.out.2.2] at C
            refine C.mono ?_
            rintro e X3 ⟨vp, rfl, hO, hB⟩
            replace HD := hide (H.below HD.out hB)
            replace HB := hide (HB.out.trans (hB.mono HB.out.size))
            obtain ⟨ps, hps⟩ : ∃ ps, ps = xa ++ xb := ⟨_, rfl⟩
            rw [← hps] at hO
            have hpsl : ps.length ≤ 32768 := by rw [hps]; simp; omega
            clear hps
            obtain ⟨ap, cp, hvp⟩ := (Lies.of_own hO).shape
            subst hvp
            have HFP : Hid (∀ g, (Value.slice ap ps.length cp).ownBlock = some g → ¬ F5 g) := hide (fun g hg hf => by have h1 := (hO.lt g hg).1; have h2 := HLT3.out g hf; omega)
            have HGP : Hid (∀ g, (Value.slice ap ps.length cp).ownBlock = some g → w.heap.size ≤ g) := hide (fun g hg => Nat.le_trans HW3.out (hO.lt g hg).1)
            have HOV := hide (Over7.start hO)
            clear hO hB C HLT3 HW3
            go_wp2_with fail
            go_loopw [88] (fun i wr => ∃ k : Nat, k ≤ ps.length ∧ i = .int .i64 k ∧ Hid (Over7 X3 wr (.slice ap ps.length cp) ps.length)) (fun i _ => ps.length - (intOf i).toNat)
            case atStart => exact ⟨0, by omega, rfl, HOV⟩
            case round =>
              obtain ⟨k, hk, rfl, HO⟩ := hrel
              by_cases hlt : k < ps.length
              · obtain ⟨hkeep, h0 | ⟨g, cap', cur, e, hbx, hcur⟩⟩ := HO.out
                · omega
                · cases e
                  obtain ⟨z, hz⟩ := hcur k hlt
                  have hcell := hbx.cell k _ hz
                  have hfro := hbx.frozen k
                  have HST := hide (fun z => Over7.step (k := k) hkeep hbx hcur z)
                  clear hkeep hbx hcur hz HO
                  go_wp2_with fail
                  go_roundw
                  case rel => exact ⟨k + 1, by omega, by go_num, hide (HST.out _)⟩
                  case measure => simp [intOf]; omega
              · have hge : decide ((k : Int) < (ps.length : Int)) = false := by simp; omega
                have hko := HO.out.1
                clear HO HOV
                replace HD := hide (H.keep HD.out hko (fun k hf e => (HFP.out k e) hf))
                replace HB := hide (HB.out.trans (hko.below HB.out.size (fun k e => HGP.out k e)))
                clear hko HFP HGP
                go_wp2_with fail
                have C := H.rea HD.out
                rw [HOW.out.2.1, HOW.out.2.2] at C
                refine C.mono ?_
                rintro e X4 ⟨vq, rfl, hO, hB⟩
                replace HB := hide (HB.out.trans (hB.mono HB.out.size))
                obtain ⟨ys, hys⟩ : ∃ ys, ys = xa ++ xb := ⟨_, rfl⟩
                rw [← hys] at hO
                obtain ⟨aq, cq, hvq⟩ := (Lies.of_own hO).shape
                subst hvq
                have HLQ := hide (Lies.of_own hO)
                have HYS := hide hys
                clear hO hB C hys HD HF
                go_wp2_with (first
                  | (refine append_lies_g _ rfl _ _ rfl X4.heap.size (.slice none 0 0) (.slice aa xa.length ca) 0 [] xa rfl (World.ownsRow_nil _ _ _ _) rfl (HLA.out.below HB.out) (by omega) (Nat.le_refl _) ?_; intro v5 X5 ho5 hg5; simp only [Nat.zero_add, List.nil_append] at ho5; have hB5 := (Below.refl X4.heap.size X4).grown hg5 (Nat.le_refl _) (fun k hk => by cases hk); obtain ⟨a5, c5, hv5⟩ := (Lies.of_own ho5).shape; subst hv5; have HO5 := hide ho5; have HB5 := hide hB5; clear ho5 hg5 hB5)
                  | (refine append_lies_g _ rfl _ _ rfl X4.heap.size (.slice a5 xa.length c5) (.slice ab xb.length cb) xa.length xa xb rfl HO5.out rfl (HLB.out.below (HB.out.trans (HB5.out.mono HB.out.size))) (by omega) HB5.out.size ?_; intro v6 X6 ho6 hg6; have hB6 : Below X4.heap.size X4 X6 := HB5.out.grown hg6 HB5.out.size (fun k hk => (HO5.out.lt k hk).1); have ho6' : X6.ownsRow X4.heap.size 5 1 v6 ys.length (ys.map (Value.int .u8)) := (by rw [HYS.out]; simpa using ho6); obtain ⟨a6, c6, hv6⟩ := (Lies.of_own ho6').shape; subst hv6; have HL6 := hide (Lies.of_own ho6'); have HB6 := hide hB6; clear ho6 ho6' hg6 hB6))
                have HLQ6 := hide (HLQ.out.below HB6.out)
                refine (same_any _ _ ys X6 HLQ6.out HL6.out).mono ?_
                rintro e X7 ⟨rfl, rfl⟩
                replace HB := hide (HB.out.trans (HB6.out.mono HB.out.size))
                clear HLQ HLQ6 HL6 HB6 HYS
                go_wp2_with fail
                have hBz := alloc_below7 X7 (.cells zdisk 62)
                have hXz := box_new X7 zdisk 62
                have hBs := alloc_below7 (X7.alloc (.cells zdisk 62)) (.cells #[.pointer none, .pointer (some ⟨X7.heap.size, 0, none⟩)] 25)
                have hXs := box_new (X7.alloc (.cells zdisk 62)) #[.pointer none, .pointer (some ⟨X7.heap.size, 0, none⟩)] 25
                have hszs : (X7.alloc (.cells zdisk 62)).heap.size = X7.heap.size + 1 := by simp
                replace hXz := hXz.belowV7 hBs
                replace hBs := hBz.trans (hBs.mono hBz.size)
                rw [hszs] at hXs
                revert hXz hBs hXs
                unfold zdisk
                generalize (X7.alloc (.cells #[.int .i64 0, .slice none 0 0, .bool false, .int .i64 0, .int .i64 0, .int .i64 0, .int .i64 0, .bool false] 62)).alloc (.cells #[.pointer none, .pointer (some ⟨X7.heap.size, 0, none⟩)] 25) = X8
                intro hXs hXz hBs
                have HN : Hid (∀ k : Nat, k < 2 → ∃ gp, X8.cell? ⟨X7.heap.size + 1, k, none⟩ = some gp ∧ Nob X8 gp) := hide (fun k hk => by
                  match k, hk with
                  | 0, _ => exact ⟨_, hXs.cell 0 _ rfl, .inl rfl⟩
                  | 1, _ => exact ⟨_, hXs.cell 1 _ rfl, .inr ⟨_, rfl, hXz⟩⟩)
                replace HB := hide (HB.out.trans (hBs.mono HB.out.size))
                clear hXz hBs hXs hszs hBz
                go_loopg [118] 2 (fun g i wr => ∃ k : Nat, k + g = 2 ∧ i = .int .i64 k ∧ wr = X8)
                case atStart => exact ⟨0, by omega, rfl, rfl⟩
                case round =>
                  obtain ⟨k, hk, rfl, rfl⟩ := hrel
                  cases gk with
                  | zero =>
                    obtain rfl : k = 2 := by omega
                    go_wp2_with fail
                    refine (CA.out wr).mono ?_
                    rintro e we ⟨rfl, hB⟩
                    replace HB := hide (HB.out.trans (hB.mono HB.out.size))
                    clear hB
                    go_wp2_with fail
                    go_ret
                    exact ⟨rfl, HB.out⟩
                  | succ g =>
                    obtain ⟨gp, hcell, hnob⟩ := HN.out k (by omega)
                    have hz : (k : Int) < 2 := by omega
                    have hz2 : k < 2 := by omega
                    have HNO := hide hnob
                    clear hnob
                    go_wp2_with fail
                    refine (append_no gp _ wr HNO.out).mono ?_
                    rintro e w9 ⟨rfl, hw9⟩
                    subst w9
                    go_wp2_with fail
                    refine (read_no gp wr HNO.out).mono ?_
                    rintro e w9 ⟨rfl, hw9⟩
                    subst w9
                    go_wp2_with fail
                    refine (arm_no gp n wr HNO.out).mono ?_
                    rintro e w9 ⟨rfl, hw9⟩
                    subst w9
                    go_wp2_with fail
                    refine (force_no gp wr HNO.out).mono ?_
                    rintro e w9 ⟨rfl, hw9⟩
                    subst w9
                    go_wp2_with fail
                    refine (cut_no gp n wr HNO.out).mono ?_
                    rintro e w9 ⟨rfl, hw9⟩
                    subst w9
                    go_wp2_with fail
                    refine (trim_no gp n wr HNO.out).mono ?_
                    rintro e w9 ⟨rfl, hw9⟩
                    subst w9
                    go_wp2_with fail
                    refine (fail_no gp wr HNO.out).mono ?_
                    rintro e w9 ⟨rfl, hw9⟩
                    subst w9
                    go_wp2_with fail
                    refine (start_no gp n true _ wr HNO.out).mono ?_
                    rintro e w9 ⟨rfl, hw9⟩
                    subst w9
                    go_wp2_with fail
                    refine (forced_no gp wr HNO.out).mono ?_
                    rintro e w9 ⟨rfl, hw9⟩
                    subst w9
                    go_wp2_with fail
                    refine (base_no gp wr HNO.out).mono ?_
                    rintro e w9 ⟨rfl, hw9⟩
                    subst w9
                    go_wp2_with fail
                    refine (end_no gp wr HNO.out).mono ?_
                    rintro e w9 ⟨rfl, hw9⟩
                    subst w9
                    go_wp2_with fail
                    refine (left_no gp wr HNO.out).mono ?_
                    rintro e w9 ⟨rfl, hw9⟩
                    subst w9
                    go_wp2_with fail
                    refine (room_no gp wr HNO.out).mono ?_
                    rintro e w9 ⟨rfl, hw9⟩
                    subst w9
                    go_wp2_with fail
                    refine (on_no gp wr HNO.out).mono ?_
                    rintro e w9 ⟨rfl, hw9⟩
                    subst w9
                    go_wp2_with fail
                    go_roundg g
                    case measure => omega
                    case rel => exact ⟨k + 1, by omega, by first | rfl | go_num, rfl⟩
end
end Go.Proofs.Ytjjmcaamgoffiaa
