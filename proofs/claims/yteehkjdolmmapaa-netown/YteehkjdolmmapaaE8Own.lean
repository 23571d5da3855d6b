/-
  NetOwn: what was handed in, or answered, may be written over; a network that nobody made answers an error. The walk, by the bundle. Own work.
-/
import Derived.Test.YteehkjdolmmapaaNtAlive
import Derived.Test.YteehkjdolmmapaaNtCount
import Derived.Test.YteehkjdolmmapaaNtOwnP
import Derived.Deep.RegionHeldLaw
import Derived.Deep.LoopGhost
namespace Go.Proofs.Yteehkjdolmmapaa
open Go.RowKit

section
variable {D : World → Nat → (Nat → Prop) → Nt → Prop}
set_option maxRecDepth 100000 in
set_option maxHeartbeats 3200000 in
theorem walkO8 (H : NetDo D) {Nb : World → Value → Prop} (HNB : NobDo8 Nb) (hnil : ∀ w, Nb w (.pointer none)) (hzero : ∀ w z, Box w z #[.bool false, .int .i64 0, .slice none 0 0, .int .u32 0] 65 → Nb w (.pointer (some ⟨z, 0, none⟩))) (a : NAct) (sv0 : Value) (w : World) (ha : a.Ok) (hLa : Lies .u8 w sv0 a.b) :
    Calls Try.prog 7 #[.agg (ncells a sv0)] w fun e w' => e = .returned (.bool true) ∧ Below w.heap.size w w' := by
  obtain ⟨sa, sc, hsv⟩ := hLa.shape
  subst hsv
  have hlm := hLa.len
  unfold maxLen at hlm
  have CA := hide (fun W => alive_by8 H W)
  have HLA := hide hLa
  have HA := hide ha
  have hak := ha.k
  have hat := ha.t
  unfold ncells
  have HX0 := hide (box_new w #[.int .u8 (a.kind : Int), .int .u8 (a.fr : Int), .int .u8 (a.to : Int), .int .i64 a.i, .slice sa a.b.length sc] 37)
  have HB00 := hide (alloc_below8 w (.cells #[.int .u8 (a.kind : Int), .int .u8 (a.fr : Int), .int .u8 (a.to : Int), .int .i64 a.i, .slice sa a.b.length sc] 37))
  have HNIL := hide hnil
  have HZERO := hide hzero
  clear hLa ha hnil hzero
  by_cases hbig : 4000 < a.b.length
  · have dbig : decide ((a.b.length : Int) > 4000) = true := decide_eq_true (by omega)
    go_enter Try.func7, Try.ntmps7
    go_wp2_with fail
    revert HX0 HB00
    generalize w.alloc (.cells #[.int .u8 (a.kind : Int), .int .u8 (a.fr : Int), .int .u8 (a.to : Int), .int .i64 a.i, .slice sa a.b.length sc] 37) = w1
    intro HX0 HB00
    have HB := HB00
    refine (H.new 4 w1 (by decide)).mono ?_
    rintro e w2 ⟨q, F, rfl, hD, hF, hB⟩
    replace HB := hide (HB.out.trans (hB.mono HB.out.size))
    have HX := hide (HX0.out.below8 hB)
    have x4 := HX.out.cell 4 _ rfl
    clear hB hD hF
    go_wp2_with fail
    refine (CA.out w2).mono ?_
    rintro e we ⟨rfl, hB⟩
    replace HB := hide (HB.out.trans (hB.mono HB.out.size))
    clear hB
    go_wp2_with fail
    go_ret
    exact ⟨rfl, HB.out⟩
  · have dbig : decide ((a.b.length : Int) > 4000) = false := decide_eq_false (by omega)
    have HOW := hide (own_facts8 a.b (by omega))
    have hbl : a.b.length ≤ 4000 := by omega
    go_enter Try.func7, Try.ntmps7
    go_wp2_with fail
    revert HX0 HB00
    generalize w.alloc (.cells #[.int .u8 (a.kind : Int), .int .u8 (a.fr : Int), .int .u8 (a.to : Int), .int .i64 a.i, .slice sa a.b.length sc] 37) = w1
    intro HX0 HB00
    have HB := HB00
    refine (H.new 4 w1 (by decide)).mono ?_
    rintro e w2 ⟨q, F, rfl, hD, hF, hB⟩
    replace HB := hide (HB.out.trans (hB.mono HB.out.size))
    have HX := hide (HX0.out.below8 hB)
    have x4 := HX.out.cell 4 _ rfl
    have HD := hide (show D w2 q F (newN 4) from hD)
    have HF : Hid (∀ k, F k → w.heap.size ≤ k) := hide (fun k hk => Nat.le_trans HB00.out.size (hF k hk))
    have HF1 := hide hF
    have HW1 : Hid (w1.heap.size ≤ w2.heap.size) := hide hB.size
    have HLT2 := hide (H.lt hD)
    clear hB hD hF
    go_wp2_with (at_builtin; refine append_lies _ rfl _ _ rfl w2.heap.size (.slice none 0 0) (.slice sa a.b.length sc) 0 [] a.b rfl (World.ownsRow_nil _ _ _ _) rfl (HLA.out.below HB.out) (by omega) (Nat.le_refl _) ?_; intro vx w3 ho3 hg3; simp only [Nat.zero_add, List.nil_append] at ho3; have hB3 := (Below.refl w2.heap.size w2).grown hg3 (Nat.le_refl _) (fun k hk => by cases hk); obtain ⟨ax, cx, hvx⟩ := (Lies.of_own ho3).shape; subst hvx; have HOX := hide ho3; have HB3 := hide hB3; clear ho3 hg3 hB3)
    have HFX : Hid (∀ g, (Value.slice ax a.b.length cx).ownBlock = some g → ¬ F g ∧ w2.heap.size ≤ g ∧ g < w3.heap.size) := hide (fun g hg => ⟨fun hf => by have h1 := (HOX.out.lt g hg).1; have h2 := HLT2.out g hf; omega, (HOX.out.lt g hg).1, (HOX.out.lt g hg).2⟩)
    replace HD := hide (H.below HD.out HB3.out)
    replace HB := hide (HB.out.trans (HB3.out.mono HB.out.size))
    replace HX := hide (HX.out.below8 HB3.out)
    replace HOX := hide (owns_any8 HOX.out)
    have HWS : Hid (w2.heap.size ≤ w3.heap.size) := hide HB3.out.size
    clear HB3 HLT2 x4
    have C : Calls Try.prog 23 #[.pointer (some ⟨q, 0, none⟩), .agg #[.int .u8 0, .int .u8 0, .slice ax a.b.length cx]] w3 fun e w' => e = .returned (.int .i64 0) ∧ NDid D w3 w' q F ⟨4, [⟨0, 0, a.b⟩], 0⟩ := by
      have := H.sen ⟨0, 0, a.b⟩ (.slice ax a.b.length cx) HD.out ⟨by show 0 < 256; decide, by show 0 < 256; decide, HA.out.b⟩ (Lies.of_own HOX.out) (by decide)
      rw [HOW.out.1, HOW.out.2.1] at this
      exact this
    refine C.mono ?_
    rintro e w4 ⟨rfl, F4, hD4, hk4, hF4⟩
    replace HOX := hide (owns_keep HOX.out hk4 (fun g hg => (HFX.out g hg).1))
    have HFN : Hid (∀ k, F4 k → w.heap.size ≤ k) := hide (fun k hk => by
      rcases hF4 k hk with h | h
      · exact HF.out k h
      · exact Nat.le_trans HB.out.size h)
    have HFN1 : Hid (∀ k, F4 k → w1.heap.size ≤ k) := hide (fun k hk => by
      rcases hF4 k hk with h | h
      · exact HF1.out k h
      · exact Nat.le_trans HW1.out (Nat.le_trans HWS.out h))
    replace HX := hide (HX.out.keep hk4 (fun hf => by have h1 := HF1.out _ hf; have h2 := HX0.out.lt; omega))
    replace HFX := hide (fun g hg => ⟨fun hf => by rcases hF4 g hf with h | h; exact (HFX.out g hg).1 h; have := (HFX.out g hg).2.2; omega, (HFX.out g hg).2.1, Nat.lt_of_lt_of_le (HFX.out g hg).2.2 hk4.size⟩ : ∀ g, (Value.slice ax a.b.length cx).ownBlock = some g → ¬ F4 g ∧ w2.heap.size ≤ g ∧ g < w4.heap.size)
    replace HB := hide (HB.out.trans (hk4.below HB.out.size HF.out))
    replace HWS := hide (Nat.le_trans HWS.out hk4.size)
    replace HD := hide hD4
    replace HF := HFN
    replace HF1 := HFN1
    clear hD4 hk4 hF4 HFN HFN1 C
    go_wp2_with fail
    have C := H.twi 0 HD.out
    rw [HOW.out.2.2.1, HOW.out.2.2.2.1] at C
    refine C.mono ?_
    rintro e w5 ⟨rfl, F5, hD4, hk4, hF4⟩
    replace HOX := hide (owns_keep HOX.out hk4 (fun g hg => (HFX.out g hg).1))
    have HFN : Hid (∀ k, F5 k → w.heap.size ≤ k) := hide (fun k hk => by
      rcases hF4 k hk with h | h
      · exact HF.out k h
      · exact Nat.le_trans HB.out.size h)
    have HFN1 : Hid (∀ k, F5 k → w1.heap.size ≤ k) := hide (fun k hk => by
      rcases hF4 k hk with h | h
      · exact HF1.out k h
      · exact Nat.le_trans HW1.out (Nat.le_trans HWS.out h))
    replace HX := hide (HX.out.keep hk4 (fun hf => by have h1 := HF1.out _ hf; have h2 := HX0.out.lt; omega))
    replace HFX := hide (fun g hg => ⟨fun hf => by rcases hF4 g hf with h | h; exact (HFX.out g hg).1 h; have := (HFX.out g hg).2.2; omega, (HFX.out g hg).2.1, Nat.lt_of_lt_of_le (HFX.out g hg).2.2 hk4.size⟩ : ∀ g, (Value.slice ax a.b.length cx).ownBlock = some g → ¬ F5 g ∧ w2.heap.size ≤ g ∧ g < w5.heap.size)
    replace HB := hide (HB.out.trans (hk4.below HB.out.size HF.out))
    replace HWS := hide (Nat.le_trans HWS.out hk4.size)
    replace HD := hide hD4
    replace HF := HFN
    replace HF1 := HFN1
    clear hD4 hk4 hF4 HFN HFN1 C
    have HOV := hide (Over8.start HOX.out)
    have HFV : Hid (∀ k, (Value.slice ax a.b.length cx).ownBlock = some k → ¬ F5 k ∧ w.heap.size ≤ k) := hide (fun k e => ⟨(HFX.out k e).1, Nat.le_trans (Nat.le_trans HB00.out.size HW1.out) (HFX.out k e).2.1⟩)
    have HXF : Hid ((Value.slice ax a.b.length cx).ownBlock ≠ some w.heap.size) := hide (fun e => by have h1 := (HFX.out _ e).2.1; have h2 := HX0.out.lt; have h3 := HW1.out; omega)
    clear HOX HFX
    go_wp2_with fail
    go_loopw [55] (fun i wr => ∃ k : Nat, k ≤ a.b.length ∧ i = .int .i64 k ∧ Hid (Over8 w5 wr (.slice ax a.b.length cx) a.b.length)) (fun i _ => a.b.length - (intOf i).toNat)
    case atStart => exact ⟨0, by omega, rfl, HOV⟩
    case round =>
      obtain ⟨k, hk, rfl, HO⟩ := hrel
      by_cases hlt : k < a.b.length
      · obtain ⟨hkeep, h0 | ⟨g, cap', cur, e, hbx, hcur⟩⟩ := HO.out
        · omega
        · cases e
          obtain ⟨z, hz⟩ := hcur k hlt
          have hcell := hbx.cell k _ hz
          have hfro := hbx.frozen k
          have HST := hide (fun z => Over8.step (k := k) hkeep hbx hcur z)
          clear hkeep hbx hcur hz HO
          go_wp2_with fail
          go_roundw
          case rel => exact ⟨k + 1, by omega, by go_num, hide (HST.out _)⟩
          case measure => simp [intOf]; omega
      · have hge : decide ((k : Int) < (a.b.length : Int)) = false := by simp; omega
        have hko := HO.out.1
        clear HO HOV
        replace HD := hide (H.keep HD.out hko (fun k hf e => (HFV.out k e).1 hf))
        replace HB := hide (HB.out.trans (hko.below HB.out.size (fun k e => (HFV.out k e).2)))
        replace HX := hide (HX.out.keep hko (fun e => HXF.out e))
        have HWR : Hid (w2.heap.size ≤ wr.heap.size) := hide (Nat.le_trans HWS.out hko.size)
        clear hko HFV HXF HWS
        go_wp2_with fail
        have HLT := hide (H.lt HD.out)
        have C := H.at' 0 HD.out
        rw [HOW.out.2.2.2.2.1, HOW.out.2.2.2.2.2.1] at C
        refine C.mono ?_
        rintro e X4 ⟨sv4, rfl, ho4, hB⟩
        have HFV : Hid (∀ k, sv4.ownBlock = some k → ¬ F5 k ∧ w.heap.size ≤ k) := hide (fun k e => ⟨fun hf => by have h1 := (ho4.lt k e).1; have h2 := HLT.out k hf; omega, Nat.le_trans HB.out.size (ho4.lt k e).1⟩)
        have HXF : Hid (sv4.ownBlock ≠ some w.heap.size) := hide (fun e => by have h1 := (ho4.lt _ e).1; have h2 := HX.out.lt; omega)
        have HVL : Hid (∀ k, sv4.ownBlock = some k → k < X4.heap.size) := hide (fun k e => (ho4.lt k e).2)
        replace HD := hide (H.below HD.out hB)
        replace HB := hide (HB.out.trans (hB.mono HB.out.size))
        replace HX := hide (HX.out.below8 hB)
        replace HWR := hide (Nat.le_trans HWR.out hB.size)
        obtain ⟨a4, c4, hv4⟩ := (Lies.of_own ho4).shape
        subst hv4
        have HO4 := hide ho4
        clear ho4 hB C HLT
        unfold wcs
        have hA := alloc_below8 X4 (.cells #[.int .u8 0, .int .u8 0, .slice a4 a.b.length c4] 50)
        have hXw := box_new X4 #[.int .u8 0, .int .u8 0, .slice a4 a.b.length c4] 50
        replace HX := hide (HX.out.below8 hA)
        replace HD := hide (H.below HD.out hA)
        replace HB := hide (HB.out.trans (hA.mono HB.out.size))
        have HY := hide hXw
        have HYF : Hid ((Value.slice a4 a.b.length c4).ownBlock ≠ some X4.heap.size) := hide (fun e => by have := HVL.out _ e; omega)
        have HOV := hide (Over8.start (owns_keep HO4.out (KeepBut.of_below (fun _ => False) hA) (fun _ _ h => h)))
        have y2 := hXw.cell 2 _ rfl
        have HWRA : Hid (w2.heap.size ≤ (X4.alloc (.cells #[.int .u8 0, .int .u8 0, .slice a4 a.b.length c4] 50)).heap.size) := hide (Nat.le_trans HWR.out hA.size)
        clear hA hXw HO4 HVL HWR
        go_wp2_with fail
        clear y2
        go_loopw [73] (fun i wr => ∃ k : Nat, k ≤ a.b.length ∧ i = .int .i64 k ∧ Hid (Over8 (X4.alloc (.cells #[.int .u8 0, .int .u8 0, .slice a4 a.b.length c4] 50)) wr (.slice a4 a.b.length c4) a.b.length)) (fun i _ => a.b.length - (intOf i).toNat)
        case atStart => exact ⟨0, by omega, rfl, HOV⟩
        case round =>
          obtain ⟨k, hk, rfl, HO⟩ := hrel
          by_cases hlt : k < a.b.length
          · obtain ⟨hkeep, h0 | ⟨g, cap', cur, e, hbx, hcur⟩⟩ := HO.out
            · omega
            · cases e
              obtain ⟨z, hz⟩ := hcur k hlt
              have hcell := hbx.cell k _ hz
              have hfro := hbx.frozen k
              have HST := hide (fun z => Over8.step (k := k) hkeep hbx hcur z)
              have y2 := (HY.out.keep hkeep (fun e => HYF.out e)).cell 2 _ rfl
              clear hkeep hbx hcur hz HO
              go_wp2_with fail
              go_roundw
              case rel => exact ⟨k + 1, by omega, by go_num, hide (HST.out _)⟩
              case measure => simp [intOf]; omega
          · have hge : decide ((k : Int) < (a.b.length : Int)) = false := by simp; omega
            have hko := HO.out.1
            clear HO HOV
            have HWR : Hid (w2.heap.size ≤ wr.heap.size) := hide (Nat.le_trans HWRA.out hko.size)
            clear HWRA
            replace HD := hide (H.keep HD.out hko (fun k hf e => (HFV.out k e).1 hf))
            replace HB := hide (HB.out.trans (hko.below HB.out.size (fun k e => (HFV.out k e).2)))
            replace HX := hide (HX.out.keep hko (fun e => HXF.out e))
            clear hko HFV HXF HY HYF
            go_wp2_with fail
            have C := H.tak 0 HD.out
            rw [HOW.out.2.2.2.2.1, HOW.out.2.2.2.2.2.1, HOW.out.2.2.2.2.2.2.1] at C
            refine C.mono ?_
            rintro e X5 ⟨sv5, rfl, F7, hD5, hk5, hF5, ho5, hg5⟩
            have HF5 : Hid (∀ k, F7 k → w.heap.size ≤ k) := hide (fun k hk => by
              rcases hF5 k hk with h | h
              · exact HF.out k h
              · exact Nat.le_trans HB.out.size h)
            have HF51 : Hid (∀ k, F7 k → w1.heap.size ≤ k) := hide (fun k hk => by
              rcases hF5 k hk with h | h
              · exact HF1.out k h
              · exact Nat.le_trans HW1.out (Nat.le_trans HWR.out h))
            replace HX := hide (HX.out.keep hk5 (fun hf => by have h1 := HF1.out _ hf; have h2 := HX0.out.lt; omega))
            have HFV : Hid (∀ k, sv5.ownBlock = some k → ¬ F7 k ∧ w.heap.size ≤ k) := hide (fun k e => ⟨(hg5 k e).1, by
              rcases (hg5 k e).2 with h | h
              · exact HF.out k h
              · exact Nat.le_trans HB.out.size h⟩)
            have HXF : Hid (sv5.ownBlock ≠ some w.heap.size) := hide (fun e => by
              rcases (hg5 _ e).2 with h | h
              · have h1 := HF1.out _ h; have h2 := HX0.out.lt; omega
              · have h2 := HX0.out.lt; have h3 := HW1.out; have h4 := HWR.out; omega)
            have HVL : Hid (∀ k, sv5.ownBlock = some k → k < X5.heap.size) := hide (fun k e => (ho5.lt k e).2)
            replace HB := hide (HB.out.trans (hk5.below HB.out.size HF.out))
            replace HD := hide hD5
            replace HF := HF5
            replace HF1 := HF51
            obtain ⟨a5, c5, hv5⟩ := (Lies.of_own ho5).shape
            subst hv5
            have HO5 := hide ho5
            clear hD5 hk5 hF5 ho5 hg5 C HF5 HF51 HWR
            unfold wcs
            have hA := alloc_below8 X5 (.cells #[.int .u8 0, .int .u8 0, .slice a5 a.b.length c5] 50)
            have hXw := box_new X5 #[.int .u8 0, .int .u8 0, .slice a5 a.b.length c5] 50
            replace HX := hide (HX.out.below8 hA)
            replace HD := hide (H.below HD.out hA)
            replace HB := hide (HB.out.trans (hA.mono HB.out.size))
            have HY := hide hXw
            have HYF : Hid ((Value.slice a5 a.b.length c5).ownBlock ≠ some X5.heap.size) := hide (fun e => by have := HVL.out _ e; omega)
            have HOV := hide (Over8.start (owns_keep HO5.out (KeepBut.of_below (fun _ => False) hA) (fun _ _ h => h)))
            have y2 := hXw.cell 2 _ rfl
            clear hA hXw HO5 HVL
            go_wp2_with fail
            clear y2
            go_loopw [92] (fun i wr => ∃ k : Nat, k ≤ a.b.length ∧ i = .int .i64 k ∧ Hid (Over8 (X5.alloc (.cells #[.int .u8 0, .int .u8 0, .slice a5 a.b.length c5] 50)) wr (.slice a5 a.b.length c5) a.b.length)) (fun i _ => a.b.length - (intOf i).toNat)
            case atStart => exact ⟨0, by omega, rfl, HOV⟩
            case round =>
              obtain ⟨k, hk, rfl, HO⟩ := hrel
              by_cases hlt : k < a.b.length
              · obtain ⟨hkeep, h0 | ⟨g, cap', cur, e, hbx, hcur⟩⟩ := HO.out
                · omega
                · cases e
                  obtain ⟨z, hz⟩ := hcur k hlt
                  have hcell := hbx.cell k _ hz
                  have hfro := hbx.frozen k
                  have HST := hide (fun z => Over8.step (k := k) hkeep hbx hcur z)
                  have y2 := (HY.out.keep hkeep (fun e => HYF.out e)).cell 2 _ rfl
                  clear hkeep hbx hcur hz HO
                  go_wp2_with fail
                  go_roundw
                  case rel => exact ⟨k + 1, by omega, by go_num, hide (HST.out _)⟩
                  case measure => simp [intOf]; omega
              · have hge : decide ((k : Int) < (a.b.length : Int)) = false := by simp; omega
                have hko := HO.out.1
                clear HO HOV
                replace HD := hide (H.keep HD.out hko (fun k hf e => (HFV.out k e).1 hf))
                replace HB := hide (HB.out.trans (hko.below HB.out.size (fun k e => (HFV.out k e).2)))
                replace HX := hide (HX.out.keep hko (fun e => HXF.out e))
                clear hko HFV HXF HY HYF
                go_wp2_with fail
                have C := H.tak 0 HD.out
                rw [HOW.out.2.2.2.2.2.2.2.1, HOW.out.2.2.2.2.2.2.2.2] at C
                refine C.mono ?_
                rintro e X6 ⟨sv6, rfl, F6, hD6, hk6, hF6, ho6, hg6⟩
                have hB6 := hk6.below HB.out.size HF.out
                replace HX := hide (HX.out.keep hk6 (fun hf => by have h1 := HF1.out _ hf; have h2 := HX0.out.lt; omega))
                replace HB := hide (HB.out.trans hB6)
                obtain ⟨a6, c6, hv6⟩ := (Lies.of_own ho6).shape
                subst hv6
                have HL6 := hide (Lies.of_own ho6)
                clear hD6 hk6 hF6 ho6 hg6 hB6 C HD HF HF1
                unfold wcs
                have hA := alloc_below8 X6 (.cells #[.int .u8 0, .int .u8 0, .slice a6 a.b.length c6] 50)
                have hXw := box_new X6 #[.int .u8 0, .int .u8 0, .slice a6 a.b.length c6] 50
                replace HX := hide (HX.out.below8 hA)
                replace HB := hide (HB.out.trans (hA.mono HB.out.size))
                replace HL6 := hide (HL6.out.below hA)
                have y2 := hXw.cell 2 _ rfl
                have x4 := HX.out.cell 4 _ rfl
                have HLW := hide (HLA.out.below HB.out)
                clear hA hXw
                go_wp2_with fail
                refine (same_any _ _ a.b _ HL6.out HLW.out).mono ?_
                rintro e X7 ⟨rfl, hw7⟩
                rw [← hw7] at HX HB
                clear HL6 HLW y2 x4 hw7
                have HXZ := hide (box_new X7 #[.bool false, .int .i64 0, .slice none 0 0, .int .u32 0] 65)
                have hBz := alloc_below8 X7 (.cells #[.bool false, .int .i64 0, .slice none 0 0, .int .u32 0] 65)
                have hBs := alloc_below8 (X7.alloc (.cells #[.bool false, .int .i64 0, .slice none 0 0, .int .u32 0] 65)) (.cells #[.pointer none, .pointer (some ⟨X7.heap.size, 0, none⟩)] 25)
                have hXs := box_new (X7.alloc (.cells #[.bool false, .int .i64 0, .slice none 0 0, .int .u32 0] 65)) #[.pointer none, .pointer (some ⟨X7.heap.size, 0, none⟩)] 25
                have hszs : (X7.alloc (.cells #[.bool false, .int .i64 0, .slice none 0 0, .int .u32 0] 65)).heap.size = X7.heap.size + 1 := by simp
                replace HXZ := hide (HXZ.out.below8 hBs)
                have HBZ := hide (hBz.trans (hBs.mono hBz.size))
                rw [hszs] at hXs
                have HXS := hide hXs
                clear hBz hBs hXs hszs
                go_wp2_with fail
                revert HXZ HBZ HXS
                generalize (X7.alloc (.cells #[.bool false, .int .i64 0, .slice none 0 0, .int .u32 0] 65)).alloc (.cells #[.pointer none, .pointer (some ⟨X7.heap.size, 0, none⟩)] 25) = X8
                intro HXZ HBZ HXS
                have HN : Hid (∀ k : Nat, k < 2 → ∃ gp, X8.cell? ⟨X7.heap.size + 1, k, none⟩ = some gp ∧ Nb X8 gp) := hide (fun k hk => by
                  match k, hk with
                  | 0, _ => exact ⟨_, HXS.out.cell 0 _ rfl, HNIL.out _⟩
                  | 1, _ => exact ⟨_, HXS.out.cell 1 _ rfl, HZERO.out _ _ HXZ.out⟩)
                have HSL : Hid (Box X8 (X7.heap.size + 1) #[.pointer none, .pointer (some ⟨X7.heap.size, 0, none⟩)] 25) := hide HXS.out
                replace HB := hide (HB.out.trans (HBZ.out.mono HB.out.size))
                replace HX := hide (HX.out.below8 HBZ.out)
                clear HXZ HBZ HXS
                go_loopg [126] 2 (fun g i wr => ∃ k : Nat, k + g = 2 ∧ i = .int .i64 k ∧ Hid (Below X8.heap.size X8 wr))
                case atStart => exact ⟨0, by omega, rfl, hide (Below.refl _ _)⟩
                case round =>
                  obtain ⟨k, hk, rfl, HBr⟩ := hrel
                  cases gk with
                  | zero =>
                    obtain rfl : k = 2 := by omega
                    replace HB := hide (HB.out.trans (HBr.out.mono HB.out.size))
                    go_wp2_with fail
                    refine (CA.out wr).mono ?_
                    rintro e we ⟨rfl, hB⟩
                    replace HB := hide (HB.out.trans (hB.mono HB.out.size))
                    clear hB
                    go_wp2_with fail
                    go_ret
                    exact ⟨rfl, HB.out⟩
                  | succ g =>
                    obtain ⟨gp, hc0, hnob⟩ := HN.out k (by omega)
                    have hcell : wr.cell? ⟨X7.heap.size + 1, k, none⟩ = some gp := (HBr.out.cell (p := ⟨X7.heap.size + 1, k, none⟩) HSL.out.lt).trans hc0
                    have HNO := hide (HNB.below hnob HBr.out)
                    have hXr := HX.out.below8 HBr.out
                    have x0 := hXr.cell 0 _ rfl
                    have x1 := hXr.cell 1 _ rfl
                    have x2 := hXr.cell 2 _ rfl
                    have x3 := hXr.cell 3 _ rfl
                    have x4 := hXr.cell 4 _ rfl
                    have HXr := hide hXr
                    have hz : (k : Int) < 2 := by omega
                    have hz2 : k < 2 := by omega
                    clear hc0 hnob hXr
                    go_wp2_with fail
                    refine (does_nob8 HNB gp a sa a.b.length sc wr HNO.out hak).mono ?_
                    rintro e Y1 ⟨rfl, hB⟩
                    replace HBr := hide (HBr.out.trans (hB.mono HBr.out.size))
                    replace HNO := hide (HNB.below HNO.out hB)
                    replace HXr := hide (HXr.out.below8 hB)
                    clear hB x0 x1 x2 x3 x4
                    unfold wcs nilW
                    have hA := alloc_below8 Y1 (.cells #[.int .u8 0, .int .u8 0, .slice none 0 0] 39)
                    have hXw := box_new Y1 #[.int .u8 0, .int .u8 0, .slice none 0 0] 39
                    have HBA : Hid (Below X8.heap.size X8 (Y1.alloc (.cells #[.int .u8 0, .int .u8 0, .slice none 0 0] 39))) := hide (HBr.out.trans (hA.mono HBr.out.size))
                    have HNA := hide (HNB.below HNO.out hA)
                    have HXA := hide (HXr.out.below8 hA)
                    have HWA := hide hXw
                    clear hA hXw HBr HNO HXr
                    go_wp2_with fail
                    generalize Y1.alloc (.cells #[.int .u8 0, .int .u8 0, .slice none 0 0] 39) = Y2 at HBA HNA HXA HWA ⊢
                    have HBd : Hid (Below Y2.heap.size Y2 Y2.drew) := hide (Below.refl _ _).drew
                    have s1 : Y2.cell? ⟨w.heap.size, 2, none⟩ = some (.int .u8 (a.to : Int)) := HXA.out.cell 2 _ rfl
                    have t0 : Y2.cell? ⟨Y1.heap.size, 0, none⟩ = some (.int .u8 0) := HWA.out.cell 0 _ rfl
                    have t1 : Y2.cell? ⟨Y1.heap.size, 1, none⟩ = some (.int .u8 0) := HWA.out.cell 1 _ rfl
                    have t2 : Y2.cell? ⟨Y1.heap.size, 2, none⟩ = some (.slice none 0 0) := HWA.out.cell 2 _ rfl
                    have CSM := hide (same8_any nilW (.slice none 0 0) (.slice none 0 0) _ (Lies.nil .u8 Y2.drew) (Lies.nil .u8 Y2.drew))
                    unfold wcs nilW at CSM
                    have HCUR := HBd
                    go_region_held (fun w' => w'.cell? ⟨w.heap.size, 2, none⟩ = some (.int .u8 (a.to : Int)) ∧ w'.cell? ⟨Y1.heap.size, 0, none⟩ = some (.int .u8 0) ∧ w'.cell? ⟨Y1.heap.size, 1, none⟩ = some (.int .u8 0) ∧ w'.cell? ⟨Y1.heap.size, 2, none⟩ = some (.slice none 0 0)) (go_keep) (first
                      | (go_at_call 15; refine CSM.out.mono ?_; rintro e Z1 ⟨rfl, hB⟩; replace HCUR := hide (HCUR.out.trans (hB.mono HCUR.out.size)); have s2 : Z1.cell? ⟨w.heap.size, 2, none⟩ = some (.int .u8 (a.to : Int)) := (HXA.out.below8 HCUR.out).cell 2 _ rfl; have u0 : Z1.cell? ⟨Y1.heap.size, 0, none⟩ = some (.int .u8 0) := (HWA.out.below8 HCUR.out).cell 0 _ rfl; have u1 : Z1.cell? ⟨Y1.heap.size, 1, none⟩ = some (.int .u8 0) := (HWA.out.below8 HCUR.out).cell 1 _ rfl; have u2 : Z1.cell? ⟨Y1.heap.size, 2, none⟩ = some (.slice none 0 0) := (HWA.out.below8 HCUR.out).cell 2 _ rfl; clear hB)
                      | (go_at_call 16; refine (HNB.len (HNB.below HNA.out HCUR.out)).mono ?_; rintro e Z2 ⟨rfl, hB⟩; replace HCUR := hide (HCUR.out.trans (hB.mono HCUR.out.size)); have s3 : Z2.cell? ⟨w.heap.size, 2, none⟩ = some (.int .u8 (a.to : Int)) := (HXA.out.below8 HCUR.out).cell 2 _ rfl; have u0 : Z2.cell? ⟨Y1.heap.size, 0, none⟩ = some (.int .u8 0) := (HWA.out.below8 HCUR.out).cell 0 _ rfl; have u1 : Z2.cell? ⟨Y1.heap.size, 1, none⟩ = some (.int .u8 0) := (HWA.out.below8 HCUR.out).cell 1 _ rfl; have u2 : Z2.cell? ⟨Y1.heap.size, 2, none⟩ = some (.slice none 0 0) := (HWA.out.below8 HCUR.out).cell 2 _ rfl; clear hB)
                      | (go_at_call 17; refine (HNB.los (HNB.below HNA.out HCUR.out)).mono ?_; rintro e Z3 ⟨rfl, hB⟩; replace HCUR := hide (HCUR.out.trans (hB.mono HCUR.out.size)); have s4 : Z3.cell? ⟨w.heap.size, 2, none⟩ = some (.int .u8 (a.to : Int)) := (HXA.out.below8 HCUR.out).cell 2 _ rfl; have u0 : Z3.cell? ⟨Y1.heap.size, 0, none⟩ = some (.int .u8 0) := (HWA.out.below8 HCUR.out).cell 0 _ rfl; have u1 : Z3.cell? ⟨Y1.heap.size, 1, none⟩ = some (.int .u8 0) := (HWA.out.below8 HCUR.out).cell 1 _ rfl; have u2 : Z3.cell? ⟨Y1.heap.size, 2, none⟩ = some (.slice none 0 0) := (HWA.out.below8 HCUR.out).cell 2 _ rfl; clear hB)
                      | (go_at_call 19; refine (HNB.to' a.to (HNB.below HNA.out HCUR.out) hat).mono ?_; rintro e Z4 ⟨u4, rfl, hL4, hB⟩; obtain ⟨a4', c4', hu4⟩ := hL4.shape; subst hu4; replace HCUR := hide (HCUR.out.trans (hB.mono HCUR.out.size)); have s5 : Z4.cell? ⟨w.heap.size, 2, none⟩ = some (.int .u8 (a.to : Int)) := (HXA.out.below8 HCUR.out).cell 2 _ rfl; have u0 : Z4.cell? ⟨Y1.heap.size, 0, none⟩ = some (.int .u8 0) := (HWA.out.below8 HCUR.out).cell 0 _ rfl; have u1 : Z4.cell? ⟨Y1.heap.size, 1, none⟩ = some (.int .u8 0) := (HWA.out.below8 HCUR.out).cell 1 _ rfl; have u2 : Z4.cell? ⟨Y1.heap.size, 2, none⟩ = some (.slice none 0 0) := (HWA.out.below8 HCUR.out).cell 2 _ rfl; clear hB hL4))
                    all_goals go_wp2_with fail
                    all_goals go_roundg g
                    all_goals first
                      | omega
                      | exact ⟨k + 1, by omega, by first | rfl | go_num, hide (HBA.out.trans (HCUR.out.mono HBA.out.size))⟩
end
end Go.Proofs.Yteehkjdolmmapaa
