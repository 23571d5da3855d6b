/-
  Proved: behind a fault nothing is read, and the fault stays, whatever bytes come and whatever fields were read, and are read then (lists that are cut to 200 fields; what is too long is passed by, as the law says). For every input of the form's own reach. Own work.
-/
import Derived.Test.YtkeedioifjabeaaFieldsOpen
import Derived.Test.YtkeedioifjabeaaRead3
import Derived.Deep.RegionHeld
namespace Go.Proofs.Ytkeedioifjabeaa
open Go.ChangeShapes Go.WideShapes Go.ChangeAt Go.RowKit

namespace stays
set_option maxRecDepth 100000 in
set_option maxHeartbeats 6400000 in
theorem walkN (v0 v1 v2 : Value) (bs : List Int) (fs ms : List Fld) (W : World) (hL : Lies .u8 W v0 bs) (hbb : ∀ c ∈ bs, 0 ≤ c ∧ c < 256) (h1 : FLies W v1 fs) (hok1 : ∀ f ∈ fs, f.ok) (h2 : FLies W v2 ms) (hok2 : ∀ f ∈ ms, f.ok) :
    Calls Try.prog 6 #[v0, v1, v2] W fun e w' => e = .returned (.bool true) ∧ Below W.heap.size W w' := by
  have hef := eql_fault
  have hnf := neq_fault
  have hnk := neq_key
  have CL1 := hide (flong_any v1 fs W h1 hok1)
  have CL2 := hide (fun w' (hB : Below W.heap.size W w') => flong_any v2 ms w' (h2.below hB (Nat.le_refl _)) hok2)
  obtain ⟨ao, cap, rfl, hcap, hmax⟩ := h1.shape
  obtain ⟨am, cm, rfl, hcapm, hmaxm⟩ := h2.shape
  have CS1 := hide (fun w => short_any' ao fs.length cap w hcap (by unfold maxLen at hmax; omega))
  have CS2 := hide (fun w => short_any' am ms.length cm w hcapm (by unfold maxLen at hmaxm; omega))
  have hmb := hL.len
  unfold maxLen at hmb
  obtain ⟨ab, cb, rfl⟩ := hL.shape
  have HL := hide hL
  have HF := hide (h1.take (Nat.min_le_left fs.length 200))
  have hm : (fs.take (min fs.length 200)) = fs.take 200 := by
    rw [Nat.min_comm]; exact (List.take_eq_take_min).symm
  rw [hm] at HF
  have HO : Hid (∀ f ∈ fs.take 200, f.ok) := hide (fun f hf => hok1 f (List.mem_of_mem_take hf))
  have hlen : Hid ((fs.take 200).length = min fs.length 200) := hide (by simp [Nat.min_comm])
  have hml : min fs.length 200 ≤ 200 := Nat.min_le_right _ _
  have hmm : min ms.length 200 ≤ 200 := Nat.min_le_right _ _
  clear h1 hok1 h2 hok2 hm hmax hcap hmaxm hcapm hL
  generalize min fs.length 200 = m at *
  generalize fs.take 200 = gs at *
  generalize min ms.length 200 = m2 at *
  generalize hB1 : decide (65536 < ((total gs : Nat) : Int)) = B1 at *
  generalize hB2 : decide (65536 < ((total (ms.take 200) : Nat) : Int)) = B2 at *
  clear hB1 hB2
  by_cases hNb : 65536 < bs.length
  · have hdb : (65536 : Int) < (bs.length : Int) := by omega
    clear HL HF HO hlen CL1 CL2 CS1 CS2
    generalize bs.length = nb at *
    go_enter Try.func6, Try.ntmps6
    go_wp2_with (go_at_call 9; refine (alive_any _).mono ?_; rintro e w2 ⟨rfl, hB2⟩; have HB2 := hide hB2; clear hB2)
    go_ret
    exact ⟨rfl, HB2.out⟩
  have hdb : (bs.length : Int) ≤ 65536 := by omega
  cases B1 with
  | true =>
    clear HL HF HO hlen CL2 CS1 CS2
    generalize bs.length = nb at *
    go_enter Try.func6, Try.ntmps6
    go_wp2_with fail
    refine CL1.out.mono ?_
    rintro e w1 ⟨rfl, hw1⟩
    have HB1 := hide hw1
    clear hw1 CL1
    go_wp2_with (go_at_call 9; refine (alive_any _).mono ?_; rintro e w2 ⟨rfl, hB2⟩; have HB2 := hide hB2; clear hB2)
    go_ret
    exact ⟨rfl, HB1.out.trans (HB2.out.mono HB1.out.size)⟩
  | false =>
    cases B2 with
    | true =>
      clear HL HF HO hlen CS1 CS2
      generalize bs.length = nb at *
      go_enter Try.func6, Try.ntmps6
      go_wp2_with fail
      refine CL1.out.mono ?_
      rintro e w1 ⟨rfl, hw1⟩
      have HB1 := hide hw1
      clear hw1 CL1
      go_wp2_with fail
      refine (CL2.out _ HB1.out).mono ?_
      rintro e w2 ⟨rfl, hw2⟩
      have HB2 := hide (HB1.out.trans (hw2.mono HB1.out.size))
      clear hw2 CL2
      go_wp2_with (go_at_call 9; refine (alive_any _).mono ?_; rintro e w3 ⟨rfl, hB3⟩; have HB3 := hide hB3; clear hB3)
      go_ret
      exact ⟨rfl, HB2.out.trans (HB3.out.mono HB2.out.size)⟩
    | false =>
      go_enter Try.func6, Try.ntmps6
      go_wp2_with fail
      refine CL1.out.mono ?_
      rintro e w1 ⟨rfl, hw1⟩
      have HB1 := hide hw1
      clear hw1 CL1
      go_wp2_with fail
      refine (CL2.out _ HB1.out).mono ?_
      rintro e w2 ⟨rfl, hw2⟩
      have HB2 := hide (HB1.out.trans (hw2.mono HB1.out.size))
      clear hw2 CL2 HB1
      have CN := hide (new_any _ bs w2 (HL.out.below HB2.out) hbb (by omega))
      go_wp2_with fail
      refine CN.out.mono ?_
      rintro e w3 ⟨p, vb, rfl, hCR, hp, hvb, hB3⟩
      have HB3 := hide (HB2.out.trans (hB3.mono HB2.out.size))
      have HCR := hide hCR
      have HP := hide (Nat.le_trans HB2.out.size hp)
      have CR2 := hide (rnew_any _ bs w3 (HL.out.below HB3.out) (by omega))
      clear hCR hp hvb hB3 CN HB2
      go_wp2_with fail
      refine CR2.out.mono ?_
      rintro e w4 ⟨vr, rfl, hor, hB4⟩
      obtain ⟨ar, cr, rfl⟩ := (Lies.of_own hor).shape
      have hba := (Below.refl w4.heap.size w4).alloc (Nat.le_refl _) (.cells #[.slice ar bs.length cr, .int .i64 0, .int .i64 0, .int .i64 0] 60)
      have HT : Hid (TwoR (w4.alloc (.cells #[.slice ar bs.length cr, .int .i64 0, .int .i64 0, .int .i64 0] 60)) p vb w4.heap.size (.slice ar bs.length cr) bs ⟨bs, 0, 0, 0⟩) := hide (by
        have hc4 := HCR.out.below hB4
        refine ⟨hc4.below hba, ⟨0, 0, 0, box_new w4 _ _, owns_any (hor.alloc _), hbb, Nat.zero_le _, by omega⟩, fun _ => rfl, ?_, ?_, ?_⟩
        · have := hc4.box.lt; omega
        · intro e
          have := owns_lt hc4.own e
          omega
        · intro e
          have h5 := (hor.lt _ e).1
          have := HCR.out.box.lt
          omega)
      have HB4 := hide ((HB3.out.trans (hB4.mono HB3.out.size)).alloc (Nat.le_trans HB3.out.size hB4.size) (.cells #[.slice ar bs.length cr, .int .i64 0, .int .i64 0, .int .i64 0] 60))
      have HQ := hide (Nat.le_trans HB3.out.size hB4.size)
      clear hor hB4 hba CR2 HCR HB3
      go_wp2_with fail
      refine (CS1.out _).mono ?_
      rintro e w5 ⟨rfl, hw5⟩
      rw [hw5]
      clear hw5 CS1
      go_wp2_with fail
      generalize w4.alloc (.cells #[.slice ar bs.length cr, .int .i64 0, .int .i64 0, .int .i64 0] 60) = W0 at *
      generalize w4.heap.size = q at *
      generalize (Value.slice ar bs.length cr) = vr at *
      go_loopw [31] (fun i wr => ∃ (k : Nat) (r : RS), k ≤ gs.length ∧ i = .int .i64 k ∧ Hid (TwoR wr p vb q vr bs r) ∧ Hid (Below W.heap.size W wr)) (fun i _ => gs.length - (intOf i).toNat)
      case atStart => exact ⟨0, _, by omega, rfl, HT, HB4⟩
      case round =>
        obtain ⟨k, r, hk, rfl, HR, HB⟩ := hrel
        have hlm := hlen.out
        by_cases hlt : k < gs.length
        · rcases HF.out with ⟨e, _⟩ | ⟨hne, b, off, cap', e, hb, hl, hm2, hc⟩
          · rw [e] at hlt; simp at hlt
          · cases e
            have c0 := (HB.out.cell (p := ⟨b, off + k * 4 + 0, none⟩) hb).trans (hc k hlt 0 (by decide))
            have c1 := (HB.out.cell (p := ⟨b, off + k * 4 + 1, none⟩) hb).trans (hc k hlt 1 (by decide))
            have c2 := (HB.out.cell (p := ⟨b, off + k * 4 + 2, none⟩) hb).trans (hc k hlt 2 (by decide))
            have c3 := (HB.out.cell (p := ⟨b, off + k * 4 + 3, none⟩) hb).trans (hc k hlt 3 (by decide))
            have hfo := hide (HO.out (gs.getD k fld0) (by simp [List.getD, hlt]))
            have CRD := hide (fun w' (h' : TwoR w' p vb q vr bs r) => read_any (gs.getD k fld0) hfo.out w' p vb q vr bs r h')
            generalize gs.getD k fld0 = f at *
            obtain ⟨kd, nn, st, mo⟩ := f
            simp only [fcells, List.getElem?_toArray, List.getElem?_cons_zero, List.getElem?_cons_succ, Nat.add_zero] at c0 c1 c2 c3
            simp only [fcells] at CRD
            have HA1 := hide (HR.out.below ((Below.refl _ _).alloc (Nat.le_refl _) (.cells #[.int .u8 (kd : Nat), .int .u64 (nn : Nat), .string st, .int .i64 mo] 33)))
            have hk200 : k ≤ 200 := by omega
            clear hc hl hm2 hne hfo HR
            go_wp2_with fail
            refine (CRD.out _ HA1.out).mono ?_
            rintro e w6 ⟨⟨bb, rfl⟩, ⟨r6, h6⟩, hk6⟩
            have H6 := hide h6
            have HB6 := hide ((HB.out.alloc HB.out.size (.cells #[.int .u8 (kd : Nat), .int .u64 (nn : Nat), .string st, .int .i64 mo] 33)).trans (hk6.below (Nat.le_trans HB.out.size (by simp)) (fun k hk => by
              rcases hk with e | e
              · rw [e]; exact HP.out
              · rw [e]; exact HQ.out)))
            clear h6 hk6 CRD HA1 c0 c1 c2 c3
            go_wp2_with fail
            go_roundw
            case rel => exact ⟨k + 1, r6, by omega, by go_num, H6, HB6⟩
            case measure => simp [intOf]; omega
        · have hgm : k = m := by omega
          have CE := hide (end_any p vb bs r wr HR.out.cr)
          have HGD := hide HR.out.good
          have HLE := hide (HR.out.cr.len)
          clear HF HO hlen hlm HT HB4 HR
          subst hgm
          go_wp2_with fail
          refine CE.out.mono ?_
          rintro e w7 ⟨rfl, h7, hk7⟩
          have HB7 := hide (HB.out.trans (hk7.below HB.out.size (fun k hk => by rw [hk]; exact HP.out)))
          have HBA := hide (HB7.out.alloc HB7.out.size (.cells #[.int .i64 (endS r).why, .int .i64 ((endS r).fat : Nat)] 50))
          have H7 := hide (h7.below ((Below.refl w7.heap.size w7).alloc (Nat.le_refl _) (.cells #[.int .i64 (endS r).why, .int .i64 ((endS r).fat : Nat)] 50)))
          have HPF := hide (box_new w7 #[.int .i64 (endS r).why, .int .i64 ((endS r).fat : Nat)] 50)
          have hnp : ¬ w7.heap.size = p := by have := h7.box.lt; omega
          clear h7 hk7 CE HB7
          by_cases hw : (endS r).why = 0
          · have hee : endS r = r ∧ leftS r = 0 := by
              unfold endS at hw ⊢
              unfold leftS
              by_cases h0 : r.why ≠ 0
              · rw [if_pos h0] at hw; exact absurd hw h0
              · rw [if_neg h0] at hw ⊢
                rw [if_neg h0]
                by_cases h1 : r.bs = []
                · rw [if_pos h1, h1]; exact ⟨rfl, rfl⟩
                · rw [if_neg h1] at hw; exact absurd hw (by simp [RS.fail])
            have hfat : r.fat = 0 := HGD.out (by rw [hee.1] at hw; exact hw)
            rw [hee.1] at H7 HPF HBA hw ⊢
            have CLF := hide (left_any p vb bs r _ H7.out)
            rw [hee.2] at CLF
            rw [hw, hfat] at CLF ⊢
            have hba := hide HBA.out
            rw [hw, hfat] at hba
            clear hee hfat hw HGD HLE H7 HPF HBA
            go_wp2_with fail
            refine CLF.out.mono ?_
            rintro e w8 ⟨rfl, hB8⟩
            have HB8 := hide (hba.out.trans (hB8.mono hba.out.size))
            clear hB8
            go_wp2_with (go_at_call 9; refine (alive_any _).mono ?_; rintro e w9 ⟨rfl, hB9⟩; have HB9 := hide hB9; clear hB9)
            go_ret
            exact ⟨rfl, HB8.out.trans (HB9.out.mono HB8.out.size)⟩
          · generalize hre : endS r = re at *
            have hwb : (re.why == 0) = false := by simpa using hw
            clear hre HGD HLE
            have C1 := hide (fun w' (h' : CR w' p vb bs re) => crnum_any p vb bs re w' h' 18446744073709551615)
            rw [num_stays hw] at C1
            have C2 := hide (fun w' (h' : CR w' p vb bs re) => crbyte_any p vb bs re w' h')
            rw [byte_stays hw] at C2
            have C3 := hide (fun w' (h' : CR w' p vb bs re) => crbool_any p vb bs re w' h')
            rw [bool_stays hw] at C3
            have C4 := hide (fun w' (h' : CR w' p vb bs re) => crtext_any p vb bs re w' h' 9 (by decide) (by decide))
            rw [text_stays hw] at C4
            have C5 := hide (fun w' (h' : CR w' p vb bs re) => crkey_any p vb bs re w' h')
            rw [key_stays hw] at C5
            have C6 := hide (fun w' (h' : CR w' p vb bs re) => left_any p vb bs re w' h')
            rw [left_stays hw] at C6
            have C7 := hide (fun w' (h' : CR w' p vb bs re) => end_any p vb bs re w' h')
            rw [end_stays hw] at C7
            have C8 := hide (fun w' (h' : CR w' p vb bs re) => fault_any p vb bs re w' h')
            have hrp : ((List.replicate 8 (0 : Int)).map (Value.int .u8)).toArray = #[.int .u8 0, .int .u8 0, .int .u8 0, .int .u8 0, .int .u8 0, .int .u8 0, .int .u8 0, .int .u8 0] := rfl
            simp only [strOfNums_nil, hrp] at C1 C2 C3 C4 C5
            clear hrp hw
            have hm20 : m2 ≤ 200 := hmm
            go_wp2_with fail
            refine (CS2.out _).mono ?_
            rintro e w8 ⟨rfl, hw8⟩
            rw [hw8]
            clear hw8 CS2
            go_wp2_with fail
            generalize w7.alloc (.cells #[.int .i64 re.why, .int .i64 (re.fat : Nat)] 50) = W7 at *
            generalize w7.heap.size = pf at *
            go_loopw [53] (fun i wr => ∃ k : Nat, k ≤ m2 ∧ i = .int .i64 k ∧ Hid (CR wr p vb bs re) ∧ Hid (KeepBut (fun k => k = p) W7 wr)) (fun i _ => m2 - (intOf i).toNat)
            case atStart => exact ⟨0, by omega, rfl, H7, hide (KeepBut.refl _ _)⟩
            case round =>
              obtain ⟨j, hj, rfl, HC, HK⟩ := hrel
              by_cases hjt : j < m2
              · have hpx := HPF.out.keep HK.out hnp
                have x0 := hpx.cell 0 _ rfl
                have x1 := hpx.cell 1 _ rfl
                have HX := hide hpx
                have HD := hide (HC.out.below (Below.refl _ _).drew)
                have HKD := hide ((KeepBut.refl (fun k => k = p) wr).drew)
                clear hpx
                have hjt' : (j : Int) < (m2 : Int) := by omega
                go_wp2_with fail
                go_region_held (fun w' => w'.cell? ⟨pf, 0, none⟩ = some (.int .i64 re.why) ∧ w'.cell? ⟨pf, 1, none⟩ = some (.int .i64 (re.fat : Nat))) (go_keep) (first
                  | (go_at_call 15; refine (C1.out _ HD.out).mono ?_; rintro e y1 ⟨rfl, h1, k1⟩; have HC1 := hide h1; have HK1 := hide (HKD.out.trans k1 (fun _ _ h => h)); have a1 := (HX.out.keep HK1.out hnp).cell 0 _ rfl; have b1 := (HX.out.keep HK1.out hnp).cell 1 _ rfl; clear h1 k1)
                  | (go_at_call 16; refine (C2.out _ HC1.out).mono ?_; rintro e y2 ⟨rfl, h2, k2⟩; have HC2 := hide h2; have HK2 := hide (HK1.out.trans k2 (fun _ _ h => h)); have a2 := (HX.out.keep HK2.out hnp).cell 0 _ rfl; have b2 := (HX.out.keep HK2.out hnp).cell 1 _ rfl; clear h2 k2)
                  | (go_at_call 17; refine (C3.out _ HC2.out).mono ?_; rintro e y3 ⟨rfl, h3, k3⟩; have HC3 := hide h3; have HK3 := hide (HK2.out.trans k3 (fun _ _ h => h)); have a3 := (HX.out.keep HK3.out hnp).cell 0 _ rfl; have b3 := (HX.out.keep HK3.out hnp).cell 1 _ rfl; clear h3 k3)
                  | (go_at_call 18; refine (C4.out _ HC3.out).mono ?_; rintro e y4 ⟨rfl, h4, k4⟩; have HC4 := hide h4; have HK4 := hide (HK3.out.trans k4 (fun _ _ h => h)); have a4 := (HX.out.keep HK4.out hnp).cell 0 _ rfl; have b4 := (HX.out.keep HK4.out hnp).cell 1 _ rfl; clear h4 k4)
                  | (go_at_call 19; refine (C5.out _ HC4.out).mono ?_; rintro e y5 ⟨rfl, h5, k5⟩; have HC5 := hide h5; have HK5 := hide (HK4.out.trans k5 (fun _ _ h => h)); have a5 := (HX.out.keep HK5.out hnp).cell 0 _ rfl; have b5 := (HX.out.keep HK5.out hnp).cell 1 _ rfl; clear h5 k5)
                  | (go_at_call 22; refine (C6.out _ HC5.out).mono ?_; rintro e y6 ⟨rfl, k6⟩; have HC6 := hide (HC5.out.below k6); have HK6 := hide (HK5.out.trans (KeepBut.of_below (fun k => k = p) k6) (fun _ _ h => h)); have a6 := (HX.out.keep HK6.out hnp).cell 0 _ rfl; have b6 := (HX.out.keep HK6.out hnp).cell 1 _ rfl; clear k6)
                  | (go_at_call 23; refine (C7.out _ HC6.out).mono ?_; rintro e y7 ⟨rfl, h7, k7⟩; have HC7 := hide h7; have HK7 := hide (HK6.out.trans k7 (fun _ _ h => h)); have a7 := (HX.out.keep HK7.out hnp).cell 0 _ rfl; have b7 := (HX.out.keep HK7.out hnp).cell 1 _ rfl; clear h7 k7)
                  | (go_at_call 21; refine (C8.out _ HC7.out).mono ?_; rintro e y8 ⟨rfl, k8⟩; have HC8 := hide (HC7.out.below k8); have HK8 := hide (HK7.out.trans (KeepBut.of_below (fun k => k = p) k8) (fun _ _ h => h)); have a8 := (HX.out.keep HK8.out hnp).cell 0 _ rfl; have b8 := (HX.out.keep HK8.out hnp).cell 1 _ rfl; clear k8))
                go_wp2_with fail
                go_roundw
                case rel => exact ⟨j + 1, by omega, by go_num, HC8, hide (HK.out.trans HK8.out (fun _ _ h => h))⟩
                case measure => simp [intOf]; omega
              · have hjm : j = m2 := by omega
                have HBK := hide (HBA.out.trans (HK.out.below HBA.out.size (fun k hk => by rw [hk]; exact HP.out)))
                subst hjm
                clear HK HC
                go_wp2_with (go_at_call 9; refine (alive_any _).mono ?_; rintro e w9 ⟨rfl, hB9⟩; have HB9 := hide hB9; clear hB9)
                go_ret
                exact ⟨rfl, HBK.out.trans (HB9.out.mono HBK.out.size)⟩
end stays
namespace stays
set_option maxRecDepth 100000 in
theorem lifted (os : Os) (started : os.Started) (H : Type) (enc : TypeId × Value → H) :
    ReturnsInHanded {} Try.checked os 6 .any (Rows.codeStaysSpec.pre6 enc Try.prog Try.f6 Rows.codeStaysRow.domain false) (Rows.codeStaysSpec.post enc Try.prog Try.f6 false true false false) := by
  refine returnsInHanded_of_change_sized (C := Try.checked) own started (by kernel_rfl) Try.func6
    (ChangeSpec.witness6 (enc := enc) (C := Try.checked) false ⟨#[], #[.slice none 0 0, .slice none 0 0, .slice none 0 0], []⟩ 8 (by kernel_rfl) (by kernel_rfl) (by kernel_rfl) (by kernel_rfl)) ?_
  intro W base args ds gs before hval0 hW hcnd hsz _
  have hval : ∀ (j : Nat) t v, Try.f6.params[j]? = some t → args[j]? = some v → Value.okWide Try.prog W .any base t v := hval0
  have hW' := hW
  obtain ⟨p, q, hA0, hV, rfl, hfz, hnd⟩ := hW
  have hA : DataW.TrodAll enc Try.prog W 0 (fun _ => true) true Try.f6.params.toList args.toList ds p := hA0
  have hsz2 : ∀ (j : Nat) (t : TypeId) (d : DataW H), Try.f6.params.toList[j]? = some t → ds[j]? = some d → ∀ n ∈ d.weights Try.prog t, n ≤ 140737488351232 := fun j t d ht hd n hn => by
    have h1 := List.all_eq_true.1 hsz n (DataW.weights_mem_each (j := j) (t := t) (d := d) (by rw [List.getElem?_append_left (List.getElem?_eq_some_iff.1 ht).1]; exact ht) (by rw [List.getElem?_append_left (List.getElem?_eq_some_iff.1 hd).1]; exact hd) n hn)
    have h2 : n ≤ reachBytes := by simpa using h1
    have h3 : reachBytes = 140737488351232 := rfl
    omega
  rw [Try.params6] at hA hval hsz2
  obtain ⟨v0, vs0, d0, ds0, p0, q0, hargs, rfl, rfl, h0, r0⟩ := trodAll_cons hA
  obtain ⟨v1, vs1, d1, ds1, p1, q1, rfl, rfl, rfl, h1, r1⟩ := trodAll_cons r0
  obtain ⟨v2, vs2, d2, ds2, p2, q2, rfl, rfl, rfl, h2, r2⟩ := trodAll_cons r1
  obtain ⟨rfl, rfl, rfl⟩ := trodAll_nil r2
  obtain rfl : args = #[v0, v1, v2] := by cases args; simp_all
  obtain ⟨rfl, rfl⟩ := trodVars_none hV
  obtain ⟨a0, len0, cap0, rfl⟩ := okWide_slice Try.underlying25 (hval 0 25 v0 rfl rfl)
  have k0 := h0
  have lt0 : ∀ x ∈ p0, x.block < W.heap.size := by obtain ⟨m, hm⟩ := k0; exact DataW.trod_lt m _ _ _ hm
  obtain ⟨xs0, lies0, by0⟩ := lies_of_trod h0
  obtain ⟨a1, len1, cap1, rfl⟩ := okWide_slice Try.underlying22 (hval 1 22 v1 rfl rfl)
  have k1 := h1
  have lt1 : ∀ x ∈ p1, x.block < W.heap.size := by obtain ⟨m, hm⟩ := k1; exact DataW.trod_lt m _ _ _ hm
  obtain ⟨fs1, lies1, by1, wt1⟩ := flies_of_trod h1
  have sz1 : ∀ f ∈ fs1, f.s.size ≤ 140737488351232 := fun f hf => hsz2 1 22 d1 rfl rfl _ (wt1 f hf)
  obtain ⟨a2, len2, cap2, rfl⟩ := okWide_slice Try.underlying22 (hval 2 22 v2 rfl rfl)
  have k2 := h2
  have lt2 : ∀ x ∈ p2, x.block < W.heap.size := by obtain ⟨m, hm⟩ := k2; exact DataW.trod_lt m _ _ _ hm
  obtain ⟨fs2, lies2, by2, wt2⟩ := flies_of_trod h2
  have sz2 : ∀ f ∈ fs2, f.s.size ≤ 140737488351232 := fun f hf => hsz2 2 22 d2 rfl rfl _ (wt2 f hf)
  clear hA0 hval0
  refine (stays.walkN _ _ _ xs0 fs1 fs2 W lies0 by0 lies1 by1 lies2 by2).mono fun e W' ⟨he, bel⟩ => ?_
  subst he
  exact ⟨_, rfl, _, _, _, [], _, [], hW', trodAll_mk1 (shut_bool Try.underlying4 _), (trodAll_cons_mk (Below.trod laidOut (by kernel_rfl) (of_decide_eq_true (by kernel_rfl)) k0 bel lt0) (trodAll_cons_mk (Below.trod laidOut (by kernel_rfl) (of_decide_eq_true (by kernel_rfl)) k1 bel lt1) (trodAll_cons_mk (Below.trod laidOut (by kernel_rfl) (of_decide_eq_true (by kernel_rfl)) k2 bel lt2) trodAll_mk0))), rfl, bel.frame _, fun h => by cases h⟩

theorem over : Rows.codeStaysRow.holds Try.pinned (OpenSpec.ofChange Rows.codeStaysSpec) :=
  OpenClaim.holds_of_wide 6 Try.f6 rfl rfl rfl rfl rfl rfl rfl ⟨rfl, rfl, rfl, rfl, rfl⟩ rfl rfl rfl rfl rfl (by kernel_rfl) Try.func6 (by kernel_rfl)
    (of_decide_eq_true (by kernel_rfl)) (by unfold Func.isWrapper; first | (rw [if_pos (by decide +kernel)]; kernel_rfl) | (rw [if_neg (by decide +kernel)]; exact ⟨rfl, rfl⟩))
    (fun os started H enc _ => lifted os started H enc)
end stays

/-- THE STATEMENT. -/
theorem codeStays_holds : Rows.CodeStaysSaid := stays.over
#print axioms codeStays_holds
end Go.Proofs.Ytkeedioifjabeaa
