/-
  Proved: whatever fields are written, they are read as they were, in their order, and nothing is left but what stands behind them (a list that is cut to 200 fields; fields that are too long are passed by, as the law says). For every input of the form's own reach. Own work.
-/
import Derived.Test.YtkeedioifjabeaaFieldsOpen
import Derived.Test.YtkeedioifjabeaaPair
import Derived.Test.YtkeedioifjabeaaEqVals
import Derived.Test.YtkeedioifjabeaaBulk
import Derived.Deep.RegionHeld
namespace Go.Proofs.Ytkeedioifjabeaa
open Go.ChangeShapes Go.WideShapes Go.ChangeAt Go.RowKit

theorem both_new (w1 : World) : Both (cwOf w1.heap.size) ((w1.alloc (.cells #[.slice none 0 0] 27)).alloc (.cells #[.slice none 0 0] 29)) (cwF w1.heap.size (.slice none 0 0)) (w1.heap.size + 1) (.slice none 0 0) [] := by
  have hb := boxes_two w1 #[.slice none 0 0] #[.slice none 0 0] 27 29
  refine ⟨⟨.slice none 0 0, ⟨hb.1, World.ownsRow_nil _ _ _ _⟩, fun _ => Iff.rfl⟩, ⟨hb.2, World.ownsRow_nil _ _ _ _⟩, fun k hk => ⟨?_, fun e => by cases e⟩⟩
  rcases hk with e | e
  · omega
  · cases e
theorem allB_drop (gs : List Fld) (k : Nat) (h : k < gs.length) : allB (gs.drop k) = fieldB (gs.getD k fld0) ++ allB (gs.drop (k + 1)) := by
  unfold allB
  rw [List.drop_eq_getElem_cons h, List.flatMap_cons]
  simp [List.getD, h]
theorem fieldB_byte (f : Fld) : ∀ c ∈ fieldB f, 0 ≤ c ∧ c < 256 := by
  intro c hc
  unfold fieldB at hc
  split at hc
  · exact shortS_bytes f.n c hc
  · split at hc
    · simp at hc; omega
    · split at hc
      · simp at hc
        split at hc <;> omega
      · split at hc
        · rw [List.mem_append] at hc
          rcases hc with h | h
          · exact shortS_bytes _ c h
          · exact strI_byte _ c h
        · exact keyI_byte _ c hc
theorem allB_byte (fs : List Fld) : ∀ c ∈ allB fs, 0 ≤ c ∧ c < 256 := by
  intro c hc
  unfold allB at hc
  rw [List.mem_flatMap] at hc
  obtain ⟨f, _, hcf⟩ := hc
  exact fieldB_byte f c hcf
theorem odd_if (nn : Nat) : (if nn % 2 = 1 then (1 : Int) else 0) = if ((nn : Int) % 2 == 1) = true then 1 else 0 := by
  have : (((nn : Int) % 2 == 1) = true) ↔ nn % 2 = 1 := by simp; omega
  simp only [this]
namespace back
set_option maxRecDepth 100000 in
set_option maxHeartbeats 6400000 in
theorem walkN (v v1 : Value) (fs : List Fld) (bh : List Int) (W : World) (h : FLies W v fs) (hok : ∀ f ∈ fs, f.ok) (hR : ∀ f ∈ fs, f.s.size ≤ 140737488351232) (hL : Lies .u8 W v1 bh) (hbh : ∀ c ∈ bh, 0 ≤ c ∧ c < 256) :
    Calls Try.prog 4 #[v, v1] W fun e w' => e = .returned (.bool true) ∧ Below W.heap.size W w' := by
  have hef := eql_fault
  have hek := eql_key
  have CL := hide (flong_any v fs W h hok)
  obtain ⟨ao, cap, rfl, hcap, hmax⟩ := h.shape
  have CS := hide (fun w => short_any' ao fs.length cap w hcap (by unfold maxLen at hmax; omega))
  have hmb := hL.len
  unfold maxLen at hmb
  obtain ⟨ab, cb, rfl⟩ := hL.shape
  have HLB := hide hL
  have HF := hide (h.take (Nat.min_le_left fs.length 200))
  have hm : (fs.take (min fs.length 200)) = fs.take 200 := by
    rw [Nat.min_comm]; exact (List.take_eq_take_min).symm
  rw [hm] at HF
  have HO : Hid (∀ f ∈ fs.take 200, f.ok) := hide (fun f hf => hok f (List.mem_of_mem_take hf))
  have HR : Hid (∀ f ∈ fs.take 200, f.s.size ≤ 140737488351232) := hide (fun f hf => hR f (List.mem_of_mem_take hf))
  have hlen : Hid ((fs.take 200).length = min fs.length 200) := hide (by simp [Nat.min_comm])
  have hml : min fs.length 200 ≤ 200 := Nat.min_le_right _ _
  clear h hok hR hm hmax hcap hL
  generalize min fs.length 200 = m at *
  generalize fs.take 200 = gs at *
  by_cases hT : 65536 < ((total gs : Nat) : Int)
  · have hd : decide (65536 < ((total gs : Nat) : Int)) = true := by simpa using hT
    rw [hd] at CL
    clear hd CS HF HO HR hlen hml hT HLB
    generalize bh.length = nb at *
    go_enter Try.func4, Try.ntmps4
    go_wp2_with fail
    refine CL.out.mono ?_
    rintro e w1 ⟨rfl, hB1⟩
    have HB1 := hide hB1
    clear hB1 CL
    go_wp2_with (go_at_call 9; refine (alive_any _).mono ?_; rintro e w2 ⟨rfl, hB2⟩; have HB2 := hide hB2; clear hB2)
    go_ret
    exact ⟨rfl, HB1.out.trans (HB2.out.mono HB1.out.size)⟩
  have hd : decide (65536 < ((total gs : Nat) : Int)) = false := by simpa using hT
  rw [hd] at CL
  by_cases hNb : 65536 < bh.length
  · have hdb : (65536 : Int) < (bh.length : Int) := by omega
    clear hd CS HF HO HR hlen hml hT HLB
    generalize bh.length = nb at *
    go_enter Try.func4, Try.ntmps4
    go_wp2_with fail
    refine CL.out.mono ?_
    rintro e w1 ⟨rfl, hB1⟩
    have HB1 := hide hB1
    clear hB1 CL
    go_wp2_with (go_at_call 9; refine (alive_any _).mono ?_; rintro e w2 ⟨rfl, hB2⟩; have HB2 := hide hB2; clear hB2)
    go_ret
    exact ⟨rfl, HB1.out.trans (HB2.out.mono HB1.out.size)⟩
  · have hdb : (bh.length : Int) ≤ 65536 := by omega
    have HT : Hid (total gs ≤ 65536) := hide (by omega)
    have HRM := hide (fun k hk => room_at 140737488351232 (by decide) (by decide) gs (by rw [hlen.out]; exact hml) HO.out HT.out HR.out k hk)
    have HRE := hide (room_end 140737488351232 (by decide) gs (by rw [hlen.out]; exact hml) HO.out HT.out HR.out)
    clear hd hT HT
    go_enter Try.func4, Try.ntmps4
    go_wp2_with fail
    refine CL.out.mono ?_
    rintro e w1 ⟨rfl, hB1⟩
    have HB1 := hide hB1
    clear hB1 CL
    go_wp2_with fail
    have hA : Hid (Both (cwOf w1.heap.size) ((w1.alloc (.cells #[.slice none 0 0] 27)).alloc (.cells #[.slice none 0 0] 29)) (cwF w1.heap.size (.slice none 0 0)) (w1.heap.size + 1) (.slice none 0 0) []) := hide (both_new w1)
    have hB2 : Hid (Below W.heap.size W ((w1.alloc (.cells #[.slice none 0 0] 27)).alloc (.cells #[.slice none 0 0] 29))) := hide ((HB1.out.alloc HB1.out.size _).alloc (Nat.le_trans HB1.out.size (by simp)) _)
    have hs1 := hide HB1.out.size
    have hpn : Hid (W.heap.size ≤ w1.heap.size + 1) := hide (by have := HB1.out.size; omega)
    have hF0 : Hid (∀ k, cwF w1.heap.size (.slice none 0 0) k → W.heap.size ≤ k) := hide (fun k hk => by
      rcases hk with e | e
      · rw [e]; exact hs1.out
      · cases e)
    refine (CS.out _).mono ?_
    rintro e w2 ⟨rfl, hw⟩
    rw [hw]
    clear hw HB1
    generalize (w1.alloc (.cells #[.slice none 0 0] 27)).alloc (.cells #[.slice none 0 0] 29) = W0 at *
    generalize cwF w1.heap.size (.slice none 0 0) = F0 at *
    generalize w1.heap.size + 1 = p at *
    generalize w1.heap.size = pc at *
    go_wp2_with fail
    go_loopw [24] (fun i wr => ∃ (k : Nat) (F : Nat → Prop) (v' : Value), k ≤ gs.length ∧ i = .int .i64 k ∧ Hid (Both (cwOf pc) wr F p v' (allB (gs.take k))) ∧ Hid (Below W.heap.size W wr) ∧ Hid (∀ k, F k → W.heap.size ≤ k) ∧ Hid (∀ g, v'.ownBlock = some g → W.heap.size ≤ g)) (fun i _ => gs.length - (intOf i).toNat)
    case atStart => exact ⟨0, F0, .slice none 0 0, by omega, rfl, hA, hB2, hF0, hide (fun g hg => by cases hg)⟩
    case round =>
      obtain ⟨k, F, v', hk, rfl, HA, HB, HFF, HV⟩ := hrel
      have hlm := hlen.out
      by_cases hlt : k < gs.length
      · rcases HF.out with ⟨e, _⟩ | ⟨hne, b, off, cap', e, hb, hl, hm2, hc⟩
        · rw [e] at hlt; simp at hlt
        · cases e
          have c0 := (HB.out.cell (p := ⟨b, off + k * 4 + 0, none⟩) hb).trans (hc k hlt 0 (by decide))
          have c1 := (HB.out.cell (p := ⟨b, off + k * 4 + 1, none⟩) hb).trans (hc k hlt 1 (by decide))
          have c2 := (HB.out.cell (p := ⟨b, off + k * 4 + 2, none⟩) hb).trans (hc k hlt 2 (by decide))
          have c3 := (HB.out.cell (p := ⟨b, off + k * 4 + 3, none⟩) hb).trans (hc k hlt 3 (by decide))
          have HN := hide (allB_snoc gs k hlt)
          have hroom := hide (HRM.out k hlt)
          have hfo := hide (HO.out (gs.getD k fld0) (by simp [List.getD, hlt]))
          have CW1 := hide (fun w' (h' : Both (cwOf pc) w' F p v' (allB (gs.take k))) => write_any (cwOf pc) (gs.getD k fld0) hfo.out w' F p v' (allB (gs.take k)) h' hroom.out)
          generalize gs.getD k fld0 = f at *
          obtain ⟨kd, nn, st, mo⟩ := f
          simp only [fcells, List.getElem?_toArray, List.getElem?_cons_zero, List.getElem?_cons_succ, Nat.add_zero] at c0 c1 c2 c3
          simp only [fcells] at CW1
          have HA1 := hide (HA.out.alloc (.cells #[.int .u8 (kd : Nat), .int .u64 (nn : Nat), .string st, .int .i64 mo] 33))
          have hk200 : k ≤ 200 := by omega
          clear hc hl hm2 hne hfo hroom
          go_wp2_with fail
          refine (CW1.out _ HA1.out).mono ?_
          rintro e w3 ⟨rfl, F', v3, hA3, hK3, hF3, hV3⟩
          have HA3 := hide hA3
          rw [← HN.out] at HA3
          have HB3 := hide ((HB.out.alloc HB.out.size (.cells #[.int .u8 (kd : Nat), .int .u64 (nn : Nat), .string st, .int .i64 mo] 33)).trans (hK3.below (Nat.le_trans HB.out.size (by simp)) (fun k hk => by
            rcases hk with e | e | e
            · exact HFF.out k e
            · rw [e]; exact hpn.out
            · exact HV.out k e)))
          have HF3 : Hid (∀ k, F' k → W.heap.size ≤ k) := hide (fun k hk => (hF3 k hk).elim (HFF.out k) (fun h => Nat.le_trans (Nat.le_trans HB.out.size (by simp)) h))
          have HV3 : Hid (∀ g, v3.ownBlock = some g → W.heap.size ≤ g) := hide (fun g hg => (hV3 g hg).elim (HV.out g) (fun h => Nat.le_trans (Nat.le_trans HB.out.size (by simp)) h))
          clear hA3 hK3 hF3 hV3 CW1 HA1 c0 c1 c2 c3
          go_wp2_with fail
          go_roundw
          case rel => exact ⟨k + 1, F', v3, by omega, by go_num, HA3, HB3, HF3, HV3⟩
          case measure => simp [intOf]; omega
      · have HE : Hid (gs.take k = gs) := hide (List.take_of_length_le (by omega))
        rw [HE.out] at HA
        have hr := HRE.out
        obtain ⟨vc, hcw, _⟩ := HA.out.c
        have CBY := hide (cwbytes_any pc vc (allB gs) wr hcw (by omega))
        have hlm2 : decide ((k : Int) < (m : Int)) = false := by simp; omega
        have hgm : k = m := by omega
        have HBL := hide HB.out
        have hsW := hide HB.out.size
        clear hcw HRM HE HA HB hA hB2 hF0 HFF HV hs1 hpn
        subst hgm
        go_wp2_with fail
        refine CBY.out.mono ?_
        rintro e w5 ⟨v5, rfl, ho5, hB5⟩
        have HB5 := hide (HBL.out.trans (hB5.mono HBL.out.size))
        have HO5 := hide ho5
        have HLB5 := hide (HLB.out.below HB5.out)
        have hs5 := hide hB5.size
        clear ho5 hB5 CBY HBL
        go_wp2_with (at_builtin; refine append_lies _ rfl _ _ rfl wr.heap.size _ _ _ (allB gs) bh rfl HO5.out rfl HLB5.out (by omega) hs5.out ?_; intro v6 w6 hown6 hgrow6; have hB6 := (Below.refl wr.heap.size w5).grown hgrow6 hs5.out (fun k hk => (HO5.out.lt k hk).1); have HL6 := hide (Lies.of_own hown6); have HB6 := hide (HB5.out.trans (hB6.mono hsW.out)); clear hown6 hgrow6 hB6)
        have HX6 : Hid (∀ c ∈ allB gs ++ bh, 0 ≤ c ∧ c < 256) := hide (fun c hc => by
          rcases List.mem_append.1 hc with h | h
          · exact allB_byte gs c h
          · exact hbh c h)
        have HLN : Hid ((allB gs ++ bh).length ≤ 200000000000000) := hide (by rw [List.length_append]; omega)
        have CN := hide (new_any v6 (allB gs ++ bh) w6 HL6.out HX6.out HLN.out)
        clear HO5 HLB5 hs5 HL6 HB5 hlm2
        go_wp2_with fail
        refine CN.out.mono ?_
        rintro e w7 ⟨p7, vb, rfl, hCR, hp7, hvb, hB7⟩
        have HB7 := hide (HB6.out.trans (hB7.mono HB6.out.size))
        have HCR0 : Hid (CR w7 p7 vb (allB gs ++ bh) ⟨allB (gs.drop 0) ++ bh, (allB (gs.take 0)).length, 0, 0⟩) := hide (by simpa [allB] using hCR)
        have HP7 := hide (Nat.le_trans HB6.out.size hp7)
        have HS7 := hide (CS.out w7)
        clear hCR hp7 hvb hB7 CN HB6 HX6 HLN
        go_wp2_with fail
        refine HS7.out.mono ?_
        rintro e w8 ⟨rfl, hw8⟩
        rw [hw8]
        clear hw8 HS7 CS
        go_wp2_with fail
        go_loopw [38] (fun i wr => ∃ k : Nat, k ≤ gs.length ∧ i = .int .i64 k ∧ Hid (CR wr p7 vb (allB gs ++ bh) ⟨allB (gs.drop k) ++ bh, (allB (gs.take k)).length, 0, 0⟩) ∧ Hid (Below W.heap.size W wr)) (fun i _ => gs.length - (intOf i).toNat)
        case atStart => exact ⟨0, by omega, rfl, HCR0, HB7⟩
        case round =>
          obtain ⟨j, hj, rfl, HC, HB⟩ := hrel
          by_cases hjt : j < gs.length
          · rcases HF.out with ⟨e, _⟩ | ⟨hne, b, off, cap', e, hb, hl, hm2, hc⟩
            · rw [e] at hjt; simp at hjt
            · cases e
              have c0 := (HB.out.cell (p := ⟨b, off + j * 4 + 0, none⟩) hb).trans (hc j hjt 0 (by decide))
              have c1 := (HB.out.cell (p := ⟨b, off + j * 4 + 1, none⟩) hb).trans (hc j hjt 1 (by decide))
              have c2 := (HB.out.cell (p := ⟨b, off + j * 4 + 2, none⟩) hb).trans (hc j hjt 2 (by decide))
              have c3 := (HB.out.cell (p := ⟨b, off + j * 4 + 3, none⟩) hb).trans (hc j hjt 3 (by decide))
              have HD := hide (allB_drop gs j hjt)
              have HN := hide (allB_snoc gs j hjt)
              have hfo := HO.out (gs.getD j fld0) (by simp [List.getD, hjt])
              have hfr := HR.out (gs.getD j fld0) (by simp [List.getD, hjt])
              generalize gs.getD j fld0 = f at *
              obtain ⟨kd, nn, st, mo⟩ := f
              simp only [fcells, List.getElem?_toArray, List.getElem?_cons_zero, List.getElem?_cons_succ, Nat.add_zero] at c0 c1 c2 c3
              have hkd : kd < 256 := hfo.kind
              have hnn : nn < 18446744073709551616 := hfo.n
              have hss : st.size ≤ 140737488351232 := hfr
              rw [HD.out] at HC
              have HBA := hide (HB.out.alloc HB.out.size (.cells #[.int .u8 (kd : Nat), .int .u64 (nn : Nat), .string st, .int .i64 mo] 33))
              have HCA := hide (HC.out.below ((Below.refl _ _).alloc (Nat.le_refl _) (.cells #[.int .u8 (kd : Nat), .int .u64 (nn : Nat), .string st, .int .i64 mo] 33)))
              have HBX := hide (box_new wr #[.int .u8 (kd : Nat), .int .u64 (nn : Nat), .string st, .int .i64 mo] 33)
              have hpn : ¬ wr.heap.size = p7 := by have := HC.out.box.lt; omega
              have hpn2 : ¬ p7 = wr.heap.size := by omega
              have hmod : ((kd : Int) % 5) = ((kd % 5 : Nat) : Int) := by omega
              have h5 : kd % 5 < 5 := by omega
              have e5 : kd % 5 = 0 ∨ kd % 5 = 1 ∨ kd % 5 = 2 ∨ kd % 5 = 3 ∨ kd % 5 = 4 := by omega
              have hj200 : j ≤ 200 := by omega
              clear hc hl hm2 hne hfo HC
              rcases e5 with e5 | e5 | e5 | e5 | e5
              · have HFB : Hid (fieldB ⟨kd, nn, st, mo⟩ = shortS nn) := hide (by unfold fieldB; simp only [e5]; rfl)
                rw [e5] at hmod
                clear e5 h5
                have HE := num_back nn hnn (allB (gs.drop (j + 1)) ++ bh) (allB (gs.take j)).length 18446744073709551615 (by omega) 0
                skip
                rw [HFB.out, List.append_assoc] at HCA
                rw [HFB.out] at HN
                have CRD := hide (fun w' (h' : CR w' p7 vb (allB gs ++ bh) ⟨shortS nn ++ (allB (gs.drop (j + 1)) ++ bh), (allB (gs.take j)).length, 0, 0⟩) => crnum_any p7 vb _ _ w' h' 18446744073709551615)
                rw [HE] at CRD
                skip
                have HCD := hide (HCA.out.below (Below.refl _ _).drew)
                have hx1 := HBX.out.cell 1 _ rfl
                clear HE
                go_wp2_with fail
                go_region_held (fun w' => w'.cell? ⟨wr.heap.size, 1, none⟩ = some (.int .u64 (nn : Nat))) (go_keep) ((go_at_call 15; refine (CRD.out _ HCD.out).mono ?_; rintro e w9 ⟨rfl, h9, hk9⟩; have hx9 := (HBX.out.keep ((KeepBut.refl (fun k => k = p7) _).drew.trans hk9 (fun _ _ h => h)) hpn).cell 1 _ rfl; have H9 := hide h9; have HB9 := hide (HBA.out.drew.trans (hk9.below HBA.out.size (fun k hk => by rw [hk]; exact HP7.out))); clear h9 hk9))
                go_wp2_with fail
                go_roundw
                case rel => exact ⟨j + 1, by omega, by go_num, hide (by rw [HN.out, List.length_append]; exact H9.out), HB9⟩
                case measure => simp [intOf]; omega
              · have HFB : Hid (fieldB ⟨kd, nn, st, mo⟩ = [(nn : Int) % 256]) := hide (by unfold fieldB; simp only [e5]; exact congrArg (fun x => [x]) (by omega))
                rw [e5] at hmod
                clear e5 h5
                have HE := byte_back ((nn : Int) % 256) (allB (gs.drop (j + 1)) ++ bh) (allB (gs.take j)).length 0
                skip
                rw [HFB.out, List.append_assoc] at HCA
                rw [HFB.out] at HN
                have CRD := hide (fun w' (h' : CR w' p7 vb (allB gs ++ bh) ⟨[(nn : Int) % 256] ++ (allB (gs.drop (j + 1)) ++ bh), (allB (gs.take j)).length, 0, 0⟩) => crbyte_any p7 vb _ _ w' h')
                rw [HE] at CRD
                have hw8 : IntKind.u8.wrap (nn : Int) = (nn : Int) % 256 := IntKind.wrap_u8 _
                have HCD := hide (HCA.out.below (Below.refl _ _).drew)
                have hx1 := HBX.out.cell 1 _ rfl
                clear HE
                go_wp2_with fail
                go_region_held (fun w' => w'.cell? ⟨wr.heap.size, 1, none⟩ = some (.int .u64 (nn : Nat))) (go_keep) ((go_at_call 16; refine (CRD.out _ HCD.out).mono ?_; rintro e w9 ⟨rfl, h9, hk9⟩; have hx9 := (HBX.out.keep ((KeepBut.refl (fun k => k = p7) _).drew.trans hk9 (fun _ _ h => h)) hpn).cell 1 _ rfl; have H9 := hide h9; have HB9 := hide (HBA.out.drew.trans (hk9.below HBA.out.size (fun k hk => by rw [hk]; exact HP7.out))); clear h9 hk9))
                go_wp2_with fail
                go_roundw
                case rel => exact ⟨j + 1, by omega, by go_num, hide (by rw [HN.out, List.length_append]; simpa using H9.out), HB9⟩
                case measure => simp [intOf]; omega
              · have HFB : Hid (fieldB ⟨kd, nn, st, mo⟩ = [if ((nn : Int) % 2 == 1) = true then 1 else 0]) := hide (by unfold fieldB; simp only [e5]; exact congrArg (fun x => [x]) (odd_if nn))
                rw [e5] at hmod
                clear e5 h5
                have HE := bool_back ((nn : Int) % 2 == 1) (allB (gs.drop (j + 1)) ++ bh) (allB (gs.take j)).length 0
                skip
                rw [HFB.out, List.append_assoc] at HCA
                rw [HFB.out] at HN
                have CRD := hide (fun w' (h' : CR w' p7 vb (allB gs ++ bh) ⟨[if ((nn : Int) % 2 == 1) = true then 1 else 0] ++ (allB (gs.drop (j + 1)) ++ bh), (allB (gs.take j)).length, 0, 0⟩) => crbool_any p7 vb _ _ w' h')
                rw [HE] at CRD
                have htm : Int.tmod (nn : Int) 2 = (nn : Int) % 2 := Int.tmod_eq_emod_of_nonneg (by omega)
                have HCD := hide (HCA.out.below (Below.refl _ _).drew)
                have hx1 := HBX.out.cell 1 _ rfl
                clear HE
                go_wp2_with fail
                go_region_held (fun w' => w'.cell? ⟨wr.heap.size, 1, none⟩ = some (.int .u64 (nn : Nat))) (go_keep) ((go_at_call 17; refine (CRD.out _ HCD.out).mono ?_; rintro e w9 ⟨rfl, h9, hk9⟩; have hx9 := (HBX.out.keep ((KeepBut.refl (fun k => k = p7) _).drew.trans hk9 (fun _ _ h => h)) hpn).cell 1 _ rfl; have H9 := hide h9; have HB9 := hide (HBA.out.drew.trans (hk9.below HBA.out.size (fun k hk => by rw [hk]; exact HP7.out))); clear h9 hk9))
                go_wp2_with fail
                go_roundw
                case rel => exact ⟨j + 1, by omega, by go_num, hide (by rw [HN.out, List.length_append]; simpa using H9.out), HB9⟩
                case measure => simp [intOf]; omega
              · have HFB : Hid (fieldB ⟨kd, nn, st, mo⟩ = shortS st.size ++ strI st) := hide (by unfold fieldB; simp only [e5]; rfl)
                rw [e5] at hmod
                clear e5 h5
                have HE := text_back (strI st) (by rw [strI_length]; omega) (allB (gs.drop (j + 1)) ++ bh) (allB (gs.take j)).length 0
                rw [strI_length] at HE
                rw [HFB.out, List.append_assoc] at HCA
                rw [HFB.out] at HN
                have CRD := hide (fun w' (h' : CR w' p7 vb (allB gs ++ bh) ⟨shortS st.size ++ strI st ++ (allB (gs.drop (j + 1)) ++ bh), (allB (gs.take j)).length, 0, 0⟩) => crtext_any p7 vb _ _ w' h' (st.size : Nat) (by omega) (by omega))
                rw [HE] at CRD
                simp only [strOf_strI] at CRD
                skip
                have HCD := hide (HCA.out.below (Below.refl _ _).drew)
                have hx1 := HBX.out.cell 2 _ rfl
                clear HE
                go_wp2_with fail
                go_region_held (fun w' => w'.cell? ⟨wr.heap.size, 2, none⟩ = some (.string st)) (go_keep) ((go_at_call 18; refine (CRD.out _ HCD.out).mono ?_; rintro e w9 ⟨rfl, h9, hk9⟩; have hx9 := (HBX.out.keep ((KeepBut.refl (fun k => k = p7) _).drew.trans hk9 (fun _ _ h => h)) hpn).cell 2 _ rfl; have H9 := hide h9; have HB9 := hide (HBA.out.drew.trans (hk9.below HBA.out.size (fun k hk => by rw [hk]; exact HP7.out))); clear h9 hk9))
                go_wp2_with fail
                go_roundw
                case rel => exact ⟨j + 1, by omega, by go_num, hide (by rw [HN.out, List.length_append]; simpa [Nat.add_assoc, strI_length] using H9.out), HB9⟩
                case measure => simp [intOf]; omega
              · have HFB : Hid (fieldB ⟨kd, nn, st, mo⟩ = keyI st) := hide (by unfold fieldB; simp only [e5]; rfl)
                rw [e5] at hmod
                clear e5 h5
                have HE := key_back (keyI st) (keyI_length st) (allB (gs.drop (j + 1)) ++ bh) (allB (gs.take j)).length 0
                rw [HFB.out, List.append_assoc] at HCA
                rw [HFB.out] at HN
                have CRD := hide (fun w' (h' : CR w' p7 vb (allB gs ++ bh) ⟨keyI st ++ (allB (gs.drop (j + 1)) ++ bh), (allB (gs.take j)).length, 0, 0⟩) => crkey_any p7 vb _ _ w' h')
                rw [HE] at CRD
                have CKY := hide (fun w' => key_any st w' (by omega))
                obtain ⟨k0, k1, k2, k3, k4, k5, k6, k7, hK⟩ := eight _ (keyI_length st)
                have HK8 := hide (keyI_length st)
                rw [hK] at HCA HN CRD CKY
                simp only [List.map_cons, List.map_nil] at CRD CKY
                have HCD := hide (HCA.out.below (Below.refl _ _).drew)
                have hx1 := HBX.out.cell 2 _ rfl
                clear HE hK
                go_wp2_with fail
                go_region_held (fun w' => w'.cell? ⟨wr.heap.size, 2, none⟩ = some (.string st)) (go_keep) (first
                  | (go_at_call 19; refine (CRD.out _ HCD.out).mono ?_; rintro e w9 ⟨rfl, h9, hk9⟩; have hbx9 := HBX.out.keep ((KeepBut.refl (fun k => k = p7) _).drew.trans hk9 (fun _ _ h => h)) hpn; have hx9 := hbx9.cell 2 _ rfl; have HX9 := hide hbx9; have H9 := hide h9; have HB9 := hide (HBA.out.drew.trans (hk9.below HBA.out.size (fun k hk => by rw [hk]; exact HP7.out))); clear h9 hk9 hbx9)
                  | (go_at_call 20; refine (CKY.out _).mono ?_; rintro e w10 ⟨rfl, hB10⟩; have hx10 := (HX9.out.keep (KeepBut.of_below (fun _ => False) hB10) (fun h => h)).cell 2 _ rfl; have H10 := hide (H9.out.below hB10); have HB10 := hide (HB9.out.trans (hB10.mono HB9.out.size)); clear hB10))
                go_wp2_with fail
                go_roundw
                case rel => exact ⟨j + 1, by omega, by go_num, hide (by rw [HN.out, List.length_append]; simpa using H10.out), HB10⟩
                case measure => simp [intOf]; omega
          · have HE2 : Hid (gs.drop j = []) := hide (List.drop_eq_nil_of_le (by omega))
            have HE3 : Hid (gs.take j = gs) := hide (List.take_of_length_le (by omega))
            rw [HE2.out, HE3.out] at HC
            have HCE : Hid (CR wr p7 vb (allB gs ++ bh) ⟨bh, (allB gs).length, 0, 0⟩) := hide (by simpa [allB] using HC.out)
            have hge : decide ((j : Int) < (gs.length : Int)) = false := by simp; omega
            have hgl : gs.length = k := by have := hlen.out; omega
            have hge2 : decide ((j : Int) < (k : Int)) = false := by simp; omega
            have CF := hide (fun w' (h' : CR w' p7 vb (allB gs ++ bh) ⟨bh, (allB gs).length, 0, 0⟩) => fault_any p7 vb _ _ w' h')
            have CLF := hide (fun w' (h' : CR w' p7 vb (allB gs ++ bh) ⟨bh, (allB gs).length, 0, 0⟩) => left_any p7 vb _ _ w' h')
            have CE := hide (fun w' (h' : CR w' p7 vb (allB gs ++ bh) ⟨bh, (allB gs).length, 0, 0⟩) => end_any p7 vb _ _ w' h')
            have hlf : leftS ⟨bh, (allB gs).length, 0, 0⟩ = bh.length := rfl
            rw [hlf] at CLF
            clear hlf HE2 HE3 HC HF HO
            by_cases h0 : bh = []
            · have hen : endS ⟨bh, (allB gs).length, 0, 0⟩ = ⟨bh, (allB gs).length, 0, 0⟩ := by unfold endS; simp [h0]
              rw [hen] at CE
              simp only at CE CF
              have hnb : bh.length = 0 := by rw [h0]; rfl
              clear hen h0
              generalize bh.length = nb at *
              subst hnb
              go_wp2_with fail
              refine (CF.out _ HCE.out).mono ?_
              rintro e w10 ⟨rfl, hB10⟩
              have H10 := hide (HCE.out.below hB10)
              have HB10 := hide (HB.out.trans (hB10.mono HB.out.size))
              clear hB10
              go_wp2_with fail
              refine (CLF.out _ H10.out).mono ?_
              rintro e w11 ⟨rfl, hB11⟩
              have H11 := hide (H10.out.below hB11)
              have HB11 := hide (HB10.out.trans (hB11.mono HB10.out.size))
              clear hB11
              go_wp2_with fail
              refine (CE.out _ H11.out).mono ?_
              rintro e w12 ⟨rfl, h12, hk12⟩
              have HB12 := hide (HB11.out.trans (hk12.below HB11.out.size (fun k hk => by rw [hk]; exact HP7.out)))
              clear h12 hk12
              go_wp2_with (go_at_call 9; refine (alive_any _).mono ?_; rintro e w13 ⟨rfl, hB13⟩; have HB13 := hide hB13; clear hB13)
              go_ret
              exact ⟨rfl, HB12.out.trans (HB13.out.mono HB12.out.size)⟩
            · have hen : endS ⟨bh, (allB gs).length, 0, 0⟩ = ⟨bh, (allB gs).length, 3, (allB gs).length⟩ := by unfold endS; simp [h0, RS.fail]
              rw [hen] at CE
              simp only at CE CF
              have hnb : ((bh.length : Int) == 0) = false := by
                have := List.length_pos_iff.2 h0
                simp; omega
              clear hen h0
              generalize bh.length = nb at *
              go_wp2_with fail
              refine (CF.out _ HCE.out).mono ?_
              rintro e w10 ⟨rfl, hB10⟩
              have H10 := hide (HCE.out.below hB10)
              have HB10 := hide (HB.out.trans (hB10.mono HB.out.size))
              clear hB10
              go_wp2_with fail
              refine (CLF.out _ H10.out).mono ?_
              rintro e w11 ⟨rfl, hB11⟩
              have H11 := hide (H10.out.below hB11)
              have HB11 := hide (HB10.out.trans (hB11.mono HB10.out.size))
              clear hB11
              go_wp2_with fail
              refine (CE.out _ H11.out).mono ?_
              rintro e w12 ⟨rfl, h12, hk12⟩
              have HB12 := hide (HB11.out.trans (hk12.below HB11.out.size (fun k hk => by rw [hk]; exact HP7.out)))
              clear h12 hk12
              go_wp2_with (go_at_call 9; refine (alive_any _).mono ?_; rintro e w13 ⟨rfl, hB13⟩; have HB13 := hide hB13; clear hB13)
              go_ret
              exact ⟨rfl, HB12.out.trans (HB13.out.mono HB12.out.size)⟩
end back
namespace back
set_option maxRecDepth 100000 in
theorem lifted (os : Os) (started : os.Started) (H : Type) (enc : TypeId × Value → H) :
    ReturnsInHanded {} Try.checked os 4 .any (Rows.codeBackSpec.pre6 enc Try.prog Try.f4 Rows.codeBackRow.domain false) (Rows.codeBackSpec.post enc Try.prog Try.f4 false true false false) := by
  refine returnsInHanded_of_change_sized (C := Try.checked) own started (by kernel_rfl) Try.func4
    (ChangeSpec.witness6 (enc := enc) (C := Try.checked) false ⟨#[], #[.slice none 0 0, .slice none 0 0], []⟩ 8 (by kernel_rfl) (by kernel_rfl) (by kernel_rfl) (by kernel_rfl)) ?_
  intro W base args ds gs before hval0 hW hcnd hsz _
  have hval : ∀ (j : Nat) t v, Try.f4.params[j]? = some t → args[j]? = some v → Value.okWide Try.prog W .any base t v := hval0
  have hW' := hW
  obtain ⟨p, q, hA0, hV, rfl, hfz, hnd⟩ := hW
  have hA : DataW.TrodAll enc Try.prog W 0 (fun _ => true) true Try.f4.params.toList args.toList ds p := hA0
  have hsz2 : ∀ (j : Nat) (t : TypeId) (d : DataW H), Try.f4.params.toList[j]? = some t → ds[j]? = some d → ∀ n ∈ d.weights Try.prog t, n ≤ 140737488351232 := fun j t d ht hd n hn => by
    have h1 := List.all_eq_true.1 hsz n (DataW.weights_mem_each (j := j) (t := t) (d := d) (by rw [List.getElem?_append_left (List.getElem?_eq_some_iff.1 ht).1]; exact ht) (by rw [List.getElem?_append_left (List.getElem?_eq_some_iff.1 hd).1]; exact hd) n hn)
    have h2 : n ≤ reachBytes := by simpa using h1
    have h3 : reachBytes = 140737488351232 := rfl
    omega
  rw [Try.params4] at hA hval hsz2
  obtain ⟨v0, vs0, d0, ds0, p0, q0, hargs, rfl, rfl, h0, r0⟩ := trodAll_cons hA
  obtain ⟨v1, vs1, d1, ds1, p1, q1, rfl, rfl, rfl, h1, r1⟩ := trodAll_cons r0
  obtain ⟨rfl, rfl, rfl⟩ := trodAll_nil r1
  obtain rfl : args = #[v0, v1] := by cases args; simp_all
  obtain ⟨rfl, rfl⟩ := trodVars_none hV
  obtain ⟨a0, len0, cap0, rfl⟩ := okWide_slice Try.underlying22 (hval 0 22 v0 rfl rfl)
  have k0 := h0
  have lt0 : ∀ x ∈ p0, x.block < W.heap.size := by obtain ⟨m, hm⟩ := k0; exact DataW.trod_lt m _ _ _ hm
  obtain ⟨fs0, lies0, by0, wt0⟩ := flies_of_trod h0
  have sz0 : ∀ f ∈ fs0, f.s.size ≤ 140737488351232 := fun f hf => hsz2 0 22 d0 rfl rfl _ (wt0 f hf)
  obtain ⟨a1, len1, cap1, rfl⟩ := okWide_slice Try.underlying25 (hval 1 25 v1 rfl rfl)
  have k1 := h1
  have lt1 : ∀ x ∈ p1, x.block < W.heap.size := by obtain ⟨m, hm⟩ := k1; exact DataW.trod_lt m _ _ _ hm
  obtain ⟨xs1, lies1, by1⟩ := lies_of_trod h1
  clear hA0 hval0
  refine (back.walkN _ _ fs0 xs1 W lies0 by0 sz0 lies1 by1).mono fun e W' ⟨he, bel⟩ => ?_
  subst he
  exact ⟨_, rfl, _, _, _, [], _, [], hW', trodAll_mk1 (shut_bool Try.underlying4 _), (trodAll_cons_mk (Below.trod laidOut (by kernel_rfl) (of_decide_eq_true (by kernel_rfl)) k0 bel lt0) (trodAll_cons_mk (Below.trod laidOut (by kernel_rfl) (of_decide_eq_true (by kernel_rfl)) k1 bel lt1) trodAll_mk0)), rfl, bel.frame _, fun h => by cases h⟩

theorem over : Rows.codeBackRow.holds Try.pinned (OpenSpec.ofChange Rows.codeBackSpec) :=
  OpenClaim.holds_of_wide 4 Try.f4 rfl rfl rfl rfl rfl rfl rfl ⟨rfl, rfl, rfl, rfl, rfl⟩ rfl rfl rfl rfl rfl (by kernel_rfl) Try.func4 (by kernel_rfl)
    (of_decide_eq_true (by kernel_rfl)) (by unfold Func.isWrapper; first | (rw [if_pos (by decide +kernel)]; kernel_rfl) | (rw [if_neg (by decide +kernel)]; exact ⟨rfl, rfl⟩))
    (fun os started H enc _ => lifted os started H enc)
end back

/-- THE STATEMENT. -/
theorem codeBack_holds : Rows.CodeBackSaid := back.over
#print axioms codeBack_holds
end Go.Proofs.Ytkeedioifjabeaa
