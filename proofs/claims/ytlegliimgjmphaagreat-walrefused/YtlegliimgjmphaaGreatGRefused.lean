/-
  Proved: what the program's log refuses turns nothing, and a log that nobody opened answers an error: whatever room and script come (of a script the first 30 calls count, and one that is too large is passed by, as the law says). For every input of the form's own reach. Own work.
-/
import Derived.Test.YtlegliimgjmphaaGreatG41
import Derived.Deep.RegionHeld
import Derived.SizedLaws
import Derived.ChangeArms
namespace Go.Proofs.YtlegliimgjmphaaGreat
section
open Go.RowKit
structure RefI (D : World → Nat → (Nat → Prop) → Dk → Prop) (w : World) (p q k : Nat) (d : Dk) (W : World) : Prop where
 log : SinceL D w p q d W
 on : d.off = false
 arm : d.armed = false
 len : d.bs.length ≤ k * 65536
section
variable {D : World → Nat → (Nat → Prop) → Dk → Prop}
theorem RefI.below (H : DiskDo D) {w W W' : World} {p q k : Nat} {d : Dk} (h : RefI D w p q k d W) (hB : Below W.heap.size W W') : RefI D w p q k d W' := ⟨h.log.below H hB, h.on, h.arm, h.len⟩
set_option maxRecDepth 100000 in
set_option maxHeartbeats 6400000 in
theorem walkR12 (H : WalDo D) (m0 : Nat) (v : Value) (fs : List WAct) (w : World) (hm0 : m0 < 65536) (h : RSrc wactE w v fs) (hok : ∀ a ∈ fs, WaOk w a) :
  Calls Tryz.prog 6 #[.int .u16 (m0 : Int), v] w fun e w' => e = .returned (.bool true) ∧ Below w.heap.size w w' := by
 have CF := hide (far12_any v fs w h hok)
 have CA := hide (fun W => walive_any H W)
 have CS := hide (fun W => short_any12 v fs W w h)
 obtain ⟨vo, vc, e0, _⟩ := h.shape
 subst e0
 have HOK : Hid (∀ a ∈ fs.take 30, WaOk w a) := hide (fun a ha => hok a (List.mem_of_mem_take ha))
 have hKl : (fs.take 30).length ≤ 30 := by rw [List.length_take]; omega
 have HSM : Hid (farA fs = false → ∀ a ∈ fs.take 30, a.recs.length ≤ 8 ∧ a.tail.length ≤ 2000) := hide far_small
 obtain ⟨nn, hnn⟩ : ∃ nn : Nat, nn = m0 % 600 + 1 := ⟨_, rfl⟩
 have hn1 : (m0 : Int) % 600 + 1 = (nn : Int) := by omega
 have hnb : 1 ≤ nn ∧ nn ≤ 600 := by omega
 have HNEW : Hid (newOk (nn : Int) = true) := hide (by unfold newOk; simp; omega)
 have HLI := hide (logI_room nn (by omega) (by omega))
 obtain ⟨ts, hts⟩ : ∃ ts, ts = fs.take 30 := ⟨_, rfl⟩
 rw [← hts] at HOK hKl HSM CS
 obtain ⟨LF, hLF⟩ : ∃ LF, LF = fs.length := ⟨_, rfl⟩
 rw [← hLF] at CF CS
 rw [← hLF]
 obtain ⟨LN, hLN⟩ : ∃ LN, LN = ts.length := ⟨_, rfl⟩
 rw [← hLN] at hKl
 have HLN := hide hLN
 clear hts hok h hLN hLF hnn
 cases hfar : farA fs with
 | true =>
  rw [hfar] at CF
  clear HSM hfar
  go_enter Tryz.func6, Tryz.ntmps6
  go_wp2_with fail
  refine CF.out.mono ?_
  rintro e w1 ⟨rfl, hB⟩
  have HB := hide hB
  clear hB CF
  go_wp2_with fail
  refine (CA.out w1).mono ?_
  rintro e we ⟨rfl, hB⟩
  replace HB := hide (HB.out.trans (hB.mono HB.out.size))
  clear hB
  go_wp2_with fail
  go_ret
  exact ⟨rfl, HB.out⟩
 | false =>
  rw [hfar] at CF
  replace HSM := hide (HSM.out hfar)
  clear hfar
  go_enter Tryz.func6, Tryz.ntmps6
  go_wp2_with fail
  refine CF.out.mono ?_
  rintro e w1 ⟨rfl, hB⟩
  have HB1 := hide hB
  clear hB CF
  go_wp2_with fail
  refine (H.dsk.new (nn : Int) w1 HNEW.out).mono ?_
  rintro e w2 ⟨q, F0, rfl, hD, hF, hB⟩
  rw [Int.toNat_natCast] at hD
  have HB2 := hide (HB1.out.trans (hB.mono HB1.out.size))
  have HF2 : Hid (∀ k, F0 k → w.heap.size ≤ k) := hide (fun k hk => Nat.le_trans HB1.out.size (hF k hk))
  have C2 := hide (wopen_any H.dsk H.scn H.dec H.siz hD HLI.out.on (by simp [newD]))
  rw [(logI_open HLI.out).2] at C2
  clear hD hF hB HB1
  go_wp2_with fail
  refine C2.out.mono ?_
  rintro e w3 ⟨p, v3, rfl, ns, F3, _, _, hW3, hk3, hF3, hH3, _⟩
  obtain ⟨a3, c3, e3, _⟩ := owns_shapeR (Sup.now hH3).1
  subst e3
  have HI : Hid (RefI D w p q 0 (newD nn) w3) := hide ⟨SinceL.did HB2.out HF2.out ⟨F3, hW3, hk3, hF3⟩, rfl, rfl, by simp [newD]⟩
  have HBW : Hid (Below w.heap.size w w3) := hide (HB2.out.trans (hk3.below HB2.out.size HF2.out))
  clear hW3 hk3 hF3 hH3 C2 HB2 HF2 HLI
  generalize newD nn = dn at *
  go_wp2_with (go_at_call 13; refine (CS.out _).mono ?_; rintro e Y1 ⟨v1, rfl, rfl, hT⟩; obtain ⟨ao, cap, e1, _, _⟩ := hT.shape; rw [← HLN.out] at e1; subst e1; have HT := hide hT; clear hT)
  go_loopg [57] LN (fun g i wr => ∃ (k : Nat) (d : Dk), k + g = LN ∧ i = .int .i64 k ∧ Hid (RefI D w p q k d wr))
  case atStart => exact ⟨0, dn, by omega, rfl, HI⟩
  case round =>
   obtain ⟨k, d, hk, rfl, HI⟩ := hrel
   clear HBW
   have HBW : Hid (Below w.heap.size w wr) := hide HI.out.log.choose_spec.2.2
   cases gk with
   | zero =>
    obtain rfl : k = LN := by omega
    have hz : ¬ ((k : Int) < (k : Int)) := by omega
    have hbz := build_wal0
    have hbb := build_boot
    have HN0 := hide (HBW.out.alloc HBW.out.size (.cells #[.pointer none] 69))
    have HN1 := hide (HN0.out.alloc HN0.out.size (.cells #[.pointer none, .pointer (some ⟨wr.heap.size, 0, none⟩)] 34))
    have hsz : (wr.alloc (.cells #[.pointer none] 69)).heap.size = wr.heap.size + 1 := by simp
    have HC0 : Hid (∀ W, Below (wr.heap.size + 2) ((wr.alloc (.cells #[.pointer none] 69)).alloc (.cells #[.pointer none, .pointer (some ⟨wr.heap.size, 0, none⟩)] 34)) W → W.cell? ⟨wr.heap.size, 0, none⟩ = some (.pointer none) ∧ W.cell? ⟨wr.heap.size + 1, 0, none⟩ = some (.pointer none) ∧ W.cell? ⟨wr.heap.size + 1, 1, none⟩ = some (.pointer (some ⟨wr.heap.size, 0, none⟩))) := hide (fun W hB => by
     have b0 := (box_new wr #[.pointer none] 69).belowI (alloc_below12 _ (.cells #[.pointer none, .pointer (some ⟨wr.heap.size, 0, none⟩)] 34))
     have b1 := box_new (wr.alloc (.cells #[.pointer none] 69)) #[.pointer none, .pointer (some ⟨wr.heap.size, 0, none⟩)] 34
     rw [hsz] at b1
     have hs2 : ((wr.alloc (.cells #[.pointer none] 69)).alloc (.cells #[.pointer none, .pointer (some ⟨wr.heap.size, 0, none⟩)] 34)).heap.size = wr.heap.size + 2 := by simp
     rw [← hs2] at hB
     exact ⟨(b0.belowI hB).cell 0 _ rfl, (b1.belowI hB).cell 0 _ rfl, (b1.belowI hB).cell 1 _ rfl⟩)
    have HW2 : Hid (((wr.alloc (.cells #[.pointer none] 69)).alloc (.cells #[.pointer none, .pointer (some ⟨wr.heap.size, 0, none⟩)] 34)).heap.size = wr.heap.size + 2) := hide (by simp)
    clear HI CS HT HSM HOK HBW HN0
    go_wp2_with fail
    generalize (wr.alloc (.cells #[.pointer none] 69)).alloc (.cells #[.pointer none, .pointer (some ⟨wr.heap.size, 0, none⟩)] 34) = W0 at *
    generalize wr.heap.size = Z at *
    go_loopg [131] 2 (fun g i wr => ∃ (j : Nat), j + g = 2 ∧ i = .int .i64 j ∧ Hid (Below (Z + 2) W0 wr))
    case atStart => exact ⟨0, by omega, rfl, hide (Below.refl _ _)⟩
    case round =>
     obtain ⟨j, hj, rfl, HBL⟩ := hrel
     have HBE : Hid (Below w.heap.size w wr) := hide (HN1.out.trans (HBL.out.mono (by have h1 := HN1.out.size; have h2 := HW2.out; omega)))
     obtain ⟨z0, z1, z2⟩ := HC0.out wr HBL.out
     cases gk with
     | zero =>
      obtain rfl : j = 2 := by omega
      clear z0 z1 z2
      go_wp2_with fail
      refine (wopen_nil wr).mono ?_
      rintro e wm ⟨rfl, rfl⟩
      go_wp2_with fail
      refine (CA.out wm).mono ?_
      rintro e we ⟨rfl, hB⟩
      have HEE := hide (HBE.out.trans (hB.mono HBE.out.size))
      clear hB
      go_wp2_with fail
      go_ret
      exact ⟨rfl, HEE.out⟩
     | succ g =>
      have HNB : Hid (∀ W, Below wr.heap.size wr W → NobL W (if j = 0 then .pointer none else .pointer (some ⟨Z, 0, none⟩))) := hide (fun W hB => by
       by_cases h : j = 0
       ·rw [if_pos h]; exact .inl rfl
       ·rw [if_neg h]
        exact .inr ⟨_, rfl, (HC0.out W (HBL.out.trans (hB.mono (by have h1 := HBL.out.size; have h2 := HW2.out; omega)))).1⟩)
      have hjc : j = 0 ∨ j = 1 := by omega
      have HBZ : Hid (Below wr.heap.size wr (wr.alloc (.cells (recA bootM (.slice none 0 0) (.slice none 0 0)) 87))) := hide (alloc_below12 _ _)
      have HBY : Hid (Below (Z + 2) W0 (wr.alloc (.cells (recA bootM (.slice none 0 0) (.slice none 0 0)) 87))) := hide (HBL.out.trans (HBZ.out.mono (by have h1 := HBL.out.size; have h2 := HW2.out; omega)))
      clear z0 HBE
      rcases hjc with rfl | rfl
      all_goals
       simp only [if_true, if_false, Nat.one_ne_zero] at HNB
       have HN := hide (HNB.out wr (Below.refl _ _))
       have HNZ := hide (HNB.out _ HBZ.out)
       clear HNB
       go_wp2_with fail
       refine (wappend_no _ _ wr HN.out).mono ?_
       rintro e x1 ⟨rfl, hx1⟩
       subst hx1
       go_wp2_with fail
       refine (wforce_no _ _ HN.out).mono ?_
       rintro e x1 ⟨rfl, hx1⟩
       subst hx1
       go_wp2_with fail
       refine (wagain_no _ _ _ HN.out).mono ?_
       rintro e x1 ⟨rfl, hx1⟩
       subst hx1
       go_wp2_with fail
       refine (wdrop_no _ _ HN.out).mono ?_
       rintro e x1 ⟨rfl, hx1⟩
       subst hx1
       go_wp2_with fail
       refine (wtrim_no _ _ HN.out).mono ?_
       rintro e x1 ⟨rfl, hx1⟩
       subst hx1
       go_wp2_with fail
       refine (wsize_no _ _ _ HNZ.out).mono ?_
       rintro e x1 ⟨rfl, hx1⟩
       subst hx1
       go_wp2_with fail
       refine (wleft_no _ _ HNZ.out).mono ?_
       rintro e x1 ⟨rfl, hx1⟩
       subst hx1
       go_wp2_with fail
       refine (wroom_no _ _ HNZ.out).mono ?_
       rintro e x1 ⟨rfl, hx1⟩
       subst hx1
       go_wp2_with fail
       refine (wpend_no _ _ HNZ.out).mono ?_
       rintro e x1 ⟨rfl, hx1⟩
       subst hx1
       go_wp2_with fail
       go_roundg g
       case measure => omega
       case rel => first | exact ⟨1, by omega, by first | rfl | go_num, HBY⟩ | exact ⟨2, by omega, by first | rfl | go_num, HBY⟩
   | succ g =>
    have hz : (k : Int) < (LN : Int) := by omega
    have hkn : k < ts.length := by rw [← HLN.out]; omega
    obtain ⟨en, b, off, e9, hb, hcl⟩ := (HT.out.below HBW.out).at recWA.len hkn
    obtain rfl := e9
    have HRg : Hid (wr.rangeAt b (off + k * 6) (wactE ts[k])) := hide (fun j v hv => hcl j v hv)
    have HAW := hide (HOK.out _ (List.getElem_mem hkn))
    have HA0 := hide (HAW.out.below HBW.out)
    have hl8 := (HSM.out _ (List.getElem_mem hkn)).1
    generalize ts[k] = a at *
    obtain ⟨ro, rc, to, tc, e1, e2⟩ := wact_shape HA0.out
    obtain ⟨kind, recs, fuse, keep, cut, tail, rv, tv⟩ := a
    dsimp only at e1 e2 hl8
    subst e1; subst e2
    have hka := HA0.out.kind
    dsimp only at hka
    have hrem : (kind : Int).tmod 7 = ((kind % 7 : Nat) : Int) := by
     rw [Int.tmod_eq_emod_of_nonneg (by omega)]; omega
    obtain ⟨F, hWL, hFw, _⟩ := HI.out.log
    have hbl : d.bs.length ≤ 100000000 := by have := HI.out.len; omega
    have hdk := H.dsk.ok hWL.dsk
    have HFB : Hid (¬ F wr.heap.size) := hide (fun hf => Nat.lt_irrefl _ (H.dsk.lt hWL.dsk _ hf))
    have HFL : Hid (∀ k, F k → k < wr.heap.size) := hide (fun k hf => H.dsk.lt hWL.dsk k hf)
    have HFW := hide hFw
    have HWL := hide hWL
    have HWR := hide (wac_refused HI.out.on HI.out.arm (kind % 7) (rows recs) keep)
    have HLEN := hide (wac_len hdk (kind % 7) (rows recs) keep)
    have HDL := hide HI.out.len
    have hls := left_small hdk
    have HLF : Hid (wapA d (rows recs) = 0 → (wapD d (rows recs)).left + sizR (rows recs) = d.left) := hide (fun h => wap_left HI.out.on h)
    have HRD := hide (reaB_bytes hdk)
    have HRL := hide (reaB_small hdk)
    have HWA : Hid (∀ (h : kind % 7 = 0 ∨ kind % 7 = 3), wacA d (kind % 7) (rows recs) keep = wapA d (rows recs) ∧ wacD d (kind % 7) (rows recs) keep = wapD d (rows recs)) := hide (fun h => wac_app h _ _)
    have hZB := alloc_below12 wr (.cells zeroWA 46)
    have HZ := hide (box_new wr zeroWA 46)
    have HZB := hide hZB
    have hr7 : kind % 7 < 7 := Nat.mod_lt _ (by decide)
    have HRA : Hid (reaA d = 0) := hide (by unfold reaA; rw [HI.out.on]; rfl)
    clear hcl en hb hZB hWL hFw hdk HI
    go_wp2_with (first | (refine wpList_load_mid rfl 46 _ rfl b (off + k * 6) rfl (wactE ⟨kind, recs, fuse, keep, cut, tail, .slice ro recs.length rc, .slice to tail.length tc⟩) _ HRg.out Tryz.underlying46 rfl infoWA ?_) | (refine wp_store_box rfl rfl _ _ rfl wr.heap.size rfl (cs' := wactA ⟨kind, recs, fuse, keep, cut, tail, .slice ro recs.length rc, .slice to tail.length tc⟩) rfl HZ.out rfl infoWA (wact_one rfl rfl) ?_; intro w4 hb4 hk4; have HX4 := hide hb4; have HK4 : Hid (Below wr.heap.size wr w4) := hide (HZB.out.trans (hk4.below HZB.out.size (fun k hk => by omega))); clear hb4 hk4))
    refine (H.dsk.rea (H.dsk.below HWL.out.dsk HK4.out)).mono ?_
    rintro e w5 ⟨v5, rfl, ho5, hB5⟩
    rw [HRA.out]
    have HK5 : Hid (Below wr.heap.size wr w5) := hide (HK4.out.trans (hB5.mono HK4.out.size))
    have HX5 := hide (HX4.out.belowI hB5)
    have HV5 : Hid (Sup F w5 (fun W => Lies .u8 W v5 (reaB d))) := hide ((sup_row ho5 (fun g hg hf => by have h1 := (ho5.lt g hg).1; have h2 := HFL.out g hf; have h3 := HK4.out.size; omega)).map (fun W h => Lies.of_own h))
    obtain ⟨a5, c5, e5⟩ := (Lies.of_own ho5).shape
    subst e5
    have C5 := hide (wleft_any H.dsk (HWL.out.below H.dsk HK5.out))
    clear ho5 hB5 HX4 HK4 HZ HZB HRg
    go_wp2_with fail
    refine C5.out.mono ?_
    rintro e w6 ⟨rfl, hB6⟩
    have HK6 : Hid (Below wr.heap.size wr w6) := hide (HK5.out.trans (hB6.mono HK5.out.size))
    have HX6 := hide (HX5.out.belowI hB6)
    have HV6 := hide (HV5.out.below hB6)
    have C6 := hide (wpend_any H.dsk (HWL.out.below H.dsk HK6.out) hbl)
    clear hB6 HX5 HV5 HK5 C5
    go_wp2_with fail
    refine C6.out.mono ?_
    rintro e w7 ⟨rfl, hB7⟩
    have HK7 : Hid (Below wr.heap.size wr w7) := hide (HK6.out.trans (hB7.mono HK6.out.size))
    have HX7 := hide (HX6.out.belowI hB7)
    have HV7 := hide (HV6.out.below hB7)
    have HA7 := hide (HA0.out.below HK7.out)
    have C7 := hide (wdoes_any H (HWL.out.below H.dsk HK7.out) hbl _ HA7.out hl8)
    dsimp only at C7
    clear hB7 HX6 HV6 HK6 C6
    go_wp2_with (refine wp_load_box rfl _ rfl wr.heap.size rfl HX7.out Tryz.underlying46 rfl infoWA ?_)
    refine C7.out.mono ?_
    rintro e w8 ⟨rfl, F8, hW8, hk8, hF8⟩
    have HX8 := hide (HX7.out.keep hk8 HFB.out)
    have HV8 : Hid (Sup F8 w8 (fun W => Lies .u8 W (.slice a5 (reaB d).length c5) (reaB d))) := hide (HV7.out.keep hk8 (fun _ _ h => h) hF8)
    have HS8 := hide (SinceL.did (HBW.out.trans (HK7.out.mono HBW.out.size)) HFW.out ⟨F8, hW8, hk8, hF8⟩)
    have HL8 := hide hW8
    have hB8 : Below w.heap.size w w8 := HS8.out.choose_spec.2.2
    have HRO8 : Hid (RSrc recVE w8 (.slice ro recs.length rc) recs ∧ (∀ r ∈ recs, RvLie w8 r) ∧ ∀ r ∈ recs, SlOk r) := hide ⟨(HAW.out.below hB8).src, fun r hr => ((HAW.out.below hB8).ok r hr).lies, fun r hr => (HAW.out.ok r hr).sl⟩
    clear hW8 hk8 hF8 HX7 HV7 C7 HA7 hB8 HAW HA0
    generalize kind % 7 = r at *
    obtain ⟨A, hA⟩ : ∃ A, A = wacA d r (rows recs) keep := ⟨_, rfl⟩
    obtain ⟨d8, hd8⟩ : ∃ d8, d8 = wacD d r (rows recs) keep := ⟨_, rfl⟩
    rw [← hA, ← hd8] at HWR HWA
    rw [← hd8] at HLEN HS8 HL8
    rw [← hA]
    clear hA hd8
    have hbl8 : d8.bs.length ≤ 100000000 := by have := HLEN.out; have := HDL.out; omega
    have HI8 : Hid (RefI D w p q (k + 1) d8 w8) := hide ⟨HS8.out, HWR.out.1.1, HWR.out.1.2, by have := HLEN.out; have := HDL.out; omega⟩
    by_cases hA : A = 0
    ·subst hA
     have y0 := HX8.out.cell 0 (.int .u8 (kind : Int)) rfl
     by_cases hr : r = 0 ∨ r = 3
     ·have hw := HWA.out hr
      have hlf := HLF.out hw.1.symm
      rw [← hw.2] at hlf
      obtain ⟨L8, hL8⟩ : ∃ L8, L8 = d8.left := ⟨_, rfl⟩
      obtain ⟨L0, hL0⟩ : ∃ L0, L0 = d.left := ⟨_, rfl⟩
      obtain ⟨LS, hLS⟩ : ∃ LS, LS = sizR (rows recs) := ⟨_, rfl⟩
      rw [← hL8, ← hL0, ← hLS] at hlf
      rw [← hL0] at hls ⊢
      have HL8E := hide hL8
      have HLSE := hide hLS
      clear hw hL8 hL0 hLS
      have hsub : (L0 : Int) - (LS : Int) = (L8 : Int) := by omega
      have hsub2 : IntKind.i64.wrap ((L0 : Int) - (LS : Int)) = (L8 : Int) := by rw [IntKind.wrap_i64]; omega
      have CL : Hid (∀ W, Below w8.heap.size w8 W → Calls Tryz.prog 30 #[.pointer (some ⟨p, 0, none⟩)] W fun e w' => e = .returned (.int .i64 (L8 : Int)) ∧ Below W.heap.size W w') := hide (fun W hB => by rw [HL8E.out]; exact wleft_any H.dsk (HL8.out.below H.dsk hB))
      have CT : Hid (∀ W, Below w8.heap.size w8 W → Calls Tryz.prog 19 #[.slice ro recs.length rc] W fun e w' => ∃ v', e = .returned v' ∧ w'.ownsRow W.heap.size 87 31 v' recs.length (flat recVE recs) ∧ Below W.heap.size W w') := hide (fun W hB => theirs12_any _ recs W (HRO8.out.1.below hB) HRO8.out.2.2 (by omega))
      have CZ : Hid (∀ W v, Below w8.heap.size w8 W → RSrc recVE W v recs → Calls Tryz.prog 18 #[.pointer (some ⟨p, 0, none⟩), v] W fun e w' => e = .returned (.int .i64 (LS : Int)) ∧ Below W.heap.size W w') := hide (fun W v hB hs => by rw [HLSE.out]; exact wsize_any H.enc H.siz p ⟨q, 0, none⟩ v recs W (HL8.out.below H.dsk hB).cell hs (fun r hr => (HRO8.out.2.1 r hr).below hB) (by omega))
      have y1 := HX8.out.cell 1 (.slice ro recs.length rc) rfl
      have HY := hide HX8.out
      have hb8 : wr.heap.size < w8.heap.size := HX8.out.lt
      have hw8 : IntKind.i64.wrap (L8 : Int) = (L8 : Int) := by rw [IntKind.wrap_i64]; omega
      have hneq : ((L8 : Int) != IntKind.i64.wrap (L8 : Int)) = false := by rw [hw8]; simp
      clear HX8 HV8 HWR HLF HRD HRL hr7
      rcases hr with rfl | rfl
      all_goals
       go_wp2_with fail
       first | (go_region_held (fun w' => w'.cell? ⟨wr.heap.size, 1, none⟩ = some (.slice ro recs.length rc)) (go_keep) (first
        | (go_at_call 30; refine (CL.out _ (below_drewN7 w8 1)).mono ?_; rintro e w10 ⟨rfl, hB10⟩; have HB10 : Hid (Below w8.heap.size w8 w10) := hide ((below_drewN7 w8 1).trans (hB10.mono (below_drewN7 w8 1).size)); have y10 := (HY.out.belowI HB10.out).cell 1 (.slice ro recs.length rc) rfl; clear hB10)
        | (go_at_call 19; refine (CT.out _ HB10.out).mono ?_; rintro e w11 ⟨v11, rfl, ho11, hB11⟩; have HB11 := hide (HB10.out.trans (hB11.mono HB10.out.size)); have HR11 := hide (RSrc.of_own ho11); have y11 := (HY.out.belowI HB11.out).cell 1 (.slice ro recs.length rc) rfl; obtain ⟨a11, c11, e11, _⟩ := owns_shapeR ho11; subst e11; clear ho11 hB11)
        | (go_at_call 18; refine (CZ.out _ _ HB11.out HR11.out).mono ?_; rintro e w12 ⟨rfl, hB12⟩; have HB12 := hide (HB11.out.trans (hB12.mono HB11.out.size)); have y12 := (HY.out.belowI HB12.out).cell 1 (.slice ro recs.length rc) rfl; clear hB12))) | fail
       clear y1 y10 y11 y12
       go_wp2_with fail
       go_roundg g
       case measure => omega
       case rel => exact ⟨k + 1, d8, by omega, by first | rfl | go_num, hide (HI8.out.below H.dsk HB12.out)⟩
     ·have q0 : ∀ W, (binOp .eql 5 (.int .u8 (r : Int)) (.int .u8 0)).run Tryz.prog W = .ok (.bool false) W := fun W => eql_u8_no r 0 W (by omega)
      have q3 : ∀ W, (binOp .eql 5 (.int .u8 (r : Int)) (.int .u8 3)).run Tryz.prog W = .ok (.bool false) W := fun W => eql_u8_no r 3 W (by omega)
      clear HX8 HV8 HWR HLF HRD HRL hr7 HWA HL8 HRO8
      go_wp2_with fail
      refine wp_region_vals (by kernel_rfl) [(78, .int .u8 (r : Int)), (79, .bool false), (80, .bool false), (81, .int .u8 (r : Int)), (82, .bool false), (83, .bool false), (84, .bool false), (85, undef), (86, undef), (87, undef), (88, undef), (89, undef), (90, undef), (91, undef), (92, undef), (93, undef), (94, undef), (95, .bool false)] (by kernel_rfl) rfl ?_ ?_
      ·intro i o hi A w1 hB hold hdeps
       have hlt : i < 18 := (Array.getElem?_eq_some_iff.1 hi).1
       have hc : i = 0 ∨ i = 1 ∨ i = 2 ∨ i = 3 ∨ i = 4 ∨ i = 5 ∨ i = 6 ∨ i = 7 ∨ i = 8 ∨ i = 9 ∨ i = 10 ∨ i = 11 ∨ i = 12 ∨ i = 13 ∨ i = 14 ∨ i = 15 ∨ i = 16 ∨ i = 17 := by omega
       clear hlt
       rcases hc with rfl | rfl | rfl | rfl | rfl | rfl | rfl | rfl | rfl | rfl | rfl | rfl | rfl | rfl | rfl | rfl | rfl | rfl
       ·obtain rfl := Option.some.inj hi
        have s17 : A.tmps.getD 17 undef = .int .u8 (r : Int) := hold 17 (by kernel_rfl)
        exact r_pure hi rfl rfl (y_move _ s17)
       ·obtain rfl := Option.some.inj hi
        have s78 : A.tmps.getD 78 undef = .int .u8 (r : Int) := dep_of hdeps 0 (by kernel_rfl)
        exact r_pure hi rfl rfl (y_bin _ _ _ _ _ s78 rfl (q0 w1) (by kernel_rfl))
       ·obtain rfl := Option.some.inj hi
        have s79 : A.tmps.getD 79 undef = .bool false := dep_of hdeps 1 (by kernel_rfl)
        exact r_pure hi rfl rfl (y_move _ s79)
       ·obtain rfl := Option.some.inj hi
        have g3 : A.tmps.getD 80 undef = .bool false := dep_of hdeps 2 (by kernel_rfl)
        have s17 : A.tmps.getD 17 undef = .int .u8 (r : Int) := hold 17 (by kernel_rfl)
        exact r_pure hi (wanted_not rfl rfl g3) rfl (y_move _ s17)
       ·obtain rfl := Option.some.inj hi
        have g4 : A.tmps.getD 80 undef = .bool false := dep_of hdeps 2 (by kernel_rfl)
        have s81 : A.tmps.getD 81 undef = .int .u8 (r : Int) := dep_of hdeps 3 (by kernel_rfl)
        exact r_pure hi (wanted_not rfl rfl g4) rfl (y_bin _ _ _ _ _ s81 rfl (q3 w1) (by kernel_rfl))
       ·obtain rfl := Option.some.inj hi
        have s80 : A.tmps.getD 80 undef = .bool false := dep_of hdeps 2 (by kernel_rfl)
        have s82 : A.tmps.getD 82 undef = .bool false := dep_of hdeps 4 (by kernel_rfl)
        exact r_pure hi rfl rfl (y_pickF _ _ _ s80 s82)
       ·obtain rfl := Option.some.inj hi
        have s83 : A.tmps.getD 83 undef = .bool false := dep_of hdeps 5 (by kernel_rfl)
        exact r_pure hi rfl rfl (y_move _ s83)
       ·obtain rfl := Option.some.inj hi
        have g7 : A.tmps.getD 84 undef = .bool false := dep_of hdeps 6 (by kernel_rfl)
        exact each_skip hi rfl rfl (fun e => absurd (g7.symm.trans e) (by simp)) rfl
       ·obtain rfl := Option.some.inj hi
        have g8 : A.tmps.getD 84 undef = .bool false := dep_of hdeps 6 (by kernel_rfl)
        exact each_skip hi rfl rfl (fun e => absurd (g8.symm.trans e) (by simp)) rfl
       ·obtain rfl := Option.some.inj hi
        have g9 : A.tmps.getD 84 undef = .bool false := dep_of hdeps 6 (by kernel_rfl)
        exact each_skip hi rfl rfl (fun e => absurd (g9.symm.trans e) (by simp)) rfl
       ·obtain rfl := Option.some.inj hi
        have g10 : A.tmps.getD 84 undef = .bool false := dep_of hdeps 6 (by kernel_rfl)
        exact each_skip hi rfl rfl (fun e => absurd (g10.symm.trans e) (by simp)) rfl
       ·obtain rfl := Option.some.inj hi
        have g11 : A.tmps.getD 84 undef = .bool false := dep_of hdeps 6 (by kernel_rfl)
        exact each_skip hi rfl rfl (fun e => absurd (g11.symm.trans e) (by simp)) rfl
       ·obtain rfl := Option.some.inj hi
        have g12 : A.tmps.getD 84 undef = .bool false := dep_of hdeps 6 (by kernel_rfl)
        exact each_skip hi rfl rfl (fun e => absurd (g12.symm.trans e) (by simp)) rfl
       ·obtain rfl := Option.some.inj hi
        have g13 : A.tmps.getD 84 undef = .bool false := dep_of hdeps 6 (by kernel_rfl)
        exact each_skip hi rfl rfl (fun e => absurd (g13.symm.trans e) (by simp)) rfl
       ·obtain rfl := Option.some.inj hi
        have g14 : A.tmps.getD 84 undef = .bool false := dep_of hdeps 6 (by kernel_rfl)
        exact each_skip hi rfl rfl (fun e => absurd (g14.symm.trans e) (by simp)) rfl
       ·obtain rfl := Option.some.inj hi
        have g15 : A.tmps.getD 84 undef = .bool false := dep_of hdeps 6 (by kernel_rfl)
        exact each_skip hi rfl rfl (fun e => absurd (g15.symm.trans e) (by simp)) rfl
       ·obtain rfl := Option.some.inj hi
        have g16 : A.tmps.getD 84 undef = .bool false := dep_of hdeps 6 (by kernel_rfl)
        exact each_skip hi rfl rfl (fun e => absurd (g16.symm.trans e) (by simp)) rfl
       ·obtain rfl := Option.some.inj hi
        have s84 : A.tmps.getD 84 undef = .bool false := dep_of hdeps 6 (by kernel_rfl)
        exact r_pure hi rfl rfl (y_pickF _ _ _ s84 rfl)
      ·intro w9 hB9
       simp only [putAll, Act.put, List.setIfInBounds_toArray, List.set_cons_succ, List.set_cons_zero]
       have HI9 := hide (HI8.out.below H.dsk hB9)
       clear hB9
       go_wp2_with fail
       go_roundg g
       case measure => omega
       case rel => exact ⟨k + 1, d8, by omega, by first | rfl | go_num, HI9⟩
    ·have hcb : (A == 0) = false := by simp [hA]
     obtain ⟨hdd, hA19⟩ := HWR.out.2 hA
     subst hdd
     have HV := hide HV8.out
     have C9 := hide (H.dsk.rea HL8.out.dsk)
     rw [HRA.out] at C9
     clear HX8 HWR HWA hA HLF HRO8 HS8 HV8
     obtain ⟨bs, hbs⟩ : ∃ bs, bs = reaB d8 := ⟨_, rfl⟩
     rw [← hbs] at C9 HV
     rw [← hbs]
     clear hbs
     go_wp2_with fail
     refine C9.out.mono ?_
     rintro e w9 ⟨v9, rfl, ho9, hB9⟩
     have hL9 := Lies.of_own ho9
     have hcv := hL9.convert
     have hcw := (HV.out.below hB9).now.convert
     obtain ⟨a9, c9, e9⟩ := hL9.shape
     subst e9
     have HK9 := hide hB9
     have C10 := hide (wleft_any H.dsk (HL8.out.below H.dsk hB9))
     clear ho9 hL9 hB9 C9
     go_wp2_with fail
     refine C10.out.mono ?_
     rintro e w10 ⟨rfl, hB10⟩
     have HK10 : Hid (Below w8.heap.size w8 w10) := hide (HK9.out.trans (hB10.mono HK9.out.size))
     have C11 := hide (wpend_any H.dsk (HL8.out.below H.dsk HK10.out) hbl8)
     have hln : (((d8.left : Nat) : Int) != ((d8.left : Nat) : Int)) = false := by simp
     clear hB10 C10 HK9 hcv hcw
     go_wp2_with fail
     refine C11.out.mono ?_
     rintro e w11 ⟨rfl, hB11⟩
     have HI11 := hide (HI8.out.below H.dsk (HK10.out.trans (hB11.mono HK10.out.size)))
     have hpn : (((d8.bs.length - d8.fend : Nat) : Int) != ((d8.bs.length - d8.fend : Nat) : Int)) = false := by simp
     clear hB11 C11 HK10
     rcases hA19 with rfl | rfl
     all_goals
      go_wp2_with fail
      go_roundg g
      case measure => omega
      case rel => exact ⟨k + 1, d8, by omega, by first | rfl | go_num, HI11⟩
end
end
section
open Go.RowKit Go.ChangeShapes Go.WideShapes Go.ChangeAt
namespace DRefused
set_option maxRecDepth 100000 in
theorem lifted (os : Os) (started : os.Started) (H : Type) (enc : TypeId × Value → H) :
  ReturnsInHanded {} Tryz.checked os 6 .any (Rows.walRefusedSpec.pre6 enc Tryz.prog Tryz.f6 Rows.walRefusedRow.domain false) (Rows.walRefusedSpec.post enc Tryz.prog Tryz.f6 false true false false) := by
 refine returnsInHanded_of_change_sized (C := Tryz.checked) own started (by kernel_rfl) Tryz.func6
  (ChangeSpec.witness6 (enc := enc) (C := Tryz.checked) false ⟨#[], #[.int .u16 0, .slice none 0 0], []⟩ 8 (by kernel_rfl) (by kernel_rfl) (by kernel_rfl) (by kernel_rfl)) ?_
 intro W base args ds gs before hval0 hW hcnd hsz _
 have hval : ∀ (j : Nat) t v, Tryz.f6.params[j]? = some t → args[j]? = some v → Value.okWide Tryz.prog W .any base t v := hval0
 have hW' := hW
 obtain ⟨p, q, hA0, hV, rfl, hfz, hnd⟩ := hW
 have hA : DataW.TrodAll enc Tryz.prog W 0 (fun _ => true) true Tryz.f6.params.toList args.toList ds p := hA0
 have hsz2 : ∀ (j : Nat) (t : TypeId) (d : DataW H), Tryz.f6.params.toList[j]? = some t → ds[j]? = some d → ∀ n ∈ d.weights Tryz.prog t, n ≤ 140737488351232 := fun j t d ht hd n hn => by
  have h1 := List.all_eq_true.1 hsz n (DataW.weights_mem_each (j := j) (t := t) (d := d) (by rw [List.getElem?_append_left (List.getElem?_eq_some_iff.1 ht).1]; exact ht) (by rw [List.getElem?_append_left (List.getElem?_eq_some_iff.1 hd).1]; exact hd) n hn)
  have h2 : n ≤ reachBytes := by simpa using h1
  have h3 : reachBytes = 140737488351232 := rfl
  omega
 rw [Tryz.params6] at hA hval hsz2
 obtain ⟨v0, vs0, d0, ds0, p0, q0, hargs, rfl, rfl, h0, r0⟩ := trodAll_cons hA
 obtain ⟨v1, vs1, d1, ds1, p1, q1, rfl, rfl, rfl, h1, r1⟩ := trodAll_cons r0
 obtain ⟨rfl, rfl, rfl⟩ := trodAll_nil r1
 obtain rfl : args = #[v0, v1] := by cases args; simp_all
 obtain ⟨rfl, rfl⟩ := trodVars_none hV
 obtain ⟨a0, rfl, rfl, rfl, w0⟩ := open_int Tryz.underlying67 (hval 0 67 v0 rfl rfl) h0
 have b0 := bounds_u16 w0
 obtain ⟨m0, rfl⟩ := Int.eq_ofNat_of_zero_le b0.1
 obtain ⟨a1, len1, cap1, rfl⟩ := okWide_slice Tryz.underlying22 (hval 1 22 v1 rfl rfl)
 have k1 := h1
 have lt1 : ∀ x ∈ p1, x.block < W.heap.size := by obtain ⟨m, hm⟩ := k1; exact DataW.trod_lt m _ _ _ hm
 obtain ⟨xs1, lies1, by1⟩ := wacts_of_trod h1
 clear hA0 hval0
 refine (walkR12 wal_do m0 _ xs1 W (by omega) lies1 by1).mono fun e W' ⟨he, bel⟩ => ?_
 subst he
 exact ⟨_, rfl, _, _, _, [], _, [], hW', trodAll_mk1 (shut_bool Tryz.underlying4 _), (trodAll_cons_mk (shut_int Tryz.underlying67 w0) (trodAll_cons_mk (Below.trod laidOut (by kernel_rfl) (of_decide_eq_true (by kernel_rfl)) k1 bel lt1) trodAll_mk0)), rfl, bel.frame _, fun h => by cases h⟩
theorem over : Rows.walRefusedRow.holds Tryz.pinned (OpenSpec.ofChange Rows.walRefusedSpec) :=
 OpenClaim.holds_of_wide 6 Tryz.f6 rfl rfl rfl rfl rfl rfl rfl ⟨rfl, rfl, rfl, rfl, rfl⟩ rfl rfl rfl rfl rfl (by kernel_rfl) Tryz.func6 (by kernel_rfl)
  (of_decide_eq_true (by kernel_rfl)) (by unfold Func.isWrapper; first | (rw [if_pos (by decide +kernel)]; kernel_rfl) | (rw [if_neg (by decide +kernel)]; exact ⟨rfl, rfl⟩))
  (fun os started H enc _ => lifted os started H enc)
end DRefused
theorem walRefused_holds : Rows.WalRefusedSaid := DRefused.over
#print axioms walRefused_holds
end
end Go.Proofs.YtlegliimgjmphaaGreat
