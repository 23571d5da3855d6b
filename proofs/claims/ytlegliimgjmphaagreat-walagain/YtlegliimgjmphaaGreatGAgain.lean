/-
  Proved: behind Again the program's log has just the records that it was laid anew with, whatever comes; behind a loss within it what it had, and perhaps some of them behind, or just them: whatever records and loss come (those that are too large are passed by, as the law says). For every input of the form's own reach. Own work.
-/
import Derived.Test.YtlegliimgjmphaaGreatG07
import Derived.Test.YtlegliimgjmphaaGreatG14
import Derived.Test.YtlegliimgjmphaaGreatG41
import Derived.Deep.RegionHeldLaw
import Derived.SizedLaws
import Derived.ChangeArms
namespace Go.Proofs.YtlegliimgjmphaaGreat
section
open Go.ChangeShapes Go.WideShapes Go.ChangeAt Go.RowKit Go.Deep
section
variable {H : Type} {enc : TypeId × Value → H} {W : World}
set_option maxRecDepth 100000 in
theorem wact_of_trod {r : Reach} {b0 : Nat} {v : Value} {d : DataW H} {p : List MemPlace} (hv : Value.okWide Tryz.prog W r b0 46 v) (h : DataW.Trod enc Tryz.prog W 0 (fun _ => true) true 46 v d p) : ∃ a : WAct, v = .agg (wactA a) ∧ WaOk W a := by
 obtain ⟨cs, rfl, _⟩ := okWide_struct Tryz.underlying46 hv
 obtain ⟨fuel, hf⟩ := h
 obtain ⟨a, e, ok⟩ := wact_cells hf
 have e2 : cs.toList = (wactA a).toList := e
 exact ⟨a, by rw [Array.toList_inj.1 e2], ok⟩
end
end
section
open Go.RowKit Classical
section
variable {D : World → Nat → (Nat → Prop) → Dk → Prop}
set_option maxRecDepth 100000 in
set_option maxHeartbeats 6400000 in
theorem walkG12 (H : WalDo D) (HS : RSameDo) (v0 v1 : Value) (os ys : List RecV) (a : WAct) (w : World) (h0 : RSrc recVE w v0 os) (h1 : RSrc recVE w v1 ys) (ho0 : ∀ r ∈ os, RvOk w r) (ho1 : ∀ r ∈ ys, RvOk w r) (ha : WaOk w a) :
  Calls Tryz.prog 5 #[v0, v1, .agg (wactA a)] w fun e w' => e = .returned (.bool true) ∧ Below w.heap.size w w' := by
 have CA := hide (fun W => walive_any H W)
 obtain ⟨oo, oc, e0, _⟩ := h0.shape
 obtain ⟨yo, yc, e1, hyc, hym⟩ := h1.shape
 subst e0; subst e1
 obtain ⟨ro, rc, to, tc, e2, e3⟩ := wact_shape ha
 obtain ⟨kind, recs, fuse, keep, cut, tail, rv, tv⟩ := a
 dsimp only at e2 e3
 subst e2; subst e3
 have hb0 := fun W => build_act oo os.length oc W
 have hb1 := fun W => build_act yo ys.length yc W
 have hfu := ha.f
 have hkp := ha.k
 dsimp only at hfu hkp
 have hBA := alloc_below12 w (.cells (wactA ⟨kind, recs, fuse, keep, cut, tail, .slice ro recs.length rc, .slice to tail.length tc⟩) 46)
 have hBX := box_new w (wactA ⟨kind, recs, fuse, keep, cut, tail, .slice ro recs.length rc, .slice to tail.length tc⟩) 46
 have HBX := hide hBX
 obtain ⟨cells, hcells⟩ : ∃ cells : Array Value, cells = #[.int .u8 0, .slice oo os.length oc, .int .i64 0, .int .i64 0, .bool false, .slice none 0 0, .int .u8 0, .slice yo ys.length yc, .int .i64 0, .int .i64 0, .bool false, .slice none 0 0, .int .u8 (kind : Int), .slice ro recs.length rc, .int .i64 fuse, .int .i64 keep, .bool cut, .slice to tail.length tc] := ⟨_, rfl⟩
 obtain ⟨w1, hw1⟩ : ∃ w1, w1 = w.alloc (.cells (wactA ⟨kind, recs, fuse, keep, cut, tail, .slice ro recs.length rc, .slice to tail.length tc⟩) 46) := ⟨_, rfl⟩
 rw [← hw1] at hBA hBX
 have hsz1 : w1.heap.size = w.heap.size + 1 := by rw [hw1]; simp
 have hBB := hBA.trans ((alloc_below12 w1 (.cells cells 46)).mono hBA.size)
 have HBB := hide hBB
 have hB1 := alloc_below12 w1 (.cells cells 46)
 have hsrc : RSrc wactE (w1.alloc (.cells cells 46)) (.slice (some ⟨w1.heap.size, 0, none⟩) 3 3) [⟨0, os, 0, 0, false, [], .slice oo os.length oc, .slice none 0 0⟩, ⟨0, ys, 0, 0, false, [], .slice yo ys.length yc, .slice none 0 0⟩, ⟨kind, recs, fuse, keep, cut, tail, .slice ro recs.length rc, .slice to tail.length tc⟩] :=
  src_newL w1 _ cells (by rw [hcells]; rfl) _ 3 rfl (by unfold maxLen; decide)
 have hoks : ∀ a ∈ [(⟨0, os, 0, 0, false, [], .slice oo os.length oc, .slice none 0 0⟩ : WAct), ⟨0, ys, 0, 0, false, [], .slice yo ys.length yc, .slice none 0 0⟩, ⟨kind, recs, fuse, keep, cut, tail, .slice ro recs.length rc, .slice to tail.length tc⟩], WaOk (w1.alloc (.cells cells 46)) a := by
  intro a hm
  simp only [List.mem_cons, List.not_mem_nil, or_false] at hm
  rcases hm with rfl | rfl | rfl
  ·exact ⟨by dsimp only; omega, h0.below hBB, fun r hr => (ho0 r hr).below hBB, by dsimp only; omega, by dsimp only; omega, Lies.nil _ _, fun c hc => by cases hc⟩
  ·exact ⟨by dsimp only; omega, h1.below hBB, fun r hr => (ho1 r hr).below hBB, by dsimp only; omega, by dsimp only; omega, Lies.nil _ _, fun c hc => by cases hc⟩
  ·exact ha.below hBB
 have CF := hide (far12_any _ _ _ hsrc hoks)
 rw [hsz1] at CF
 have HSM := hide (fun h => far_small (fs := [(⟨0, os, 0, 0, false, [], .slice oo os.length oc, .slice none 0 0⟩ : WAct), ⟨0, ys, 0, 0, false, [], .slice yo ys.length yc, .slice none 0 0⟩, ⟨kind, recs, fuse, keep, cut, tail, .slice ro recs.length rc, .slice to tail.length tc⟩]) h)
 generalize farA [(⟨0, os, 0, 0, false, [], .slice oo os.length oc, .slice none 0 0⟩ : WAct), ⟨0, ys, 0, 0, false, [], .slice yo ys.length yc, .slice none 0 0⟩, ⟨kind, recs, fuse, keep, cut, tail, .slice ro recs.length rc, .slice to tail.length tc⟩] = fA at *
 rw [hcells, hw1] at CF HBB
 have H0 := hide h0
 have H1 := hide h1
 have HO0 := hide ho0
 have HO1 := hide ho1
 have HBX2 : Hid (∀ W, Below (w.heap.size + 2) ((w.alloc (.cells (wactA ⟨kind, recs, fuse, keep, cut, tail, .slice ro recs.length rc, .slice to tail.length tc⟩) 46)).alloc (.cells cells 46)) W → Box W w.heap.size (wactA ⟨kind, recs, fuse, keep, cut, tail, .slice ro recs.length rc, .slice to tail.length tc⟩) 46) := hide (fun W hB => by
  have h2 := HBX.out.belowI (alloc_below12 _ (.cells cells 46))
  refine h2.belowI (hB.mono ?_)
  simp)
 rw [hcells] at HBX2
 clear h0 h1 ho0 ho1 hsrc hoks hcells hw1 hBA hBX hBB hB1 hsz1 ha
 cases fA with
 | true =>
  clear HSM
  go_enter Tryz.func5, Tryz.ntmps5
  go_wp2_with (refine wp_load_box rfl _ rfl w.heap.size rfl HBX.out Tryz.underlying46 rfl infoWA ?_)
  refine CF.out.mono ?_
  rintro e w2 ⟨rfl, hB⟩
  have HB := hide (HBB.out.trans (hB.mono HBB.out.size))
  clear hB CF
  go_wp2_with fail
  refine (CA.out w2).mono ?_
  rintro e we ⟨rfl, hB⟩
  replace HB := hide (HB.out.trans (hB.mono HB.out.size))
  clear hB
  go_wp2_with fail
  go_ret
  exact ⟨rfl, HB.out⟩
 | false =>
  have hs8 := HSM.out rfl
  have hl0 : os.length ≤ 8 := (hs8 _ (List.mem_cons_self)).1
  have hl1 : ys.length ≤ 8 := (hs8 _ (List.mem_cons_of_mem _ (List.mem_cons_self))).1
  clear hs8 HSM
  have HRO : Hid (∀ m ∈ rows os, RecOk m) := hide (rows_ok (fun r hr => (HO0.out r hr).lies))
  have HRY : Hid (∀ m ∈ rows ys, RecOk m) := hide (rows_ok (fun r hr => (HO1.out r hr).lies))
  have HI0 := hide (logI_room 65536 (by decide) (by decide))
  have HR0 : Hid ((newD 65536).room = 65536) := rfl
  go_enter Tryz.func5, Tryz.ntmps5
  go_wp2_with (refine wp_load_box rfl _ rfl w.heap.size rfl HBX.out Tryz.underlying46 rfl infoWA ?_)
  refine CF.out.mono ?_
  rintro e w2 ⟨rfl, hB2⟩
  have hX2 : Box w2 w.heap.size (wactA ⟨kind, recs, fuse, keep, cut, tail, .slice ro recs.length rc, .slice to tail.length tc⟩) 46 := HBX2.out w2 (hB2.mono (by simp))
  have hBw2 := HBB.out.trans (hB2.mono HBB.out.size)
  have HBW := hide hBw2
  have HX2 := hide hX2
  have HS0 : Hid (RSrc recVE w2 (.slice oo os.length oc) os ∧ (∀ r ∈ os, RvLie w2 r) ∧ ∀ r ∈ os, SlOk r) := hide ⟨H0.out.below hBw2, fun r hr => ((HO0.out r hr).lies).below hBw2, fun r hr => (HO0.out r hr).sl⟩
  have HS1 : Hid (RSrc recVE w2 (.slice yo ys.length yc) ys ∧ (∀ r ∈ ys, RvLie w2 r) ∧ ∀ r ∈ ys, SlOk r) := hide ⟨H1.out.below hBw2, fun r hr => ((HO1.out r hr).lies).below hBw2, fun r hr => (HO1.out r hr).sl⟩
  clear hX2 hBw2 hB2 CF HBX HBX2 HBB H0 H1 HO0 HO1 hb0 hb1
  have C2 := hide (H.dsk.new 65536 w2 rfl)
  go_wp2_with fail
  refine C2.out.mono ?_
  rintro e w3 ⟨q, F3, rfl, hD3, hF3, hB3⟩
  have e0 : newD (Int.toNat 65536) = newD 65536 := rfl
  rw [e0] at hD3
  have HB3 := hide hB3
  have HF3 := hide hF3
  have C3 := hide (wopen_any H.dsk H.scn H.dec H.siz hD3 HI0.out.on (by simp [newD]))
  rw [(logI_open HI0.out).2] at C3
  clear hD3 hF3 hB3 e0 C2
  go_wp2_with fail
  refine C3.out.mono ?_
  rintro e w4 ⟨p, v4, rfl, ns4, F4, _, _, hW4, hk4, hF4, hH4, _⟩
  obtain ⟨a4, c4, e4, _⟩ := owns_shapeR (Sup.now hH4).1
  subst e4
  have HL4 := hide (SinceL.did HB3.out HF3.out ⟨F4, hW4, hk4, hF4⟩)
  clear hW4 hk4 hF4 hH4 C3 HB3 HF3
  have hbl0 : (newD 65536).bs.length ≤ 100000000 := by decide
  generalize newD 65536 = dn at *
  obtain ⟨F4', hW4, hF4, hB4⟩ := HL4.out
  have HB4 := hide hB4
  have HF4 := hide hF4
  have HW4 := hide hW4
  have C4 := hide (theirs12_any _ os w4 (HS0.out.1.below hB4) HS0.out.2.2 (by omega))
  clear hW4 hF4 hB4 HL4
  go_wp2_with fail
  refine C4.out.mono ?_
  rintro e w5 ⟨v5, rfl, ho5, hB5⟩
  have HR5 := hide (RSrc.of_own ho5)
  obtain ⟨a5, c5, e5, _⟩ := owns_shapeR ho5
  subst e5
  have HB5 := hide (HB4.out.trans (hB5.mono HB4.out.size))
  have C5 := hide (wappend_any H.dsk H.enc H.put (HW4.out.below H.dsk hB5) hbl0 _ os HR5.out (fun r hr => (HS0.out.2.1 r hr).below HB5.out) (by omega))
  clear ho5 hB5 C4 HB4
  have HA01 := hide (wap_full HI0.out HR0.out HRO.out (by rw [rows_len]; exact hl0))
  have HLA := hide (logI_app HI0.out HRO.out)
  have hln1 : (wapD dn (rows os)).bs.length ≤ 200000 := by have := wap_len HI0.out.ok (rows os); rw [HI0.out.bs] at this; simp [framesR_nil] at this; omega
  have HRM : Hid ((wapD dn (rows os)).room = 65536) := hide (by rw [wap_room]; exact HR0.out)
  obtain ⟨A0, hA0⟩ : ∃ A0, A0 = wapA dn (rows os) := ⟨_, rfl⟩
  obtain ⟨d1, hd1⟩ : ∃ d1, d1 = wapD dn (rows os) := ⟨_, rfl⟩
  rw [← hA0] at C5 HA01 HLA
  rw [← hd1] at C5 HLA hln1 HRM
  clear hA0 hd1 HI0 HR0
  rcases HA01.out with rfl | rfl
  ·replace HLA := hide (HLA.out rfl)
   simp only [List.nil_append] at HLA
   go_wp2_with fail
   refine C5.out.mono ?_
   rintro e w6 ⟨rfl, h6⟩
   obtain ⟨F6, hW6, hF6, hB6⟩ := SinceL.did HB5.out HF4.out h6
   have HB6 := hide hB6
   have HF6 := hide hF6
   have C6 := hide (wforce_any H.dsk hW6)
   have HLF := hide (logI_force HLA.out)
   rw [HLF.out.1] at C6
   replace HLF := hide HLF.out.2
   simp only [List.nil_append] at HLF
   have hln2 : (forD d1).bs.length ≤ 200000 := by rw [forD_bs]; exact hln1
   have HRM2 : Hid ((forD d1).room = 65536) := hide (by rw [for_room]; exact HRM.out)
   generalize forD d1 = d2 at *
   clear h6 hW6 hF6 hB6 C5 HLA HB5 HF4 HW4 HRM hln1 HA01
   go_wp2_with fail
   refine C6.out.mono ?_
   rintro e w7 ⟨rfl, h7⟩
   have HL7 := hide (SinceL.did HB6.out HF6.out h7)
   clear h7 C6 HB6 HF6
   have hB7 : Below w2.heap.size w2 w7 := HL7.out.choose_spec.2.2
   have y2 := (HX2.out.belowI hB7).cell 2 (.int .i64 fuse) rfl
   clear hB7
   have HLS : Hid (∀ n, _) := hide (fun n => again_loss HLF.out HRY.out (fun hm => by
    have h1 : GoodR (rows os) := by have := HLF.out.good; rwa [List.append_nil] at this
    have h2 := framesR_len h1
    have hg : GoodR (rows ys) := fun m hx => ⟨HRY.out m hx, List.all_eq_true.1 hm m hx⟩
    have h3 := framesR_len hg
    rw [rows_len] at h2 h3
    omega) HRM2.out n keep cut)
   have HOK2 := hide HLF.out.ok
   clear HLF HRY HRO HRM2
   obtain ⟨O, hO⟩ : ∃ O, O = rows os := ⟨_, rfl⟩
   obtain ⟨Y, hY⟩ : ∃ Y, Y = rows ys := ⟨_, rfl⟩
   rw [← hO, ← hY] at HLS
   have HO := hide hO
   have HY := hide hY
   have HLO : Hid (O.length = os.length ∧ Y.length = ys.length) := hide ⟨by rw [hO, rows_len], by rw [hY, rows_len]⟩
   clear hO hY
   obtain ⟨F7, hW7, hF7, hB7⟩ := HL7.out
   have HB7 := hide hB7
   have HF7 := hide hF7
   have HW7 := hide hW7
   clear hW7 hF7 hB7 HL7
   have hst : ∃ (c : Dk) (n : Int), c = fuseD d2 n ∧ c.bs.length ≤ 200000 ∧ c.Ok ∧ ((0 ≤ fuse ∧ n = fuse % 3) ∨ (fuse < 0 ∧ n = -1)) := by
    by_cases hf : 0 ≤ fuse
    ·refine ⟨_, fuse % 3, rfl, ?_, ?_, .inl ⟨hf, rfl⟩⟩
     ·unfold fuseD armD; split <;> exact hln2
     ·unfold fuseD; split
      ·exact armD_ok HOK2.out _ (by omega)
      ·exact HOK2.out
    ·refine ⟨_, -1, rfl, ?_, ?_, .inr ⟨by omega, rfl⟩⟩
     ·unfold fuseD armD; split <;> exact hln2
     ·unfold fuseD; split
      ·exact armD_ok HOK2.out _ (by omega)
      ·exact HOK2.out
   obtain ⟨c, n, hc, hcl, hcok, hfn⟩ := hst
   replace HLS := hide (HLS.out n)
   rw [← hc] at HLS
   have HLN := hide (agn_len hcok Y)
   have HC := hide hc
   clear hc hcok HOK2
   have key : ∃ d3 g : Dk × Int, True := ⟨(d2, 0), (d2, 0), trivial⟩
   clear key
   rcases hfn with ⟨hf, hn⟩ | ⟨hf, hn⟩
   ·have hrem : fuse.tmod 3 = n := by rw [Int.tmod_eq_emod_of_nonneg hf, hn]
    have hrem2 : fuse % 3 = n := hn.symm
    have hn3 : 0 ≤ n ∧ n < 3 := by omega
    have HC2 : Hid (armD d2 n = c) := hide (by rw [HC.out]; unfold fuseD; rw [if_pos hn3.1])
    clear hn
    go_wp2_with fail
    refine (H.dsk.arm n HW7.out.dsk (by omega)).mono ?_
    rintro e w8 ⟨rfl, h8⟩
    rw [HC2.out] at h8
    have HL8 := hide (SinceL.did HB7.out HF7.out (HW7.out.did h8))
    clear h8 y2 HC2 HC hrem hrem2 hn3 HW7 HB7 HF7
    go_wp2_with fail
    obtain ⟨F8, hW8, hF8, hB8⟩ := HL8.out
    have HB8 := hide hB8
    have HF8 := hide hF8
    have HW8 := hide hW8
    clear hW8 hF8 hB8 HL8
    refine (theirs12_any _ ys w8 (HS1.out.1.below HB8.out) HS1.out.2.2 (by omega)).mono ?_
    rintro e w9 ⟨v9, rfl, ho9, hB9⟩
    have HR9 := hide (RSrc.of_own ho9)
    obtain ⟨a9, c9, e9, _⟩ := owns_shapeR ho9
    subst e9
    have HB9 := hide (HB8.out.trans (hB9.mono HB8.out.size))
    have C9 := hide (wagain_any H.dsk H.enc H.put (HW8.out.below H.dsk hB9) (by omega) _ ys HR9.out (fun r hr => (HS1.out.2.1 r hr).below HB9.out) (by omega))
    rw [← HY.out] at C9
    clear ho9 hB9 HB8 HW8
    go_wp2_with fail
    refine C9.out.mono ?_
    rintro e wa ⟨rfl, ha⟩
    obtain ⟨Fa, hWa, hFa, hBa⟩ := SinceL.did HB9.out HF8.out ha
    have HBa := hide hBa
    have HFa := hide hFa
    have HWa := hide hWa
    clear ha hWa hFa hBa C9 HB9 HF8
    have hla : (agnD c Y).bs.length ≤ 300000 := by have := HLN.out; omega
    generalize agnD c Y = da at *
    generalize agnA c Y = g at *
    go_wp2_with fail
    refine (H.dsk.arm (-1) HWa.out.dsk (by omega)).mono ?_
    rintro e wb ⟨rfl, hb⟩
    obtain ⟨Fb, hWb, hFb, hBb⟩ := SinceL.did HBa.out HFa.out (HWa.out.did hb)
    have HBb := hide hBb
    have HFb := hide hFb
    have HWb := hide hWb
    clear hb hWb hFb hBb HBa HFa HWa
    go_wp2_with fail
    refine (H.dsk.fai HWb.out.dsk).mono ?_
    rintro e wc ⟨rfl, hc⟩
    obtain ⟨Fc, hWc, hFc, hBc⟩ := SinceL.did HBb.out HFb.out (HWb.out.did hc)
    have HBc := hide hBc
    have HFc := hide hFc
    have HWc := hide hWc
    have y3 := (HX2.out.belowI hBc).cell 3 (.int .i64 keep) rfl
    have y4 := (HX2.out.belowI hBc).cell 4 (.bool cut) rfl
    have hlc : (faiD (armD da (-1))).bs.length ≤ 300000 := hla
    have Cs := hide (H.dsk.sta keep cut (.slice none 0 0) [] HWc.out.dsk (Lies.nil _ _) (by simp) (by simp) (by omega) hkp.2)
    rw [HLS.out.1] at Cs
    have HON := hide (sta_facts (d := faiD (armD da (-1))) rfl keep cut)
    clear hc hWc hFc hBc HBb HFb HWb
    generalize staD (faiD (armD da (-1))) keep cut [] = ds at *
    go_wp2_with fail
    refine Cs.out.mono ?_
    rintro e wd ⟨rfl, hd⟩
    obtain ⟨Fd, hWd, hFd, hBd⟩ := SinceL.did HBc.out HFc.out (HWc.out.did hd)
    have HBd := hide hBd
    have HFd := hide hFd
    have Cd := hide (wopen_any H.dsk H.scn H.dec H.siz hWd.dsk HON.out.1 (by have := HON.out.2; omega))
    clear hd hWd hFd hBd Cs y3 y4 HBc HFc HWc
    go_wp2_with fail
    refine Cd.out.mono ?_
    rintro e we ⟨p2, ve, rfl, ns, Fe, hns, _, hWe, hke, hFe, hHe, hnl⟩
    have hHn := Sup.now hHe
    have HSM : Hid (RSrc recVE we ve ns ∧ (∀ r ∈ ns, RvLie we r)) := hide ⟨RSrc.of_own hHn.1, hHn.2⟩
    obtain ⟨aM, cM, eM, _⟩ := owns_shapeR hHn.1
    subst eM
    have HBe : Hid (Below w2.heap.size w2 we) := hide (HBd.out.trans (hke.below HBd.out.size HFd.out))
    obtain ⟨M, hM⟩ : ∃ M, M = rows ns := ⟨_, rfl⟩
    have HM := hide hM
    have HML : Hid (M.length = ns.length) := hide (by rw [hM, rows_len])
    rw [← hns, ← hM] at HLS
    replace HLS := hide HLS.out.2
    clear hns hWe hke hFe hHe hHn hM Cd HBd HFd HON
    have HSL : Hid (∀ r ∈ ns, SlOk r) := hide (fun r hr => (HSM.out.2 r hr).sl12)
    obtain ⟨LM, hLM⟩ : ∃ LM, LM = ns.length := ⟨_, rfl⟩
    have CO : Hid (∀ W, Below we.heap.size we W → Calls Tryz.prog 27 #[.slice aM ns.length cM] W fun e w' => ∃ v', e = .returned v' ∧ w'.ownsRow W.heap.size 89 31 v' ns.length (flat recVE ns) ∧ Below W.heap.size W w') := hide (fun W hB => ours12_any _ ns W (HSM.out.1.below hB) HSL.out (by omega))
    clear hLM
    go_wp2_with fail
    refine (CO.out we (Below.refl _ _)).mono ?_
    rintro e wf ⟨vf, rfl, hof, hBf⟩
    have HRf := hide (RSrc.of_own hof)
    obtain ⟨af, cf, ef, _⟩ := owns_shapeR hof
    subst ef
    have HBef := hide hBf
    have HBf := hide (HBe.out.trans (hBf.mono HBe.out.size))
    clear hof hBf
    go_wp2_with fail
    refine (same12_any HS _ _ ns ys wf HRf.out (HS1.out.1.below HBf.out) (fun r hr => (HSM.out.2 r hr).below HBef.out) (fun r hr => (HS1.out.2.1 r hr).below HBf.out)).mono ?_
    rintro e wg ⟨rfl, hBg⟩
    rw [← HM.out, ← HY.out]
    have HBg := hide (HBf.out.trans (hBg.mono HBf.out.size))
    have HBeg := hide (HBef.out.trans (hBg.mono HBef.out.size))
    clear hBg HRf
    obtain ⟨g', hg'⟩ : ∃ g', g' = g := ⟨_, rfl⟩
    rcases HLS.out with ⟨hg, hm⟩ | hrest
    ·subst hg
     have HJ : Hid (decide (M = Y) = true) := hide (by simp [hm])
     rw [HJ.out]
     clear hg' hm HLS
     go_wp2_with fail
     refine (CA.out wg).mono ?_
     rintro e wh ⟨rfl, hBh⟩
     have HE := hide (HBW.out.trans ((HBg.out.trans (hBh.mono HBg.out.size)).mono HBW.out.size))
     clear hBh
     go_wp2_with fail
     go_ret
     exact ⟨rfl, HE.out⟩
    ·have hg0 : (g == 0) = false := by rcases hrest with ⟨h, _⟩ | ⟨h, _⟩ <;> (rw [h]; rfl)
     have HHR := hide hrest
     obtain ⟨J, hJ⟩ : ∃ J, J = decide (M = Y) := ⟨_, rfl⟩
     have HJ := hide hJ
     rw [← hJ]
     have hLM : ns.length ≤ 65536 := hnl
     have hLO : os.length ≤ 8 := hl0
     have hLY : ys.length ≤ 8 := hl1
     have HLL : Hid (M.length = ns.length ∧ O.length = os.length ∧ Y.length = ys.length) := hide ⟨HML.out, HLO.out.1, HLO.out.2⟩
     clear hJ hrest HLS hg' HML HLO
     obtain ⟨mr, hmr⟩ : ∃ mr, mr = (ns.length : Int) - (os.length : Int) := ⟨_, rfl⟩
     have hsub : IntKind.i64.wrap ((ns.length : Int) - (os.length : Int)) = mr := by rw [IntKind.wrap_i64, hmr]; omega
     have hsub2 : (ns.length : Int) - (os.length : Int) = mr := hmr.symm
     have HMR := hide hmr
     clear hmr
     by_cases hneg : mr < 0
     ·have HJT : Hid (J = true ∧ g = 10) := hide (by
       have h1 := HLL.out
       have h2 := HMR.out
       rcases HHR.out with ⟨hg, ⟨j, hj, hm⟩ | hm⟩ | ⟨hg, hm⟩
       ·exfalso
        have := congrArg List.length hm
        rw [List.length_append] at this
        omega
       ·exact ⟨by rw [HJ.out]; simp [hm], hg⟩
       ·exfalso
        have := congrArg List.length hm
        omega)
      obtain ⟨hj1, hg1⟩ := HJT.out
      subst hj1; subst hg1
      have qge : ∀ W, (binOp .geq 3 (.int .i64 mr) (.int .i64 0)).run Tryz.prog W = .ok (.bool false) W := fun W => by
       have h : decide (mr ≥ 0) = false := decide_eq_false (by omega)
       simp [go_sem, h]
      clear HJT HHR HJ hg0
      generalize ns.length = LM at *
      generalize os.length = LO at *
      generalize ys.length = LY at *
      go_wp2_with fail
      refine wp_region_vals (by kernel_rfl) [(112, .int .i64 mr), (113, .bool false), (114, .bool false), (115, undef), (116, undef), (117, undef), (118, undef), (119, .bool false), (120, .bool false), (121, undef), (122, undef), (123, undef), (124, undef), (125, undef), (126, undef), (127, undef), (128, undef), (129, undef), (130, .bool false), (18, .bool false)] (by kernel_rfl) rfl ?_ ?_
      ·intro i o hi A w1 hB hold hdeps
       have hlt : i < 20 := (Array.getElem?_eq_some_iff.1 hi).1
       have hc : i = 0 ∨ i = 1 ∨ i = 2 ∨ i = 3 ∨ i = 4 ∨ i = 5 ∨ i = 6 ∨ i = 7 ∨ i = 8 ∨ i = 9 ∨ i = 10 ∨ i = 11 ∨ i = 12 ∨ i = 13 ∨ i = 14 ∨ i = 15 ∨ i = 16 ∨ i = 17 ∨ i = 18 ∨ i = 19 := by omega
       clear hlt
       rcases hc with rfl | rfl | rfl | rfl | rfl | rfl | rfl | rfl | rfl | rfl | rfl | rfl | rfl | rfl | rfl | rfl | rfl | rfl | rfl | rfl
       ·obtain rfl := Option.some.inj hi
        have s17 : A.tmps.getD 17 undef = .int .i64 mr := hold 17 (by kernel_rfl)
        exact r_pure hi rfl rfl (y_move _ s17)
       ·obtain rfl := Option.some.inj hi
        have s112 : A.tmps.getD 112 undef = .int .i64 mr := dep_of hdeps 0 (by kernel_rfl)
        exact r_pure hi rfl rfl (y_bin _ _ _ _ _ s112 rfl (qge w1) (by kernel_rfl))
       ·obtain rfl := Option.some.inj hi
        have s113 : A.tmps.getD 113 undef = .bool false := dep_of hdeps 1 (by kernel_rfl)
        exact r_pure hi rfl rfl (y_move _ s113)
       ·obtain rfl := Option.some.inj hi
        have g3 : A.tmps.getD 114 undef = .bool false := dep_of hdeps 2 (by kernel_rfl)
        exact each_skip hi rfl rfl (fun e => absurd (g3.symm.trans e) (by simp)) rfl
       ·obtain rfl := Option.some.inj hi
        have g4 : A.tmps.getD 114 undef = .bool false := dep_of hdeps 2 (by kernel_rfl)
        exact each_skip hi rfl rfl (fun e => absurd (g4.symm.trans e) (by simp)) rfl
       ·obtain rfl := Option.some.inj hi
        have g5 : A.tmps.getD 114 undef = .bool false := dep_of hdeps 2 (by kernel_rfl)
        exact each_skip hi rfl rfl (fun e => absurd (g5.symm.trans e) (by simp)) rfl
       ·obtain rfl := Option.some.inj hi
        have g6 : A.tmps.getD 114 undef = .bool false := dep_of hdeps 2 (by kernel_rfl)
        exact each_skip hi rfl rfl (fun e => absurd (g6.symm.trans e) (by simp)) rfl
       ·obtain rfl := Option.some.inj hi
        have s114 : A.tmps.getD 114 undef = .bool false := dep_of hdeps 2 (by kernel_rfl)
        exact r_pure hi rfl rfl (y_pickF _ _ _ s114 rfl)
       ·obtain rfl := Option.some.inj hi
        have s119 : A.tmps.getD 119 undef = .bool false := dep_of hdeps 7 (by kernel_rfl)
        exact r_pure hi rfl rfl (y_move _ s119)
       ·obtain rfl := Option.some.inj hi
        have g9 : A.tmps.getD 120 undef = .bool false := dep_of hdeps 8 (by kernel_rfl)
        exact each_skip hi rfl rfl (fun e => absurd (g9.symm.trans e) (by simp)) rfl
       ·obtain rfl := Option.some.inj hi
        have g10 : A.tmps.getD 120 undef = .bool false := dep_of hdeps 8 (by kernel_rfl)
        exact each_skip hi rfl rfl (fun e => absurd (g10.symm.trans e) (by simp)) rfl
       ·obtain rfl := Option.some.inj hi
        have g11 : A.tmps.getD 120 undef = .bool false := dep_of hdeps 8 (by kernel_rfl)
        exact each_skip hi rfl rfl (fun e => absurd (g11.symm.trans e) (by simp)) rfl
       ·obtain rfl := Option.some.inj hi
        have g12 : A.tmps.getD 120 undef = .bool false := dep_of hdeps 8 (by kernel_rfl)
        exact each_skip hi rfl rfl (fun e => absurd (g12.symm.trans e) (by simp)) rfl
       ·obtain rfl := Option.some.inj hi
        have g13 : A.tmps.getD 120 undef = .bool false := dep_of hdeps 8 (by kernel_rfl)
        exact each_skip hi rfl rfl (fun e => absurd (g13.symm.trans e) (by simp)) rfl
       ·obtain rfl := Option.some.inj hi
        have g14 : A.tmps.getD 120 undef = .bool false := dep_of hdeps 8 (by kernel_rfl)
        exact each_skip hi rfl rfl (fun e => absurd (g14.symm.trans e) (by simp)) rfl
       ·obtain rfl := Option.some.inj hi
        have g15 : A.tmps.getD 120 undef = .bool false := dep_of hdeps 8 (by kernel_rfl)
        exact each_skip hi rfl rfl (fun e => absurd (g15.symm.trans e) (by simp)) rfl
       ·obtain rfl := Option.some.inj hi
        have g16 : A.tmps.getD 120 undef = .bool false := dep_of hdeps 8 (by kernel_rfl)
        exact each_skip hi rfl rfl (fun e => absurd (g16.symm.trans e) (by simp)) rfl
       ·obtain rfl := Option.some.inj hi
        have g17 : A.tmps.getD 120 undef = .bool false := dep_of hdeps 8 (by kernel_rfl)
        exact each_skip hi rfl rfl (fun e => absurd (g17.symm.trans e) (by simp)) rfl
       ·obtain rfl := Option.some.inj hi
        have s120 : A.tmps.getD 120 undef = .bool false := dep_of hdeps 8 (by kernel_rfl)
        exact r_pure hi rfl rfl (y_pickF _ _ _ s120 rfl)
       ·obtain rfl := Option.some.inj hi
        have s130 : A.tmps.getD 130 undef = .bool false := dep_of hdeps 18 (by kernel_rfl)
        exact r_pure hi rfl rfl (y_assign _ s130)
      ·intro wi hBi
       simp only [putAll, Act.put, List.setIfInBounds_toArray, List.set_cons_succ, List.set_cons_zero]
       have HBi := hide (HBg.out.trans (hBi.mono HBg.out.size))
       clear hBi
       go_wp2_with fail
       refine (CA.out wi).mono ?_
       rintro e wh ⟨rfl, hBh⟩
       have HE := hide (HBW.out.trans ((HBi.out.trans (hBh.mono HBi.out.size)).mono HBW.out.size))
       clear hBh
       go_wp2_with fail
       go_ret
       exact ⟨rfl, HE.out⟩
     ·obtain ⟨k, hk⟩ : ∃ k : Nat, mr = (k : Int) := ⟨mr.toNat, by omega⟩
      subst hk
      have hkl : k ≤ ys.length ∧ ns.length = os.length + k := by
       have h1 := HLL.out
       have h2 := HMR.out
       rcases HHR.out with ⟨hg, ⟨j, hj, hm⟩ | hm⟩ | ⟨hg, hm⟩
       ·have := congrArg List.length hm
        rw [List.length_append, List.length_take] at this
        omega
       ·have := congrArg List.length hm
        omega
       ·have := congrArg List.length hm
        omega
      have hk1 := hkl.1
      have HKL := hide hkl.2
      clear hkl
      obtain ⟨zs, hzs⟩ : ∃ zs, zs = os ++ ys.take k := ⟨_, rfl⟩
      obtain ⟨LZ, hLZ⟩ : ∃ LZ, LZ = zs.length := ⟨_, rfl⟩
      have HZE : Hid (os ++ ys.take k = zs ∧ zs.length = LZ) := hide ⟨hzs.symm, hLZ.symm⟩
      clear hzs hLZ
      have HRW : Hid (decide (rows ns = rows zs) = decide (M = O ++ Y.take k)) := hide (by
       rw [HM.out, HO.out, HY.out, ← HZE.out.1]
       unfold rows
       rw [List.map_append, List.map_take])
      obtain ⟨hd, hhd⟩ : ∃ hd, hd = decide (M = O ++ Y.take k) := ⟨_, rfl⟩
      rw [← hhd] at HRW
      have HFIN : Hid ((g = 10 ∧ (hd = true ∨ J = true)) ∨ (g = 1 ∧ hd = true ∧ k = 0)) := hide (by
       have h1 := HLL.out
       rcases HHR.out with ⟨hg, ⟨j, hj, hm⟩ | hm⟩ | ⟨hg, hm⟩
       ·refine .inl ⟨hg, .inl ?_⟩
        have := congrArg List.length hm
        rw [List.length_append, List.length_take] at this
        have hjk : j = k := by have := HKL.out; omega
        rw [hhd, hm, hjk]
        simp
       ·exact .inl ⟨hg, .inr (by rw [HJ.out]; simp [hm])⟩
       ·have := congrArg List.length hm
        have hk0 : k = 0 := by have := HKL.out; omega
        exact .inr ⟨hg, by rw [hhd, hm, hk0]; simp, hk0⟩)
      have HLB : Hid (∀ W, Below we.heap.size we W → ∀ r ∈ zs, RvLie W r) := hide (fun W hB r hr => by
       rw [← HZE.out.1] at hr
       have hB2 := HBe.out.trans (hB.mono HBe.out.size)
       rcases List.mem_append.1 hr with h | h
       ·exact (HS0.out.2.1 r h).below hB2
       ·exact (HS1.out.2.1 r (List.mem_of_mem_take h)).below hB2)
      have HYK : Hid (RSrc recVE w2 (.slice yo k yc) (ys.take k)) := hide (src_takeR HS1.out.1 recRV.len hk1)
      have HOS : Hid (RSrc recVE w2 (.slice oo os.length oc) os) := hide HS0.out.1
      have HY1 : Hid (∀ x ∈ ys.take k, ∀ u ∈ recVE x, u.oneCell' = true) := hide (fun x hx => rv_one (HS1.out.2.2 x (List.mem_of_mem_take hx)))
      have HO1 : Hid (∀ x ∈ os, ∀ u ∈ recVE x, u.oneCell' = true) := hide (fun x hx => rv_one (HS0.out.2.2 x hx))
      have hty : (ys.take k).length ≤ 8 := by rw [List.length_take]; omega
      have hto := fun W => run_toR recRV W yo ys.length yc k (by omega)
      have HBc : Hid (Below we.heap.size we wg.drew) := hide (HBeg.out.trans ((below_drewN7 wg 1).mono HBeg.out.size))
      have hle1 : decide ((k : Int) ≤ (ys.length : Int)) = true := decide_eq_true (by omega)
      have hle2 : (k : Int) ≤ (ys.length : Int) := by omega
      have hge1 : decide ((k : Int) ≥ 0) = true := decide_eq_true (by omega)
      have hkI : (k : Int) ≤ 9 := by omega
      clear hhd HHR HJ hneg
      go_wp2_with fail
      first | (go_region_held_law (fun _ => True) (trivial) ((first
       | (go_at_call 27; refine (CO.out _ HBc.out).mono ?_; rintro e wx ⟨vx, rfl, hox, hBx⟩; have HRo := hide (owns_base hox HBc.out.size); (try have HNE := hide (ne_new hox HOa.out)); (try replace HOa := hide (owns_keep HOa.out (KeepBut.of_below (fun _ => False) hBx) (fun _ _ h => h))); (try replace HOb := hide (owns_keep HOb.out (KeepBut.of_below (fun _ => False) hBx) (fun _ _ h => h))); replace HBc := hide (HBc.out.trans (hBx.mono HBc.out.size)); obtain ⟨ax, cx, ex, _⟩ := owns_shapeR hox; subst ex; clear hox hBx)
       | (go_at_call 26; refine (same12_any HS _ _ ns zs _ (RSrc.of_own HRo.out) (RSrc.of_own (by rw [HZE.out.2]; exact HOb.out)) (fun r hr => (HSM.out.2 r hr).below HBc.out) (HLB.out _ HBc.out)).mono ?_; rintro e wy ⟨rfl, hBy⟩; rw [HRW.out]; replace HBc := hide (HBc.out.trans (hBy.mono HBc.out.size)); clear hBy)
       | (refine step_recs_g recRV _ rfl _ _ rfl we.heap.size _ _ os (ys.take k) rfl HOa.out rfl ((HYK.out).below (HBe.out.trans (HBc.out.mono HBe.out.size))) HY1.out (by omega) HBc.out.size ?_; intro vb wb hob hgb hvb; rw [HZE.out.1, HZE.out.2] at hob; (try replace HRo := hide (owns_keep HRo.out (kept_gr hgb) HNE.out)); replace HBc := hide (HBc.out.grown hgb HBc.out.size (fun j hj => (HOa.out.lt j hj).1)); obtain ⟨ab, cb, eb, _⟩ := owns_shapeR hob; subst eb; have HOb := hide hob; clear hob hgb hvb)
       | (refine step_recs_g recRV _ rfl _ _ rfl we.heap.size (.slice none 0 0) _ [] os rfl (World.ownsRow_nil _ _ _ _) rfl ((HOS.out).below (HBe.out.trans (HBc.out.mono HBe.out.size))) HO1.out (by simp; omega) HBc.out.size ?_; intro va wa hoa hga hva; rw [List.nil_append] at hoa; (try have HNE := hide (ne_old HRo.out hva)); (try replace HRo := hide (owns_keep HRo.out (kept_gr hga) (fun _ _ h => by cases h))); replace HBc := hide (HBc.out.grown hga HBc.out.size (fun j hj => by cases hj)); obtain ⟨aa, ca, ea, _⟩ := owns_shapeR hoa; subst ea; have HOa := hide hoa; clear hoa hga hva)))) | fail
      have HBz := hide (HBW.out.trans ((HBe.out.trans (HBc.out.mono HBe.out.size)).mono HBW.out.size))
      have hff := HFIN.out
      clear HFIN HRW HLB HYK HOS HY1 HO1 hto HOa HOb HRo HNE hle1 hle2 hge1
      have hall : ∃ b1 b2, hd = b1 ∧ J = b2 ∧ ((g = 10 ∧ (b1 = true ∨ b2 = true)) ∨ (g = 1 ∧ b1 = true ∧ k = 0)) := ⟨hd, J, rfl, rfl, hff⟩
      clear hff
      obtain ⟨b1, b2, e1, e2, hh⟩ := hall
      subst e1; subst e2
      rcases hh with ⟨hg, hh | hh⟩ | ⟨hg, hh, hk0⟩
      ·subst hh; subst hg
       go_wp2_with fail
       refine (CA.out _).mono ?_
       rintro e wh ⟨rfl, hBh⟩
       have HE := hide (HBz.out.trans (hBh.mono HBz.out.size))
       clear hBh
       go_wp2_with fail
       go_ret
       exact ⟨rfl, HE.out⟩
      ·subst hh; subst hg
       cases hd
       all_goals
        go_wp2_with fail
        refine (CA.out _).mono ?_
        rintro e wh ⟨rfl, hBh⟩
        have HE := hide (HBz.out.trans (hBh.mono HBz.out.size))
        clear hBh
        go_wp2_with fail
        go_ret
        exact ⟨rfl, HE.out⟩
      ·subst hh; subst hg; subst hk0
       go_wp2_with fail
       refine (CA.out _).mono ?_
       rintro e wh ⟨rfl, hBh⟩
       have HE := hide (HBz.out.trans (hBh.mono HBz.out.size))
       clear hBh
       go_wp2_with fail
       go_ret
       exact ⟨rfl, HE.out⟩
   ·have HC2 : Hid (d2 = c) := hide (by rw [HC.out, hn]; rfl)
    have HL8 : Hid (SinceL D w2 p q c w7) := hide (by rw [← HC2.out]; exact ⟨F7, HW7.out, HF7.out, HB7.out⟩)
    clear hn HC2 HC HW7 HB7 HF7
    go_wp2_with fail
    obtain ⟨w8, hw8⟩ : ∃ w8, w8 = w7 := ⟨_, rfl⟩
    rw [← hw8] at HL8 ⊢
    clear hw8 y2
    obtain ⟨F8, hW8, hF8, hB8⟩ := HL8.out
    have HB8 := hide hB8
    have HF8 := hide hF8
    have HW8 := hide hW8
    clear hW8 hF8 hB8 HL8
    refine (theirs12_any _ ys w8 (HS1.out.1.below HB8.out) HS1.out.2.2 (by omega)).mono ?_
    rintro e w9 ⟨v9, rfl, ho9, hB9⟩
    have HR9 := hide (RSrc.of_own ho9)
    obtain ⟨a9, c9, e9, _⟩ := owns_shapeR ho9
    subst e9
    have HB9 := hide (HB8.out.trans (hB9.mono HB8.out.size))
    have C9 := hide (wagain_any H.dsk H.enc H.put (HW8.out.below H.dsk hB9) (by omega) _ ys HR9.out (fun r hr => (HS1.out.2.1 r hr).below HB9.out) (by omega))
    rw [← HY.out] at C9
    clear ho9 hB9 HB8 HW8
    go_wp2_with fail
    refine C9.out.mono ?_
    rintro e wa ⟨rfl, ha⟩
    obtain ⟨Fa, hWa, hFa, hBa⟩ := SinceL.did HB9.out HF8.out ha
    have HBa := hide hBa
    have HFa := hide hFa
    have HWa := hide hWa
    clear ha hWa hFa hBa C9 HB9 HF8
    have hla : (agnD c Y).bs.length ≤ 300000 := by have := HLN.out; omega
    generalize agnD c Y = da at *
    generalize agnA c Y = g at *
    go_wp2_with fail
    refine (H.dsk.arm (-1) HWa.out.dsk (by omega)).mono ?_
    rintro e wb ⟨rfl, hb⟩
    obtain ⟨Fb, hWb, hFb, hBb⟩ := SinceL.did HBa.out HFa.out (HWa.out.did hb)
    have HBb := hide hBb
    have HFb := hide hFb
    have HWb := hide hWb
    clear hb hWb hFb hBb HBa HFa HWa
    go_wp2_with fail
    refine (H.dsk.fai HWb.out.dsk).mono ?_
    rintro e wc ⟨rfl, hc⟩
    obtain ⟨Fc, hWc, hFc, hBc⟩ := SinceL.did HBb.out HFb.out (HWb.out.did hc)
    have HBc := hide hBc
    have HFc := hide hFc
    have HWc := hide hWc
    have y3 := (HX2.out.belowI hBc).cell 3 (.int .i64 keep) rfl
    have y4 := (HX2.out.belowI hBc).cell 4 (.bool cut) rfl
    have hlc : (faiD (armD da (-1))).bs.length ≤ 300000 := hla
    have Cs := hide (H.dsk.sta keep cut (.slice none 0 0) [] HWc.out.dsk (Lies.nil _ _) (by simp) (by simp) (by omega) hkp.2)
    rw [HLS.out.1] at Cs
    have HON := hide (sta_facts (d := faiD (armD da (-1))) rfl keep cut)
    clear hc hWc hFc hBc HBb HFb HWb
    generalize staD (faiD (armD da (-1))) keep cut [] = ds at *
    go_wp2_with fail
    refine Cs.out.mono ?_
    rintro e wd ⟨rfl, hd⟩
    obtain ⟨Fd, hWd, hFd, hBd⟩ := SinceL.did HBc.out HFc.out (HWc.out.did hd)
    have HBd := hide hBd
    have HFd := hide hFd
    have Cd := hide (wopen_any H.dsk H.scn H.dec H.siz hWd.dsk HON.out.1 (by have := HON.out.2; omega))
    clear hd hWd hFd hBd Cs y3 y4 HBc HFc HWc
    go_wp2_with fail
    refine Cd.out.mono ?_
    rintro e we ⟨p2, ve, rfl, ns, Fe, hns, _, hWe, hke, hFe, hHe, hnl⟩
    have hHn := Sup.now hHe
    have HSM : Hid (RSrc recVE we ve ns ∧ (∀ r ∈ ns, RvLie we r)) := hide ⟨RSrc.of_own hHn.1, hHn.2⟩
    obtain ⟨aM, cM, eM, _⟩ := owns_shapeR hHn.1
    subst eM
    have HBe : Hid (Below w2.heap.size w2 we) := hide (HBd.out.trans (hke.below HBd.out.size HFd.out))
    obtain ⟨M, hM⟩ : ∃ M, M = rows ns := ⟨_, rfl⟩
    have HM := hide hM
    have HML : Hid (M.length = ns.length) := hide (by rw [hM, rows_len])
    rw [← hns, ← hM] at HLS
    replace HLS := hide HLS.out.2
    clear hns hWe hke hFe hHe hHn hM Cd HBd HFd HON
    have HSL : Hid (∀ r ∈ ns, SlOk r) := hide (fun r hr => (HSM.out.2 r hr).sl12)
    obtain ⟨LM, hLM⟩ : ∃ LM, LM = ns.length := ⟨_, rfl⟩
    have CO : Hid (∀ W, Below we.heap.size we W → Calls Tryz.prog 27 #[.slice aM ns.length cM] W fun e w' => ∃ v', e = .returned v' ∧ w'.ownsRow W.heap.size 89 31 v' ns.length (flat recVE ns) ∧ Below W.heap.size W w') := hide (fun W hB => ours12_any _ ns W (HSM.out.1.below hB) HSL.out (by omega))
    clear hLM
    go_wp2_with fail
    refine (CO.out we (Below.refl _ _)).mono ?_
    rintro e wf ⟨vf, rfl, hof, hBf⟩
    have HRf := hide (RSrc.of_own hof)
    obtain ⟨af, cf, ef, _⟩ := owns_shapeR hof
    subst ef
    have HBef := hide hBf
    have HBf := hide (HBe.out.trans (hBf.mono HBe.out.size))
    clear hof hBf
    go_wp2_with fail
    refine (same12_any HS _ _ ns ys wf HRf.out (HS1.out.1.below HBf.out) (fun r hr => (HSM.out.2 r hr).below HBef.out) (fun r hr => (HS1.out.2.1 r hr).below HBf.out)).mono ?_
    rintro e wg ⟨rfl, hBg⟩
    rw [← HM.out, ← HY.out]
    have HBg := hide (HBf.out.trans (hBg.mono HBf.out.size))
    have HBeg := hide (HBef.out.trans (hBg.mono HBef.out.size))
    clear hBg HRf
    obtain ⟨g', hg'⟩ : ∃ g', g' = g := ⟨_, rfl⟩
    rcases HLS.out with ⟨hg, hm⟩ | hrest
    ·subst hg
     have HJ : Hid (decide (M = Y) = true) := hide (by simp [hm])
     rw [HJ.out]
     clear hg' hm HLS
     go_wp2_with fail
     refine (CA.out wg).mono ?_
     rintro e wh ⟨rfl, hBh⟩
     have HE := hide (HBW.out.trans ((HBg.out.trans (hBh.mono HBg.out.size)).mono HBW.out.size))
     clear hBh
     go_wp2_with fail
     go_ret
     exact ⟨rfl, HE.out⟩
    ·have hg0 : (g == 0) = false := by rcases hrest with ⟨h, _⟩ | ⟨h, _⟩ <;> (rw [h]; rfl)
     have HHR := hide hrest
     obtain ⟨J, hJ⟩ : ∃ J, J = decide (M = Y) := ⟨_, rfl⟩
     have HJ := hide hJ
     rw [← hJ]
     have hLM : ns.length ≤ 65536 := hnl
     have hLO : os.length ≤ 8 := hl0
     have hLY : ys.length ≤ 8 := hl1
     have HLL : Hid (M.length = ns.length ∧ O.length = os.length ∧ Y.length = ys.length) := hide ⟨HML.out, HLO.out.1, HLO.out.2⟩
     clear hJ hrest HLS hg' HML HLO
     obtain ⟨mr, hmr⟩ : ∃ mr, mr = (ns.length : Int) - (os.length : Int) := ⟨_, rfl⟩
     have hsub : IntKind.i64.wrap ((ns.length : Int) - (os.length : Int)) = mr := by rw [IntKind.wrap_i64, hmr]; omega
     have hsub2 : (ns.length : Int) - (os.length : Int) = mr := hmr.symm
     have HMR := hide hmr
     clear hmr
     by_cases hneg : mr < 0
     ·have HJT : Hid (J = true ∧ g = 10) := hide (by
       have h1 := HLL.out
       have h2 := HMR.out
       rcases HHR.out with ⟨hg, ⟨j, hj, hm⟩ | hm⟩ | ⟨hg, hm⟩
       ·exfalso
        have := congrArg List.length hm
        rw [List.length_append] at this
        omega
       ·exact ⟨by rw [HJ.out]; simp [hm], hg⟩
       ·exfalso
        have := congrArg List.length hm
        omega)
      obtain ⟨hj1, hg1⟩ := HJT.out
      subst hj1; subst hg1
      have qge : ∀ W, (binOp .geq 3 (.int .i64 mr) (.int .i64 0)).run Tryz.prog W = .ok (.bool false) W := fun W => by
       have h : decide (mr ≥ 0) = false := decide_eq_false (by omega)
       simp [go_sem, h]
      clear HJT HHR HJ hg0
      generalize ns.length = LM at *
      generalize os.length = LO at *
      generalize ys.length = LY at *
      go_wp2_with fail
      refine wp_region_vals (by kernel_rfl) [(112, .int .i64 mr), (113, .bool false), (114, .bool false), (115, undef), (116, undef), (117, undef), (118, undef), (119, .bool false), (120, .bool false), (121, undef), (122, undef), (123, undef), (124, undef), (125, undef), (126, undef), (127, undef), (128, undef), (129, undef), (130, .bool false), (18, .bool false)] (by kernel_rfl) rfl ?_ ?_
      ·intro i o hi A w1 hB hold hdeps
       have hlt : i < 20 := (Array.getElem?_eq_some_iff.1 hi).1
       have hc : i = 0 ∨ i = 1 ∨ i = 2 ∨ i = 3 ∨ i = 4 ∨ i = 5 ∨ i = 6 ∨ i = 7 ∨ i = 8 ∨ i = 9 ∨ i = 10 ∨ i = 11 ∨ i = 12 ∨ i = 13 ∨ i = 14 ∨ i = 15 ∨ i = 16 ∨ i = 17 ∨ i = 18 ∨ i = 19 := by omega
       clear hlt
       rcases hc with rfl | rfl | rfl | rfl | rfl | rfl | rfl | rfl | rfl | rfl | rfl | rfl | rfl | rfl | rfl | rfl | rfl | rfl | rfl | rfl
       ·obtain rfl := Option.some.inj hi
        have s17 : A.tmps.getD 17 undef = .int .i64 mr := hold 17 (by kernel_rfl)
        exact r_pure hi rfl rfl (y_move _ s17)
       ·obtain rfl := Option.some.inj hi
        have s112 : A.tmps.getD 112 undef = .int .i64 mr := dep_of hdeps 0 (by kernel_rfl)
        exact r_pure hi rfl rfl (y_bin _ _ _ _ _ s112 rfl (qge w1) (by kernel_rfl))
       ·obtain rfl := Option.some.inj hi
        have s113 : A.tmps.getD 113 undef = .bool false := dep_of hdeps 1 (by kernel_rfl)
        exact r_pure hi rfl rfl (y_move _ s113)
       ·obtain rfl := Option.some.inj hi
        have g3 : A.tmps.getD 114 undef = .bool false := dep_of hdeps 2 (by kernel_rfl)
        exact each_skip hi rfl rfl (fun e => absurd (g3.symm.trans e) (by simp)) rfl
       ·obtain rfl := Option.some.inj hi
        have g4 : A.tmps.getD 114 undef = .bool false := dep_of hdeps 2 (by kernel_rfl)
        exact each_skip hi rfl rfl (fun e => absurd (g4.symm.trans e) (by simp)) rfl
       ·obtain rfl := Option.some.inj hi
        have g5 : A.tmps.getD 114 undef = .bool false := dep_of hdeps 2 (by kernel_rfl)
        exact each_skip hi rfl rfl (fun e => absurd (g5.symm.trans e) (by simp)) rfl
       ·obtain rfl := Option.some.inj hi
        have g6 : A.tmps.getD 114 undef = .bool false := dep_of hdeps 2 (by kernel_rfl)
        exact each_skip hi rfl rfl (fun e => absurd (g6.symm.trans e) (by simp)) rfl
       ·obtain rfl := Option.some.inj hi
        have s114 : A.tmps.getD 114 undef = .bool false := dep_of hdeps 2 (by kernel_rfl)
        exact r_pure hi rfl rfl (y_pickF _ _ _ s114 rfl)
       ·obtain rfl := Option.some.inj hi
        have s119 : A.tmps.getD 119 undef = .bool false := dep_of hdeps 7 (by kernel_rfl)
        exact r_pure hi rfl rfl (y_move _ s119)
       ·obtain rfl := Option.some.inj hi
        have g9 : A.tmps.getD 120 undef = .bool false := dep_of hdeps 8 (by kernel_rfl)
        exact each_skip hi rfl rfl (fun e => absurd (g9.symm.trans e) (by simp)) rfl
       ·obtain rfl := Option.some.inj hi
        have g10 : A.tmps.getD 120 undef = .bool false := dep_of hdeps 8 (by kernel_rfl)
        exact each_skip hi rfl rfl (fun e => absurd (g10.symm.trans e) (by simp)) rfl
       ·obtain rfl := Option.some.inj hi
        have g11 : A.tmps.getD 120 undef = .bool false := dep_of hdeps 8 (by kernel_rfl)
        exact each_skip hi rfl rfl (fun e => absurd (g11.symm.trans e) (by simp)) rfl
       ·obtain rfl := Option.some.inj hi
        have g12 : A.tmps.getD 120 undef = .bool false := dep_of hdeps 8 (by kernel_rfl)
        exact each_skip hi rfl rfl (fun e => absurd (g12.symm.trans e) (by simp)) rfl
       ·obtain rfl := Option.some.inj hi
        have g13 : A.tmps.getD 120 undef = .bool false := dep_of hdeps 8 (by kernel_rfl)
        exact each_skip hi rfl rfl (fun e => absurd (g13.symm.trans e) (by simp)) rfl
       ·obtain rfl := Option.some.inj hi
        have g14 : A.tmps.getD 120 undef = .bool false := dep_of hdeps 8 (by kernel_rfl)
        exact each_skip hi rfl rfl (fun e => absurd (g14.symm.trans e) (by simp)) rfl
       ·obtain rfl := Option.some.inj hi
        have g15 : A.tmps.getD 120 undef = .bool false := dep_of hdeps 8 (by kernel_rfl)
        exact each_skip hi rfl rfl (fun e => absurd (g15.symm.trans e) (by simp)) rfl
       ·obtain rfl := Option.some.inj hi
        have g16 : A.tmps.getD 120 undef = .bool false := dep_of hdeps 8 (by kernel_rfl)
        exact each_skip hi rfl rfl (fun e => absurd (g16.symm.trans e) (by simp)) rfl
       ·obtain rfl := Option.some.inj hi
        have g17 : A.tmps.getD 120 undef = .bool false := dep_of hdeps 8 (by kernel_rfl)
        exact each_skip hi rfl rfl (fun e => absurd (g17.symm.trans e) (by simp)) rfl
       ·obtain rfl := Option.some.inj hi
        have s120 : A.tmps.getD 120 undef = .bool false := dep_of hdeps 8 (by kernel_rfl)
        exact r_pure hi rfl rfl (y_pickF _ _ _ s120 rfl)
       ·obtain rfl := Option.some.inj hi
        have s130 : A.tmps.getD 130 undef = .bool false := dep_of hdeps 18 (by kernel_rfl)
        exact r_pure hi rfl rfl (y_assign _ s130)
      ·intro wi hBi
       simp only [putAll, Act.put, List.setIfInBounds_toArray, List.set_cons_succ, List.set_cons_zero]
       have HBi := hide (HBg.out.trans (hBi.mono HBg.out.size))
       clear hBi
       go_wp2_with fail
       refine (CA.out wi).mono ?_
       rintro e wh ⟨rfl, hBh⟩
       have HE := hide (HBW.out.trans ((HBi.out.trans (hBh.mono HBi.out.size)).mono HBW.out.size))
       clear hBh
       go_wp2_with fail
       go_ret
       exact ⟨rfl, HE.out⟩
     ·obtain ⟨k, hk⟩ : ∃ k : Nat, mr = (k : Int) := ⟨mr.toNat, by omega⟩
      subst hk
      have hkl : k ≤ ys.length ∧ ns.length = os.length + k := by
       have h1 := HLL.out
       have h2 := HMR.out
       rcases HHR.out with ⟨hg, ⟨j, hj, hm⟩ | hm⟩ | ⟨hg, hm⟩
       ·have := congrArg List.length hm
        rw [List.length_append, List.length_take] at this
        omega
       ·have := congrArg List.length hm
        omega
       ·have := congrArg List.length hm
        omega
      have hk1 := hkl.1
      have HKL := hide hkl.2
      clear hkl
      obtain ⟨zs, hzs⟩ : ∃ zs, zs = os ++ ys.take k := ⟨_, rfl⟩
      obtain ⟨LZ, hLZ⟩ : ∃ LZ, LZ = zs.length := ⟨_, rfl⟩
      have HZE : Hid (os ++ ys.take k = zs ∧ zs.length = LZ) := hide ⟨hzs.symm, hLZ.symm⟩
      clear hzs hLZ
      have HRW : Hid (decide (rows ns = rows zs) = decide (M = O ++ Y.take k)) := hide (by
       rw [HM.out, HO.out, HY.out, ← HZE.out.1]
       unfold rows
       rw [List.map_append, List.map_take])
      obtain ⟨hd, hhd⟩ : ∃ hd, hd = decide (M = O ++ Y.take k) := ⟨_, rfl⟩
      rw [← hhd] at HRW
      have HFIN : Hid ((g = 10 ∧ (hd = true ∨ J = true)) ∨ (g = 1 ∧ hd = true ∧ k = 0)) := hide (by
       have h1 := HLL.out
       rcases HHR.out with ⟨hg, ⟨j, hj, hm⟩ | hm⟩ | ⟨hg, hm⟩
       ·refine .inl ⟨hg, .inl ?_⟩
        have := congrArg List.length hm
        rw [List.length_append, List.length_take] at this
        have hjk : j = k := by have := HKL.out; omega
        rw [hhd, hm, hjk]
        simp
       ·exact .inl ⟨hg, .inr (by rw [HJ.out]; simp [hm])⟩
       ·have := congrArg List.length hm
        have hk0 : k = 0 := by have := HKL.out; omega
        exact .inr ⟨hg, by rw [hhd, hm, hk0]; simp, hk0⟩)
      have HLB : Hid (∀ W, Below we.heap.size we W → ∀ r ∈ zs, RvLie W r) := hide (fun W hB r hr => by
       rw [← HZE.out.1] at hr
       have hB2 := HBe.out.trans (hB.mono HBe.out.size)
       rcases List.mem_append.1 hr with h | h
       ·exact (HS0.out.2.1 r h).below hB2
       ·exact (HS1.out.2.1 r (List.mem_of_mem_take h)).below hB2)
      have HYK : Hid (RSrc recVE w2 (.slice yo k yc) (ys.take k)) := hide (src_takeR HS1.out.1 recRV.len hk1)
      have HOS : Hid (RSrc recVE w2 (.slice oo os.length oc) os) := hide HS0.out.1
      have HY1 : Hid (∀ x ∈ ys.take k, ∀ u ∈ recVE x, u.oneCell' = true) := hide (fun x hx => rv_one (HS1.out.2.2 x (List.mem_of_mem_take hx)))
      have HO1 : Hid (∀ x ∈ os, ∀ u ∈ recVE x, u.oneCell' = true) := hide (fun x hx => rv_one (HS0.out.2.2 x hx))
      have hty : (ys.take k).length ≤ 8 := by rw [List.length_take]; omega
      have hto := fun W => run_toR recRV W yo ys.length yc k (by omega)
      have HBc : Hid (Below we.heap.size we wg.drew) := hide (HBeg.out.trans ((below_drewN7 wg 1).mono HBeg.out.size))
      have hle1 : decide ((k : Int) ≤ (ys.length : Int)) = true := decide_eq_true (by omega)
      have hle2 : (k : Int) ≤ (ys.length : Int) := by omega
      have hge1 : decide ((k : Int) ≥ 0) = true := decide_eq_true (by omega)
      have hkI : (k : Int) ≤ 9 := by omega
      clear hhd HHR HJ hneg
      go_wp2_with fail
      first | (go_region_held_law (fun _ => True) (trivial) ((first
       | (go_at_call 27; refine (CO.out _ HBc.out).mono ?_; rintro e wx ⟨vx, rfl, hox, hBx⟩; have HRo := hide (owns_base hox HBc.out.size); (try have HNE := hide (ne_new hox HOa.out)); (try replace HOa := hide (owns_keep HOa.out (KeepBut.of_below (fun _ => False) hBx) (fun _ _ h => h))); (try replace HOb := hide (owns_keep HOb.out (KeepBut.of_below (fun _ => False) hBx) (fun _ _ h => h))); replace HBc := hide (HBc.out.trans (hBx.mono HBc.out.size)); obtain ⟨ax, cx, ex, _⟩ := owns_shapeR hox; subst ex; clear hox hBx)
       | (go_at_call 26; refine (same12_any HS _ _ ns zs _ (RSrc.of_own HRo.out) (RSrc.of_own (by rw [HZE.out.2]; exact HOb.out)) (fun r hr => (HSM.out.2 r hr).below HBc.out) (HLB.out _ HBc.out)).mono ?_; rintro e wy ⟨rfl, hBy⟩; rw [HRW.out]; replace HBc := hide (HBc.out.trans (hBy.mono HBc.out.size)); clear hBy)
       | (refine step_recs_g recRV _ rfl _ _ rfl we.heap.size _ _ os (ys.take k) rfl HOa.out rfl ((HYK.out).below (HBe.out.trans (HBc.out.mono HBe.out.size))) HY1.out (by omega) HBc.out.size ?_; intro vb wb hob hgb hvb; rw [HZE.out.1, HZE.out.2] at hob; (try replace HRo := hide (owns_keep HRo.out (kept_gr hgb) HNE.out)); replace HBc := hide (HBc.out.grown hgb HBc.out.size (fun j hj => (HOa.out.lt j hj).1)); obtain ⟨ab, cb, eb, _⟩ := owns_shapeR hob; subst eb; have HOb := hide hob; clear hob hgb hvb)
       | (refine step_recs_g recRV _ rfl _ _ rfl we.heap.size (.slice none 0 0) _ [] os rfl (World.ownsRow_nil _ _ _ _) rfl ((HOS.out).below (HBe.out.trans (HBc.out.mono HBe.out.size))) HO1.out (by simp; omega) HBc.out.size ?_; intro va wa hoa hga hva; rw [List.nil_append] at hoa; (try have HNE := hide (ne_old HRo.out hva)); (try replace HRo := hide (owns_keep HRo.out (kept_gr hga) (fun _ _ h => by cases h))); replace HBc := hide (HBc.out.grown hga HBc.out.size (fun j hj => by cases hj)); obtain ⟨aa, ca, ea, _⟩ := owns_shapeR hoa; subst ea; have HOa := hide hoa; clear hoa hga hva)))) | fail
      have HBz := hide (HBW.out.trans ((HBe.out.trans (HBc.out.mono HBe.out.size)).mono HBW.out.size))
      have hff := HFIN.out
      clear HFIN HRW HLB HYK HOS HY1 HO1 hto HOa HOb HRo HNE hle1 hle2 hge1
      have hall : ∃ b1 b2, hd = b1 ∧ J = b2 ∧ ((g = 10 ∧ (b1 = true ∨ b2 = true)) ∨ (g = 1 ∧ b1 = true ∧ k = 0)) := ⟨hd, J, rfl, rfl, hff⟩
      clear hff
      obtain ⟨b1, b2, e1, e2, hh⟩ := hall
      subst e1; subst e2
      rcases hh with ⟨hg, hh | hh⟩ | ⟨hg, hh, hk0⟩
      ·subst hh; subst hg
       go_wp2_with fail
       refine (CA.out _).mono ?_
       rintro e wh ⟨rfl, hBh⟩
       have HE := hide (HBz.out.trans (hBh.mono HBz.out.size))
       clear hBh
       go_wp2_with fail
       go_ret
       exact ⟨rfl, HE.out⟩
      ·subst hh; subst hg
       cases hd
       all_goals
        go_wp2_with fail
        refine (CA.out _).mono ?_
        rintro e wh ⟨rfl, hBh⟩
        have HE := hide (HBz.out.trans (hBh.mono HBz.out.size))
        clear hBh
        go_wp2_with fail
        go_ret
        exact ⟨rfl, HE.out⟩
      ·subst hh; subst hg; subst hk0
       go_wp2_with fail
       refine (CA.out _).mono ?_
       rintro e wh ⟨rfl, hBh⟩
       have HE := hide (HBz.out.trans (hBh.mono HBz.out.size))
       clear hBh
       go_wp2_with fail
       go_ret
       exact ⟨rfl, HE.out⟩
  ·go_wp2_with fail
   refine C5.out.mono ?_
   rintro e w6 ⟨rfl, h6⟩
   obtain ⟨F6, hW6, hF6, hB6⟩ := SinceL.did HB5.out HF4.out h6
   have HB6 := hide (HBW.out.trans (hB6.mono HBW.out.size))
   clear h6 hW6 hF6 hB6 C5
   go_wp2_with fail
   refine (CA.out w6).mono ?_
   rintro e we ⟨rfl, hB⟩
   have HBE := hide (HB6.out.trans (hB.mono HB6.out.size))
   clear hB
   go_wp2_with fail
   go_ret
   exact ⟨rfl, HBE.out⟩
end
end
section
open Go.RowKit Go.ChangeShapes Go.WideShapes Go.ChangeAt
namespace DAgain
set_option maxRecDepth 100000 in
theorem lifted (os : Os) (started : os.Started) (H : Type) (enc : TypeId × Value → H) :
  ReturnsInHanded {} Tryz.checked os 5 .any (Rows.walAgainSpec.pre6 enc Tryz.prog Tryz.f5 Rows.walAgainRow.domain false) (Rows.walAgainSpec.post enc Tryz.prog Tryz.f5 false true false false) := by
 refine returnsInHanded_of_change_sized (C := Tryz.checked) own started (by kernel_rfl) Tryz.func5
  (ChangeSpec.witness6 (enc := enc) (C := Tryz.checked) false ⟨#[], #[.slice none 0 0, .slice none 0 0, .agg #[.int .u8 0, .slice none 0 0, .int .i64 0, .int .i64 0, .bool false, .slice none 0 0]], []⟩ 8 (by kernel_rfl) (by kernel_rfl) (by kernel_rfl) (by kernel_rfl)) ?_
 intro W base args ds gs before hval0 hW hcnd hsz _
 have hval : ∀ (j : Nat) t v, Tryz.f5.params[j]? = some t → args[j]? = some v → Value.okWide Tryz.prog W .any base t v := hval0
 have hW' := hW
 obtain ⟨p, q, hA0, hV, rfl, hfz, hnd⟩ := hW
 have hA : DataW.TrodAll enc Tryz.prog W 0 (fun _ => true) true Tryz.f5.params.toList args.toList ds p := hA0
 have hsz2 : ∀ (j : Nat) (t : TypeId) (d : DataW H), Tryz.f5.params.toList[j]? = some t → ds[j]? = some d → ∀ n ∈ d.weights Tryz.prog t, n ≤ 140737488351232 := fun j t d ht hd n hn => by
  have h1 := List.all_eq_true.1 hsz n (DataW.weights_mem_each (j := j) (t := t) (d := d) (by rw [List.getElem?_append_left (List.getElem?_eq_some_iff.1 ht).1]; exact ht) (by rw [List.getElem?_append_left (List.getElem?_eq_some_iff.1 hd).1]; exact hd) n hn)
  have h2 : n ≤ reachBytes := by simpa using h1
  have h3 : reachBytes = 140737488351232 := rfl
  omega
 rw [Tryz.params5] at hA hval hsz2
 obtain ⟨v0, vs0, d0, ds0, p0, q0, hargs, rfl, rfl, h0, r0⟩ := trodAll_cons hA
 obtain ⟨v1, vs1, d1, ds1, p1, q1, rfl, rfl, rfl, h1, r1⟩ := trodAll_cons r0
 obtain ⟨v2, vs2, d2, ds2, p2, q2, rfl, rfl, rfl, h2, r2⟩ := trodAll_cons r1
 obtain ⟨rfl, rfl, rfl⟩ := trodAll_nil r2
 obtain rfl : args = #[v0, v1, v2] := by cases args; simp_all
 obtain ⟨rfl, rfl⟩ := trodVars_none hV
 obtain ⟨a0, len0, cap0, rfl⟩ := okWide_slice Tryz.underlying41 (hval 0 41 v0 rfl rfl)
 have k0 := h0
 have lt0 : ∀ x ∈ p0, x.block < W.heap.size := by obtain ⟨m, hm⟩ := k0; exact DataW.trod_lt m _ _ _ hm
 obtain ⟨xs0, lies0, by0⟩ := rrecs_of_trod h0
 obtain ⟨a1, len1, cap1, rfl⟩ := okWide_slice Tryz.underlying41 (hval 1 41 v1 rfl rfl)
 have k1 := h1
 have lt1 : ∀ x ∈ p1, x.block < W.heap.size := by obtain ⟨m, hm⟩ := k1; exact DataW.trod_lt m _ _ _ hm
 obtain ⟨xs1, lies1, by1⟩ := rrecs_of_trod h1
 have k2 := h2
 have lt2 : ∀ x ∈ p2, x.block < W.heap.size := by obtain ⟨m, hm⟩ := k2; exact DataW.trod_lt m _ _ _ hm
 obtain ⟨ac2, rfl, ok2⟩ := wact_of_trod (hval 2 46 v2 rfl rfl) h2
 clear hA0 hval0
 refine (walkG12 wal_do rsame_do _ _ xs0 xs1 ac2 W lies0 lies1 by0 by1 ok2).mono fun e W' ⟨he, bel⟩ => ?_
 subst he
 exact ⟨_, rfl, _, _, _, [], _, [], hW', trodAll_mk1 (shut_bool Tryz.underlying4 _), (trodAll_cons_mk (Below.trod laidOut (by kernel_rfl) (of_decide_eq_true (by kernel_rfl)) k0 bel lt0) (trodAll_cons_mk (Below.trod laidOut (by kernel_rfl) (of_decide_eq_true (by kernel_rfl)) k1 bel lt1) (trodAll_cons_mk (Below.trod laidOut (by kernel_rfl) (of_decide_eq_true (by kernel_rfl)) k2 bel lt2) trodAll_mk0))), rfl, bel.frame _, fun h => by cases h⟩
theorem over : Rows.walAgainRow.holds Tryz.pinned (OpenSpec.ofChange Rows.walAgainSpec) :=
 OpenClaim.holds_of_wide 5 Tryz.f5 rfl rfl rfl rfl rfl rfl rfl ⟨rfl, rfl, rfl, rfl, rfl⟩ rfl rfl rfl rfl rfl (by kernel_rfl) Tryz.func5 (by kernel_rfl)
  (of_decide_eq_true (by kernel_rfl)) (by unfold Func.isWrapper; first | (rw [if_pos (by decide +kernel)]; kernel_rfl) | (rw [if_neg (by decide +kernel)]; exact ⟨rfl, rfl⟩))
  (fun os started H enc _ => lifted os started H enc)
end DAgain
theorem walAgain_holds : Rows.WalAgainSaid := DAgain.over
#print axioms walAgain_holds
end
end Go.Proofs.YtlegliimgjmphaaGreat
