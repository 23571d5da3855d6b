/-
  DiskForced: what was forced is there behind a Start. The walk, by the bundle. Own work.
-/
import Derived.Test.YtjjmcaamgoffiaaDkAlive
import Derived.Test.YtjjmcaamgoffiaaDkRow
import Derived.Test.YtjjmcaamgoffiaaFrCuts
import Derived.Test.YtjjmcaamgoffiaaDkForcedP
import Derived.Test.YtjjmcaamgoffiaaDkFacts
import Derived.Test.YtjjmcaamgoffiaaDkOpen
import Derived.Deep.LoopGhost
namespace Go.Proofs.Ytjjmcaamgoffiaa
open Go.RowKit Go.ChangeShapes Go.WideShapes Go.ChangeAt

section
variable {D : World → Nat → (Nat → Prop) → Dk → Prop}
set_option maxRecDepth 100000 in
set_option maxHeartbeats 3200000 in
theorem walkR (H : DiskDo D) (v v2 : Value) (fs fs2 : List DAct) (la : DAct) (sv0 : Value) (w : World) (hL : DLies w v fs) (hok : ∀ f ∈ fs, f.Ok) (hL2 : DLies w v2 fs2) (hok2 : ∀ f ∈ fs2, f.Ok) (hla : la.Ok) (hLl : Lies .u8 w sv0 la.b) :
    Calls Try.prog 4 #[v, v2, .agg (dcells la sv0)] w fun e w' => e = .returned (.bool true) ∧ Below w.heap.size w w' := by
  obtain ⟨sl, cl, hsl⟩ := hLl.shape
  subst hsl
  have hlm := hLl.len
  unfold maxLen at hlm
  have CA := hide (fun W => alive_by H W)
  have CL := hide (fun W (h : DLies W v fs) => long_any7 v fs W h)
  have CL2 := hide (fun W (h : DLies W v2 fs2) => long_any7 v2 fs2 W h)
  have CS := hide (fun W (h : DLies W v fs) => short_any7 v fs W h)
  have CS2 := hide (fun W (h : DLies W v2 fs2) => short_any7 v2 fs2 W h)
  have HLS := hide hL
  have HLS2 := hide hL2
  obtain ⟨ao0, cap0, hv0, _⟩ := hL.shape
  obtain ⟨ao2, cap2, hv2, _⟩ := hL2.shape
  subst hv0
  subst hv2
  have hokt : ∀ f ∈ fs.take 100, f.Ok := fun f hf => hok f (List.mem_of_mem_take hf)
  have hokt2 : ∀ f ∈ fs2.take 100, f.Ok := fun f hf => hok2 f (List.mem_of_mem_take hf)
  have hal : (fs.take 100).length ≤ 100 := by simp; omega
  have hal2 : (fs2.take 100).length ≤ 100 := by simp; omega
  obtain ⟨ts, hts⟩ : ∃ ts, ts = fs.take 100 := ⟨_, rfl⟩
  obtain ⟨us, hus⟩ : ∃ us, us = fs2.take 100 := ⟨_, rfl⟩
  rw [← hts] at CL CS hokt hal
  rw [← hus] at CL2 CS2 hokt2 hal2
  have HOKT := hide hokt
  have HOKU := hide hokt2
  have hn2 := hla.n2
  unfold dcells
  clear hts hus hok hL hok2 hL2 hokt hokt2 hla hLl
  by_cases hlong : 65536 < bulk ts
  · rw [decide_eq_true hlong] at CL
    go_enter Try.func4, Try.ntmps4
    go_wp2_with fail
    have hB0 := alloc_below7 w (.cells #[.int .u8 (la.kind : Int), .int .i64 la.n, .slice sl la.b.length cl, .bool la.cut] 36)
    have hX0 := box_new w #[.int .u8 (la.kind : Int), .int .i64 la.n, .slice sl la.b.length cl, .bool la.cut] 36
    revert hB0 hX0
    generalize w.alloc (.cells #[.int .u8 (la.kind : Int), .int .i64 la.n, .slice sl la.b.length cl, .bool la.cut] 36) = w1
    intro hB0 hX0
    have HB0 := hide hB0
    have HX := hide hX0
    have HB : Hid (Below w1.heap.size w1 w1) := hide (Below.refl _ _)
    have HT1 := hide (HLS.out.below hB0)
    have HT2 := hide (HLS2.out.below hB0)
    clear hB0 hX0 HLS HLS2
    refine (CL.out w1 HT1.out).mono ?_
    rintro e w2 ⟨rfl, hB⟩
    replace HB := hide (HB.out.trans (hB.mono HB.out.size))
    clear hB CL
    go_wp2_with fail
    refine (CA.out w2).mono ?_
    rintro e we ⟨rfl, hB⟩
    replace HB := hide (HB.out.trans (hB.mono HB.out.size))
    clear hB
    go_wp2_with fail
    go_ret
    exact ⟨rfl, HB0.out.trans (HB.out.mono HB0.out.size)⟩
  · rw [decide_eq_false hlong] at CL
    have HBL : Hid (∀ f ∈ ts, f.b.length ≤ 100000000000000) := hide (fun f hf => by have := bulk_each ts f hf; omega)
    clear hlong
    by_cases hlong2 : 65536 < bulk us
    · rw [decide_eq_true hlong2] at CL2
      go_enter Try.func4, Try.ntmps4
      go_wp2_with fail
      have hB0 := alloc_below7 w (.cells #[.int .u8 (la.kind : Int), .int .i64 la.n, .slice sl la.b.length cl, .bool la.cut] 36)
      have hX0 := box_new w #[.int .u8 (la.kind : Int), .int .i64 la.n, .slice sl la.b.length cl, .bool la.cut] 36
      revert hB0 hX0
      generalize w.alloc (.cells #[.int .u8 (la.kind : Int), .int .i64 la.n, .slice sl la.b.length cl, .bool la.cut] 36) = w1
      intro hB0 hX0
      have HB0 := hide hB0
      have HX := hide hX0
      have HB : Hid (Below w1.heap.size w1 w1) := hide (Below.refl _ _)
      have HT1 := hide (HLS.out.below hB0)
      have HT2 := hide (HLS2.out.below hB0)
      clear hB0 hX0 HLS HLS2
      refine (CL.out w1 HT1.out).mono ?_
      rintro e w2 ⟨rfl, hB⟩
      replace HB := hide (HB.out.trans (hB.mono HB.out.size))
      clear hB CL
      go_wp2_with fail
      refine (CL2.out w2 (HT2.out.below HB.out)).mono ?_
      rintro e w3 ⟨rfl, hB⟩
      replace HB := hide (HB.out.trans (hB.mono HB.out.size))
      clear hB CL2
      go_wp2_with fail
      refine (CA.out w3).mono ?_
      rintro e we ⟨rfl, hB⟩
      replace HB := hide (HB.out.trans (hB.mono HB.out.size))
      clear hB
      go_wp2_with fail
      go_ret
      exact ⟨rfl, HB0.out.trans (HB.out.mono HB0.out.size)⟩
    · rw [decide_eq_false hlong2] at CL2
      have HBU : Hid (∀ f ∈ us, f.b.length ≤ 100000000000000) := hide (fun f hf => by have := bulk_each us f hf; omega)
      clear hlong2
      by_cases hbig : 32768 < la.b.length
      · have dbig : decide ((la.b.length : Int) > 32768) = true := decide_eq_true (by omega)
        go_enter Try.func4, Try.ntmps4
        go_wp2_with fail
        have hB0 := alloc_below7 w (.cells #[.int .u8 (la.kind : Int), .int .i64 la.n, .slice sl la.b.length cl, .bool la.cut] 36)
        have hX0 := box_new w #[.int .u8 (la.kind : Int), .int .i64 la.n, .slice sl la.b.length cl, .bool la.cut] 36
        revert hB0 hX0
        generalize w.alloc (.cells #[.int .u8 (la.kind : Int), .int .i64 la.n, .slice sl la.b.length cl, .bool la.cut] 36) = w1
        intro hB0 hX0
        have HB0 := hide hB0
        have HX := hide hX0
        have HB : Hid (Below w1.heap.size w1 w1) := hide (Below.refl _ _)
        have HT1 := hide (HLS.out.below hB0)
        have HT2 := hide (HLS2.out.below hB0)
        clear hB0 hX0 HLS HLS2
        refine (CL.out w1 HT1.out).mono ?_
        rintro e w2 ⟨rfl, hB⟩
        replace HB := hide (HB.out.trans (hB.mono HB.out.size))
        clear hB CL
        go_wp2_with fail
        refine (CL2.out w2 (HT2.out.below HB.out)).mono ?_
        rintro e w3 ⟨rfl, hB⟩
        replace HB := hide (HB.out.trans (hB.mono HB.out.size))
        clear hB CL2
        have l0 := (HX.out.belowV7 HB.out).cell 0 _ rfl
        have l1 := (HX.out.belowV7 HB.out).cell 1 _ rfl
        have l2 := (HX.out.belowV7 HB.out).cell 2 _ rfl
        have l3 := (HX.out.belowV7 HB.out).cell 3 _ rfl
        go_wp2_with fail
        refine (CA.out w3).mono ?_
        rintro e we ⟨rfl, hB⟩
        replace HB := hide (HB.out.trans (hB.mono HB.out.size))
        clear hB
        go_wp2_with fail
        go_ret
        exact ⟨rfl, HB0.out.trans (HB.out.mono HB0.out.size)⟩
      · have dbig : decide ((la.b.length : Int) > 32768) = false := decide_eq_false (by omega)
        go_enter Try.func4, Try.ntmps4
        go_wp2_with fail
        have hB0 := alloc_below7 w (.cells #[.int .u8 (la.kind : Int), .int .i64 la.n, .slice sl la.b.length cl, .bool la.cut] 36)
        have hX0 := box_new w #[.int .u8 (la.kind : Int), .int .i64 la.n, .slice sl la.b.length cl, .bool la.cut] 36
        revert hB0 hX0
        generalize w.alloc (.cells #[.int .u8 (la.kind : Int), .int .i64 la.n, .slice sl la.b.length cl, .bool la.cut] 36) = w1
        intro hB0 hX0
        have HB0 := hide hB0
        have HX := hide hX0
        have HB : Hid (Below w1.heap.size w1 w1) := hide (Below.refl _ _)
        have HT1 := hide (HLS.out.below hB0)
        have HT2 := hide (HLS2.out.below hB0)
        clear hB0 hX0 HLS HLS2
        refine (CL.out w1 HT1.out).mono ?_
        rintro e w2 ⟨rfl, hB⟩
        replace HB := hide (HB.out.trans (hB.mono HB.out.size))
        clear hB CL
        go_wp2_with fail
        refine (CL2.out w2 (HT2.out.below HB.out)).mono ?_
        rintro e w3 ⟨rfl, hB⟩
        replace HB := hide (HB.out.trans (hB.mono HB.out.size))
        clear hB CL2
        have l0 := (HX.out.belowV7 HB.out).cell 0 _ rfl
        have l1 := (HX.out.belowV7 HB.out).cell 1 _ rfl
        have l2 := (HX.out.belowV7 HB.out).cell 2 _ rfl
        have l3 := (HX.out.belowV7 HB.out).cell 3 _ rfl
        go_wp2_with fail
        clear l0 l1 l2 l3
        refine (H.new 65536 w3 (by decide)).mono ?_
        rintro e w4 ⟨q, F0, rfl, hD, hF, hB⟩
        have HS0 : Hid (Since7 D w1 q (newD 65536) w4) := hide ⟨F0, hD, fun k hk => Nat.le_trans HB.out.size (hF k hk), HB.out.trans (hB.mono HB.out.size)⟩
        replace HB := hide (HB.out.trans (hB.mono HB.out.size))
        clear hB hD hF
        go_wp2_with fail
        refine (CS.out w4 (HT1.out.below HB.out)).mono ?_
        rintro e w5 ⟨v3, rfl, hL3, hw3, hLW⟩
        subst hw3
        obtain ⟨ao3, cap3, hv3, hc3, _, _⟩ := hL3.shape
        subst hv3
        have HLT := hide (hLW w1 HT1.out)
        clear hL3 hLW HB CS HT1
        go_wp2_with fail
        go_loopg [49] ts.length (fun g i wr => ∃ (k : Nat) (d : Dk), k + g = ts.length ∧ i = .int .i64 k ∧ Hid (Since7 D w1 q d wr) ∧ d.bs.length ≤ 65536 * k)
        case atStart => exact ⟨0, newD 65536, by omega, rfl, HS0, by simp [newD]⟩
        case round =>
          obtain ⟨k, d, hk, rfl, HS, hdl⟩ := hrel
          obtain ⟨F, hD, hF, hB⟩ := HS.out
          have HD := hide hD
          have HF := hide hF
          have HB := hide hB
          clear hD hF hB HS HS0
          cases gk with
          | succ g =>
            have hz : (k : Int) < (ts.length : Int) := by omega
            obtain ⟨b, off, cap', sv, e, hb, hLs, c0, c1, c2, c3⟩ := (HLT.out.below HB.out).at k (by omega)
            cases e
            obtain ⟨sa, sc, hsv⟩ := hLs.shape
            subst hsv
            have ha := HOKT.out ts[k] (List.getElem_mem _)
            have hxl := HBL.out ts[k] (List.getElem_mem _)
            generalize ts[k] = a at *
            have HA := hide ha
            have HLA := hide hLs
            have hdl2 : d.bs.length ≤ 100000000 := by omega
            clear hLs ha
            go_wp2_with fail
            have hA := alloc_below7 wr (.cells #[.int .u8 (a.kind : Int), .int .i64 a.n, .slice sa a.b.length sc, .bool a.cut] 36)
            revert hA
            generalize wr.alloc (.cells #[.int .u8 (a.kind : Int), .int .i64 a.n, .slice sa a.b.length sc, .bool a.cut] 36) = W1
            intro hB
            replace HD := hide (H.below HD.out hB)
            replace HB := hide (HB.out.trans (hB.mono HB.out.size))
            replace HLA := hide (HLA.out.below hB)
            clear hB c0 c1 c2 c3 hb
            refine (does_any H q F d a _ W1 HD.out HA.out HLA.out hxl hdl2).mono ?_
            rintro e W2 ⟨rfl, h2⟩
            have HS7 : Hid (Since7 D w1 q (actD d a) W2) := hide (Since7.did HB.out HF.out h2)
            have HLEN := hide (act_len (H.ok HD.out) a)
            clear h2 HLA HF HD HB
            go_wp2_with fail
            go_roundg g
            case measure => omega
            case rel => exact ⟨k + 1, actD d a, by omega, by first | rfl | go_num, HS7, by have := HLEN.out; omega⟩
          | zero =>
            obtain rfl : k = ts.length := by omega
            have hz : ¬ ((ts.length : Int) < (ts.length : Int)) := by omega
            have hokd := H.ok HD.out
            have hca := calm_force d hokd
            obtain ⟨hcf1, hcf2, hcf3, hcf4⟩ := calm_facts d hokd
            have hcl := calm_len hokd
            have HSC := hide (since_calm hokd)
            have HCA := hide hca
            have hdl2 : d.bs.length ≤ 100000000 := by omega
            clear hokd hca hcf4
            go_wp2_with fail
            refine (H.sta 0 false (.slice none 0 0) [] HD.out (Lies.nil _ _) (by simp) (by simp) hdl2 (by decide)).mono ?_
            rintro e W1 ⟨rfl, h1⟩
            have HS1 : Hid (Since7 D w1 q (staD d 0 false []) W1) := hide (Since7.did HB.out HF.out h1)
            clear h1 HD HF HB
            obtain ⟨F1, hD, hF, hB⟩ := HS1.out
            have HD := hide hD
            have HF := hide hF
            have HB := hide hB
            clear hD hF hB HS1
            go_wp2_with fail
            refine (H.arm (-1) HD.out (by decide)).mono ?_
            rintro e W2 ⟨rfl, h1⟩
            have HS1 : Hid (Since7 D w1 q (armD (staD d 0 false []) (-1)) W2) := hide (Since7.did HB.out HF.out h1)
            clear h1 HD HF HB
            obtain ⟨F2, hD, hF, hB⟩ := HS1.out
            have HD := hide hD
            have HF := hide hF
            have HB := hide hB
            clear hD hF hB HS1
            go_wp2_with fail
            have C := H.for' HD.out
            rw [HCA.out] at C
            refine C.mono ?_
            rintro e W3 ⟨rfl, h1⟩
            have HS1 : Hid (Since7 D w1 q (calmD d) W3) := hide (Since7.did HB.out HF.out h1)
            clear h1 HD HF HB C HCA
            obtain ⟨F3, hD, hF, hB⟩ := HS1.out
            have HD := hide hD
            have HF := hide hF
            have HB := hide hB
            clear hD hF hB HS1
            generalize calmD d = d0 at *
            go_wp2_with fail
            have HB4 := hide HB.out.size
            refine (H.bas HD.out).mono ?_
            rintro e W4 ⟨rfl, m, hw⟩
            have hB : Below W3.heap.size W3 W4 := hw ▸ below_drewN7 W3 m
            replace HD := hide (H.below HD.out hB)
            replace HB := hide (HB.out.trans (hB.mono HB.out.size))
            clear hw hB
            replace HB4 := hide HB.out.size
            go_wp2_with fail
            have HLT4 : Hid (∀ k, F3 k → k < W4.heap.size) := hide (H.lt HD.out)
            have hr0 : reaA d0 = 0 := by unfold reaA; rw [hcf1]; rfl
            obtain ⟨wl0, hwl0⟩ : ∃ wl0, wl0 = d0.bs.drop d0.base := ⟨_, rfl⟩
            have hr1 : reaB d0 = wl0 := by unfold reaB; rw [hcf1, hwl0]; rfl
            rw [← hwl0] at HSC
            have C := H.rea HD.out
            rw [hr0, hr1] at C
            refine C.mono ?_
            rintro e W5 ⟨vw, rfl, hO, hB⟩
            replace HD := hide (H.below HD.out hB)
            replace HB := hide (HB.out.trans (hB.mono HB.out.size))
            have HWR : Hid (PRow W5 vw wl0) := hide (.inl (owns_any7 hO))
            have HWF : Hid (∀ g, vw.ownBlock = some g → w1.heap.size ≤ g ∧ ¬ F3 g) := hide (fun g hg => ⟨Nat.le_trans HB4.out (hO.lt g hg).1, fun hf => by have h1 := (hO.lt g hg).1; have h2 := HLT4.out g hf; omega⟩)
            obtain ⟨aw, cw, hvw⟩ := (Lies.of_own hO).shape
            subst hvw
            clear hO hB C hr0 hr1 HLT4 HB4 hwl0
            go_wp2_with fail
            refine (CS2.out W5 (HT2.out.below HB.out)).mono ?_
            rintro e W6 ⟨v6, rfl, hL6, hw6, hLW⟩
            subst hw6
            obtain ⟨ao6, cap6, hv6, hc6, _, _⟩ := hL6.shape
            subst hv6
            have HLU := hide (hLW w1 HT2.out)
            clear hL6 hLW CS2 HT2
            have hd0l : d0.bs.length ≤ 7000000 := by omega
            clear hcl hdl hdl2
            go_wp2_with fail
            go_loopg [12, 14, 75] us.length (fun g x c i wr => ∃ (k : Nat) (d : Dk) (F : Nat → Prop) (cu : Nat) (wl : List Int) (aw : Option Addr) (cw : Nat), k + g = us.length ∧ x = .slice aw wl.length cw ∧ c = .int .i64 (cu : Int) ∧ i = .int .i64 k ∧ Hid (Since d0 d cu wl) ∧ Hid (D wr q F d) ∧ Hid (∀ k, F k → w1.heap.size ≤ k) ∧ Hid (Below w1.heap.size w1 wr) ∧ Hid (PRow wr (.slice aw wl.length cw) wl) ∧ Hid (∀ g, (Value.slice aw wl.length cw).ownBlock = some g → w1.heap.size ≤ g ∧ ¬ F g) ∧ d.bs.length ≤ lim k)
            case atStart => exact ⟨0, d0, F3, d0.base, wl0, aw, cw, by omega, rfl, rfl, rfl, HSC, HD, HF, HB, HWR, HWF, lim_zero hd0l⟩
            case round =>
              obtain ⟨k, d, F, cu, wl, aw, cw, hk, rfl, rfl, rfl, HSI, HD, HF, HB, HWR, HWF, hdl⟩ := hrel
              cases gk with
              | succ g =>
                have hz : (k : Int) < (us.length : Int) := by omega
                obtain ⟨b, off, cap', sv, e, hb, hLs, c0, c1, c2, c3⟩ := HLU.out.at k (by omega)
                cases e
                obtain ⟨sa, sc, hsv⟩ := hLs.shape
                subst hsv
                have ha := HOKU.out us[k] (List.getElem_mem _)
                have hxl := HBU.out us[k] (List.getElem_mem _)
                generalize us[k] = a at *
                have hk8 := ha.k
                have h8 := ha.b
                have H8 := hide h8
                have HLA := hide hLs
                have hdl2 : d.bs.length ≤ 100000000 := by have := lim_le hdl (by omega); omega
                have hl14 := lim_le hdl (by omega)
                have k0 := (HB.out.cell (p := ⟨b, off + k * 4, none⟩) hb).trans c0
                have k1 := (HB.out.cell (p := ⟨b, off + k * 4 + 1, none⟩) hb).trans c1
                have k2 := (HB.out.cell (p := ⟨b, off + k * 4 + 2, none⟩) hb).trans c2
                have k3 := (HB.out.cell (p := ⟨b, off + k * 4 + 3, none⟩) hb).trans c3
                have hrem : (a.kind : Int).tmod 8 = ((a.kind % 8 : Nat) : Int) := by
                  rw [Int.tmod_eq_emod_of_nonneg (by omega)]; omega
                have hrem' : (a.kind : Int) % 8 = ((a.kind % 8 : Nat) : Int) := by omega
                have hr8 : a.kind % 8 < 8 := Nat.mod_lt _ (by decide)
                generalize a.kind % 8 = r at *
                have HFX : Hid (¬ F wr.heap.size) := hide (fun hf => by have := H.lt HD.out _ hf; omega)
                have HA1 := hide (alloc_below7 wr (.cells #[.int .u8 (a.kind : Int), .int .i64 a.n, .slice sa a.b.length sc, .bool a.cut] 36))
                have HX1 := hide (box_new wr #[.int .u8 (a.kind : Int), .int .i64 a.n, .slice sa a.b.length sc, .bool a.cut] 36)
                clear hLs ha h8 c0 c1 c2 c3
                have hcs : r = 0 ∨ r = 6 ∨ r = 2 ∨ (r ≠ 0 ∧ r ≠ 6 ∧ r ≠ 2) := by omega
                rcases hcs with rfl | rfl | rfl | ⟨hr0, hr6, hr2⟩
                · go_wp2_with fail
                  revert HA1 HX1
                  generalize wr.alloc (.cells #[.int .u8 (a.kind : Int), .int .i64 a.n, .slice sa a.b.length sc, .bool a.cut] 36) = W1
                  intro HA1 HX1
                  replace HD := hide (H.below HD.out HA1.out)
                  replace HB := hide (HB.out.trans (HA1.out.mono HB.out.size))
                  replace HWR := hide (HWR.out.below HA1.out)
                  clear HA1 k0 k1 k2 k3 hb
                  have HOKD := hide (H.ok HD.out)
                  refine (H.app _ a.b HD.out (HLA.out.below HB.out) H8.out hxl hdl2).mono ?_
                  rintro e W2 ⟨rfl, F2, hD2, hk2, hF2⟩
                  have HLW : Hid (∀ g, (Value.slice aw wl.length cw).ownBlock = some g → g < W1.heap.size) := hide (fun g hg => HWR.out.lt hg)
                  replace HWR := hide (HWR.out.keep hk2 (fun g hg => (HWF.out g hg).2))
                  replace HX1 := hide (HX1.out.keep hk2 HFX.out)
                  replace HWF := hide (fun g hg => ⟨(HWF.out g hg).1, fun hf => by rcases hF2 g hf with h | h; exact (HWF.out g hg).2 h; have := HLW.out g hg; omega⟩ : ∀ g, (Value.slice aw wl.length cw).ownBlock = some g → w1.heap.size ≤ g ∧ ¬ F2 g)
                  have HF2 : Hid (∀ k, F2 k → w1.heap.size ≤ k) := hide (fun k hk => by
                    rcases hF2 k hk with h | h
                    · exact HF.out k h
                    · exact Nat.le_trans HB.out.size h)
                  replace HB := hide (HB.out.trans (hk2.below HB.out.size HF.out))
                  replace HD := hide hD2
                  replace HF := HF2
                  clear hD2 hk2 hF2 HF2 HLW HFX
                  have HAL := hide (app_len HOKD.out a.b)
                  by_cases hA : (appA d a.b).2 = 0
                  · have HSN := hide (since_app HSI.out a.b H8.out hA)
                    rw [hA]
                    have HLIM := lim_step hdl HAL.out
                    generalize (appA d a.b).1 = r1
                    generalize appD d a.b = d' at *
                    have x2 := HX1.out.cell 2 _ rfl
                    have hwl := since_want_len HSI.out
                    have hab : a.b.length ≤ 100000000000000 := hxl
                    clear hA HAL HSI HOKD
                    obtain ⟨wl2, hwl2⟩ : ∃ wl2, wl2 = wl ++ a.b := ⟨_, rfl⟩
                    rw [← hwl2] at HSN
                    have HWL := hide hwl2
                    clear hwl2
                    go_wp2_with (at_builtin; refine append_prow _ rfl _ _ rfl (.slice aw wl.length cw) (.slice sa a.b.length sc) wl a.b rfl HWR.out rfl (HLA.out.below HB.out) (by omega) ?_; intro v3 W3 hr3 hg3 hp3; rw [← HWL.out] at hr3; have HR3 := hide hr3; have HG3 := hide hg3; have HP3 := hide hp3; obtain ⟨aw3, cw3, hv3⟩ := hr3.lies.shape; subst hv3; clear hr3 hg3 hp3)
                    have HLT2 := hide (H.lt HD.out)
                    have hk3 : KeepBut (fun k => (Value.slice aw wl.length cw).ownBlock = some k) W2 W3 := grown_keep7 HG3.out (fun _ e => e)
                    have HWFO := HWF
                    replace HWF := hide (fun g hg => by
                      rcases HP3.out with e | e
                      · exact HWF.out g (by rw [← e]; exact hg)
                      · have h1 := e g hg
                        exact ⟨Nat.le_trans HB.out.size h1, fun hf => by have := HLT2.out g hf; omega⟩ : ∀ g, (Value.slice aw3 wl2.length cw3).ownBlock = some g → w1.heap.size ≤ g ∧ ¬ F2 g)
                    replace HD := hide (H.keep HD.out hk3 (fun k hf e => (HWFO.out k e).2 hf))
                    replace HB := hide (HB.out.trans (hk3.below HB.out.size (fun k e => (HWFO.out k e).1)))
                    replace HWR := HR3
                    clear hk3 HG3 HP3 HLT2 HWFO HR3
                    go_roundg g
                    case measure => omega
                    case rel => exact ⟨k + 1, d', F2, cu, wl2, aw3, cw3, by omega, rfl, by first | rfl | exact congrArg (Value.int .i64) rfl, by first | rfl | go_num, HSN, HD, HF, HB, HWR, HWF, HLIM⟩
                  · have HDN : Hid (appD d a.b = d) := hide (since_app_no HSI.out a.b hA)
                    rw [HDN.out] at HD
                    have hA0 : ((appA d a.b).2 == 0) = false := by simpa using hA
                    generalize (appA d a.b).1 = r1
                    generalize (appA d a.b).2 = r2 at *
                    clear hA HAL HOKD
                    have HLIM := lim_step hdl (Nat.le_add_right _ _)
                    go_wp2_with fail
                    go_roundg g
                    case measure => omega
                    case rel => exact ⟨k + 1, d, F2, cu, wl, aw, cw, by omega, rfl, by first | rfl | exact congrArg (Value.int .i64) rfl, by first | rfl | go_num, HSI, HD, HF, HB, HWR, HWF, HLIM⟩
                · go_wp2_with fail
                  revert HA1 HX1
                  generalize wr.alloc (.cells #[.int .u8 (a.kind : Int), .int .i64 a.n, .slice sa a.b.length sc, .bool a.cut] 36) = W1
                  intro HA1 HX1
                  replace HD := hide (H.below HD.out HA1.out)
                  replace HB := hide (HB.out.trans (HA1.out.mono HB.out.size))
                  replace HWR := hide (HWR.out.below HA1.out)
                  clear HA1 k0 k1 k2 k3 hb
                  have HOKD := hide (H.ok HD.out)
                  refine (H.app _ a.b HD.out (HLA.out.below HB.out) H8.out hxl hdl2).mono ?_
                  rintro e W2 ⟨rfl, F2, hD2, hk2, hF2⟩
                  have HLW : Hid (∀ g, (Value.slice aw wl.length cw).ownBlock = some g → g < W1.heap.size) := hide (fun g hg => HWR.out.lt hg)
                  replace HWR := hide (HWR.out.keep hk2 (fun g hg => (HWF.out g hg).2))
                  replace HX1 := hide (HX1.out.keep hk2 HFX.out)
                  replace HWF := hide (fun g hg => ⟨(HWF.out g hg).1, fun hf => by rcases hF2 g hf with h | h; exact (HWF.out g hg).2 h; have := HLW.out g hg; omega⟩ : ∀ g, (Value.slice aw wl.length cw).ownBlock = some g → w1.heap.size ≤ g ∧ ¬ F2 g)
                  have HF2 : Hid (∀ k, F2 k → w1.heap.size ≤ k) := hide (fun k hk => by
                    rcases hF2 k hk with h | h
                    · exact HF.out k h
                    · exact Nat.le_trans HB.out.size h)
                  replace HB := hide (HB.out.trans (hk2.below HB.out.size HF.out))
                  replace HD := hide hD2
                  replace HF := HF2
                  clear hD2 hk2 hF2 HF2 HLW HFX
                  have HAL := hide (app_len HOKD.out a.b)
                  by_cases hA : (appA d a.b).2 = 0
                  · have HSN := hide (since_app HSI.out a.b H8.out hA)
                    rw [hA]
                    have HLIM := lim_step hdl HAL.out
                    generalize (appA d a.b).1 = r1
                    generalize appD d a.b = d' at *
                    have x2 := HX1.out.cell 2 _ rfl
                    have hwl := since_want_len HSI.out
                    have hab : a.b.length ≤ 100000000000000 := hxl
                    clear hA HAL HSI HOKD
                    obtain ⟨wl2, hwl2⟩ : ∃ wl2, wl2 = wl ++ a.b := ⟨_, rfl⟩
                    rw [← hwl2] at HSN
                    have HWL := hide hwl2
                    clear hwl2
                    go_wp2_with (at_builtin; refine append_prow _ rfl _ _ rfl (.slice aw wl.length cw) (.slice sa a.b.length sc) wl a.b rfl HWR.out rfl (HLA.out.below HB.out) (by omega) ?_; intro v3 W3 hr3 hg3 hp3; rw [← HWL.out] at hr3; have HR3 := hide hr3; have HG3 := hide hg3; have HP3 := hide hp3; obtain ⟨aw3, cw3, hv3⟩ := hr3.lies.shape; subst hv3; clear hr3 hg3 hp3)
                    have HLT2 := hide (H.lt HD.out)
                    have hk3 : KeepBut (fun k => (Value.slice aw wl.length cw).ownBlock = some k) W2 W3 := grown_keep7 HG3.out (fun _ e => e)
                    have HWFO := HWF
                    replace HWF := hide (fun g hg => by
                      rcases HP3.out with e | e
                      · exact HWF.out g (by rw [← e]; exact hg)
                      · have h1 := e g hg
                        exact ⟨Nat.le_trans HB.out.size h1, fun hf => by have := HLT2.out g hf; omega⟩ : ∀ g, (Value.slice aw3 wl2.length cw3).ownBlock = some g → w1.heap.size ≤ g ∧ ¬ F2 g)
                    replace HD := hide (H.keep HD.out hk3 (fun k hf e => (HWFO.out k e).2 hf))
                    replace HB := hide (HB.out.trans (hk3.below HB.out.size (fun k e => (HWFO.out k e).1)))
                    replace HWR := HR3
                    clear hk3 HG3 HP3 HLT2 HWFO HR3
                    go_roundg g
                    case measure => omega
                    case rel => exact ⟨k + 1, d', F2, cu, wl2, aw3, cw3, by omega, rfl, by first | rfl | exact congrArg (Value.int .i64) rfl, by first | rfl | go_num, HSN, HD, HF, HB, HWR, HWF, HLIM⟩
                  · have HDN : Hid (appD d a.b = d) := hide (since_app_no HSI.out a.b hA)
                    rw [HDN.out] at HD
                    have hA0 : ((appA d a.b).2 == 0) = false := by simpa using hA
                    generalize (appA d a.b).1 = r1
                    generalize (appA d a.b).2 = r2 at *
                    clear hA HAL HOKD
                    have HLIM := lim_step hdl (Nat.le_add_right _ _)
                    go_wp2_with fail
                    go_roundg g
                    case measure => omega
                    case rel => exact ⟨k + 1, d, F2, cu, wl, aw, cw, by omega, rfl, by first | rfl | exact congrArg (Value.int .i64) rfl, by first | rfl | go_num, HSI, HD, HF, HB, HWR, HWF, HLIM⟩
                · go_wp2_with fail
                  revert HA1 HX1
                  generalize wr.alloc (.cells #[.int .u8 (a.kind : Int), .int .i64 a.n, .slice sa a.b.length sc, .bool a.cut] 36) = W1
                  intro HA1 HX1
                  replace HD := hide (H.below HD.out HA1.out)
                  replace HB := hide (HB.out.trans (HA1.out.mono HB.out.size))
                  replace HWR := hide (HWR.out.below HA1.out)
                  clear HA1 k0 k1 k2 k3 hb
                  refine (H.cut a.n HD.out).mono ?_
                  rintro e W2 ⟨rfl, F2, hD2, hk2, hF2⟩
                  have HLW : Hid (∀ g, (Value.slice aw wl.length cw).ownBlock = some g → g < W1.heap.size) := hide (fun g hg => HWR.out.lt hg)
                  replace HWR := hide (HWR.out.keep hk2 (fun g hg => (HWF.out g hg).2))
                  replace HX1 := hide (HX1.out.keep hk2 HFX.out)
                  replace HWF := hide (fun g hg => ⟨(HWF.out g hg).1, fun hf => by rcases hF2 g hf with h | h; exact (HWF.out g hg).2 h; have := HLW.out g hg; omega⟩ : ∀ g, (Value.slice aw wl.length cw).ownBlock = some g → w1.heap.size ≤ g ∧ ¬ F2 g)
                  have HF2 : Hid (∀ k, F2 k → w1.heap.size ≤ k) := hide (fun k hk => by
                    rcases hF2 k hk with h | h
                    · exact HF.out k h
                    · exact Nat.le_trans HB.out.size h)
                  replace HB := hide (HB.out.trans (hk2.below HB.out.size HF.out))
                  replace HD := hide hD2
                  replace HF := HF2
                  clear hD2 hk2 hF2 HF2 HLW HFX
                  have HLIM := lim_step hdl (show (cutD d a.n).bs.length ≤ d.bs.length + 65536 by rw [cut_len]; omega)
                  by_cases hA : cutA d a.n = 0
                  · obtain ⟨n, hn, hSN⟩ := since_cut HSI.out a.n hA
                    have HSN := hide hSN
                    rw [hA]
                    have x1 := HX1.out.cell 1 _ rfl
                    clear hA HSI hSN
                    generalize cutD d a.n = d' at *
                    go_wp2_with fail
                    go_roundg g
                    case measure => omega
                    case rel => exact ⟨k + 1, d', F2, n, wl, aw, cw, by omega, rfl, by first | rfl | exact congrArg (Value.int .i64) hn, by first | rfl | go_num, HSN, HD, HF, HB, HWR, HWF, HLIM⟩
                  · have HDN : Hid (cutD d a.n = d) := hide (since_cut_no HSI.out a.n hA)
                    rw [HDN.out] at HD
                    have hA0 : (cutA d a.n == 0) = false := by simpa using hA
                    generalize cutA d a.n = r2 at *
                    clear hA HLIM
                    have HLIM := lim_step hdl (Nat.le_add_right _ _)
                    go_wp2_with fail
                    go_roundg g
                    case measure => omega
                    case rel => exact ⟨k + 1, d, F2, cu, wl, aw, cw, by omega, rfl, by first | rfl | exact congrArg (Value.int .i64) rfl, by first | rfl | go_num, HSI, HD, HF, HB, HWR, HWF, HLIM⟩
                · have e0 : ((r : Int) == 0) = false := by simp; omega
                  have e6 : ((r : Int) == 6) = false := by simp; omega
                  have e2 : ((r : Int) == 2) = false := by simp; omega
                  go_wp2_with fail
                  replace HD := hide (H.below HD.out HA1.out)
                  replace HB := hide (HB.out.trans (HA1.out.mono HB.out.size))
                  replace HWR := hide (HWR.out.below HA1.out)
                  clear HA1 k0 k1 k2 k3 hb
                  have HLIM := lim_step hdl (Nat.le_add_right _ _)
                  go_roundg g
                  case measure => omega
                  case rel => exact ⟨k + 1, d, F, cu, wl, aw, cw, by omega, rfl, by first | rfl | exact congrArg (Value.int .i64) rfl, by first | rfl | go_num, HSI, HD, HF, HB, HWR, HWF, HLIM⟩
              | zero =>
                obtain rfl : k = us.length := by omega
                have hz : ¬ ((us.length : Int) < (us.length : Int)) := by omega
                have hfe := HSI.out.fe
                go_wp2_with fail
                have C := H.fcd HD.out
                rw [hfe] at C
                refine (C).mono ?_
                rintro e Y1 ⟨rfl, m, hw⟩
                have hB : Below wr.heap.size wr Y1 := hw ▸ below_drewN7 wr m
                replace HD := hide (H.below HD.out hB)
                replace HB := hide (HB.out.trans (hB.mono HB.out.size))
                replace HWR := hide (HWR.out.below hB)
                clear hw hB C
                go_wp2_with fail
                obtain ⟨hsA, e', he', heok, heoff, hebase, helen, hewant, hele, hege, hedrop⟩ := since_start HSI.out la.n la.cut
                have hl14 := lim_le hdl (by omega)
                have hdl2 : d.bs.length ≤ 100000000 := by omega
                refine (H.fai HD.out).mono ?_
                rintro e Y2 ⟨rfl, F2, hD2, hk2, hF2⟩
                have HLW : Hid (∀ g, (Value.slice aw wl.length cw).ownBlock = some g → g < Y1.heap.size) := hide (fun g hg => HWR.out.lt hg)
                replace HWR := hide (HWR.out.keep hk2 (fun g hg => (HWF.out g hg).2))
                replace HWF := hide (fun g hg => ⟨(HWF.out g hg).1, fun hf => by rcases hF2 g hf with h | h; exact (HWF.out g hg).2 h; have := HLW.out g hg; omega⟩ : ∀ g, (Value.slice aw wl.length cw).ownBlock = some g → w1.heap.size ≤ g ∧ ¬ F2 g)
                have HF2 : Hid (∀ k, F2 k → w1.heap.size ≤ k) := hide (fun k hk => by
                  rcases hF2 k hk with h | h
                  · exact HF.out k h
                  · exact Nat.le_trans HB.out.size h)
                replace HB := hide (HB.out.trans (hk2.below HB.out.size HF.out))
                replace HD := hide hD2
                replace HF := HF2
                clear hD2 hk2 hF2 HF2 HLW
                have hbe : (faiD d).bs.length ≤ 100000000 := hdl2
                have l0 := (HX.out.belowV7 HB.out).cell 0 _ rfl
                have l1 := (HX.out.belowV7 HB.out).cell 1 _ rfl
                have l2 := (HX.out.belowV7 HB.out).cell 2 _ rfl
                have l3 := (HX.out.belowV7 HB.out).cell 3 _ rfl
                go_wp2_with fail
                have C := H.sta la.n la.cut (.slice none 0 0) [] HD.out (Lies.nil _ _) (by simp) (by simp) hbe hn2
                rw [hsA, ← he'] at C
                refine C.mono ?_
                rintro e Y3 ⟨rfl, F3', hD2, hk2, hF2⟩
                replace HWR := hide (HWR.out.keep hk2 (fun g hg => (HWF.out g hg).2))
                replace HB := hide (HB.out.trans (hk2.below HB.out.size HF.out))
                replace HD := hide hD2
                clear hD2 hk2 hF2 HF HWF C l0 l1 l2 l3
                have hr0 : reaA e' = 0 := by unfold reaA; rw [heoff]; rfl
                have hr1 : reaB e' = e'.bs.drop e'.base := by unfold reaB; rw [heoff]; rfl
                have HEF := hide (And.intro hebase (And.intro helen (And.intro hewant (And.intro hele (And.intro hege hedrop)))))
                have hd0b : d0.bs.length ≤ 7000000 := hd0l
                have hebl : e'.bs.length ≤ 100000000 := by have := since_want_len HSI.out; have := HSI.out.le; have := HSI.out.ok.b2; omega
                clear hbe hsA he' heok hebase hewant hedrop
                go_wp2_with fail
                have C := H.rea HD.out
                rw [hr0, hr1] at C
                refine C.mono ?_
                rintro e Y4 ⟨vb, rfl, hO, hB⟩
                replace HD := hide (H.below HD.out hB)
                replace HB := hide (HB.out.trans (hB.mono HB.out.size))
                replace HWR := hide (HWR.out.below hB)
                obtain ⟨ab, cb, hvb⟩ := (Lies.of_own hO).shape
                subst hvb
                have HLB := hide (Lies.of_own hO)
                clear hO hB C hr0 hr1
                obtain ⟨bl, hbl⟩ : ∃ bl, bl = e'.bs.drop e'.base := ⟨_, rfl⟩
                rw [← hbl] at HLB ⊢
                have HBLE := hide hbl
                clear hbl
                obtain ⟨EB, hEB⟩ : ∃ n : Nat, n = e'.base := ⟨_, rfl⟩
                obtain ⟨EE, hEE⟩ : ∃ n : Nat, n = e'.bs.length := ⟨_, rfl⟩
                have HEB := hide hEB
                have HEE := hide hEE
                have hEE1 : ¬ ((EE : Int) < (d0.bs.length : Int)) := by omega
                have hEE2 : EB ≤ EE := by omega
                have hEE3 : d0.base ≤ EB := by omega
                have hEE4 : EE - d0.base ≤ wl.length := by have := HEF.out.2.2.1; omega
                have hEEb : EE ≤ 100000000 := by omega
                have dE1 : decide ((EE : Int) < (d0.bs.length : Int)) = false := decide_eq_false hEE1
                have dE2 : decide ((EE : Int) - (d0.base : Int) > (wl.length : Int)) = false := decide_eq_false (by omega)
                have dE3 : decide ((EB : Int) > (EE : Int)) = false := decide_eq_false (by omega)
                have CB : Hid (∀ W, D W q F3' e' → Calls Try.prog 19 #[.pointer (some ⟨q, 0, none⟩)] W fun e w' => e = .returned (.int .i64 (EB : Int)) ∧ ∃ m, w' = W.drewN m) := hide (fun W h => by rw [HEB.out]; exact H.bas h)
                have CE : Hid (∀ W, D W q F3' e' → Calls Try.prog 20 #[.pointer (some ⟨q, 0, none⟩)] W fun e w' => e = .returned (.int .i64 (EE : Int)) ∧ ∃ m, w' = W.drewN m) := hide (fun W h => by rw [HEE.out]; exact H.end' h)
                have hEB0 : EB = d0.base ∨ (EB ≠ d0.base ∧ la.cut = true ∧ EB = cu) := by
                  rw [hEB]
                  rcases HEF.out.1 with e1 | e1
                  · exact .inl e1
                  · by_cases e2 : e'.base = d0.base
                    · exact .inl e2
                    · exact .inr ⟨e2, e1⟩
                have HCUT := hide hEB0
                clear hEB hEE hEB0 helen hele hege
                go_wp2_with fail
                rcases HCUT.out with hcase | hcase
                · have hq0 : ((EB : Int) != (d0.base : Int)) = false := by rw [hcase]; simp
                  clear hcase
                  refine (CB.out Y4 HD.out).mono ?_
                  rintro e Z1 ⟨rfl, m, hw⟩
                  have hB : Below Y4.heap.size Y4 Z1 := hw ▸ below_drewN7 Y4 m
                  replace HD := hide (H.below HD.out hB)
                  replace HB := hide (HB.out.trans (hB.mono HB.out.size))
                  replace HWR := hide (HWR.out.below hB)
                  replace HLB := hide (HLB.out.below hB)
                  clear hw hB
                  go_wp2_with fail
                  refine (CE.out Z1 HD.out).mono ?_
                  rintro e Z2 ⟨rfl, m, hw⟩
                  have hB : Below Z1.heap.size Z1 Z2 := hw ▸ below_drewN7 Z1 m
                  replace HD := hide (H.below HD.out hB)
                  replace HB := hide (HB.out.trans (hB.mono HB.out.size))
                  replace HWR := hide (HWR.out.below hB)
                  replace HLB := hide (HLB.out.below hB)
                  clear hw hB
                  go_wp2_with fail
                  refine (CE.out Z2 HD.out).mono ?_
                  rintro e Z3 ⟨rfl, m, hw⟩
                  have hB : Below Z2.heap.size Z2 Z3 := hw ▸ below_drewN7 Z2 m
                  replace HD := hide (H.below HD.out hB)
                  replace HB := hide (HB.out.trans (hB.mono HB.out.size))
                  replace HWR := hide (HWR.out.below hB)
                  replace HLB := hide (HLB.out.below hB)
                  clear hw hB
                  go_wp2_with fail
                  refine (CB.out Z3 HD.out).mono ?_
                  rintro e Z4 ⟨rfl, m, hw⟩
                  have hB : Below Z3.heap.size Z3 Z4 := hw ▸ below_drewN7 Z3 m
                  replace HD := hide (H.below HD.out hB)
                  replace HB := hide (HB.out.trans (hB.mono HB.out.size))
                  replace HWR := hide (HWR.out.below hB)
                  replace HLB := hide (HLB.out.below hB)
                  clear hw hB
                  go_wp2_with fail
                  refine (CE.out Z4 HD.out).mono ?_
                  rintro e Z5 ⟨rfl, m, hw⟩
                  have hB : Below Z4.heap.size Z4 Z5 := hw ▸ below_drewN7 Z4 m
                  replace HD := hide (H.below HD.out hB)
                  replace HB := hide (HB.out.trans (hB.mono HB.out.size))
                  replace HWR := hide (HWR.out.below hB)
                  replace HLB := hide (HLB.out.below hB)
                  clear hw hB
                  have hsb : (EB : Int) - (d0.base : Int) = ((EB - d0.base : Nat) : Int) := by omega
                  have hse : (EE : Int) - (d0.base : Int) = ((EE - d0.base : Nat) : Int) := by omega
                  obtain ⟨sb, hsbn⟩ : ∃ n : Nat, n = EB - d0.base := ⟨_, rfl⟩
                  obtain ⟨se, hsen⟩ : ∃ n : Nat, n = EE - d0.base := ⟨_, rfl⟩
                  rw [← hsbn] at hsb
                  rw [← hsen] at hse
                  have hEQ : bl = (wl.drop sb).take (se - sb) := by rw [HBLE.out, HEF.out.2.2.2.2.2, ← HEB.out, ← HEE.out, ← hsbn, ← hsen, List.drop_take]
                  have HEQ := hide hEQ
                  have hss : sb ≤ se ∧ se ≤ wl.length := by omega
                  clear hEQ hsbn hsen
                  go_wp2_with fail
                  refine (CB.out Z5 HD.out).mono ?_
                  rintro e Z6 ⟨rfl, m, hw⟩
                  have hB : Below Z5.heap.size Z5 Z6 := hw ▸ below_drewN7 Z5 m
                  replace HD := hide (H.below HD.out hB)
                  replace HB := hide (HB.out.trans (hB.mono HB.out.size))
                  replace HWR := hide (HWR.out.below hB)
                  replace HLB := hide (HLB.out.below hB)
                  clear hw hB
                  go_wp2_with fail
                  refine (CE.out Z6 HD.out).mono ?_
                  rintro e Z7 ⟨rfl, m, hw⟩
                  have hB : Below Z6.heap.size Z6 Z7 := hw ▸ below_drewN7 Z6 m
                  replace HD := hide (H.below HD.out hB)
                  replace HB := hide (HB.out.trans (hB.mono HB.out.size))
                  replace HWR := hide (HWR.out.below hB)
                  replace HLB := hide (HLB.out.below hB)
                  clear hw hB
                  have HWL := hide (HWR.out.lies.mid (s := sb) (n := se) hss.1 hss.2)
                  have hmid := fun W => run_mid W .i64 .i64 aw wl.length cw sb se hss.1 (Nat.le_trans hss.2 HWR.out.lies.cap)
                  obtain ⟨am, ham⟩ : ∃ am, am = if cw = sb then aw else aw.map (·.add (sb * 1)) := ⟨_, rfl⟩
                  obtain ⟨cm, hcm⟩ : ∃ cm, cm = cw - sb := ⟨_, rfl⟩
                  obtain ⟨lm, hlm⟩ : ∃ lm, lm = se - sb := ⟨_, rfl⟩
                  rw [← HEQ.out, ← ham, ← hcm, ← hlm] at HWL
                  rw [← ham, ← hcm, ← hlm] at hmid
                  clear ham hcm hlm
                  go_wp2_with fail
                  have CM := same_any _ _ bl Z7 HLB.out HWL.out
                  refine CM.mono ?_
                  rintro e Z8 ⟨rfl, rfl⟩
                  go_wp2_with fail
                  refine (CA.out Z8).mono ?_
                  rintro e we ⟨rfl, hB⟩
                  replace HB := hide (HB.out.trans (hB.mono HB.out.size))
                  clear hB
                  go_wp2_with fail
                  go_ret
                  exact ⟨rfl, HB0.out.trans (HB.out.mono HB0.out.size)⟩
                · have hq0 : ((EB : Int) != (d0.base : Int)) = true := by simp; omega
                  have hq1 : ((EB : Int) != (cu : Int)) = false := by rw [hcase.2.2]; simp
                  have hq2 : la.cut = true := hcase.2.1
                  clear hcase
                  refine (CB.out Y4 HD.out).mono ?_
                  rintro e Z0 ⟨rfl, m, hw⟩
                  have hB : Below Y4.heap.size Y4 Z0 := hw ▸ below_drewN7 Y4 m
                  replace HD := hide (H.below HD.out hB)
                  replace HB := hide (HB.out.trans (hB.mono HB.out.size))
                  replace HWR := hide (HWR.out.below hB)
                  replace HLB := hide (HLB.out.below hB)
                  clear hw hB
                  have l0 := (HX.out.belowV7 HB.out).cell 0 _ rfl
                  have l1 := (HX.out.belowV7 HB.out).cell 1 _ rfl
                  have l2 := (HX.out.belowV7 HB.out).cell 2 _ rfl
                  have l3 := (HX.out.belowV7 HB.out).cell 3 _ rfl
                  go_wp2_with fail
                  clear l0 l1 l2 l3
                  refine (CB.out Z0 HD.out).mono ?_
                  rintro e Z1 ⟨rfl, m, hw⟩
                  have hB : Below Z0.heap.size Z0 Z1 := hw ▸ below_drewN7 Z0 m
                  replace HD := hide (H.below HD.out hB)
                  replace HB := hide (HB.out.trans (hB.mono HB.out.size))
                  replace HWR := hide (HWR.out.below hB)
                  replace HLB := hide (HLB.out.below hB)
                  clear hw hB
                  go_wp2_with fail
                  refine (CE.out Z1 HD.out).mono ?_
                  rintro e Z2 ⟨rfl, m, hw⟩
                  have hB : Below Z1.heap.size Z1 Z2 := hw ▸ below_drewN7 Z1 m
                  replace HD := hide (H.below HD.out hB)
                  replace HB := hide (HB.out.trans (hB.mono HB.out.size))
                  replace HWR := hide (HWR.out.below hB)
                  replace HLB := hide (HLB.out.below hB)
                  clear hw hB
                  go_wp2_with fail
                  refine (CE.out Z2 HD.out).mono ?_
                  rintro e Z3 ⟨rfl, m, hw⟩
                  have hB : Below Z2.heap.size Z2 Z3 := hw ▸ below_drewN7 Z2 m
                  replace HD := hide (H.below HD.out hB)
                  replace HB := hide (HB.out.trans (hB.mono HB.out.size))
                  replace HWR := hide (HWR.out.below hB)
                  replace HLB := hide (HLB.out.below hB)
                  clear hw hB
                  go_wp2_with fail
                  refine (CB.out Z3 HD.out).mono ?_
                  rintro e Z4 ⟨rfl, m, hw⟩
                  have hB : Below Z3.heap.size Z3 Z4 := hw ▸ below_drewN7 Z3 m
                  replace HD := hide (H.below HD.out hB)
                  replace HB := hide (HB.out.trans (hB.mono HB.out.size))
                  replace HWR := hide (HWR.out.below hB)
                  replace HLB := hide (HLB.out.below hB)
                  clear hw hB
                  go_wp2_with fail
                  refine (CE.out Z4 HD.out).mono ?_
                  rintro e Z5 ⟨rfl, m, hw⟩
                  have hB : Below Z4.heap.size Z4 Z5 := hw ▸ below_drewN7 Z4 m
                  replace HD := hide (H.below HD.out hB)
                  replace HB := hide (HB.out.trans (hB.mono HB.out.size))
                  replace HWR := hide (HWR.out.below hB)
                  replace HLB := hide (HLB.out.below hB)
                  clear hw hB
                  have hsb : (EB : Int) - (d0.base : Int) = ((EB - d0.base : Nat) : Int) := by omega
                  have hse : (EE : Int) - (d0.base : Int) = ((EE - d0.base : Nat) : Int) := by omega
                  obtain ⟨sb, hsbn⟩ : ∃ n : Nat, n = EB - d0.base := ⟨_, rfl⟩
                  obtain ⟨se, hsen⟩ : ∃ n : Nat, n = EE - d0.base := ⟨_, rfl⟩
                  rw [← hsbn] at hsb
                  rw [← hsen] at hse
                  have hEQ : bl = (wl.drop sb).take (se - sb) := by rw [HBLE.out, HEF.out.2.2.2.2.2, ← HEB.out, ← HEE.out, ← hsbn, ← hsen, List.drop_take]
                  have HEQ := hide hEQ
                  have hss : sb ≤ se ∧ se ≤ wl.length := by omega
                  clear hEQ hsbn hsen
                  go_wp2_with fail
                  refine (CB.out Z5 HD.out).mono ?_
                  rintro e Z6 ⟨rfl, m, hw⟩
                  have hB : Below Z5.heap.size Z5 Z6 := hw ▸ below_drewN7 Z5 m
                  replace HD := hide (H.below HD.out hB)
                  replace HB := hide (HB.out.trans (hB.mono HB.out.size))
                  replace HWR := hide (HWR.out.below hB)
                  replace HLB := hide (HLB.out.below hB)
                  clear hw hB
                  go_wp2_with fail
                  refine (CE.out Z6 HD.out).mono ?_
                  rintro e Z7 ⟨rfl, m, hw⟩
                  have hB : Below Z6.heap.size Z6 Z7 := hw ▸ below_drewN7 Z6 m
                  replace HD := hide (H.below HD.out hB)
                  replace HB := hide (HB.out.trans (hB.mono HB.out.size))
                  replace HWR := hide (HWR.out.below hB)
                  replace HLB := hide (HLB.out.below hB)
                  clear hw hB
                  have HWL := hide (HWR.out.lies.mid (s := sb) (n := se) hss.1 hss.2)
                  have hmid := fun W => run_mid W .i64 .i64 aw wl.length cw sb se hss.1 (Nat.le_trans hss.2 HWR.out.lies.cap)
                  obtain ⟨am, ham⟩ : ∃ am, am = if cw = sb then aw else aw.map (·.add (sb * 1)) := ⟨_, rfl⟩
                  obtain ⟨cm, hcm⟩ : ∃ cm, cm = cw - sb := ⟨_, rfl⟩
                  obtain ⟨lm, hlm⟩ : ∃ lm, lm = se - sb := ⟨_, rfl⟩
                  rw [← HEQ.out, ← ham, ← hcm, ← hlm] at HWL
                  rw [← ham, ← hcm, ← hlm] at hmid
                  clear ham hcm hlm
                  go_wp2_with fail
                  have CM := same_any _ _ bl Z7 HLB.out HWL.out
                  refine CM.mono ?_
                  rintro e Z8 ⟨rfl, rfl⟩
                  go_wp2_with fail
                  refine (CA.out Z8).mono ?_
                  rintro e we ⟨rfl, hB⟩
                  replace HB := hide (HB.out.trans (hB.mono HB.out.size))
                  clear hB
                  go_wp2_with fail
                  go_ret
                  exact ⟨rfl, HB0.out.trans (HB.out.mono HB0.out.size)⟩
end
end Go.Proofs.Ytjjmcaamgoffiaa
