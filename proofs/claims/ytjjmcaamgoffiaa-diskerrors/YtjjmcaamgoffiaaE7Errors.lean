/-
  DiskErrors: an error turns nothing but the power. The walk, by the bundle. Own work.
-/
import Derived.Test.YtjjmcaamgoffiaaDkAlive
import Derived.Test.YtjjmcaamgoffiaaDkFacts
import Derived.Test.YtjjmcaamgoffiaaDkOpen
import Derived.Deep.LoopGhost
namespace Go.Proofs.Ytjjmcaamgoffiaa
open Go.RowKit Go.ChangeShapes Go.WideShapes Go.ChangeAt

section
variable {D : World → Nat → (Nat → Prop) → Dk → Prop}
set_option maxRecDepth 100000 in
set_option maxHeartbeats 3200000 in
theorem walkE (H : DiskDo D) (room : Int) (v : Value) (fs : List DAct) (w : World) (hL : DLies w v fs) (hok : ∀ f ∈ fs, f.Ok) :
    Calls Try.prog 5 #[.int .i64 room, v] w fun e w' => e = .returned (.bool true) ∧ Below w.heap.size w w' := by
  have CL := hide (long_any7 v fs w hL)
  have CA := hide (fun W => alive_by H W)
  have CS := hide (fun W (h : DLies W v fs) => short_any7 v fs W h)
  have HLS := hide hL
  obtain ⟨ao0, cap0, hv0, _⟩ := hL.shape
  subst hv0
  have hokt : ∀ f ∈ fs.take 100, f.Ok := fun f hf => hok f (List.mem_of_mem_take hf)
  have hal : (fs.take 100).length ≤ 100 := by simp; omega
  obtain ⟨ts, hts⟩ : ∃ ts, ts = fs.take 100 := ⟨_, rfl⟩
  rw [← hts] at CL CS hokt hal
  have HOKT := hide hokt
  clear hts hok hL hokt
  by_cases hlong : 65536 < bulk ts
  · rw [decide_eq_true hlong] at CL
    go_enter Try.func5, Try.ntmps5
    go_wp2_with fail
    refine CL.out.mono ?_
    rintro e w1 ⟨rfl, hB⟩
    have HB := hide hB
    clear hB CL
    go_wp2_with fail
    refine (CA.out w1).mono ?_
    rintro e we ⟨rfl, hB⟩
    replace HB := hide (HB.out.trans (hB.mono HB.out.size))
    clear hB
    go_wp2_with fail
    go_ret
    exact ⟨rfl, HB.out⟩
  · rw [decide_eq_false hlong] at CL
    have HBL : Hid (∀ f ∈ ts, f.b.length ≤ 100000000000000) := hide (fun f hf => by have := bulk_each ts f hf; omega)
    clear hlong
    cases hn : newOk room
    · go_enter Try.func5, Try.ntmps5
      go_wp2_with fail
      refine CL.out.mono ?_
      rintro e w1 ⟨rfl, hB⟩
      have HB := hide hB
      clear hB CL
      go_wp2_with fail
      refine (H.newNo room w1 hn).mono ?_
      rintro e w2 ⟨rfl, hB⟩
      replace HB := hide (HB.out.trans (hB.mono HB.out.size))
      clear hB
      go_wp2_with fail
      refine (CA.out w2).mono ?_
      rintro e we ⟨rfl, hB⟩
      replace HB := hide (HB.out.trans (hB.mono HB.out.size))
      clear hB
      go_wp2_with fail
      go_ret
      exact ⟨rfl, HB.out⟩
    · go_enter Try.func5, Try.ntmps5
      go_wp2_with fail
      refine CL.out.mono ?_
      rintro e w1 ⟨rfl, hB⟩
      have HB := hide hB
      clear hB CL
      go_wp2_with fail
      refine (H.new room w1 hn).mono ?_
      rintro e w2 ⟨q, F0, rfl, hD, hF, hB⟩
      have HS0 : Hid (Since7 D w q (newD room.toNat) w2) := hide ⟨F0, hD, fun k hk => Nat.le_trans HB.out.size (hF k hk), HB.out.trans (hB.mono HB.out.size)⟩
      replace HB := hide (HB.out.trans (hB.mono HB.out.size))
      clear hB hD hF hn
      go_wp2_with fail
      refine (CS.out w2 (HLS.out.below HB.out)).mono ?_
      rintro e w3 ⟨v3, rfl, hL3, hw3, hLW⟩
      subst hw3
      obtain ⟨ao3, cap3, hv3, hc3, _, _⟩ := hL3.shape
      subst hv3
      have HLT := hide (hLW w HLS.out)
      clear hL3 hLW HB CS HLS
      go_wp2_with fail
      go_loopg [44] ts.length (fun g i wr => ∃ (k : Nat) (d : Dk), k + g = ts.length ∧ i = .int .i64 k ∧ Hid (Since7 D w q d wr) ∧ d.bs.length ≤ 65536 * k)
      case atStart => exact ⟨0, newD room.toNat, by omega, rfl, HS0, by simp [newD]⟩
      case round =>
        obtain ⟨k, d, hk, rfl, HS, hdl⟩ := hrel
        obtain ⟨F, hD, hF, hB⟩ := HS.out
        have HD := hide hD
        have HF := hide hF
        have HB := hide hB
        clear hD hF hB HS HS0
        cases gk with
        | zero =>
          obtain rfl : k = ts.length := by omega
          have hz : ¬ ((ts.length : Int) < (ts.length : Int)) := by omega
          go_wp2_with fail
          refine (CA.out wr).mono ?_
          rintro e we ⟨rfl, hB⟩
          replace HB := hide (HB.out.trans (hB.mono HB.out.size))
          clear hB
          go_wp2_with fail
          go_ret
          exact ⟨rfl, HB.out⟩
        | succ g =>
          have hz : (k : Int) < (ts.length : Int) := by omega
          obtain ⟨b, off, cap', sv, e, hb, hLs, c0, c1, c2, c3⟩ := (HLT.out.below HB.out).at k (by omega)
          cases e
          obtain ⟨sa, sc, hsv⟩ := hLs.shape
          subst hsv
          have ha := HOKT.out ts[k] (List.getElem_mem _)
          have hxl := HBL.out ts[k] (List.getElem_mem _)
          generalize ts[k] = a at *
          have HA := hide ha
          have HLA := hide hLs
          have hdl2 : d.bs.length ≤ 100000000 := by omega
          clear hLs ha
          go_wp2_with fail
          have hA := alloc_below7 wr (.cells #[.int .u8 (a.kind : Int), .int .i64 a.n, .slice sa a.b.length sc, .bool a.cut] 36)
          have hX := box_new wr #[.int .u8 (a.kind : Int), .int .i64 a.n, .slice sa a.b.length sc, .bool a.cut] 36
          have hsz : (wr.alloc (.cells #[.int .u8 (a.kind : Int), .int .i64 a.n, .slice sa a.b.length sc, .bool a.cut] 36)).heap.size = wr.heap.size + 1 := by simp
          revert hA hX hsz
          generalize wr.alloc (.cells #[.int .u8 (a.kind : Int), .int .i64 a.n, .slice sa a.b.length sc, .bool a.cut] 36) = W1
          intro hB hX hsz
          have HX := hide hX
          have HLW : Hid (∀ k, F k → k < wr.heap.size) := hide (H.lt HD.out)
          replace HD := hide (H.below HD.out hB)
          replace HB := hide (HB.out.trans (hB.mono HB.out.size))
          replace HLA := hide (HLA.out.below hB)
          clear hB hX c0 c1 c2 c3 hb
          have HLT1 : Hid (∀ k, F k → k < W1.heap.size) := hide (H.lt HD.out)
          refine (H.rea HD.out).mono ?_
          rintro e W2 ⟨v9, rfl, hO, hB⟩
          replace HD := hide (H.below HD.out hB)
          replace HB := hide (HB.out.trans (hB.mono HB.out.size))
          replace HX := hide (HX.out.belowV7 hB)
          replace HLA := hide (HLA.out.below hB)
          obtain ⟨a9, c9, hv⟩ := (Lies.of_own hO).shape
          subst hv
          have HL9 := hide (Lies.of_own hO)
          have HN9 : Hid (∀ g, (Value.slice a9 _ c9).ownBlock = some g → W1.heap.size ≤ g) := hide (fun g hg => (hO.lt g hg).1)
          clear hO hB
          have HFAR : Hid (∀ g, (Value.slice a9 (reaB d).length c9).ownBlock = some g → ¬ F g) := hide (fun g hg hf => by have h1 := HN9.out g hg; have h2 := HLT1.out g hf; omega)
          clear HN9 HLT1 hsz HLW
          go_wp2_with fail
          refine (H.bas HD.out).mono ?_
          rintro e W3 ⟨rfl, m, hw⟩
          have hB : Below W2.heap.size W2 W3 := hw ▸ below_drewN7 W2 m
          replace HD := hide (H.below HD.out hB)
          replace HB := hide (HB.out.trans (hB.mono HB.out.size))
          replace HX := hide (HX.out.belowV7 hB)
          replace HLA := hide (HLA.out.below hB)
          replace HL9 := hide (HL9.out.below hB)
          clear hw hB
          go_wp2_with fail
          refine (H.end' HD.out).mono ?_
          rintro e W4 ⟨rfl, m, hw⟩
          have hB : Below W3.heap.size W3 W4 := hw ▸ below_drewN7 W3 m
          replace HD := hide (H.below HD.out hB)
          replace HB := hide (HB.out.trans (hB.mono HB.out.size))
          replace HX := hide (HX.out.belowV7 hB)
          replace HLA := hide (HLA.out.below hB)
          replace HL9 := hide (HL9.out.below hB)
          clear hw hB
          go_wp2_with fail
          refine (H.lef HD.out).mono ?_
          rintro e W5 ⟨rfl, m, hw⟩
          have hB : Below W4.heap.size W4 W5 := hw ▸ below_drewN7 W4 m
          replace HD := hide (H.below HD.out hB)
          replace HB := hide (HB.out.trans (hB.mono HB.out.size))
          replace HX := hide (HX.out.belowV7 hB)
          replace HLA := hide (HLA.out.below hB)
          replace HL9 := hide (HL9.out.below hB)
          clear hw hB
          go_wp2_with fail
          refine (H.on HD.out).mono ?_
          rintro e W6 ⟨rfl, m, hw⟩
          have hB : Below W5.heap.size W5 W6 := hw ▸ below_drewN7 W5 m
          replace HD := hide (H.below HD.out hB)
          replace HB := hide (HB.out.trans (hB.mono HB.out.size))
          replace HX := hide (HX.out.belowV7 hB)
          replace HLA := hide (HLA.out.below hB)
          replace HL9 := hide (HL9.out.below hB)
          clear hw hB
          have x0 := HX.out.cell 0 _ rfl
          have x1 := HX.out.cell 1 _ rfl
          have x2 := HX.out.cell 2 _ rfl
          have x3 := HX.out.cell 3 _ rfl
          go_wp2_with fail
          refine (does_any H q F d a _ W6 HD.out HA.out HLA.out hxl hdl2).mono ?_
          rintro e W7 ⟨rfl, F2, hD2, hk2, hF2⟩
          have HS7 : Hid (Since7 D w q (actD d a) W7) := hide (Since7.did HB.out HF.out ⟨F2, hD2, hk2, hF2⟩)
          replace HL9 := hide (HL9.out.kept hk2 HFAR.out)
          have HLEN := hide (act_len (H.ok HD.out) a)
          clear hD2 hk2 hF2 x0 x1 x2 x3 HX HLA HF HFAR HD HB
          have HER : Hid ((actA d a).2 ≠ 0 → (actD d a).base = d.base ∧ (actD d a).bs = d.bs ∧ (actD d a).left = d.left ∧ ((actA d a).2 ≠ 10 → (actD d a).off = d.off) ∧ (d.off = true → (actD d a).off = true)) := hide act_err
          have HDN := hide (act_down d a)
          generalize (actA d a).2 = g' at HER HDN ⊢
          generalize actD d a = d' at HS7 HLEN HER HDN
          by_cases hg0 : g' = 0
          · subst hg0
            go_wp2_with fail
            go_roundg g
            case measure => omega
            case rel => exact ⟨k + 1, d', by omega, by first | rfl | go_num, HS7, by have := HLEN.out; omega⟩
          · have hgb : (g' == 0) = false := by simpa using hg0
            obtain ⟨e1, e2, e3, e4, e5⟩ := HER.out hg0
            obtain ⟨F, hD, hF, hB⟩ := HS7.out
            have HD := hide hD
            have HFF := hide hF
            have HB := hide hB
            clear hD hF hB HS7
            by_cases hg10 : g' = 10
            · have ho' := HDN.out hg10
              subst hg10
              cases ho : d.off
              · have hr : reaA d = 0 := by unfold reaA; rw [ho]; rfl
                have hr2 : reaA d' = 10 := by unfold reaA; rw [ho']; rfl
                go_wp2_with fail
                refine (H.rea HD.out).mono ?_
                rintro e W8 ⟨v17, rfl, hO, hB⟩
                replace HD := hide (H.below HD.out hB)
                replace HB := hide (HB.out.trans (hB.mono HB.out.size))
                replace HL9 := hide (HL9.out.below hB)
                obtain ⟨a17, c17, hv⟩ := (Lies.of_own hO).shape
                subst hv
                have HL17 := hide (Lies.of_own hO)
                have HN17 : Hid (∀ g, (Value.slice a17 _ c17).ownBlock = some g → W7.heap.size ≤ g) := hide (fun g hg => (hO.lt g hg).1)
                clear hO hB
                clear HN17
                go_wp2_with fail
                have C := H.bas HD.out
                rw [e1] at C
                refine (C).mono ?_
                rintro e W9 ⟨rfl, m, hw⟩
                have hB : Below W8.heap.size W8 W9 := hw ▸ below_drewN7 W8 m
                replace HD := hide (H.below HD.out hB)
                replace HB := hide (HB.out.trans (hB.mono HB.out.size))
                replace HL9 := hide (HL9.out.below hB)
                replace HL17 := hide (HL17.out.below hB)
                clear hw hB C
                go_wp2_with fail
                have C := H.end' HD.out
                rw [e2] at C
                refine (C).mono ?_
                rintro e Wa ⟨rfl, m, hw⟩
                have hB : Below W9.heap.size W9 Wa := hw ▸ below_drewN7 W9 m
                replace HD := hide (H.below HD.out hB)
                replace HB := hide (HB.out.trans (hB.mono HB.out.size))
                replace HL9 := hide (HL9.out.below hB)
                replace HL17 := hide (HL17.out.below hB)
                clear hw hB C
                go_wp2_with fail
                have C := H.lef HD.out
                rw [e3] at C
                refine (C).mono ?_
                rintro e Wb ⟨rfl, m, hw⟩
                have hB : Below Wa.heap.size Wa Wb := hw ▸ below_drewN7 Wa m
                replace HD := hide (H.below HD.out hB)
                replace HB := hide (HB.out.trans (hB.mono HB.out.size))
                replace HL9 := hide (HL9.out.below hB)
                replace HL17 := hide (HL17.out.below hB)
                clear hw hB C
                go_wp2_with fail
                have C := H.on HD.out
                rw [ho'] at C
                refine (C).mono ?_
                rintro e Wc ⟨rfl, m, hw⟩
                have hB : Below Wb.heap.size Wb Wc := hw ▸ below_drewN7 Wb m
                replace HD := hide (H.below HD.out hB)
                replace HB := hide (HB.out.trans (hB.mono HB.out.size))
                replace HL9 := hide (HL9.out.below hB)
                replace HL17 := hide (HL17.out.below hB)
                clear hw hB C
                go_wp2_with fail
                have C := H.on HD.out
                rw [ho'] at C
                refine (C).mono ?_
                rintro e We ⟨rfl, m, hw⟩
                have hB : Below Wc.heap.size Wc We := hw ▸ below_drewN7 Wc m
                replace HD := hide (H.below HD.out hB)
                replace HB := hide (HB.out.trans (hB.mono HB.out.size))
                replace HL9 := hide (HL9.out.below hB)
                replace HL17 := hide (HL17.out.below hB)
                clear hw hB C
                go_wp2_with fail
                go_roundg g
                case measure => omega
                case rel => exact ⟨k + 1, d', by omega, by first | rfl | go_num, hide ⟨F, HD.out, HFF.out, HB.out⟩, by have := HLEN.out; omega⟩
              · have hr : reaA d = 10 := by unfold reaA; rw [ho]; rfl
                have hr2 : reaA d' = 10 := by unfold reaA; rw [ho']; rfl
                go_wp2_with fail
                refine (H.rea HD.out).mono ?_
                rintro e W8 ⟨v17, rfl, hO, hB⟩
                replace HD := hide (H.below HD.out hB)
                replace HB := hide (HB.out.trans (hB.mono HB.out.size))
                replace HL9 := hide (HL9.out.below hB)
                obtain ⟨a17, c17, hv⟩ := (Lies.of_own hO).shape
                subst hv
                have HL17 := hide (Lies.of_own hO)
                have HN17 : Hid (∀ g, (Value.slice a17 _ c17).ownBlock = some g → W7.heap.size ≤ g) := hide (fun g hg => (hO.lt g hg).1)
                clear hO hB
                clear HN17
                go_wp2_with fail
                have C := H.bas HD.out
                rw [e1] at C
                refine (C).mono ?_
                rintro e W9 ⟨rfl, m, hw⟩
                have hB : Below W8.heap.size W8 W9 := hw ▸ below_drewN7 W8 m
                replace HD := hide (H.below HD.out hB)
                replace HB := hide (HB.out.trans (hB.mono HB.out.size))
                replace HL9 := hide (HL9.out.below hB)
                replace HL17 := hide (HL17.out.below hB)
                clear hw hB C
                go_wp2_with fail
                have C := H.end' HD.out
                rw [e2] at C
                refine (C).mono ?_
                rintro e Wa ⟨rfl, m, hw⟩
                have hB : Below W9.heap.size W9 Wa := hw ▸ below_drewN7 W9 m
                replace HD := hide (H.below HD.out hB)
                replace HB := hide (HB.out.trans (hB.mono HB.out.size))
                replace HL9 := hide (HL9.out.below hB)
                replace HL17 := hide (HL17.out.below hB)
                clear hw hB C
                go_wp2_with fail
                have C := H.lef HD.out
                rw [e3] at C
                refine (C).mono ?_
                rintro e Wb ⟨rfl, m, hw⟩
                have hB : Below Wa.heap.size Wa Wb := hw ▸ below_drewN7 Wa m
                replace HD := hide (H.below HD.out hB)
                replace HB := hide (HB.out.trans (hB.mono HB.out.size))
                replace HL9 := hide (HL9.out.below hB)
                replace HL17 := hide (HL17.out.below hB)
                clear hw hB C
                go_wp2_with fail
                have C := H.on HD.out
                rw [ho'] at C
                refine (C).mono ?_
                rintro e Wc ⟨rfl, m, hw⟩
                have hB : Below Wb.heap.size Wb Wc := hw ▸ below_drewN7 Wb m
                replace HD := hide (H.below HD.out hB)
                replace HB := hide (HB.out.trans (hB.mono HB.out.size))
                replace HL9 := hide (HL9.out.below hB)
                replace HL17 := hide (HL17.out.below hB)
                clear hw hB C
                go_wp2_with fail
                have C := H.on HD.out
                rw [ho'] at C
                refine (C).mono ?_
                rintro e We ⟨rfl, m, hw⟩
                have hB : Below Wc.heap.size Wc We := hw ▸ below_drewN7 Wc m
                replace HD := hide (H.below HD.out hB)
                replace HB := hide (HB.out.trans (hB.mono HB.out.size))
                replace HL9 := hide (HL9.out.below hB)
                replace HL17 := hide (HL17.out.below hB)
                clear hw hB C
                go_wp2_with fail
                go_roundg g
                case measure => omega
                case rel => exact ⟨k + 1, d', by omega, by first | rfl | go_num, hide ⟨F, HD.out, HFF.out, HB.out⟩, by have := HLEN.out; omega⟩
            · have hgn : (g' == 10) = false := by simpa using hg10
              have ho'' := e4 hg10
              cases ho : d.off
              · have hr : reaA d = 0 := by unfold reaA; rw [ho]; rfl
                have ho' : d'.off = false := by rw [ho'', ho]
                have hr2 : reaA d' = 0 := by unfold reaA; rw [ho']; rfl
                have HQ : Hid (reaB d' = reaB d) := hide (by unfold reaB; rw [ho, ho', e1, e2])
                go_wp2_with fail
                refine (H.rea HD.out).mono ?_
                rintro e W8 ⟨v17, rfl, hO, hB⟩
                replace HD := hide (H.below HD.out hB)
                replace HB := hide (HB.out.trans (hB.mono HB.out.size))
                replace HL9 := hide (HL9.out.below hB)
                obtain ⟨a17, c17, hv⟩ := (Lies.of_own hO).shape
                subst hv
                have HL17 := hide (Lies.of_own hO)
                have HN17 : Hid (∀ g, (Value.slice a17 _ c17).ownBlock = some g → W7.heap.size ≤ g) := hide (fun g hg => (hO.lt g hg).1)
                clear hO hB
                clear HN17
                go_wp2_with fail
                have C := H.bas HD.out
                rw [e1] at C
                refine (C).mono ?_
                rintro e W9 ⟨rfl, m, hw⟩
                have hB : Below W8.heap.size W8 W9 := hw ▸ below_drewN7 W8 m
                replace HD := hide (H.below HD.out hB)
                replace HB := hide (HB.out.trans (hB.mono HB.out.size))
                replace HL9 := hide (HL9.out.below hB)
                replace HL17 := hide (HL17.out.below hB)
                clear hw hB C
                go_wp2_with fail
                have C := H.end' HD.out
                rw [e2] at C
                refine (C).mono ?_
                rintro e Wa ⟨rfl, m, hw⟩
                have hB : Below W9.heap.size W9 Wa := hw ▸ below_drewN7 W9 m
                replace HD := hide (H.below HD.out hB)
                replace HB := hide (HB.out.trans (hB.mono HB.out.size))
                replace HL9 := hide (HL9.out.below hB)
                replace HL17 := hide (HL17.out.below hB)
                clear hw hB C
                go_wp2_with fail
                have C := H.lef HD.out
                rw [e3] at C
                refine (C).mono ?_
                rintro e Wb ⟨rfl, m, hw⟩
                have hB : Below Wa.heap.size Wa Wb := hw ▸ below_drewN7 Wa m
                replace HD := hide (H.below HD.out hB)
                replace HB := hide (HB.out.trans (hB.mono HB.out.size))
                replace HL9 := hide (HL9.out.below hB)
                replace HL17 := hide (HL17.out.below hB)
                clear hw hB C
                go_wp2_with fail
                have C := H.on HD.out
                rw [ho'] at C
                refine (C).mono ?_
                rintro e Wc ⟨rfl, m, hw⟩
                have hB : Below Wb.heap.size Wb Wc := hw ▸ below_drewN7 Wb m
                replace HD := hide (H.below HD.out hB)
                replace HB := hide (HB.out.trans (hB.mono HB.out.size))
                replace HL9 := hide (HL9.out.below hB)
                replace HL17 := hide (HL17.out.below hB)
                clear hw hB C
                go_wp2_with fail
                rw [HQ.out] at HL17
                have hq := congrArg List.length HQ.out
                refine (same_any _ _ (reaB d) _ HL9.out (by first | exact HL17.out | (rw [hq]; exact HL17.out))).mono ?_
                rintro e Wd ⟨rfl, rfl⟩
                go_wp2_with fail
                have C := H.on HD.out
                rw [ho'] at C
                refine (C).mono ?_
                rintro e We ⟨rfl, m, hw⟩
                have hB : Below Wd.heap.size Wd We := hw ▸ below_drewN7 Wd m
                replace HD := hide (H.below HD.out hB)
                replace HB := hide (HB.out.trans (hB.mono HB.out.size))
                replace HL9 := hide (HL9.out.below hB)
                replace HL17 := hide (HL17.out.below hB)
                clear hw hB C
                go_wp2_with fail
                go_roundg g
                case measure => omega
                case rel => exact ⟨k + 1, d', by omega, by first | rfl | go_num, hide ⟨F, HD.out, HFF.out, HB.out⟩, by have := HLEN.out; omega⟩
              · have hr : reaA d = 10 := by unfold reaA; rw [ho]; rfl
                have ho' : d'.off = true := by rw [ho'', ho]
                have hr2 : reaA d' = 10 := by unfold reaA; rw [ho']; rfl
                go_wp2_with fail
                refine (H.rea HD.out).mono ?_
                rintro e W8 ⟨v17, rfl, hO, hB⟩
                replace HD := hide (H.below HD.out hB)
                replace HB := hide (HB.out.trans (hB.mono HB.out.size))
                replace HL9 := hide (HL9.out.below hB)
                obtain ⟨a17, c17, hv⟩ := (Lies.of_own hO).shape
                subst hv
                have HL17 := hide (Lies.of_own hO)
                have HN17 : Hid (∀ g, (Value.slice a17 _ c17).ownBlock = some g → W7.heap.size ≤ g) := hide (fun g hg => (hO.lt g hg).1)
                clear hO hB
                clear HN17
                go_wp2_with fail
                have C := H.bas HD.out
                rw [e1] at C
                refine (C).mono ?_
                rintro e W9 ⟨rfl, m, hw⟩
                have hB : Below W8.heap.size W8 W9 := hw ▸ below_drewN7 W8 m
                replace HD := hide (H.below HD.out hB)
                replace HB := hide (HB.out.trans (hB.mono HB.out.size))
                replace HL9 := hide (HL9.out.below hB)
                replace HL17 := hide (HL17.out.below hB)
                clear hw hB C
                go_wp2_with fail
                have C := H.end' HD.out
                rw [e2] at C
                refine (C).mono ?_
                rintro e Wa ⟨rfl, m, hw⟩
                have hB : Below W9.heap.size W9 Wa := hw ▸ below_drewN7 W9 m
                replace HD := hide (H.below HD.out hB)
                replace HB := hide (HB.out.trans (hB.mono HB.out.size))
                replace HL9 := hide (HL9.out.below hB)
                replace HL17 := hide (HL17.out.below hB)
                clear hw hB C
                go_wp2_with fail
                have C := H.lef HD.out
                rw [e3] at C
                refine (C).mono ?_
                rintro e Wb ⟨rfl, m, hw⟩
                have hB : Below Wa.heap.size Wa Wb := hw ▸ below_drewN7 Wa m
                replace HD := hide (H.below HD.out hB)
                replace HB := hide (HB.out.trans (hB.mono HB.out.size))
                replace HL9 := hide (HL9.out.below hB)
                replace HL17 := hide (HL17.out.below hB)
                clear hw hB C
                go_wp2_with fail
                have C := H.on HD.out
                rw [ho'] at C
                refine (C).mono ?_
                rintro e Wc ⟨rfl, m, hw⟩
                have hB : Below Wb.heap.size Wb Wc := hw ▸ below_drewN7 Wb m
                replace HD := hide (H.below HD.out hB)
                replace HB := hide (HB.out.trans (hB.mono HB.out.size))
                replace HL9 := hide (HL9.out.below hB)
                replace HL17 := hide (HL17.out.below hB)
                clear hw hB C
                go_wp2_with fail
                have C := H.on HD.out
                rw [ho'] at C
                refine (C).mono ?_
                rintro e We ⟨rfl, m, hw⟩
                have hB : Below Wc.heap.size Wc We := hw ▸ below_drewN7 Wc m
                replace HD := hide (H.below HD.out hB)
                replace HB := hide (HB.out.trans (hB.mono HB.out.size))
                replace HL9 := hide (HL9.out.below hB)
                replace HL17 := hide (HL17.out.below hB)
                clear hw hB C
                go_wp2_with fail
                go_roundg g
                case measure => omega
                case rel => exact ⟨k + 1, d', by omega, by first | rfl | go_num, hide ⟨F, HD.out, HFF.out, HB.out⟩, by have := HLEN.out; omega⟩
end
end Go.Proofs.Ytjjmcaamgoffiaa
