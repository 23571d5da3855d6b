/-
  DiskPlays: a disk answers as the document's. The walk, by the bundle. Own work.
-/
import Derived.Test.YtjjmcaamgoffiaaDkAlive
import Derived.Test.YtjjmcaamgoffiaaDkDuo
import Derived.Deep.QuietTactic
import Derived.BigQuiet
import Derived.Test.YtjjmcaamgoffiaaDkFacts
import Derived.Test.YtjjmcaamgoffiaaDkOpen
import Derived.Deep.LoopGhost
namespace Go.Proofs.Ytjjmcaamgoffiaa
open Go.RowKit Go.ChangeShapes Go.WideShapes Go.ChangeAt

section
variable {D : World → Nat → (Nat → Prop) → Dk → Prop}
set_option maxRecDepth 100000 in
set_option maxHeartbeats 3200000 in
theorem walkP (H : DiskDo D) (room : Int) (v : Value) (fs : List DAct) (w : World) (hL : DLies w v fs) (hok : ∀ f ∈ fs, f.Ok) :
    Calls Try.prog 3 #[.int .i64 room, v] w fun e w' => e = .returned (.bool true) ∧ Below w.heap.size w w' := by
  have CL := hide (long_any7 v fs w hL)
  have CA := hide (fun W => alive_by H W)
  have CS := hide (fun W (h : DLies W v fs) => short_any7 v fs W h)
  have HLS := hide hL
  obtain ⟨ao0, cap0, hv0, _⟩ := hL.shape
  subst hv0
  have hokt : ∀ f ∈ fs.take 100, f.Ok := fun f hf => hok f (List.mem_of_mem_take hf)
  have hal : (fs.take 100).length ≤ 100 := by simp; omega
  obtain ⟨ts, hts⟩ : ∃ ts, ts = fs.take 100 := ⟨_, rfl⟩
  rw [← hts] at CL CS hokt hal
  have HOKT := hide hokt
  clear hts hok hL hokt
  by_cases hlong : 65536 < bulk ts
  · rw [decide_eq_true hlong] at CL
    go_enter Try.func3, Try.ntmps3
    go_wp2_with fail
    refine CL.out.mono ?_
    rintro e w1 ⟨rfl, hB⟩
    have HB := hide hB
    clear hB CL
    go_wp2_with fail
    refine (CA.out w1).mono ?_
    rintro e we ⟨rfl, hB⟩
    replace HB := hide (HB.out.trans (hB.mono HB.out.size))
    clear hB
    go_wp2_with fail
    go_ret
    exact ⟨rfl, HB.out⟩
  · rw [decide_eq_false hlong] at CL
    have HBL : Hid (∀ f ∈ ts, f.b.length ≤ 100000000000000) := hide (fun f hf => by have := bulk_each ts f hf; omega)
    clear hlong
    cases hn : newOk room
    · have hna : newA room = 1 := by unfold newA; rw [hn]; rfl
      go_enter Try.func3, Try.ntmps3
      go_wp2_with fail
      refine CL.out.mono ?_
      rintro e w1 ⟨rfl, hB⟩
      have HB := hide hB
      clear hB CL
      go_wp2_with fail
      refine (H.newNo room w1 hn).mono ?_
      rintro e w2 ⟨rfl, hB⟩
      replace HB := hide (HB.out.trans (hB.mono HB.out.size))
      clear hB
      go_wp2_with fail
      refine (rnew_any room w2).mono ?_
      rintro e w3 ⟨rfl, hB⟩
      rw [hna]
      replace HB := hide (HB.out.trans (hB.mono HB.out.size))
      clear hB
      have hr : newR room = newD 0 := by unfold newR; rw [hn]; rfl
      rw [hr]
      unfold rcells newD
      go_wp2_with fail
      have hB := alloc_below7 w3 (.cells (rcells (newD 0) (.slice none 0 0)) 31)
      revert hB
      unfold rcells newD
      generalize w3.alloc _ = w4
      intro hB
      replace HB := hide (HB.out.trans (hB.mono HB.out.size))
      clear hB
      refine (CA.out w4).mono ?_
      rintro e we ⟨rfl, hB⟩
      replace HB := hide (HB.out.trans (hB.mono HB.out.size))
      clear hB
      go_wp2_with fail
      go_ret
      exact ⟨rfl, HB.out⟩
    · have hna : newA room = 0 := by unfold newA; rw [hn]; rfl
      obtain ⟨rn, hrn⟩ : ∃ rn : Nat, rn = room.toNat := ⟨_, rfl⟩
      have hnr : newR room = newD rn := by unfold newR; rw [hn, hrn]; rfl
      have HRM : Hid ((rn : Int) = room) := hide (by unfold newOk at hn; simp at hn; omega)
      go_enter Try.func3, Try.ntmps3
      go_wp2_with fail
      refine CL.out.mono ?_
      rintro e w1 ⟨rfl, hB⟩
      have HB := hide hB
      clear hB CL
      go_wp2_with fail
      refine (H.new room w1 hn).mono ?_
      rintro e w2 ⟨q, F0, rfl, hD, hF, hB⟩
      rw [← hrn] at hD
      have HD := hide hD
      have HF0 : Hid (∀ k, F0 k → w.heap.size ≤ k) := hide (fun k hk => Nat.le_trans HB.out.size (hF k hk))
      replace HB := hide (HB.out.trans (hB.mono HB.out.size))
      clear hB hD hF hn hrn
      go_wp2_with fail
      refine (rnew_any room w2).mono ?_
      rintro e w3 ⟨rfl, hB⟩
      rw [hna, hnr]
      replace HB := hide (HB.out.trans (hB.mono HB.out.size))
      replace HD := hide (H.below HD.out hB)
      clear hB hna hnr
      unfold rcells newD
      go_wp2_with fail
      have hB := alloc_below7 w3 (.cells (rcells (newD rn) (.slice none 0 0)) 31)
      have hX := box_new w3 (rcells (newD rn) (.slice none 0 0)) 31
      have HLT0 := H.lt HD.out
      have HLE0 := HB.out.size
      revert hB hX
      have hcs : rcells (newD rn) (.slice none 0 0) = #[.int .i64 (rn : Int), .slice none 0 0, .int .i64 0, .int .i64 0, .int .i64 0, .bool false, .bool false, .int .i64 0] := rfl
      rw [hcs]
      generalize w3.alloc (.cells #[.int .i64 (rn : Int), .slice none 0 0, .int .i64 0, .int .i64 0, .int .i64 0, .bool false, .bool false, .int .i64 0] 31) = w4
      intro hB hX
      rw [← hcs] at hX
      have HDU : Hid (Duo D w q w3.heap.size F0 (.slice none 0 0) (newD rn) (newD rn) w4) := hide ⟨H.below HD.out hB, ⟨hX, World.ownsRow_nil _ _ _ _⟩, HF0.out, HLE0, fun g hg => by (cases hg), fun hf => by have := HLT0 _ hf; omega, HB.out.trans (hB.mono HLE0)⟩
      replace HB := hide (HB.out.trans (hB.mono HB.out.size))
      generalize w3.heap.size = p at *
      clear hB hX HD HF0 HLT0 HLE0 hcs
      refine (CS.out w4 (HLS.out.below HB.out)).mono ?_
      rintro e w5 ⟨v3, rfl, hL3, hw5, hLW⟩
      subst hw5
      obtain ⟨ao3, cap3, hv3, hc3, _, _⟩ := hL3.shape
      subst hv3
      have HLT := hide (hLW w HLS.out)
      clear hL3 hLW HB CS HLS
      go_wp2_with fail
      go_loopg [50] ts.length (fun g i wr => ∃ (k : Nat) (d : Dk) (F : Nat → Prop) (vb : Value), k + g = ts.length ∧ i = .int .i64 k ∧ Hid (Duo D w q p F vb d d wr) ∧ d.bs.length ≤ 65536 * k ∧ d.room = rn)
      case atStart => exact ⟨0, newD rn, F0, _, by omega, rfl, HDU, by simp [newD], rfl⟩
      case round =>
        obtain ⟨k, d, F, vb, hk, rfl, HU, hdl, hrm⟩ := hrel
        clear HDU
        cases gk with
        | zero =>
          obtain rfl : k = ts.length := by omega
          have hz : ¬ ((ts.length : Int) < (ts.length : Int)) := by omega
          have HB := hide HU.out.B
          go_wp2_with fail
          refine (CA.out wr).mono ?_
          rintro e we ⟨rfl, hB⟩
          replace HB := hide (HB.out.trans (hB.mono HB.out.size))
          clear hB
          go_wp2_with fail
          go_ret
          exact ⟨rfl, HB.out⟩
        | succ g =>
          have hz : (k : Int) < (ts.length : Int) := by omega
          obtain ⟨b, off, cap', sv, e, hb, hLs, c0, c1, c2, c3⟩ := HLT.out.at k (by omega)
          cases e
          obtain ⟨sa, sc, hsv⟩ := hLs.shape
          subst hsv
          have ha := HOKT.out ts[k] (List.getElem_mem _)
          have hxl := HBL.out ts[k] (List.getElem_mem _)
          generalize ts[k] = a at *
          have HA := hide ha
          have HLA := hide hLs
          have hdl2 : d.bs.length ≤ 100000000 := by omega
          have k0 := (HU.out.B.cell (p := ⟨b, off + k * 4, none⟩) hb).trans c0
          have k1 := (HU.out.B.cell (p := ⟨b, off + k * 4 + 1, none⟩) hb).trans c1
          have k2 := (HU.out.B.cell (p := ⟨b, off + k * 4 + 2, none⟩) hb).trans c2
          have k3 := (HU.out.B.cell (p := ⟨b, off + k * 4 + 3, none⟩) hb).trans c3
          clear hLs ha c0 c1 c2 c3
          go_wp2_with fail
          have hA := alloc_below7 wr (.cells #[.int .u8 (a.kind : Int), .int .i64 a.n, .slice sa a.b.length sc, .bool a.cut] 36)
          have hX := box_new wr #[.int .u8 (a.kind : Int), .int .i64 a.n, .slice sa a.b.length sc, .bool a.cut] 36
          revert hA hX
          generalize wr.alloc (.cells #[.int .u8 (a.kind : Int), .int .i64 a.n, .slice sa a.b.length sc, .bool a.cut] 36) = W1
          intro hB hX
          have HX := hide hX
          have HFX : Hid (¬ F wr.heap.size ∧ wr.heap.size ≠ p) := hide ⟨fun hf => by have := H.lt HU.out.dd _ hf; omega, fun e => by have := HU.out.rr.box.lt; omega⟩
          replace HU := hide (HU.out.below H hB)
          clear hB hX k0 k1 k2 k3 hb
          refine (does_any H q F d a _ W1 HU.out.dd HA.out (HLA.out.below HU.out.B) hxl hdl2).mono ?_
          rintro e W2 ⟨rfl, h2⟩
          obtain ⟨F2, hU2, hk2⟩ := HU.out.does h2
          have HOKD := hide (H.ok HU.out.dd)
          replace HX := hide (HX.out.keep hk2 HFX.out.1)
          replace HU := hide hU2
          clear h2 hU2 hk2
          have x0 := HX.out.cell 0 _ rfl
          have x1 := HX.out.cell 1 _ rfl
          have x2 := HX.out.cell 2 _ rfl
          have x3 := HX.out.cell 3 _ rfl
          go_wp2_with fail
          refine (would_any p vb d a _ W2 HU.out.rr HOKD.out HA.out (HLA.out.below HU.out.B) hdl2 hxl).mono ?_
          rintro e W3 ⟨rfl, h3⟩
          obtain ⟨vb3, hU3, _⟩ := HU.out.would H h3
          replace HU := hide hU3
          have HLEN := hide (act_len HOKD.out a)
          have hrm2 := act_room_le d a hrm
          have HOK2 := hide (H.ok hU3.dd)
          clear h3 hU3 x0 x1 x2 x3 HX HFX HOKD HLA HA
          generalize (actA d a).1 = r1
          generalize (actA d a).2 = r2
          generalize actD d a = d' at *
          have hdl3 : d'.bs.length ≤ 65536 * (k + 1) := by have := HLEN.out; omega
          have hdl4 : d'.bs.length ≤ 100000000 := by omega
          clear HLEN
          go_wp2_with fail
          refine (H.rea HU.out.dd).mono ?_
          rintro e W4 ⟨v9, rfl, hO, hB⟩
          replace HU := hide (HU.out.below H hB)
          obtain ⟨a9, c9, hv⟩ := (Lies.of_own hO).shape
          subst hv
          have HL9 := hide (Lies.of_own hO)
          clear hO hB
          go_wp2_with fail
          refine (rread_any p vb3 d' W4 HU.out.rr HOK2.out hdl4).mono ?_
          rintro e W5 ⟨v10, rfl, hL10, hB⟩
          replace HU := hide (HU.out.below H hB)
          replace HL9 := hide (HL9.out.below hB)
          obtain ⟨a10, c10, hv⟩ := hL10.shape
          subst hv
          have HL10 := hide hL10
          clear hL10 hB
          go_wp2_with fail
          refine (H.fcd HU.out.dd).mono ?_
          rintro e W6 ⟨rfl, m, hw⟩
          have hB : Below W5.heap.size W5 W6 := hw ▸ below_drewN7 W5 m
          replace HU := hide (HU.out.below H hB)
          replace HL9 := hide (HL9.out.below hB)
          replace HL10 := hide (HL10.out.below hB)
          clear hB hw
          obtain ⟨y0, y1, y2, y3, y4, y5, y6, y7⟩ := HU.out.rr.at
          go_wp2_with fail
          refine (same_any _ _ (reaB d') W6 HL9.out HL10.out).mono ?_
          rintro e W7 ⟨rfl, rfl⟩
          go_wp2_with fail
          have CB1 := hide (fun n => H.bas (H.below HU.out.dd (below_drewN7 W7 n)))
          have CB2 := hide (fun n => H.end' (H.below HU.out.dd (below_drewN7 W7 n)))
          have CB3 := hide (fun n => H.lef (H.below HU.out.dd (below_drewN7 W7 n)))
          have CB4 := hide (fun n => rleft_quiet p vb3 d' (W7.drewN n) (HU.out.rr.below (below_drewN7 W7 n)) HOK2.out)
          have CB5 := hide (fun n => H.roo (H.below HU.out.dd (below_drewN7 W7 n)))
          have CB6 := hide (fun n => H.on (H.below HU.out.dd (below_drewN7 W7 n)))
          rw [hrm2, HRM.out] at CB5
          obtain ⟨ab, cb, hvb⟩ := HU.out.rr.len
          rw [hvb] at y1
          have hoff : ((!d'.off) == d'.off) = false := by cases d'.off <;> rfl
          go_quiet (first
            | (go_at_call 19; exact Calls.quiet_of (CB1.out _))
            | (go_at_call 20; exact Calls.quiet_of (CB2.out _))
            | (go_at_call 21; exact Calls.quiet_of (CB3.out _))
            | (go_at_call 22; exact Calls.quiet_of (CB4.out _))
            | (go_at_call 23; exact Calls.quiet_of (CB5.out _))
            | (go_at_call 24; exact Calls.quiet_of (CB6.out _)))
          replace HU := hide (HU.out.below H (below_drewN7 W7 nq))
          go_wp2_with fail
          go_roundg g
          case measure => omega
          case rel => exact ⟨k + 1, d', _, _, by omega, by first | rfl | go_num, HU, hdl3, hrm2⟩
end
end Go.Proofs.Ytjjmcaamgoffiaa
