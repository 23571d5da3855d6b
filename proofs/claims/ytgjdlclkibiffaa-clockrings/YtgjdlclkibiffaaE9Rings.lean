/-
  ClockRings: what is set rings just once, just when it should. Over any clock that fulfils the bundle. Own work.
-/
import Derived.Test.YtgjdlclkibiffaaCkLaw
import Derived.Test.YtgjdlclkibiffaaE9Next
import Derived.Test.YtgjdlclkibiffaaE9Apart
import Derived.BigQuiet
import Derived.Deep.RegionHeld
import Derived.Deep.LoopGhost
namespace Go.Proofs.Ytgjdlclkibiffaa
open Go.RowKit

section
variable {D : World → Nat → (Nat → Prop) → Ck → Prop}
/-- Ahead of the i-th tick: the timer is there, or has rung. -/
def RingAt (n : NmP) (t0 m i : Nat) (c : Ck) : Prop := c.now = t0 + i ∧ (i ≤ m → (n, (t0 : Int) + m + 1) ∈ c.l) ∧ (m < i → c.has n = false)
theorem ring_step {n : NmP} {t0 m i : Nat} {c : Ck} (h : RingAt n t0 m i c) (hok : c.Ok) (hnow : c.now < 2147483647) : RingAt n t0 m (i + 1) (tickD c) := by
  obtain ⟨h1, h2, h3⟩ := h
  refine ⟨by rw [tick_now hnow]; omega, fun hi => (mem_tick hok hnow _).2 ⟨h2 (by omega), ?_⟩, fun hi => ?_⟩
  · show (t0 : Int) + m + 1 ≠ (c.now : Int) + 1
    omega
  · cases hh : (tickD c).has n
    · rfl
    · obtain ⟨x, hx⟩ := (has_iff _ _).1 hh
      obtain ⟨hx1, hx2⟩ := (mem_tick hok hnow _).1 hx
      by_cases e : i = m
      · have := one_name hok hx1 (h2 (by omega)) rfl
        have e2 : x = (t0 : Int) + m + 1 := congrArg Prod.snd this
        exact absurd (show x = (c.now : Int) + 1 by omega) hx2
      · have hf := h3 (by omega)
        rw [(has_iff _ _).2 ⟨x, hx1⟩] at hf
        cases hf
theorem ring_count {n : NmP} {t0 m i : Nat} {c : Ck} (h : RingAt n t0 m i c) (hok : c.Ok) (hnow : c.now < 2147483647) : (tickL c).count n = if i = m then 1 else 0 := by
  obtain ⟨h1, h2, h3⟩ := h
  rw [tick_count hok hnow]
  by_cases e : i = m
  · have hm := h2 (by omega)
    rw [if_pos e, if_pos ⟨(has_iff _ _).2 ⟨_, hm⟩, by rw [atOf_mem hok hm]; omega⟩]
  · rw [if_neg e, if_neg]
    rintro ⟨ha, hb⟩
    rcases Nat.lt_or_ge m i with hlt | hge
    · have hf := h3 hlt
      rw [hf] at ha
      cases ha
    · have hm := h2 hge
      rw [atOf_mem hok hm] at hb
      omega
theorem setA_few {c : Ck} {n : NmP} {after : Int} (h1 : 0 < after) (h2 : (c.now : Int) + after ≤ 2147483647) (h3 : c.l.length < 1024) : setA c n after = 0 := by
  unfold setA
  rw [if_neg (by omega), if_neg (by omega), if_neg (by rintro ⟨_, h⟩; omega)]
theorem count_take {n : NmP} (ns : List NmP) (k : Nat) (h : k < ns.length) : (ns.take (k + 1)).count n = (ns.take k).count n + (if ns[k] = n then 1 else 0) := by
  rw [List.take_succ_eq_append_getElem h, List.count_append, List.count_singleton]
  by_cases e : ns[k] = n
  · simp [e]
  · simp [e]
set_option maxRecDepth 100000 in
set_option maxHeartbeats 6400000 in
theorem walkG9 (H : ClockDo D) (v : Value) (fs : List KaP) (n : NmP) (m : Nat) (w : World) (hL : RSrc kaE w v fs) (hok : ∀ f ∈ fs, kaOk f) (hn : nmOk n) (hm : m < 256) :
    Calls Try.prog 4 #[v, .agg (nmA n), .int .u8 (m : Int)] w fun e w' => e = .returned (.bool true) ∧ Below w.heap.size w w' := by
  have hX0 := box_new w (nmA n) 34
  have hA0 := alloc_below9 w (.cells (nmA n) 34)
  obtain ⟨w0, hw0⟩ : ∃ w0, w0 = w.alloc (.cells (nmA n) 34) := ⟨_, rfl⟩
  rw [← hw0] at hX0 hA0
  have hW0 := hw0.symm
  have HXN := hide hX0
  have HB0 := hide hA0
  have HON := hide hn
  have HL := hide (hL.below hA0)
  obtain ⟨ao, cap, rfl, hcap, hcm⟩ := hL.shape
  unfold maxLen at hcm
  have HOK : Hid (∀ f ∈ fs.take 150, kaOk f) := hide (fun f hf => hok f (List.mem_of_mem_take hf))
  clear hL hok hX0 hA0 hw0 hn
  go_enter Try.func4, Try.ntmps4
  go_wp2_with fail
  refine (H.new w0).mono ?_
  rintro e W1 ⟨q, F, rfl, hD1, hF1, hB1⟩
  have HS : Hid (Since9 D w0 q newC W1 F) := hide ⟨hD1, hF1, hB1⟩
  have heq := fun W => eq_ptr9 W ⟨q, 0, none⟩
  clear hD1 hF1 hB1
  have CS := hide (short_any9 _ fs W1 w0 HL.out)
  go_wp2_with fail
  refine CS.out.mono ?_
  rintro e W1' ⟨v2, rfl, rfl, hL2⟩
  obtain ⟨ts, hts⟩ : ∃ ts, ts = fs.take 150 := ⟨_, rfl⟩
  rw [← hts] at hL2 HOK
  have htl : ts.length ≤ 150 := by rw [hts, List.length_take]; omega
  obtain ⟨a2, c2, hv2, _⟩ := hL2.shape
  subst hv2
  have HL2 := hide hL2
  have HS0 := HS
  clear hts hL2 CS HS hW0
  go_wp2_with fail
  go_loopg [26] ts.length (fun g i wr => ∃ (k : Nat) (c : Ck) (F : Nat → Prop), k + g = ts.length ∧ i = .int .i64 k ∧ Hid (Since9 D w0 q c wr F) ∧ c.now ≤ k ∧ c.l.length ≤ k)
  case atStart => exact ⟨0, newC, F, by omega, rfl, HS0, Nat.le_refl _, Nat.le_refl _⟩
  case round =>
    obtain ⟨k, c, F, hk, rfl, HS, hnk, hlk⟩ := hrel
    clear HS0
    cases gk with
    | zero =>
      have hz : ¬ ((k : Int) < (ts.length : Int)) := by omega
      have HOC := hide (H.ok HS.out.dd)
      have HC := hide (H.len HS.out.dd)
      have dl : decide ((c.l.length : Int) > 500) = false := decide_eq_false (by omega)
      go_wp2_with fail
      refine HC.out.mono ?_
      rintro e W2 ⟨rfl, m2, hw2⟩
      have hB2 : Below wr.heap.size wr W2 := hw2 ▸ below_drewN9 wr m2
      replace HS := hide (HS.out.below H hB2)
      clear hw2 hB2 HC
      have x0 := (HXN.out.belowI HS.out.bb).cell 0 _ rfl
      have x1 := (HXN.out.belowI HS.out.bb).cell 1 _ rfl
      have x2 := (HXN.out.belowI HS.out.bb).cell 2 _ rfl
      have x3 := (HXN.out.belowI HS.out.bb).cell 3 _ rfl
      go_wp2_with fail
      refine (theirs_any n W2).mono ?_
      rintro e W3 ⟨rfl, hB⟩
      replace HS := hide (HS.out.below H hB)
      have hwr1 : IntKind.u32.wrap ((m : Int) + 1) = (m : Int) + 1 := by rw [IntKind.wrap_u32]; omega
      have C := H.set n ((m : Int) + 1) HS.out.dd HON.out (by omega) (by omega)
      have hA0 : setA c n ((m : Int) + 1) = 0 := setA_few (by omega) (by omega) (by omega)
      rw [hA0] at C
      have HM1 : Hid ((n, (c.now : Int) + ((m : Int) + 1)) ∈ (setD c n ((m : Int) + 1)).l) := hide ((mem_set hA0 _).2 (.inl rfl))
      have HNW : Hid ((setD c n ((m : Int) + 1)).now = c.now) := hide (set_now _ _ _)
      have HC := hide C
      clear C hB x0 x1 x2 x3 hA0
      go_wp2_with fail
      refine HC.out.mono ?_
      rintro e W4 ⟨rfl, h4⟩
      obtain ⟨F4, hS4⟩ := HS.out.did h4
      replace HS := hide hS4
      obtain ⟨t0, ht0⟩ : ∃ t0, t0 = c.now := ⟨_, rfl⟩
      rw [← ht0] at HM1 HNW hnk
      obtain ⟨c1, hc1⟩ : ∃ c1, c1 = setD c n ((m : Int) + 1) := ⟨_, rfl⟩
      rw [← hc1] at HS HM1 HNW
      clear h4 hS4 HC hc1 ht0 hlk HOC dl
      have x0 := (HXN.out.belowI HS.out.bb).cell 0 _ rfl
      have x1 := (HXN.out.belowI HS.out.bb).cell 1 _ rfl
      have x2 := (HXN.out.belowI HS.out.bb).cell 2 _ rfl
      have x3 := (HXN.out.belowI HS.out.bb).cell 3 _ rfl
      go_wp2_with fail
      refine (theirs_any n W4).mono ?_
      rintro e W5 ⟨rfl, hB⟩
      replace HS := hide (HS.out.below H hB)
      have C := H.unt n HS.out.dd HON.out
      rw [atOf_mem (H.ok HS.out.dd) HM1.out, (has_iff _ _).2 ⟨_, HM1.out⟩] at C
      have HC := hide C
      clear C hB x0 x1 x2 x3
      go_wp2_with fail
      refine HC.out.mono ?_
      rintro e W6 ⟨rfl, hB⟩
      replace HS := hide (HS.out.below H hB)
      have C := H.now HS.out.dd
      rw [HNW.out] at C
      replace HC := hide C
      have hwr2 : IntKind.u32.wrap ((t0 : Int) + (m : Int)) = (t0 : Int) + (m : Int) := by rw [IntKind.wrap_u32]; omega
      have hwr3 : IntKind.u32.wrap ((t0 : Int) + (m : Int) + 1) = (t0 : Int) + (m : Int) + 1 := by rw [IntKind.wrap_u32]; omega
      have hne : ((t0 : Int) + ((m : Int) + 1) != (t0 : Int) + (m : Int) + 1) = false := by simp; omega
      clear C hB
      go_wp2_with fail
      refine HC.out.mono ?_
      rintro e W7 ⟨rfl, m7, hw7⟩
      have hB7 : Below W6.heap.size W6 W7 := hw7 ▸ below_drewN9 W6 m7
      replace HS := hide (HS.out.below H hB7)
      have HRA : Hid (RingAt n t0 m 0 c1) := hide ⟨HNW.out, fun _ => by have := HM1.out; rw [show (t0 : Int) + ((m : Int) + 1) = (t0 : Int) + m + 1 by omega] at this; exact this, fun h => by omega⟩
      clear hw7 hB7 HC
      have HS2 := HS
      clear HS
      go_wp2_with fail
      go_loopg [79] (m + 5) (fun g i wr => ∃ (k : Nat) (c : Ck) (F : Nat → Prop), k + g = m + 5 ∧ i = .int .i64 k ∧ Hid (Since9 D w0 q c wr F) ∧ Hid (RingAt n t0 m k c))
      case atStart => exact ⟨0, c1, F4, by omega, rfl, HS2, HRA⟩
      case round =>
        obtain ⟨i, c, F, hi, rfl, HS, HR⟩ := hrel
        clear HS2 HRA
        cases gk with
        | zero =>
          have hz2 : ¬ ((i : Int) < (m : Int) + 5) := by omega
          have hno : c.has n = false := HR.out.2.2 (by omega)
          have x0 := (HXN.out.belowI HS.out.bb).cell 0 _ rfl
          have x1 := (HXN.out.belowI HS.out.bb).cell 1 _ rfl
          have x2 := (HXN.out.belowI HS.out.bb).cell 2 _ rfl
          have x3 := (HXN.out.belowI HS.out.bb).cell 3 _ rfl
          go_wp2_with fail
          refine (theirs_any n _).mono ?_
          rintro e Z1 ⟨rfl, hB⟩
          replace HS := hide (HS.out.below H hB)
          have C := H.unt n HS.out.dd HON.out
          rw [atOf_none hno, hno] at C
          have HC := hide C
          clear C hB x0 x1 x2 x3
          go_wp2_with fail
          refine HC.out.mono ?_
          rintro e Z2 ⟨rfl, hB⟩
          replace HS := hide (HS.out.below H hB)
          clear hB HC
          go_wp2_with fail
          refine (alive_by9 H _).mono ?_
          rintro e Z3 ⟨rfl, hB⟩
          replace HS := hide (HS.out.below H hB)
          clear hB
          go_wp2_with fail
          go_ret
          exact ⟨rfl, HB0.out.trans (HS.out.bb.mono HB0.out.size)⟩
        | succ g =>
          have hz2 : (i : Int) < (m : Int) + 5 := by omega
          have HOC := hide (H.ok HS.out.dd)
          have hnow : c.now < 2147483647 := by have := HR.out.1; omega
          have C := H.tick HS.out.dd
          rw [tickA_zero hnow] at C
          have HC := hide C
          have HCN := hide (ring_count HR.out HOC.out hnow)
          have HST := hide (ring_step HR.out HOC.out hnow)
          have HLN : Hid ((tickL c).length ≤ 1024) := hide (Nat.le_trans (tickL_len c) HOC.out.few)
          obtain ⟨ns, hns⟩ : ∃ ns, ns = tickL c := ⟨_, rfl⟩
          rw [← hns] at HC HCN HLN
          clear C hns
          go_wp2_with fail
          refine HC.out.mono ?_
          rintro e W8 ⟨v8, rfl, h8, hL8, _⟩
          obtain ⟨F8, hS8⟩ := HS.out.did h8
          replace HS := hide hS8
          obtain ⟨a8, c8, hv8, _⟩ := hL8.shape
          subst hv8
          have HL8 := hide hL8
          obtain ⟨ln, hln⟩ : ∃ ln, ln = ns.length := ⟨_, rfl⟩
          have HLE := hide hln
          have hlb : ln ≤ 1024 := by have := HLN.out; omega
          rw [← hln]
          clear h8 hS8 hL8 HC hln
          go_wp2_with fail
          go_loopg [15, 89] ln (fun g x j wr => ∃ (k : Nat), k + g = ln ∧ x = .int .i64 (((ns.take k).count n : Nat) : Int) ∧ j = .int .i64 k ∧ Hid (Below W8.heap.size W8 wr))
          case atStart => exact ⟨0, by omega, by simp, rfl, hide (Below.refl _ _)⟩
          case round =>
            obtain ⟨j, hj, rfl, rfl, HB8⟩ := hrel
            cases gk with
            | zero =>
              have hz3 : ¬ ((j : Int) < (ln : Int)) := by omega
              have htk : ns.take j = ns := List.take_of_length_le (by have := HLE.out; omega)
              rw [htk, HCN.out]
              clear htk
              by_cases him : i = m
              · rw [if_pos him]
                have e1 : ((i : Int) != (m : Int)) = false := by simp [him]
                have e2 : ((i : Int) == (m : Int)) = true := by simp [him]
                have HIM := hide him
                clear him
                go_wp2_with fail
                go_roundg g
                case measure => omega
                case rel => exact ⟨i + 1, tickD c, F8, by omega, by first | rfl | go_num, hide (HS.out.below H HB8.out), HST⟩
              · rw [if_neg him]
                have e1 : ((i : Int) != (m : Int)) = true := by simp; omega
                have e2 : ((i : Int) == (m : Int)) = false := by simp; omega
                clear him
                go_wp2_with fail
                go_roundg g
                case measure => omega
                case rel => exact ⟨i + 1, tickD c, F8, by omega, by first | rfl | go_num, hide (HS.out.below H HB8.out), HST⟩
            | succ g2 =>
              have hz3 : (j : Int) < (ln : Int) := by omega
              have hjn : j < ns.length := by have := HLE.out; omega
              obtain ⟨_, b8, o8, hao8, _, hc8⟩ := (HL8.out.below HB8.out).at recCN.len hjn
              cases hao8
              have s0 := hc8 0 _ rfl
              have s1 := hc8 1 _ rfl
              have s2 := hc8 2 _ rfl
              have s3 := hc8 3 _ rfl
              rw [Nat.add_zero] at s0
              have hct := count_take (n := n) ns j hjn
              have hcb : (ns.take j).count n ≤ j := by
                have h1 := List.count_le_length (a := n) (l := ns.take j)
                rw [List.length_take] at h1
                omega
              obtain ⟨y, hy⟩ : ∃ y, y = ns[j] := ⟨_, rfl⟩
              rw [← hy] at s0 s1 s2 s3 hct
              have HCT := hide hct
              have hXy := box_new wr (nmA y) 47
              have hAy := alloc_below9 wr (.cells (nmA y) 47)
              obtain ⟨wy, hwy⟩ : ∃ wy, wy = wr.alloc (.cells (nmA y) 47) := ⟨_, rfl⟩
              rw [← hwy] at hXy hAy
              have hWy := hwy.symm
              have HXY := hide hXy
              have HBY := hide (HB8.out.trans (hAy.mono HB8.out.size))
              have hqe := fun W => eql_cname y n W
              clear hc8 hct hy hXy hAy hwy
              go_wp2_with fail
              have SS : Hid (∀ Z, Below wy.heap.size wy Z → (Z.cell? ⟨wr.heap.size, 0, none⟩ = some (.int .u8 y.1) ∧ Z.cell? ⟨wr.heap.size, 1, none⟩ = some (.int .u8 y.2.1) ∧ Z.cell? ⟨wr.heap.size, 2, none⟩ = some (.int .u32 y.2.2.1) ∧ Z.cell? ⟨wr.heap.size, 3, none⟩ = some (.int .u32 y.2.2.2) ∧ Z.cell? ⟨w.heap.size, 0, none⟩ = some (.int .u8 n.1) ∧ Z.cell? ⟨w.heap.size, 1, none⟩ = some (.int .u8 n.2.1) ∧ Z.cell? ⟨w.heap.size, 2, none⟩ = some (.int .u32 n.2.2.1) ∧ Z.cell? ⟨w.heap.size, 3, none⟩ = some (.int .u32 n.2.2.2))) := hide (fun Z hB => by
                have hb1 := HXY.out.belowI hB
                have hb2 := HXN.out.belowI ((HS.out.bb.trans (HBY.out.mono HS.out.bb.size)).trans (hB.mono (Nat.le_trans HS.out.bb.size HBY.out.size)))
                exact ⟨hb1.cell 0 _ rfl, hb1.cell 1 _ rfl, hb1.cell 2 _ rfl, hb1.cell 3 _ rfl, hb2.cell 0 _ rfl, hb2.cell 1 _ rfl, hb2.cell 2 _ rfl, hb2.cell 3 _ rfl⟩)
              have ss0 := SS.out wy (Below.refl _ _)
              have HCUR : Hid (Below wy.heap.size wy wy.drew) := hide (Below.refl _ _).drew
              clear s0 s1 s2 s3 hWy
              by_cases hyn : y = n
              · rw [decide_eq_true hyn] at hqe
                rw [if_pos hyn] at HCT
                clear hyn
                go_region_held (fun w' => w'.cell? ⟨wr.heap.size, 0, none⟩ = some (.int .u8 y.1) ∧ w'.cell? ⟨wr.heap.size, 1, none⟩ = some (.int .u8 y.2.1) ∧ w'.cell? ⟨wr.heap.size, 2, none⟩ = some (.int .u32 y.2.2.1) ∧ w'.cell? ⟨wr.heap.size, 3, none⟩ = some (.int .u32 y.2.2.2) ∧ w'.cell? ⟨w.heap.size, 0, none⟩ = some (.int .u8 n.1) ∧ w'.cell? ⟨w.heap.size, 1, none⟩ = some (.int .u8 n.2.1) ∧ w'.cell? ⟨w.heap.size, 2, none⟩ = some (.int .u32 n.2.2.1) ∧ w'.cell? ⟨w.heap.size, 3, none⟩ = some (.int .u32 n.2.2.2)) (go_keep) (first
                  | (go_at_call 16; refine (theirs_any n _).mono ?_; rintro e Z1 ⟨rfl, hB⟩; replace HCUR := hide (HCUR.out.trans (hB.mono HCUR.out.size)); have ss := SS.out Z1 HCUR.out; clear hB))
                all_goals go_wp2_with fail
                all_goals go_roundg g2
                all_goals first
                  | omega
                  | exact ⟨j + 1, by omega, by rw [HCT.out]; first | rfl | go_num, by first | rfl | go_num, hide (HBY.out.trans (HCUR.out.mono HBY.out.size))⟩
              · rw [decide_eq_false hyn] at hqe
                rw [if_neg hyn, Nat.add_zero] at HCT
                clear hyn
                go_region_held (fun w' => w'.cell? ⟨wr.heap.size, 0, none⟩ = some (.int .u8 y.1) ∧ w'.cell? ⟨wr.heap.size, 1, none⟩ = some (.int .u8 y.2.1) ∧ w'.cell? ⟨wr.heap.size, 2, none⟩ = some (.int .u32 y.2.2.1) ∧ w'.cell? ⟨wr.heap.size, 3, none⟩ = some (.int .u32 y.2.2.2) ∧ w'.cell? ⟨w.heap.size, 0, none⟩ = some (.int .u8 n.1) ∧ w'.cell? ⟨w.heap.size, 1, none⟩ = some (.int .u8 n.2.1) ∧ w'.cell? ⟨w.heap.size, 2, none⟩ = some (.int .u32 n.2.2.1) ∧ w'.cell? ⟨w.heap.size, 3, none⟩ = some (.int .u32 n.2.2.2)) (go_keep) (first
                  | (go_at_call 16; refine (theirs_any n _).mono ?_; rintro e Z1 ⟨rfl, hB⟩; replace HCUR := hide (HCUR.out.trans (hB.mono HCUR.out.size)); have ss := SS.out Z1 HCUR.out; clear hB))
                all_goals go_wp2_with fail
                all_goals go_roundg g2
                all_goals first
                  | omega
                  | exact ⟨j + 1, by omega, by rw [HCT.out]; rfl, by first | rfl | go_num, hide (HBY.out.trans (HCUR.out.mono HBY.out.size))⟩
    | succ g =>
      have hz : (k : Int) < (ts.length : Int) := by omega
      have hkt : k < ts.length := by omega
      obtain ⟨_, b, off, hao, hb, hcl⟩ := (HL2.out.below HS.out.bb).at recKA.len hkt
      cases hao
      have r0 := hcl 0 _ rfl
      have r1 := hcl 1 _ rfl
      have r2 := hcl 2 _ rfl
      have r3 := hcl 3 _ rfl
      have r4 := hcl 4 _ rfl
      have r5 := hcl 5 _ rfl
      rw [Nat.add_zero] at r0
      have hoa := HOK.out ts[k] (List.getElem_mem _)
      generalize ts[k] = a at *
      have HOA := hide hoa
      have hXa := box_new wr (kaA a) 36
      have hAa := alloc_below9 wr (.cells (kaA a) 36)
      obtain ⟨wa, hwa⟩ : ∃ wa, wa = wr.alloc (.cells (kaA a) 36) := ⟨_, rfl⟩
      rw [← hwa] at hXa hAa
      have hWa := hwa.symm
      have HFL := hide (H.lt HS.out.dd)
      replace HS := hide (HS.out.below H hAa)
      have HXA0 := hide hXa
      have HOC := hide (H.ok HS.out.dd)
      have HBA : Hid (Below wa.heap.size wa wa) := hide (Below.refl _ _)
      have k0 := hXa.cell 0 _ rfl
      clear hcl hb hoa hXa hAa hwa
      have hnow : c.now < 2147483647 := by omega
      have hak := HOA.out.1
      have hrem : a.1.tmod 4 = a.1 % 4 := Int.tmod_eq_emod_of_nonneg hak.1
      obtain ⟨r, hr⟩ : ∃ r, r = a.1 % 4 := ⟨_, rfl⟩
      rw [← hr] at hrem
      by_cases h1 : r = 1
      · subst h1
        clear hr
        have HC2 := hide (H.tick HS.out.dd)
        go_wp2_with fail
        refine HC2.out.mono ?_
        rintro e W7 ⟨v7, rfl, h7, hL7, _⟩
        obtain ⟨F7, hS7⟩ := HS.out.did h7
        replace HS := hide hS7
        obtain ⟨a7, c7, hv7, _⟩ := hL7.shape
        subst hv7
        have HTL := hide (tick_len c)
        clear h7 hS7 hL7 HC2
        go_wp2_with fail
        go_roundg g
        case measure => omega
        case rel => exact ⟨k + 1, tickD c, F7, by omega, by first | rfl | go_num, HS, by rw [tick_now hnow]; omega, by have := HTL.out; omega⟩
      · have d2 : (r == 1) = false := by simp [h1]
        clear hr h1
        go_wp2_with fail
        have SS : Hid (∀ Z, Below wa.heap.size wa Z → (Z.cell? ⟨wr.heap.size, 1, none⟩ = some (.int .u8 a.2.1.1) ∧ Z.cell? ⟨wr.heap.size, 2, none⟩ = some (.int .u8 a.2.1.2.1) ∧ Z.cell? ⟨wr.heap.size, 3, none⟩ = some (.int .u32 a.2.1.2.2.1) ∧ Z.cell? ⟨wr.heap.size, 4, none⟩ = some (.int .u32 a.2.1.2.2.2) ∧ Z.cell? ⟨wr.heap.size, 5, none⟩ = some (.int .u32 a.2.2))) := hide (fun Z hB => by
          have hb3 := HXA0.out.belowI hB
          exact ⟨hb3.cell 1 _ rfl, hb3.cell 2 _ rfl, hb3.cell 3 _ rfl, hb3.cell 4 _ rfl, hb3.cell 5 _ rfl⟩)
        have ss0 := SS.out wa HBA.out
        replace HS := hide (HS.out.below H (Below.refl wa.heap.size wa).drew)
        replace HBA := hide (HBA.out.trans ((Below.refl wa.heap.size wa).drew.mono HBA.out.size))
        go_region_held (fun w' => w'.cell? ⟨wr.heap.size, 1, none⟩ = some (.int .u8 a.2.1.1) ∧ w'.cell? ⟨wr.heap.size, 2, none⟩ = some (.int .u8 a.2.1.2.1) ∧ w'.cell? ⟨wr.heap.size, 3, none⟩ = some (.int .u32 a.2.1.2.2.1) ∧ w'.cell? ⟨wr.heap.size, 4, none⟩ = some (.int .u32 a.2.1.2.2.2) ∧ w'.cell? ⟨wr.heap.size, 5, none⟩ = some (.int .u32 a.2.2)) (go_keep) (first
          | (go_at_call 16; refine (theirs_any a.2.1 _).mono ?_; rintro e Z1 ⟨rfl, hB⟩; replace HS := hide (HS.out.below H hB); replace HBA := hide (HBA.out.trans (hB.mono HBA.out.size)); have ss := SS.out Z1 HBA.out; clear hB)
          | (go_at_call 18; refine (H.set a.2.1 a.2.2 HS.out.dd HOA.out.2.1 HOA.out.2.2.1 HOA.out.2.2.2).mono ?_; rintro e Z2 ⟨rfl, h5⟩; have hx5 : Box Z2 wr.heap.size (kaA a) 36 := (by obtain ⟨F', _, hk5, _⟩ := h5; exact (HXA0.out.belowI HBA.out).keep hk5 (fun hf => by have := HFL.out _ hf; omega)); obtain ⟨F5, hS5⟩ := HS.out.did h5; replace HS := hide hS5; have ss : _ ∧ _ ∧ _ ∧ _ ∧ _ := ⟨hx5.cell 1 _ rfl, hx5.cell 2 _ rfl, hx5.cell 3 _ rfl, hx5.cell 4 _ rfl, hx5.cell 5 _ rfl⟩; clear h5 hS5 hx5))
        have HTL := hide (set_len HOC.out a.2.1 a.2.2)
        go_wp2_with fail
        go_roundg g
        case measure => omega
        case rel => exact ⟨k + 1, _, F5, by omega, by first | rfl | go_num, HS, by rw [set_now]; omega, by have := HTL.out; omega⟩
end
end Go.Proofs.Ytgjdlclkibiffaa
