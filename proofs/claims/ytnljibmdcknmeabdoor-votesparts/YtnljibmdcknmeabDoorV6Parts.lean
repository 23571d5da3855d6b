/-
  For every configuration, every number of votes and every set the statement VotesParts returns true: a set has so many votes just if a quorum for these is a part of it; the quorums rise and have voters alone; the smallest set in it is as small as the smallest quorum in it; the probe 'alive' holds; nothing that was there is written.
  Conditions: the library's table math/bits.deBruijn64tab holds what its initialiser lays (the card ties that to the program's text); else none.
-/
import Derived.Test.YtnljibmdcknmeabDoorVtAlive
import Derived.Test.YtnljibmdcknmeabDoorVtOpen
namespace Go.Proofs.YtnljibmdcknmeabDoor
open Go.ChangeShapes Go.WideShapes Go.ChangeAt Go.RowKit

namespace parts
theorem quo_at (vs : List Nat) (want : Int) (j : Nat) (h : j < (quoL vs want).length) : (quoL vs want).getD j 0 ∈ quoL vs want := by
  rw [List.getD_eq_getElem?_getD, List.getElem?_eq_getElem h, Option.getD_some]
  exact List.getElem_mem h
theorem quo_rise (vs : List Nat) (want : Int) (j : Nat) (h0 : 0 < j) (h : j < (quoL vs want).length) : (quoL vs want).getD (j - 1) 0 < (quoL vs want).getD j 0 := by
  have := List.pairwise_iff_getElem.1 (quoL_rise vs want) (j - 1) j (by omega) h (by omega)
  rw [List.getD_eq_getElem?_getD, List.getD_eq_getElem?_getD, List.getElem?_eq_getElem h, List.getElem?_eq_getElem (show j - 1 < _ by omega), Option.getD_some, Option.getD_some]
  exact this
theorem quoI_len (vs : List Nat) (want : Int) : (quoI vs want).length = (quoL vs want).length := by simp [quoI]
theorem quoI_at (vs : List Nat) (want : Int) (j : Nat) : (quoI vs want).getD j 0 = (((quoL vs want).getD j 0 : Nat) : Int) := by
  simp only [quoI, List.getD_eq_getElem?_getD, List.getElem?_map]
  cases (quoL vs want)[j]? <;> simp
theorem quo_len (vs : List Nat) (want : Int) : (quoL vs want).length ≤ 256 := by
  unfold quoL
  exact Nat.le_trans (List.length_filter_le _ _) (by simp)
theorem run_load_cfg {w : World} {q : Nat} {c : Cf} {t : TypeId} (hok : c.Ok) (hb : Box w q c.arr t) : (Instr.loadAt 25 (.pointer (some ⟨q, 0, none⟩))).run Tryd.prog w = .ok (.agg c.arr) w := by
  have hs : c.cells.length = 11 := by have := hok.size; simpa [Cf.arr] using this
  exact run_loadAt_mid (P := Tryd.prog) w q 0 25 c.cells _ (arr_range hb) Tryd.underlying25 rfl (by rw [hs]; exact infoCfg)
set_option maxRecDepth 100000 in
set_option maxHeartbeats 12800000 in
theorem walkN (c : Cf) (want : Int) (s : Nat) (hok : c.Ok) (hs : s < 18446744073709551616) (w : World) (hT : Tab w) :
    Calls Tryd.prog 3 #[.agg c.arr, .int .i64 want, .int .u64 ((s : Nat) : Int)] w fun e w' => e = .returned (.bool true) ∧ Below w.heap.size w w' := by
  have hTp := hT.pos
  have hsz := hok.size
  have hV := vot256 c.vs
  have HO := hide hok
  have HX := hide (box_new w c.arr 25)
  have HB := hide (alloc_below w (.cells c.arr 25))
  have HT := hide (hT.below HB.out hTp)
  have CQ := hide (fun W hW => quorums_any c want hok W hW)
  have CV := hide (fun W => votersB c hok W)
  have CL := hide (fun W => least_any c want s hok hs W)
  have CO := hide (fun W => ofB c s hok hs W)
  have COX := hide (fun x hx W => ofB c x hok hx W)
  have CA := hide (fun W hW => alive_any W hW)
  have hql := quo_len c.vs want
  have HQA := hide (fun j h => (quoL_mem c.vs want _).1 (quo_at c.vs want j h))
  have HQP := hide (fun j h => quoL_part c.vs want _ (quo_at c.vs want j h))
  have HQR := hide (fun j h0 h => quo_rise c.vs want j h0 h)
  have HQI := hide (quoI_at c.vs want)
  have hqi := quoI_len c.vs want
  obtain ⟨ps1, ps2⟩ := parts_some c.vs want s
  have HP1 := hide ps1
  have HP2 := hide ps2
  have HPL := hide (parts_least c.vs want s)
  have HZ : Hid ((leastF c.vs want s).2 = false → (leastF c.vs want s).1 = 0) := hide (fun h => by
    rcases least_spec c.vs want s with ⟨e, _⟩ | ⟨x, e, _⟩
    · rw [e]
    · rw [e] at h; cases h)
  clear hok hT ps1 ps2
  generalize hqq : quoI c.vs want = QI at *
  clear hqq
  generalize hq2 : quoL c.vs want = Q at *
  clear hq2
  go_enter Tryd.func3, Tryd.ntmps3
  go_wp2_with (first | (refine wp_load_cfg rfl _ rfl _ rfl HO.out HX.out ?_) | (go_at_call 6; refine (CQ.out _ HT.out).mono ?_; rintro e w1 ⟨v1, rfl, hL1, hB1⟩; obtain ⟨ao, cap, hv1, hat⟩ := hL1.at; rw [hqi] at hv1 hat; subst hv1; have HAt := hide hat; have HX1 := hide (HX.out.belowV hB1); have HT1 := hide (HT.out.below hB1 HT.out.pos); have HB1 := hide (HB.out.trans (hB1.mono HB.out.size)); clear hL1 hB1 hat HX HT HB CQ))
  have HQlen : Hid (∃ N, N = Q.length) := hide ⟨_, rfl⟩
  go_loopg [8, 9, 19] Q.length (fun g x y i wr => ∃ j : Nat, j + g = Q.length ∧ i = .int .i64 j ∧ x = .bool (someIn (Q.take j) s) ∧ y = .int .i64 ((fewest (Q.take j) s : Nat) : Int) ∧ Below w1.heap.size w1 wr)
  case atStart => exact ⟨0, by omega, rfl, rfl, rfl, Below.refl _ _⟩
  case round =>
    obtain ⟨j, hj, rfl, rfl, rfl, hBy⟩ := hrel
    have HBy := hide hBy
    have hsy := hBy.size
    clear hBy
    cases gk with
    | zero =>
      obtain rfl : j = Q.length := by omega
      have hz : ¬ ((Q.length : Int) < (Q.length : Int)) := by omega
      rw [List.take_length]
      have HXr := hide (HX1.out.belowV HBy.out)
      clear HQA HQP HQR HQI HAt CV
      go_wp2_with (first
        | (refine wp_load_cfg rfl _ rfl _ rfl HO.out HXr.out ?_)
        | (go_at_call 9; refine (CL.out _).mono ?_; rintro e w2 ⟨rfl, hB2⟩; have HX2 := hide (HXr.out.belowV hB2); have HT2 := hide ((HT1.out.below HBy.out HT1.out.pos).below hB2 (by have := HT1.out.pos; omega)); have HB2 := hide ((HB1.out.trans (HBy.out.mono HB1.out.size)).trans (hB2.mono (by have := HB1.out.size; omega))); clear hB2 HXr)
        | (refine wp_load_cfg rfl _ rfl _ rfl HO.out HX2.out ?_))
      refine (CO.out _).mono ?_
      rintro e w3 ⟨rfl, hB3⟩
      have HX3 := hide (HX2.out.belowV hB3)
      have HT3 := hide (HT2.out.below hB3 HT2.out.pos)
      have HB3 := hide (HB2.out.trans (hB3.mono HB2.out.size))
      clear hB3 HX2 HT2 HB2 CO CL
      rw [HP2.out, HP1.out]
      have HP3 : Hid ((leastF c.vs want s).2 = decide (want ≤ ((ofN c.vs s 8 : Nat) : Int))) := hide (by rw [HP2.out, HP1.out])
      generalize ofN c.vs s 8 = O at *
      generalize hlf : leastF c.vs want s = lf at *
      obtain ⟨x, f⟩ := lf
      simp only at HZ HP3 HPL
      clear hlf
      generalize hfw : fewest Q s = fw at *
      clear hfw
      by_cases hge : want ≤ (O : Int)
      case neg =>
        have hd : decide (want ≤ (O : Int)) = false := decide_eq_false hge
        rw [hd] at HP3 ⊢
        have hx0 : x = 0 := HZ.out HP3.out
        subst hx0
        have hd2 : decide ((O : Int) ≥ want) = false := decide_eq_false (by omega)
        go_wp2_with fail
        refine (CA.out _ HT3.out).mono ?_
        rintro e w4 ⟨rfl, hB4⟩
        have HB4 := hide (HB3.out.trans (hB4.mono HB3.out.size))
        clear hB4
        go_wp2_with fail
        go_ret
        exact ⟨rfl, HB4.out⟩
      case pos =>
        have hd : decide (want ≤ (O : Int)) = true := decide_eq_true hge
        rw [hd] at HP3 ⊢
        have hd2 : decide ((O : Int) ≥ want) = true := decide_eq_true (by omega)
        obtain ⟨hx1, hx2, hx3, hx4⟩ := HPL.out x (by rw [HP3.out])
        have hxs := (andNot_ne x s (by omega) hs).2
        rw [hx2] at hxs
        have CX := hide (fun W => COX.out x (by omega) W)
        have CR := hide (fun W => rlist_any x (by omega) W)
        have hll := listS_len x
        have HL4 := hide hx4
        have hd3 : decide (((ofN c.vs x 8 : Nat) : Int) ≥ want) = true := decide_eq_true (by omega)
        clear hx2 hx4 hx3
        generalize ofN c.vs x 8 = OX at *
        go_wp2_with (refine wp_load_cfg_g rfl _ rfl _ rfl HO.out HX3.out ?_)
        refine (CX.out _).mono ?_
        rintro e w4 ⟨rfl, hB4⟩
        have HT4 := hide (HT3.out.below hB4 HT3.out.pos)
        have HB4 := hide (HB3.out.trans (hB4.mono HB3.out.size))
        clear hB4
        go_wp2_with fail
        refine (CR.out _).mono ?_
        rintro e w5 ⟨v5, rfl, ho5, hB5⟩
        obtain ⟨ao5, cap5, hv5, _⟩ := (Lies.of_own ho5).at
        subst hv5
        rw [HL4.out]
        have HT5 := hide (HT4.out.below hB5 HT4.out.pos)
        have HB5 := hide (HB4.out.trans (hB5.mono HB4.out.size))
        clear hB5 ho5
        go_wp2_with fail
        refine (CA.out _ HT5.out).mono ?_
        rintro e w6 ⟨rfl, hB6⟩
        have HB6 := hide (HB5.out.trans (hB6.mono HB5.out.size))
        clear hB6
        go_wp2_with fail
        go_ret
        exact ⟨rfl, HB6.out⟩
    | succ g =>
      have hz : (j : Int) < (Q.length : Int) := by omega
      obtain ⟨b, off, rfl, hcs⟩ := HAt.out j (by omega)
      have hcj := hcs j (by omega)
      rw [HQI.out j] at hcj
      have hbl : b < w1.heap.size := by
        rcases Nat.lt_or_ge b w1.heap.size with h | h
        · exact h
        · have hn : w1.heap[b]? = none := by simp [h]
          simp [World.cell?, hn] at hcj
      have hcr : wr.cell? ⟨b, off + j, none⟩ = some (.int .u64 ((Q.getD j 0 : Nat) : Int)) := (HBy.out.cell (p := ⟨b, off + j, none⟩) hbl).trans hcj
      obtain ⟨hq256, _⟩ := HQA.out j (by omega)
      have hqp := (andNot_ne (Q.getD j 0) (votN c.vs 8) (by omega) (by omega)).1
      rw [(partB_iff (Q.getD j 0) (votN c.vs 8) (by omega)).2 (HQP.out j (by omega))] at hqp
      have hqs := (andNot_ne (Q.getD j 0) s (by omega) hs).2
      have HXr := hide (HX1.out.belowV HBy.out)
      have CR := hide (fun W => rlist_any (Q.getD j 0) (by omega) W)
      have hll := listS_len (Q.getD j 0)
      have HTK : Hid (Q.take (j + 1) = Q.take j ++ [Q.getD j 0]) := hide (take_snocN Q j (by omega))
      have HS1 : Hid (someIn (Q.take (j + 1)) s = (someIn (Q.take j) s || partB (Q.getD j 0) s)) := hide (by rw [HTK.out, someIn_snoc])
      have HS2 : Hid (fewest (Q.take (j + 1)) s = if partB (Q.getD j 0) s then min (fewest (Q.take j) s) (listS (Q.getD j 0)).length else fewest (Q.take j) s) := hide (by rw [HTK.out, fewest_snoc])
      have hfw : fewest (Q.take j) s ≤ 64 := (fewest_fold s (Q.take j) 64).1
      clear hcs hcj HTK
      by_cases hj0 : j = 0
      · subst hj0
        rw [Nat.add_zero] at hcr
        have hz0 : 0 < Q.length := by omega
        generalize Q.getD 0 0 = q at *
        generalize hsm : someIn (Q.take 0) s = sm at *
        generalize hfe : fewest (Q.take 0) s = fw at *
        clear hsm hfe
        cases hp : partB q s
        · rw [hp] at hqs HS1 HS2
          have HE1 : Hid (someIn (Q.take (0 + 1)) s = sm) := hide (by rw [HS1.out]; simp)
          have HE2 : Hid (fewest (Q.take (0 + 1)) s = fw) := hide (by rw [HS2.out]; rfl)
          clear HS1 HS2 CR hp
          go_wp2_with (refine wp_load_cfg_g rfl _ rfl _ rfl HO.out HXr.out ?_)
          refine (CV.out _).mono ?_
          rintro e w2 ⟨rfl, hB2⟩
          have HB2 := hide hB2
          clear hB2 hcr
          go_wp2_with fail
          go_roundg g
          case measure => omega
          case rel => exact ⟨0 + 1, by omega, by first | rfl | go_num, by rw [HE1.out], by rw [HE2.out], HBy.out.trans (HB2.out.mono hsy)⟩
        · rw [hp] at hqs HS1 HS2
          have HE1 : Hid (someIn (Q.take (0 + 1)) s = true) := hide (by rw [HS1.out]; simp)
          have HE2 : Hid (fewest (Q.take (0 + 1)) s = min fw (listS q).length) := hide (by rw [HS2.out]; rfl)
          clear HS1 HS2 hp
          go_wp2_with (refine wp_load_cfg_g rfl _ rfl _ rfl HO.out HXr.out ?_)
          refine (CV.out _).mono ?_
          rintro e w2 ⟨rfl, hB2⟩
          have HB2 := hide hB2
          clear hB2 hcr
          go_wp2_with fail
          refine (CR.out _).mono ?_
          rintro e w3 ⟨v3, rfl, ho3, hB3⟩
          obtain ⟨ao3, cap3, hv3, _⟩ := (Lies.of_own ho3).at
          subst hv3
          have HB3 := hide hB3
          have hs2 := HB2.out.size
          clear ho3 hB3 CR
          generalize (listS q).length = nq at *
          go_wp2_with fail
          all_goals
            go_roundg g
            case measure => omega
            case rel => exact ⟨0 + 1, by omega, by first | rfl | go_num, by rw [HE1.out], by rw [HE2.out]; exact congrArg (Value.int .i64) (by omega), HBy.out.trans ((HB2.out.trans (HB3.out.mono hs2)).mono hsy)⟩
      · obtain ⟨i, rfl⟩ : ∃ i, j = i + 1 := ⟨j - 1, by omega⟩
        have hc1 : wr.cell? ⟨b, off + i, none⟩ = some (.int .u64 ((Q.getD i 0 : Nat) : Int)) := by
          obtain ⟨b', off', e, hcs⟩ := HAt.out i (by omega)
          cases e
          have := hcs i (by omega)
          rw [HQI.out i] at this
          exact (HBy.out.cell (p := ⟨b, off + i, none⟩) hbl).trans this
        have hrise := HQR.out (i + 1) (by omega) (by omega)
        rw [Nat.add_sub_cancel] at hrise
        have hi1 : (i : Int) < (Q.length : Int) := by omega
        generalize Q.getD (i + 1) 0 = q at *
        generalize Q.getD i 0 = q1 at *
        have hge : decide ((q1 : Int) ≥ (q : Int)) = false := decide_eq_false (by omega)
        have hgn : decide (q ≤ q1) = false := decide_eq_false (by omega)
        clear hj0
        generalize hsm : someIn (Q.take (i + 1)) s = sm at *
        generalize hfe : fewest (Q.take (i + 1)) s = fw at *
        clear hsm hfe
        cases hp : partB q s
        · rw [hp] at hqs HS1 HS2
          have HE1 : Hid (someIn (Q.take ((i + 1) + 1)) s = sm) := hide (by rw [HS1.out]; simp)
          have HE2 : Hid (fewest (Q.take ((i + 1) + 1)) s = fw) := hide (by rw [HS2.out]; rfl)
          clear HS1 HS2 CR hp
          go_wp2_with (refine wp_load_cfg_g rfl _ rfl _ rfl HO.out HXr.out ?_)
          refine (CV.out _).mono ?_
          rintro e w2 ⟨rfl, hB2⟩
          have HB2 := hide hB2
          clear hB2 hcr
          go_wp2_with fail
          go_roundg g
          case measure => omega
          case rel => exact ⟨(i + 1) + 1, by omega, by first | rfl | go_num, by rw [HE1.out], by rw [HE2.out], HBy.out.trans (HB2.out.mono hsy)⟩
        · rw [hp] at hqs HS1 HS2
          have HE1 : Hid (someIn (Q.take ((i + 1) + 1)) s = true) := hide (by rw [HS1.out]; simp)
          have HE2 : Hid (fewest (Q.take ((i + 1) + 1)) s = min fw (listS q).length) := hide (by rw [HS2.out]; rfl)
          clear HS1 HS2 hp
          go_wp2_with (refine wp_load_cfg_g rfl _ rfl _ rfl HO.out HXr.out ?_)
          refine (CV.out _).mono ?_
          rintro e w2 ⟨rfl, hB2⟩
          have HB2 := hide hB2
          clear hB2 hcr
          go_wp2_with fail
          refine (CR.out _).mono ?_
          rintro e w3 ⟨v3, rfl, ho3, hB3⟩
          obtain ⟨ao3, cap3, hv3, _⟩ := (Lies.of_own ho3).at
          subst hv3
          have HB3 := hide hB3
          have hs2 := HB2.out.size
          clear ho3 hB3 CR
          generalize (listS q).length = nq at *
          go_wp2_with fail
          all_goals
            go_roundg g
            case measure => omega
            case rel => exact ⟨(i + 1) + 1, by omega, by first | rfl | go_num, by rw [HE1.out], by rw [HE2.out]; exact congrArg (Value.int .i64) (by omega), HBy.out.trans ((HB2.out.trans (HB3.out.mono hs2)).mono hsy)⟩
end parts
namespace parts
set_option maxRecDepth 100000 in
theorem contract (H : Type) (enc : TypeId × Value → H) (W : World) (base : Nat) (args : Array Value) (ds gs : List (DataW H)) (before : List MemPlace)
    (hval : ∀ (j : Nat) t v, Tryd.f3.params[j]? = some t → args[j]? = some v → Value.okWide Tryd.prog W .any base t v)
    (hW : DataW.Whole enc Tryd.prog Tryd.f3.params.toList Rows.votesPartsSpec.vars false W args.toList ds gs before) (hL : laidMet Tryd.prog laidList W) :
    Calls Tryd.prog 3 args W fun e W' => ∃ v, e = .returned v ∧ Rows.votesPartsSpec.post enc Tryd.prog Tryd.f3 false true false false W args v W' := by
  have hW' := hW
  obtain ⟨p, q, hA0, hV, rfl, hfz, hnd⟩ := hW
  have hA : DataW.TrodAll enc Tryd.prog W 0 (fun _ => true) true Tryd.f3.params.toList args.toList ds p := hA0
  rw [Tryd.params3] at hA hval
  obtain ⟨v0, vs0, d0, ds0, p0, q0, hargs, rfl, rfl, h0, r0⟩ := trodAll_cons hA
  obtain ⟨v1, vs1, d1, ds1, p1, q1, rfl, rfl, rfl, h1, r1⟩ := trodAll_cons r0
  obtain ⟨v2, vs2, d2, ds2, p2, q2, rfl, rfl, rfl, h2, r2⟩ := trodAll_cons r1
  obtain ⟨rfl, rfl, rfl⟩ := trodAll_nil r2
  obtain rfl : args = #[v0, v1, v2] := by cases args; simp_all
  obtain ⟨rfl, rfl⟩ := trodVars_none hV
  have k0 := h0
  have lt0 : ∀ x ∈ p0, x.block < W.heap.size := by obtain ⟨m, hm⟩ := k0; exact DataW.trod_lt m _ _ _ hm
  obtain ⟨c0, rfl, ok0⟩ := cfg_of_trod (hval 0 25 v0 rfl rfl) h0
  obtain ⟨a1, rfl, rfl, rfl, w1⟩ := open_int Tryd.underlying3 (hval 1 3 v1 rfl rfl) h1
  have b1 := bounds_i64 w1
  obtain ⟨a2, rfl, rfl, rfl, w2⟩ := open_int Tryd.underlying26 (hval 2 26 v2 rfl rfl) h2
  have b2 := bounds_u64 w2
  obtain ⟨m2, rfl⟩ := Int.eq_ofNat_of_zero_le b2.1
  clear hA0
  refine (parts.walkN c0 a1 m2 ok0 (by omega) W (tab_of_laid hL)).mono fun e W' ⟨he, bel⟩ => ?_
  subst he
  exact ⟨_, rfl, _, _, _, [], _, [], hW', trodAll_mk1 (shut_bool Tryd.underlying4 _), (trodAll_cons_mk (Below.trod laidOut (by kernel_rfl) (of_decide_eq_true (by kernel_rfl)) k0 bel lt0) (trodAll_cons_mk (shut_int Tryd.underlying3 w1) (trodAll_cons_mk (shut_int Tryd.underlying26 w2) trodAll_mk0))), rfl, bel.frame _, fun h => by cases h⟩

theorem laid_met (os : Os) : laidMet Tryd.prog laidList ((layTab (World.holding Tryd.prog os ⟨#[], #[], []⟩)).forCall (fun _ _ => 0) ⟨#[], #[.agg #[.int .u32 0, .int .u8 0, .int .u8 0, .int .u8 0, .int .u8 0, .int .u8 0, .int .u8 0, .int .u8 0, .int .u8 0, .int .u8 0, .int .u8 0], .int .i64 0, .int .u64 0], []⟩).memory :=
  laidMet_of_run' 8 (by kernel_rfl) (by kernel_rfl)
theorem reads (os : Os) {H : Type} (enc : TypeId × Value → H) : ∃ places, DataW.whole enc Tryd.prog ((layTab (World.holding Tryd.prog os ⟨#[], #[], []⟩)).forCall (fun _ _ => 0) ⟨#[], #[.agg #[.int .u32 0, .int .u8 0, .int .u8 0, .int .u8 0, .int .u8 0, .int .u8 0, .int .u8 0, .int .u8 0, .int .u8 0, .int .u8 0, .int .u8 0], .int .i64 0, .int .u64 0], []⟩).memory Tryd.f3.params.toList Rows.votesPartsSpec.vars false #[Value.agg #[.int .u32 0, .int .u8 0, .int .u8 0, .int .u8 0, .int .u8 0, .int .u8 0, .int .u8 0, .int .u8 0, .int .u8 0, .int .u8 0, .int .u8 0], Value.int .i64 0, Value.int .u64 0].toList 8 = some ([.agg [.lit (.int .u32 0), .lit (.int .u8 0), .lit (.int .u8 0), .agg [.lit (.int .u8 0), .lit (.int .u8 0), .lit (.int .u8 0), .lit (.int .u8 0), .lit (.int .u8 0), .lit (.int .u8 0), .lit (.int .u8 0), .lit (.int .u8 0)]], .lit (.int .i64 0), .lit (.int .u64 0)], [], places) :=
  ⟨[], by kernel_rfl⟩

set_option maxRecDepth 100000 in
theorem lifted (os : Os) (started : os.Started) (H : Type) (enc : TypeId × Value → H) (F : Stop.Interp) :
    ReturnsInHanded {} Tryd.checked os 3 .any ((OpenSpec.ofChange Rows.votesPartsSpec).preRow enc Tryd.prog Tryd.f3 Rows.votesPartsRow.domain false Rows.votesPartsRow.laid) (((OpenSpec.ofChange Rows.votesPartsSpec).at F).post enc Tryd.prog Tryd.f3 false true false false) := by
  obtain ⟨places, hx⟩ := reads os enc
  refine returnsInHanded_of_row (C := Tryd.checked) (s := OpenSpec.ofChange Rows.votesPartsSpec) own started (by kernel_rfl) Tryd.func3
    (witness_row_at (enc := enc) (C := Tryd.checked) false (layTab (World.holding Tryd.prog os ⟨#[], #[], []⟩)) #[.agg #[.int .u32 0, .int .u8 0, .int .u8 0, .int .u8 0, .int .u8 0, .int .u8 0, .int .u8 0, .int .u8 0, .int .u8 0, .int .u8 0, .int .u8 0], .int .i64 0, .int .u64 0] rfl (by kernel_rfl) (by kernel_rfl) (by kernel_rfl)
      (OpenSpec.preRow_of_cond 8 hx (by kernel_rfl) (fun k hk => by cases hk) (by kernel_rfl) (laid_met os))) ?_
  intro W base args ds gs before hval hW _ _ _ hL _ _
  exact contract H enc W base args ds gs before hval hW hL

theorem said : Rows.VotesPartsSaid :=
  OpenClaim.holds_of_cond 3 Tryd.f3 rfl rfl rfl rfl rfl rfl rfl ⟨rfl, rfl, rfl, rfl, rfl⟩ rfl rfl rfl rfl rfl (by kernel_rfl) Tryd.func3 (by kernel_rfl)
    (of_decide_eq_true (by kernel_rfl)) (by unfold Func.isWrapper; first | (rw [if_pos (by decide +kernel)]; kernel_rfl) | (rw [if_neg (by decide +kernel)]; exact ⟨rfl, rfl⟩))
    (fun os started H enc _ F => by rw [OpenClaim.pre_eq_preRow]; exact lifted os started H enc F)

theorem plain (f : FuncId) (fn : Func) (hf : Tryd.pinned.checked.prog.funcNamed Tryd.f3.name = some f) (hfn : Tryd.pinned.checked.prog.funcs[f]? = some fn) :
    false = Tryd.pinned.checked.prog.looks [] ∧ ∀ (j : Nat) t, fn.params[j]? = some t → Tryd.pinned.checked.prog.wantsStandIn t = false := by
  obtain rfl : f = 3 := Option.some.inj ((show Tryd.prog.funcNamed Tryd.f3.name = some 3 by kernel_rfl).symm.trans hf) |>.symm
  obtain rfl : fn = Tryd.f3 := (Option.some.inj (Tryd.func3.symm.trans hfn)).symm
  refine ⟨by kernel_rfl, fun j t ht => ?_⟩
  rw [Tryd.params3] at ht
  have : t = 25 ∨ t = 3 ∨ t = 26 := by simpa using Array.mem_of_getElem? ht
  rcases this with rfl | rfl | rfl
  · exact (show Tryd.prog.wantsStandIn 25 = false by kernel_rfl)
  · exact (show Tryd.prog.wantsStandIn 3 = false by kernel_rfl)
  · exact (show Tryd.prog.wantsStandIn 26 = false by kernel_rfl)
end parts

/-- THE CARD. -/
theorem votesParts_card : Rows.VotesPartsCardSaid :=
  Claim7.holds_tied_plain_at .later [] _ _ _ _ parts.said (fun _ h => by cases h) (by kernel_rfl) (fun _ h => by cases h) votesParts_row_tie rfl ⟨rfl, rfl⟩ (by kernel_rfl) rfl parts.plain (by kernel_rfl)
#print axioms votesParts_card
end Go.Proofs.YtnljibmdcknmeabDoor
