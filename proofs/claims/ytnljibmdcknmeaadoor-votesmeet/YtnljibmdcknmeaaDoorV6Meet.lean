/-
  For every configuration and every two sets the statement VotesMeet returns true: of a configuration that may be a set that reads and one that writes have a voter in common, and so have two that write; the probe 'alive' holds; nothing that was there is written.
  Conditions: the library's table math/bits.deBruijn64tab holds what its initialiser lays (the card ties that to the program's text); else none.
-/
import Derived.Test.YtnljibmdcknmeaaDoorVtAlive
import Derived.Test.YtnljibmdcknmeaaDoorVtOpen
namespace Go.Proofs.YtnljibmdcknmeaaDoor
open Go.ChangeShapes Go.WideShapes Go.ChangeAt Go.RowKit

namespace meet
theorem may_parts {c : Cf} (h : mayB c = true) : totN c.vs 8 < c.r + c.w ∧ totN c.vs 8 < 2 * c.w ∧ c.r ≤ totN c.vs 8 ∧ c.w ≤ totN c.vs 8 := by
  unfold mayB at h
  simp only [Bool.and_eq_true, decide_eq_true_eq] at h
  exact ⟨h.1.2, h.2, h.1.1.1.1.2, h.1.1.2⟩
theorem meets {c : Cf} (h : mayB c = true) (a b : Nat) (hb : c.w ≤ ofN c.vs b 8) (ha : c.r ≤ ofN c.vs a 8 ∨ c.w ≤ ofN c.vs a 8) : (a &&& b) &&& votN c.vs 8 ≠ 0 := by
  intro e
  obtain ⟨h1, h2, _, _⟩ := may_parts h
  have e1 := of_and_vot c.vs (a &&& b) 8
  rw [e, of_zero] at e1
  have e2 := of_both c.vs a b 8
  have e3 := of_le c.vs (a ||| b) 8
  omega
set_option maxRecDepth 100000 in
set_option maxHeartbeats 3200000 in
theorem walkN (c : Cf) (a b : Nat) (hok : c.Ok) (ha : a < 18446744073709551616) (hb : b < 18446744073709551616) (w : World) (hT : Tab w) :
    Calls Tryd.prog 8 #[.agg c.arr, .int .u64 ((a : Nat) : Int), .int .u64 ((b : Nat) : Int)] w fun e w' => e = .returned (.bool true) ∧ Below w.heap.size w w' := by
  have hTp := hT.pos
  have hsz := hok.size
  have hV := vot64 c.vs
  have HO := hide hok
  have HX := hide (box_new w c.arr 25)
  have HB := hide (alloc_below w (.cells c.arr 25))
  have HT := hide (hT.below HB.out hTp)
  have CM := hide (fun W => may_any c hok W)
  have CV := hide (fun W => votersB c hok W)
  have CWb := hide (fun W => writes_any c b hok hb W)
  have CRa := hide (fun W => reads_any c a hok ha W)
  have CWa := hide (fun W => writes_any c a hok ha W)
  have CA := hide (fun W hW => alive_any W hW)
  have hand1 := u64_and_nat a b ha hb
  have hab : a &&& b < 18446744073709551616 := Nat.lt_of_le_of_lt Nat.and_le_left ha
  have hand2 := u64_and_nat (a &&& b) (votN c.vs 8) hab hV
  have HM : Hid (mayB c = true → c.w ≤ ofN c.vs b 8 → (c.r ≤ ofN c.vs a 8 ∨ c.w ≤ ofN c.vs a 8) → (a &&& b) &&& votN c.vs 8 ≠ 0) := hide (fun h => meets h a b)
  generalize (a &&& b) &&& votN c.vs 8 = M at *
  generalize a &&& b = ab at *
  generalize votN c.vs 8 = V at *
  generalize ofN c.vs b 8 = ob at *
  generalize ofN c.vs a 8 = oa at *
  clear hok hT
  cases hm : mayB c
  · rw [hm] at CM
    clear HM hm CV CWb CRa CWa hand1 hand2 hab
    go_enter Tryd.func8, Tryd.ntmps8
    go_wp2_with (first
      | (refine wp_load_cfg rfl _ rfl _ rfl HO.out HX.out ?_)
      | (go_at_call 12; refine (CM.out _).mono ?_; rintro e w1 ⟨rfl, hB1⟩; have HT1 := hide (HT.out.below hB1 HT.out.pos); have HB1 := hide (HB.out.trans (hB1.mono HB.out.size)); clear hB1)
      | (go_at_call 9; refine (CA.out _ HT1.out).mono ?_; rintro e w2 ⟨rfl, hB2⟩; have HB2 := hide (HB1.out.trans (hB2.mono HB1.out.size)); clear hB2))
    go_ret
    exact ⟨rfl, HB2.out⟩
  · rw [hm] at CM HM
    clear hm
    obtain ⟨wb, hwb⟩ : ∃ x, x = decide ((c.w : Int) ≤ ((ob : Nat) : Int)) := ⟨_, rfl⟩
    obtain ⟨ra, hra⟩ : ∃ x, x = decide ((c.r : Int) ≤ ((oa : Nat) : Int)) := ⟨_, rfl⟩
    obtain ⟨wa, hwa⟩ : ∃ x, x = decide ((c.w : Int) ≤ ((oa : Nat) : Int)) := ⟨_, rfl⟩
    rw [← hwb] at CWb
    rw [← hra] at CRa
    rw [← hwa] at CWa
    have HM2 : Hid (wb = true → (ra = true ∨ wa = true) → ((M : Int) == 0) = false) := hide (fun h1 h2 => by
      have := HM.out rfl (by have := of_decide_eq_true (hwb.symm.trans h1); omega) (by
        rcases h2 with h2 | h2
        · left; have := of_decide_eq_true (hra.symm.trans h2); omega
        · right; have := of_decide_eq_true (hwa.symm.trans h2); omega)
      simp [this])
    clear HM hwb hra hwa
    cases wb
    · clear HM2 CRa CWa
      go_enter Tryd.func8, Tryd.ntmps8
      go_wp2_with (first
        | (refine wp_load_cfg rfl _ rfl _ rfl HO.out HX.out ?_)
        | (go_at_call 12; refine (CM.out _).mono ?_; rintro e w1 ⟨rfl, hB1⟩; have HX1 := hide (HX.out.belowV hB1); have HT1 := hide (HT.out.below hB1 HT.out.pos); have HB1 := hide (HB.out.trans (hB1.mono HB.out.size)); clear hB1 HX)
        | (refine wp_load_cfg rfl _ rfl _ rfl HO.out HX1.out ?_)
        | (go_at_call 17; refine (CV.out _).mono ?_; rintro e w2 ⟨rfl, hB2⟩; have HX2 := hide (HX1.out.belowV hB2); have HT2 := hide (HT1.out.below hB2 HT1.out.pos); have HB2 := hide (HB1.out.trans (hB2.mono HB1.out.size)); clear hB2 HX1)
        | (refine wp_load_cfg rfl _ rfl _ rfl HO.out HX2.out ?_))
      refine (CWb.out _).mono ?_
      rintro e w3 ⟨rfl, hB3⟩
      have HT3 := hide (HT2.out.below hB3 HT2.out.pos)
      have HB3 := hide (HB2.out.trans (hB3.mono HB2.out.size))
      clear hB3 HX2
      go_wp2_with fail
      refine (CA.out _ HT3.out).mono ?_
      rintro e w6 ⟨rfl, hB6⟩
      have HB6 := hide (HB3.out.trans (hB6.mono HB3.out.size))
      clear hB6
      go_wp2_with fail
      go_ret
      exact ⟨rfl, HB6.out⟩
    · cases ra
      · cases wa
        · clear HM2
          go_enter Tryd.func8, Tryd.ntmps8
          go_wp2_with (first
            | (refine wp_load_cfg rfl _ rfl _ rfl HO.out HX.out ?_)
            | (go_at_call 12; refine (CM.out _).mono ?_; rintro e w1 ⟨rfl, hB1⟩; have HX1 := hide (HX.out.belowV hB1); have HT1 := hide (HT.out.below hB1 HT.out.pos); have HB1 := hide (HB.out.trans (hB1.mono HB.out.size)); clear hB1 HX)
            | (refine wp_load_cfg rfl _ rfl _ rfl HO.out HX1.out ?_)
            | (go_at_call 17; refine (CV.out _).mono ?_; rintro e w2 ⟨rfl, hB2⟩; have HX2 := hide (HX1.out.belowV hB2); have HT2 := hide (HT1.out.below hB2 HT1.out.pos); have HB2 := hide (HB1.out.trans (hB2.mono HB1.out.size)); clear hB2 HX1)
            | (refine wp_load_cfg rfl _ rfl _ rfl HO.out HX2.out ?_)
            | (go_at_call 21; refine (CWb.out _).mono ?_; rintro e w3 ⟨rfl, hB3⟩; have HX3 := hide (HX2.out.belowV hB3); have HT3 := hide (HT2.out.below hB3 HT2.out.pos); have HB3 := hide (HB2.out.trans (hB3.mono HB2.out.size)); clear hB3 HX2 CWb)
            | (refine wp_load_cfg_g rfl _ rfl _ rfl HO.out HX3.out ?_)
            | (go_at_call 20; refine (CRa.out _).mono ?_; rintro e w4 ⟨rfl, hB4⟩; have HX4 := hide (HX3.out.belowV hB4); have HT4 := hide (HT3.out.below hB4 HT3.out.pos); have HB4 := hide (HB3.out.trans (hB4.mono HB3.out.size)); clear hB4 HX3)
            | (refine wp_load_cfg_g rfl _ rfl _ rfl HO.out HX4.out ?_)
            | (go_at_call 21; refine (CWa.out _).mono ?_; rintro e w5 ⟨rfl, hB5⟩; have HT5 := hide (HT4.out.below hB5 HT4.out.pos); have HB5 := hide (HB4.out.trans (hB5.mono HB4.out.size)); clear hB5 HX4)
            | (go_at_call 9; refine (CA.out _ HT5.out).mono ?_; rintro e w6 ⟨rfl, hB6⟩; have HB6 := hide (HB5.out.trans (hB6.mono HB5.out.size)); clear hB6))
          go_ret
          exact ⟨rfl, HB6.out⟩
        · have hne := HM2.out rfl (.inr rfl)
          clear HM2
          go_enter Tryd.func8, Tryd.ntmps8
          go_wp2_with (first
            | (refine wp_load_cfg rfl _ rfl _ rfl HO.out HX.out ?_)
            | (go_at_call 12; refine (CM.out _).mono ?_; rintro e w1 ⟨rfl, hB1⟩; have HX1 := hide (HX.out.belowV hB1); have HT1 := hide (HT.out.below hB1 HT.out.pos); have HB1 := hide (HB.out.trans (hB1.mono HB.out.size)); clear hB1 HX)
            | (refine wp_load_cfg rfl _ rfl _ rfl HO.out HX1.out ?_)
            | (go_at_call 17; refine (CV.out _).mono ?_; rintro e w2 ⟨rfl, hB2⟩; have HX2 := hide (HX1.out.belowV hB2); have HT2 := hide (HT1.out.below hB2 HT1.out.pos); have HB2 := hide (HB1.out.trans (hB2.mono HB1.out.size)); clear hB2 HX1)
            | (refine wp_load_cfg rfl _ rfl _ rfl HO.out HX2.out ?_)
            | (go_at_call 21; refine (CWb.out _).mono ?_; rintro e w3 ⟨rfl, hB3⟩; have HX3 := hide (HX2.out.belowV hB3); have HT3 := hide (HT2.out.below hB3 HT2.out.pos); have HB3 := hide (HB2.out.trans (hB3.mono HB2.out.size)); clear hB3 HX2 CWb)
            | (refine wp_load_cfg_g rfl _ rfl _ rfl HO.out HX3.out ?_)
            | (go_at_call 20; refine (CRa.out _).mono ?_; rintro e w4 ⟨rfl, hB4⟩; have HX4 := hide (HX3.out.belowV hB4); have HT4 := hide (HT3.out.below hB4 HT3.out.pos); have HB4 := hide (HB3.out.trans (hB4.mono HB3.out.size)); clear hB4 HX3)
            | (refine wp_load_cfg_g rfl _ rfl _ rfl HO.out HX4.out ?_)
            | (go_at_call 21; refine (CWa.out _).mono ?_; rintro e w5 ⟨rfl, hB5⟩; have HT5 := hide (HT4.out.below hB5 HT4.out.pos); have HB5 := hide (HB4.out.trans (hB5.mono HB4.out.size)); clear hB5 HX4)
            | (go_at_call 9; refine (CA.out _ HT5.out).mono ?_; rintro e w6 ⟨rfl, hB6⟩; have HB6 := hide (HB5.out.trans (hB6.mono HB5.out.size)); clear hB6))
          go_ret
          exact ⟨rfl, HB6.out⟩
      · have hne := HM2.out rfl (.inl rfl)
        clear HM2 CWa
        go_enter Tryd.func8, Tryd.ntmps8
        go_wp2_with (first
          | (refine wp_load_cfg rfl _ rfl _ rfl HO.out HX.out ?_)
          | (go_at_call 12; refine (CM.out _).mono ?_; rintro e w1 ⟨rfl, hB1⟩; have HX1 := hide (HX.out.belowV hB1); have HT1 := hide (HT.out.below hB1 HT.out.pos); have HB1 := hide (HB.out.trans (hB1.mono HB.out.size)); clear hB1 HX)
          | (refine wp_load_cfg rfl _ rfl _ rfl HO.out HX1.out ?_)
          | (go_at_call 17; refine (CV.out _).mono ?_; rintro e w2 ⟨rfl, hB2⟩; have HX2 := hide (HX1.out.belowV hB2); have HT2 := hide (HT1.out.below hB2 HT1.out.pos); have HB2 := hide (HB1.out.trans (hB2.mono HB1.out.size)); clear hB2 HX1)
          | (refine wp_load_cfg rfl _ rfl _ rfl HO.out HX2.out ?_)
          | (go_at_call 21; refine (CWb.out _).mono ?_; rintro e w3 ⟨rfl, hB3⟩; have HX3 := hide (HX2.out.belowV hB3); have HT3 := hide (HT2.out.below hB3 HT2.out.pos); have HB3 := hide (HB2.out.trans (hB3.mono HB2.out.size)); clear hB3 HX2 CWb)
          | (refine wp_load_cfg_g rfl _ rfl _ rfl HO.out HX3.out ?_)
          | (go_at_call 20; refine (CRa.out _).mono ?_; rintro e w4 ⟨rfl, hB4⟩; have HT4 := hide (HT3.out.below hB4 HT3.out.pos); have HB4 := hide (HB3.out.trans (hB4.mono HB3.out.size)); clear hB4 HX3)
          | (go_at_call 9; refine (CA.out _ HT4.out).mono ?_; rintro e w6 ⟨rfl, hB6⟩; have HB6 := hide (HB4.out.trans (hB6.mono HB4.out.size)); clear hB6))
        go_ret
        exact ⟨rfl, HB6.out⟩
end meet
namespace meet
set_option maxRecDepth 100000 in
theorem contract (H : Type) (enc : TypeId × Value → H) (W : World) (base : Nat) (args : Array Value) (ds gs : List (DataW H)) (before : List MemPlace)
    (hval : ∀ (j : Nat) t v, Tryd.f8.params[j]? = some t → args[j]? = some v → Value.okWide Tryd.prog W .any base t v)
    (hW : DataW.Whole enc Tryd.prog Tryd.f8.params.toList Rows.votesMeetSpec.vars false W args.toList ds gs before) (hL : laidMet Tryd.prog laidList W) :
    Calls Tryd.prog 8 args W fun e W' => ∃ v, e = .returned v ∧ Rows.votesMeetSpec.post enc Tryd.prog Tryd.f8 false true false false W args v W' := by
  have hW' := hW
  obtain ⟨p, q, hA0, hV, rfl, hfz, hnd⟩ := hW
  have hA : DataW.TrodAll enc Tryd.prog W 0 (fun _ => true) true Tryd.f8.params.toList args.toList ds p := hA0
  rw [Tryd.params8] at hA hval
  obtain ⟨v0, vs0, d0, ds0, p0, q0, hargs, rfl, rfl, h0, r0⟩ := trodAll_cons hA
  obtain ⟨v1, vs1, d1, ds1, p1, q1, rfl, rfl, rfl, h1, r1⟩ := trodAll_cons r0
  obtain ⟨v2, vs2, d2, ds2, p2, q2, rfl, rfl, rfl, h2, r2⟩ := trodAll_cons r1
  obtain ⟨rfl, rfl, rfl⟩ := trodAll_nil r2
  obtain rfl : args = #[v0, v1, v2] := by cases args; simp_all
  obtain ⟨rfl, rfl⟩ := trodVars_none hV
  have k0 := h0
  have lt0 : ∀ x ∈ p0, x.block < W.heap.size := by obtain ⟨m, hm⟩ := k0; exact DataW.trod_lt m _ _ _ hm
  obtain ⟨c0, rfl, ok0⟩ := cfg_of_trod (hval 0 25 v0 rfl rfl) h0
  obtain ⟨a1, rfl, rfl, rfl, w1⟩ := open_int Tryd.underlying35 (hval 1 35 v1 rfl rfl) h1
  have b1 := bounds_u64 w1
  obtain ⟨m1, rfl⟩ := Int.eq_ofNat_of_zero_le b1.1
  obtain ⟨a2, rfl, rfl, rfl, w2⟩ := open_int Tryd.underlying35 (hval 2 35 v2 rfl rfl) h2
  have b2 := bounds_u64 w2
  obtain ⟨m2, rfl⟩ := Int.eq_ofNat_of_zero_le b2.1
  clear hA0
  refine (meet.walkN c0 m1 m2 ok0 (by omega) (by omega) W (tab_of_laid hL)).mono fun e W' ⟨he, bel⟩ => ?_
  subst he
  exact ⟨_, rfl, _, _, _, [], _, [], hW', trodAll_mk1 (shut_bool Tryd.underlying4 _), (trodAll_cons_mk (Below.trod laidOut (by kernel_rfl) (of_decide_eq_true (by kernel_rfl)) k0 bel lt0) (trodAll_cons_mk (shut_int Tryd.underlying35 w1) (trodAll_cons_mk (shut_int Tryd.underlying35 w2) trodAll_mk0))), rfl, bel.frame _, fun h => by cases h⟩

theorem laid_met (os : Os) : laidMet Tryd.prog laidList ((layTab (World.holding Tryd.prog os ⟨#[], #[], []⟩)).forCall (fun _ _ => 0) ⟨#[], #[.agg #[.int .u32 0, .int .u8 0, .int .u8 0, .int .u8 0, .int .u8 0, .int .u8 0, .int .u8 0, .int .u8 0, .int .u8 0, .int .u8 0, .int .u8 0], .int .u64 0, .int .u64 0], []⟩).memory :=
  laidMet_of_run' 8 (by kernel_rfl) (by kernel_rfl)
theorem reads (os : Os) {H : Type} (enc : TypeId × Value → H) : ∃ places, DataW.whole enc Tryd.prog ((layTab (World.holding Tryd.prog os ⟨#[], #[], []⟩)).forCall (fun _ _ => 0) ⟨#[], #[.agg #[.int .u32 0, .int .u8 0, .int .u8 0, .int .u8 0, .int .u8 0, .int .u8 0, .int .u8 0, .int .u8 0, .int .u8 0, .int .u8 0, .int .u8 0], .int .u64 0, .int .u64 0], []⟩).memory Tryd.f8.params.toList Rows.votesMeetSpec.vars false #[Value.agg #[.int .u32 0, .int .u8 0, .int .u8 0, .int .u8 0, .int .u8 0, .int .u8 0, .int .u8 0, .int .u8 0, .int .u8 0, .int .u8 0, .int .u8 0], Value.int .u64 0, Value.int .u64 0].toList 8 = some ([.agg [.lit (.int .u32 0), .lit (.int .u8 0), .lit (.int .u8 0), .agg [.lit (.int .u8 0), .lit (.int .u8 0), .lit (.int .u8 0), .lit (.int .u8 0), .lit (.int .u8 0), .lit (.int .u8 0), .lit (.int .u8 0), .lit (.int .u8 0)]], .lit (.int .u64 0), .lit (.int .u64 0)], [], places) :=
  ⟨[], by kernel_rfl⟩

set_option maxRecDepth 100000 in
theorem lifted (os : Os) (started : os.Started) (H : Type) (enc : TypeId × Value → H) (F : Stop.Interp) :
    ReturnsInHanded {} Tryd.checked os 8 .any ((OpenSpec.ofChange Rows.votesMeetSpec).preRow enc Tryd.prog Tryd.f8 Rows.votesMeetRow.domain false Rows.votesMeetRow.laid) (((OpenSpec.ofChange Rows.votesMeetSpec).at F).post enc Tryd.prog Tryd.f8 false true false false) := by
  obtain ⟨places, hx⟩ := reads os enc
  refine returnsInHanded_of_row (C := Tryd.checked) (s := OpenSpec.ofChange Rows.votesMeetSpec) own started (by kernel_rfl) Tryd.func8
    (witness_row_at (enc := enc) (C := Tryd.checked) false (layTab (World.holding Tryd.prog os ⟨#[], #[], []⟩)) #[.agg #[.int .u32 0, .int .u8 0, .int .u8 0, .int .u8 0, .int .u8 0, .int .u8 0, .int .u8 0, .int .u8 0, .int .u8 0, .int .u8 0, .int .u8 0], .int .u64 0, .int .u64 0] rfl (by kernel_rfl) (by kernel_rfl) (by kernel_rfl)
      (OpenSpec.preRow_of_cond 8 hx (by kernel_rfl) (fun k hk => by cases hk) (by kernel_rfl) (laid_met os))) ?_
  intro W base args ds gs before hval hW _ _ _ hL _ _
  exact contract H enc W base args ds gs before hval hW hL

theorem said : Rows.VotesMeetSaid :=
  OpenClaim.holds_of_cond 8 Tryd.f8 rfl rfl rfl rfl rfl rfl rfl ⟨rfl, rfl, rfl, rfl, rfl⟩ rfl rfl rfl rfl rfl (by kernel_rfl) Tryd.func8 (by kernel_rfl)
    (of_decide_eq_true (by kernel_rfl)) (by unfold Func.isWrapper; first | (rw [if_pos (by decide +kernel)]; kernel_rfl) | (rw [if_neg (by decide +kernel)]; exact ⟨rfl, rfl⟩))
    (fun os started H enc _ F => by rw [OpenClaim.pre_eq_preRow]; exact lifted os started H enc F)

theorem plain (f : FuncId) (fn : Func) (hf : Tryd.pinned.checked.prog.funcNamed Tryd.f8.name = some f) (hfn : Tryd.pinned.checked.prog.funcs[f]? = some fn) :
    false = Tryd.pinned.checked.prog.looks [] ∧ ∀ (j : Nat) t, fn.params[j]? = some t → Tryd.pinned.checked.prog.wantsStandIn t = false := by
  obtain rfl : f = 8 := Option.some.inj ((show Tryd.prog.funcNamed Tryd.f8.name = some 8 by kernel_rfl).symm.trans hf) |>.symm
  obtain rfl : fn = Tryd.f8 := (Option.some.inj (Tryd.func8.symm.trans hfn)).symm
  refine ⟨by kernel_rfl, fun j t ht => ?_⟩
  rw [Tryd.params8] at ht
  have : t = 25 ∨ t = 35 ∨ t = 35 := by simpa using Array.mem_of_getElem? ht
  rcases this with rfl | rfl | rfl
  · exact (show Tryd.prog.wantsStandIn 25 = false by kernel_rfl)
  · exact (show Tryd.prog.wantsStandIn 35 = false by kernel_rfl)
  · exact (show Tryd.prog.wantsStandIn 35 = false by kernel_rfl)
end meet

/-- THE CARD. -/
theorem votesMeet_card : Rows.VotesMeetCardSaid :=
  Claim7.holds_tied_plain_at .later [] _ _ _ _ meet.said (fun _ h => by cases h) (by kernel_rfl) (fun _ h => by cases h) votesMeet_row_tie rfl ⟨rfl, rfl⟩ (by kernel_rfl) rfl meet.plain (by kernel_rfl)
#print axioms votesMeet_card
end Go.Proofs.YtnljibmdcknmeaaDoor
