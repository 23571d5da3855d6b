/-
  Walks of the reference's Sets and of the probe 'alive' of layer 6. Own work.
-/
import Derived.Test.YtnljibmdcknmeabDoorVtMake
import Derived.BigQuiet
import Derived.Deep.QuietTactic
namespace Go.Proofs.YtnljibmdcknmeabDoor
open Go.RowKit

set_option maxRecDepth 100000 in
set_option maxHeartbeats 800000 in
theorem sets_any (v1 v2 : Value) (xs : List Int) (w : World) (h1 : Lies .u64 w v1 xs) (h2 : Lies .u64 w v2 xs) :
    Calls Tryd.prog 28 #[v1, v2] w fun e w' => e = .returned (.bool true) ∧ Below w.heap.size w w' := by
  have hlen := h1.len
  unfold maxLen at hlen
  have hne : ((xs.length : Int) != (xs.length : Int)) = false := by simp
  rcases h1 with ⟨rfl, ao, cap, rfl, _⟩ | ⟨hx, b, off, cap, rfl, _, _, _, hc⟩
  · rcases h2 with ⟨_, ao2, cap2, rfl, _⟩ | ⟨hx, _⟩
    · go_enter Tryd.func28, Tryd.ntmps28
      go_wp2
      go_rounds 1
      go_ret
      exact ⟨rfl, Below.refl _ _⟩
    · exact absurd rfl hx
  · rcases h2 with ⟨hx2, _⟩ | ⟨_, b2, off2, cap2, rfl, _, _, _, hc2⟩
    · exact absurd hx2 hx
    · clear hx
      have hc' : Hid (∀ k, k < xs.length → w.cell? ⟨b, off + k, none⟩ = some (.int .u64 (xs.getD k 0))) := hc
      have hc2' : Hid (∀ k, k < xs.length → w.cell? ⟨b2, off2 + k, none⟩ = some (.int .u64 (xs.getD k 0))) := hc2
      clear hc hc2
      generalize hL : xs.length = L at *
      clear hL
      go_enter Tryd.func28, Tryd.ntmps28
      go_wp2
      go_loopw [5] (fun i wr => ∃ k : Nat, k ≤ L ∧ i = .int .i64 k ∧ ∃ n, wr = w.drewN n) (fun i _ => L - (intOf i).toNat)
      case atStart => exact ⟨0, Nat.zero_le _, rfl, 0, rfl⟩
      case round =>
        obtain ⟨k, hk, rfl, nd, rfl⟩ := hrel
        by_cases hlt : k < L
        · have c1 : w.cell? ⟨b, off + k, none⟩ = some (.int .u64 (xs.getD k 0)) := hc'.out k hlt
          have c2 : w.cell? ⟨b2, off2 + k, none⟩ = some (.int .u64 (xs.getD k 0)) := hc2'.out k hlt
          generalize xs.getD k 0 = c at *
          have hcc : (c != c) = false := by simp
          have hltI : (k : Int) < (L : Int) := by omega
          go_wp2
          go_quiet (fail)
          go_wp2
          go_roundw
          case rel => exact ⟨k + 1, by omega, by go_num, nd + nq, by simp⟩
          case measure => simp [intOf]; omega
        · go_wp2
          go_ret
          exact ⟨rfl, ⟨rfl, rfl, rfl, Nat.le_refl _, fun _ _ => rfl⟩⟩

theorem build3 {k : IntKind} {t : TypeId} (w : World) (a b c : Int) : Lies k (w.alloc (.cells #[.int k a, .int k b, .int k c] t)) (.slice (some ⟨w.heap.size, 0, none⟩) 3 3) [a, b, c] := by
  refine .inr ⟨by simp, w.heap.size, 0, 3, rfl, by simp, by simp, by decide, fun t ht => ?_⟩
  have ht2 : t < 3 := by simpa using ht
  match t, ht2 with
  | 0, _ => simp [World.cell?_alloc_at]
  | 1, _ => simp [World.cell?_alloc_at]
  | 2, _ => simp [World.cell?_alloc_at]
def three : Cf := ⟨1, 2, 2, [1, 1, 1, 0, 0, 0, 0, 0]⟩
theorem three_ok : three.Ok := ⟨by decide, by decide, by decide, rfl, by simp [three]⟩
theorem three_make : makeF 1 2 2 [1, 1, 1] = three ∧ makeW 1 2 2 [1, 1, 1] = 0 := by
  have h : mayB (mkC 1 2 2 [1, 1, 1]) = true := by decide +kernel
  constructor
  · unfold makeF; rw [h]; rfl
  · unfold makeW; rw [h]; rfl
theorem three_may : mayB three = true := by decide +kernel
theorem three_tot : totN three.vs 8 = 3 := by decide +kernel
theorem three_reads : decide ((three.r : Int) ≤ ((ofN three.vs 3 8 : Nat) : Int)) = true := by decide +kernel
theorem three_writes : decide ((three.w : Int) ≤ ((ofN three.vs 4 8 : Nat) : Int)) = false := by decide +kernel
theorem three_quo : quoI three.vs 2 = [3, 5, 6] := by decide +kernel
set_option maxRecDepth 100000 in
set_option maxHeartbeats 3200000 in
/-- The probe says true, and turns nothing that was there. -/
theorem alive_any (w : World) (hT : Tab w) :
    Calls Tryd.prog 11 #[] w fun e w' => e = .returned (.bool true) ∧ Below w.heap.size w w' := by
  have hTp := hT.pos
  have hB0 := alloc_below w (.cells #[.int .u8 1, .int .u8 1, .int .u8 1] 5)
  have HB0 := hide hB0
  have HT0 := hide (hT.below hB0 hTp)
  have CK : Hid (∀ W, Lies .u8 W (.slice (some ⟨w.heap.size, 0, none⟩) 3 3) [1, 1, 1] → Calls Tryd.prog 27 #[.int .u32 1, .int .u8 2, .int .u8 2, .slice (some ⟨w.heap.size, 0, none⟩) 3 3] W fun e w' => e = .returned (.tuple #[.agg three.arr, .int .i64 0]) ∧ Below W.heap.size W w') := hide (fun W hL => by
    have := make_any 1 2 2 [1, 1, 1] (.slice (some ⟨w.heap.size, 0, none⟩) 3 3) W hL (by decide) (by decide) (by decide) (by decide)
    rw [three_make.1, three_make.2] at this
    exact this)
  have CM : Hid (∀ W, Calls Tryd.prog 13 #[.agg three.arr] W fun e w' => e = .returned (.bool true) ∧ Below W.heap.size W w') := hide (fun W => by
    have := may_any three three_ok W
    rw [three_may] at this
    exact this)
  have CT : Hid (∀ W, Calls Tryd.prog 12 #[.agg three.arr] W fun e w' => e = .returned (.int .i64 3) ∧ Below W.heap.size W w') := hide (fun W => by
    have := total_any three three_ok W
    rw [three_tot] at this
    exact this)
  have CR : Hid (∀ W, Calls Tryd.prog 14 #[.agg three.arr, .int .u64 3] W fun e w' => e = .returned (.bool true) ∧ Below W.heap.size W w') := hide (fun W => by
    have := reads_any three 3 three_ok (by decide) W
    rw [three_reads] at this
    exact this)
  have CW : Hid (∀ W, Calls Tryd.prog 15 #[.agg three.arr, .int .u64 4] W fun e w' => e = .returned (.bool false) ∧ Below W.heap.size W w') := hide (fun W => by
    have := writes_any three 4 three_ok (by decide) W
    rw [three_writes] at this
    exact this)
  have CQ : Hid (∀ W, Tab W → Calls Tryd.prog 6 #[.agg three.arr, .int .i64 2] W fun e w' => ∃ v, e = .returned v ∧ Lies .u64 w' v [3, 5, 6] ∧ Below W.heap.size W w') := hide (fun W hW => by
    have := quorums_any three 2 three_ok W hW
    rw [three_quo] at this
    exact this)
  have HK := hide three_ok
  have HZ := hide zeroC_ok
  have HL0 : Hid (Lies .u8 (w.alloc (.cells #[.int .u8 1, .int .u8 1, .int .u8 1] 5)) (.slice (some ⟨w.heap.size, 0, none⟩) 3 3) [1, 1, 1]) := hide (build3 w 1 1 1)
  clear hB0 hT
  generalize three = c3 at *
  go_enter Tryd.func11, Tryd.ntmps11
  go_wp2_with fail
  refine (CK.out _ HL0.out).mono ?_
  rintro e w1 ⟨rfl, hB1⟩
  have hs1 := hB1.size
  rw [World.size_alloc] at hs1
  have HB1 := hide (HB0.out.trans (hB1.mono HB0.out.size))
  have HT1 := hide (HT0.out.below hB1 (by simp))
  have HX1 := hide (box_new w1 zeroC.arr 25)
  have HB2 := hide (HB1.out.trans ((alloc_below w1 (.cells zeroC.arr 25)).mono HB1.out.size))
  clear hB1 HB0 HT0 HL0 CK
  go_wp2_with (first
    | (refine wp_store_cfg rfl rfl _ _ rfl _ rfl HZ.out HK.out rfl HX1.out ?_; intro w2 hb2 hk2; have HX2 := hide hb2; have hs2 := hk2.size; have HB3 := hide (HB2.out.trans (hk2.below HB2.out.size (fun k hk => by omega))); have HT2 := hide ((HT1.out.below (alloc_below w1 (.cells zeroC.arr 25)) (by omega)).below (hk2.below (B := w1.heap.size) (by simp) (fun k hk => by omega)) (by omega)); clear hb2 hk2 HX1 HB2 HT1)
    | (refine wp_load_cfg_g rfl _ rfl _ rfl HK.out HX2.out ?_)
    | (go_at_call 13; refine (CM.out _).mono ?_; rintro e w3 ⟨rfl, hB3⟩; have HX3 := hide (HX2.out.belowV hB3); have HT3 := hide (HT2.out.below hB3 HT2.out.pos); have HB4 := hide (HB3.out.trans (hB3.mono HB3.out.size)); clear hB3 HX2 HT2 HB3)
    | (refine wp_load_cfg_g rfl _ rfl _ rfl HK.out HX3.out ?_)
    | (go_at_call 12; refine (CT.out _).mono ?_; rintro e w4 ⟨rfl, hB4⟩; have HX4 := hide (HX3.out.belowV hB4); have HT4 := hide (HT3.out.below hB4 HT3.out.pos); have HB5 := hide (HB4.out.trans (hB4.mono HB4.out.size)); clear hB4 HX3 HT3 HB4)
    | (refine wp_load_cfg_g rfl _ rfl _ rfl HK.out HX4.out ?_)
    | (go_at_call 14; refine (CR.out _).mono ?_; rintro e w5 ⟨rfl, hB5⟩; have HX5 := hide (HX4.out.belowV hB5); have HT5 := hide (HT4.out.below hB5 HT4.out.pos); have HB6 := hide (HB5.out.trans (hB5.mono HB5.out.size)); clear hB5 HX4 HT4 HB5)
    | (refine wp_load_cfg_g rfl _ rfl _ rfl HK.out HX5.out ?_)
    | (go_at_call 15; refine (CW.out _).mono ?_; rintro e w6 ⟨rfl, hB6⟩; have HX6 := hide (HX5.out.belowV hB6); have HT6 := hide (HT5.out.below hB6 HT5.out.pos); have HB7 := hide (HB6.out.trans (hB6.mono HB6.out.size)); clear hB6 HX5 HT5 HB6)
    | (refine wp_load_cfg_g rfl _ rfl _ rfl HK.out HX6.out ?_)
    | (go_at_call 6; refine (CQ.out _ HT6.out).mono ?_; rintro e w7 ⟨v7, rfl, hL7, hB8⟩; obtain ⟨ao7, cap7, hv7, _⟩ := hL7.at; have HB8 := hide (HB7.out.trans (hB8.mono HB7.out.size)); have HL7 := hide (hL7.below (alloc_below w7 (.cells #[.int .u64 3, .int .u64 5, .int .u64 6] 26))); subst hv7; clear hB8 HX6 HT6 HB7 hL7)
    | (go_at_call 28; refine (sets_any _ _ [3, 5, 6] _ HL7.out (build3 w7 3 5 6)).mono ?_; rintro e w8 ⟨rfl, hB9⟩; have HB9 := hide (HB8.out.trans (((alloc_below w7 _).trans (hB9.mono (by simp))).mono HB8.out.size)); clear hB9))
  go_ret
  exact ⟨rfl, HB9.out⟩
end Go.Proofs.YtnljibmdcknmeabDoor
