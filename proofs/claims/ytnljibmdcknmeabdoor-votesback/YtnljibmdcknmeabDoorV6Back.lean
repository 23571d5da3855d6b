/-
  For every configuration the statement VotesBack returns true: what is put is got, if it may be, and nothing is left; the probe 'alive' holds; nothing that was there is written.
  Conditions: the library's table math/bits.deBruijn64tab holds what its initialiser lays (the card ties that to the program's text); else none.
-/
import Derived.Test.YtnljibmdcknmeabDoorVtCode
import Derived.Test.YtnljibmdcknmeabDoorVtAlive
import Derived.Test.YtnljibmdcknmeabDoorVtEq
import Derived.Test.YtnljibmdcknmeabDoorVtOpen
namespace Go.Proofs.YtnljibmdcknmeabDoor
open Go.ChangeShapes Go.WideShapes Go.ChangeAt Go.RowKit

namespace back6
theorem eq_fault6 (a b c d : Int) (w : World) : (Op.equalIn 10000 52 (.agg #[.int .i64 a, .int .i64 b]) (.agg #[.int .i64 c, .int .i64 d])).run Tryd.prog w = .ok (a == c && b == d) w := by
  have hS : Tryd.prog.underlying 52 = some (.struct (Tryd.prog.fieldsOf 52)) := by kernel_rfl
  rw [show (10000 : Nat) = 9999 + 1 from rfl, run_equalIn_agg w 9999 52 _ _ hS (by kernel_rfl)]
  simp only [Program.fieldsOf, Tryd.underlying52]
  go_simp
  by_cases h1 : a = c <;> by_cases h2 : b = d <;> simp [h1, h2]
theorem eql_fault6 (a b c d : Int) (w : World) : (binOp .eql 52 (.agg #[.int .i64 a, .int .i64 b]) (.agg #[.int .i64 c, .int .i64 d])).run Tryd.prog w = .ok (.bool (a == c && b == d)) w := by
  rw [run_eql_struct, eq_fault6]; rfl
theorem eql_self (c : Cf) (hok : c.Ok) (w : World) : (binOp .eql 25 (.agg c.arr) (.agg c.arr)).run Tryd.prog w = .ok (.bool true) w := by
  rw [run_eql_struct, eqC_self c hok]; rfl
theorem putB_byte (c : Cf) (hok : c.Ok) : ∀ k ∈ putB c, 0 ≤ k ∧ k < 256 := by
  intro k hk
  unfold putB at hk
  simp only [List.mem_append] at hk
  rcases hk with h | h | h | h
  · exact shortS_bytes _ k h
  · exact shortS_bytes _ k h
  · exact shortS_bytes _ k h
  · unfold natI at h
    obtain ⟨x, hx, rfl⟩ := List.mem_map.1 h
    have := hok.v x hx
    omega
theorem putB_len (c : Cf) (hok : c.Ok) : (putB c).length ≤ 38 := by
  have h0 := shortS_len10 (show c.e < 18446744073709551616 by have := hok.e; omega)
  have h1 := shortS_len10 (show c.r < 18446744073709551616 by have := hok.r; omega)
  have h2 := shortS_len10 (show c.w < 18446744073709551616 by have := hok.w; omega)
  unfold putB
  simp [natI_len, hok.l]
  omega
theorem natI_drop (vs : List Nat) (k : Nat) (h : k < vs.length) : natI (vs.drop k) = [((vs.getD k 0 : Nat) : Int)] ++ natI (vs.drop (k + 1)) := by
  have e : vs.getD k 0 = vs[k] := by simp [List.getD, h]
  rw [List.drop_eq_getElem_cons h, e]
  rfl
theorem may_e {c : Cf} (h : mayB c = true) : c.e ≤ 2147483647 := by
  unfold mayB at h
  simp only [Bool.and_eq_true, decide_eq_true_eq] at h
  exact h.1.1.1.1.1.1.1.2
theorem get_back (c : Cf) (hok : c.Ok) (p : Nat) (vb : Value) (w : World) (h : CR w p vb (putB c) ⟨putB c, 0, 0, 0⟩) :
    ∃ (x : Cf) (rE : RS), x.Ok ∧ (mayB c = true → x = c ∧ rE.bs = [] ∧ rE.why = 0 ∧ rE.fat = 0) ∧
      Calls Tryd.prog 19 #[.pointer (some ⟨p, 0, none⟩)] w fun e w' => e = .returned (.agg x.arr) ∧ CR w' p vb (putB c) rE ∧ KeepBut (fun k => k = p) w w' := by
  have he := hok.e
  have hr := hok.r
  have hw := hok.w
  by_cases hm : c.e ≤ 2147483647
  · have h1 := num_back c.e (by omega) (shortS c.r ++ (shortS c.w ++ natI c.vs)) 0 2147483647 hm 0
    have h2 := num_back c.r (by omega) (shortS c.w ++ natI c.vs) (0 + (shortS c.e).length) 255 (by omega) 0
    have h3 := num_back c.w (by omega) (natI c.vs) (0 + (shortS c.e).length + (shortS c.r).length) 255 (by omega) 0
    obtain ⟨n, hn⟩ : ∃ n, n = 0 + (shortS c.e).length + (shortS c.r).length + (shortS c.w).length := ⟨_, rfl⟩
    rw [← hn] at h3
    have hg := get_gen p vb (putB c) ⟨putB c, 0, 0, 0⟩ _ _ _ c.e c.r c.w c.vs (fun k => ⟨natI (c.vs.drop k), n + k, 0, 0⟩) w h h1 h2 h3 rfl (fun k hk => by
      have := byte_back ((c.vs.getD k 0 : Nat) : Int) (natI (c.vs.drop (k + 1))) (n + k) 0
      rw [← natI_drop c.vs k (by rw [hok.l]; exact hk)] at this
      exact this) he hr hw hok.l hok.v
    rw [if_neg (by simp)] at hg
    refine ⟨c, _, hok, fun _ => ⟨rfl, ?_, rfl, rfl⟩, hg⟩
    simp only
    rw [List.drop_eq_nil_of_le (by rw [hok.l]; exact Nat.le_refl _)]
    rfl
  · have hlb := long_back' c.e (shortS c.r ++ (shortS c.w ++ natI c.vs)) (by omega)
    have h1 : numS 2147483647 ⟨putB c, 0, 0, 0⟩ = (((0 : Nat) : Int), RS.fail ⟨putB c, 0, 0, 0⟩ 5) := by
      unfold numS
      have e : (RS.mk (putB c) 0 0 0).bs = shortS c.e ++ (shortS c.r ++ (shortS c.w ++ natI c.vs)) := rfl
      rw [if_neg (by simp), e, hlb]
      simp only
      rw [if_neg (by simp), if_pos (by omega)]
      rfl
    have hs : (RS.fail ⟨putB c, 0, 0, 0⟩ 5).why ≠ 0 := by simp [RS.fail]
    have hg := get_gen p vb (putB c) ⟨putB c, 0, 0, 0⟩ _ _ _ 0 0 0 [0, 0, 0, 0, 0, 0, 0, 0] (fun _ => RS.fail ⟨putB c, 0, 0, 0⟩ 5) w h h1 (num_stays hs 255) (num_stays hs 255) rfl (fun k hk => by
      rw [byte_stays hs]
      match k, hk with
      | 0, _ | 1, _ | 2, _ | 3, _ | 4, _ | 5, _ | 6, _ | 7, _ => rfl) (by decide) (by decide) (by decide) rfl (by simp)
    rw [if_pos hs] at hg
    exact ⟨zeroC, _, zeroC_ok, fun hmay => absurd (may_e hmay) hm, hg⟩
set_option maxRecDepth 100000 in
set_option maxHeartbeats 6400000 in
theorem walkN (c : Cf) (hok : c.Ok) (w : World) (hT : Tab w) :
    Calls Tryd.prog 5 #[.agg c.arr] w fun e w' => e = .returned (.bool true) ∧ Below w.heap.size w w' := by
  have hTp := hT.pos
  have hsz := hok.size
  have HO := hide hok
  have HB0 : Hid (Below w.heap.size w ((w.alloc (.cells c.arr 25)).alloc (.cells #[.slice none 0 0] 43))) := hide (((Below.refl w.heap.size w).alloc (Nat.le_refl _) _).alloc (by simp) _)
  have HT0 := hide (hT.below HB0.out hTp)
  have HX0 : Hid (Box ((w.alloc (.cells c.arr 25)).alloc (.cells #[.slice none 0 0] 43)) w.heap.size c.arr 25) := hide ((box_new w c.arr 25).belowV ((Below.refl _ _).alloc (Nat.le_refl _) _))
  have h0 : CW ((w.alloc (.cells c.arr 25)).alloc (.cells #[.slice none 0 0] 43)) (w.heap.size + 1) (.slice none 0 0) [] := by
    refine ⟨?_, World.ownsRow_nil _ _ _ _⟩
    have := box_new (w.alloc (.cells c.arr 25)) #[.slice none 0 0] 43
    simpa using this
  have C1 := hide (put_any6 (w.heap.size + 1) (.slice none 0 0) [] c _ h0 (by simp) hok)
  have HBY := hide (putB_byte c hok)
  have hbl := putB_len c hok
  have HGB := hide (fun p vb W hC => get_back c hok p vb W hC)
  have CM := hide (fun W => may_any c hok W)
  have CA := hide (fun W hW => alive_any W hW)
  have hE := eql_self c hok
  have hG := eql_fault6
  clear hok hT h0
  go_enter Tryd.func5, Tryd.ntmps5
  go_wp2_with (refine wp_load_cfg rfl _ rfl _ rfl HO.out HX0.out ?_)
  refine C1.out.mono ?_
  rintro e w1 ⟨rfl, v1, h1⟩
  have hk1 : KeepBut (fun k => k = w.heap.size + 1) _ w1 := h1.keep.mono (fun k hk => by
    rcases hk with e | e
    · exact e
    · cases e)
  have HX1 := hide (HX0.out.keep hk1 (by omega))
  have HB1 := hide (HB0.out.trans (hk1.below HB0.out.size (fun k hk => by omega)))
  have HT1 := hide (HT0.out.below (hk1.below (B := w.heap.size) HB0.out.size (fun k hk => by omega)) hTp)
  have hw1 := h1.wr
  rw [List.nil_append] at hw1
  have C2 := hide (cwbytes_any (w.heap.size + 1) v1 _ w1 hw1 (by omega))
  clear h1 hk1 hw1 HX0 HB0 HT0 C1
  go_wp2_with fail
  refine C2.out.mono ?_
  rintro e w2 ⟨v2, rfl, ho2, hB2⟩
  have HX2 := hide (HX1.out.belowV hB2)
  have HB2 := hide (HB1.out.trans (hB2.mono HB1.out.size))
  have HT2 := hide (HT1.out.below hB2 HT1.out.pos)
  have C3 := hide (new_any v2 _ w2 (Lies.of_own ho2) HBY.out (by omega))
  clear ho2 hB2 C2 HX1 HB1 HT1
  go_wp2_with fail
  refine C3.out.mono ?_
  rintro e w3 ⟨p, vb, rfl, hR, hp, hv, hB3⟩
  have hs2 := HX2.out.lt
  have hs3 := hB3.size
  have HX3 := hide (HX2.out.belowV hB3)
  have HB3 := hide (HB2.out.trans (hB3.mono HB2.out.size))
  have HT3 := hide (HT2.out.below hB3 HT2.out.pos)
  have hp3 := hR.box.lt
  have HV3 : Hid (∀ g, vb.ownBlock = some g → g < w3.heap.size) := hide (fun g hg => owns_lt hR.own hg)
  obtain ⟨x, rE, hxo, hxm, C4⟩ := HGB.out p vb w3 hR
  have HXO := hide hxo
  have HXM := hide hxm
  have C4h := hide C4
  clear hR hv hB3 C3 HX2 HB2 HT2 hxo hxm C4 HGB
  go_wp2_with fail
  refine C4h.out.mono ?_
  rintro e w4 ⟨rfl, hc4, hk4⟩
  have hs4 := hk4.size
  have hB5 := alloc_below w4 (.cells #[.int .u32 0, .int .u8 0, .int .u8 0, .int .u8 0, .int .u8 0, .int .u8 0, .int .u8 0, .int .u8 0, .int .u8 0, .int .u8 0, .int .u8 0] 25)
  have HC5 := hide (hc4.below hB5)
  have HX5 := hide ((HX3.out.keep hk4 (by omega)).belowV hB5)
  have HB4 := hide (HB3.out.trans (hk4.below HB3.out.size (fun k hk => by omega)))
  have HT4 := hide (HT3.out.below (hk4.below (B := w.heap.size) HB3.out.size (fun k hk => by omega)) hTp)
  have HB5 := hide (HB4.out.trans (hB5.mono HB4.out.size))
  have HT5 := hide (HT4.out.below hB5 HT4.out.pos)
  have HY5 : Hid (Box (w4.alloc (.cells #[.int .u32 0, .int .u8 0, .int .u8 0, .int .u8 0, .int .u8 0, .int .u8 0, .int .u8 0, .int .u8 0, .int .u8 0, .int .u8 0, .int .u8 0] 25)) w4.heap.size zeroC.arr 25) := hide (box_new w4 zeroC.arr 25)
  clear hc4 hk4 hB5 C4h HX3 HB3 HT3 HB4
  go_wp2_with (first
    | (refine wp_store_cfg rfl rfl _ _ rfl _ rfl zeroC_ok HXO.out rfl HY5.out ?_; intro w6 hb6 hk6; have HY6 := hide hb6; have HX6 := hide (HX5.out.keep hk6 (by omega)); have HC6 := hide (HC5.out.keep hk6 (by omega) (fun g hg => by have := HV3.out g hg; omega)); have HT6 := hide (HT5.out.below (hk6.below (B := w.heap.size) HB5.out.size (fun k hk => by omega)) hTp); have HB6 := hide (HB5.out.trans (hk6.below HB5.out.size (fun k hk => by omega))); clear hb6 hk6 HY5 HX5 HC5 HT5 HB5)
    | (refine wp_load_cfg rfl _ rfl _ rfl HO.out HX6.out ?_))
  refine (CM.out _).mono ?_
  rintro e w7 ⟨rfl, hB7⟩
  have hs7 := hB7.size
  have HY7 := hide (HY6.out.belowV hB7)
  have HX7 := hide (HX6.out.belowV hB7)
  have HC7 := hide (HC6.out.below hB7)
  have HT7 := hide (HT6.out.below hB7 HT6.out.pos)
  have HB7 := hide (HB6.out.trans (hB7.mono HB6.out.size))
  have hp7 := HC7.out.box.lt
  have hx7 := HX7.out.lt
  clear hB7 HY6 HX6 HC6 HT6 HB6 CM
  cases hm : mayB c
  · clear hm HXM
    go_wp2_with fail
    refine (CA.out _ HT7.out).mono ?_
    rintro e w8 ⟨rfl, hB8⟩
    have HB8 := hide (HB7.out.trans (hB8.mono HB7.out.size))
    clear hB8
    go_wp2_with fail
    go_ret
    exact ⟨rfl, HB8.out⟩
  · obtain ⟨hxc, hbs, hwy, hft⟩ := HXM.out hm
    subst hxc
    have HEN : Hid (endS rE = rE) := hide (by unfold endS; rw [if_neg (fun h => h hwy), if_pos hbs])
    have C8 := hide (fun W hW => end_any p vb (putB x) rE W hW)
    rw [HEN.out, hwy, hft] at C8
    clear HXM hm hbs HEN
    go_wp2_with (first
      | (refine wp_load_cfg_g rfl _ rfl _ rfl HO.out HY7.out ?_)
      | (refine wp_load_cfg_g rfl _ rfl _ rfl HO.out HX7.out ?_))
    refine (C8.out _ HC7.out).mono ?_
    rintro e w8 ⟨rfl, hc8, hk8⟩
    have HT8 := hide (HT7.out.below (hk8.below (B := w.heap.size) HB7.out.size (fun k hk => by omega)) hTp)
    have HB8 := hide (HB7.out.trans (hk8.below HB7.out.size (fun k hk => by omega)))
    clear hc8 hk8 HT7 HB7
    go_wp2_with fail
    refine (CA.out _ HT8.out).mono ?_
    rintro e w9 ⟨rfl, hB9⟩
    have HB9 := hide (HB8.out.trans (hB9.mono HB8.out.size))
    clear hB9
    go_wp2_with fail
    go_ret
    exact ⟨rfl, HB9.out⟩
end back6
namespace back6
set_option maxRecDepth 100000 in
theorem contract (H : Type) (enc : TypeId × Value → H) (W : World) (base : Nat) (args : Array Value) (ds gs : List (DataW H)) (before : List MemPlace)
    (hval : ∀ (j : Nat) t v, Tryd.f5.params[j]? = some t → args[j]? = some v → Value.okWide Tryd.prog W .any base t v)
    (hW : DataW.Whole enc Tryd.prog Tryd.f5.params.toList Rows.votesBackSpec.vars false W args.toList ds gs before) (hL : laidMet Tryd.prog laidList W) :
    Calls Tryd.prog 5 args W fun e W' => ∃ v, e = .returned v ∧ Rows.votesBackSpec.post enc Tryd.prog Tryd.f5 false true false false W args v W' := by
  have hW' := hW
  obtain ⟨p, q, hA0, hV, rfl, hfz, hnd⟩ := hW
  have hA : DataW.TrodAll enc Tryd.prog W 0 (fun _ => true) true Tryd.f5.params.toList args.toList ds p := hA0
  rw [Tryd.params5] at hA hval
  obtain ⟨v0, vs0, d0, ds0, p0, q0, hargs, rfl, rfl, h0, r0⟩ := trodAll_cons hA
  obtain ⟨rfl, rfl, rfl⟩ := trodAll_nil r0
  obtain rfl : args = #[v0] := by cases args; simp_all
  obtain ⟨rfl, rfl⟩ := trodVars_none hV
  have k0 := h0
  have lt0 : ∀ x ∈ p0, x.block < W.heap.size := by obtain ⟨m, hm⟩ := k0; exact DataW.trod_lt m _ _ _ hm
  obtain ⟨c0, rfl, ok0⟩ := cfg_of_trod (hval 0 25 v0 rfl rfl) h0
  clear hA0
  refine (back6.walkN c0 ok0 W (tab_of_laid hL)).mono fun e W' ⟨he, bel⟩ => ?_
  subst he
  exact ⟨_, rfl, _, _, _, [], _, [], hW', trodAll_mk1 (shut_bool Tryd.underlying4 _), (trodAll_cons_mk (Below.trod laidOut (by kernel_rfl) (of_decide_eq_true (by kernel_rfl)) k0 bel lt0) trodAll_mk0), rfl, bel.frame _, fun h => by cases h⟩

theorem laid_met (os : Os) : laidMet Tryd.prog laidList ((layTab (World.holding Tryd.prog os ⟨#[], #[], []⟩)).forCall (fun _ _ => 0) ⟨#[], #[.agg #[.int .u32 0, .int .u8 0, .int .u8 0, .int .u8 0, .int .u8 0, .int .u8 0, .int .u8 0, .int .u8 0, .int .u8 0, .int .u8 0, .int .u8 0]], []⟩).memory :=
  laidMet_of_run' 8 (by kernel_rfl) (by kernel_rfl)
theorem reads (os : Os) {H : Type} (enc : TypeId × Value → H) : ∃ places, DataW.whole enc Tryd.prog ((layTab (World.holding Tryd.prog os ⟨#[], #[], []⟩)).forCall (fun _ _ => 0) ⟨#[], #[.agg #[.int .u32 0, .int .u8 0, .int .u8 0, .int .u8 0, .int .u8 0, .int .u8 0, .int .u8 0, .int .u8 0, .int .u8 0, .int .u8 0, .int .u8 0]], []⟩).memory Tryd.f5.params.toList Rows.votesBackSpec.vars false #[Value.agg #[.int .u32 0, .int .u8 0, .int .u8 0, .int .u8 0, .int .u8 0, .int .u8 0, .int .u8 0, .int .u8 0, .int .u8 0, .int .u8 0, .int .u8 0]].toList 8 = some ([.agg [.lit (.int .u32 0), .lit (.int .u8 0), .lit (.int .u8 0), .agg [.lit (.int .u8 0), .lit (.int .u8 0), .lit (.int .u8 0), .lit (.int .u8 0), .lit (.int .u8 0), .lit (.int .u8 0), .lit (.int .u8 0), .lit (.int .u8 0)]]], [], places) :=
  ⟨[], by kernel_rfl⟩

set_option maxRecDepth 100000 in
theorem lifted (os : Os) (started : os.Started) (H : Type) (enc : TypeId × Value → H) (F : Stop.Interp) :
    ReturnsInHanded {} Tryd.checked os 5 .any ((OpenSpec.ofChange Rows.votesBackSpec).preRow enc Tryd.prog Tryd.f5 Rows.votesBackRow.domain false Rows.votesBackRow.laid) (((OpenSpec.ofChange Rows.votesBackSpec).at F).post enc Tryd.prog Tryd.f5 false true false false) := by
  obtain ⟨places, hx⟩ := reads os enc
  refine returnsInHanded_of_row (C := Tryd.checked) (s := OpenSpec.ofChange Rows.votesBackSpec) own started (by kernel_rfl) Tryd.func5
    (witness_row_at (enc := enc) (C := Tryd.checked) false (layTab (World.holding Tryd.prog os ⟨#[], #[], []⟩)) #[.agg #[.int .u32 0, .int .u8 0, .int .u8 0, .int .u8 0, .int .u8 0, .int .u8 0, .int .u8 0, .int .u8 0, .int .u8 0, .int .u8 0, .int .u8 0]] rfl (by kernel_rfl) (by kernel_rfl) (by kernel_rfl)
      (OpenSpec.preRow_of_cond 8 hx (by kernel_rfl) (fun k hk => by cases hk) (by kernel_rfl) (laid_met os))) ?_
  intro W base args ds gs before hval hW _ _ _ hL _ _
  exact contract H enc W base args ds gs before hval hW hL

theorem said : Rows.VotesBackSaid :=
  OpenClaim.holds_of_cond 5 Tryd.f5 rfl rfl rfl rfl rfl rfl rfl ⟨rfl, rfl, rfl, rfl, rfl⟩ rfl rfl rfl rfl rfl (by kernel_rfl) Tryd.func5 (by kernel_rfl)
    (of_decide_eq_true (by kernel_rfl)) (by unfold Func.isWrapper; first | (rw [if_pos (by decide +kernel)]; kernel_rfl) | (rw [if_neg (by decide +kernel)]; exact ⟨rfl, rfl⟩))
    (fun os started H enc _ F => by rw [OpenClaim.pre_eq_preRow]; exact lifted os started H enc F)

theorem plain (f : FuncId) (fn : Func) (hf : Tryd.pinned.checked.prog.funcNamed Tryd.f5.name = some f) (hfn : Tryd.pinned.checked.prog.funcs[f]? = some fn) :
    false = Tryd.pinned.checked.prog.looks [] ∧ ∀ (j : Nat) t, fn.params[j]? = some t → Tryd.pinned.checked.prog.wantsStandIn t = false := by
  obtain rfl : f = 5 := Option.some.inj ((show Tryd.prog.funcNamed Tryd.f5.name = some 5 by kernel_rfl).symm.trans hf) |>.symm
  obtain rfl : fn = Tryd.f5 := (Option.some.inj (Tryd.func5.symm.trans hfn)).symm
  refine ⟨by kernel_rfl, fun j t ht => ?_⟩
  rw [Tryd.params5] at ht
  have : t = 25 := by simpa using Array.mem_of_getElem? ht
  rcases this with rfl
  · exact (show Tryd.prog.wantsStandIn 25 = false by kernel_rfl)
end back6

/-- THE CARD. -/
theorem votesBack_card : Rows.VotesBackCardSaid :=
  Claim7.holds_tied_plain_at .later [] _ _ _ _ back6.said (fun _ h => by cases h) (by kernel_rfl) (fun _ h => by cases h) votesBack_row_tie rfl ⟨rfl, rfl⟩ (by kernel_rfl) rfl back6.plain (by kernel_rfl)
#print axioms votesBack_card
end Go.Proofs.YtnljibmdcknmeabDoor
