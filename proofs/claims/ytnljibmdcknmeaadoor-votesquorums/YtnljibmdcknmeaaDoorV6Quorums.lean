/-
  For every configuration, every number of votes and every set the statement VotesQuorums returns true: Quorums and Least answer as the reference does, and the probe 'alive' holds; nothing that was there is written.
  Conditions: the library's table math/bits.deBruijn64tab holds what its initialiser lays (the card ties that to the program's text); else none.
-/
import Derived.Test.YtnljibmdcknmeaaDoorVtAlive
import Derived.Test.YtnljibmdcknmeaaDoorVtRQuo
import Derived.Test.YtnljibmdcknmeaaDoorVtOpen
namespace Go.Proofs.YtnljibmdcknmeaaDoor
open Go.ChangeShapes Go.WideShapes Go.ChangeAt Go.RowKit

namespace quorums
/-- What each operation leaves: two of them a slice of the quorums, each other one a value. -/
def InvQ (ps : List (Nat × Value)) (L : List Int) : Nat → Value → World → Prop
  | 2, v, w => Lies .u64 w v L
  | 5, v, w => Lies .u64 w v L
  | i, v, _ => v = pv ps i
theorem InvQ_below (ps : List (Nat × Value)) (L : List Int) (i : Nat) (v : Value) (w w' : World) (h : InvQ ps L i v w) (hB : Below w.heap.size w w') : InvQ ps L i v w' := by
  match i with
  | 0 | 1 | 3 | 4 => exact h
  | 2 => exact Lies.below hB h
  | 5 => exact Lies.below hB h
  | n + 6 => exact h
set_option maxRecDepth 100000 in
set_option maxHeartbeats 6400000 in
theorem walkN (c : Cf) (want : Int) (fr : Nat) (hok : c.Ok) (hfr : fr < 18446744073709551616) (w : World) (hT : Tab w) :
    Calls Tryd.prog 5 #[.agg c.arr, .int .i64 want, .int .u64 ((fr : Nat) : Int)] w fun e w' => e = .returned (.bool true) ∧ Below w.heap.size w w' := by
  have hTp := hT.pos
  have hsz := hok.size
  have HO := hide hok
  have HX := hide (box_new w c.arr 25)
  have HB := hide (alloc_below w (.cells c.arr 25))
  have HT := hide (hT.below HB.out hTp)
  have C1 := hide (fun W => least_any c want fr hok hfr W)
  have C2 := hide (fun W => rleast_any c want fr hok hfr W)
  have C3 := hide (fun W hW => quorums_any c want hok W hW)
  have C4 := hide (fun W => rquorums_any c want hok W)
  have CA := hide (fun W hW => alive_any W hW)
  generalize leastF c.vs want fr = q at *
  obtain ⟨x, f⟩ := q
  simp only at C1 C2
  generalize quoI c.vs want = L at *
  have HXX : Hid ((((x : Nat) : Int) == ((x : Nat) : Int)) = true) := hide (by simp)
  have HFF : Hid ((f == f) = true) := hide (by simp)
  clear hok hT
  go_enter Tryd.func5, Tryd.ntmps5
  go_wp2_with (first
    | (refine wp_load_cfg rfl _ rfl _ rfl HO.out HX.out ?_)
    | (go_at_call 22; refine (C1.out _).mono ?_; rintro e w2 ⟨rfl, hB2⟩; have HX2 := hide (HX.out.belowV hB2); have HT2 := hide (HT.out.below hB2 HT.out.pos); have HB2 := hide (HB.out.trans (hB2.mono HB.out.size)); clear hB2 HX HT)
    | (refine wp_load_cfg rfl _ rfl _ rfl HO.out HX2.out ?_)
    | (go_at_call 23; refine (C2.out _).mono ?_; rintro e w3 ⟨rfl, hB3⟩; have HX3 := hide (HX2.out.belowV hB3); have HT3 := hide (HT2.out.below hB3 HT2.out.pos); have HB3 := hide (HB2.out.trans (hB3.mono HB2.out.size)); clear hB3 HX2 HT2))
  refine wp_region_each2 (by kernel_rfl) (InvQ [(25, .agg c.arr), (26, .int .i64 want), (27, undef), (28, .agg c.arr), (29, .int .i64 want), (30, undef), (31, .bool true), (32, .bool true), (33, .int .u64 ((x : Nat) : Int)), (34, .int .u64 ((x : Nat) : Int)), (35, .bool true), (36, .bool true), (37, .bool true), (38, .bool f), (39, .bool f), (40, .bool true), (41, .bool true), (42, .bool true), (43, .bool true), (44, .bool true), (6, .bool true)] L) (by kernel_rfl) (InvQ_below _ _) ?_ ?_
  · intro i o hi A w1 hB hold hdeps
    have hX1 := HX3.out.belowV hB
    have hlt : i < 21 := (Array.getElem?_eq_some_iff.1 hi).1
    have hc : i = 0 ∨ i = 1 ∨ i = 2 ∨ i = 3 ∨ i = 4 ∨ i = 5 ∨ i = 6 ∨ i = 7 ∨ i = 8 ∨ i = 9 ∨ i = 10 ∨ i = 11 ∨ i = 12 ∨ i = 13 ∨ i = 14 ∨ i = 15 ∨ i = 16 ∨ i = 17 ∨ i = 18 ∨ i = 19 ∨ i = 20 := by omega
    clear hlt
    rcases hc with rfl | rfl | rfl | rfl | rfl | rfl | rfl | rfl | rfl | rfl | rfl | rfl | rfl | rfl | rfl | rfl | rfl | rfl | rfl | rfl | rfl
    · obtain rfl := Option.some.inj hi
      have s3 : A.tmps.getD 3 undef = .pointer (some ⟨w.heap.size, 0, none⟩) := hold 3 (by kernel_rfl)
      exact each_pure hi rfl (x_loadC _ HO.out s3 hX1) (Eq.symm rfl)
    · obtain rfl := Option.some.inj hi
      have s1 : A.tmps.getD 1 undef = .int .i64 want := hold 1 (by kernel_rfl)
      exact each_pure hi rfl (x_move _ s1) (Eq.symm rfl)
    · obtain rfl := Option.some.inj hi
      have s25 : A.tmps.getD 25 undef = .agg c.arr := dep_of hdeps 0 (by kernel_rfl)
      have s26 : A.tmps.getD 26 undef = .int .i64 want := dep_of hdeps 1 (by kernel_rfl)
      exact each_enter hi rfl (x_call 25 _ #[.agg c.arr, .int .i64 want] _ rfl (by simp only [List.map_toArray, List.map_cons, List.map_nil, show A.eval (.tmp 25) = .agg c.arr from s25, show A.eval (.tmp 26) = .int .i64 want from s26]; try rfl) en_quorums) ((C3.out w1 (HT3.out.below hB HT3.out.pos)).mono fun e' w' ⟨v, he, hL, hb⟩ => ⟨v, he, hb, hL⟩)
    · obtain rfl := Option.some.inj hi
      have s3 : A.tmps.getD 3 undef = .pointer (some ⟨w.heap.size, 0, none⟩) := hold 3 (by kernel_rfl)
      exact each_pure hi rfl (x_loadC _ HO.out s3 hX1) (Eq.symm rfl)
    · obtain rfl := Option.some.inj hi
      have s1 : A.tmps.getD 1 undef = .int .i64 want := hold 1 (by kernel_rfl)
      exact each_pure hi rfl (x_move _ s1) (Eq.symm rfl)
    · obtain rfl := Option.some.inj hi
      have s28 : A.tmps.getD 28 undef = .agg c.arr := dep_of hdeps 3 (by kernel_rfl)
      have s29 : A.tmps.getD 29 undef = .int .i64 want := dep_of hdeps 4 (by kernel_rfl)
      exact each_enter hi rfl (x_call 26 _ #[.agg c.arr, .int .i64 want] _ rfl (by simp only [List.map_toArray, List.map_cons, List.map_nil, show A.eval (.tmp 28) = .agg c.arr from s28, show A.eval (.tmp 29) = .int .i64 want from s29]; try rfl) en_rquorums) ((C4.out w1).mono fun e' w' ⟨v, he, hL, hb⟩ => ⟨v, he, hb, hL⟩)
    · obtain rfl := Option.some.inj hi
      have d2 : Lies .u64 w1 (A.tmps.getD 27 undef) L := dep_of hdeps 2 (by kernel_rfl)
      have d5 : Lies .u64 w1 (A.tmps.getD 30 undef) L := dep_of hdeps 5 (by kernel_rfl)
      exact each_enter hi rfl (x_call 24 _ #[A.tmps.getD 27 undef, A.tmps.getD 30 undef] _ rfl (by simp only [List.map_toArray, List.map_cons, List.map_nil]; rfl) en_rsets) ((sets_any _ _ L w1 d2 d5).mono fun e' w' ⟨he, hb⟩ => ⟨_, he, hb, rfl⟩)
    · obtain rfl := Option.some.inj hi
      have s31 : A.tmps.getD 31 undef = .bool true := dep_of hdeps 6 (by kernel_rfl)
      exact each_pure hi rfl (x_move _ s31) (Eq.symm rfl)
    · obtain rfl := Option.some.inj hi
      have g8 : A.tmps.getD 32 undef = .bool true := dep_of hdeps 7 (by kernel_rfl)
      have s7 : A.tmps.getD 7 undef = .int .u64 ((x : Nat) : Int) := hold 7 (by kernel_rfl)
      exact each_pure hi (wanted_of rfl rfl g8) (x_move _ s7) (Eq.symm rfl)
    · obtain rfl := Option.some.inj hi
      have g9 : A.tmps.getD 32 undef = .bool true := dep_of hdeps 7 (by kernel_rfl)
      have s9 : A.tmps.getD 9 undef = .int .u64 ((x : Nat) : Int) := hold 9 (by kernel_rfl)
      exact each_pure hi (wanted_of rfl rfl g9) (x_move _ s9) (Eq.symm rfl)
    · obtain rfl := Option.some.inj hi
      have g10 : A.tmps.getD 32 undef = .bool true := dep_of hdeps 7 (by kernel_rfl)
      have s33 : A.tmps.getD 33 undef = .int .u64 ((x : Nat) : Int) := dep_of hdeps 8 (by kernel_rfl)
      have s34 : A.tmps.getD 34 undef = .int .u64 ((x : Nat) : Int) := dep_of hdeps 9 (by kernel_rfl)
      exact each_pure hi (wanted_of rfl rfl g10) (x_eql _ _ (.inr ⟨rfl, rfl⟩) s33 s34) (Eq.symm (congrArg Value.bool HXX.out.symm))
    · obtain rfl := Option.some.inj hi
      have s32 : A.tmps.getD 32 undef = .bool true := dep_of hdeps 7 (by kernel_rfl)
      have s35 : A.tmps.getD 35 undef = .bool true := dep_of hdeps 10 (by kernel_rfl)
      exact each_pure hi rfl (x_pickT _ _ _ s32 s35) (Eq.symm rfl)
    · obtain rfl := Option.some.inj hi
      have s36 : A.tmps.getD 36 undef = .bool true := dep_of hdeps 11 (by kernel_rfl)
      exact each_pure hi rfl (x_move _ s36) (Eq.symm rfl)
    · obtain rfl := Option.some.inj hi
      have g13 : A.tmps.getD 37 undef = .bool true := dep_of hdeps 12 (by kernel_rfl)
      have s8 : A.tmps.getD 8 undef = .bool f := hold 8 (by kernel_rfl)
      exact each_pure hi (wanted_of rfl rfl g13) (x_move _ s8) (Eq.symm rfl)
    · obtain rfl := Option.some.inj hi
      have g14 : A.tmps.getD 37 undef = .bool true := dep_of hdeps 12 (by kernel_rfl)
      have s10 : A.tmps.getD 10 undef = .bool f := hold 10 (by kernel_rfl)
      exact each_pure hi (wanted_of rfl rfl g14) (x_move _ s10) (Eq.symm rfl)
    · obtain rfl := Option.some.inj hi
      have g15 : A.tmps.getD 37 undef = .bool true := dep_of hdeps 12 (by kernel_rfl)
      have s38 : A.tmps.getD 38 undef = .bool f := dep_of hdeps 13 (by kernel_rfl)
      have s39 : A.tmps.getD 39 undef = .bool f := dep_of hdeps 14 (by kernel_rfl)
      exact each_pure hi (wanted_of rfl rfl g15) (x_eqlB _ _ s38 s39) (Eq.symm (congrArg Value.bool HFF.out.symm))
    · obtain rfl := Option.some.inj hi
      have s37 : A.tmps.getD 37 undef = .bool true := dep_of hdeps 12 (by kernel_rfl)
      have s40 : A.tmps.getD 40 undef = .bool true := dep_of hdeps 15 (by kernel_rfl)
      exact each_pure hi rfl (x_pickT _ _ _ s37 s40) (Eq.symm rfl)
    · obtain rfl := Option.some.inj hi
      have s41 : A.tmps.getD 41 undef = .bool true := dep_of hdeps 16 (by kernel_rfl)
      exact each_pure hi rfl (x_move _ s41) (Eq.symm rfl)
    · obtain rfl := Option.some.inj hi
      have g18 : A.tmps.getD 42 undef = .bool true := dep_of hdeps 17 (by kernel_rfl)
      exact each_enter hi (wanted_of rfl rfl g18) (x_call 9 _ #[] _ rfl (by simp) en_alive) ((CA.out w1 (HT3.out.below hB HT3.out.pos)).mono fun e' w' ⟨he, hb⟩ => ⟨_, he, hb, rfl⟩)
    · obtain rfl := Option.some.inj hi
      have s42 : A.tmps.getD 42 undef = .bool true := dep_of hdeps 17 (by kernel_rfl)
      have s43 : A.tmps.getD 43 undef = .bool true := dep_of hdeps 18 (by kernel_rfl)
      exact each_pure hi rfl (x_pickT _ _ _ s42 s43) (Eq.symm rfl)
    · obtain rfl := Option.some.inj hi
      have s44 : A.tmps.getD 44 undef = .bool true := dep_of hdeps 19 (by kernel_rfl)
      exact each_pure hi rfl (x_assign _ s44) (Eq.symm rfl)
  · intro A w1 hB hs hd hold hall
    have hr : A.tmps.getD 6 undef = .bool true := hall 20 (by decide)
    have HR := hide hr
    clear hr hold hall
    go_wp2_with fail
    refine bodyPost_ret (results_tmp rfl _ _ _) hd ?_
    exact ⟨congrArg Ending.returned HR.out, HB3.out.trans (hB.mono HB3.out.size)⟩
end quorums
namespace quorums
set_option maxRecDepth 100000 in
theorem contract (H : Type) (enc : TypeId × Value → H) (W : World) (base : Nat) (args : Array Value) (ds gs : List (DataW H)) (before : List MemPlace)
    (hval : ∀ (j : Nat) t v, Tryd.f5.params[j]? = some t → args[j]? = some v → Value.okWide Tryd.prog W .any base t v)
    (hW : DataW.Whole enc Tryd.prog Tryd.f5.params.toList Rows.votesQuorumsSpec.vars false W args.toList ds gs before) (hL : laidMet Tryd.prog laidList W) :
    Calls Tryd.prog 5 args W fun e W' => ∃ v, e = .returned v ∧ Rows.votesQuorumsSpec.post enc Tryd.prog Tryd.f5 false true false false W args v W' := by
  have hW' := hW
  obtain ⟨p, q, hA0, hV, rfl, hfz, hnd⟩ := hW
  have hA : DataW.TrodAll enc Tryd.prog W 0 (fun _ => true) true Tryd.f5.params.toList args.toList ds p := hA0
  rw [Tryd.params5] at hA hval
  obtain ⟨v0, vs0, d0, ds0, p0, q0, hargs, rfl, rfl, h0, r0⟩ := trodAll_cons hA
  obtain ⟨v1, vs1, d1, ds1, p1, q1, rfl, rfl, rfl, h1, r1⟩ := trodAll_cons r0
  obtain ⟨v2, vs2, d2, ds2, p2, q2, rfl, rfl, rfl, h2, r2⟩ := trodAll_cons r1
  obtain ⟨rfl, rfl, rfl⟩ := trodAll_nil r2
  obtain rfl : args = #[v0, v1, v2] := by cases args; simp_all
  obtain ⟨rfl, rfl⟩ := trodVars_none hV
  have k0 := h0
  have lt0 : ∀ x ∈ p0, x.block < W.heap.size := by obtain ⟨m, hm⟩ := k0; exact DataW.trod_lt m _ _ _ hm
  obtain ⟨c0, rfl, ok0⟩ := cfg_of_trod (hval 0 25 v0 rfl rfl) h0
  obtain ⟨a1, rfl, rfl, rfl, w1⟩ := open_int Tryd.underlying3 (hval 1 3 v1 rfl rfl) h1
  have b1 := bounds_i64 w1
  obtain ⟨a2, rfl, rfl, rfl, w2⟩ := open_int Tryd.underlying35 (hval 2 35 v2 rfl rfl) h2
  have b2 := bounds_u64 w2
  obtain ⟨m2, rfl⟩ := Int.eq_ofNat_of_zero_le b2.1
  clear hA0
  refine (quorums.walkN c0 a1 m2 ok0 (by omega) W (tab_of_laid hL)).mono fun e W' ⟨he, bel⟩ => ?_
  subst he
  exact ⟨_, rfl, _, _, _, [], _, [], hW', trodAll_mk1 (shut_bool Tryd.underlying4 _), (trodAll_cons_mk (Below.trod laidOut (by kernel_rfl) (of_decide_eq_true (by kernel_rfl)) k0 bel lt0) (trodAll_cons_mk (shut_int Tryd.underlying3 w1) (trodAll_cons_mk (shut_int Tryd.underlying35 w2) trodAll_mk0))), rfl, bel.frame _, fun h => by cases h⟩

theorem laid_met (os : Os) : laidMet Tryd.prog laidList ((layTab (World.holding Tryd.prog os ⟨#[], #[], []⟩)).forCall (fun _ _ => 0) ⟨#[], #[.agg #[.int .u32 0, .int .u8 0, .int .u8 0, .int .u8 0, .int .u8 0, .int .u8 0, .int .u8 0, .int .u8 0, .int .u8 0, .int .u8 0, .int .u8 0], .int .i64 0, .int .u64 0], []⟩).memory :=
  laidMet_of_run' 8 (by kernel_rfl) (by kernel_rfl)
theorem reads (os : Os) {H : Type} (enc : TypeId × Value → H) : ∃ places, DataW.whole enc Tryd.prog ((layTab (World.holding Tryd.prog os ⟨#[], #[], []⟩)).forCall (fun _ _ => 0) ⟨#[], #[.agg #[.int .u32 0, .int .u8 0, .int .u8 0, .int .u8 0, .int .u8 0, .int .u8 0, .int .u8 0, .int .u8 0, .int .u8 0, .int .u8 0, .int .u8 0], .int .i64 0, .int .u64 0], []⟩).memory Tryd.f5.params.toList Rows.votesQuorumsSpec.vars false #[Value.agg #[.int .u32 0, .int .u8 0, .int .u8 0, .int .u8 0, .int .u8 0, .int .u8 0, .int .u8 0, .int .u8 0, .int .u8 0, .int .u8 0, .int .u8 0], Value.int .i64 0, Value.int .u64 0].toList 8 = some ([.agg [.lit (.int .u32 0), .lit (.int .u8 0), .lit (.int .u8 0), .agg [.lit (.int .u8 0), .lit (.int .u8 0), .lit (.int .u8 0), .lit (.int .u8 0), .lit (.int .u8 0), .lit (.int .u8 0), .lit (.int .u8 0), .lit (.int .u8 0)]], .lit (.int .i64 0), .lit (.int .u64 0)], [], places) :=
  ⟨[], by kernel_rfl⟩

set_option maxRecDepth 100000 in
theorem lifted (os : Os) (started : os.Started) (H : Type) (enc : TypeId × Value → H) (F : Stop.Interp) :
    ReturnsInHanded {} Tryd.checked os 5 .any ((OpenSpec.ofChange Rows.votesQuorumsSpec).preRow enc Tryd.prog Tryd.f5 Rows.votesQuorumsRow.domain false Rows.votesQuorumsRow.laid) (((OpenSpec.ofChange Rows.votesQuorumsSpec).at F).post enc Tryd.prog Tryd.f5 false true false false) := by
  obtain ⟨places, hx⟩ := reads os enc
  refine returnsInHanded_of_row (C := Tryd.checked) (s := OpenSpec.ofChange Rows.votesQuorumsSpec) own started (by kernel_rfl) Tryd.func5
    (witness_row_at (enc := enc) (C := Tryd.checked) false (layTab (World.holding Tryd.prog os ⟨#[], #[], []⟩)) #[.agg #[.int .u32 0, .int .u8 0, .int .u8 0, .int .u8 0, .int .u8 0, .int .u8 0, .int .u8 0, .int .u8 0, .int .u8 0, .int .u8 0, .int .u8 0], .int .i64 0, .int .u64 0] rfl (by kernel_rfl) (by kernel_rfl) (by kernel_rfl)
      (OpenSpec.preRow_of_cond 8 hx (by kernel_rfl) (fun k hk => by cases hk) (by kernel_rfl) (laid_met os))) ?_
  intro W base args ds gs before hval hW _ _ _ hL _ _
  exact contract H enc W base args ds gs before hval hW hL

theorem said : Rows.VotesQuorumsSaid :=
  OpenClaim.holds_of_cond 5 Tryd.f5 rfl rfl rfl rfl rfl rfl rfl ⟨rfl, rfl, rfl, rfl, rfl⟩ rfl rfl rfl rfl rfl (by kernel_rfl) Tryd.func5 (by kernel_rfl)
    (of_decide_eq_true (by kernel_rfl)) (by unfold Func.isWrapper; first | (rw [if_pos (by decide +kernel)]; kernel_rfl) | (rw [if_neg (by decide +kernel)]; exact ⟨rfl, rfl⟩))
    (fun os started H enc _ F => by rw [OpenClaim.pre_eq_preRow]; exact lifted os started H enc F)

theorem plain (f : FuncId) (fn : Func) (hf : Tryd.pinned.checked.prog.funcNamed Tryd.f5.name = some f) (hfn : Tryd.pinned.checked.prog.funcs[f]? = some fn) :
    false = Tryd.pinned.checked.prog.looks [] ∧ ∀ (j : Nat) t, fn.params[j]? = some t → Tryd.pinned.checked.prog.wantsStandIn t = false := by
  obtain rfl : f = 5 := Option.some.inj ((show Tryd.prog.funcNamed Tryd.f5.name = some 5 by kernel_rfl).symm.trans hf) |>.symm
  obtain rfl : fn = Tryd.f5 := (Option.some.inj (Tryd.func5.symm.trans hfn)).symm
  refine ⟨by kernel_rfl, fun j t ht => ?_⟩
  rw [Tryd.params5] at ht
  have : t = 25 ∨ t = 3 ∨ t = 35 := by simpa using Array.mem_of_getElem? ht
  rcases this with rfl | rfl | rfl
  · exact (show Tryd.prog.wantsStandIn 25 = false by kernel_rfl)
  · exact (show Tryd.prog.wantsStandIn 3 = false by kernel_rfl)
  · exact (show Tryd.prog.wantsStandIn 35 = false by kernel_rfl)
end quorums

/-- THE CARD. -/
theorem votesQuorums_card : Rows.VotesQuorumsCardSaid :=
  Claim7.holds_tied_plain_at .later [] _ _ _ _ quorums.said (fun _ h => by cases h) (by kernel_rfl) (fun _ h => by cases h) votesQuorums_row_tie rfl ⟨rfl, rfl⟩ (by kernel_rfl) rfl quorums.plain (by kernel_rfl)
#print axioms votesQuorums_card
end Go.Proofs.YtnljibmdcknmeaaDoor
