/-
  For every two configurations the statement VotesAfter returns true: After answers as the reference does, and the probe 'alive' holds; nothing that was there is written.
  Conditions: the library's table math/bits.deBruijn64tab holds what its initialiser lays (the card ties that to the program's text); else none.
-/
import Derived.Test.YtnljibmdcknmeaaDoorVtAlive
import Derived.Test.YtnljibmdcknmeaaDoorVtOpen
namespace Go.Proofs.YtnljibmdcknmeaaDoor
open Go.ChangeShapes Go.WideShapes Go.ChangeAt Go.RowKit

namespace after
/-- Whether b may follow a. -/
def afterF (a b : Cf) : Int := if 2147483647 ≤ a.e then 17 else if b.e = a.e + 1 then (if mayB b then 0 else 16) else 13
set_option maxRecDepth 100000 in
set_option maxHeartbeats 1600000 in
theorem after_any (a b : Cf) (ha : a.Ok) (hb : b.Ok) (w : World) :
    Calls Tryd.prog 27 #[.agg a.arr, .agg b.arr] w fun e w' => e = .returned (.int .i64 (afterF a b)) ∧ Below w.heap.size w w' := by
  have hsa := ha.size
  have hsb := hb.size
  have ea := ha.e
  have eb := hb.e
  have HB := hide (((Below.refl w.heap.size w).alloc (Nat.le_refl _) (.cells a.arr 25)).alloc (by simp) (.cells b.arr 25))
  have HY : Hid (Box ((w.alloc (.cells a.arr 25)).alloc (.cells b.arr 25)) (w.heap.size + 1) b.arr 25) := hide (by
    have := box_new (w.alloc (.cells a.arr 25)) b.arr 25
    rw [World.size_alloc] at this
    exact this)
  have HX : Hid (Box ((w.alloc (.cells a.arr 25)).alloc (.cells b.arr 25)) w.heap.size a.arr 25) := hide ((box_new w a.arr 25).belowV ((Below.refl _ _).alloc (Nat.le_refl _) _))
  have x0 := arr_e HX.out
  have y0 := arr_e HY.out
  have HO := hide hb
  have CM := hide (fun W => may_any b hb W)
  have HF : Hid (afterF a b = if 2147483647 ≤ a.e then 17 else if b.e = a.e + 1 then (if mayB b then 0 else 16) else 13) := rfl
  have CN := hide (fun W => next_any (a.e : Int) (by omega) (by omega) W)
  clear ha hb
  by_cases h1 : 2147483647 ≤ a.e
  · have n1 : (2147483647 : Int) ≤ (a.e : Int) := by omega
    rw [if_pos n1, if_pos n1] at CN
    have HE : Hid (afterF a b = 17) := hide (by rw [HF.out, if_pos h1])
    clear HF
    go_enter Tryd.func27, Tryd.ntmps27
    go_wp2_with (first | (go_at_call 50; refine (CN.out _).mono ?_; rintro e w1 ⟨rfl, hw1⟩; rw [hw1]; clear hw1))
    go_ret
    exact ⟨ret_int HE.out.symm, HB.out⟩
  have n1 : ¬ (2147483647 : Int) ≤ (a.e : Int) := by omega
  rw [if_neg n1, if_neg n1] at CN
  by_cases h2 : b.e = a.e + 1
  · have n2 : ((b.e : Int) != (a.e : Int) + 1) = false := by simp; omega
    cases hm : mayB b
    · rw [hm] at CM HF
      have HE : Hid (afterF a b = 16) := hide (by rw [HF.out, if_neg h1, if_pos h2]; rfl)
      clear HF
      go_enter Tryd.func27, Tryd.ntmps27
      go_wp2_with (first | (go_at_call 50; refine (CN.out _).mono ?_; rintro e w1 ⟨rfl, hw1⟩; rw [hw1]; clear hw1) | (refine wp_load_cfg rfl _ rfl _ rfl HO.out HY.out ?_) | (go_at_call 12; refine (CM.out _).mono ?_; rintro e w2 ⟨rfl, hB2⟩; have HB2 := hide (HB.out.trans (hB2.mono HB.out.size)); clear hB2))
      go_ret
      exact ⟨ret_int HE.out.symm, HB2.out⟩
    · rw [hm] at CM HF
      have HE : Hid (afterF a b = 0) := hide (by rw [HF.out, if_neg h1, if_pos h2]; rfl)
      clear HF
      go_enter Tryd.func27, Tryd.ntmps27
      go_wp2_with (first | (go_at_call 50; refine (CN.out _).mono ?_; rintro e w1 ⟨rfl, hw1⟩; rw [hw1]; clear hw1) | (refine wp_load_cfg rfl _ rfl _ rfl HO.out HY.out ?_) | (go_at_call 12; refine (CM.out _).mono ?_; rintro e w2 ⟨rfl, hB2⟩; have HB2 := hide (HB.out.trans (hB2.mono HB.out.size)); clear hB2))
      go_ret
      exact ⟨ret_int HE.out.symm, HB2.out⟩
  · have n2 : ((b.e : Int) != (a.e : Int) + 1) = true := by simp; omega
    have HE : Hid (afterF a b = 13) := hide (by rw [HF.out, if_neg h1, if_neg h2])
    clear HF
    go_enter Tryd.func27, Tryd.ntmps27
    go_wp2_with (first | (go_at_call 50; refine (CN.out _).mono ?_; rintro e w1 ⟨rfl, hw1⟩; rw [hw1]; clear hw1))
    go_ret
    exact ⟨ret_int HE.out.symm, HB.out⟩
set_option maxRecDepth 100000 in
set_option maxHeartbeats 1600000 in
theorem rafter_any (a b : Cf) (ha : a.Ok) (hb : b.Ok) (w : World) :
    Calls Tryd.prog 28 #[.agg a.arr, .agg b.arr] w fun e w' => e = .returned (.int .i64 (afterF a b)) ∧ Below w.heap.size w w' := by
  have hsa := ha.size
  have hsb := hb.size
  have ea := ha.e
  have eb := hb.e
  have HB := hide (((Below.refl w.heap.size w).alloc (Nat.le_refl _) (.cells a.arr 25)).alloc (by simp) (.cells b.arr 25))
  have HY : Hid (Box ((w.alloc (.cells a.arr 25)).alloc (.cells b.arr 25)) (w.heap.size + 1) b.arr 25) := hide (by
    have := box_new (w.alloc (.cells a.arr 25)) b.arr 25
    rw [World.size_alloc] at this
    exact this)
  have HX : Hid (Box ((w.alloc (.cells a.arr 25)).alloc (.cells b.arr 25)) w.heap.size a.arr 25) := hide ((box_new w a.arr 25).belowV ((Below.refl _ _).alloc (Nat.le_refl _) _))
  have x0 := arr_e HX.out
  have y0 := arr_e HY.out
  have HO := hide hb
  have CM := hide (fun W => rmay_any b hb W)
  have HF : Hid (afterF a b = if 2147483647 ≤ a.e then 17 else if b.e = a.e + 1 then (if mayB b then 0 else 16) else 13) := rfl
  clear ha hb
  by_cases h1 : 2147483647 ≤ a.e
  · have n1 : decide ((a.e : Int) ≥ 2147483647) = true := decide_eq_true (by omega)
    have HE : Hid (afterF a b = 17) := hide (by rw [HF.out, if_pos h1])
    clear HF
    go_enter Tryd.func28, Tryd.ntmps28
    go_wp2
    go_ret
    exact ⟨ret_int HE.out.symm, HB.out⟩
  have n1 : decide ((a.e : Int) ≥ 2147483647) = false := decide_eq_false (by omega)
  by_cases h2 : b.e = a.e + 1
  · have n2 : ((b.e : Int) != (a.e : Int) + 1) = false := by simp; omega
    cases hm : mayB b
    · rw [hm] at CM HF
      have HE : Hid (afterF a b = 16) := hide (by rw [HF.out, if_neg h1, if_pos h2]; rfl)
      clear HF
      go_enter Tryd.func28, Tryd.ntmps28
      go_wp2_with (first | (refine wp_load_cfg rfl _ rfl _ rfl HO.out HY.out ?_) | (go_at_call 13; refine (CM.out _).mono ?_; rintro e w2 ⟨rfl, hB2⟩; have HB2 := hide (HB.out.trans (hB2.mono HB.out.size)); clear hB2))
      go_ret
      exact ⟨ret_int HE.out.symm, HB2.out⟩
    · rw [hm] at CM HF
      have HE : Hid (afterF a b = 0) := hide (by rw [HF.out, if_neg h1, if_pos h2]; rfl)
      clear HF
      go_enter Tryd.func28, Tryd.ntmps28
      go_wp2_with (first | (refine wp_load_cfg rfl _ rfl _ rfl HO.out HY.out ?_) | (go_at_call 13; refine (CM.out _).mono ?_; rintro e w2 ⟨rfl, hB2⟩; have HB2 := hide (HB.out.trans (hB2.mono HB.out.size)); clear hB2))
      go_ret
      exact ⟨ret_int HE.out.symm, HB2.out⟩
  · have n2 : ((b.e : Int) != (a.e : Int) + 1) = true := by simp; omega
    have HE : Hid (afterF a b = 13) := hide (by rw [HF.out, if_neg h1, if_neg h2])
    clear HF
    go_enter Tryd.func28, Tryd.ntmps28
    go_wp2
    go_ret
    exact ⟨ret_int HE.out.symm, HB.out⟩
set_option maxRecDepth 100000 in
set_option maxHeartbeats 3200000 in
theorem walkN (a b : Cf) (ha : a.Ok) (hb : b.Ok) (w : World) (hT : Tab w) :
    Calls Tryd.prog 6 #[.agg a.arr, .agg b.arr] w fun e w' => e = .returned (.bool true) ∧ Below w.heap.size w w' := by
  have hTp := hT.pos
  have hsa := ha.size
  have hsb := hb.size
  have HA := hide ha
  have HO := hide hb
  have HB := hide (((Below.refl w.heap.size w).alloc (Nat.le_refl _) (.cells a.arr 25)).alloc (by simp) (.cells b.arr 25))
  have HT := hide (hT.below HB.out hTp)
  have HY : Hid (Box ((w.alloc (.cells a.arr 25)).alloc (.cells b.arr 25)) (w.heap.size + 1) b.arr 25) := hide (by
    have := box_new (w.alloc (.cells a.arr 25)) b.arr 25
    rw [World.size_alloc] at this
    exact this)
  have HX : Hid (Box ((w.alloc (.cells a.arr 25)).alloc (.cells b.arr 25)) w.heap.size a.arr 25) := hide ((box_new w a.arr 25).belowV ((Below.refl _ _).alloc (Nat.le_refl _) _))
  have C1 := hide (fun W => after_any a b ha hb W)
  have C2 := hide (fun W => rafter_any a b ha hb W)
  have CA := hide (fun W hW => alive_any W hW)
  generalize afterF a b = R at *
  have hRR : Hid ((R == R) = true) := hide (by simp)
  clear ha hb hT
  go_enter Tryd.func6, Tryd.ntmps6
  go_wp2_with fail
  refine wp_region_vals (by kernel_rfl) [(5, .agg a.arr), (6, .agg b.arr), (7, .int .i64 R), (8, .agg a.arr), (9, .agg b.arr), (10, .int .i64 R), (11, .bool true), (12, .bool true), (13, .bool true), (14, .bool true), (4, .bool true)] (by kernel_rfl) rfl ?_ ?_
  · intro i o hi A w1 hB hold hdeps
    have hX1 := HX.out.belowV hB
    have hY1 := HY.out.belowV hB
    have hlt : i < 11 := (Array.getElem?_eq_some_iff.1 hi).1
    have hc : i = 0 ∨ i = 1 ∨ i = 2 ∨ i = 3 ∨ i = 4 ∨ i = 5 ∨ i = 6 ∨ i = 7 ∨ i = 8 ∨ i = 9 ∨ i = 10 := by omega
    clear hlt
    rcases hc with rfl | rfl | rfl | rfl | rfl | rfl | rfl | rfl | rfl | rfl | rfl
    · obtain rfl := Option.some.inj hi
      have s2 : A.tmps.getD 2 undef = .pointer (some ⟨w.heap.size, 0, none⟩) := hold 2 (by kernel_rfl)
      exact v_pure hi rfl rfl (x_loadC _ HA.out s2 hX1)
    · obtain rfl := Option.some.inj hi
      have s3 : A.tmps.getD 3 undef = .pointer (some ⟨w.heap.size + 1, 0, none⟩) := hold 3 (by kernel_rfl)
      exact v_pure hi rfl rfl (x_loadC _ HO.out s3 hY1)
    · obtain rfl := Option.some.inj hi
      have s5 : A.tmps.getD 5 undef = .agg a.arr := dep_of hdeps 0 (by kernel_rfl)
      have s6 : A.tmps.getD 6 undef = .agg b.arr := dep_of hdeps 1 (by kernel_rfl)
      exact v_enter hi rfl rfl (x_call 27 _ #[.agg a.arr, .agg b.arr] _ rfl (by simp only [List.map_toArray, List.map_cons, List.map_nil, show A.eval (.tmp 5) = .agg a.arr from s5, show A.eval (.tmp 6) = .agg b.arr from s6]; try rfl) en_after) (C1.out w1)
    · obtain rfl := Option.some.inj hi
      have s2 : A.tmps.getD 2 undef = .pointer (some ⟨w.heap.size, 0, none⟩) := hold 2 (by kernel_rfl)
      exact v_pure hi rfl rfl (x_loadC _ HA.out s2 hX1)
    · obtain rfl := Option.some.inj hi
      have s3 : A.tmps.getD 3 undef = .pointer (some ⟨w.heap.size + 1, 0, none⟩) := hold 3 (by kernel_rfl)
      exact v_pure hi rfl rfl (x_loadC _ HO.out s3 hY1)
    · obtain rfl := Option.some.inj hi
      have s8 : A.tmps.getD 8 undef = .agg a.arr := dep_of hdeps 3 (by kernel_rfl)
      have s9 : A.tmps.getD 9 undef = .agg b.arr := dep_of hdeps 4 (by kernel_rfl)
      exact v_enter hi rfl rfl (x_call 28 _ #[.agg a.arr, .agg b.arr] _ rfl (by simp only [List.map_toArray, List.map_cons, List.map_nil, show A.eval (.tmp 8) = .agg a.arr from s8, show A.eval (.tmp 9) = .agg b.arr from s9]; try rfl) en_rafter) (C2.out w1)
    · obtain rfl := Option.some.inj hi
      have s7 : A.tmps.getD 7 undef = .int .i64 R := dep_of hdeps 2 (by kernel_rfl)
      have s10 : A.tmps.getD 10 undef = .int .i64 R := dep_of hdeps 5 (by kernel_rfl)
      exact v_pure hi rfl (congrArg Value.bool hRR.out.symm) (x_eql _ _ (.inl ⟨rfl, rfl⟩) s7 s10)
    · obtain rfl := Option.some.inj hi
      have s11 : A.tmps.getD 11 undef = .bool true := dep_of hdeps 6 (by kernel_rfl)
      exact v_pure hi rfl rfl (x_move _ s11)
    · obtain rfl := Option.some.inj hi
      have g8 : A.tmps.getD 12 undef = .bool true := dep_of hdeps 7 (by kernel_rfl)
      exact v_enter hi (wanted_of rfl rfl g8) rfl (x_call 9 _ #[] _ rfl (by simp) en_alive) (CA.out w1 (HT.out.below hB HT.out.pos))
    · obtain rfl := Option.some.inj hi
      have s12 : A.tmps.getD 12 undef = .bool true := dep_of hdeps 7 (by kernel_rfl)
      have s13 : A.tmps.getD 13 undef = .bool true := dep_of hdeps 8 (by kernel_rfl)
      exact v_pure hi rfl rfl (x_pickT _ _ _ s12 s13)
    · obtain rfl := Option.some.inj hi
      have s14 : A.tmps.getD 14 undef = .bool true := dep_of hdeps 9 (by kernel_rfl)
      exact v_pure hi rfl rfl (x_assign _ s14)
  · intro w1 hB
    simp only [putAll, Act.put, List.setIfInBounds_toArray, List.set_cons_succ, List.set_cons_zero]
    go_wp2_with fail
    go_ret
    exact ⟨rfl, HB.out.trans (hB.mono HB.out.size)⟩
end after
namespace after
set_option maxRecDepth 100000 in
theorem contract (H : Type) (enc : TypeId × Value → H) (W : World) (base : Nat) (args : Array Value) (ds gs : List (DataW H)) (before : List MemPlace)
    (hval : ∀ (j : Nat) t v, Tryd.f6.params[j]? = some t → args[j]? = some v → Value.okWide Tryd.prog W .any base t v)
    (hW : DataW.Whole enc Tryd.prog Tryd.f6.params.toList Rows.votesAfterSpec.vars false W args.toList ds gs before) (hL : laidMet Tryd.prog laidList W) :
    Calls Tryd.prog 6 args W fun e W' => ∃ v, e = .returned v ∧ Rows.votesAfterSpec.post enc Tryd.prog Tryd.f6 false true false false W args v W' := by
  have hW' := hW
  obtain ⟨p, q, hA0, hV, rfl, hfz, hnd⟩ := hW
  have hA : DataW.TrodAll enc Tryd.prog W 0 (fun _ => true) true Tryd.f6.params.toList args.toList ds p := hA0
  rw [Tryd.params6] at hA hval
  obtain ⟨v0, vs0, d0, ds0, p0, q0, hargs, rfl, rfl, h0, r0⟩ := trodAll_cons hA
  obtain ⟨v1, vs1, d1, ds1, p1, q1, rfl, rfl, rfl, h1, r1⟩ := trodAll_cons r0
  obtain ⟨rfl, rfl, rfl⟩ := trodAll_nil r1
  obtain rfl : args = #[v0, v1] := by cases args; simp_all
  obtain ⟨rfl, rfl⟩ := trodVars_none hV
  have k0 := h0
  have lt0 : ∀ x ∈ p0, x.block < W.heap.size := by obtain ⟨m, hm⟩ := k0; exact DataW.trod_lt m _ _ _ hm
  obtain ⟨c0, rfl, ok0⟩ := cfg_of_trod (hval 0 25 v0 rfl rfl) h0
  have k1 := h1
  have lt1 : ∀ x ∈ p1, x.block < W.heap.size := by obtain ⟨m, hm⟩ := k1; exact DataW.trod_lt m _ _ _ hm
  obtain ⟨c1, rfl, ok1⟩ := cfg_of_trod (hval 1 25 v1 rfl rfl) h1
  clear hA0
  refine (after.walkN c0 c1 ok0 ok1 W (tab_of_laid hL)).mono fun e W' ⟨he, bel⟩ => ?_
  subst he
  exact ⟨_, rfl, _, _, _, [], _, [], hW', trodAll_mk1 (shut_bool Tryd.underlying4 _), (trodAll_cons_mk (Below.trod laidOut (by kernel_rfl) (of_decide_eq_true (by kernel_rfl)) k0 bel lt0) (trodAll_cons_mk (Below.trod laidOut (by kernel_rfl) (of_decide_eq_true (by kernel_rfl)) k1 bel lt1) trodAll_mk0)), rfl, bel.frame _, fun h => by cases h⟩

theorem laid_met (os : Os) : laidMet Tryd.prog laidList ((layTab (World.holding Tryd.prog os ⟨#[], #[], []⟩)).forCall (fun _ _ => 0) ⟨#[], #[.agg #[.int .u32 0, .int .u8 0, .int .u8 0, .int .u8 0, .int .u8 0, .int .u8 0, .int .u8 0, .int .u8 0, .int .u8 0, .int .u8 0, .int .u8 0], .agg #[.int .u32 0, .int .u8 0, .int .u8 0, .int .u8 0, .int .u8 0, .int .u8 0, .int .u8 0, .int .u8 0, .int .u8 0, .int .u8 0, .int .u8 0]], []⟩).memory :=
  laidMet_of_run' 8 (by kernel_rfl) (by kernel_rfl)
theorem reads (os : Os) {H : Type} (enc : TypeId × Value → H) : ∃ places, DataW.whole enc Tryd.prog ((layTab (World.holding Tryd.prog os ⟨#[], #[], []⟩)).forCall (fun _ _ => 0) ⟨#[], #[.agg #[.int .u32 0, .int .u8 0, .int .u8 0, .int .u8 0, .int .u8 0, .int .u8 0, .int .u8 0, .int .u8 0, .int .u8 0, .int .u8 0, .int .u8 0], .agg #[.int .u32 0, .int .u8 0, .int .u8 0, .int .u8 0, .int .u8 0, .int .u8 0, .int .u8 0, .int .u8 0, .int .u8 0, .int .u8 0, .int .u8 0]], []⟩).memory Tryd.f6.params.toList Rows.votesAfterSpec.vars false #[Value.agg #[.int .u32 0, .int .u8 0, .int .u8 0, .int .u8 0, .int .u8 0, .int .u8 0, .int .u8 0, .int .u8 0, .int .u8 0, .int .u8 0, .int .u8 0], Value.agg #[.int .u32 0, .int .u8 0, .int .u8 0, .int .u8 0, .int .u8 0, .int .u8 0, .int .u8 0, .int .u8 0, .int .u8 0, .int .u8 0, .int .u8 0]].toList 8 = some ([.agg [.lit (.int .u32 0), .lit (.int .u8 0), .lit (.int .u8 0), .agg [.lit (.int .u8 0), .lit (.int .u8 0), .lit (.int .u8 0), .lit (.int .u8 0), .lit (.int .u8 0), .lit (.int .u8 0), .lit (.int .u8 0), .lit (.int .u8 0)]], .agg [.lit (.int .u32 0), .lit (.int .u8 0), .lit (.int .u8 0), .agg [.lit (.int .u8 0), .lit (.int .u8 0), .lit (.int .u8 0), .lit (.int .u8 0), .lit (.int .u8 0), .lit (.int .u8 0), .lit (.int .u8 0), .lit (.int .u8 0)]]], [], places) :=
  ⟨[], by kernel_rfl⟩

set_option maxRecDepth 100000 in
theorem lifted (os : Os) (started : os.Started) (H : Type) (enc : TypeId × Value → H) (F : Stop.Interp) :
    ReturnsInHanded {} Tryd.checked os 6 .any ((OpenSpec.ofChange Rows.votesAfterSpec).preRow enc Tryd.prog Tryd.f6 Rows.votesAfterRow.domain false Rows.votesAfterRow.laid) (((OpenSpec.ofChange Rows.votesAfterSpec).at F).post enc Tryd.prog Tryd.f6 false true false false) := by
  obtain ⟨places, hx⟩ := reads os enc
  refine returnsInHanded_of_row (C := Tryd.checked) (s := OpenSpec.ofChange Rows.votesAfterSpec) own started (by kernel_rfl) Tryd.func6
    (witness_row_at (enc := enc) (C := Tryd.checked) false (layTab (World.holding Tryd.prog os ⟨#[], #[], []⟩)) #[.agg #[.int .u32 0, .int .u8 0, .int .u8 0, .int .u8 0, .int .u8 0, .int .u8 0, .int .u8 0, .int .u8 0, .int .u8 0, .int .u8 0, .int .u8 0], .agg #[.int .u32 0, .int .u8 0, .int .u8 0, .int .u8 0, .int .u8 0, .int .u8 0, .int .u8 0, .int .u8 0, .int .u8 0, .int .u8 0, .int .u8 0]] rfl (by kernel_rfl) (by kernel_rfl) (by kernel_rfl)
      (OpenSpec.preRow_of_cond 8 hx (by kernel_rfl) (fun k hk => by cases hk) (by kernel_rfl) (laid_met os))) ?_
  intro W base args ds gs before hval hW _ _ _ hL _ _
  exact contract H enc W base args ds gs before hval hW hL

theorem said : Rows.VotesAfterSaid :=
  OpenClaim.holds_of_cond 6 Tryd.f6 rfl rfl rfl rfl rfl rfl rfl ⟨rfl, rfl, rfl, rfl, rfl⟩ rfl rfl rfl rfl rfl (by kernel_rfl) Tryd.func6 (by kernel_rfl)
    (of_decide_eq_true (by kernel_rfl)) (by unfold Func.isWrapper; first | (rw [if_pos (by decide +kernel)]; kernel_rfl) | (rw [if_neg (by decide +kernel)]; exact ⟨rfl, rfl⟩))
    (fun os started H enc _ F => by rw [OpenClaim.pre_eq_preRow]; exact lifted os started H enc F)

theorem plain (f : FuncId) (fn : Func) (hf : Tryd.pinned.checked.prog.funcNamed Tryd.f6.name = some f) (hfn : Tryd.pinned.checked.prog.funcs[f]? = some fn) :
    false = Tryd.pinned.checked.prog.looks [] ∧ ∀ (j : Nat) t, fn.params[j]? = some t → Tryd.pinned.checked.prog.wantsStandIn t = false := by
  obtain rfl : f = 6 := Option.some.inj ((show Tryd.prog.funcNamed Tryd.f6.name = some 6 by kernel_rfl).symm.trans hf) |>.symm
  obtain rfl : fn = Tryd.f6 := (Option.some.inj (Tryd.func6.symm.trans hfn)).symm
  refine ⟨by kernel_rfl, fun j t ht => ?_⟩
  rw [Tryd.params6] at ht
  have : t = 25 ∨ t = 25 := by simpa using Array.mem_of_getElem? ht
  rcases this with rfl | rfl
  · exact (show Tryd.prog.wantsStandIn 25 = false by kernel_rfl)
  · exact (show Tryd.prog.wantsStandIn 25 = false by kernel_rfl)
end after

/-- THE CARD. -/
theorem votesAfter_card : Rows.VotesAfterCardSaid :=
  Claim7.holds_tied_plain_at .later [] _ _ _ _ after.said (fun _ h => by cases h) (by kernel_rfl) (fun _ h => by cases h) votesAfter_row_tie rfl ⟨rfl, rfl⟩ (by kernel_rfl) rfl after.plain (by kernel_rfl)
#print axioms votesAfter_card
end Go.Proofs.YtnljibmdcknmeaaDoor
