/-
  For every uint64 set and int n, the statement BitsSets returns true: Has, With, Without, Count and List answer as the reference does, and the probe 'alive' holds; nothing that was there is written.
  Conditions: the library's table math/bits.deBruijn64tab holds what its initialiser lays (the card ties that to the program's text); else none.
-/
import Derived.Test.YtdfoclmkhhmdbaaDoorRSets
import Derived.Test.YtdfoclmkhhmdbaaDoorFrame
namespace Go.Proofs.YtdfoclmkhhmdbaaDoor
open Go.ChangeShapes Go.WideShapes Go.ChangeAt Go.RowKit

namespace sets
theorem shape {k : IntKind} {w : World} {v : Value} {xs : List Int} (h : Lies k w v xs) : ∃ (ao : Option Addr) (cap : Nat), v = .slice ao xs.length cap := by
  obtain ⟨ao, cap, e, _⟩ := h.appendable
  exact ⟨ao, cap, e⟩
/-- What the two say of a node: the same, wherever it is. -/
theorem both (s : Nat) (n : Int) (hs : s < 18446744073709551616) : ∃ (b : Bool) (x y : Nat), ∀ w : World,
    Calls Tryd.prog 27 #[.int .u64 s, .int .i64 n] w (fun e w' => e = .returned (.bool b) ∧ w' = w) ∧
    Calls Tryd.prog 28 #[.int .u64 s, .int .i64 n] w (fun e w' => e = .returned (.bool b) ∧ w' = w) ∧
    Calls Tryd.prog 29 #[.int .u64 s, .int .i64 n] w (fun e w' => e = .returned (.int .u64 (x : Int)) ∧ w' = w) ∧
    Calls Tryd.prog 30 #[.int .u64 s, .int .i64 n] w (fun e w' => e = .returned (.int .u64 (x : Int)) ∧ w' = w) ∧
    Calls Tryd.prog 31 #[.int .u64 s, .int .i64 n] w (fun e w' => e = .returned (.int .u64 (y : Int)) ∧ w' = w) ∧
    Calls Tryd.prog 32 #[.int .u64 s, .int .i64 n] w (fun e w' => e = .returned (.int .u64 (y : Int)) ∧ w' = w) := by
  by_cases hn : n < 0 ∨ 64 ≤ n
  · exact ⟨false, s, s, fun w => ⟨has_out s n hs hn w, rhas_out s n hn w, with_out s n hs hn w, rwith_out s n hn w, without_out s n hs hn w, rwithout_out s n hn w⟩⟩
  · obtain ⟨k, rfl⟩ := Int.eq_ofNat_of_zero_le (show 0 ≤ n by omega)
    have hk : k < 64 := by omega
    exact ⟨s.testBit k, withN s k, withoutN s k, fun w => ⟨has_in s k hs hk w, rhas_in s k hs hk w, with_in s k hs hk w, rwith_in s k hs hk w, without_in s k hs hk w, rwithout_in s k hs hk w⟩⟩

set_option maxRecDepth 100000 in
set_option maxHeartbeats 2000000 in
theorem walkN (s : Nat) (n : Int) (hs : s < 18446744073709551616) (w : World) (hT : Tab w) :
    Calls Tryd.prog 6 #[.int .u64 s, .int .i64 n] w fun e w' => e = .returned (.bool true) ∧ Below w.heap.size w w' := by
  have hTp := hT.pos
  obtain ⟨b, x, y, hc⟩ := both s n hs
  have HC := hide hc
  have HT := hide hT
  clear hc hT
  have q1 : (b == b) = true := by simp
  have q2 : ((x : Int) == (x : Int)) = true := by simp
  have q3 : ((y : Int) == (y : Int)) = true := by simp
  have q4 : (((listS s).length : Int) == ((listS s).length : Int)) = true := by simp
  go_enter Tryd.func6, Tryd.ntmps6
  go_wp2_with fail
  refine (HC.out w).1.mono ?_
  rintro e w1 ⟨rfl, h1⟩
  rw [h1]
  clear h1
  go_wp2_with fail
  refine (HC.out w).2.1.mono ?_
  rintro e w1 ⟨rfl, h1⟩
  rw [h1]
  clear h1
  go_wp2_with fail
  refine (HC.out w).2.2.1.mono ?_
  rintro e w1 ⟨rfl, h1⟩
  rw [h1]
  clear h1
  go_wp2_with fail
  refine (HC.out w).2.2.2.1.mono ?_
  rintro e w1 ⟨rfl, h1⟩
  rw [h1]
  clear h1
  go_wp2_with fail
  refine (HC.out w).2.2.2.2.1.mono ?_
  rintro e w1 ⟨rfl, h1⟩
  rw [h1]
  clear h1
  go_wp2_with fail
  refine (HC.out w).2.2.2.2.2.mono ?_
  rintro e w1 ⟨rfl, h1⟩
  rw [h1]
  clear h1
  go_wp2_with fail
  refine (count_any s hs w).mono ?_
  rintro e w1 ⟨rfl, h1⟩
  rw [h1]
  clear h1
  go_wp2_with fail
  refine (rlist_any s hs w).mono ?_
  rintro e w2 ⟨v2, rfl, hown2, hB2⟩
  have L2 := Lies.of_own hown2
  obtain ⟨ao2, cap2, rfl⟩ := shape L2
  clear hown2 L2
  go_wp2_with fail
  refine (list_any s hs w2 (HT.out.below hB2 hTp)).mono ?_
  rintro e w3 ⟨v3, rfl, hown3, hB3'⟩
  have L3 := hide (Lies.of_own hown3)
  have hB3 : Below w.heap.size w w3 := hB2.trans (hB3'.mono hB2.size)
  clear hown3 hB3'
  go_wp2_with fail
  refine (rlist_any s hs w3).mono ?_
  rintro e w4 ⟨v4, rfl, hown4, hB4'⟩
  have L4 := hide (Lies.of_own hown4)
  have L3' := hide (L3.out.below hB4')
  have hB4 : Below w.heap.size w w4 := hB3.trans (hB4'.mono hB3.size)
  clear hown4 hB4' L3
  go_wp2_with fail
  refine (ints_any v3 v4 _ w4 L3'.out L4.out).mono ?_
  rintro e w5 ⟨rfl, nd, h5⟩
  have hB5 : Below w.heap.size w w5 := by rw [h5]; exact ⟨hB4.os, hB4.tape, hB4.output, hB4.size, hB4.block⟩
  clear h5 L3' L4
  go_wp2_with fail
  refine (alive_any _ (HT.out.below hB5 hTp)).mono ?_
  rintro e w6 ⟨rfl, hB6⟩
  go_wp2_with fail
  go_ret
  exact ⟨rfl, hB5.trans (hB6.mono hB5.size)⟩
end sets
namespace sets
theorem contract (H : Type) (enc : TypeId × Value → H) (W : World) (base : Nat) (args : Array Value) (ds gs : List (DataW H)) (before : List MemPlace)
    (hval : ∀ (j : Nat) t v, Tryd.f6.params[j]? = some t → args[j]? = some v → Value.okWide Tryd.prog W .any base t v)
    (hW : DataW.Whole enc Tryd.prog Tryd.f6.params.toList Rows.bitsSetsSpec.vars false W args.toList ds gs before) (hL : laidMet Tryd.prog laidList W) :
    Calls Tryd.prog 6 args W fun e W' => ∃ v, e = .returned v ∧ Rows.bitsSetsSpec.post enc Tryd.prog Tryd.f6 false true false false W args v W' := by
  have hW' := hW
  obtain ⟨p, q, hA0, hV, rfl, hfz, hnd⟩ := hW
  have hA : DataW.TrodAll enc Tryd.prog W 0 (fun _ => true) true Tryd.f6.params.toList args.toList ds p := hA0
  rw [Tryd.params6] at hA hval
  obtain ⟨v0, vs0, d0, ds0, p0, q0, hargs, rfl, rfl, h0, r0⟩ := trodAll_cons hA
  obtain ⟨v1, vs1, d1, ds1, p1, q1, rfl, rfl, rfl, h1, r1⟩ := trodAll_cons r0
  obtain ⟨rfl, rfl, rfl⟩ := trodAll_nil r1
  obtain rfl : args = #[v0, v1] := by cases args; simp_all
  obtain ⟨rfl, rfl⟩ := trodVars_none hV
  obtain ⟨a0, rfl, rfl, rfl, w0⟩ := open_int Tryd.underlying23 (hval 0 23 v0 rfl rfl) h0
  have b0 := bounds_u64 w0
  obtain ⟨m0, rfl⟩ := Int.eq_ofNat_of_zero_le b0.1
  obtain ⟨a1, rfl, rfl, rfl, w1⟩ := open_int Tryd.underlying3 (hval 1 3 v1 rfl rfl) h1
  have b1 := bounds_i64 w1
  clear hA0
  refine (walkN m0 a1 (by omega) W (tab_of_laid hL)).mono fun e W' ⟨he, bel⟩ => ?_
  subst he
  exact ⟨_, rfl, _, _, _, [], _, [], hW', trodAll_mk1 (shut_bool Tryd.underlying4 _), (trodAll_cons_mk (shut_int Tryd.underlying23 w0) (trodAll_cons_mk (shut_int Tryd.underlying3 w1) trodAll_mk0)), rfl, bel.frame _, fun h => by cases h⟩

theorem laid_met (os : Os) : laidMet Tryd.prog laidList ((layTab (World.holding Tryd.prog os ⟨#[], #[], []⟩)).forCall (fun _ _ => 0) ⟨#[], #[.int .u64 0, .int .i64 0], []⟩).memory :=
  laidMet_of_run' 8 (by kernel_rfl) (by kernel_rfl)
theorem reads (os : Os) {H : Type} (enc : TypeId × Value → H) : ∃ places, DataW.whole enc Tryd.prog ((layTab (World.holding Tryd.prog os ⟨#[], #[], []⟩)).forCall (fun _ _ => 0) ⟨#[], #[.int .u64 0, .int .i64 0], []⟩).memory Tryd.f6.params.toList Rows.bitsSetsSpec.vars false #[Value.int .u64 0, Value.int .i64 0].toList 8 = some ([.lit (.int .u64 0), .lit (.int .i64 0)], [], places) :=
  ⟨[], by kernel_rfl⟩

set_option maxRecDepth 100000 in
theorem lifted (os : Os) (started : os.Started) (H : Type) (enc : TypeId × Value → H) (F : Stop.Interp) :
    ReturnsInHanded {} Tryd.checked os 6 .any ((OpenSpec.ofChange Rows.bitsSetsSpec).preRow enc Tryd.prog Tryd.f6 Rows.bitsSetsRow.domain false Rows.bitsSetsRow.laid) (((OpenSpec.ofChange Rows.bitsSetsSpec).at F).post enc Tryd.prog Tryd.f6 false true false false) := by
  obtain ⟨places, hx⟩ := reads os enc
  refine returnsInHanded_of_row (C := Tryd.checked) (s := OpenSpec.ofChange Rows.bitsSetsSpec) own started (by kernel_rfl) Tryd.func6
    (witness_row_at (enc := enc) (C := Tryd.checked) false (layTab (World.holding Tryd.prog os ⟨#[], #[], []⟩)) #[.int .u64 0, .int .i64 0] rfl (by kernel_rfl) (by kernel_rfl) (by kernel_rfl)
      (OpenSpec.preRow_of_cond 8 hx (by kernel_rfl) (fun k hk => by cases hk) (by kernel_rfl) (laid_met os))) ?_
  intro W base args ds gs before hval hW _ _ _ hL _ _
  exact contract H enc W base args ds gs before hval hW hL

theorem said : Rows.BitsSetsSaid :=
  OpenClaim.holds_of_cond 6 Tryd.f6 rfl rfl rfl rfl rfl rfl rfl ⟨rfl, rfl, rfl, rfl, rfl⟩ rfl rfl rfl rfl rfl (by kernel_rfl) Tryd.func6 (by kernel_rfl)
    (of_decide_eq_true (by kernel_rfl)) (by unfold Func.isWrapper; first | (rw [if_pos (by decide +kernel)]; kernel_rfl) | (rw [if_neg (by decide +kernel)]; exact ⟨rfl, rfl⟩))
    (fun os started H enc _ F => by rw [OpenClaim.pre_eq_preRow]; exact lifted os started H enc F)

theorem plain (f : FuncId) (fn : Func) (hf : Tryd.pinned.checked.prog.funcNamed Tryd.f6.name = some f) (hfn : Tryd.pinned.checked.prog.funcs[f]? = some fn) :
    false = Tryd.pinned.checked.prog.looks [] ∧ ∀ (j : Nat) t, fn.params[j]? = some t → Tryd.pinned.checked.prog.wantsStandIn t = false := by
  obtain rfl : f = 6 := Option.some.inj ((show Tryd.prog.funcNamed Tryd.f6.name = some 6 by kernel_rfl).symm.trans hf) |>.symm
  obtain rfl : fn = Tryd.f6 := (Option.some.inj (Tryd.func6.symm.trans hfn)).symm
  refine ⟨by kernel_rfl, fun j t ht => ?_⟩
  rw [Tryd.params6] at ht
  have : t = 23 ∨ t = 3 := by simpa using Array.mem_of_getElem? ht
  rcases this with rfl | rfl
  · exact (show Tryd.prog.wantsStandIn 23 = false by kernel_rfl)
  · exact (show Tryd.prog.wantsStandIn 3 = false by kernel_rfl)
end sets

/-- THE CARD. -/
theorem bitsSets_card : Rows.BitsSetsCardSaid :=
  Claim7.holds_tied_plain_at .later [] _ _ _ _ sets.said (fun _ h => by cases h) (by kernel_rfl) (fun _ h => by cases h) bitsSets_row_tie rfl ⟨rfl, rfl⟩ (by kernel_rfl) rfl sets.plain (by kernel_rfl)
#print axioms bitsSets_card
end Go.Proofs.YtdfoclmkhhmdbaaDoor
