/-
  For every uint64 set and uint8 n, the statement BitsLists returns true: a set is what is with its list, which rises; with and without turn just one node; and the probe 'alive' holds; nothing that was there is written.
  Conditions: the library's table math/bits.deBruijn64tab holds what its initialiser lays (the card ties that to the program's text); else none.
-/
import Derived.Test.YtdfoclmkhhmdbabDoorWiths
import Derived.Test.YtdfoclmkhhmdbabDoorListFacts
import Derived.Test.YtdfoclmkhhmdbabDoorFrame
namespace Go.Proofs.YtdfoclmkhhmdbabDoor
open Go.ChangeShapes Go.WideShapes Go.ChangeAt Go.RowKit

namespace lists
set_option maxRecDepth 100000 in
set_option maxHeartbeats 2000000 in
theorem walkN (s sz : Nat) (hs : s < 18446744073709551616) (hsz : sz < 256) (w : World) (hT : Tab w) :
    Calls Tryd.prog 3 #[.int .u64 s, .int .u8 sz] w fun e w' => e = .returned (.bool true) ∧ Below w.heap.size w w' := by
  have hTp := hT.pos
  have HT := hide hT
  clear hT
  obtain ⟨r, hr, hr64⟩ : ∃ r : Nat, (sz : Int) % 64 = (r : Int) ∧ r < 64 := ⟨sz % 64, by omega, by omega⟩
  have hA := with_lt s r hs hr64
  have hB := without_lt s r hs
  have HA := hide (with_bit s r)
  have HB := hide (without_bit s r)
  have HWA := hide (without_with s r)
  have HWB := hide (with_without s r)
  have HJ := hide (just_one s r)
  have hll := listS_len s
  have HLN := hide (listS_length s)
  have HALL := hide (withAll_list s hs)
  have HAT := hide (fun k (h : k < (listS s).length) => listN_at s k (by rw [← listS_length]; exact h))
  have HUP := hide (fun k (h0 : 0 < k) (h : k < (listS s).length) => listN_rise s k h0 (by rw [← listS_length]; exact h))
  go_enter Tryd.func3, Tryd.ntmps3
  go_wp2_with fail
  refine (list_any s hs w HT.out).mono ?_
  rintro e w1 ⟨v1, rfl, hown1, hB1⟩
  have L1 := Lies.of_own hown1
  clear hown1
  have HWi := hide (with_in s r hs hr64 w1)
  have HWo := hide (without_in s r hs hr64 w1)
  have HCn := hide (count_any s hs w1)
  have HHa := hide (has_in (withN s r) r hA hr64 w1)
  have HHb := hide (has_in (withoutN s r) r hB hr64 w1)
  have HWoA := hide (without_in (withN s r) r hA hr64 w1)
  have HWiB := hide (with_in (withoutN s r) r hB hr64 w1)
  have HAl := hide (alive_any w1 (HT.out.below hB1 hTp))
  rw [HA.out] at HHa
  rw [HB.out] at HHb
  rw [HWA.out] at HWoA
  rw [HWB.out] at HWiB
  rcases L1 with ⟨hnil, ao, cap, rfl, _⟩ | ⟨hne, b, off, cap, rfl, _, hcl, hcm, hc⟩
  · have hlen : (listS s).length = 0 := by rw [hnil]; rfl
    have HS0 : Hid ((s : Int) = 0) := by
      have h1 := HLN.out
      rw [hlen] at h1
      have h2 : listN s = [] := List.eq_nil_of_length_eq_zero h1.symm
      have h3 := HALL.out
      rw [h2] at h3
      refine hide ?_
      rw [← h3]
      rfl
    rw [hlen] at HCn
    clear hnil hlen HAT HUP HALL HLN hll
    have q0 : ((0 : Int) == (s : Int)) = true := by rw [HS0.out]; rfl
    clear HS0
    go_wp2_with fail
    refine wp_loop_rounds 1 ?_
    rw [rounds_succ]
    generalize hAg : withN s r = A at *
    generalize hBg : withoutN s r = B at *
    clear hAg hBg
    obtain ⟨j1, j2⟩ := HJ.out
    have qs : ((s : Int) == (s : Int)) = true := by simp
    have qA : ((A : Int) == (A : Int)) = true := by simp
    have qB : ((B : Int) == (B : Int)) = true := by simp
    go_wp2_with fail
    refine HWi.out.mono ?_
    rintro e w2 ⟨rfl, h2⟩
    rw [h2]
    clear h2
    go_wp2_with fail
    refine HWo.out.mono ?_
    rintro e w2 ⟨rfl, h2⟩
    rw [h2]
    clear h2
    go_wp2_with fail
    refine HCn.out.mono ?_
    rintro e w2 ⟨rfl, h2⟩
    rw [h2]
    clear h2
    go_wp2_with fail
    refine HHa.out.mono ?_
    rintro e w2 ⟨rfl, h2⟩
    rw [h2]
    clear h2
    go_wp2_with fail
    refine HHb.out.mono ?_
    rintro e w2 ⟨rfl, h2⟩
    rw [h2]
    clear h2
    go_wp2_with fail
    refine HWoA.out.mono ?_
    rintro e w2 ⟨rfl, h2⟩
    rw [h2]
    clear h2
    go_wp2_with fail
    refine HWiB.out.mono ?_
    rintro e w2 ⟨rfl, h2⟩
    rw [h2]
    clear h2
    cases hb : s.testBit r
    all_goals
      rw [hb] at j1 j2
      simp only [Bool.not_false, Bool.not_true] at j2
      go_wp2_with fail
      refine HAl.out.mono ?_
      rintro e w3 ⟨rfl, hB3⟩
      go_wp2_with fail
      go_ret
      exact ⟨rfl, hB1.trans (hB3.mono hB1.size)⟩
  · have HC := hide hc
    clear hc
    unfold maxLen at hcm
    have HLS := hide (fun k (h : k < (listS s).length) => listS_at s k (by rw [← listS_length]; exact h))
    generalize hlen : (listS s).length = len at *
    have Hlen := hide hlen
    clear hlen
    go_wp2_with fail
    go_loop [4, 6, 7, 8, 16] (fun z ag _ _ i => ∃ k : Nat, k ≤ len ∧ i = .int .i64 k ∧ z = .bool false ∧ ag = .int .u64 ((withAll ((listN s).take k) : Nat) : Int)) (fun _ _ _ _ i => len - (intOf i).toNat)
    case atStart => exact ⟨0, Nat.zero_le _, rfl, rfl, rfl⟩
    case round =>
      obtain ⟨k, hk, rfl, rfl, rfl⟩ := hrel
      by_cases hlt : k < len
      · have hcell := HC.out k hlt
        rw [HLS.out k hlt] at hcell
        obtain ⟨ha64, habit⟩ := HAT.out k hlt
        have HST : Hid (withAll ((listN s).take (k + 1)) = withN (withAll ((listN s).take k)) ((listN s).getD k 0)) := by
          refine hide ?_
          rw [take_snocN _ k (by rw [← HLN.out]; exact hlt), withAll_snoc]
        have hacc : withAll ((listN s).take k) < 18446744073709551616 := withAll_lt _ (fun a ha => ((mem_listN s a).1 (List.mem_of_mem_take ha)).1)
        have hhas := hide (has_in s _ hs ha64 w1)
        rw [habit] at hhas
        have hwi := hide (with_in _ _ hacc ha64 w1)
        by_cases hk0 : k = 0
        · subst hk0
          have hcell0 : w1.cell? ⟨b, off, none⟩ = some (.int .i64 (((listN s).getD 0 0 : Nat) : Int)) := by simpa using hcell
          generalize (listN s).getD 0 0 = a at *
          generalize hac : withAll ((listN s).take 0) = acc at *
          generalize withN acc a = nx at *
          clear habit hac
          go_wp2_with (first | (go_at_call 5; refine hhas.out.mono ?_; rintro e w2 ⟨rfl, h2⟩; rw [h2]; clear h2) | (go_at_call 6; refine hwi.out.mono ?_; rintro e w2 ⟨rfl, h2⟩; rw [h2]; clear h2))
          go_round
          case rel => exact ⟨1, by omega, rfl, rfl, by rw [HST.out]⟩
          case measure => simp [intOf] <;> omega
        · have hcp := HC.out (k - 1) (by omega)
          rw [HLS.out (k - 1) (by omega)] at hcp
          have hup := HUP.out k (by omega) hlt
          have e1 : (k : Int) - 1 = ((k - 1 : Nat) : Int) := by omega
          have hk0' : (0 : Int) < (k : Int) := by omega
          generalize (listN s).getD (k - 1) 0 = pa at *
          generalize (listN s).getD k 0 = a at *
          generalize withAll ((listN s).take k) = acc at *
          generalize withN acc a = nx at *
          clear habit hk0
          go_wp2_with (first | (go_at_call 5; refine hhas.out.mono ?_; rintro e w2 ⟨rfl, h2⟩; rw [h2]; clear h2) | (go_at_call 6; refine hwi.out.mono ?_; rintro e w2 ⟨rfl, h2⟩; rw [h2]; clear h2))
          go_round
          case rel => exact ⟨k + 1, by omega, by go_num, rfl, by rw [HST.out]⟩
          case measure => simp [intOf] <;> omega
      · obtain rfl : k = len := by omega
        have HE : Hid (withAll ((listN s).take k) = s) := by
          refine hide ?_
          rw [List.take_of_length_le (by rw [← HLN.out]; exact Nat.le_refl _)]
          exact HALL.out
        generalize withAll ((listN s).take k) = acc at *
        obtain rfl : acc = s := HE.out
        clear HE HAT HUP HALL HLN HLS HC
        generalize hAg : withN acc r = A at *
        generalize hBg : withoutN acc r = B at *
        clear hAg hBg
        obtain ⟨j1, j2⟩ := HJ.out
        have qs : ((acc : Int) == (acc : Int)) = true := by simp
        have ql : ((k : Int) == (k : Int)) = true := by simp
        have qA : ((A : Int) == (A : Int)) = true := by simp
        have qB : ((B : Int) == (B : Int)) = true := by simp
        go_wp2_with fail
        refine HWi.out.mono ?_
        rintro e w2 ⟨rfl, h2⟩
        rw [h2]
        clear h2
        go_wp2_with fail
        refine HWo.out.mono ?_
        rintro e w2 ⟨rfl, h2⟩
        rw [h2]
        clear h2
        go_wp2_with fail
        refine HCn.out.mono ?_
        rintro e w2 ⟨rfl, h2⟩
        rw [h2]
        clear h2
        go_wp2_with fail
        refine HHa.out.mono ?_
        rintro e w2 ⟨rfl, h2⟩
        rw [h2]
        clear h2
        go_wp2_with fail
        refine HHb.out.mono ?_
        rintro e w2 ⟨rfl, h2⟩
        rw [h2]
        clear h2
        go_wp2_with fail
        refine HWoA.out.mono ?_
        rintro e w2 ⟨rfl, h2⟩
        rw [h2]
        clear h2
        go_wp2_with fail
        refine HWiB.out.mono ?_
        rintro e w2 ⟨rfl, h2⟩
        rw [h2]
        clear h2
        cases hb : acc.testBit r
        all_goals
          rw [hb] at j1 j2
          simp only [Bool.not_false, Bool.not_true] at j2
          go_wp2_with fail
          refine HAl.out.mono ?_
          rintro e w3 ⟨rfl, hB3⟩
          go_wp2_with fail
          go_ret
          exact ⟨rfl, hB1.trans (hB3.mono hB1.size)⟩
end lists
namespace lists
theorem contract (H : Type) (enc : TypeId × Value → H) (W : World) (base : Nat) (args : Array Value) (ds gs : List (DataW H)) (before : List MemPlace)
    (hval : ∀ (j : Nat) t v, Tryd.f3.params[j]? = some t → args[j]? = some v → Value.okWide Tryd.prog W .any base t v)
    (hW : DataW.Whole enc Tryd.prog Tryd.f3.params.toList Rows.bitsListsSpec.vars false W args.toList ds gs before) (hL : laidMet Tryd.prog laidList W) :
    Calls Tryd.prog 3 args W fun e W' => ∃ v, e = .returned v ∧ Rows.bitsListsSpec.post enc Tryd.prog Tryd.f3 false true false false W args v W' := by
  have hW' := hW
  obtain ⟨p, q, hA0, hV, rfl, hfz, hnd⟩ := hW
  have hA : DataW.TrodAll enc Tryd.prog W 0 (fun _ => true) true Tryd.f3.params.toList args.toList ds p := hA0
  rw [Tryd.params3] at hA hval
  obtain ⟨v0, vs0, d0, ds0, p0, q0, hargs, rfl, rfl, h0, r0⟩ := trodAll_cons hA
  obtain ⟨v1, vs1, d1, ds1, p1, q1, rfl, rfl, rfl, h1, r1⟩ := trodAll_cons r0
  obtain ⟨rfl, rfl, rfl⟩ := trodAll_nil r1
  obtain rfl : args = #[v0, v1] := by cases args; simp_all
  obtain ⟨rfl, rfl⟩ := trodVars_none hV
  obtain ⟨a0, rfl, rfl, rfl, w0⟩ := open_int Tryd.underlying22 (hval 0 22 v0 rfl rfl) h0
  have b0 := bounds_u64 w0
  obtain ⟨m0, rfl⟩ := Int.eq_ofNat_of_zero_le b0.1
  obtain ⟨a1, rfl, rfl, rfl, w1⟩ := open_int Tryd.underlying5 (hval 1 5 v1 rfl rfl) h1
  have b1 := bounds_u8 w1
  obtain ⟨m1, rfl⟩ := Int.eq_ofNat_of_zero_le b1.1
  clear hA0
  refine (walkN m0 m1 (by omega) (by omega) W (tab_of_laid hL)).mono fun e W' ⟨he, bel⟩ => ?_
  subst he
  exact ⟨_, rfl, _, _, _, [], _, [], hW', trodAll_mk1 (shut_bool Tryd.underlying4 _), (trodAll_cons_mk (shut_int Tryd.underlying22 w0) (trodAll_cons_mk (shut_int Tryd.underlying5 w1) trodAll_mk0)), rfl, bel.frame _, fun h => by cases h⟩

theorem laid_met (os : Os) : laidMet Tryd.prog laidList ((layTab (World.holding Tryd.prog os ⟨#[], #[], []⟩)).forCall (fun _ _ => 0) ⟨#[], #[.int .u64 0, .int .u8 0], []⟩).memory :=
  laidMet_of_run' 8 (by kernel_rfl) (by kernel_rfl)
theorem reads (os : Os) {H : Type} (enc : TypeId × Value → H) : ∃ places, DataW.whole enc Tryd.prog ((layTab (World.holding Tryd.prog os ⟨#[], #[], []⟩)).forCall (fun _ _ => 0) ⟨#[], #[.int .u64 0, .int .u8 0], []⟩).memory Tryd.f3.params.toList Rows.bitsListsSpec.vars false #[Value.int .u64 0, Value.int .u8 0].toList 8 = some ([.lit (.int .u64 0), .lit (.int .u8 0)], [], places) :=
  ⟨[], by kernel_rfl⟩

set_option maxRecDepth 100000 in
theorem lifted (os : Os) (started : os.Started) (H : Type) (enc : TypeId × Value → H) (F : Stop.Interp) :
    ReturnsInHanded {} Tryd.checked os 3 .any ((OpenSpec.ofChange Rows.bitsListsSpec).preRow enc Tryd.prog Tryd.f3 Rows.bitsListsRow.domain false Rows.bitsListsRow.laid) (((OpenSpec.ofChange Rows.bitsListsSpec).at F).post enc Tryd.prog Tryd.f3 false true false false) := by
  obtain ⟨places, hx⟩ := reads os enc
  refine returnsInHanded_of_row (C := Tryd.checked) (s := OpenSpec.ofChange Rows.bitsListsSpec) own started (by kernel_rfl) Tryd.func3
    (witness_row_at (enc := enc) (C := Tryd.checked) false (layTab (World.holding Tryd.prog os ⟨#[], #[], []⟩)) #[.int .u64 0, .int .u8 0] rfl (by kernel_rfl) (by kernel_rfl) (by kernel_rfl)
      (OpenSpec.preRow_of_cond 8 hx (by kernel_rfl) (fun k hk => by cases hk) (by kernel_rfl) (laid_met os))) ?_
  intro W base args ds gs before hval hW _ _ _ hL _ _
  exact contract H enc W base args ds gs before hval hW hL

theorem said : Rows.BitsListsSaid :=
  OpenClaim.holds_of_cond 3 Tryd.f3 rfl rfl rfl rfl rfl rfl rfl ⟨rfl, rfl, rfl, rfl, rfl⟩ rfl rfl rfl rfl rfl (by kernel_rfl) Tryd.func3 (by kernel_rfl)
    (of_decide_eq_true (by kernel_rfl)) (by unfold Func.isWrapper; first | (rw [if_pos (by decide +kernel)]; kernel_rfl) | (rw [if_neg (by decide +kernel)]; exact ⟨rfl, rfl⟩))
    (fun os started H enc _ F => by rw [OpenClaim.pre_eq_preRow]; exact lifted os started H enc F)

theorem plain (f : FuncId) (fn : Func) (hf : Tryd.pinned.checked.prog.funcNamed Tryd.f3.name = some f) (hfn : Tryd.pinned.checked.prog.funcs[f]? = some fn) :
    false = Tryd.pinned.checked.prog.looks [] ∧ ∀ (j : Nat) t, fn.params[j]? = some t → Tryd.pinned.checked.prog.wantsStandIn t = false := by
  obtain rfl : f = 3 := Option.some.inj ((show Tryd.prog.funcNamed Tryd.f3.name = some 3 by kernel_rfl).symm.trans hf) |>.symm
  obtain rfl : fn = Tryd.f3 := (Option.some.inj (Tryd.func3.symm.trans hfn)).symm
  refine ⟨by kernel_rfl, fun j t ht => ?_⟩
  rw [Tryd.params3] at ht
  have : t = 22 ∨ t = 5 := by simpa using Array.mem_of_getElem? ht
  rcases this with rfl | rfl
  · exact (show Tryd.prog.wantsStandIn 22 = false by kernel_rfl)
  · exact (show Tryd.prog.wantsStandIn 5 = false by kernel_rfl)
end lists

/-- THE CARD. -/
theorem bitsLists_card : Rows.BitsListsCardSaid :=
  Claim7.holds_tied_plain_at .later [] _ _ _ _ lists.said (fun _ h => by cases h) (by kernel_rfl) (fun _ h => by cases h) bitsLists_row_tie rfl ⟨rfl, rfl⟩ (by kernel_rfl) rfl lists.plain (by kernel_rfl)
#print axioms bitsLists_card
end Go.Proofs.YtdfoclmkhhmdbabDoor
