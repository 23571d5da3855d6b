/-
  Own texts put together: TbAlive, MpSmall0, IdCmp, TbProg, TbIter, TbGet. Own work.
-/
import Derived.Test.YtlngejmojpkdkaaG09
import Derived.Test.YtlngejmojpkdkaaG14
import Derived.Test.YtlngejmojpkdkaaG10
import Derived.Test.YtlngejmojpkdkaaG06
import Derived.Test.YtlngejmojpkdkaaG12
import Derived.Deep.RegionHeld
import Derived.Lib.BytesEntry
import Derived.Deep.RegionHeldLaw
import Derived.Deep.QuietTactic
import Derived.BigQuiet
import Derived.Sort.Grow
import Derived.Shelf.Abstract
import Derived.RangeFuncNested
import Derived.RangeFuncLeaves
import Derived.RangeFuncBox
import Derived.Sort.MapsRangeIn
import Derived.Sort.KeysCollected
import Derived.OwnWalkIn
import Derived.TacticsInMore
import Derived.LoopNIn
import Derived.LoopIn
namespace Go.Proofs.Ytlngejmojpkdkaa
section
open Go.RowKit Classical

theorem infoIt13 : (Try.prog.info? 36).map (·.size) = some 13 := by kernel_rfl
theorem infoKey13 : (Try.prog.info? 31).map (·.size) = some 8 := by kernel_rfl
theorem itA_one13 (i : ItP) : (itA i).all (·.oneCell') = true := by simp [Value.oneCell']
theorem build_one (n : Nat) (s : ByteArray) (w : World) : (Instr.build 36 #[(0, .int .u32 (n : Int)), (1, .string s), (2, .agg #[.int .u32 1, .int .u8 1, .int .u8 1, .int .u8 1, .int .u8 0, .int .u8 0, .int .u8 0, .int .u8 0, .int .u8 0, .int .u8 0, .int .u8 0])]).run Try.prog w = .ok (.agg #[.int .u32 (n : Int), .string s, .int .u32 1, .int .u8 1, .int .u8 1, .int .u8 1, .int .u8 0, .int .u8 0, .int .u8 0, .int .u8 0, .int .u8 0, .int .u8 0, .int .u8 0]) w := by kernel_rfl
theorem oneA (n : Nat) (s : List Int) : itA (oneI n s) = #[.int .u32 (n : Int), .string (strOfNums s), .int .u32 1, .int .u8 1, .int .u8 1, .int .u8 1, .int .u8 0, .int .u8 0, .int .u8 0, .int .u8 0, .int .u8 0, .int .u8 0, .int .u8 0] := rfl
set_option maxRecDepth 100000 in
theorem one_any13 (n : Nat) (s : List Int) (w : World) : Calls Try.prog 23 #[.int .u32 (n : Int), .string (strOfNums s)] w fun e w' => e = .returned (.agg (itA (oneI n s))) ∧ Below w.heap.size w w' := by
  have hb := build_one n (strOfNums s)
  have HE := hide (oneA n s)
  have HZ := hide (box_new w (itA zeroIt) 36)
  have HZB := hide (alloc_below13 w (.cells (itA zeroIt) 36))
  generalize strOfNums s = ss at *
  go_enter Try.func23, Try.ntmps23
  go_wp2_with (refine wp_store_box rfl rfl _ _ rfl w.heap.size rfl (cs' := #[.int .u32 (n : Int), .string ss, .int .u32 1, .int .u8 1, .int .u8 1, .int .u8 1, .int .u8 0, .int .u8 0, .int .u8 0, .int .u8 0, .int .u8 0, .int .u8 0, .int .u8 0]) rfl HZ.out rfl infoIt13 (by simp [Value.oneCell']) ?_; intro w3 hb3 hk3; have HB3 := hide hb3; have HK3 := hide (HZB.out.trans (hk3.below HZB.out.size (fun k hk => by omega))); clear hb3 hk3)
  refine bodyPost_ret (v := .agg #[.int .u32 (n : Int), .string ss, .int .u32 1, .int .u8 1, .int .u8 1, .int .u8 1, .int .u8 0, .int .u8 0, .int .u8 0, .int .u8 0, .int .u8 0, .int .u8 0, .int .u8 0]) (results_box Try.results23 _ _ w.heap.size rfl HB3.out Try.underlying36 rfl infoIt13) rfl ⟨by rw [HE.out], HK3.out⟩
def k0 : List Int := [97, 0, 0, 0, 0, 0, 0, 0]
def t13 : List WrP := [⟨k0, oneI 2 [120]⟩]
theorem k0_ok : KeyOk k0 := ⟨rfl, by decide⟩
theorem one_ok (n : Nat) (s : List Int) (hn : n < 4294967296) (hs : ∀ c ∈ s, 0 ≤ c ∧ c < 256) : ItOk (oneI n s) := ⟨hn, hs, (show Cf.Ok ⟨1, 1, 1, [1, 0, 0, 0, 0, 0, 0, 0]⟩ from ⟨by decide, by decide, by decide, by decide, by decide⟩)⟩
theorem t13_facts : insA [] k0 (oneI 2 [120]) = 0 ∧ insD [] k0 (oneI 2 [120]) = t13 ∧ insA t13 k0 (oneI 1 [121]) = 13 ∧ insD t13 k0 (oneI 1 [121]) = t13 ∧ getT t13 k0 = some (oneI 2 [120]) := ⟨by decide, rfl, by decide, rfl, rfl⟩
theorem en13_one : ∀ args w, (callFunc 23 args).run Try.prog w = .ok (.enter 23 args) w := enters_of Try.func23 (by kernel_rfl) rfl
theorem en13_len : ∀ args w, (callFunc 16 args).run Try.prog w = .ok (.enter 16 args) w := enters_of Try.func16 (by kernel_rfl) rfl
section
variable {D : World → Nat → (Nat → Prop) → List WrP → Prop}
theorem box_key {W : World} {b : Nat} (h : Box W b #[.int .u8 97, .int .u8 0, .int .u8 0, .int .u8 0, .int .u8 0, .int .u8 0, .int .u8 0, .int .u8 0] 31) : W.cell? ⟨b, 0, none⟩ = some (.int .u8 97) ∧ W.cell? ⟨b, 1, none⟩ = some (.int .u8 0) ∧ W.cell? ⟨b, 2, none⟩ = some (.int .u8 0) ∧ W.cell? ⟨b, 3, none⟩ = some (.int .u8 0) ∧ W.cell? ⟨b, 4, none⟩ = some (.int .u8 0) ∧ W.cell? ⟨b, 5, none⟩ = some (.int .u8 0) ∧ W.cell? ⟨b, 6, none⟩ = some (.int .u8 0) ∧ W.cell? ⟨b, 7, none⟩ = some (.int .u8 0) :=
  ⟨h.cell 0 _ rfl, h.cell 1 _ rfl, h.cell 2 _ rfl, h.cell 3 _ rfl, h.cell 4 _ rfl, h.cell 5 _ rfl, h.cell 6 _ rfl, h.cell 7 _ rfl⟩
theorem below_drew13 (w : World) : Below w.heap.size w w.drew := (Below.refl _ _).drew
theorem build_k0 (w : World) : (Instr.build 31 #[(0, .int .u8 97)]).run Try.prog w = .ok (.agg #[.int .u8 97, .int .u8 0, .int .u8 0, .int .u8 0, .int .u8 0, .int .u8 0, .int .u8 0, .int .u8 0]) w := by kernel_rfl
set_option maxRecDepth 100000 in
set_option maxHeartbeats 1600000 in
theorem alive_by13 (H : TableDo D) (w : World) : Calls Try.prog 10 #[] w fun e w' => e = .returned (.bool true) ∧ Below w.heap.size w w' := by
  have HF := hide t13_facts
  have hbk := build_k0
  obtain ⟨I2, hI2⟩ : ∃ I2 : Value, I2 = .agg (itA (oneI 2 [120])) := ⟨_, rfl⟩
  obtain ⟨I1, hI1⟩ : ∃ I1 : Value, I1 = .agg (itA (oneI 1 [121])) := ⟨_, rfl⟩
  have C1 : Hid (∀ W, Calls Try.prog 23 #[.int .u32 2, .string ⟨#[120]⟩] W fun e w' => e = .returned I2 ∧ Below W.heap.size W w') := hide (fun W => by rw [hI2]; exact one_any13 2 [120] W)
  have C2 : Hid (∀ W, Calls Try.prog 23 #[.int .u32 1, .string ⟨#[121]⟩] W fun e w' => e = .returned I1 ∧ Below W.heap.size W w') := hide (fun W => by rw [hI1]; exact one_any13 1 [121] W)
  have HI2 := hide hI2
  have HI1v := hide hI1
  clear hI2 hI1
  go_enter Try.func10, Try.ntmps10
  go_wp2_with fail
  refine (H.new w).mono ?_
  rintro e w1 ⟨q, F1, rfl, hD1, hF1, hB1⟩
  have HD1 := hide hD1
  have HF1 := hide hF1
  have HB1 := hide hB1
  have HFL : Hid (∀ k, F1 k → k < w1.heap.size) := hide (fun k hk => H.lt hD1 k hk)
  have HZ := hide (box_new w1 #[.int .u8 0, .int .u8 0, .int .u8 0, .int .u8 0, .int .u8 0, .int .u8 0, .int .u8 0, .int .u8 0] 31)
  have HZB := hide (alloc_below13 w1 (.cells #[.int .u8 0, .int .u8 0, .int .u8 0, .int .u8 0, .int .u8 0, .int .u8 0, .int .u8 0, .int .u8 0] 31))
  clear hD1 hF1 hB1
  go_wp2_with (refine wp_store_box rfl rfl _ _ rfl w1.heap.size rfl (cs' := #[.int .u8 97, .int .u8 0, .int .u8 0, .int .u8 0, .int .u8 0, .int .u8 0, .int .u8 0, .int .u8 0]) rfl HZ.out rfl infoKey13 (by simp [Value.oneCell']) ?_; intro w2 hb2 hk2; have HX2 := hide hb2; have HK2 := hide (HZB.out.trans (hk2.below HZB.out.size (fun k hk => by omega))); clear hb2 hk2)
  obtain ⟨z0, z1, z2, z3, z4, z5, z6, z7⟩ := box_key HX2.out
  have HD2 := hide (H.below HD1.out HK2.out)
  have HB2 := hide (HB1.out.trans (HK2.out.mono HB1.out.size))
  have HNK : Hid (¬ F1 w1.heap.size) := hide (fun hf => Nat.lt_irrefl _ (HFL.out _ hf))
  have HI1 : Hid (∀ W F, D W q F [] → Calls Try.prog 12 #[.pointer (some ⟨q, 0, none⟩), .agg #[.int .u8 97, .int .u8 0, .int .u8 0, .int .u8 0, .int .u8 0, .int .u8 0, .int .u8 0, .int .u8 0], I2] W fun e w' => e = .returned (.int .i64 0) ∧ TDid D W w' q F t13) := hide (fun W F hD => by
    have h := H.ins k0 (oneI 2 [120]) hD k0_ok (one_ok 2 [120] (by decide) (by decide)) (by decide)
    rw [HF.out.1, HF.out.2.1] at h
    rw [HI2.out]
    exact h)
  have HI2' : Hid (∀ W F, D W q F t13 → Calls Try.prog 12 #[.pointer (some ⟨q, 0, none⟩), .agg #[.int .u8 97, .int .u8 0, .int .u8 0, .int .u8 0, .int .u8 0, .int .u8 0, .int .u8 0, .int .u8 0], I1] W fun e w' => e = .returned (.int .i64 13) ∧ TDid D W w' q F t13) := hide (fun W F hD => by
    have h := H.ins k0 (oneI 1 [121]) hD k0_ok (one_ok 1 [121] (by decide) (by decide)) (by decide)
    rw [HF.out.2.2.1, HF.out.2.2.2.1] at h
    rw [HI1v.out]
    exact h)
  have C1a := C1
  first | (go_region_held (fun w' => w'.cell? ⟨w1.heap.size, 0, none⟩ = some (.int .u8 97) ∧ w'.cell? ⟨w1.heap.size, 1, none⟩ = some (.int .u8 0) ∧ w'.cell? ⟨w1.heap.size, 2, none⟩ = some (.int .u8 0) ∧ w'.cell? ⟨w1.heap.size, 3, none⟩ = some (.int .u8 0) ∧ w'.cell? ⟨w1.heap.size, 4, none⟩ = some (.int .u8 0) ∧ w'.cell? ⟨w1.heap.size, 5, none⟩ = some (.int .u8 0) ∧ w'.cell? ⟨w1.heap.size, 6, none⟩ = some (.int .u8 0) ∧ w'.cell? ⟨w1.heap.size, 7, none⟩ = some (.int .u8 0)) (go_keep) (first
    | (go_at_call 23; refine (C1a.out _).mono ?_; rintro e w3 ⟨rfl, hB3⟩; have hB23 : Below w2.heap.size w2 w3 := (below_drew13 w2).trans hB3; have HX3 := hide (HX2.out.belowI hB23); have HD3 := hide (H.below HD2.out hB23); have HB3 := hide (HB2.out.trans (hB23.mono HB2.out.size)); obtain ⟨y0, y1, y2, y3, y4, y5, y6, y7⟩ := box_key HX3.out; clear hB3 hB23 C1a HX2 HD2 z0 z1 z2 z3 z4 z5 z6 z7)
    | (go_at_call 12; refine (HI1.out _ _ HD3.out).mono ?_; rintro e w4 ⟨rfl, F4, hD4, hk4, hF4⟩; have HX4 := hide (HX3.out.keep hk4 HNK.out); have HD4 := hide hD4; have HB4 := hide (HB3.out.trans (hk4.below HB3.out.size HF1.out)); have HF4 : Hid (∀ k, F4 k → w.heap.size ≤ k) := hide (fun k hk => (hF4 k hk).elim (HF1.out k) (fun h => Nat.le_trans HB3.out.size h)); have HN4 : Hid (¬ F4 w1.heap.size) := hide (fun hf => (hF4 _ hf).elim HNK.out (fun h => by have := HX3.out.lt; omega)); obtain ⟨x0, x1, x2, x3, x4, x5, x6, x7⟩ := box_key HX4.out; clear hD4 hk4 hF4 HD3 HX3 HI1 y0 y1 y2 y3 y4 y5 y6 y7)
    | (go_at_call 23; refine (C2.out _).mono ?_; rintro e w5 ⟨rfl, hB5⟩; have HX5 := hide (HX4.out.belowI hB5); have HD5 := hide (H.below HD4.out hB5); have HB5 := hide (HB4.out.trans (hB5.mono HB4.out.size)); obtain ⟨u0, u1, u2, u3, u4, u5, u6, u7⟩ := box_key HX5.out; clear hB5 HX4 HD4 C2 x0 x1 x2 x3 x4 x5 x6 x7)
    | (go_at_call 12; refine (HI2'.out _ _ HD5.out).mono ?_; rintro e w6 ⟨rfl, F6, hD6, hk6, hF6⟩; have HX6 := hide (HX5.out.keep hk6 HN4.out); have HD6 := hide hD6; have HB6 := hide (HB5.out.trans (hk6.below HB5.out.size HF4.out)); obtain ⟨t0, t1, t2, t3, t4, t5, t6, t7⟩ := box_key HX6.out; clear hD6 hk6 hF6 HX5 HD5 u0 u1 u2 u3 u4 u5 u6 u7))) | fail
  have HG : Hid (Calls Try.prog 17 #[.pointer (some ⟨q, 0, none⟩), .agg #[.int .u8 97, .int .u8 0, .int .u8 0, .int .u8 0, .int .u8 0, .int .u8 0, .int .u8 0, .int .u8 0]] w6 fun e w' => e = .returned (.tuple #[I2, .bool true]) ∧ Below w6.heap.size w6 w') := hide (by
    have h := H.get k0 HD6.out k0_ok
    rw [HF.out.2.2.2.2] at h
    rw [HI2.out]
    exact h)
  have C1b : Hid (∀ W, Calls Try.prog 23 #[.int .u32 2, .string ⟨#[120]⟩] W fun e w' => e = .returned (.agg (itA (oneI 2 [120]))) ∧ Below W.heap.size W w') := hide (fun W => by have h := C1.out W; rw [HI2.out] at h; exact h)
  rw [HI2.out] at HG
  have CLn : Hid (∀ W, D W q F6 t13 → Calls Try.prog 16 #[.pointer (some ⟨q, 0, none⟩)] W fun e w' => e = .returned (.int .i64 1) ∧ Below W.heap.size W w') := hide (fun W hD => H.len hD)
  have HEQ : Hid (∀ W, (binOp .eql 36 (.agg (itA (oneI 2 [120]))) (.agg (itA (oneI 2 [120])))).run Try.prog W = .ok (.bool true) W) := hide (fun W => by
    have h := eql_it10 (one_ok 2 [120] (by decide) (by decide)) (one_ok 2 [120] (by decide) (by decide)) W
    rw [decide_eq_true rfl] at h
    exact h)
  have HQ1 : Hid (∀ W, (binOp .eql 3 (.int .i64 1) (.int .i64 1)).run Try.prog W = .ok (.bool true) W) := hide (fun W => by kernel_rfl)
  clear C1 HI1v HI2' HF HI2
  go_wp2_with fail
  refine HG.out.mono ?_
  rintro e w7 ⟨rfl, hB7⟩
  have HD7 := hide (H.below HD6.out hB7)
  have HB7 := hide (HB6.out.trans (hB7.mono HB6.out.size))
  have HZ7 := hide (box_new w7 (itA zeroIt) 36)
  have HZB7 := hide (alloc_below13 w7 (.cells (itA zeroIt) 36))
  obtain ⟨b9, hb9⟩ : ∃ b9, b9 = w7.heap.size := ⟨_, rfl⟩
  clear hB7 HG
  go_wp2_with (refine wp_store_box rfl rfl _ _ rfl w7.heap.size rfl (cs' := itA (oneI 2 [120])) rfl HZ7.out rfl infoIt13 (itA_one13 _) ?_; intro w8 hb8 hk8; have HX9 := hide hb8; have hB78 := HZB7.out.trans (hk8.below HZB7.out.size (fun k hk => by omega)); have HD9 := hide (H.below HD7.out hB78); have HB8 := hide (HB7.out.trans (hB78.mono HB7.out.size)); clear hb8 hk8 hB78)
  rw [← hb9] at HX9 ⊢
  refine wp_region_vals (by kernel_rfl) [(29, .bool true), (30, .bool true), (31, .agg (itA (oneI 2 [120]))), (32, (.agg (itA (oneI 2 [120])))), (33, .bool true), (34, .bool true), (35, .bool true), (36, .pointer (some ⟨q, 0, none⟩)), (37, .int .i64 1), (38, .bool true), (39, .bool true), (0, .bool true)] (by kernel_rfl) rfl ?_ ?_
  · intro i o hi A w1 hB hold hdeps
    have hlt : i < 12 := (Array.getElem?_eq_some_iff.1 hi).1
    have hc : i = 0 ∨ i = 1 ∨ i = 2 ∨ i = 3 ∨ i = 4 ∨ i = 5 ∨ i = 6 ∨ i = 7 ∨ i = 8 ∨ i = 9 ∨ i = 10 ∨ i = 11 := by omega
    clear hlt
    rcases hc with rfl | rfl | rfl | rfl | rfl | rfl | rfl | rfl | rfl | rfl | rfl | rfl
    · obtain rfl := Option.some.inj hi
      have s4 : A.tmps.getD 4 undef = .bool true := hold 4 (by kernel_rfl)
      exact r_pure hi rfl rfl (y_move _ s4)
    · obtain rfl := Option.some.inj hi
      have s29 : A.tmps.getD 29 undef = .bool true := dep_of hdeps 0 (by kernel_rfl)
      exact r_pure hi rfl rfl (y_move _ s29)
    · obtain rfl := Option.some.inj hi
      have g2 : A.tmps.getD 30 undef = .bool true := dep_of hdeps 1 (by kernel_rfl)
      have s3 : A.tmps.getD 3 undef = .pointer (some ⟨b9, 0, none⟩) := hold 3 (by kernel_rfl)
      exact r_pure hi (wanted_of rfl rfl g2) rfl (y_load _ _ s3 (HX9.out.belowI hB) Try.underlying36 rfl infoIt13)
    · obtain rfl := Option.some.inj hi
      have g3 : A.tmps.getD 30 undef = .bool true := dep_of hdeps 1 (by kernel_rfl)
      exact r_enter hi (wanted_of rfl rfl g3) rfl (y_call 23 _ #[.int .u32 2, .string ⟨#[120]⟩] _ rfl (by simp only [List.map_toArray, List.map_cons, List.map_nil]; try rfl) en13_one) (C1b.out w1)
    · obtain rfl := Option.some.inj hi
      have g4 : A.tmps.getD 30 undef = .bool true := dep_of hdeps 1 (by kernel_rfl)
      have s31 : A.tmps.getD 31 undef = .agg (itA (oneI 2 [120])) := dep_of hdeps 2 (by kernel_rfl)
      have s32 : A.tmps.getD 32 undef = (.agg (itA (oneI 2 [120]))) := dep_of hdeps 3 (by kernel_rfl)
      exact r_pure hi (wanted_of rfl rfl g4) rfl (y_bin _ _ _ _ _ s31 s32 (HEQ.out w1) (by kernel_rfl))
    · obtain rfl := Option.some.inj hi
      have s30 : A.tmps.getD 30 undef = .bool true := dep_of hdeps 1 (by kernel_rfl)
      have s33 : A.tmps.getD 33 undef = .bool true := dep_of hdeps 4 (by kernel_rfl)
      exact r_pure hi rfl rfl (y_pickT _ _ _ s30 s33)
    · obtain rfl := Option.some.inj hi
      have s34 : A.tmps.getD 34 undef = .bool true := dep_of hdeps 5 (by kernel_rfl)
      exact r_pure hi rfl rfl (y_move _ s34)
    · obtain rfl := Option.some.inj hi
      have g7 : A.tmps.getD 35 undef = .bool true := dep_of hdeps 6 (by kernel_rfl)
      have s1 : A.tmps.getD 1 undef = .pointer (some ⟨q, 0, none⟩) := hold 1 (by kernel_rfl)
      exact r_pure hi (wanted_of rfl rfl g7) rfl (y_move _ s1)
    · obtain rfl := Option.some.inj hi
      have g8 : A.tmps.getD 35 undef = .bool true := dep_of hdeps 6 (by kernel_rfl)
      have s36 : A.tmps.getD 36 undef = .pointer (some ⟨q, 0, none⟩) := dep_of hdeps 7 (by kernel_rfl)
      exact r_enter hi (wanted_of rfl rfl g8) rfl (y_call 16 _ #[.pointer (some ⟨q, 0, none⟩)] _ rfl (by simp only [List.map_toArray, List.map_cons, List.map_nil, show A.eval (.tmp 36) = .pointer (some ⟨q, 0, none⟩) from s36]; try rfl) en13_len) (CLn.out w1 (H.below HD9.out hB))
    · obtain rfl := Option.some.inj hi
      have g9 : A.tmps.getD 35 undef = .bool true := dep_of hdeps 6 (by kernel_rfl)
      have s37 : A.tmps.getD 37 undef = .int .i64 1 := dep_of hdeps 8 (by kernel_rfl)
      exact r_pure hi (wanted_of rfl rfl g9) rfl (y_bin _ _ _ _ _ s37 rfl (HQ1.out w1) (by kernel_rfl))
    · obtain rfl := Option.some.inj hi
      have s35 : A.tmps.getD 35 undef = .bool true := dep_of hdeps 6 (by kernel_rfl)
      have s38 : A.tmps.getD 38 undef = .bool true := dep_of hdeps 9 (by kernel_rfl)
      exact r_pure hi rfl rfl (y_pickT _ _ _ s35 s38)
    · obtain rfl := Option.some.inj hi
      have s39 : A.tmps.getD 39 undef = .bool true := dep_of hdeps 10 (by kernel_rfl)
      exact r_pure hi rfl rfl (y_assign _ s39)
  · intro w9 hB9
    simp only [putAll, Act.put, List.setIfInBounds_toArray, List.set_cons_succ, List.set_cons_zero]
    have HB9 := hide (HB8.out.trans (hB9.mono HB8.out.size))
    clear hB9
    go_wp2_with fail
    go_ret
    exact ⟨rfl, HB9.out⟩
end
end
section
open Go.RowKit Classical

theorem countMay_any (n : Nat) (w : World) : Calls Try.prog 38 #[.int .u32 (n : Int)] w fun e w' => e = .returned (.bool (decide (n ≤ mxN))) ∧ Below w.heap.size w w' := by
  have hd : decide ((n : Int) ≤ 2147483647) = decide (n ≤ mxN) := by
    rw [Bool.eq_iff_iff, decide_eq_true_eq, decide_eq_true_eq]
    show (n : Int) ≤ 2147483647 ↔ n ≤ 2147483647
    omega
  go_enter Try.func38, Try.ntmps38
  go_wp2
  go_ret
  exact ⟨rfl, Below.refl _ _⟩
set_option maxRecDepth 100000 in
set_option maxHeartbeats 1600000 in
theorem itemMay_any (i : ItP) (hi : ItOk i) (w : World) : Calls Try.prog 26 #[.agg (itA i)] w fun e w' => e = .returned (.bool (itMayB i)) ∧ Below w.heap.size w w' := by
  have hA := alloc_below10 w (.cells (itA i) 36)
  have hX := box_new w (itA i) 36
  obtain ⟨w1, hw1⟩ : ∃ w1, w1 = w.alloc (.cells (itA i) 36) := ⟨_, rfl⟩
  rw [← hw1] at hA hX
  have C0 := hide (fun W => countMay_any i.ver W)
  have HCM := hide (fun W => may_any i.cf hi.c W)
  have HCA := hide (cf_arr hi.c)
  have HA := hide hA
  have hW := hw1.symm
  have HX := hide hX
  have x0 := hX.cell 0 _ rfl
  have hS := strOf_size10 i.val
  obtain ⟨R, hR⟩ : ∃ R, R = itMayB i := ⟨_, rfl⟩
  rw [← hR]
  by_cases h1 : i.ver ≤ mxN
  · have d1 : decide (i.ver ≤ mxN) = true := decide_eq_true h1
    rw [d1] at C0
    by_cases h2 : i.val.length ≤ 64
    · have d2 : decide ((i.val.length : Int) ≤ 64) = true := decide_eq_true (by omega)
      have HR : Hid (R = mayB i.cf) := hide (by rw [hR]; unfold itMayB; rw [decide_eq_true h1, decide_eq_true h2]; rfl)
      clear hA hX hw1 hR h1 h2 d1
      generalize mayB i.cf = q at *
      go_enter Try.func26, Try.ntmps26
      go_wp2_with fail
      refine (C0.out w1).mono ?_
      rintro e w2 ⟨rfl, hB2⟩
      have hX2 := HX.out.belowI hB2
      have HA2 := hide (HA.out.trans (hB2.mono HA.out.size))
      have y1 := hX2.cell 1 _ rfl
      have HX2 := hide hX2
      clear hB2 hX2 HX HA hW x0
      have HC := HCM.out w2
      rw [HCA.out] at HC
      have HC := hide HC
      have y2 := HX2.out.cell 2 _ rfl
      have y3 := HX2.out.cell 3 _ rfl
      have y4 := HX2.out.cell 4 _ rfl
      have y5 := HX2.out.cell 5 _ rfl
      have y6 := HX2.out.cell 6 _ rfl
      have y7 := HX2.out.cell 7 _ rfl
      have y8 := HX2.out.cell 8 _ rfl
      have y9 := HX2.out.cell 9 _ rfl
      have y10 := HX2.out.cell 10 _ rfl
      have y11 := HX2.out.cell 11 _ rfl
      have y12 := HX2.out.cell 12 _ rfl
      go_wp2_with (first | (go_at_call 39; refine HC.out.mono ?_; rintro e w3 ⟨rfl, hB3⟩; have HB3 := hide hB3; clear hB3))
      go_ret
      exact ⟨by rw [HR.out]; rfl, HA2.out.trans (HB3.out.mono HA2.out.size)⟩
    · have d2 : decide ((i.val.length : Int) ≤ 64) = false := decide_eq_false (by omega)
      have HR : Hid (R = false) := hide (by rw [hR]; unfold itMayB; rw [decide_eq_false h2, Bool.and_false]; rfl)
      clear hA hX hw1 hR h1 h2 d1
      go_enter Try.func26, Try.ntmps26
      go_wp2_with fail
      refine (C0.out w1).mono ?_
      rintro e w2 ⟨rfl, hB2⟩
      have hX2 := HX.out.belowI hB2
      have HA2 := hide (HA.out.trans (hB2.mono HA.out.size))
      have y1 := hX2.cell 1 _ rfl
      clear hB2 hX2 HX HA hW x0
      go_wp2_with fail
      go_ret
      exact ⟨by rw [HR.out]; rfl, HA2.out⟩
  · have d1 : decide (i.ver ≤ mxN) = false := decide_eq_false h1
    rw [d1] at C0
    have HR : Hid (R = false) := hide (by rw [hR]; unfold itMayB; rw [decide_eq_false h1]; rfl)
    clear hA hX hw1 hR h1 d1
    go_enter Try.func26, Try.ntmps26
    go_wp2_with fail
    refine (C0.out w1).mono ?_
    rintro e w2 ⟨rfl, hB2⟩
    have HA2 := hide (HA.out.trans (hB2.mono HA.out.size))
    clear hB2 HX HA hW x0
    go_wp2_with fail
    go_ret
    exact ⟨by rw [HR.out]; rfl, HA2.out⟩
end
section
open Go.RowKit

/-- New blocks and draws, nothing else. -/
def Grown (w w' : World) : Prop := ∃ q os, w' = Sort.grow (w.drewN q) os
theorem Grown.refl (w : World) : Grown w w := ⟨0, #[], by rw [Sort.grow_empty]; rfl⟩
theorem Grown.alloc {w w' : World} (h : Grown w w') (o : Obj) : Grown w (w'.alloc o) := by
  obtain ⟨q, os, rfl⟩ := h
  exact ⟨q, os ++ #[o], by rw [Sort.alloc_eq_grow, Sort.grow_grow]⟩
theorem Grown.drew {w w' : World} (h : Grown w w') : Grown w w'.drew := by
  obtain ⟨q, os, rfl⟩ := h
  exact ⟨q + 1, os, rfl⟩
theorem Grown.trans {a b c : World} (h : Grown a b) (h' : Grown b c) : Grown a c := by
  obtain ⟨q, os, rfl⟩ := h
  obtain ⟨q', os', rfl⟩ := h'
  refine ⟨q + q', os ++ os', ?_⟩
  simp only [Sort.grow, World.drewN, Array.append_assoc, Nat.add_assoc]
theorem Grown.below {w w' : World} (h : Grown w w') : Below w.heap.size w w' := by
  obtain ⟨q, os, rfl⟩ := h
  refine ⟨rfl, rfl, rfl, by simp [Sort.grow, World.drewN], fun k hk => ?_⟩
  simp only [Sort.grow, World.drewN]
  rw [Array.getElem?_append_left hk]

theorem nan32_any (x : Int) (w : World) : Calls Try.prog 57 #[.int .u32 x] w fun e w' => e = .returned (.bool false) ∧ w' = w := by
  go_enter Try.func57, Try.ntmps57
  go_wp2
  go_ret
  exact ⟨rfl, rfl⟩
theorem cmp32_any (x y : Int) (w : World) : Calls Try.prog 47 #[.int .u32 x, .int .u32 y] w fun e w' => e = .returned (.int .i64 (cmpF x y)) ∧ w' = w := by
  rcases cmpF_rng x y with ⟨h, h2⟩ | ⟨h, h2⟩ | ⟨h, h2⟩
  · rw [h]
    go_enter Try.func47, Try.ntmps47
    go_wp2_with (go_at_call 57; refine (nan32_any _ _).mono ?_; rintro e w' ⟨rfl, rfl⟩)
    go_ret
    exact ⟨rfl, rfl⟩
  · rw [h]
    clear h
    subst h2
    go_enter Try.func47, Try.ntmps47
    go_wp2_with (go_at_call 57; refine (nan32_any _ _).mono ?_; rintro e w' ⟨rfl, rfl⟩)
    go_ret
    exact ⟨rfl, rfl⟩
  · rw [h]
    have h3 : ¬ x < y := by omega
    clear h
    go_enter Try.func47, Try.ntmps47
    go_wp2_with (go_at_call 57; refine (nan32_any _ _).mono ?_; rintro e w' ⟨rfl, rfl⟩)
    go_ret
    exact ⟨rfl, rfl⟩
end
section
open Go.RowKit Go.Maps Classical

/-- At q lies a table that New gave: its map is block b. -/
structure PTb (w : World) (q b : Nat) (t : List WrP) : Prop where
  box : Box w q #[.map (some b)] 57
  map : MapI w b t
/-- The program's table. -/
def PT (w : World) (q : Nat) (F : Nat → Prop) (t : List WrP) : Prop := ∃ b, PTb w q b t ∧ ∀ k, F k ↔ (k = q ∨ k = b)
theorem PTb.ne {w : World} {q b : Nat} {t : List WrP} (h : PTb w q b t) : q ≠ b := by
  intro e
  obtain ⟨es, c, hm⟩ := h.map.isMap
  have h2 : w.heap[q]? = _ := h.box
  rw [e, hm] at h2
  cases h2
theorem PTb.keep {S : Nat → Prop} {w w' : World} {q b : Nat} {t : List WrP} (h : PTb w q b t) (hk : KeepBut S w w') (hq : ¬ S q) (hb : ¬ S b) : PTb w' q b t := ⟨h.box.keep hk hq, h.map.keep hk hb⟩
theorem PTb.below {w w' : World} {q b : Nat} {t : List WrP} (h : PTb w q b t) (hB : Below w.heap.size w w') : PTb w' q b t := h.keep (KeepBut.of_below (fun _ => False) hB) (fun h => h) (fun h => h)
theorem pt_keep {w w' : World} {q : Nat} {F S : Nat → Prop} {t : List WrP} (h : PT w q F t) (hk : KeepBut S w w') (hS : ∀ k, F k → ¬ S k) : PT w' q F t := by
  obtain ⟨b, h1, h2⟩ := h
  exact ⟨b, h1.keep hk (hS _ ((h2 q).2 (.inl rfl))) (hS _ ((h2 b).2 (.inr rfl))), h2⟩
theorem pt_lt {w : World} {q : Nat} {F : Nat → Prop} {t : List WrP} (h : PT w q F t) : ∀ k, F k → k < w.heap.size := by
  obtain ⟨b, h1, h2⟩ := h
  intro k hk
  rcases (h2 k).1 hk with rfl | rfl
  · exact h1.box.lt
  · exact h1.map.lt
theorem pt_ok {w : World} {q : Nat} {F : Nat → Prop} {t : List WrP} (h : PT w q F t) : TbOk t ∧ ∀ x ∈ t, KeyOk x.key ∧ ItOk x.it := by
  obtain ⟨b, h1, _⟩ := h
  exact ⟨h1.map.ok, h1.map.oks⟩
theorem ptNew_any (w : World) : Calls Try.prog 8 #[] w fun e w' => ∃ q F, e = .returned (.pointer (some ⟨q, 0, none⟩)) ∧ PT w' q F [] ∧ (∀ k, F k → w.heap.size ≤ k) ∧ Below w.heap.size w w' := by
  have hmm := @run_makeMap Try.prog
  go_enter Try.func8, Try.ntmps8
  go_wp2
  go_ret
  refine ⟨w.heap.size + 1, fun k => k = w.heap.size + 1 ∨ k = w.heap.size, by simp, ⟨w.heap.size, ⟨?_, ?_⟩, fun k => Iff.rfl⟩, fun k hk => by omega, ((Below.refl _ _).alloc (Nat.le_refl _) _).alloc (by simp) _⟩
  · have := box_new (w.alloc (.map #[] 0)) #[.map (some w.heap.size)] 57
    simpa using this
  · exact (mapI_made w).below (by have := alloc_below13 (w.alloc (.map #[] 0)) (.cells #[.map (some w.heap.size)] 57); simpa using this)
theorem made_any (q b : Nat) (w : World) (h : Box w q #[.map (some b)] 57) : Calls Try.prog 24 #[.pointer (some ⟨q, 0, none⟩)] w fun e w' => e = .returned (.bool true) ∧ w' = w := by
  have h0 := h.cell 0 _ rfl
  have hm := neqSomeMapI b
  go_enter Try.func24, Try.ntmps24
  go_wp2
  go_ret
  exact ⟨rfl, rfl⟩
theorem made_nil (w : World) : Calls Try.prog 24 #[.pointer none] w fun e w' => e = .returned (.bool false) ∧ w' = w := by
  go_enter Try.func24, Try.ntmps24
  go_wp2
  go_ret
  exact ⟨rfl, rfl⟩
theorem made_none (q : Nat) (w : World) (h : Box w q #[.map none] 57) : Calls Try.prog 24 #[.pointer (some ⟨q, 0, none⟩)] w fun e w' => e = .returned (.bool false) ∧ w' = w := by
  have h0 := h.cell 0 _ rfl
  have hm := neqNoneMapI
  go_enter Try.func24, Try.ntmps24
  go_wp2
  go_ret
  exact ⟨rfl, rfl⟩
theorem byVersion_any (a b : ItP) (w : World) : Calls Try.prog 35 #[.agg (itA a), .agg (itA b)] w fun e w' => e = .returned (.int .i64 (cmpF (a.ver : Int) (b.ver : Int))) ∧ Below w.heap.size w w' := by
  have C := hide (fun W => cmp32_any (a.ver : Int) (b.ver : Int) W)
  have hA := alloc_below13 w (.cells (itA a) 36)
  have hB := alloc_below13 (w.alloc (.cells (itA a) 36)) (.cells (itA b) 36)
  have HB := hide (hA.trans (hB.mono hA.size))
  have x0 := ((box_new w (itA a) 36).belowI hB).cell 0 _ rfl
  have y0 : ((w.alloc (.cells (itA a) 36)).alloc (.cells (itA b) 36)).cell? ⟨w.heap.size + 1, 0, none⟩ = some (.int .u32 (b.ver : Int)) := by simp
  clear hA hB
  generalize cmpF (a.ver : Int) (b.ver : Int) = r at *
  go_enter Try.func35, Try.ntmps35
  go_wp2_with (go_at_call 47; refine (C.out _).mono ?_; rintro e w' ⟨rfl, rfl⟩)
  go_ret
  exact ⟨rfl, HB.out⟩
set_option maxRecDepth 100000 in
theorem ptLen_any (q b : Nat) (t : List WrP) (w : World) (h : PTb w q b t) : Calls Try.prog 16 #[.pointer (some ⟨q, 0, none⟩)] w fun e w' => e = .returned (.int .i64 (t.length : Int)) ∧ w' = w := by
  have C := hide (made_any q b w h.box)
  have h0 := h.box.cell 0 _ rfl
  have hl := h.map.len
  generalize t.length = n at *
  go_enter Try.func16, Try.ntmps16
  go_wp2_with (go_at_call 24; refine C.out.mono ?_; rintro e w' ⟨rfl, rfl⟩)
  go_ret
  exact ⟨rfl, rfl⟩
end
section
open Go.RowKit Go.Maps Go.Shelf Classical
attribute [local go_sem] Oper.semAt_some

section StoreIn
variable {P : Program} {F : Fence} {n : Nat} {ops : Array Oper} {rest : List Oper} {op : Oper} {a : Act} {w : World} {Q : Exit → Act → World → Prop}
/-- A whole variable is stored, inside a fence. -/
theorem wpIn_store_boxK {t t0 : TypeId} (hgd : op.guard = none) (hdst : op.dst = none) (x y : Operand) (ho : op.op = .store t x y)
    (p : Nat) (hx : a.eval x = .pointer (some ⟨p, 0, none⟩)) {cs cs' : Array Value} (hy : a.eval y = .agg cs') (hb : Box w p cs t0) (hsz : cs.size = cs'.size) (hi : (P.info? t).map (·.size) = some cs'.size) (h1 : cs'.all (·.oneCell') = true)
    (h : ∀ w', Box w' p cs' t0 → KeepBut (fun k => k = p) w w' → wpListIn F n P ops Q rest a w') : wpListIn F n P ops Q (op :: rest) a w := by
  refine wpListIn_plain hgd fun K hK => ?_
  have hr := run_storeVar_row (P := P) w p t0 t cs cs' hb hi hsz h1
  unfold Oper.wpIn
  refine ⟨by simp [Oper.about, ho], ?_⟩
  rw [Oper.semAt_plain F _ _ (by rw [ho]; intro c hc'; cases hc')]
  unfold execOp
  simp only [ho, hx, hy, Instr.storeAt, Instr.sureAddr, Sem.run_bind, Sem.run_pure, Result.andThen_ok, hr]
  show K (a.put op.dst undef) _
  rw [hdst]
  refine hK _ _ (h _ ?_ ?_)
  · exact setRow_heap w p cs cs' t0 (0, 0) hb
  · exact ⟨rfl, rfl, rfl, by simp [World.setRow], fun k _ hS => setRow_other w p k cs' hS⟩
end StoreIn
theorem infoKy8 : (Try.prog.info? 31).map (·.size) = some 8 := by kernel_rfl
/-- A new block, then written: nothing that lay has turned. -/
theorem grown_newK {w w' : World} (o : Obj) (hk : KeepBut (fun k => k = w.heap.size) (w.alloc o) w') : w.grownBy w' none :=
  ⟨hk.os, hk.tape, hk.output, by have := hk.size; simp at this; omega, fun k hlt _ => (hk.block k (by simp; omega) (by omega)).trans (Below.heap_alloc _ _ k hlt)⟩

theorem owns_blockK {R : Value → Option (DataW ItP × List MemPlace)} {w w' : World} {b n : Nat} {D : DataW ItP} (h : w.ownsMap Try.prog 31 R b n D) (hb : w'.heap[b]? = w.heap[b]?) : w'.ownsMap Try.prog 31 R b n D := by
  obtain ⟨es, clock, h1, h2⟩ := h
  exact ⟨es, clock, hb.trans h1, h2⟩
theorem box_eight {W : World} {q : Nat} {k : List Int} {t : TypeId} (h : Box W q (eightA k) t) : W.cell? ⟨q, 0, none⟩ = some (.int .u8 (at8 k 0)) ∧ W.cell? ⟨q, 1, none⟩ = some (.int .u8 (at8 k 1)) ∧ W.cell? ⟨q, 2, none⟩ = some (.int .u8 (at8 k 2)) ∧ W.cell? ⟨q, 3, none⟩ = some (.int .u8 (at8 k 3)) ∧ W.cell? ⟨q, 4, none⟩ = some (.int .u8 (at8 k 4)) ∧ W.cell? ⟨q, 5, none⟩ = some (.int .u8 (at8 k 5)) ∧ W.cell? ⟨q, 6, none⟩ = some (.int .u8 (at8 k 6)) ∧ W.cell? ⟨q, 7, none⟩ = some (.int .u8 (at8 k 7)) :=
  ⟨h.cell 0 _ rfl, h.cell 1 _ rfl, h.cell 2 _ rfl, h.cell 3 _ rfl, h.cell 4 _ rfl, h.cell 5 _ rfl, h.cell 6 _ rfl, h.cell 7 _ rfl⟩
/-- What was met so far of a map's keys. -/
def MetK (D0 : DataW ItP) (left : Lit → Bool) (ss : List KeyT) : Prop := ss.Nodup ∧ ∀ t : KeyT, (t ∈ ss ↔ (has D0 (kyKey t.1) = true ∧ left (kyKey t.1) = false))
theorem MetK.start (D0 : DataW ItP) : MetK D0 (has D0) [] := ⟨List.nodup_nil, fun t => by cases has D0 (kyKey t.1) <;> simp⟩
theorem MetK.step {D0 : DataW ItP} {left : Lit → Bool} {ss : List KeyT} (h : MetK D0 left ss) {t : KeyT} {y : DataW ItP} (hlk : left (kyKey t.1) = true) (hat : ∀ zd, D0.atKey (kyKey t.1) zd = y) : MetK D0 (fun z => left z && !z.sameKey (kyKey t.1)) (ss ++ [t]) := by
  have hhas : has D0 (kyKey t.1) = true := has_true_of_atKey hat
  have hnew : t ∉ ss := fun hx => by have := ((h.2 t).1 hx).2; rw [hlk] at this; cases this
  refine ⟨List.nodup_append.2 ⟨h.1, by simp, fun a ha b hb => by simp at hb; subst hb; exact fun e => hnew (e ▸ ha)⟩, fun u => ?_⟩
  by_cases hy : u = t
  · subst hy
    have hss : (kyKey u.1).sameKey (kyKey u.1) = true := by unfold kyKey; simp [Lit.sameKey]
    simp [hhas, hss]
  · have hne : kyKey u.1 ≠ kyKey t.1 := fun e => hy (Subtype.ext (kyKey_inj u.2 t.2 e))
    have hsk : (kyKey u.1).sameKey (kyKey t.1) = false := by
      unfold kyKey at hne ⊢
      simp [Lit.sameKey]
      intro e
      exact hne (by rw [e])
    simp [h.2 u, hy, hsk]
/-- The keys of a map. -/
def KeysOf (D : DataW ItP) (ss : List KeyT) : Prop := ss.Nodup ∧ ∀ t : KeyT, (t ∈ ss ↔ has D (kyKey t.1) = true)
theorem MetK.done {D0 : DataW ItP} {left : Lit → Bool} {ss : List KeyT} (h : MetK D0 left ss) (hl : ∀ kl, left kl = false) : KeysOf D0 ss := ⟨h.1, fun t => by rw [h.2 t, hl]; simp⟩

set_option maxRecDepth 100000 in
set_option maxHeartbeats 2000000 in
theorem kkeys1_in {R : Value → Option (DataW ItP × List MemPlace)} (n : Nat) (hn : 1 ≤ n) (l Bm b nn : Nat) (D0 : DataW ItP) (J Jx : List KeyT → World → Prop)
    (hY : ∀ pre x W, J pre W → pre.length < Maps.size D0 → YieldAt Fence.wide (n - 1) Try.prog l #[kyV x.1] W fun e W' => (e = .returned (.bool true) ∧ J (pre ++ [x]) W' ∧ KeepsWalks W W') ∨ (e = .returned (.bool false) ∧ Jx (pre ++ [x]) W'))
    (W : World) (hJ : AbidesFrom W.heap.size J) (hm : W.cell? ⟨Bm, 0, none⟩ = some (.map (some b))) (hown : W.ownsMap Try.prog 31 R b nn D0) (h0 : J [] W) :
    CallsIn Fence.wide n Try.prog 45 #[.func (.yield l) #[] #[], .pointer (some ⟨Bm, 0, none⟩)] W fun e W' => (∃ v, e = .returned v) ∧ ((∃ ss : List KeyT, (KeysOf D0 ss ∧ ss.length ≤ Maps.size D0) ∧ J ss W') ∨ (∃ pre : List KeyT, True ∧ Jx pre W')) := by
  have hF : Fence.wide.fn 45 := trivial
  have HI := hide infoKy8
  refine callsIn_of_wp Try.func45 rfl hF ?_ rfl
  simp only [Try.ntmps45, List.size_toArray, List.length_cons, List.length_nil, Nat.reduceAdd, Nat.reduceSub, Array.replicate_succ, Array.replicate_zero, List.push_toArray, List.append_toArray, List.nil_append, List.cons_append]
  gi_wp2_with (gi_at_range; refine wpListIn_range_own _ rfl _ 55 rfl 31 36 kyKeyed Try.underlying55 _ b nn _ rfl hown ?_; intro w0 hrg0 hg0 hs0)
  go_frame
  gi_loopw [3] (fun _ wr => ∃ (left : Lit → Bool) (cnt : Nat) (ss : List KeyT), wr.ranges Try.prog 31 R b W.heap.size nn D0 left cnt ∧ ss.length + cnt ≤ Maps.size D0 ∧ MetK D0 left ss ∧ J ss wr)
    (fun _ wr => wr.rangeLeft b W.heap.size)
  case atStart =>
    exact ⟨_, _, [], hrg0, by simp, MetK.start D0, hJ [] W w0 none h0 hg0 (fun r e => by cases e)⟩
  case round =>
    obtain ⟨left, cnt, ss, hrg, hcs, hC, hJs⟩ := hrel
    gi_wp2_with (gi_at_next; refine wpListIn_next_ranges _ rfl _ rfl 31 kyKeyed R (fun x : KeyT => kyV x.1) id (fun key kl hk => by obtain ⟨x, hx, _⟩ := keyOf_ky_inv hk; exact ⟨x, hx⟩) (fun v _ _ => ⟨v, rfl⟩) b W.heap.size nn _ _ _ rfl hrg ?_ ?_)
    · intro hc0 hl0
      gi_wp2
      go_end0
      exact ⟨⟨_, rfl⟩, .inl ⟨ss, ⟨hC.done hl0, by omega⟩, hJs⟩⟩
    · intro xv hxv c kl yd yp w2 cnt2 hkey hlk hv hat hrg2 hlt hg2 hs2 hen
      obtain ⟨x, ex, rfl⟩ := keyOf_ky_inv hkey
      obtain rfl : xv = x.1 := eight_eq hxv.l x.2.l (List.toArray_inj (Value.agg.inj ex))
      have hJ2 : J ss w2 := hJ ss wr w2 (some W.heap.size) hJs hg2 (fun r e => by cases e; exact ⟨Nat.le_refl _, hrg.iter_walk⟩)
      have HX := hide (box_new w2 (eightA [0, 0, 0, 0, 0, 0, 0, 0]) 31)
      clear hs2 ex
      gi_wp2_with (refine wpIn_store_boxK (cs' := eightA x.1) rfl rfl _ _ rfl _ rfl rfl HX.out rfl HI.out (by simp [Value.oneCell']) ?_; intro w3 hb3 hk3; have HB3 := hide hb3; have HK3 := hide hk3; clear hb3 hk3; obtain ⟨z0, z1, z2, z3, z4, z5, z6, z7⟩ := box_eight HB3.out; have zl := HB3.out.lt; have hg3 := grown_newK _ HK3.out; have hJ3 : J ss w3 := hJ ss w2 w3 none hJ2 hg3 (fun r e => by cases e); have hrg3 := hrg2.of_walks (KeepsWalks.of_grownBy hg3 (fun j o e => by cases e)); obtain ⟨fn, tmps, assign, body, hy, hR⟩ := hY ss x w3 hJ3 (by omega); have HR := hide hR; have HG3 := hide hg3; clear hg3 hR)
      refine HR.out.mono ?_
      rintro e W4 (⟨rfl, hJ4, hk4⟩ | ⟨rfl, hJx4⟩)
      · have hrg4 := hrg3.of_walks hk4
        gi_wp2
        go_roundw
        case rel => exact ⟨_, cnt2, ss ++ [x], hrg4, by simp; omega, hC.step hlk hat, hJ4⟩
        case measure => rw [hrg4.left_eq, hrg.left_eq]; exact hlt
      · gi_wp2
        refine bodyPost_ret (results_none rfl _ _ _) rfl ?_
        exact ⟨⟨_, rfl⟩, .inr ⟨_, trivial, hJx4⟩⟩
theorem kkeys_in (n : Nat) (mb : Option Nat) (w : World) :
    CallsIn Fence.wide n Try.prog 32 #[.map mb] w fun e w' => e = .returned (.func (.func 45) #[] #[.pointer (some ⟨w.heap.size, 0, none⟩)]) ∧ w' = w.alloc (.cells #[.map mb] 55) := by
  have hF : Fence.wide.fn 32 := trivial
  refine callsIn_of_wp Try.func32 rfl hF ?_ rfl
  simp only [Try.ntmps32, List.size_toArray, List.length_cons, List.length_nil, Nat.reduceAdd, Nat.reduceSub, Array.replicate_succ, Array.replicate_zero, List.push_toArray, List.append_toArray, List.nil_append, List.cons_append]
  gi_wp2
  go_ret
  exact ⟨rfl, rfl⟩
theorem kkeys_stops {R : Value → Option (DataW ItP × List MemPlace)} (n : Nat) (hn : 1 ≤ n) (Bm b nn : Nat) (D0 : DataW ItP) (w : World) (hBm : Bm < w.heap.size) (hm : w.cell? ⟨Bm, 0, none⟩ = some (.map (some b))) (hown : w.ownsMap Try.prog 31 R b nn D0) :
    SeqStopsK Fence.wide n Try.prog 45 #[.pointer (some ⟨Bm, 0, none⟩)] (fun x : KeyT => #[kyV x.1]) KeepsWalks (fun ss => KeysOf D0 ss ∧ ss.length ≤ Maps.size D0) (fun _ => True) (Maps.size D0) w := fun l J Jx W hW hJ _ hY h0 =>
  kkeys1_in n hn l Bm b nn D0 J Jx hY W hJ ((hW.cell (p := ⟨Bm, 0, none⟩) hBm).trans hm) (owns_blockK hown (hW.block b hown.lt)) h0
end
section
open Go.RowKit Go.Maps Classical

set_option maxRecDepth 100000 in
set_option maxHeartbeats 1600000 in
theorem ptGet_any (q b : Nat) (t : List WrP) (k : List Int) (w : World) (h : PTb w q b t) (hk : KeyOk k) :
    Calls Try.prog 17 #[.pointer (some ⟨q, 0, none⟩), .agg (eightA k)] w fun e w' => e = .returned (.tuple #[.agg (itA ((getT t k).getD zeroIt)), .bool (getT t k).isSome]) ∧ Below w.heap.size w w' := by
  have hA := alloc_below13 w (.cells (eightA k) 31)
  have hA2 := alloc_below13 (w.alloc (.cells (eightA k) 31)) (.cells (itA zeroIt) 36)
  have hB2 : Below w.heap.size w ((w.alloc (.cells (eightA k) 31)).alloc (.cells (itA zeroIt) 36)) := hA.trans (hA2.mono hA.size)
  have h2 := h.below hB2
  have C := hide (made_any q b _ h2.box)
  have HXK := hide ((box_new w (eightA k) 31).belowI hA2)
  have HXR : Hid (Box ((w.alloc (.cells (eightA k) 31)).alloc (.cells (itA zeroIt) 36)) (w.heap.size + 1) (itA zeroIt) 36) := hide (by have := box_new (w.alloc (.cells (eightA k) 31)) (itA zeroIt) 36; simpa using this)
  have H2 := hide h2
  have HB2 := hide hB2
  obtain ⟨R1, hR1⟩ : ∃ R1, R1 = (getT t k).getD zeroIt := ⟨_, rfl⟩
  obtain ⟨R2, hR2⟩ : ∃ R2, R2 = (getT t k).isSome := ⟨_, rfl⟩
  have HR1 := hide hR1
  have HR2 := hide hR2
  rw [← hR1, ← hR2]
  clear hA hA2 hB2 h h2 hR1 hR2
  go_enter Try.func17, Try.ntmps17
  go_wp2_with fail
  refine C.out.mono ?_
  rintro e w1 ⟨rfl, hw1⟩
  replace H2 : Hid (PTb w1 q b t) := hide (by rw [hw1]; exact H2.out)
  replace HXK : Hid (Box w1 w.heap.size (eightA k) 31) := hide (by rw [hw1]; exact HXK.out)
  replace HXR : Hid (Box w1 (w.heap.size + 1) (itA zeroIt) 36) := hide (by rw [hw1]; exact HXR.out)
  replace HB2 : Hid (Below w.heap.size w w1) := hide (by rw [hw1]; exact HB2.out)
  clear hw1 C
  have h0 : w1.cell? ⟨q, 0, none⟩ = some (.map (some b)) := H2.out.box.cell 0 _ rfl
  obtain ⟨k0, k1, k2, k3, k4, k5, k6, k7⟩ := box_eight HXK.out
  have L1 := (H2.out.map.below (below_drew13 w1)).look hk
  have L2 := fun o => ((H2.out.map.below (alloc_below13 w1 o)).below (below_drew13 _)).look hk
  rw [← HR1.out, ← HR2.out] at L1
  simp only [← HR1.out, ← HR2.out] at L2
  have hlt := HXK.out.lt
  have hqt := H2.out.box.lt
  go_wp2
  go_region
  have hA3 := (alloc_below13 w1 (.cells (itA R1) 36)).trans ((below_drew13 (w1.alloc (.cells (itA R1) 36))).mono (by simp))
  have HX3 := hide ((box_new w1 (itA R1) 36).belowI (below_drew13 _))
  have HR3 := hide (HXR.out.belowI hA3)
  have HB3 := hide (HB2.out.trans (hA3.mono HB2.out.size))
  clear hA3 L1 L2 HXK HXR HB2 H2 h0 k0 k1 k2 k3 k4 k5 k6 k7 hlt hqt
  generalize (w1.alloc (.cells (itA R1) 36)).drew = w3 at *
  go_wp2_with (first | (refine wp_load_box rfl _ rfl w1.heap.size rfl HX3.out Try.underlying36 rfl infoIt13 ?_) | (refine wp_store_box rfl rfl _ _ rfl (w.heap.size + 1) rfl (cs' := itA R1) rfl HR3.out rfl infoIt13 (itA_one13 _) ?_; intro w4 hb4 hk4; have HR4 := hide hb4; have HB4 := hide (HB3.out.trans (hk4.below HB3.out.size (fun k hk => by omega))); clear hb4 hk4))
  refine bodyPost_ret (v := .tuple #[.agg (itA R1), .bool R2]) (results_box2 Try.results17 _ _ (w.heap.size + 1) rfl rfl HR4.out Try.underlying36 rfl infoIt13) rfl ⟨rfl, HB4.out⟩
end
end Go.Proofs.Ytlngejmojpkdkaa
