/-
  ClockApart: what the one timer does turns no other one. Over any clock that fulfils the bundle. Own work.
-/
import Derived.Test.YtgjdlclkibiffaaCkLaw
import Derived.BigQuiet
import Derived.Deep.RegionHeld
import Derived.Deep.LoopGhost
namespace Go.Proofs.Ytgjdlclkibiffaa
open Go.RowKit

section
variable {D : World → Nat → (Nat → Prop) → Ck → Prop}
theorem mem_other_set {c : Ck} {a b : NmP} {after x : Int} (hab : a ≠ b) (h : (a, x) ∈ c.l) : (a, x) ∈ (setD c b after).l := by
  by_cases hA : setA c b after = 0
  · exact (mem_set hA _).2 (.inr ⟨h, hab⟩)
  · unfold setD; rw [if_neg hA]; exact h
theorem mem_other_stop {c : Ck} {a b : NmP} {x : Int} (hab : a ≠ b) (h : (a, x) ∈ c.l) : (a, x) ∈ (stopD c b).l := (mem_stop c b _).2 ⟨h, hab⟩
theorem setA_new (a : NmP) (after : Int) (h1 : 0 < after) (h2 : after ≤ 2147483647) : setA newC a after = 0 := by
  unfold setA
  rw [if_neg (by omega), if_neg (by simp [newC]; omega), if_neg (by simp [newC])]
theorem stop_has (c : Ck) (a : NmP) : (stopD c a).has a = false := by
  cases h : (stopD c a).has a
  · rfl
  · obtain ⟨x, hx⟩ := (has_iff _ _).1 h
    exact absurd rfl ((mem_stop c a _).1 hx).2
set_option maxRecDepth 100000 in
set_option maxHeartbeats 3200000 in
theorem walkA9 (H : ClockDo D) (a b : NmP) (ac : KaP) (w : World) (ha : nmOk a) (hb : nmOk b) (hac : kaOk ac) :
    Calls Try.prog 6 #[.agg (nmA a), .agg (nmA b), .agg (kaA ac)] w fun e w' => e = .returned (.bool true) ∧ Below w.heap.size w w' := by
  have hX1 := box_new w (nmA a) 34
  have hA1 := alloc_below9 w (.cells (nmA a) 34)
  obtain ⟨w1, hw1⟩ : ∃ w1, w1 = w.alloc (.cells (nmA a) 34) := ⟨_, rfl⟩
  rw [← hw1] at hX1 hA1
  have hX2 := box_new w1 (nmA b) 34
  have hA2 := alloc_below9 w1 (.cells (nmA b) 34)
  obtain ⟨w2, hw2⟩ : ∃ w2, w2 = w1.alloc (.cells (nmA b) 34) := ⟨_, rfl⟩
  rw [← hw2] at hX2 hA2
  have hX3 := box_new w2 (kaA ac) 36
  have hA3 := alloc_below9 w2 (.cells (kaA ac) 36)
  obtain ⟨w3, hw3⟩ : ∃ w3, w3 = w2.alloc (.cells (kaA ac) 36) := ⟨_, rfl⟩
  rw [← hw3] at hX3 hA3
  have hW1 := hw1.symm
  have hW2 := hw2.symm
  have hW3 := hw3.symm
  have HXA := hide ((hX1.belowI hA2).belowI hA3)
  have HXB := hide (hX2.belowI hA3)
  have HXC := hide hX3
  have HB03 := hide (hA1.trans ((hA2.trans (hA3.mono hA2.size)).mono hA1.size))
  have HOA := hide ha
  have HOB := hide hb
  have HOC := hide hac
  have hq := fun W => eql_rname a b W
  have a0 := HXA.out.cell 0 _ rfl
  have a1 := HXA.out.cell 1 _ rfl
  have a2 := HXA.out.cell 2 _ rfl
  have a3 := HXA.out.cell 3 _ rfl
  have b0 := HXB.out.cell 0 _ rfl
  have b1 := HXB.out.cell 1 _ rfl
  have b2 := HXB.out.cell 2 _ rfl
  have b3 := HXB.out.cell 3 _ rfl
  clear hX1 hA1 hX2 hA2 hX3 hA3 hw1 hw2 hw3 ha hb hac
  by_cases hab : a = b
  · rw [decide_eq_true hab] at hq
    clear hab
    go_enter Try.func6, Try.ntmps6
    go_wp2_with fail
    refine (alive_by9 H _).mono ?_
    rintro e w4 ⟨rfl, hB⟩
    have HB4 := hide (HB03.out.trans (hB.mono HB03.out.size))
    clear hB
    go_wp2_with fail
    go_ret
    exact ⟨rfl, HB4.out⟩
  · rw [decide_eq_false hab] at hq
    have HAB := hide hab
    clear hab
    go_enter Try.func6, Try.ntmps6
    go_wp2_with fail
    refine (H.new w3).mono ?_
    rintro e W1 ⟨q, F, rfl, hD1, hF1, hB1⟩
    have HS : Hid (Since9 D w3 q newC W1 F) := hide ⟨hD1, hF1, hB1⟩
    have heq := fun W => eq_ptr9 W ⟨q, 0, none⟩
    clear hD1 hF1 hB1 a0 a1 a2 a3 b0 b1 b2 b3 hq hW1 hW2 hW3
    have a0 := (HXA.out.belowI HS.out.bb).cell 0 _ rfl
    have a1 := (HXA.out.belowI HS.out.bb).cell 1 _ rfl
    have a2 := (HXA.out.belowI HS.out.bb).cell 2 _ rfl
    have a3 := (HXA.out.belowI HS.out.bb).cell 3 _ rfl
    go_wp2_with fail
    refine (theirs_any a W1).mono ?_
    rintro e W2 ⟨rfl, hB⟩
    replace HS := hide (HS.out.below H hB)
    clear hB
    have C := H.set a 7 HS.out.dd HOA.out (by decide) (by decide)
    rw [setA_new a 7 (by decide) (by decide)] at C
    have HC := hide C
    clear C a0 a1 a2 a3
    go_wp2_with fail
    refine HC.out.mono ?_
    rintro e W3 ⟨rfl, h3⟩
    obtain ⟨F3, hS3⟩ := HS.out.did h3
    replace HS := hide hS3
    have HM1 : Hid ((a, (7 : Int)) ∈ (setD newC a 7).l) := hide ((mem_set (setA_new a 7 (by decide) (by decide)) _).2 (.inl (by simp [newC])))
    generalize setD newC a 7 = c1 at *
    clear h3 hS3 HC
    have hak := HOC.out.1
    have hrem : ac.1.tmod 4 = ac.1 % 4 := Int.tmod_eq_emod_of_nonneg hak.1
    have hr4 : 0 ≤ ac.1 % 4 ∧ ac.1 % 4 < 4 := by omega
    obtain ⟨r, hr⟩ : ∃ r, r = ac.1 % 4 := ⟨_, rfl⟩
    rw [← hr] at hrem hr4
    by_cases h2 : r = 2
    · subst h2
      clear hr hr4
      have k0 := (HXC.out.belowI HS.out.bb).cell 0 _ rfl
      have b0 := (HXB.out.belowI HS.out.bb).cell 0 _ rfl
      have b1 := (HXB.out.belowI HS.out.bb).cell 1 _ rfl
      have b2 := (HXB.out.belowI HS.out.bb).cell 2 _ rfl
      have b3 := (HXB.out.belowI HS.out.bb).cell 3 _ rfl
      go_wp2_with fail
      refine (theirs_any b W3).mono ?_
      rintro e W4 ⟨rfl, hB⟩
      replace HS := hide (HS.out.below H hB)
      clear hB
      have HC := hide (H.stop b HS.out.dd HOB.out)
      clear k0 b0 b1 b2 b3
      go_wp2_with fail
      refine HC.out.mono ?_
      rintro e W5 ⟨rfl, h5⟩
      obtain ⟨F5, hS5⟩ := HS.out.did h5
      replace HS := hide hS5
      have HM2 := hide (mem_other_stop HAB.out HM1.out)
      generalize stopD c1 b = c2 at *
      generalize c1.has b = hb1
      clear h5 hS5 HC
      have a0 := (HXA.out.belowI HS.out.bb).cell 0 _ rfl
      have a1 := (HXA.out.belowI HS.out.bb).cell 1 _ rfl
      have a2 := (HXA.out.belowI HS.out.bb).cell 2 _ rfl
      have a3 := (HXA.out.belowI HS.out.bb).cell 3 _ rfl
      go_wp2_with fail
      refine (theirs_any a W5).mono ?_
      rintro e W6 ⟨rfl, hB⟩
      replace HS := hide (HS.out.below H hB)
      clear hB
      have C := H.unt a HS.out.dd HOA.out
      rw [atOf_mem (H.ok HS.out.dd) HM2.out, (has_iff _ _).2 ⟨7, HM2.out⟩] at C
      have HC := hide C
      clear C a0 a1 a2 a3
      go_wp2_with fail
      refine HC.out.mono ?_
      rintro e W7 ⟨rfl, hB⟩
      replace HS := hide (HS.out.below H hB)
      clear hB HC
      have a0 := (HXA.out.belowI HS.out.bb).cell 0 _ rfl
      have a1 := (HXA.out.belowI HS.out.bb).cell 1 _ rfl
      have a2 := (HXA.out.belowI HS.out.bb).cell 2 _ rfl
      have a3 := (HXA.out.belowI HS.out.bb).cell 3 _ rfl
      go_wp2_with fail
      refine (theirs_any a W7).mono ?_
      rintro e W8 ⟨rfl, hB⟩
      replace HS := hide (HS.out.below H hB)
      clear hB
      have C := H.stop a HS.out.dd HOA.out
      rw [(has_iff _ _).2 ⟨7, HM2.out⟩] at C
      have HC := hide C
      clear C a0 a1 a2 a3
      go_wp2_with fail
      refine HC.out.mono ?_
      rintro e W9 ⟨rfl, h9⟩
      obtain ⟨F9, hS9⟩ := HS.out.did h9
      replace HS := hide hS9
      clear h9 hS9 HC
      have a0 := (HXA.out.belowI HS.out.bb).cell 0 _ rfl
      have a1 := (HXA.out.belowI HS.out.bb).cell 1 _ rfl
      have a2 := (HXA.out.belowI HS.out.bb).cell 2 _ rfl
      have a3 := (HXA.out.belowI HS.out.bb).cell 3 _ rfl
      go_wp2_with fail
      refine (theirs_any a W9).mono ?_
      rintro e W10 ⟨rfl, hB⟩
      replace HS := hide (HS.out.below H hB)
      clear hB
      have C := H.stop a HS.out.dd HOA.out
      rw [stop_has] at C
      have HC := hide C
      clear C a0 a1 a2 a3
      go_wp2_with fail
      refine HC.out.mono ?_
      rintro e W11 ⟨rfl, h11⟩
      obtain ⟨F11, hS11⟩ := HS.out.did h11
      replace HS := hide hS11
      clear h11 hS11 HC
      go_wp2_with fail
      refine (alive_by9 H _).mono ?_
      rintro e W12 ⟨rfl, hB⟩
      replace HS := hide (HS.out.below H hB)
      clear hB
      go_wp2_with fail
      go_ret
      exact ⟨rfl, HB03.out.trans (HS.out.bb.mono HB03.out.size)⟩
    · have d2 : (r == 2) = false := by simp [h2]
      clear hr hr4
      have k0 := (HXC.out.belowI HS.out.bb).cell 0 _ rfl
      go_wp2_with fail
      have SS : Hid (∀ Z, Below w3.heap.size w3 Z → (Z.cell? ⟨w1.heap.size, 0, none⟩ = some (.int .u8 b.1) ∧ Z.cell? ⟨w1.heap.size, 1, none⟩ = some (.int .u8 b.2.1) ∧ Z.cell? ⟨w1.heap.size, 2, none⟩ = some (.int .u32 b.2.2.1) ∧ Z.cell? ⟨w1.heap.size, 3, none⟩ = some (.int .u32 b.2.2.2) ∧ Z.cell? ⟨w2.heap.size, 5, none⟩ = some (.int .u32 ac.2.2))) := hide (fun Z hB => by
        have hb2 := HXB.out.belowI hB
        have hb3 := HXC.out.belowI hB
        exact ⟨hb2.cell 0 _ rfl, hb2.cell 1 _ rfl, hb2.cell 2 _ rfl, hb2.cell 3 _ rfl, hb3.cell 5 _ rfl⟩)
      have ss0 := SS.out W3 HS.out.bb
      replace HS := hide (HS.out.below H (Below.refl W3.heap.size W3).drew)
      clear k0
      go_region_held (fun w' => w'.cell? ⟨w1.heap.size, 0, none⟩ = some (.int .u8 b.1) ∧ w'.cell? ⟨w1.heap.size, 1, none⟩ = some (.int .u8 b.2.1) ∧ w'.cell? ⟨w1.heap.size, 2, none⟩ = some (.int .u32 b.2.2.1) ∧ w'.cell? ⟨w1.heap.size, 3, none⟩ = some (.int .u32 b.2.2.2) ∧ w'.cell? ⟨w2.heap.size, 5, none⟩ = some (.int .u32 ac.2.2)) (go_keep) (first
        | (go_at_call 16; refine (theirs_any b _).mono ?_; rintro e W4 ⟨rfl, hB⟩; replace HS := hide (HS.out.below H hB); have ss := SS.out W4 HS.out.bb; clear hB)
        | (go_at_call 18; refine (H.set b ac.2.2 HS.out.dd HOB.out HOC.out.2.2.1 HOC.out.2.2.2).mono ?_; rintro e W5 ⟨rfl, h5⟩; obtain ⟨F5, hS5⟩ := HS.out.did h5; replace HS := hide hS5; have ss := SS.out W5 HS.out.bb; clear h5 hS5))
      have HM2 := hide (mem_other_set (after := ac.2.2) HAB.out HM1.out)
      generalize setD c1 b ac.2.2 = c2 at *
      generalize setA c1 b ac.2.2 = sA
      clear ss
      have a0 := (HXA.out.belowI HS.out.bb).cell 0 _ rfl
      have a1 := (HXA.out.belowI HS.out.bb).cell 1 _ rfl
      have a2 := (HXA.out.belowI HS.out.bb).cell 2 _ rfl
      have a3 := (HXA.out.belowI HS.out.bb).cell 3 _ rfl
      go_wp2_with fail
      refine (theirs_any a W5).mono ?_
      rintro e W6 ⟨rfl, hB⟩
      replace HS := hide (HS.out.below H hB)
      clear hB
      have C := H.unt a HS.out.dd HOA.out
      rw [atOf_mem (H.ok HS.out.dd) HM2.out, (has_iff _ _).2 ⟨7, HM2.out⟩] at C
      have HC := hide C
      clear C a0 a1 a2 a3
      go_wp2_with fail
      refine HC.out.mono ?_
      rintro e W7 ⟨rfl, hB⟩
      replace HS := hide (HS.out.below H hB)
      clear hB HC
      have a0 := (HXA.out.belowI HS.out.bb).cell 0 _ rfl
      have a1 := (HXA.out.belowI HS.out.bb).cell 1 _ rfl
      have a2 := (HXA.out.belowI HS.out.bb).cell 2 _ rfl
      have a3 := (HXA.out.belowI HS.out.bb).cell 3 _ rfl
      go_wp2_with fail
      refine (theirs_any a W7).mono ?_
      rintro e W8 ⟨rfl, hB⟩
      replace HS := hide (HS.out.below H hB)
      clear hB
      have C := H.stop a HS.out.dd HOA.out
      rw [(has_iff _ _).2 ⟨7, HM2.out⟩] at C
      have HC := hide C
      clear C a0 a1 a2 a3
      go_wp2_with fail
      refine HC.out.mono ?_
      rintro e W9 ⟨rfl, h9⟩
      obtain ⟨F9, hS9⟩ := HS.out.did h9
      replace HS := hide hS9
      clear h9 hS9 HC
      have a0 := (HXA.out.belowI HS.out.bb).cell 0 _ rfl
      have a1 := (HXA.out.belowI HS.out.bb).cell 1 _ rfl
      have a2 := (HXA.out.belowI HS.out.bb).cell 2 _ rfl
      have a3 := (HXA.out.belowI HS.out.bb).cell 3 _ rfl
      go_wp2_with fail
      refine (theirs_any a W9).mono ?_
      rintro e W10 ⟨rfl, hB⟩
      replace HS := hide (HS.out.below H hB)
      clear hB
      have C := H.stop a HS.out.dd HOA.out
      rw [stop_has] at C
      have HC := hide C
      clear C a0 a1 a2 a3
      go_wp2_with fail
      refine HC.out.mono ?_
      rintro e W11 ⟨rfl, h11⟩
      obtain ⟨F11, hS11⟩ := HS.out.did h11
      replace HS := hide hS11
      clear h11 hS11 HC
      go_wp2_with fail
      refine (alive_by9 H _).mono ?_
      rintro e W12 ⟨rfl, hB⟩
      replace HS := hide (HS.out.below H hB)
      clear hB
      go_wp2_with fail
      go_ret
      exact ⟨rfl, HB03.out.trans (HS.out.bb.mono HB03.out.size)⟩
end
end Go.Proofs.Ytgjdlclkibiffaa
