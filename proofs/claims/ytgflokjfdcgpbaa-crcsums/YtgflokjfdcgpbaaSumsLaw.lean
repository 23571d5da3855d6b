/-
  For all []byte a and b and every uint32 sum, the statement CrcSums returns true: Sum and More answer as the reference does, and the probe 'alive' holds; nothing that was there is written.
  Conditions: none.
-/
import Derived.Test.YtgflokjfdcgpbaaCrcTop
import Derived.Test.YtgflokjfdcgpbaaFramePlain
namespace Go.Proofs.Ytgflokjfdcgpbaa
open Go.ChangeShapes Go.WideShapes Go.ChangeAt Go.RowKit

namespace sums
set_option maxHeartbeats 800000 in
theorem walkN (va vb : Value) (xa xb : List Int) (s : Nat) (w : World) (hs : s < 4294967296) (ha : Lies .u8 w va xa) (hb : Lies .u8 w vb xb) (ba : ∀ c ∈ xa, 0 ≤ c ∧ c < 256) (bb : ∀ c ∈ xb, 0 ≤ c ∧ c < 256) :
    Calls Try.prog 3 #[va, vb, .int .u32 s] w fun e w' => e = .returned (.bool true) ∧ Below w.heap.size w w' := by
  obtain ⟨aa, ca, rfl⟩ := ha.shape
  obtain ⟨ab, cb, rfl⟩ := hb.shape
  have HA := hide ha
  have HB := hide hb
  have BA := hide ba
  have BB := hide bb
  clear ha hb ba bb
  by_cases hla : 5000 < xa.length
  · have d1 : decide ((5000 : Int) < (xa.length : Int)) = true := by simp; omega
    generalize xa.length = la at *
    generalize xb.length = lb at *
    go_enter Try.func3, Try.ntmps3
    go_wp2_with fail
    refine (long_any _ _ _ _).mono ?_
    rintro e w1 ⟨rfl, h1⟩
    rw [h1]
    clear h1
    go_wp2_with fail
    refine (alive_any _).mono ?_
    rintro e w2 ⟨rfl, hB2⟩
    go_wp2_with fail
    go_ret
    exact ⟨rfl, hB2⟩
  · have d1 : decide ((5000 : Int) < (xa.length : Int)) = false := by simp; omega
    by_cases hlb : 5000 < xb.length
    · have d2 : decide ((5000 : Int) < (xb.length : Int)) = true := by simp; omega
      generalize xa.length = la at *
      generalize xb.length = lb at *
      go_enter Try.func3, Try.ntmps3
      go_wp2_with fail
      refine (long_any _ _ _ _).mono ?_
      rintro e w1 ⟨rfl, h1⟩
      rw [h1]
      clear h1
      go_wp2_with fail
      refine (long_any _ _ _ _).mono ?_
      rintro e w1 ⟨rfl, h1⟩
      rw [h1]
      clear h1
      go_wp2_with fail
      refine (alive_any _).mono ?_
      rintro e w2 ⟨rfl, hB2⟩
      go_wp2_with fail
      go_ret
      exact ⟨rfl, hB2⟩
    · have d2 : decide ((5000 : Int) < (xb.length : Int)) = false := by simp; omega
      have S1 := hide (sum_two w _ _ _ _ 22 HA.out HB.out BA.out BB.out)
      have hB0 : Below w.heap.size w (w.alloc (.cells #[.slice aa xa.length ca, .slice ab xb.length cb] 22)) := (Below.refl _ _).alloc (Nat.le_refl _) _
      have HB0 := hide hB0
      have R1 := hide (rmore_any 0 _ xa _ (by decide) (HA.out.below hB0) BA.out)
      have R2 := hide (rmore_any (moreI 0 xa) _ xb _ (moreI_lt (by decide) BA.out) (HB.out.below hB0) BB.out)
      have M1 := hide (more_any s _ xa _ hs (HA.out.below hB0) BA.out)
      have M2 := hide (rmore_any s _ xa _ hs (HA.out.below hB0) BA.out)
      rw [moreI_append] at S1
      clear hB0
      generalize moreI 0 xa = t at *
      generalize moreI t xb = t2 at *
      generalize moreI s xa = t3 at *
      have q1 : (((t2 : Nat) : Int) == ((t2 : Nat) : Int)) = true := by simp
      have q2 : (((t3 : Nat) : Int) == ((t3 : Nat) : Int)) = true := by simp
      generalize xa.length = la at *
      generalize xb.length = lb at *
      go_enter Try.func3, Try.ntmps3
      go_wp2_with fail
      refine (long_any _ _ _ _).mono ?_
      rintro e w1 ⟨rfl, h1⟩
      rw [h1]
      clear h1
      go_wp2_with fail
      refine (long_any _ _ _ _).mono ?_
      rintro e w1 ⟨rfl, h1⟩
      rw [h1]
      clear h1
      go_wp2_with fail
      refine S1.out.mono ?_
      rintro e w1 ⟨rfl, h1⟩
      rw [h1]
      clear h1
      go_wp2_with fail
      refine R1.out.mono ?_
      rintro e w1 ⟨rfl, h1⟩
      rw [h1]
      clear h1
      go_wp2_with fail
      refine R2.out.mono ?_
      rintro e w1 ⟨rfl, h1⟩
      rw [h1]
      clear h1
      go_wp2_with fail
      refine M1.out.mono ?_
      rintro e w1 ⟨rfl, h1⟩
      rw [h1]
      clear h1
      go_wp2_with fail
      refine M2.out.mono ?_
      rintro e w1 ⟨rfl, h1⟩
      rw [h1]
      clear h1
      go_wp2_with fail
      refine (alive_any _).mono ?_
      rintro e w2 ⟨rfl, hB2⟩
      go_wp2_with fail
      go_ret
      exact ⟨rfl, HB0.out.trans (hB2.mono HB0.out.size)⟩
end sums
namespace sumsRow
set_option maxRecDepth 100000 in
theorem lifted (os : Os) (started : os.Started) (H : Type) (enc : TypeId × Value → H) :
    ReturnsInHanded {} Try.checked os 3 .any (Rows.crcSumsSpec.pre6 enc Try.prog Try.f3 Rows.crcSumsRow.domain false) (Rows.crcSumsSpec.post enc Try.prog Try.f3 false true false false) := by
  refine returnsInHanded_of_change (C := Try.checked) own started (by kernel_rfl) Try.func3
    (ChangeSpec.witness6 (enc := enc) (C := Try.checked) false ⟨#[], #[.slice none 0 0, .slice none 0 0, .int .u32 0], []⟩ 8 (by kernel_rfl) (by kernel_rfl) (by kernel_rfl) (by kernel_rfl)) ?_
  intro W base args ds gs before hval0 hW hcnd _
  have hval : ∀ (j : Nat) t v, Try.f3.params[j]? = some t → args[j]? = some v → Value.okWide Try.prog W .any base t v := hval0
  have hW' := hW
  obtain ⟨p, q, hA0, hV, rfl, hfz, hnd⟩ := hW
  have hA : DataW.TrodAll enc Try.prog W 0 (fun _ => true) true Try.f3.params.toList args.toList ds p := hA0
  rw [Try.params3] at hA hval
  obtain ⟨v0, vs0, d0, ds0, p0, q0, hargs, rfl, rfl, h0, r0⟩ := trodAll_cons hA
  obtain ⟨v1, vs1, d1, ds1, p1, q1, rfl, rfl, rfl, h1, r1⟩ := trodAll_cons r0
  obtain ⟨v2, vs2, d2, ds2, p2, q2, rfl, rfl, rfl, h2, r2⟩ := trodAll_cons r1
  obtain ⟨rfl, rfl, rfl⟩ := trodAll_nil r2
  obtain rfl : args = #[v0, v1, v2] := by cases args; simp_all
  obtain ⟨rfl, rfl⟩ := trodVars_none hV
  obtain ⟨a0, len0, cap0, rfl⟩ := okWide_slice Try.underlying22 (hval 0 22 v0 rfl rfl)
  have k0 := h0
  have lt0 : ∀ x ∈ p0, x.block < W.heap.size := by obtain ⟨m, hm⟩ := k0; exact DataW.trod_lt m _ _ _ hm
  obtain ⟨xs0, lies0, by0⟩ := lies_of_trod h0
  obtain ⟨a1, len1, cap1, rfl⟩ := okWide_slice Try.underlying22 (hval 1 22 v1 rfl rfl)
  have k1 := h1
  have lt1 : ∀ x ∈ p1, x.block < W.heap.size := by obtain ⟨m, hm⟩ := k1; exact DataW.trod_lt m _ _ _ hm
  obtain ⟨xs1, lies1, by1⟩ := lies_of_trod h1
  obtain ⟨a2, rfl, rfl, rfl, w2⟩ := open_int Try.underlying23 (hval 2 23 v2 rfl rfl) h2
  have b2 := bounds_u32 w2
  obtain ⟨m2, rfl⟩ := Int.eq_ofNat_of_zero_le b2.1
  clear hA0 hval0
  refine (sums.walkN _ _ xs0 xs1 m2 W (by omega) lies0 lies1 by0 by1).mono fun e W' ⟨he, bel⟩ => ?_
  subst he
  exact ⟨_, rfl, _, _, _, [], _, [], hW', trodAll_mk1 (shut_bool Try.underlying4 _), (trodAll_cons_mk (Below.trod laidOut (by kernel_rfl) (of_decide_eq_true (by kernel_rfl)) k0 bel lt0) (trodAll_cons_mk (Below.trod laidOut (by kernel_rfl) (of_decide_eq_true (by kernel_rfl)) k1 bel lt1) (trodAll_cons_mk (shut_int Try.underlying23 w2) trodAll_mk0))), rfl, bel.frame _, fun h => by cases h⟩

theorem over : Rows.crcSumsRow.holds Try.pinned (OpenSpec.ofChange Rows.crcSumsSpec) :=
  OpenClaim.holds_of_wide 3 Try.f3 rfl rfl rfl rfl rfl rfl rfl ⟨rfl, rfl, rfl, rfl, rfl⟩ rfl rfl rfl rfl rfl (by kernel_rfl) Try.func3 (by kernel_rfl)
    (of_decide_eq_true (by kernel_rfl)) (by unfold Func.isWrapper; first | (rw [if_pos (by decide +kernel)]; kernel_rfl) | (rw [if_neg (by decide +kernel)]; exact ⟨rfl, rfl⟩))
    (fun os started H enc _ => lifted os started H enc)
end sumsRow

/-- THE STATEMENT. -/
theorem crcSums_holds : Rows.CrcSumsSaid := sumsRow.over
#print axioms crcSums_holds
end Go.Proofs.Ytgflokjfdcgpbaa
