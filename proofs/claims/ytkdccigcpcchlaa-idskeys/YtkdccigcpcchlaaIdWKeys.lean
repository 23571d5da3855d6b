/-
  The walk of IdsKeys. Own work.
-/
import Derived.Test.YtkdccigcpcchlaaIdLawKit
import Derived.Test.YtkdccigcpcchlaaIdRName
namespace Go.Proofs.Ytkdccigcpcchlaa
open Go.RowKit

namespace keys5
set_option maxRecDepth 100000 in
set_option maxHeartbeats 3200000 in
theorem walkN (s : ByteArray) (ks : List Int) (w : World) (hs : s.size ≤ maxLen) (hl : ks.length = 8) (hx : ∀ c ∈ ks, 0 ≤ c ∧ c < 256) :
    Calls Try.prog 3 #[.string s, .agg (cells8 ks)] w fun e w' => e = .returned (.bool true) ∧ Below w.heap.size w w' := by
  have hkl := keyOfF_fst (numsS s)
  have C1 := hide (fun w => keyOf_any s hs w)
  have C2 := hide (fun w => rkeyOf_any s hs w)
  have C3 := hide (fun w => name_any ks hl hx w)
  have C4 := hide (fun w => rname_any ks hl w)
  generalize (keyOfF (numsS s)).1 = kk at *
  generalize (keyOfF (numsS s)).2 = E at *
  generalize strOfNums (nameF ks).1 = x at *
  generalize (nameF ks).2 = ok at *
  obtain ⟨k0, k1, k2, k3, k4, k5, k6, k7, hkk⟩ := eight8 kk hkl
  obtain ⟨j0, j1, j2, j3, j4, j5, j6, j7, hjj⟩ := eight8 ks hl
  subst hkk
  subst hjj
  have hck : cells8 [k0, k1, k2, k3, k4, k5, k6, k7] = #[.int .u8 k0, .int .u8 k1, .int .u8 k2, .int .u8 k3, .int .u8 k4, .int .u8 k5, .int .u8 k6, .int .u8 k7] := rfl
  have hcj : cells8 [j0, j1, j2, j3, j4, j5, j6, j7] = #[.int .u8 j0, .int .u8 j1, .int .u8 j2, .int .u8 j3, .int .u8 j4, .int .u8 j5, .int .u8 j6, .int .u8 j7] := rfl
  rw [hck] at C1 C2
  rw [hcj] at C3 C4 ⊢
  have heqk : ∀ w, (binOp .eql 23 (.agg #[.int .u8 k0, .int .u8 k1, .int .u8 k2, .int .u8 k3, .int .u8 k4, .int .u8 k5, .int .u8 k6, .int .u8 k7]) (.agg #[.int .u8 k0, .int .u8 k1, .int .u8 k2, .int .u8 k3, .int .u8 k4, .int .u8 k5, .int .u8 k6, .int .u8 k7])).run Try.prog w = .ok (.bool true) w := fun w => by rw [eqli_key]; simp
  have HX0 := hide (box_new w #[.int .u8 j0, .int .u8 j1, .int .u8 j2, .int .u8 j3, .int .u8 j4, .int .u8 j5, .int .u8 j6, .int .u8 j7] 23)
  have HB0 := hide ((Below.refl w.heap.size w).alloc (Nat.le_refl _) (.cells #[.int .u8 j0, .int .u8 j1, .int .u8 j2, .int .u8 j3, .int .u8 j4, .int .u8 j5, .int .u8 j6, .int .u8 j7] 23))
  clear hck hcj hkl hl hx
  go_enter Try.func3, Try.ntmps3
  go_wp2_with fail
  refine (C1.out _).mono ?_
  rintro e w1 ⟨rfl, hB1⟩
  have HX1 := hide (HX0.out.belowI hB1)
  have HB1 := hide (HB0.out.trans (hB1.mono HB0.out.size))
  have hbA := (Below.refl w1.heap.size w1).alloc (Nat.le_refl _) (.cells #[.int .u8 k0, .int .u8 k1, .int .u8 k2, .int .u8 k3, .int .u8 k4, .int .u8 k5, .int .u8 k6, .int .u8 k7] 23)
  have HX2 := hide (HX1.out.belowI hbA)
  have HA2 := hide (box_new w1 #[.int .u8 k0, .int .u8 k1, .int .u8 k2, .int .u8 k3, .int .u8 k4, .int .u8 k5, .int .u8 k6, .int .u8 k7] 23)
  have HB2 := hide (HB1.out.trans (hbA.mono HB1.out.size))
  clear hB1 hbA HX0 HB0 C1
  go_wp2_with fail
  refine (C2.out _).mono ?_
  rintro e w2 ⟨rfl, hB2⟩
  have HX3 := hide (HX2.out.belowI hB2)
  have HA3 := hide (HA2.out.belowI hB2)
  have HB3 := hide (HB2.out.trans (hB2.mono HB2.out.size))
  have hbC := (Below.refl w2.heap.size w2).alloc (Nat.le_refl _) (.cells #[.int .u8 k0, .int .u8 k1, .int .u8 k2, .int .u8 k3, .int .u8 k4, .int .u8 k5, .int .u8 k6, .int .u8 k7] 23)
  have HX4 := hide (HX3.out.belowI hbC)
  have HA4 := hide (HA3.out.belowI hbC)
  have HC4 := hide (box_new w2 #[.int .u8 k0, .int .u8 k1, .int .u8 k2, .int .u8 k3, .int .u8 k4, .int .u8 k5, .int .u8 k6, .int .u8 k7] 23)
  have HB4 := hide (HB3.out.trans (hbC.mono HB3.out.size))
  obtain ⟨y0, y1, y2, y3, y4, y5, y6, y7⟩ := HX3.out.eight
  have hxl := HX3.out.lt
  clear hB2 hbC HX1 HX2 HB1 HB2 HA2 C2 HB3 HX3 HA3
  go_wp2_with fail
  refine (C3.out _).mono ?_
  rintro e w3 ⟨rfl, hB5⟩
  have HX5 := hide (HX4.out.belowI hB5)
  have HA5 := hide (HA4.out.belowI hB5)
  have HC5 := hide (HC4.out.belowI hB5)
  have HB5 := hide (HB4.out.trans (hB5.mono HB4.out.size))
  clear hB5 y0 y1 y2 y3 y4 y5 y6 y7 HX4 HA4 HC4 HB4 C3
  obtain ⟨y0, y1, y2, y3, y4, y5, y6, y7⟩ := HX5.out.eight
  have hxl5 := HX5.out.lt
  go_wp2_with fail
  refine (C4.out _).mono ?_
  rintro e w4 ⟨rfl, hB6⟩
  have HA6 := hide (HA5.out.belowI hB6)
  have HC6 := hide (HC5.out.belowI hB6)
  have HB6 := hide (HB5.out.trans (hB6.mono HB5.out.size))
  clear hB6 y0 y1 y2 y3 y4 y5 y6 y7 HX5 HA5 HC5 HB5 C4
  obtain ⟨a0, a1, a2, a3, a4, a5, a6, a7⟩ := HA6.out.eight
  obtain ⟨b0, b1, b2, b3, b4, b5, b6, b7⟩ := HC6.out.eight
  have hal := HA6.out.lt
  have hcl := HC6.out.lt
  go_wp2_with (go_at_call 13; refine (alive_any _).mono ?_; rintro e w7 ⟨rfl, hB7⟩; have HB7 := hide (HB6.out.trans (hB7.mono HB6.out.size)); clear hB7)
  go_ret
  exact ⟨rfl, HB7.out⟩
end keys5
end Go.Proofs.Ytkdccigcpcchlaa
