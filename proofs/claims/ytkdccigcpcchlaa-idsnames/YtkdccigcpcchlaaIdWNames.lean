/-
  The walk of IdsNames. Own work.
-/
import Derived.Test.YtkdccigcpcchlaaIdLawKit
import Derived.Test.YtkdccigcpcchlaaIdName
namespace Go.Proofs.Ytkdccigcpcchlaa
open Go.RowKit

namespace names5
theorem strOf_numsS (s : ByteArray) : strOfNums (numsS s) = s := by
  unfold strOfNums numsS
  rw [List.map_map]
  have : s.data.toList.map ((fun n : Int => UInt8.ofNat n.toNat) ∘ fun b : UInt8 => (b.toNat : Int)) = s.data.toList := by
    conv => rhs; rw [← List.map_id s.data.toList]
    apply List.map_congr_left
    intro b _
    simp
  rw [this]
theorem nameF_byte (ks : List Int) (hx : ∀ c ∈ ks, 0 ≤ c ∧ c < 256) : ∀ c ∈ (nameF ks).1, 0 ≤ c ∧ c < 256 := by
  unfold nameF
  split
  · simp
  · exact fun c hc => hx c (aheadF_sub ks c hc)
set_option maxRecDepth 100000 in
set_option maxHeartbeats 3200000 in
theorem walkN (s : ByteArray) (ks : List Int) (w : World) (hs : s.size ≤ maxLen) (hl : ks.length = 8) (hx : ∀ c ∈ ks, 0 ≤ c ∧ c < 256) :
    Calls Try.prog 8 #[.string s, .agg (cells8 ks)] w fun e w' => e = .returned (.bool true) ∧ Below w.heap.size w w' := by
  have hkl := keyOfF_fst (numsS s)
  have CK := hide (fun w => keyOf_any s hs w)
  have hkb := keyOfF_byte (numsS s) (numsS_byte s)
  have CN1 := hide (fun w => name_any (keyOfF (numsS s)).1 hkl hkb w)
  have CN2 := hide (fun w => name_any ks hl hx w)
  have HN1 : Hid ((keyOfF (numsS s)).2 = 0 → strOfNums (nameF (keyOfF (numsS s)).1).1 = s ∧ (nameF (keyOfF (numsS s)).1).2 = true) := hide (fun h => by
    rw [name_of_key _ h]; exact ⟨strOf_numsS s, rfl⟩)
  have HZ1 : Hid ((keyOfF (numsS s)).2 ≠ 0 → (keyOfF (numsS s)).1 = zero8i) := hide (key_refused _)
  have HNO : Hid ((nameF ks).2 = false → strOfNums (nameF ks).1 = ⟨#[]⟩) := hide (fun h => by rw [name_refused ks h]; rfl)
  have HYES : Hid ((nameF ks).2 = true → (∀ w, Calls Try.prog 9 #[.string (strOfNums (nameF ks).1)] w fun e w' => e = .returned (.tuple #[.agg (cells8 ks), .int .i64 0]) ∧ Below w.heap.size w w') ∧ (1 : Int) ≤ ((strOfNums (nameF ks).1).size : Int)) := hide (fun h => by
    obtain ⟨h1, h2⟩ := key_of_name ks hl h
    have h3 := nameF_byte ks hx
    have h4 : (nameF ks).1.length ≤ 8 := by
      have h5 := congrArg (fun r => r.1.length) h1
      unfold keyOfF at h5
      split at h5
      · rename_i hc
        unfold keyOfF at h1
        rw [if_pos hc] at h1
        simp at h1
      · rename_i hc
        simp only [not_or] at hc
        omega
    refine ⟨fun w => ?_, by rw [strOf_len]; omega⟩
    have hK := keyOf_any (strOfNums (nameF ks).1) (by rw [strOf_len]; unfold maxLen; omega) w
    rw [numsS_strOf _ h3, h1] at hK
    exact hK)
  generalize strOfNums (nameF (keyOfF (numsS s)).1).1 = t1 at *
  generalize (nameF (keyOfF (numsS s)).1).2 = o1 at *
  generalize (keyOfF (numsS s)).1 = kk at *
  generalize (keyOfF (numsS s)).2 = E at *
  generalize strOfNums (nameF ks).1 = x at *
  generalize (nameF ks).2 = ok at *
  obtain ⟨k0, k1, k2, k3, k4, k5, k6, k7, hkk⟩ := eight8 kk hkl
  obtain ⟨j0, j1, j2, j3, j4, j5, j6, j7, hjj⟩ := eight8 ks hl
  subst hkk
  subst hjj
  have hck : cells8 [k0, k1, k2, k3, k4, k5, k6, k7] = #[.int .u8 k0, .int .u8 k1, .int .u8 k2, .int .u8 k3, .int .u8 k4, .int .u8 k5, .int .u8 k6, .int .u8 k7] := rfl
  have hcj : cells8 [j0, j1, j2, j3, j4, j5, j6, j7] = #[.int .u8 j0, .int .u8 j1, .int .u8 j2, .int .u8 j3, .int .u8 j4, .int .u8 j5, .int .u8 j6, .int .u8 j7] := rfl
  rw [hck] at CK CN1
  rw [hcj] at CN2 HYES ⊢
  have heqj : ∀ w, (binOp .eql 23 (.agg #[.int .u8 j0, .int .u8 j1, .int .u8 j2, .int .u8 j3, .int .u8 j4, .int .u8 j5, .int .u8 j6, .int .u8 j7]) (.agg #[.int .u8 j0, .int .u8 j1, .int .u8 j2, .int .u8 j3, .int .u8 j4, .int .u8 j5, .int .u8 j6, .int .u8 j7])).run Try.prog w = .ok (.bool true) w := fun w => by rw [eqli_key]; simp
  have HX0 := hide (box_new w #[.int .u8 j0, .int .u8 j1, .int .u8 j2, .int .u8 j3, .int .u8 j4, .int .u8 j5, .int .u8 j6, .int .u8 j7] 23)
  have HB0 := hide ((Below.refl w.heap.size w).alloc (Nat.le_refl _) (.cells #[.int .u8 j0, .int .u8 j1, .int .u8 j2, .int .u8 j3, .int .u8 j4, .int .u8 j5, .int .u8 j6, .int .u8 j7] 23))
  clear hck hcj hkl hkb hl hx
  go_enter Try.func8, Try.ntmps8
  go_wp2_with fail
  refine (CK.out _).mono ?_
  rintro e w1 ⟨rfl, hB1⟩
  have HX1 := hide (HX0.out.belowI hB1)
  have HB1 := hide (HB0.out.trans (hB1.mono HB0.out.size))
  have hbA := (Below.refl w1.heap.size w1).alloc (Nat.le_refl _) (.cells #[.int .u8 k0, .int .u8 k1, .int .u8 k2, .int .u8 k3, .int .u8 k4, .int .u8 k5, .int .u8 k6, .int .u8 k7] 23)
  have HX2 := hide (HX1.out.belowI hbA)
  have HB2 := hide (HB1.out.trans (hbA.mono HB1.out.size))
  clear hB1 hbA HX0 HB0 CK
  by_cases hE : E = 0
  · subst hE
    obtain ⟨ht1, ho1⟩ := HN1.out rfl
    subst ht1
    subst ho1
    clear HN1 HZ1
    go_wp2_with fail
    refine (CN1.out _).mono ?_
    rintro e w5 ⟨rfl, hB5⟩
    have HX5 := hide (HX2.out.belowI hB5)
    have HB5 := hide (HB2.out.trans (hB5.mono HB2.out.size))
    obtain ⟨y0, y1, y2, y3, y4, y5, y6, y7⟩ := HX5.out.eight
    have hxl := HX5.out.lt
    go_wp2_with fail
    refine (CN2.out _).mono ?_
    rintro e w6 ⟨rfl, hB6⟩
    have HX6 := hide (HX5.out.belowI hB6)
    have HB6 := hide (HB5.out.trans (hB6.mono HB5.out.size))
    clear hB6 y0 y1 y2 y3 y4 y5 y6 y7
    cases hok : ok
    · subst hok
      have HXE := hide (HNO.out rfl)
      rw [HXE.out]
      go_wp2_with (go_at_call 13; refine (alive_any _).mono ?_; rintro e w7 ⟨rfl, hB7⟩; have HB7 := hide (HB6.out.trans (hB7.mono HB6.out.size)); clear hB7)
      go_ret
      exact ⟨rfl, HB7.out⟩
    · subst hok
      have HKO := hide (HYES.out rfl)
      go_wp2_with fail
      refine (HKO.out.1 _).mono ?_
      rintro e w7 ⟨rfl, hB7⟩
      have HX7 := hide (HX6.out.belowI hB7)
      have HB7 := hide (HB6.out.trans (hB7.mono HB6.out.size))
      obtain ⟨z0, z1, z2, z3, z4, z5, z6, z7⟩ := HX7.out.eight
      have hxl7 := HX7.out.lt
      have hlenx := HKO.out.2
      have HB8 := hide (HB7.out.trans (((Below.refl w7.heap.size w7).alloc (Nat.le_refl _) (.cells #[.int .u8 j0, .int .u8 j1, .int .u8 j2, .int .u8 j3, .int .u8 j4, .int .u8 j5, .int .u8 j6, .int .u8 j7] 23)).mono HB7.out.size))
      clear hB7
      go_wp2_with (go_at_call 13; refine (alive_any _).mono ?_; rintro e w8 ⟨rfl, hB8⟩; have HB9 := hide (HB8.out.trans (hB8.mono HB8.out.size)); clear hB8)
      go_ret
      exact ⟨rfl, HB9.out⟩
  · have hE' : (E == 0) = false := beq_eq_false_iff_ne.2 hE
    have hz := HZ1.out hE
    have hzz : ∀ w, (binOp .neq 23 (.agg #[.int .u8 k0, .int .u8 k1, .int .u8 k2, .int .u8 k3, .int .u8 k4, .int .u8 k5, .int .u8 k6, .int .u8 k7]) (.agg #[.int .u8 0, .int .u8 0, .int .u8 0, .int .u8 0, .int .u8 0, .int .u8 0, .int .u8 0, .int .u8 0])).run Try.prog w = .ok (.bool false) w := fun w => by rw [neqi_key, hz]; rfl
    clear HN1 HZ1 hz hE
    have HX5 := HX2
    have HB5 := hide (HB2.out)
    obtain ⟨y0, y1, y2, y3, y4, y5, y6, y7⟩ := HX5.out.eight
    have hxl := HX5.out.lt
    go_wp2_with fail
    refine (CN2.out _).mono ?_
    rintro e w6 ⟨rfl, hB6⟩
    have HX6 := hide (HX5.out.belowI hB6)
    have HB6 := hide (HB5.out.trans (hB6.mono HB5.out.size))
    clear hB6 y0 y1 y2 y3 y4 y5 y6 y7
    cases hok : ok
    · subst hok
      have HXE := hide (HNO.out rfl)
      rw [HXE.out]
      go_wp2_with (go_at_call 13; refine (alive_any _).mono ?_; rintro e w7 ⟨rfl, hB7⟩; have HB7 := hide (HB6.out.trans (hB7.mono HB6.out.size)); clear hB7)
      go_ret
      exact ⟨rfl, HB7.out⟩
    · subst hok
      have HKO := hide (HYES.out rfl)
      go_wp2_with fail
      refine (HKO.out.1 _).mono ?_
      rintro e w7 ⟨rfl, hB7⟩
      have HX7 := hide (HX6.out.belowI hB7)
      have HB7 := hide (HB6.out.trans (hB7.mono HB6.out.size))
      obtain ⟨z0, z1, z2, z3, z4, z5, z6, z7⟩ := HX7.out.eight
      have hxl7 := HX7.out.lt
      have hlenx := HKO.out.2
      have HB8 := hide (HB7.out.trans (((Below.refl w7.heap.size w7).alloc (Nat.le_refl _) (.cells #[.int .u8 j0, .int .u8 j1, .int .u8 j2, .int .u8 j3, .int .u8 j4, .int .u8 j5, .int .u8 j6, .int .u8 j7] 23)).mono HB7.out.size))
      clear hB7
      go_wp2_with (go_at_call 13; refine (alive_any _).mono ?_; rintro e w8 ⟨rfl, hB8⟩; have HB9 := hide (HB8.out.trans (hB8.mono HB8.out.size)); clear hB8)
      go_ret
      exact ⟨rfl, HB9.out⟩
end names5
end Go.Proofs.Ytkdccigcpcchlaa
