/-
  Walk of the law FrameScans, from what package frame must answer. Own work.
-/
import Derived.Test.YtgchgbbldhpgeaaFrSpec
namespace Go.Proofs.Ytgchgbbldhpgeaa
open Go.RowKit

namespace scans
set_option maxRecDepth 100000 in
set_option maxHeartbeats 3200000 in
theorem walkN (F : FrameOK) (v : Value) (xs : List Int) (w : World) (h : Lies .u8 w v xs) (hx : ∀ c ∈ xs, 0 ≤ c ∧ c < 256) :
    Calls Try.prog 5 #[v] w fun e w' => e = .returned (.bool true) ∧ Below w.heap.size w w' := by
  obtain ⟨ao, cap, rfl⟩ := h.shape
  have H := hide h
  have HX := hide hx
  clear h hx
  by_cases hl : 6000 < xs.length
  · have d1 : decide ((6000 : Int) < (xs.length : Int)) = true := by simp; omega
    go_enter Try.func5, Try.ntmps5
    go_wp2_with fail
    refine (frlong_any _ _ _ _).mono ?_
    rintro e w1 ⟨rfl, h1⟩
    rw [h1, d1]
    clear h1
    go_wp2_with fail
    refine (fralive_any F _).mono ?_
    rintro e w2 ⟨rfl, hB2⟩
    have HB2 := hide hB2
    clear hB2
    go_wp2_with fail
    go_ret
    exact ⟨rfl, HB2.out⟩
  · have d1 : decide ((6000 : Int) < (xs.length : Int)) = false := by simp; omega
    go_enter Try.func5, Try.ntmps5
    go_wp2_with fail
    refine (frlong_any _ _ _ _).mono ?_
    rintro e w1 ⟨rfl, h1⟩
    rw [h1, d1]
    clear h1
    go_wp2_with fail
    refine (F.scan _ xs _ H.out HX.out (by omega)).mono ?_
    rintro e w1 ⟨v1, rfl, hL1, hB1⟩
    have HL1 := hide hL1
    have HB1 := hide hB1
    have HA1 := hide (H.out.below hB1)
    clear hL1 hB1
    go_wp2_with fail
    refine (r4scan_any _ xs _ HA1.out HX.out (by omega)).mono ?_
    rintro e w2 ⟨v2, rfl, hR2, hB2⟩
    have HL2 := hide hR2.lies
    have HL1 := hide (HL1.out.below hB2)
    have HB2 := hide (HB1.out.trans (hB2.mono HB1.out.size))
    have HA2 := hide (HA1.out.below hB2)
    clear hR2 hB2
    go_wp2_with fail
    refine (F.all _ xs _ HA2.out HX.out (by omega)).mono ?_
    rintro e w3 ⟨v3, rfl, hL3, hB3⟩
    have HL3 := hide hL3
    have HL2 := hide (HL2.out.below hB3)
    have HL1 := hide (HL1.out.below hB3)
    have HB3 := hide (HB2.out.trans (hB3.mono HB2.out.size))
    have HA3 := hide (HA2.out.below hB3)
    clear hL3 hB3
    go_wp2_with fail
    refine (r4all_any _ xs _ HA3.out HX.out (by omega)).mono ?_
    rintro e w4 ⟨v4, rfl, hR4, hB4⟩
    have HL4 := hide hR4.lies
    have HL3 := hide (HL3.out.below hB4)
    have HL2 := hide (HL2.out.below hB4)
    have HL1 := hide (HL1.out.below hB4)
    have HB4 := hide (HB3.out.trans (hB4.mono HB3.out.size))
    clear hR4 hB4
    generalize scanF xs = sc at *
    generalize allF xs = al at *
    obtain ⟨ls, n⟩ := sc
    obtain ⟨ks, code⟩ := al
    dsimp only at *
    have q1 : ((n : Int) == (n : Int)) = true := by simp
    have q2 : (code == code) = true := by simp
    go_wp2_with fail
    refine (r4lists_true _ _ ls _ HL1.out HL2.out).mono ?_
    rintro e w5 ⟨rfl, hB5⟩
    have HL4 := hide (HL4.out.below hB5)
    have HL3 := hide (HL3.out.below hB5)
    have HB5 := hide (HB4.out.trans (hB5.mono HB4.out.size))
    clear hB5
    go_wp2_with fail
    refine (r4lists_true _ _ ks _ HL3.out HL4.out).mono ?_
    rintro e w6 ⟨rfl, hB6⟩
    have HB6 := hide (HB5.out.trans (hB6.mono HB5.out.size))
    clear hB6
    go_wp2_with fail
    refine (fralive_any F _).mono ?_
    rintro e w7 ⟨rfl, hB7⟩
    have HB7 := hide (HB6.out.trans (hB7.mono HB6.out.size))
    clear hB7
    go_wp2_with fail
    go_ret
    exact ⟨rfl, HB7.out⟩
end scans
end Go.Proofs.Ytgchgbbldhpgeaa
