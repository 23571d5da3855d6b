/-
  Walk of the law FrameNexts, from what package frame must answer: Next answers as the reference does, and the probe 'alive' holds; nothing that was there is written.
  Own work.
-/
import Derived.Test.YtgchgbbldhpgeaaFrSpec
namespace Go.Proofs.Ytgchgbbldhpgeaa
open Go.RowKit

namespace nexts
set_option maxRecDepth 100000 in
set_option maxHeartbeats 3200000 in
theorem walkN (F : FrameOK) (v : Value) (xs : List Int) (w : World) (h : Lies .u8 w v xs) (hx : ∀ c ∈ xs, 0 ≤ c ∧ c < 256) :
    Calls Try.prog 4 #[v] w fun e w' => e = .returned (.bool true) ∧ Below w.heap.size w w' := by
  obtain ⟨ao, cap, rfl⟩ := h.shape
  have H := hide h
  have HX := hide hx
  clear h hx
  by_cases hl : 6000 < xs.length
  · have d1 : decide ((6000 : Int) < (xs.length : Int)) = true := by simp; omega
    go_enter Try.func4, Try.ntmps4
    go_wp2_with fail
    refine (frlong_any _ _ _ _).mono ?_
    rintro e w1 ⟨rfl, h1⟩
    rw [h1, d1]
    clear h1
    go_wp2_with fail
    refine (fralive_any F _).mono ?_
    rintro e w2 ⟨rfl, hB2⟩
    have HB2 := hide hB2
    clear hB2
    go_wp2_with fail
    go_ret
    exact ⟨rfl, HB2.out⟩
  · have d1 : decide ((6000 : Int) < (xs.length : Int)) = false := by simp; omega
    go_enter Try.func4, Try.ntmps4
    go_wp2_with fail
    refine (frlong_any _ _ _ _).mono ?_
    rintro e w1 ⟨rfl, h1⟩
    rw [h1, d1]
    clear h1
    go_wp2_with fail
    refine (F.next _ xs _ H.out HX.out (by omega)).mono ?_
    rintro e w1 ⟨v1, rfl, hL1, hB1⟩
    obtain ⟨a1, c1, e1⟩ := hL1.shape
    subst e1
    have HL1 := hide hL1
    have HB1 := hide hB1
    have HA1 := hide (H.out.below hB1)
    clear hL1 hB1
    go_wp2_with fail
    refine (r4next_any _ xs _ HA1.out HX.out).mono ?_
    rintro e w2 ⟨v2, rfl, ho2, hB2⟩
    obtain ⟨a2, c2, e2⟩ := (Lies.of_own ho2).shape
    subst e2
    have HL2 := hide (Lies.of_own ho2)
    have HL1 := hide (HL1.out.below hB2)
    have HB2 := hide (HB1.out.trans (hB2.mono HB1.out.size))
    clear ho2 hB2
    generalize nextF xs = nx at *
    obtain ⟨ld, n, code⟩ := nx
    dsimp only at *
    go_wp2_with fail
    refine (same_any _ _ ld _ HL1.out HL2.out).mono ?_
    rintro e w3 ⟨rfl, rfl⟩
    have q1 : ((n : Int) == (n : Int)) = true := by simp
    have q2 : (code == code) = true := by simp
    go_wp2_with fail
    refine (fralive_any F _).mono ?_
    rintro e w4 ⟨rfl, hB4⟩
    have HB4 := hide (HB2.out.trans (hB4.mono HB2.out.size))
    clear hB4
    go_wp2_with fail
    go_ret
    exact ⟨rfl, HB4.out⟩
end nexts
end Go.Proofs.Ytgchgbbldhpgeaa
