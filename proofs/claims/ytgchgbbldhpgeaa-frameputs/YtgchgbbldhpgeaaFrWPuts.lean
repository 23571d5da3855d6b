/-
  Walk of the law FramePuts, from what package frame must answer. Own work.
-/
import Derived.Test.YtgchgbbldhpgeaaFrSpec
namespace Go.Proofs.Ytgchgbbldhpgeaa
open Go.RowKit

theorem r4put_F (vb vl : Value) (bs load : List Int) (w : World) (hb : Lies .u8 w vb bs) (hL : Lies .u8 w vl load) (hx : ∀ c ∈ load, 0 ≤ c ∧ c < 256) (hbl : bs.length ≤ 100000) :
    Calls Try.prog 12 #[vb, vl] w fun e w' => ∃ v', e = .returned (.tuple #[v', .int .i64 (putF bs load).2]) ∧ w'.ownsRow w.heap.size 5 1 v' (putF bs load).1.length ((putF bs load).1.map (Value.int .u8)) ∧ Below w.heap.size w w' := by
  refine (r4put_any vb vl bs load w hb hL hx hbl).mono fun e w' h => ?_
  unfold putF
  by_cases hl : load.length ≤ 4096
  · rw [if_pos hl] at h ⊢
    exact h
  · rw [if_neg hl] at h ⊢
    obtain ⟨rfl, rfl⟩ := h
    exact ⟨_, rfl, World.ownsRow_nil _ _ _ _, Below.refl _ _⟩
namespace puts
set_option maxRecDepth 100000 in
set_option maxHeartbeats 3200000 in
theorem walkN (F : FrameOK) (vb vl : Value) (xs ys : List Int) (w : World) (hb : Lies .u8 w vb xs) (hL : Lies .u8 w vl ys) (hy : ∀ c ∈ ys, 0 ≤ c ∧ c < 256) :
    Calls Try.prog 3 #[vb, vl] w fun e w' => e = .returned (.bool true) ∧ Below w.heap.size w w' := by
  obtain ⟨ab, cb, rfl⟩ := hb.shape
  obtain ⟨al, cl, rfl⟩ := hL.shape
  have H := hide hb
  have HL := hide hL
  have HY := hide hy
  clear hb hL hy
  by_cases hlb : 6000 < xs.length
  · have d1 : decide ((6000 : Int) < (xs.length : Int)) = true := by simp; omega
    go_enter Try.func3, Try.ntmps3
    go_wp2_with fail
    refine (frlong_any _ _ _ _).mono ?_
    rintro e w1 ⟨rfl, h1⟩
    rw [h1, d1]
    clear h1
    go_wp2_with fail
    refine (fralive_any F _).mono ?_
    rintro e w2 ⟨rfl, hB2⟩
    have HB2 := hide hB2
    clear hB2
    go_wp2_with fail
    go_ret
    exact ⟨rfl, HB2.out⟩
  · have d1 : decide ((6000 : Int) < (xs.length : Int)) = false := by simp; omega
    by_cases hll : 6000 < ys.length
    · have d2 : decide ((6000 : Int) < (ys.length : Int)) = true := by simp; omega
      go_enter Try.func3, Try.ntmps3
      go_wp2_with fail
      refine (frlong_any _ _ _ _).mono ?_
      rintro e w1 ⟨rfl, h1⟩
      rw [h1, d1]
      clear h1
      go_wp2_with fail
      refine (frlong_any _ _ _ _).mono ?_
      rintro e w1 ⟨rfl, h1⟩
      rw [h1, d2]
      clear h1
      go_wp2_with fail
      refine (fralive_any F _).mono ?_
      rintro e w2 ⟨rfl, hB2⟩
      have HB2 := hide hB2
      clear hB2
      go_wp2_with fail
      go_ret
      exact ⟨rfl, HB2.out⟩
    · have d2 : decide ((6000 : Int) < (ys.length : Int)) = false := by simp; omega
      go_enter Try.func3, Try.ntmps3
      go_wp2_with fail
      refine (frlong_any _ _ _ _).mono ?_
      rintro e w1 ⟨rfl, h1⟩
      rw [h1, d1]
      clear h1
      go_wp2_with fail
      refine (frlong_any _ _ _ _).mono ?_
      rintro e w1 ⟨rfl, h1⟩
      rw [h1, d2]
      clear h1
      go_wp2_with fail
      refine (F.put _ _ xs ys _ H.out HL.out HY.out (by omega)).mono ?_
      rintro e w1 ⟨v1, rfl, ho1, hB1⟩
      obtain ⟨a1, c1, e1⟩ := (Lies.of_own ho1).shape
      subst e1
      have HL1 := hide (Lies.of_own ho1)
      have HB1 := hide hB1
      have HA1 := hide (H.out.below hB1)
      have HAL1 := hide (HL.out.below hB1)
      clear ho1 hB1
      go_wp2_with fail
      refine (r4put_F _ _ xs ys _ HA1.out HAL1.out HY.out (by omega)).mono ?_
      rintro e w2 ⟨v2, rfl, ho2, hB2⟩
      obtain ⟨a2, c2, e2⟩ := (Lies.of_own ho2).shape
      subst e2
      have HL2 := hide (Lies.of_own ho2)
      have HL1 := hide (HL1.out.below hB2)
      have HB2 := hide (HB1.out.trans (hB2.mono HB1.out.size))
      clear ho2 hB2
      generalize putF xs ys = nx at *
      obtain ⟨ld, code⟩ := nx
      dsimp only at *
      have S1 := hide (fun w => F.size (ys.length : Int) w (by omega) (by omega))
      have S2 := hide (fun w => r4size_any (ys.length : Int) w (by omega) (by omega))
      have S3 := hide (fun w => F.size (-(xs.length : Int)) w (by omega) (by omega))
      have S4 := hide (fun w => r4size_any (-(xs.length : Int)) w (by omega) (by omega))
      generalize sizeF (ys.length : Int) = z1 at *
      generalize sizeF (-(xs.length : Int)) = z2 at *
      have q1 : (z1 == z1) = true := by simp
      have q2 : (code == code) = true := by simp
      have q3 : (z2 == z2) = true := by simp
      go_wp2_with fail
      refine (same_any _ _ ld _ HL1.out HL2.out).mono ?_
      rintro e w3 ⟨rfl, rfl⟩
      go_wp2_with fail
      refine (S1.out _).mono ?_
      rintro e w4 ⟨rfl, hB4⟩
      have HB4 := hide (HB2.out.trans (hB4.mono HB2.out.size))
      clear hB4
      go_wp2_with fail
      refine (S2.out _).mono ?_
      rintro e w5 ⟨rfl, rfl⟩
      go_wp2_with fail
      refine (S3.out _).mono ?_
      rintro e w6 ⟨rfl, hB6⟩
      have HB6 := hide (HB4.out.trans (hB6.mono HB4.out.size))
      clear hB6
      go_wp2_with fail
      refine (S4.out _).mono ?_
      rintro e w7 ⟨rfl, rfl⟩
      go_wp2_with fail
      refine (fralive_any F _).mono ?_
      rintro e w8 ⟨rfl, hB8⟩
      have HB8 := hide (HB6.out.trans (hB8.mono HB6.out.size))
      clear hB8
      go_wp2_with fail
      go_ret
      exact ⟨rfl, HB8.out⟩
end puts
end Go.Proofs.Ytgchgbbldhpgeaa
