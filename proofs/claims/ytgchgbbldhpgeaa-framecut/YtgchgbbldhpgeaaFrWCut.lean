/-
  Walk of the law FrameCut, from what package frame must answer. Own work.
-/
import Derived.Test.YtgchgbbldhpgeaaFrFacts
namespace Go.Proofs.Ytgchgbbldhpgeaa
open Go.RowKit

namespace cut4
set_option maxRecDepth 100000 in
set_option maxHeartbeats 3200000 in
theorem walkN (F : FrameOK) (vl : Value) (ys : List Int) (p : Int) (w : World) (hL : Lies .u8 w vl ys) (hy : ∀ c ∈ ys, 0 ≤ c ∧ c < 256) :
    Calls Try.prog 7 #[vl, .int .i64 p] w fun e w' => e = .returned (.bool true) ∧ Below w.heap.size w w' := by
  obtain ⟨al, cl, rfl⟩ := hL.shape
  have HL := hide hL
  have HY := hide hy
  clear hL hy
  by_cases hll : 6000 < ys.length
  · have d1 : decide ((6000 : Int) < (ys.length : Int)) = true := by simp; omega
    go_enter Try.func7, Try.ntmps7
    go_wp2_with fail
    refine (frlong_any _ _ _ _).mono ?_
    rintro e w1 ⟨rfl, h1⟩
    rw [h1, d1]
    clear h1
    go_wp2_with fail
    refine (fralive_any F _).mono ?_
    rintro e w2 ⟨rfl, hB2⟩
    have HB2 := hide (hB2)
    clear hB2
    go_wp2_with fail
    go_ret
    exact ⟨rfl, HB2.out⟩
  · have d1 : decide ((6000 : Int) < (ys.length : Int)) = false := by simp; omega
    go_enter Try.func7, Try.ntmps7
    go_wp2_with fail
    refine (frlong_any _ _ _ _).mono ?_
    rintro e w1 ⟨rfl, h1⟩
    rw [h1, d1]
    clear h1
    go_wp2_with fail
    refine (F.put _ _ [] ys _ (Lies.nil _ _) HL.out HY.out (by simp)).mono ?_
    rintro e w1 ⟨v1, rfl, ho1, hB1⟩
    have HB1 := hide hB1
    clear hB1
    by_cases h4 : ys.length ≤ 4096
    · rw [put_ok ys h4] at ho1 ⊢
      have HFB := hide (frameF_bytes ys HY.out)
      have hfl := frameF_length ys
      dsimp only at ho1 ⊢
      obtain ⟨a1, c1, e1⟩ := (Lies.of_own ho1).shape
      subst e1
      have HL1 := hide (Lies.of_own ho1)
      clear ho1
      obtain ⟨k, hk, hat⟩ := at_index4 p (frameF ys).length (by omega) (by omega)
      have HN := hide (next_cut ys h4 HY.out k (by omega))
      have HTB : Hid (∀ c ∈ (frameF ys).take k, 0 ≤ c ∧ c < 256) := hide fun c hc => HFB.out c (List.mem_of_mem_take hc)
      have hfr : (frameF ys).length ≤ 4104 := by omega
      have hfr0 : 8 ≤ (frameF ys).length := by omega
      clear hfl
      generalize frameF ys = fr at *
      have hne : ¬ ((fr.length : Int) = 0) := by omega
      have htl : (fr.take k).length = k := by simp; omega
      go_wp2_with (refine wp_to _ rfl _ _ rfl _ fr rfl HL1.out .i64 k (by show Value.int _ _ = Value.int _ _; congr 1) (by omega) ?_; intro a2 c2 hL2; have HL2 := hide hL2; clear hL2)
      refine (F.next _ (fr.take k) _ HL2.out HTB.out (by omega)).mono ?_
      rintro e w3 ⟨v3, rfl, hL3, hB3⟩
      rw [HN.out] at hL3 ⊢
      obtain ⟨a3, c3, e3⟩ := hL3.shape
      subst e3
      have HB3 := hide (HB1.out.trans (hB3.mono HB1.out.size))
      clear hL3 hB3
      dsimp only
      go_wp2_with fail
      refine (fralive_any F _).mono ?_
      rintro e w6 ⟨rfl, hB6⟩
      have HB6 := hide (HB3.out.trans (hB6.mono HB3.out.size))
      clear hB6
      go_wp2_with fail
      go_ret
      exact ⟨rfl, HB6.out⟩
    · rw [put_no [] ys h4] at ho1 ⊢
      dsimp only at ho1 ⊢
      obtain ⟨a1, c1, e1⟩ := (Lies.of_own ho1).shape
      subst e1
      clear ho1
      go_wp2_with fail
      refine (fralive_any F _).mono ?_
      rintro e w6 ⟨rfl, hB6⟩
      have HB6 := hide (HB1.out.trans (hB6.mono HB1.out.size))
      clear hB6
      go_wp2_with fail
      go_ret
      exact ⟨rfl, HB6.out⟩
end cut4
end Go.Proofs.Ytgchgbbldhpgeaa
