/-
  Walk of the law FrameBack, from what package frame must answer. Own work.
-/
import Derived.Test.YtgchgbbldhpgeaaFrFacts
namespace Go.Proofs.Ytgchgbbldhpgeaa
open Go.RowKit

namespace back4
set_option maxRecDepth 100000 in
set_option maxHeartbeats 3200000 in
theorem walkN (F : FrameOK) (vl vb : Value) (ys xs : List Int) (w : World) (hL : Lies .u8 w vl ys) (hb : Lies .u8 w vb xs) (hy : ∀ c ∈ ys, 0 ≤ c ∧ c < 256) (hx : ∀ c ∈ xs, 0 ≤ c ∧ c < 256) :
    Calls Try.prog 6 #[vl, vb] w fun e w' => e = .returned (.bool true) ∧ Below w.heap.size w w' := by
  obtain ⟨ab, cb, rfl⟩ := hb.shape
  obtain ⟨al, cl, rfl⟩ := hL.shape
  have H := hide hb
  have HL := hide hL
  have HY := hide hy
  have HX := hide hx
  clear hb hL hy hx
  by_cases hll : 6000 < ys.length
  · have d1 : decide ((6000 : Int) < (ys.length : Int)) = true := by simp; omega
    go_enter Try.func6, Try.ntmps6
    go_wp2_with fail
    refine (frlong_any _ _ _ _).mono ?_
    rintro e w1 ⟨rfl, h1⟩
    rw [h1, d1]
    clear h1
    go_wp2_with fail
    refine (fralive_any F _).mono ?_
    rintro e w2 ⟨rfl, hB2⟩
    have HB2 := hide (hB2)
    clear hB2
    go_wp2_with fail
    go_ret
    exact ⟨rfl, HB2.out⟩
  · have d1 : decide ((6000 : Int) < (ys.length : Int)) = false := by simp; omega
    by_cases hlb : 6000 < xs.length
    · have d2 : decide ((6000 : Int) < (xs.length : Int)) = true := by simp; omega
      go_enter Try.func6, Try.ntmps6
      go_wp2_with fail
      refine (frlong_any _ _ _ _).mono ?_
      rintro e w1 ⟨rfl, h1⟩
      rw [h1, d1]
      clear h1
      go_wp2_with fail
      refine (frlong_any _ _ _ _).mono ?_
      rintro e w1 ⟨rfl, h1⟩
      rw [h1, d2]
      clear h1
      go_wp2_with fail
      refine (fralive_any F _).mono ?_
      rintro e w2 ⟨rfl, hB2⟩
      have HB2 := hide (hB2)
      clear hB2
      go_wp2_with fail
      go_ret
      exact ⟨rfl, HB2.out⟩
    · have d2 : decide ((6000 : Int) < (xs.length : Int)) = false := by simp; omega
      go_enter Try.func6, Try.ntmps6
      go_wp2_with fail
      refine (frlong_any _ _ _ _).mono ?_
      rintro e w1 ⟨rfl, h1⟩
      rw [h1, d1]
      clear h1
      go_wp2_with fail
      refine (frlong_any _ _ _ _).mono ?_
      rintro e w1 ⟨rfl, h1⟩
      rw [h1, d2]
      clear h1
      go_wp2_with fail
      refine (F.put _ _ [] ys _ (Lies.nil _ _) HL.out HY.out (by simp)).mono ?_
      rintro e w1 ⟨v1, rfl, ho1, hB1⟩
      have HB1 := hide hB1
      have HA1 := hide (H.out.below hB1)
      have HAL1 := hide (HL.out.below hB1)
      clear hB1
      by_cases h4 : ys.length ≤ 4096
      · rw [put_ok ys h4] at ho1 ⊢
        have HN := hide (next_put ys xs h4 HY.out)
        have HFB : Hid (∀ c ∈ frameF ys ++ xs, 0 ≤ c ∧ c < 256) := hide fun c hc => by
          rcases List.mem_append.1 hc with hc | hc
          · exact frameF_bytes ys HY.out c hc
          · exact HX.out c hc
        have hfl := frameF_length ys
        have hfx : (frameF ys ++ xs).length ≤ 20000 := by rw [List.length_append]; omega
        have hsz := size_ok ys.length h4
        dsimp only at ho1 ⊢
        obtain ⟨a1, c1, e1⟩ := (Lies.of_own ho1).shape
        subst e1
        have HO1 := hide ho1
        have HS1 := hide HB1.out.size
        clear ho1
        generalize frameF ys = fr at *
        obtain ⟨y2, hy2⟩ : ∃ y, y = fr ++ xs := ⟨_, rfl⟩
        rw [← hy2] at HN HFB hfx
        have Y2 := hide hy2
        clear hy2
        have hfr : fr.length ≤ 20000 := by omega
        clear hfl
        go_wp2_with (at_builtin; refine append_lies _ rfl _ _ rfl w.heap.size _ _ _ fr xs rfl HO1.out rfl HA1.out (by omega) HS1.out ?_; intro v2 w2 hown2 hgrow2; have hown2 := owns_as hown2 Y2.out; have HO2 := hide hown2; have hB2 := HB1.out.grown hgrow2 HS1.out (fun k hk => (HO1.out.lt k hk).1); have HB2 := hide hB2; obtain ⟨a2, c2, e2⟩ := (Lies.of_own hown2).shape; subst e2; clear hown2 hgrow2 hB2)
        refine (F.next _ y2 _ (Lies.of_own HO2.out) HFB.out (by omega)).mono ?_
        rintro e w3 ⟨v3, rfl, hL3, hB3⟩
        rw [HN.out] at hL3 ⊢
        obtain ⟨a3, c3, e3⟩ := hL3.shape
        subst e3
        have HL3 := hide hL3
        have HB3 := hide (HB2.out.trans (hB3.mono HB2.out.size))
        clear hL3 hB3
        dsimp only
        go_wp2_with fail
        refine (F.size (ys.length : Int) _ (by omega) (by omega)).mono ?_
        rintro e w4 ⟨rfl, hB4⟩
        rw [hsz]
        have HL4 := hide (HL3.out.below hB4)
        have HB4 := hide (HB3.out.trans (hB4.mono HB3.out.size))
        clear hB4
        have q1 : (((8 + ys.length : Nat) : Int) == 8 + (ys.length : Int)) = true := by simp
        have q2 : ((8 + (ys.length : Int)) == 8 + (ys.length : Int)) = true := by simp
        go_wp2_with fail
        refine (same_any _ _ ys _ HL4.out (HL.out.below HB4.out)).mono ?_
        rintro e w5 ⟨rfl, rfl⟩
        go_wp2_with fail
        refine (fralive_any F _).mono ?_
        rintro e w6 ⟨rfl, hB6⟩
        have HB6 := hide (HB4.out.trans (hB6.mono HB4.out.size))
        clear hB6
        go_wp2_with fail
        go_ret
        exact ⟨rfl, HB6.out⟩
      · rw [put_no [] ys h4] at ho1 ⊢
        dsimp only at ho1 ⊢
        obtain ⟨a1, c1, e1⟩ := (Lies.of_own ho1).shape
        subst e1
        clear ho1
        have h4' : (4096 : Int) < (ys.length : Int) := by omega
        go_wp2_with fail
        refine (fralive_any F _).mono ?_
        rintro e w6 ⟨rfl, hB6⟩
        have HB6 := hide (HB1.out.trans (hB6.mono HB1.out.size))
        clear hB6
        go_wp2_with fail
        go_ret
        exact ⟨rfl, HB6.out⟩
end back4
end Go.Proofs.Ytgchgbbldhpgeaa
