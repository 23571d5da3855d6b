/-
  The laws' 'alive' of layer 3. Own work.
-/
import Derived.Test.YtkeedioifjabeaaCMethods
namespace Go.Proofs.Ytkeedioifjabeaa
open Go.RowKit

theorem short300 : shortS 300 = [172, 2] := by rw [shortS_ge (by decide), shortS_lt (by decide)]; rfl
theorem short2 : shortS 2 = [2] := by rw [shortS_lt (by decide)]; rfl
theorem strI_ab : strI ⟨#[97, 98]⟩ = [97, 98] := by simp [strI]
theorem al_num : numS 300 ⟨[172, 2, 1, 2, 97, 98], 0, 0, 0⟩ = (300, ⟨[1, 2, 97, 98], 2, 0, 0⟩) := by
  have := num_back 300 (by decide) [1, 2, 97, 98] 0 300 (by decide) 0
  rw [short300] at this
  exact this
theorem al_bool : boolS ⟨[1, 2, 97, 98], 2, 0, 0⟩ = (true, ⟨[2, 97, 98], 3, 0, 0⟩) := by
  have := bool_back true [2, 97, 98] 2 0
  exact this
theorem al_text : textS 2 ⟨[2, 97, 98], 3, 0, 0⟩ = ([97, 98], ⟨[], 6, 0, 0⟩) := by
  have := text_back [97, 98] (by decide) [] 3 0
  have e : shortS ([97, 98] : List Int).length = [2] := short2
  rw [e] at this
  exact this
theorem al_end : endS ⟨[], 6, 0, 0⟩ = ⟨[], 6, 0, 0⟩ := rfl
theorem str_ab : strOfNums [97, 98] = ⟨#[97, 98]⟩ := by rfl
theorem build6 (w : World) (c0 c1 c2 c3 c4 c5 : Int) : Lies .u8 (w.alloc (.cells #[.int .u8 c0, .int .u8 c1, .int .u8 c2, .int .u8 c3, .int .u8 c4, .int .u8 c5] 5)) (.slice (some ⟨w.heap.size, 0, none⟩) 6 6) [c0, c1, c2, c3, c4, c5] := by
  have := lies_box (w := w.alloc (.cells #[.int .u8 c0, .int .u8 c1, .int .u8 c2, .int .u8 c3, .int .u8 c4, .int .u8 c5] 5)) [c0, c1, c2, c3, c4, c5] (by simp) (box_new w _ 5) (by unfold maxLen; simp)
  exact this
set_option maxRecDepth 100000 in
set_option maxHeartbeats 3200000 in
theorem alive_any (w : World) : Calls Try.prog 9 #[] w fun e w' => e = .returned (.bool true) ∧ Below w.heap.size w w' := by
  have hfl := fld_why
  have hB0 := (Below.refl w.heap.size w).alloc (Nat.le_refl _) (.cells #[.slice none 0 0] 27)
  have h0 : CW (w.alloc (.cells #[.slice none 0 0] 27)) w.heap.size (.slice none 0 0) [] := ⟨box_new w _ _, World.ownsRow_nil _ _ _ _⟩
  have C1 := hide (cwnum_any w.heap.size (.slice none 0 0) [] 300 _ h0 (by unfold roomFor; simp) (by decide))
  have HB0 := hide hB0
  rw [short300] at C1
  clear hB0 h0
  go_enter Try.func9, Try.ntmps9
  go_wp2_with fail
  refine C1.out.mono ?_
  rintro e w1 ⟨rfl, v1, h1⟩
  have C2 := hide (cwbool_any w.heap.size v1 _ true w1 h1.wr (by unfold roomFor; simp))
  rw [show (if true = true then (1 : Int) else 0) = 1 from rfl] at C2
  have H1 := hide h1
  clear h1 C1
  go_wp2_with fail
  refine C2.out.mono ?_
  rintro e w2 ⟨rfl, v2, h2⟩
  have C3 := hide (cwtext_any w.heap.size v2 _ ⟨#[97, 98]⟩ w2 h2.wr (by unfold roomFor; simp [ByteArray.size]))
  have H2 := hide (H1.out.trans h2)
  clear h2 C2 H1
  go_wp2_with fail
  refine C3.out.mono ?_
  rintro e w3 ⟨rfl, v3, h3⟩
  have h3' := H2.out.trans h3
  have e3 : ([] ++ [172, 2] ++ [1] ++ shortS (⟨#[97, 98]⟩ : ByteArray).size ++ strI ⟨#[97, 98]⟩ : List Int) = [172, 2, 1, 2, 97, 98] := by
    rw [strI_ab, show (⟨#[97, 98]⟩ : ByteArray).size = 2 from rfl, short2]; rfl
  rw [e3] at h3'
  have HB3 := hide (HB0.out.trans (h3'.keep.below HB0.out.size (fun k hk => by
    rcases hk with e | e
    · omega
    · cases e)))
  have H3 := hide h3'.wr
  clear h3 h3' e3 H2 C3 HB0
  have C4 := hide (cwbytes_any w.heap.size v3 _ w3 H3.out (by simp))
  go_wp2_with fail
  refine C4.out.mono ?_
  rintro e w4 ⟨v4, rfl, ho4, hB4⟩
  have H4 := hide (H3.out.below hB4)
  have C5 := hide (new_any v4 [172, 2, 1, 2, 97, 98] w4 (Lies.of_own ho4) (by decide) (by simp))
  have HB4 := hide (HB3.out.trans (hB4.mono HB3.out.size))
  clear ho4 hB4 C4 H3 HB3
  go_wp2_with fail
  refine C5.out.mono ?_
  rintro e w5 ⟨p, vb, rfl, hR, hp, hv, hB5⟩
  have H5 := hide (H4.out.below hB5)
  have HR5 := hide hR
  have HP := hide (Nat.le_trans HB4.out.size hp)
  have HB5 := hide (HB4.out.trans (hB5.mono HB4.out.size))
  have C6 := hide (cwbytes_any w.heap.size v3 _ w5 H5.out (by simp))
  clear hR hp hv hB5 C5 H4 HB4
  go_wp2_with fail
  refine C6.out.mono ?_
  rintro e w6 ⟨v6, rfl, ho6, hB6⟩
  have HR6 := hide (HR5.out.below hB6)
  have HB6 := hide (HB5.out.trans (hB6.mono HB5.out.size))
  have HL6 := hide ((Lies.of_own ho6).below ((Below.refl _ _).alloc (Nat.le_refl _) (.cells #[.int .u8 172, .int .u8 2, .int .u8 1, .int .u8 2, .int .u8 97, .int .u8 98] 5)))
  have HR7 := hide (HR6.out.below ((Below.refl _ _).alloc (Nat.le_refl _) (.cells #[.int .u8 172, .int .u8 2, .int .u8 1, .int .u8 2, .int .u8 97, .int .u8 98] 5)))
  have HB7 := hide (HB6.out.alloc HB6.out.size (.cells #[.int .u8 172, .int .u8 2, .int .u8 1, .int .u8 2, .int .u8 97, .int .u8 98] 5))
  have C7 := hide (same_any v6 _ _ _ HL6.out (build6 w6 172 2 1 2 97 98))
  clear ho6 hB6 C6 HR5 HB5 HR6 HB6 HL6
  go_wp2_with fail
  refine C7.out.mono ?_
  rintro e w7 ⟨rfl, hw⟩
  subst hw
  have C8 := hide (crnum_any p vb _ _ _ HR7.out 300)
  rw [al_num] at C8
  simp only at C8
  clear C7
  go_wp2_with fail
  refine C8.out.mono ?_
  rintro e w8 ⟨rfl, h8, hk8⟩
  have C9 := hide (crbool_any p vb _ _ _ h8)
  rw [al_bool] at C9
  have HB8 := hide (HB7.out.trans (hk8.below HB7.out.size (fun k hk => by rw [hk]; exact HP.out)))
  simp only at C9
  clear C8 h8 hk8 HB7 HR7
  go_wp2_with fail
  refine C9.out.mono ?_
  rintro e w9 ⟨rfl, h9, hk9⟩
  have C10 := hide (crtext_any p vb _ _ _ h9 2 (by decide) (by decide))
  rw [al_text] at C10
  have HB9 := hide (HB8.out.trans (hk9.below HB8.out.size (fun k hk => by rw [hk]; exact HP.out)))
  simp only at C10
  rw [str_ab] at C10
  clear C9 h9 hk9 HB8
  go_wp2_with fail
  refine C10.out.mono ?_
  rintro e w10 ⟨rfl, h10, hk10⟩
  have C11 := hide (end_any p vb _ _ _ h10)
  rw [al_end] at C11
  have HB10 := hide (HB9.out.trans (hk10.below HB9.out.size (fun k hk => by rw [hk]; exact HP.out)))
  simp only at C11
  clear C10 h10 hk10 HB9
  go_wp2_with fail
  refine C11.out.mono ?_
  rintro e w11 ⟨rfl, h11, hk11⟩
  have HB11 := hide (HB10.out.trans (hk11.below HB10.out.size (fun k hk => by rw [hk]; exact HP.out)))
  clear C11 h11 hk11 HB10
  go_wp2_with fail
  go_ret
  exact ⟨rfl, HB11.out⟩
end Go.Proofs.Ytkeedioifjabeaa
