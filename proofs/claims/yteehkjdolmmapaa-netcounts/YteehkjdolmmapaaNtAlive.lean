/-
  The probe 'alive' of layer 8, by the bundle. Own work.
-/
import Derived.Test.YteehkjdolmmapaaNtLaw
import Derived.Lib.SlBytesConst
namespace Go.Proofs.Yteehkjdolmmapaa
open Go.RowKit

theorem build1n {t : TypeId} (w : World) (a : Int) (fr : Nat × Nat) : Lies .u8 (w.alloc (.cells #[.int .u8 a] t fr)) (.slice (some ⟨w.heap.size, 0, none⟩) 1 1) [a] := by
  refine .inr ⟨by simp, w.heap.size, 0, 1, rfl, by simp, by simp, by decide, fun t ht => ?_⟩
  have ht2 : t < 1 := by simpa using ht
  match t, ht2 with
  | 0, _ => exact (cell_of_row _ _ 0 _ _ fr (heap_alloc_last w _)).trans rfl
theorem build1i {t : TypeId} (w : World) (a : Int) : Lies .i64 (w.alloc (.cells #[.int .i64 a] t)) (.slice (some ⟨w.heap.size, 0, none⟩) 1 1) [a] := by
  refine .inr ⟨by simp, w.heap.size, 0, 1, rfl, by simp, by simp, by decide, fun t ht => ?_⟩
  have ht2 : t < 1 := by simpa using ht
  match t, ht2 with
  | 0, _ => exact (cell_of_row _ _ 0 _ _ (0, 0) (heap_alloc_last w _)).trans rfl
def nl1 : Nt := senD (newN 3) ⟨0, 1, [97]⟩
def nl2 : Nt := senD nl1 ⟨0, 1, [98]⟩
def nl3 : Nt := latD nl2 0
def nl4 : Nt := takD nl3 0
theorem nl_facts : senA (newN 3) ⟨0, 1, [97]⟩ = 0 ∧ senA nl1 ⟨0, 1, [98]⟩ = 0 ∧ atA nl2 0 = 0 ∧ atA nl3 0 = 0 ∧ (nl3.nth 0).b = [98] ∧ nl4.l.length = 1 ∧ toL nl4 1 = [0] ∧ nl1.lost = 0 := by decide
section
variable {D : World → Nat → (Nat → Prop) → Nt → Prop}
/-- A network, and nothing below w turned since. -/
def Since8 (D : World → Nat → (Nat → Prop) → Nt → Prop) (w : World) (q : Nat) (n : Nt) (w' : World) : Prop := ∃ F, D w' q F n ∧ (∀ k, F k → w.heap.size ≤ k) ∧ Below w.heap.size w w'
theorem Since8.did {w w1 w2 : World} {q : Nat} {F : Nat → Prop} {n' : Nt} (hB : Below w.heap.size w w1) (hF : ∀ k, F k → w.heap.size ≤ k) (h : NDid D w1 w2 q F n') : Since8 D w q n' w2 := by
  obtain ⟨F', h1, hk, h2⟩ := h
  refine ⟨F', h1, fun k hk' => ?_, hB.trans (hk.below hB.size hF)⟩
  rcases h2 k hk' with h | h
  · exact hF k h
  · exact Nat.le_trans hB.size h
theorem NDidW.did {w w1 : World} {q : Nat} {F : Nat → Prop} {n' : Nt} {sv : Value} {bs : List Int} (h : NDidW D w w1 q F n' sv bs) : NDid D w w1 q F n' := by
  obtain ⟨F', h1, h2, h3, _, _⟩ := h
  exact ⟨F', h1, h2, h3⟩
set_option maxRecDepth 100000 in
set_option maxHeartbeats 3200000 in
theorem alive_by8 (H : NetDo D) (w : World) :
    Calls Try.prog 9 #[] w fun e w' => e = .returned (.bool true) ∧ Below w.heap.size w w' := by
  have HF0 := hide nl_facts
  have HSTR : Hid (strOfNums [98] = ⟨#[98]⟩) := hide (by decide)
  go_enter Try.func9, Try.ntmps9
  go_wp2_with fail
  refine (H.new 3 w (by decide)).mono ?_
  rintro e w1 ⟨q, F, rfl, hD1, hF1, hB1⟩
  have hA := alloc_below8 w1 (.cells #[.int .u8 97] 5 (1, 2))
  have C1 : Hid (Calls Try.prog 23 #[.pointer (some ⟨q, 0, none⟩), .agg #[.int .u8 0, .int .u8 1, .slice (some ⟨w1.heap.size, 0, none⟩) 1 1]] (w1.alloc (.cells #[.int .u8 97] 5 (1, 2))) fun e w' => e = .returned (.int .i64 0) ∧ NDid D (w1.alloc (.cells #[.int .u8 97] 5 (1, 2))) w' q F nl1) := hide (by
    have := H.sen ⟨0, 1, [97]⟩ (.slice (some ⟨w1.heap.size, 0, none⟩) 1 1) (H.below hD1 hA) ⟨by decide, by decide, by decide⟩ (build1n w1 97 (1, 2)) (by decide)
    rw [show senA (newN (Int.toNat 3)) ⟨0, 1, [97]⟩ = 0 from HF0.out.1] at this
    exact this)
  have HF := hide hF1
  have HB := hide (hB1.trans (hA.mono hB1.size))
  have hcc := Lib.run_convert_bytes_const (P := Try.prog) w1 35 5 #[.int .u8 97] 1 1 Try.underlying35 Try.underlying5
  clear hD1 hF1 hB1 hA
  go_wp2_with fail
  refine C1.out.mono ?_
  rintro e w2 ⟨rfl, h2⟩
  obtain ⟨F2, hD2, hF2, hB2⟩ := Since8.did HB.out HF.out h2
  clear h2 C1 hcc HF HB
  have hA := alloc_below8 w2 (.cells #[.int .u8 98] 5 (1, 2))
  have C1 : Hid (Calls Try.prog 23 #[.pointer (some ⟨q, 0, none⟩), .agg #[.int .u8 0, .int .u8 1, .slice (some ⟨w2.heap.size, 0, none⟩) 1 1]] (w2.alloc (.cells #[.int .u8 98] 5 (1, 2))) fun e w' => e = .returned (.int .i64 0) ∧ NDid D (w2.alloc (.cells #[.int .u8 98] 5 (1, 2))) w' q F2 nl2) := hide (by
    have := H.sen ⟨0, 1, [98]⟩ (.slice (some ⟨w2.heap.size, 0, none⟩) 1 1) (H.below hD2 hA) ⟨by decide, by decide, by decide⟩ (build1n w2 98 (1, 2)) (by decide)
    rw [HF0.out.2.1] at this
    exact this)
  have HF := hide hF2
  have HB := hide (hB2.trans (hA.mono hB2.size))
  have hcc := Lib.run_convert_bytes_const (P := Try.prog) w2 35 5 #[.int .u8 98] 1 1 Try.underlying35 Try.underlying5
  clear hD2 hF2 hB2 hA
  go_wp2_with fail
  refine C1.out.mono ?_
  rintro e w3 ⟨rfl, h3⟩
  obtain ⟨F3, hD3, hF3, hB3⟩ := Since8.did HB.out HF.out h3
  clear h3 C1 hcc HF HB
  have C := H.lat 0 hD3
  rw [HF0.out.2.2.1] at C
  have HC := hide C
  have HF := hide hF3
  have HB := hide hB3
  clear C hD3 hF3 hB3
  go_wp2_with fail
  refine HC.out.mono ?_
  rintro e w4 ⟨rfl, h4⟩
  obtain ⟨F4, hD4, hF4, hB4⟩ := Since8.did HB.out HF.out (show NDid D w3 w4 q F3 nl3 from h4)
  have C := H.tak 0 hD4
  rw [HF0.out.2.2.2.1] at C
  replace HC := hide C
  replace HF := hide hF4
  replace HB := hide hB4
  clear C hD4 hF4 hB4 h4
  go_wp2_with fail
  refine HC.out.mono ?_
  rintro e w5 ⟨sv5, rfl, h5⟩
  obtain ⟨F5, hD5, hF5, hB5⟩ := Since8.did HB.out HF.out (show NDid D w4 w5 q F4 nl4 from NDidW.did h5)
  obtain ⟨_, _, _, _, ho5, _⟩ := h5
  obtain ⟨a5, c5, hv5⟩ := (Lies.of_own ho5).shape
  subst hv5
  have HL5 := Lies.of_own ho5
  have hA := alloc_below8 w5 (.cells (wcs (nl3.nth 0) (.slice a5 (nl3.nth 0).b.length c5)) 50)
  have hcv := (HL5.below hA).convert
  rw [show strOfNums (nl3.nth 0).b = ⟨#[98]⟩ by rw [HF0.out.2.2.2.2.1, HSTR.out]] at hcv
  have C := H.len (H.below hD5 hA)
  rw [HF0.out.2.2.2.2.2.1] at C
  replace HC := hide C
  have HD := hide (H.below hD5 hA)
  replace HF := hide hF5
  replace HB := hide (hB5.trans (hA.mono hB5.size))
  unfold wcs at hcv HC HD HB ⊢
  clear C hD5 hF5 hB5 ho5 HL5 hA
  go_wp2_with fail
  refine HC.out.mono ?_
  rintro e w6 ⟨rfl, m6, hw6⟩
  have hB6 : Below _ _ w6 := hw6 ▸ below_drewN8 _ m6
  have hD6 := H.below HD.out hB6
  have C := H.to' 1 hD6 (by decide)
  rw [HF0.out.2.2.2.2.2.2.1] at C
  replace HC := hide C
  replace HB := hide (HB.out.trans (hB6.mono HB.out.size))
  clear C hw6 hB6 hD6 HD hcv
  go_wp2_with fail
  refine HC.out.mono ?_
  rintro e w7 ⟨v7, rfl, hL7, hB7⟩
  replace HB := hide (HB.out.trans (hB7.mono HB.out.size))
  obtain ⟨a7, c7, hv7⟩ := hL7.shape
  subst hv7
  have hA := alloc_below8 w7 (.cells #[.int .i64 0] 3)
  have CI := hide (ints_any _ _ [0] _ (hL7.below hA) (build1i w7 0))
  replace HB := hide (HB.out.trans (hA.mono HB.out.size))
  clear hL7 hB7 hA HC
  go_wp2_with fail
  refine CI.out.mono ?_
  rintro e w8 ⟨rfl, m8, hw8⟩
  have hB8 : Below _ _ w8 := hw8 ▸ below_drewN8 _ m8
  replace HB := hide (HB.out.trans (hB8.mono HB.out.size))
  clear hw8 hB8 CI
  go_wp2_with fail
  go_ret
  exact ⟨rfl, HB.out⟩
end
end Go.Proofs.Yteehkjdolmmapaa
