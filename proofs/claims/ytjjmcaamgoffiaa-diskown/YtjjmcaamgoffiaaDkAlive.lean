/-
  The probe 'alive' of layer 7, by the bundle. Own work.
-/
import Derived.Test.YtjjmcaamgoffiaaDkLaw
import Derived.Lib.SlBytesConst
namespace Go.Proofs.Ytjjmcaamgoffiaa
open Go.RowKit

theorem build2d {t : TypeId} (w : World) (a b : Int) (fr : Nat × Nat) : Lies .u8 (w.alloc (.cells #[.int .u8 a, .int .u8 b] t fr)) (.slice (some ⟨w.heap.size, 0, none⟩) 2 2) [a, b] := by
  refine .inr ⟨by simp, w.heap.size, 0, 2, rfl, by simp, by simp, by decide, fun t ht => ?_⟩
  have ht2 : t < 2 := by simpa using ht
  match t, ht2 with
  | 0, _ => exact (cell_of_row _ _ 0 _ _ fr (heap_alloc_last w _)).trans rfl
  | 1, _ => exact (cell_of_row _ _ 1 _ _ fr (heap_alloc_last w _)).trans rfl
def al1 : Dk := appD (newD 100) [97, 98]
def al2 : Dk := forD al1
def al3 : Dk := appD al2 [99, 100]
def al4 : Dk := faiD al3
def al5 : Dk := staD al4 1 false []
theorem al_facts : appA (newD 100) [97, 98] = (0, 0) ∧ forA al1 = 0 ∧ faiA al3 = 0 ∧ staA al4 [] = 0 ∧ reaA al5 = 0 ∧ reaB al5 = [97, 98, 99] ∧ al5.bs.length = 3 := by decide
section
variable {D : World → Nat → (Nat → Prop) → Dk → Prop}
/-- A disk, and nothing below w turned since. -/
def Since7 (D : World → Nat → (Nat → Prop) → Dk → Prop) (w : World) (q : Nat) (d : Dk) (w' : World) : Prop := ∃ F, D w' q F d ∧ (∀ k, F k → w.heap.size ≤ k) ∧ Below w.heap.size w w'
theorem Since7.did {w w1 w2 : World} {q : Nat} {F : Nat → Prop} {d' : Dk} (hB : Below w.heap.size w w1) (hF : ∀ k, F k → w.heap.size ≤ k) (h : Did D w1 w2 q F d') : Since7 D w q d' w2 := by
  obtain ⟨F', h1, hk, h2⟩ := h
  refine ⟨F', h1, fun k hk' => ?_, hB.trans (hk.below hB.size hF)⟩
  rcases h2 k hk' with h | h
  · exact hF k h
  · exact Nat.le_trans hB.size h
set_option maxRecDepth 100000 in
set_option maxHeartbeats 3200000 in
theorem alive_by (H : DiskDo D) (w : World) :
    Calls Try.prog 9 #[] w fun e w' => e = .returned (.bool true) ∧ Below w.heap.size w w' := by
  obtain ⟨f1, f2, f3, f4, f5, f6, f7⟩ := al_facts
  have HF := hide (And.intro f1 (And.intro f2 (And.intro f3 (And.intro f4 (And.intro f5 (And.intro f6 f7))))))
  have HSTR : Hid (strOfNums [97, 98, 99] = ⟨#[97, 98, 99]⟩) := hide (by decide)
  clear f1 f2 f3 f4 f5 f6 f7
  go_enter Try.func9, Try.ntmps9
  go_wp2_with fail
  refine (H.new 100 w (by decide)).mono ?_
  rintro e w1 ⟨q, F, rfl, hD1, hF1, hB1⟩
  have HA1 := hide (H.below hD1 (alloc_below7 w1 (.cells #[.int .u8 97, .int .u8 98] 5 (2, 3))))
  have HF1 := hide hF1
  have HB1 := hide (hB1.trans ((alloc_below7 w1 (.cells #[.int .u8 97, .int .u8 98] 5 (2, 3))).mono hB1.size))
  clear hD1 hF1 hB1
  have hcc := Lib.run_convert_bytes_const (P := Try.prog) w1 29 5 #[.int .u8 97, .int .u8 98] 2 2 Try.underlying29 Try.underlying5
  go_wp2_with fail
  refine (H.app _ [97, 98] HA1.out (build2d w1 97 98 (2, 3)) (by decide) (by decide) (by decide)).mono ?_
  rintro e w2 ⟨rfl, h2⟩
  have HS2 : Hid (Since7 D w q al1 w2) := hide (Since7.did HB1.out HF1.out h2)
  clear h2 HA1 HF1 HB1 hcc
  have e1 : appA (newD (Int.toNat 100)) [97, 98] = (0, 0) := HF.out.1
  rw [e1]
  obtain ⟨F2, hD2, hF2, hB2⟩ := HS2.out
  have HF2 := hide hF2
  have HB2 := hide hB2
  have C3 := hide (H.for' hD2)
  clear hD2 hF2 hB2 HS2 e1
  go_wp2_with fail
  refine C3.out.mono ?_
  rintro e w3 ⟨rfl, h3⟩
  have HS3 : Hid (Since7 D w q al2 w3) := hide (Since7.did HB2.out HF2.out h3)
  rw [HF.out.2.1]
  clear h3 HF2 HB2 C3
  obtain ⟨F3, hD3, hF3, hB3⟩ := HS3.out
  have HF3 := hide hF3
  have HB3 := hide (hB3.trans ((alloc_below7 w3 (.cells #[.int .u8 99, .int .u8 100] 5 (2, 3))).mono hB3.size))
  have C4 := hide (H.app _ [99, 100] (H.below hD3 (alloc_below7 w3 (.cells #[.int .u8 99, .int .u8 100] 5 (2, 3)))) (build2d w3 99 100 (2, 3)) (by decide) (by decide) (by decide))
  clear hD3 hF3 hB3 HS3
  have hcc := Lib.run_convert_bytes_const (P := Try.prog) w3 29 5 #[.int .u8 99, .int .u8 100] 2 2 Try.underlying29 Try.underlying5
  go_wp2_with fail
  refine C4.out.mono ?_
  rintro e w4 ⟨rfl, h4⟩
  have HS4 : Hid (Since7 D w q al3 w4) := hide (Since7.did HB3.out HF3.out h4)
  clear h4 HF3 HB3 C4 hcc
  obtain ⟨F4, hD4, hF4, hB4⟩ := HS4.out
  have HF4 := hide hF4
  have HB4 := hide hB4
  have C5 := hide (H.fai hD4)
  clear hD4 hF4 hB4 HS4
  go_wp2_with fail
  refine C5.out.mono ?_
  rintro e w5 ⟨rfl, h5⟩
  have HS5 : Hid (Since7 D w q al4 w5) := hide (Since7.did HB4.out HF4.out h5)
  rw [HF.out.2.2.1]
  clear h5 HF4 HB4 C5
  obtain ⟨F5, hD5, hF5, hB5⟩ := HS5.out
  have HF5 := hide hF5
  have HB5 := hide hB5
  have C6 := hide (H.sta 1 false (.slice none 0 0) [] hD5 (Lies.nil _ _) (by simp) (by simp) (by decide) (by decide))
  clear hD5 hF5 hB5 HS5
  go_wp2_with fail
  refine C6.out.mono ?_
  rintro e w6 ⟨rfl, h6⟩
  have HS6 : Hid (Since7 D w q al5 w6) := hide (Since7.did HB5.out HF5.out h6)
  rw [HF.out.2.2.2.1]
  clear h6 HF5 HB5 C6
  obtain ⟨F6, hD6, hF6, hB6⟩ := HS6.out
  have HD6 := hide hD6
  have HB6 := hide hB6
  have C7 := hide (H.rea hD6)
  clear hD6 hF6 hB6 HS6
  go_wp2_with fail
  refine C7.out.mono ?_
  rintro e w7 ⟨v7, rfl, hO7, hB7⟩
  have hL7 := Lies.of_own hO7
  clear hO7
  rw [HF.out.2.2.2.2.2.1] at hL7
  rw [HF.out.2.2.2.2.1]
  have hcv := hL7.convert
  rw [HSTR.out] at hcv
  have C8 := hide (H.end' (H.below HD6.out hB7))
  have HB7 := hide (HB6.out.trans (hB7.mono HB6.out.size))
  rw [HF.out.2.2.2.2.2.2] at C8
  clear hL7 hB7 C7 HB6 HD6
  go_wp2_with fail
  refine C8.out.mono ?_
  rintro e w8 ⟨rfl, m8, hw8⟩
  have hB8 : Below w7.heap.size w7 w8 := hw8 ▸ below_drewN7 w7 m8
  clear hw8
  have HB8 := hide (HB7.out.trans (hB8.mono HB7.out.size))
  clear hB8 C8 hcv
  go_wp2_with fail
  go_ret
  exact ⟨rfl, HB8.out⟩
end
end Go.Proofs.Ytjjmcaamgoffiaa
