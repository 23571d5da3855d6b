/-
  Own texts put together: RvSeq, MgR3, MpSmall0, CWriter, CReader, CKinds, CFields, CFieldKey, CMethods, IdUnless, IdCode, IdCode2. Own work.
-/
import Derived.Test.YtodomdmmffooaaaG14
import Derived.Test.YtodomdmmffooaaaG15
import Derived.Test.YtodomdmmffooaaaG12
import Derived.Test.YtodomdmmffooaaaG13
import Derived.Test.YtodomdmmffooaaaG06
import Derived.Test.YtodomdmmffooaaaG02
import Derived.Test.YtodomdmmffooaaaG10
import Derived.Laws.IdiomStrings
import Derived.Deep.QuietTactic
import Derived.BigQuiet
import Derived.Laws.CopyRow
import Derived.Deep.RegionHeld
namespace Go.Proofs.Ytodomdmmffooaaa
section
open Go.RowKit Classical

theorem box_range {w : World} {p : Nat} {cs : Array Value} {t : TypeId} (h : Box w p cs t) (o : Nat) (xs : List Value) (he : ∀ j v, xs[j]? = some v → cs[o + j]? = some v) : w.rangeAt p o xs := fun j v hv => h.cell _ _ (he j v hv)
theorem eight_list {k : List Int} (h : k.length = 8) : [at8 k 0, at8 k 1, at8 k 2, at8 k 3, at8 k 4, at8 k 5, at8 k 6, at8 k 7] = k := by
  match k, h with
  | [_, _, _, _, _, _, _, _], _ => rfl
theorem eql_key10 {a b : List Int} (ha : a.length = 8) (hb : b.length = 8) (w : World) : (binOp .eql 53 (.agg (eightA a)) (.agg (eightA b))).run Try.prog w = .ok (.bool (decide (a = b))) w := by
  refine (eqli_key _ _ _ _ _ _ _ _ _ _ _ _ _ _ _ _ w).trans ?_
  rw [eight_list ha, eight_list hb]
end
section
open Go.RowKit Classical

theorem countMay_any (n : Nat) (w : World) : Calls Try.prog 81 #[.int .u32 (n : Int)] w fun e w' => e = .returned (.bool (decide (n ≤ mxN))) ∧ Below w.heap.size w w' := by
  have hd : decide ((n : Int) ≤ 2147483647) = decide (n ≤ mxN) := by
    rw [Bool.eq_iff_iff, decide_eq_true_eq, decide_eq_true_eq]
    show (n : Int) ≤ 2147483647 ↔ n ≤ 2147483647
    omega
  go_enter Try.func81, Try.ntmps81
  go_wp2
  go_ret
  exact ⟨rfl, Below.refl _ _⟩
set_option maxRecDepth 100000 in
theorem keyMay_any (k : List Int) (hk : KeyOk k) (w : World) : Calls Try.prog 54 #[.agg (eightA k)] w fun e w' => e = .returned (.bool (nameF k).2) ∧ Below w.heap.size w w' := by
  have hA := alloc_below10 w (.cells (eightA k) 53)
  have hX := box_new w (eightA k) 53
  obtain ⟨w1, hw1⟩ : ∃ w1, w1 = w.alloc (.cells (eightA k) 53) := ⟨_, rfl⟩
  rw [← hw1] at hA hX
  have C := name_any k hk.l hk.b w1
  have hc8 : cells8 k = eightA k := by unfold cells8; rw [← eightE_map hk.l]
  rw [hc8] at C
  have HC := hide C
  have HA := hide hA
  have hW := hw1.symm
  have HX := hide hX
  generalize (nameF k).1 = nm at *
  generalize (nameF k).2 = r at *
  clear hA hX hw1 C hc8
  go_enter Try.func54, Try.ntmps54
  go_wp2_with (first | (refine wp_load_box rfl _ rfl _ rfl HX.out Try.underlying53 rfl infoKey10 ?_) | (go_at_call 80; refine HC.out.mono ?_; rintro e w2 ⟨rfl, hB2⟩; have HB2 := hide hB2; clear hB2))
  go_ret
  exact ⟨rfl, HA.out.trans (HB2.out.mono HA.out.size)⟩
set_option maxRecDepth 100000 in
set_option maxHeartbeats 1600000 in
theorem itemMay_any (i : ItP) (hi : ItOk i) (w : World) : Calls Try.prog 55 #[.agg (itA i)] w fun e w' => e = .returned (.bool (itMayB i)) ∧ Below w.heap.size w w' := by
  have hA := alloc_below10 w (.cells (itA i) 57)
  have hX := box_new w (itA i) 57
  obtain ⟨w1, hw1⟩ : ∃ w1, w1 = w.alloc (.cells (itA i) 57) := ⟨_, rfl⟩
  rw [← hw1] at hA hX
  have C0 := hide (fun W => countMay_any i.ver W)
  have HCM := hide (fun W => may_any i.cf hi.c W)
  have HCA := hide (cf_arr hi.c)
  have HA := hide hA
  have hW := hw1.symm
  have HX := hide hX
  have x0 := hX.cell 0 _ rfl
  have hS := strOf_size10 i.val
  obtain ⟨R, hR⟩ : ∃ R, R = itMayB i := ⟨_, rfl⟩
  rw [← hR]
  by_cases h1 : i.ver ≤ mxN
  · have d1 : decide (i.ver ≤ mxN) = true := decide_eq_true h1
    rw [d1] at C0
    by_cases h2 : i.val.length ≤ 64
    · have d2 : decide ((i.val.length : Int) ≤ 64) = true := decide_eq_true (by omega)
      have HR : Hid (R = mayB i.cf) := hide (by rw [hR]; unfold itMayB; rw [decide_eq_true h1, decide_eq_true h2]; rfl)
      clear hA hX hw1 hR h1 h2 d1
      generalize mayB i.cf = q at *
      go_enter Try.func55, Try.ntmps55
      go_wp2_with fail
      refine (C0.out w1).mono ?_
      rintro e w2 ⟨rfl, hB2⟩
      have hX2 := HX.out.belowI hB2
      have HA2 := hide (HA.out.trans (hB2.mono HA.out.size))
      have y1 := hX2.cell 1 _ rfl
      have HX2 := hide hX2
      clear hB2 hX2 HX HA hW x0
      have HC := HCM.out w2
      rw [HCA.out] at HC
      have HC := hide HC
      have y2 := HX2.out.cell 2 _ rfl
      have y3 := HX2.out.cell 3 _ rfl
      have y4 := HX2.out.cell 4 _ rfl
      have y5 := HX2.out.cell 5 _ rfl
      have y6 := HX2.out.cell 6 _ rfl
      have y7 := HX2.out.cell 7 _ rfl
      have y8 := HX2.out.cell 8 _ rfl
      have y9 := HX2.out.cell 9 _ rfl
      have y10 := HX2.out.cell 10 _ rfl
      have y11 := HX2.out.cell 11 _ rfl
      have y12 := HX2.out.cell 12 _ rfl
      go_wp2_with (first | (go_at_call 82; refine HC.out.mono ?_; rintro e w3 ⟨rfl, hB3⟩; have HB3 := hide hB3; clear hB3))
      go_ret
      exact ⟨by rw [HR.out]; rfl, HA2.out.trans (HB3.out.mono HA2.out.size)⟩
    · have d2 : decide ((i.val.length : Int) ≤ 64) = false := decide_eq_false (by omega)
      have HR : Hid (R = false) := hide (by rw [hR]; unfold itMayB; rw [decide_eq_false h2, Bool.and_false]; rfl)
      clear hA hX hw1 hR h1 h2 d1
      go_enter Try.func55, Try.ntmps55
      go_wp2_with fail
      refine (C0.out w1).mono ?_
      rintro e w2 ⟨rfl, hB2⟩
      have hX2 := HX.out.belowI hB2
      have HA2 := hide (HA.out.trans (hB2.mono HA.out.size))
      have y1 := hX2.cell 1 _ rfl
      clear hB2 hX2 HX HA hW x0
      go_wp2_with fail
      go_ret
      exact ⟨by rw [HR.out]; rfl, HA2.out⟩
  · have d1 : decide (i.ver ≤ mxN) = false := decide_eq_false h1
    rw [d1] at C0
    have HR : Hid (R = false) := hide (by rw [hR]; unfold itMayB; rw [decide_eq_false h1]; rfl)
    clear hA hX hw1 hR h1 d1
    go_enter Try.func55, Try.ntmps55
    go_wp2_with fail
    refine (C0.out w1).mono ?_
    rintro e w2 ⟨rfl, hB2⟩
    have HA2 := hide (HA.out.trans (hB2.mono HA.out.size))
    clear hB2 HX HA hW x0
    go_wp2_with fail
    go_ret
    exact ⟨by rw [HR.out]; rfl, HA2.out⟩
end
section
open Go.RowKit

/-! A nil writer takes nothing. -/
/-! Clone, Bytes. -/
end
section
open Go.RowKit

theorem eight (l : List Int) (h : l.length = 8) : ∃ c0 c1 c2 c3 c4 c5 c6 c7, l = [c0, c1, c2, c3, c4, c5, c6, c7] := by
  match l, h with
  | [c0, c1, c2, c3, c4, c5, c6, c7], _ => exact ⟨c0, c1, c2, c3, c4, c5, c6, c7, rfl⟩
end
section
open Go.RowKit

/-! A nil reader. -/
end
section
open Go.RowKit

theorem KeepBut.one {p : Nat} {w w1 w2 : World} (h : KeepBut (fun k => k = p) w w1) (h' : KeepBut (fun k => k = p) w1 w2) : KeepBut (fun k => k = p) w w2 := h.trans h' (fun _ _ h => h)
end
end Go.Proofs.Ytodomdmmffooaaa
