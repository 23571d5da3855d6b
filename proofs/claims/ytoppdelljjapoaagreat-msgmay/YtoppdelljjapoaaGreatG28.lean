/-
  Own texts put together: MpMore. Own work.
-/
import Derived.Test.YtoppdelljjapoaaGreatG24
namespace Go.Proofs.YtoppdelljjapoaaGreat
section
open Go.RowKit Classical

set_option maxRecDepth 100000 in
set_option maxHeartbeats 1600000 in
theorem regMayC_any (g : Nat × Nat) (kind b1 q : Nat) (w : World) (h1 : w.cell? ⟨b1, 0, none⟩ = some (.pointer (some ⟨q, 0, none⟩))) (h2 : w.cell? ⟨q, 0, none⟩ = some (.int .u8 (kind : Int))) (hb1 : b1 < w.heap.size) (hq : q < w.heap.size) :
    Calls Tryz.prog 84 #[.agg (rgE g).toArray, .pointer (some ⟨b1, 0, none⟩)] w fun e w' => e = .returned (.bool (regMayB ((g.1 : Int), (g.2 : Int)) || ((kind == 1 || kind == 5) && g == (0, 0)))) ∧ Below w.heap.size w w' := by
  obtain ⟨g1, g2⟩ := g
  have hA := alloc_below10 w (.cells (rgE (g1, g2)).toArray 26)
  have hX := box_new w (rgE (g1, g2)).toArray 26
  obtain ⟨w1, hw1⟩ : ∃ w1, w1 = w.alloc (.cells (rgE (g1, g2)).toArray 26) := ⟨_, rfl⟩
  rw [← hw1] at hA hX
  have C := hide (regMay_any (g1 : Int) (g2 : Int) w1)
  have HA := hide hA
  have HX := hide hX
  have hW := hw1.symm
  obtain ⟨R, hR⟩ : ∃ R, R = (regMayB ((g1 : Int), (g2 : Int)) || ((kind == 1 || kind == 5) && (g1, g2) == (0, 0))) := ⟨_, rfl⟩
  show Calls _ _ _ _ fun e w' => e = .returned (.bool (regMayB ((g1 : Int), (g2 : Int)) || ((kind == 1 || kind == 5) && (g1, g2) == (0, 0)))) ∧ Below w.heap.size w w'
  rw [← hR]
  have HR := hide hR
  have HC1 : Hid (∀ W, Below w1.heap.size w1 W → W.cell? ⟨b1, 0, none⟩ = some (.pointer (some ⟨q, 0, none⟩)) ∧ W.cell? ⟨q, 0, none⟩ = some (.int .u8 (kind : Int))) := hide (fun W hB => by
    have hT := hA.trans (hB.mono hA.size)
    exact ⟨(hT.cell (p := ⟨b1, 0, none⟩) hb1).trans h1, (hT.cell (p := ⟨q, 0, none⟩) hq).trans h2⟩)
  clear hR hA hX hw1 h1 h2 hb1 hq
  cases hreg : regMayB ((g1 : Int), (g2 : Int)) with
  | true =>
    rw [hreg] at C
    have HE : Hid (R = true) := hide (by rw [HR.out, hreg]; rfl)
    clear hreg HC1
    have x0 := HX.out.cell 0 _ rfl
    have x1 := HX.out.cell 1 _ rfl
    go_enter Tryz.func84, Tryz.ntmps84
    go_wp2_with fail
    refine C.out.mono ?_
    rintro e w2 ⟨rfl, hB2⟩
    have HB2 := hide hB2
    clear hB2 x0 x1
    go_wp2_with fail
    go_ret
    exact ⟨by rw [HE.out]; rfl, HA.out.trans (HB2.out.mono HA.out.size)⟩
  | false =>
    rw [hreg] at C
    have HE0 : Hid (R = ((kind == 1 || kind == 5) && (g1, g2) == (0, 0))) := hide (by rw [HR.out, hreg]; rfl)
    clear hreg HR
    by_cases hg1 : g1 = 0
    · subst hg1
      by_cases hg2 : g2 = 0
      · subst hg2
        by_cases hk1 : kind = 1
        · subst hk1
          have HE : Hid (R = true) := hide (by rw [HE0.out]; rfl)
          clear HE0
          have x0 := HX.out.cell 0 _ rfl
          have x1 := HX.out.cell 1 _ rfl
          go_enter Tryz.func84, Tryz.ntmps84
          go_wp2_with fail
          refine C.out.mono ?_
          rintro e w2 ⟨rfl, hB2⟩
          have HB2 := hide hB2
          have z0 := (HX.out.belowI hB2).cell 0 _ rfl
          have z1 := (HX.out.belowI hB2).cell 1 _ rfl
          have y1 := (HC1.out w2 hB2).1
          have y2 := (HC1.out w2 hB2).2
          clear hB2 x0 x1
          go_wp2_with fail
          go_ret
          exact ⟨by rw [HE.out]; rfl, HA.out.trans (HB2.out.mono HA.out.size)⟩
        · have d1 : ((kind : Int) == 1) = false := by simp; omega
          have HE : Hid (R = ((kind : Int) == 5)) := hide (by rw [HE0.out, Bool.eq_iff_iff]; simp; omega)
          clear HE0 hk1
          have x0 := HX.out.cell 0 _ rfl
          have x1 := HX.out.cell 1 _ rfl
          go_enter Tryz.func84, Tryz.ntmps84
          go_wp2_with fail
          refine C.out.mono ?_
          rintro e w2 ⟨rfl, hB2⟩
          have HB2 := hide hB2
          have z0 := (HX.out.belowI hB2).cell 0 _ rfl
          have z1 := (HX.out.belowI hB2).cell 1 _ rfl
          have y1 := (HC1.out w2 hB2).1
          have y2 := (HC1.out w2 hB2).2
          clear hB2 x0 x1
          go_wp2_with fail
          go_ret
          exact ⟨by rw [HE.out]; rfl, HA.out.trans (HB2.out.mono HA.out.size)⟩
      · have HE : Hid (R = false) := hide (by rw [HE0.out]; simp [hg2])
        clear HE0
        have x0 := HX.out.cell 0 _ rfl
        have x1 := HX.out.cell 1 _ rfl
        go_enter Tryz.func84, Tryz.ntmps84
        go_wp2_with fail
        refine C.out.mono ?_
        rintro e w2 ⟨rfl, hB2⟩
        have HB2 := hide hB2
        have z0 := (HX.out.belowI hB2).cell 0 _ rfl
        have z1 := (HX.out.belowI hB2).cell 1 _ rfl
        have y1 := (HC1.out w2 hB2).1
        have y2 := (HC1.out w2 hB2).2
        clear hB2 x0 x1
        go_wp2_with fail
        go_ret
        exact ⟨by rw [HE.out]; rfl, HA.out.trans (HB2.out.mono HA.out.size)⟩
    · have HE : Hid (R = false) := hide (by rw [HE0.out]; simp [hg1])
      clear HE0
      have x0 := HX.out.cell 0 _ rfl
      have x1 := HX.out.cell 1 _ rfl
      go_enter Tryz.func84, Tryz.ntmps84
      go_wp2_with fail
      refine C.out.mono ?_
      rintro e w2 ⟨rfl, hB2⟩
      have HB2 := hide hB2
      have z0 := (HX.out.belowI hB2).cell 0 _ rfl
      have z1 := (HX.out.belowI hB2).cell 1 _ rfl
      have y1 := (HC1.out w2 hB2).1
      have y2 := (HC1.out w2 hB2).2
      clear hB2 x0 x1
      go_wp2_with fail
      go_ret
      exact ⟨by rw [HE.out]; rfl, HA.out.trans (HB2.out.mono HA.out.size)⟩
def FoundAt (z : Int) (xs : List Int) (x : Int) : Prop := decide (0 ≤ z) = xs.contains x
def natsI (l : List Nat) : List Int := l.map (fun n : Nat => (n : Int))
set_option maxRecDepth 100000 in
set_option maxHeartbeats 1600000 in
theorem fieldsOf_any (kind : Nat) (w : World) : Calls Tryz.prog 41 #[.int .u8 (kind : Int)] w fun e w' => ∃ v, e = .returned v ∧ Lies .i64 w' v (natsI (fieldsN kind)) ∧ Below w.heap.size w w' := by
  by_cases h : fieldsN kind = []
  · rw [h]
    have d1 : ((kind : Int) == 1) = false := by
      rw [Bool.eq_false_iff]
      intro e
      have e : kind = 1 := by simp at e; omega
      rw [e] at h
      cases h
    have d2 : ((kind : Int) == 2) = false := by
      rw [Bool.eq_false_iff]
      intro e
      have e : kind = 2 := by simp at e; omega
      rw [e] at h
      cases h
    have d3 : ((kind : Int) == 3) = false := by
      rw [Bool.eq_false_iff]
      intro e
      have e : kind = 3 := by simp at e; omega
      rw [e] at h
      cases h
    have d4 : ((kind : Int) == 4) = false := by
      rw [Bool.eq_false_iff]
      intro e
      have e : kind = 4 := by simp at e; omega
      rw [e] at h
      cases h
    have d5 : ((kind : Int) == 5) = false := by
      rw [Bool.eq_false_iff]
      intro e
      have e : kind = 5 := by simp at e; omega
      rw [e] at h
      cases h
    have d6 : ((kind : Int) == 6) = false := by
      rw [Bool.eq_false_iff]
      intro e
      have e : kind = 6 := by simp at e; omega
      rw [e] at h
      cases h
    have d7 : ((kind : Int) == 7) = false := by
      rw [Bool.eq_false_iff]
      intro e
      have e : kind = 7 := by simp at e; omega
      rw [e] at h
      cases h
    have d8 : ((kind : Int) == 8) = false := by
      rw [Bool.eq_false_iff]
      intro e
      have e : kind = 8 := by simp at e; omega
      rw [e] at h
      cases h
    have d9 : ((kind : Int) == 9) = false := by
      rw [Bool.eq_false_iff]
      intro e
      have e : kind = 9 := by simp at e; omega
      rw [e] at h
      cases h
    have d10 : ((kind : Int) == 10) = false := by
      rw [Bool.eq_false_iff]
      intro e
      have e : kind = 10 := by simp at e; omega
      rw [e] at h
      cases h
    have d11 : ((kind : Int) == 11) = false := by
      rw [Bool.eq_false_iff]
      intro e
      have e : kind = 11 := by simp at e; omega
      rw [e] at h
      cases h
    go_enter Tryz.func41, Tryz.ntmps41
    go_wp2_with fail
    go_ret
    exact ⟨_, rfl, Lies.nil _ _, Below.refl _ _⟩
  · rcases fields_kind h with rfl | rfl | rfl | rfl | rfl | rfl | rfl | rfl | rfl | rfl | rfl
    · have HL := hide (lies_new .i64 w [0, 1, 2, 3, 4, 5] 3 (by simp) (by decide))
      have HB := hide (alloc_below10 w (.cells #[.int .i64 0, .int .i64 1, .int .i64 2, .int .i64 3, .int .i64 4, .int .i64 5] 3))
      clear h
      go_enter Tryz.func41, Tryz.ntmps41
      go_wp2_with fail
      go_ret
      exact ⟨_, rfl, HL.out, HB.out⟩
    · have HL := hide (lies_new .i64 w [0, 2, 3, 4, 5, 8] 3 (by simp) (by decide))
      have HB := hide (alloc_below10 w (.cells #[.int .i64 0, .int .i64 2, .int .i64 3, .int .i64 4, .int .i64 5, .int .i64 8] 3))
      clear h
      go_enter Tryz.func41, Tryz.ntmps41
      go_wp2_with fail
      go_ret
      exact ⟨_, rfl, HL.out, HB.out⟩
    · have HL := hide (lies_new .i64 w [0, 5, 6] 3 (by simp) (by decide))
      have HB := hide (alloc_below10 w (.cells #[.int .i64 0, .int .i64 5, .int .i64 6] 3))
      clear h
      go_enter Tryz.func41, Tryz.ntmps41
      go_wp2_with fail
      go_ret
      exact ⟨_, rfl, HL.out, HB.out⟩
    · have HL := hide (lies_new .i64 w [0, 2] 3 (by simp) (by decide))
      have HB := hide (alloc_below10 w (.cells #[.int .i64 0, .int .i64 2] 3))
      clear h
      go_enter Tryz.func41, Tryz.ntmps41
      go_wp2_with fail
      go_ret
      exact ⟨_, rfl, HL.out, HB.out⟩
    · have HL := hide (lies_new .i64 w [0, 2, 9] 3 (by simp) (by decide))
      have HB := hide (alloc_below10 w (.cells #[.int .i64 0, .int .i64 2, .int .i64 9] 3))
      clear h
      go_enter Tryz.func41, Tryz.ntmps41
      go_wp2_with fail
      go_ret
      exact ⟨_, rfl, HL.out, HB.out⟩
    · have HL := hide (lies_new .i64 w [0, 2, 7] 3 (by simp) (by decide))
      have HB := hide (alloc_below10 w (.cells #[.int .i64 0, .int .i64 2, .int .i64 7] 3))
      clear h
      go_enter Tryz.func41, Tryz.ntmps41
      go_wp2_with fail
      go_ret
      exact ⟨_, rfl, HL.out, HB.out⟩
    · have HL := hide (lies_new .i64 w [0, 7] 3 (by simp) (by decide))
      have HB := hide (alloc_below10 w (.cells #[.int .i64 0, .int .i64 7] 3))
      clear h
      go_enter Tryz.func41, Tryz.ntmps41
      go_wp2_with fail
      go_ret
      exact ⟨_, rfl, HL.out, HB.out⟩
    · have HL := hide (lies_new .i64 w [0] 3 (by simp) (by decide))
      have HB := hide (alloc_below10 w (.cells #[.int .i64 0] 3))
      clear h
      go_enter Tryz.func41, Tryz.ntmps41
      go_wp2_with fail
      go_ret
      exact ⟨_, rfl, HL.out, HB.out⟩
    · have HL := hide (lies_new .i64 w [0] 3 (by simp) (by decide))
      have HB := hide (alloc_below10 w (.cells #[.int .i64 0] 3))
      clear h
      go_enter Tryz.func41, Tryz.ntmps41
      go_wp2_with fail
      go_ret
      exact ⟨_, rfl, HL.out, HB.out⟩
    · have HL := hide (lies_new .i64 w [0, 3, 8] 3 (by simp) (by decide))
      have HB := hide (alloc_below10 w (.cells #[.int .i64 0, .int .i64 3, .int .i64 8] 3))
      clear h
      go_enter Tryz.func41, Tryz.ntmps41
      go_wp2_with fail
      go_ret
      exact ⟨_, rfl, HL.out, HB.out⟩
    · have HL := hide (lies_new .i64 w [0, 3] 3 (by simp) (by decide))
      have HB := hide (alloc_below10 w (.cells #[.int .i64 0, .int .i64 3] 3))
      clear h
      go_enter Tryz.func41, Tryz.ntmps41
      go_wp2_with fail
      go_ret
      exact ⟨_, rfl, HL.out, HB.out⟩
set_option maxRecDepth 100000 in
theorem index_any (v : Value) (xs : List Int) (x : Int) (w : World) (h : Lies .i64 w v xs) :
    Calls Tryz.prog 106 #[v, .int .i64 x] w fun e w' => ∃ z : Int, e = .returned (.int .i64 z) ∧ FoundAt z xs x ∧ Below w.heap.size w w' := by
  have hml := h.len
  unfold maxLen at hml
  obtain ⟨ao, cap, rfl⟩ := h.shape
  obtain ⟨L, hL⟩ : ∃ L, L = xs.length := ⟨_, rfl⟩
  have H := hide h
  rw [← hL] at hml ⊢
  rw [← hL] at H
  have HL := hide hL
  clear h hL
  go_enter Tryz.func106, Tryz.ntmps106
  go_wp2_with fail
  go_loopg [8] L (fun g i wr => ∃ k : Nat, k + g = L ∧ i = .int .i64 k ∧ Hid (Below w.heap.size w wr) ∧ Hid (∀ j, j < k → xs.getD j 0 ≠ x))
  case atStart => exact ⟨0, by omega, rfl, hide (Below.refl _ _), hide (fun j h => absurd h (Nat.not_lt_zero _))⟩
  case round =>
    obtain ⟨k, hk, rfl, HBW, HT⟩ := hrel
    cases gk with
    | zero =>
      obtain rfl : k = L := by omega
      have hz : ¬ ((k : Int) < (k : Int)) := by omega
      go_wp2_with fail
      go_ret
      refine ⟨-1, rfl, ?_, HBW.out⟩
      unfold FoundAt
      symm
      rw [show decide ((0 : Int) ≤ -1) = false from rfl, Bool.eq_false_iff]
      intro hc
      rw [List.contains_iff_mem] at hc
      obtain ⟨j, hj, hjx⟩ := List.getElem_of_mem hc
      refine HT.out j (by rw [HL.out]; exact hj) ?_
      simp [List.getD, hj, hjx]
    | succ g =>
      have hz : (k : Int) < (L : Int) := by omega
      have hz0 : (0 : Int) ≤ (k : Int) := by omega
      have hkl : k < xs.length := by rw [← HL.out]; omega
      have H1 := H.out.below HBW.out
      rcases H1 with ⟨he, _⟩ | ⟨_, b, off, c2, e2, _, _, _, hc⟩
      · rw [he] at hkl
        exact absurd hkl (Nat.not_lt_zero _)
      · cases e2
        have hcell := hc k hkl
        clear hc
        by_cases hx : xs.getD k 0 = x
        · rw [hx] at hcell
          go_wp2_with fail
          go_ret
          refine ⟨(k : Int), rfl, ?_, HBW.out⟩
          unfold FoundAt
          rw [decide_eq_true (by omega)]
          symm
          rw [List.contains_iff_mem, ← hx]
          simp [List.getD, hkl]
        · have hxe : (x == xs.getD k 0) = false := by simp; exact fun e => hx (by rw [e]; simp)
          have HT2 : Hid (∀ j, j < k + 1 → xs.getD j 0 ≠ x) := hide (fun j hj => by
            rcases Nat.lt_or_ge j k with h | h
            · exact HT.out j h
            · obtain rfl : j = k := by omega
              exact hx)
          generalize xs.getD k 0 = y at *
          go_wp2_with fail
          go_roundg g
          case measure => omega
          case rel => exact ⟨k + 1, by omega, by first | rfl | go_num, HBW, HT2⟩
theorem contains_any (v : Value) (xs : List Int) (x : Int) (w : World) (h : Lies .i64 w v xs) :
    Calls Tryz.prog 43 #[v, .int .i64 x] w fun e w' => e = .returned (.bool (xs.contains x)) ∧ Below w.heap.size w w' := by
  have C := hide (index_any v xs x w h)
  obtain ⟨ao, cap, rfl⟩ := h.shape
  obtain ⟨q, hq⟩ : ∃ q, q = xs.contains x := ⟨_, rfl⟩
  rw [← hq]
  have HQ := hide hq
  clear hq
  go_enter Tryz.func43, Tryz.ntmps43
  go_wp2_with (first | (go_at_call 106; refine C.out.mono ?_; rintro e w2 ⟨z, rfl, hz, hB2⟩; replace hz : decide (0 ≤ z) = q := hz.trans HQ.out.symm; have HB2 := hide hB2; clear hB2))
  go_ret
  exact ⟨rfl, HB2.out⟩
end
end Go.Proofs.YtoppdelljjapoaaGreat
