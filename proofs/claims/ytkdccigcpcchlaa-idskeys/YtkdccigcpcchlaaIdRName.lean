/-
  The reference's Name. Own work.
-/
import Derived.Test.YtkdccigcpcchlaaIdRKey
namespace Go.Proofs.Ytkdccigcpcchlaa
open Go.RowKit

theorem ahead_ne (ks : List Int) (k : Nat) (hk : k < (aheadF ks).length) : ks.getD k 0 ≠ 0 := by
  have h1 := aheadF_le ks
  have e : (aheadF ks)[k] = ks[k]'(by omega) := by
    have := aheadF_take ks
    rw [List.getElem_of_eq this]
    simp
  intro h0
  have : ks[k]'(by omega) = 0 := by
    have h2 : k < ks.length := by omega
    simpa [List.getD, h2] using h0
  rw [← e] at this
  exact aheadF_no ks (this ▸ List.getElem_mem hk)
theorem ahead_zero : ∀ ks : List Int, (aheadF ks).length < ks.length → ks.getD (aheadF ks).length 0 = 0
  | [], h => by simp at h
  | x :: r, h => by
    have ih := ahead_zero r
    unfold aheadF at h ⊢
    split
    · rename_i h0; rw [h0]; rfl
    · rename_i h0
      rw [if_neg h0] at h
      simp only [List.length_cons, List.getD_cons_succ] at h ⊢
      exact ih (by omega)
theorem name_all (ks : List Int) (hl : ks.length = 8) (h : ∀ j, (aheadF ks).length ≤ j → j < 8 → ks.getD j 0 = 0) : ks = aheadF ks ++ List.replicate (8 - (aheadF ks).length) 0 := by
  have h1 := aheadF_le ks
  have h2 := aheadF_take ks
  have h3 : ks.drop (aheadF ks).length = List.replicate (8 - (aheadF ks).length) 0 := by
    apply List.ext_getElem
    · simp [hl]
    · intro i hi1 hi2
      have hlt : (aheadF ks).length + i < ks.length := by simp at hi1; omega
      have := h ((aheadF ks).length + i) (by omega) (by omega)
      simp only [List.getElem_drop, List.getElem_replicate]
      simpa [List.getD, hlt] using this
  rw [← h3]
  conv => lhs; rw [← List.take_append_drop (aheadF ks).length ks, ← h2]
theorem name_other (ks : List Int) (j : Nat) (h1 : (aheadF ks).length ≤ j) (h2 : ks.getD j 0 ≠ 0) : ks ≠ aheadF ks ++ List.replicate (8 - (aheadF ks).length) 0 := by
  intro e
  have h3 : (aheadF ks ++ List.replicate (8 - (aheadF ks).length) 0).getD j 0 = 0 := by
    rw [List.getD_eq_getElem?_getD, List.getElem?_append_right h1, List.getElem?_replicate]
    split <;> rfl
  rw [← e] at h3
  exact h2 h3
theorem box_lies {w : World} {q : Nat} {ks : List Int} {t : TypeId} (h : Box w q (cells8 ks) t) (hl : ks.length = 8) : Lies .u8 w (.slice (some ⟨q, 0, none⟩) ks.length 8) ks :=
  .inr ⟨fun e => by rw [e] at hl; simp at hl, q, 0, 8, rfl, h.lt, by omega, by unfold maxLen; omega, fun t ht => by rw [Nat.zero_add]; exact h.cell t _ (by simp [cells8, List.getD, ht])⟩
set_option maxRecDepth 100000 in
set_option maxHeartbeats 1600000 in
theorem rname_any (ks : List Int) (hl : ks.length = 8) (w : World) :
    Calls Try.prog 12 #[.agg (cells8 ks)] w fun e w' => e = .returned (.tuple #[.string (strOfNums (nameF ks).1), .bool (nameF ks).2]) ∧ Below w.heap.size w w' := by
  have hle := aheadF_le ks
  rw [hl] at hle
  have HNE := hide (ahead_ne ks)
  have HZE := hide (ahead_zero ks)
  have HC : Hid (∀ t, t < 8 → (w.alloc (.cells (cells8 ks) 23)).cell? ⟨w.heap.size, t, none⟩ = some (.int .u8 (ks.getD t 0))) := hide (fun t ht => (box_new w _ _).cell t _ (by
    have : t < ks.length := by omega
    simp [cells8, List.getD, this]))
  have HLT := hide ((box_lies (box_new w (cells8 ks) 23) hl).take (n := (aheadF ks).length) (aheadF_le ks))
  rw [← aheadF_take ks] at HLT
  have hcv := HLT.out.convert
  have HB0 := hide ((Below.refl w.heap.size w).alloc (Nat.le_refl _) (.cells (cells8 ks) 23))
  have HALL := hide (name_all ks hl)
  have HOTH := hide (name_other ks)
  have HL := hide hl
  have HNM : Hid (nameF ks = if aheadF ks = [] ∨ ks ≠ aheadF ks ++ List.replicate (8 - (aheadF ks).length) 0 then ([], false) else (aheadF ks, true)) := hide rfl
  have HEM : Hid ((aheadF ks).length = 0 → aheadF ks = []) := hide List.eq_nil_of_length_eq_zero
  have HEN : Hid ((aheadF ks).length ≠ 0 → aheadF ks ≠ []) := hide (fun h e => h (by rw [e]; rfl))
  rw [hl] at HZE
  clear hl HLT
  generalize cells8 ks = ca at *
  generalize hst : strOfNums (aheadF ks) = st at *
  have HST := hide hst
  clear hst
  generalize hN : (aheadF ks).length = N at *
  clear hN
  go_enter Try.func12, Try.ntmps12
  go_wp2
  go_loop [4] (fun i => ∃ k : Nat, k ≤ N ∧ i = .int .i64 k) (fun i => N - (intOf i).toNat)
  case atStart => exact ⟨0, Nat.zero_le _, rfl⟩
  case round =>
    obtain ⟨k, hk, rfl⟩ := hrel
    by_cases hlt : k < N
    · have hk8 : (k : Int) < 8 := by omega
      have hcell := HC.out k (by omega)
      have hne : (ks.getD k 0 != 0) = true := bne_iff_ne.2 (HNE.out k hlt)
      generalize ks.getD k 0 = c at *
      go_wp2
      go_round
      case rel => exact ⟨k + 1, by omega, by go_num⟩
      case measure => simp [intOf]; omega
    · obtain rfl : k = N := by omega
      by_cases h8 : k < 8
      · have hk8 : (k : Int) < 8 := by omega
        have hcell := HC.out k h8
        have hzk := HZE.out h8
        rw [hzk] at hcell
        clear hzk
        go_wp2
        go_loop [5] (fun i => ∃ j : Nat, k ≤ j ∧ j ≤ 8 ∧ i = .int .i64 j ∧ Hid (∀ t, k ≤ t → t < j → ks.getD t 0 = 0)) (fun i => 8 - (intOf i).toNat)
        case atStart => exact ⟨k, Nat.le_refl _, hle, rfl, hide (fun t h1 h2 => by omega)⟩
        case round =>
          obtain ⟨j, hj1, hj2, rfl, HZ⟩ := hrel
          by_cases hj8 : j < 8
          · have hj8I : (j : Int) < 8 := by omega
            have hcj := HC.out j hj8
            by_cases h0 : ks.getD j 0 = 0
            · rw [h0] at hcj
              have HZ2 : Hid (∀ t, k ≤ t → t < j + 1 → ks.getD t 0 = 0) := hide (fun t h1 h2 => by
                by_cases e : t = j
                · rw [e]; exact h0
                · exact HZ.out t h1 (by omega))
              clear h0
              go_wp2
              go_round
              case rel => exact ⟨j + 1, by omega, by omega, by go_num, HZ2⟩
              case measure => simp [intOf]; omega
            · have HF : Hid (nameF ks = ([], false)) := hide (by rw [HNM.out, if_pos (.inr (HOTH.out j hj1 h0))])
              have hne : (ks.getD j 0 != 0) = true := bne_iff_ne.2 h0
              clear h0
              generalize ks.getD j 0 = c at *
              go_wp2
              go_ret2
              exact ⟨by rw [HF.out]; rfl, HB0.out⟩
          · have hj8I : decide ((j : Int) < 8) = false := decide_eq_false (by omega)
            have HKS := hide (HALL.out (fun t h1 h2 => HZ.out t h1 (by omega)))
            by_cases hk0 : k = 0
            · have HF : Hid (nameF ks = ([], false)) := hide (by rw [HNM.out, if_pos (.inl (HEM.out hk0))])
              have hk0I : ((k : Int) == 0) = true := beq_iff_eq.2 (by omega)
              clear hk0
              go_wp2
              go_ret2
              exact ⟨by rw [HF.out]; rfl, HB0.out⟩
            · have HF : Hid (nameF ks = (aheadF ks, true)) := hide (by
                rw [HNM.out, if_neg]
                simp only [not_or, Classical.not_not]
                exact ⟨HEN.out hk0, HKS.out⟩)
              have hk0I : ((k : Int) == 0) = false := beq_eq_false_iff_ne.2 (by omega)
              clear hk0
              have hkI8 : (k : Int) ≤ 8 := by omega
              go_wp2
              go_ret2
              exact ⟨by rw [HF.out, HST.out]; rfl, HB0.out⟩
      · have hk8 : decide ((k : Int) < 8) = false := decide_eq_false (by omega)
        go_wp2
        go_loop [5] (fun i => ∃ j : Nat, k ≤ j ∧ j ≤ 8 ∧ i = .int .i64 j ∧ Hid (∀ t, k ≤ t → t < j → ks.getD t 0 = 0)) (fun i => 8 - (intOf i).toNat)
        case atStart => exact ⟨k, Nat.le_refl _, hle, rfl, hide (fun t h1 h2 => by omega)⟩
        case round =>
          obtain ⟨j, hj1, hj2, rfl, HZ⟩ := hrel
          by_cases hj8 : j < 8
          · have hj8I : (j : Int) < 8 := by omega
            have hcj := HC.out j hj8
            by_cases h0 : ks.getD j 0 = 0
            · rw [h0] at hcj
              have HZ2 : Hid (∀ t, k ≤ t → t < j + 1 → ks.getD t 0 = 0) := hide (fun t h1 h2 => by
                by_cases e : t = j
                · rw [e]; exact h0
                · exact HZ.out t h1 (by omega))
              clear h0
              go_wp2
              go_round
              case rel => exact ⟨j + 1, by omega, by omega, by go_num, HZ2⟩
              case measure => simp [intOf]; omega
            · have HF : Hid (nameF ks = ([], false)) := hide (by rw [HNM.out, if_pos (.inr (HOTH.out j hj1 h0))])
              have hne : (ks.getD j 0 != 0) = true := bne_iff_ne.2 h0
              clear h0
              generalize ks.getD j 0 = c at *
              go_wp2
              go_ret2
              exact ⟨by rw [HF.out]; rfl, HB0.out⟩
          · have hj8I : decide ((j : Int) < 8) = false := decide_eq_false (by omega)
            have HKS := hide (HALL.out (fun t h1 h2 => HZ.out t h1 (by omega)))
            by_cases hk0 : k = 0
            · have HF : Hid (nameF ks = ([], false)) := hide (by rw [HNM.out, if_pos (.inl (HEM.out hk0))])
              have hk0I : ((k : Int) == 0) = true := beq_iff_eq.2 (by omega)
              clear hk0
              go_wp2
              go_ret2
              exact ⟨by rw [HF.out]; rfl, HB0.out⟩
            · have HF : Hid (nameF ks = (aheadF ks, true)) := hide (by
                rw [HNM.out, if_neg]
                simp only [not_or, Classical.not_not]
                exact ⟨HEN.out hk0, HKS.out⟩)
              have hk0I : ((k : Int) == 0) = false := beq_eq_false_iff_ne.2 (by omega)
              clear hk0
              have hkI8 : (k : Int) ≤ 8 := by omega
              go_wp2
              go_ret2
              exact ⟨by rw [HF.out, HST.out]; rfl, HB0.out⟩
end Go.Proofs.Ytkdccigcpcchlaa
