/-
  The program's lengthOf: the length that bytes begin with. Own work.
-/
import Derived.Test.YtgchgbbldhpgeabFrNext
namespace Go.Proofs.Ytgchgbbldhpgeab
open Go.RowKit

def lengthF (bs : List Int) : Nat × Int :=
  if bs.length = 0 then (0, 4)
  else if bs.getD 0 0 ≠ 167 then (0, 3)
  else if bs.length = 1 then (0, 4)
  else if bs.getD 1 0 ≠ 94 then (0, 3)
  else if bs.length < 4 then (0, 4)
  else if 4096 < lenF bs then (0, 3)
  else (lenF bs, 0)
theorem length_rest (bs : List Int) (hl : 2 ≤ bs.length) (h0 : bs.getD 0 0 = 167) (h1 : bs.getD 1 0 = 94) : lengthF bs = if bs.length < 4 then (0, 4) else if 4096 < lenF bs then (0, 3) else (lenF bs, 0) := by
  rw [lengthF, if_neg (by omega), if_neg (by rw [h0]; simp), if_neg (by omega), if_neg (by rw [h1]; simp)]
theorem drop_two_get (bs : List Int) (hl : 2 ≤ bs.length) : getS (bs.drop 2) 2 = if bs.length < 4 then (0, 4) else ((lenF bs : Int), 0) := by
  unfold getS lenF
  have e : (bs.drop 2).length = bs.length - 2 := by simp
  rw [if_neg (by omega), e]
  by_cases h : bs.length < 4
  · rw [if_pos (by omega), if_pos h]
  · rw [if_neg (by omega), if_neg h]; rfl
set_option maxRecDepth 100000 in
set_option maxHeartbeats 800000 in
theorem flen_any (v : Value) (bs : List Int) (w : World) (h : Lies .u8 w v bs) (hx : ∀ c ∈ bs, 0 ≤ c ∧ c < 256) :
    Calls Try.prog 15 #[v] w fun e w' => e = .returned (.tuple #[.int .i64 (lengthF bs).1, .int .i64 (lengthF bs).2]) ∧ Below w.heap.size w w' := by
  have hmx := h.len
  unfold maxLen at hmx
  rcases h with ⟨rfl, ao, cap, rfl, _⟩ | ⟨hne, b, off, cap, rfl, hb, hcl, hcm, hc⟩
  · go_enter Try.func15, Try.ntmps15
    go_wp2
    go_rounds 1
    go_ret2
    exact ⟨rfl, Below.refl _ _⟩
  · have H : Hid (Lies .u8 w (.slice (some ⟨b, off, none⟩) bs.length cap) bs) := hide (.inr ⟨hne, b, off, cap, rfl, hb, hcl, hcm, hc⟩)
    have hpos : 0 < bs.length := List.length_pos_iff.2 hne
    have HX := hide hx
    have HC : Hid (∀ wr, Below w.heap.size w wr → ∀ t, t < bs.length → wr.cell? ⟨b, off + t, none⟩ = some (.int .u8 (bs.getD t 0))) := hide fun wr hB t ht => (hB.cell (p := ⟨b, off + t, none⟩) hb).trans (hc t ht)
    clear hc hx
    go_enter Try.func15, Try.ntmps15
    go_wp2
    go_loopw [4, 7] (fun _ i wr => ∃ k : Nat, k ≤ 2 ∧ k ≤ bs.length ∧ i = .int .i64 k ∧ Hid ((0 < k → bs.getD 0 0 = 167) ∧ (1 < k → bs.getD 1 0 = 94)) ∧ Hid (Below w.heap.size w wr)) (fun _ i _ => 2 - (intOf i).toNat)
    case atStart => exact ⟨0, by omega, by omega, rfl, hide ⟨fun h => by omega, fun h => by omega⟩, hide (Below.refl _ _)⟩
    case round =>
      obtain ⟨k, hk2, hkl, rfl, HK, HR⟩ := hrel
      have hcase : k = 0 ∨ k = 1 ∨ k = 2 := by omega
      rcases hcase with rfl | rfl | rfl
      · have hcell := HC.out _ HR.out 0 hpos
        rw [Nat.add_zero] at hcell
        have hposI : (0 : Int) < bs.length := by omega
        by_cases heq : bs.getD 0 0 = 167
        · rw [heq] at hcell
          have HK' : Hid ((0 < 0 + 1 → bs.getD 0 0 = 167) ∧ (1 < 0 + 1 → bs.getD 1 0 = 94)) := hide ⟨fun _ => heq, fun h => by omega⟩
          clear heq
          go_wp2
          go_quiet (fail)
          go_wp2
          go_roundw
          case rel => exact ⟨0 + 1, by omega, by omega, by go_num, HK', hide (below_drewN HR.out nq)⟩
          case measure => simp [intOf]
        · have HE : Hid (lengthF bs = (0, 3)) := hide (by unfold lengthF; rw [if_neg (by omega), if_pos heq])
          generalize bs.getD 0 0 = d at *
          have hcc : (d != (((⟨#[167, 94]⟩ : ByteArray)[0]'(by decide)).toNat : Int)) = true := by show (d != 167) = true; simpa using heq
          go_wp2
          go_quiet (fail)
          go_wp2
          go_ret2
          exact ⟨by rw [HE.out]; rfl, below_drewN HR.out nq⟩
      · have h0 := HK.out.1 (by omega)
        by_cases hone : bs.length = 1
        · have HE : Hid (lengthF bs = (0, 4)) := hide (by unfold lengthF; rw [if_neg (by omega), if_neg (by rw [h0]; simp), if_pos hone])
          have hoI : (bs.length : Int) = 1 := by omega
          clear h0
          go_wp2
          go_ret2
          exact ⟨by rw [HE.out]; rfl, HR.out⟩
        · have hcell := HC.out _ HR.out 1 (by omega)
          have hposI : (1 : Int) < bs.length := by omega
          by_cases heq : bs.getD 1 0 = 94
          · rw [heq] at hcell
            have HK' : Hid ((0 < 1 + 1 → bs.getD 0 0 = 167) ∧ (1 < 1 + 1 → bs.getD 1 0 = 94)) := hide ⟨fun _ => h0, fun _ => heq⟩
            clear heq h0
            go_wp2
            go_quiet (fail)
            go_wp2
            go_roundw
            case rel => exact ⟨1 + 1, by omega, by omega, by go_num, HK', hide (below_drewN HR.out nq)⟩
            case measure => simp [intOf]
          · have HE : Hid (lengthF bs = (0, 3)) := hide (by unfold lengthF; rw [if_neg (by omega), if_neg (by rw [h0]; simp), if_neg hone, if_pos heq])
            clear h0
            generalize bs.getD 1 0 = d at *
            have hcc : (d != (((⟨#[167, 94]⟩ : ByteArray)[1]'(by decide)).toNat : Int)) = true := by show (d != 94) = true; simpa using heq
            go_wp2
            go_quiet (fail)
            go_wp2
            go_ret2
            exact ⟨by rw [HE.out]; rfl, below_drewN HR.out nq⟩
      · have hE := length_rest bs hkl (HK.out.1 (by omega)) (HK.out.2 (by omega))
        have hG := drop_two_get bs hkl
        have HL := hide (H.out.below HR.out)
        have HX2 : Hid (∀ c ∈ bs.drop 2, 0 ≤ c ∧ c < 256) := hide fun c hc => HX.out c (List.mem_of_mem_drop hc)
        have hlf : lenF bs < 65536 := by
          unfold lenF
          have e : (bs.drop 2).length = bs.length - 2 := by simp
          by_cases h4 : bs.length < 4
          · have : ((bs.drop 2).take 2) = (bs.drop 2) := List.take_of_length_le (by omega)
            have h2 := valB_lt (bs.drop 2) HX2.out (bs.drop 2).length (Nat.le_refl _)
            rw [List.take_of_length_le (Nat.le_refl _)] at h2
            rw [this]
            exact Nat.lt_of_lt_of_le h2 (Nat.le_trans (Nat.pow_le_pow_right (by decide) (by omega : (bs.drop 2).length ≤ 2)) (by decide))
          · exact valB_lt (bs.drop 2) HX2.out 2 (by omega)
        clear HC HK
        by_cases h4 : bs.length < 4
        · rw [if_pos h4] at hE hG
          have HE := hide hE
          have HG := hide hG
          clear hE hG
          go_wp2_with (refine wp_from _ rfl _ _ rfl _ bs rfl HL.out 2 rfl hkl ?_; intro a2 c2 hL2; have HL2 := hide hL2; clear hL2)
          refine (get_any _ (bs.drop 2) 2 _ HL2.out HX2.out).mono ?_
          rintro e w3 ⟨rfl, rfl⟩
          rw [HG.out]
          go_wp2
          go_ret2
          exact ⟨by rw [HE.out]; rfl, HR.out⟩
        · rw [if_neg h4] at hE hG
          have HG := hide hG
          clear hG
          generalize lenF bs = N at *
          by_cases hbig : 4096 < N
          · rw [if_pos hbig] at hE
            have HE := hide hE
            clear hE
            have hbI : (4096 : Int) < N := by omega
            go_wp2_with (refine wp_from _ rfl _ _ rfl _ bs rfl HL.out 2 rfl hkl ?_; intro a2 c2 hL2; have HL2 := hide hL2; clear hL2)
            refine (get_any _ (bs.drop 2) 2 _ HL2.out HX2.out).mono ?_
            rintro e w3 ⟨rfl, rfl⟩
            rw [HG.out]
            go_wp2
            go_ret2
            exact ⟨by rw [HE.out]; rfl, HR.out⟩
          · rw [if_neg hbig] at hE
            have HE := hide hE
            clear hE
            have hbI : (N : Int) ≤ 4096 := by omega
            go_wp2_with (refine wp_from _ rfl _ _ rfl _ bs rfl HL.out 2 rfl hkl ?_; intro a2 c2 hL2; have HL2 := hide hL2; clear hL2)
            refine (get_any _ (bs.drop 2) 2 _ HL2.out HX2.out).mono ?_
            rintro e w3 ⟨rfl, rfl⟩
            rw [HG.out]
            go_wp2
            go_ret2
            exact ⟨by rw [HE.out]; rfl, HR.out⟩
end Go.Proofs.Ytgchgbbldhpgeab
