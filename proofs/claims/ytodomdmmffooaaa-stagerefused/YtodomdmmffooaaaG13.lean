/-
  Own texts put together: IdName, IdRKey, IdRName, IdRef, IdRef2, IdRef3. Own work.
-/
import Derived.Test.YtodomdmmffooaaaG12
import Derived.Test.YtodomdmmffooaaaG10
import Derived.Test.YtodomdmmffooaaaG06
import Derived.Test.YtodomdmmffooaaaG11
import Derived.Lib.BytesEntry
import Derived.Deep.QuietTactic
import Derived.BigQuiet
import Derived.Deep.RegionHeldLaw
import Derived.Maps.AppendAt
namespace Go.Proofs.Ytodomdmmffooaaa
section
open Go.RowKit

set_option maxRecDepth 100000 in
theorem bindex_any (w : World) (b off c : Nat) (xs : List Int) (hc : ∀ t, t < xs.length → w.cell? ⟨b, off + t, none⟩ = some (.int .u8 (xs.getD t 0))) (hx : ∀ c ∈ xs, 0 ≤ c ∧ c < 256) :
    Calls Try.prog 134 #[.slice (some ⟨b, off, none⟩) xs.length c, .int .u8 0] w fun e w' => e = .returned (.int .i64 (if 0 ∈ xs then ((aheadF xs).length : Int) else -1)) ∧ w' = w := by
  have hr := Lib.run_indexByteSlice (P := Try.prog) w b off xs.length c xs rfl hc 0
  have h0 : Lib.indexByte (Lib.bytesOf xs) (0 : Int).toNat.toUInt8 = if 0 ∈ xs then ((aheadF xs).length : Int) else -1 := index_zero xs hx
  rw [h0] at hr
  generalize (if 0 ∈ xs then ((aheadF xs).length : Int) else -1) = r at *
  generalize xs.length = n at *
  clear hc hx h0
  go_enter Try.func134, Try.ntmps134
  go_wp2
  rw [run_callFunc_extern Try.func146 (by kernel_rfl) (by kernel_rfl) (by kernel_rfl) (e := Extern.BytealgIndexByte.indexByte) (by kernel_rfl), hr]
  simp only [Result.andThen]
  rw [Oper.upon_value]
  go_wp2
  go_ret
  exact ⟨rfl, rfl⟩
set_option maxRecDepth 100000 in
set_option maxHeartbeats 1600000 in
theorem index1_any (w : World) (b off c b2 c2 : Nat) (xs : List Int) (hc : ∀ t, t < xs.length → w.cell? ⟨b, off + t, none⟩ = some (.int .u8 (xs.getD t 0))) (hx : ∀ c ∈ xs, 0 ≤ c ∧ c < 256) (hs : w.cell? ⟨b2, 0, none⟩ = some (.int .u8 0)) :
    Calls Try.prog 117 #[.slice (some ⟨b, off, none⟩) xs.length c, .slice (some ⟨b2, 0, none⟩) 1 c2] w fun e w' => e = .returned (.int .i64 (if 0 ∈ xs then ((aheadF xs).length : Int) else -1)) ∧ w' = w := by
  have C := hide (bindex_any w b off c xs hc hx)
  generalize (if 0 ∈ xs then ((aheadF xs).length : Int) else -1) = r at *
  generalize xs.length = n at *
  clear hc hx
  go_enter Try.func117, Try.ntmps117
  go_wp2_with (go_at_call 134; refine C.out.mono ?_; rintro e w' ⟨rfl, rfl⟩)
  go_ret
  exact ⟨rfl, rfl⟩
set_option maxRecDepth 100000 in
set_option maxHeartbeats 1600000 in
theorem cut_any (w : World) (b b2 : Nat) (ks : List Int) (hl : ks.length = 8) (hc : ∀ t, t < ks.length → w.cell? ⟨b, 0 + t, none⟩ = some (.int .u8 (ks.getD t 0))) (hx : ∀ c ∈ ks, 0 ≤ c ∧ c < 256) (hs : w.cell? ⟨b2, 0, none⟩ = some (.int .u8 0)) :
    Calls Try.prog 100 #[.slice (some ⟨b, 0, none⟩) 8 8, .slice (some ⟨b2, 0, none⟩) 1 1] w fun e w' => ∃ x y n, e = .returned (.tuple #[.slice (some ⟨b, 0, none⟩) (aheadF ks).length 8, x, y]) ∧ w' = w.drewN n := by
  have hC := index1_any w b 0 8 b2 1 ks hc hx hs
  rw [hl] at hC
  have hle := aheadF_le ks
  rw [hl] at hle
  by_cases h0 : (0 : Int) ∈ ks
  · rw [if_pos h0] at hC
    have hlt : (aheadF ks).length < 8 := by
      rcases Nat.lt_or_ge (aheadF ks).length 8 with h | h
      · exact h
      · have e : aheadF ks = ks := by
          have := aheadF_take ks
          rw [List.take_of_length_le (by omega)] at this
          exact this
        have h1 := aheadF_no ks
        rw [e] at h1
        exact absurd h0 h1
    have C := hide hC
    have HTO := fun w => run_to w .i64 (some ⟨b, 0, none⟩) 8 8 (aheadF ks).length (by omega)
    have HFR := fun w => run_from w (some ⟨b, 0, none⟩) 8 8 ((aheadF ks).length + 1) (by omega)
    generalize (aheadF ks).length = n at *
    have hnat : (((n + 1 : Nat)) : Int) = (n : Int) + 1 := by omega
    rw [hnat] at HFR
    generalize (if 8 = n + 1 then (some ⟨b, 0, none⟩ : Option Addr) else (some ⟨b, 0, none⟩ : Option Addr).map (·.add ((n + 1) * 1))) = ao at *
    have hn0 : (0 : Int) ≤ (n : Int) := by omega
    have hnlt : (n : Int) < 8 := by omega
    clear hC hc hx hle hnat
    go_enter Try.func100, Try.ntmps100
    go_wp2_with (go_at_call 117; refine C.out.mono ?_; rintro e w' ⟨rfl, rfl⟩)
    go_quiet (fail)
    go_wp2
    go_ret3
    exact ⟨_, _, _, rfl, rfl⟩
  · rw [if_neg h0] at hC
    have C := hide hC
    have HE : Hid ((aheadF ks).length = 8) := hide (by rw [aheadF_all ks h0, hl])
    rw [HE.out]
    clear hC hc hx hle
    go_enter Try.func100, Try.ntmps100
    go_wp2_with (go_at_call 117; refine C.out.mono ?_; rintro e w' ⟨rfl, rfl⟩)
    go_ret3
    exact ⟨_, _, 0, rfl, rfl⟩
theorem strOf_len (l : List Int) : (strOfNums l).size = l.length := by simp [strOfNums, ByteArray.size]
theorem numsS_strOf (l : List Int) (hl : ∀ c ∈ l, 0 ≤ c ∧ c < 256) : numsS (strOfNums l) = l := by
  unfold numsS
  show (l.map fun n : Int => UInt8.ofNat n.toNat).map _ = l
  rw [List.map_map]
  conv => rhs; rw [← List.map_id l]
  apply List.map_congr_left
  intro c hc
  have := hl c hc
  show ((UInt8.ofNat c.toNat).toNat : Int) = c
  rw [UInt8.toNat_ofNat']
  omega
theorem eight8 (l : List Int) (h : l.length = 8) : ∃ a b c d e f g i, l = [a, b, c, d, e, f, g, i] := by
  match l, h with
  | [a, b, c, d, e, f, g, i], _ => exact ⟨a, b, c, d, e, f, g, i, rfl⟩
set_option maxRecDepth 100000 in
set_option maxHeartbeats 1600000 in
theorem name_any (ks : List Int) (hl : ks.length = 8) (hx : ∀ c ∈ ks, 0 ≤ c ∧ c < 256) (w : World) :
    Calls Try.prog 80 #[.agg (cells8 ks)] w fun e w' => e = .returned (.tuple #[.string (strOfNums (nameF ks).1), .bool (nameF ks).2]) ∧ Below w.heap.size w w' := by
  have HE := hide (nameF_by_key ks hl)
  have hbx : ∀ c ∈ aheadF ks, 0 ≤ c ∧ c < 256 := fun c hc => hx c (aheadF_sub ks c hc)
  have hle := aheadF_le ks
  have HK8 := hide (keyOfF_fst (aheadF ks))
  have hK := fun w => keyOf_any (strOfNums (aheadF ks)) (by rw [strOf_len]; unfold maxLen; omega) w
  rw [numsS_strOf _ hbx] at hK
  have CK := hide hK
  have HA0 : Hid (Box ((w.alloc (.cells (cells8 ks) 53)).alloc (.cells #[.int .u8 0] 5)) w.heap.size (cells8 ks) 53) := hide ((box_new w _ _).belowI ((Below.refl _ _).alloc (Nat.le_refl _) _))
  have HS0 : Hid (Box ((w.alloc (.cells (cells8 ks) 53)).alloc (.cells #[.int .u8 0] 5)) (w.heap.size + 1) #[.int .u8 0] 5) := hide (by
    have := box_new (w.alloc (.cells (cells8 ks) 53)) #[.int .u8 0] 5
    rw [World.size_alloc] at this
    exact this)
  have HB0 := hide (((Below.refl w.heap.size w).alloc (Nat.le_refl _) (.cells (cells8 ks) 53)).alloc (by simp) (.cells #[.int .u8 0] 5))
  have CC := hide (cut_any _ w.heap.size (w.heap.size + 1) ks hl (fun t ht => by rw [Nat.zero_add]; exact HA0.out.cell t _ (by simp [cells8, List.getD, ht])) hx (HS0.out.cell 0 _ rfl))
  have HI := hide infoKeyI
  have HS8 : Hid ((cells8 ks).size = 8) := hide (by rw [cells8_size]; exact hl)
  have HI2 : Hid ((Try.prog.info? 53).map (·.size) = some (cells8 ks).size) := hide (by rw [HS8.out]; exact HI.out)
  have HL := hide hl
  have HX := hide hx
  have HLIE : Hid (∀ W, Box W w.heap.size (cells8 ks) 53 → Lies .u8 W (.slice (some ⟨w.heap.size, 0, none⟩) (aheadF ks).length 8) (aheadF ks)) := hide (fun W hW => by
    have h8 : Lies .u8 W (.slice (some ⟨w.heap.size, 0, none⟩) ks.length 8) ks := .inr ⟨fun e => by rw [e] at hl; simp at hl, w.heap.size, 0, 8, rfl, hW.lt, by omega, by unfold maxLen; omega, fun t ht => by rw [Nat.zero_add]; exact hW.cell t _ (by simp [cells8, List.getD, ht])⟩
    have h9 := h8.take (n := (aheadF ks).length) hle
    rw [← aheadF_take ks] at h9
    exact h9)
  clear hl hx hbx hle hK
  have HEE : Hid ((keyOfF (aheadF ks)).2 = (keyOfF (aheadF ks)).2) := hide rfl
  obtain ⟨k0, k1, k2, k3, k4, k5, k6, k7, hkk⟩ := eight8 _ HK8.out
  have HEK := hide hkk
  rw [hkk] at CK
  have hcc : cells8 [k0, k1, k2, k3, k4, k5, k6, k7] = #[.int .u8 k0, .int .u8 k1, .int .u8 k2, .int .u8 k3, .int .u8 k4, .int .u8 k5, .int .u8 k6, .int .u8 k7] := rfl
  rw [hcc] at CK
  clear hkk hcc HK8
  generalize (keyOfF (aheadF ks)).2 = E at *
  generalize hca : cells8 ks = ca at *
  have HCA := hide hca
  clear hca
  go_enter Try.func80, Try.ntmps80
  go_wp2_with fail
  refine CC.out.mono ?_
  rintro e w1 ⟨x, y, n1, rfl, hw1⟩
  have hA1 : Box w1 w.heap.size ca 53 := by rw [hw1]; exact HA0.out
  have HB1 : Hid (Below w.heap.size w w1) := hide (by rw [hw1]; exact below_drewN HB0.out)
  have hcv := (HLIE.out w1 hA1).convert
  have HA1 := hide hA1
  clear hw1 hA1 HA0 HS0 HB0 CC
  generalize (aheadF ks).length = n at *
  go_wp2_with fail
  refine (CK.out _).mono ?_
  rintro e w2 ⟨rfl, hB2⟩
  have HA2 := hide (HA1.out.belowI hB2)
  have HB2 := hide (HB1.out.trans (hB2.mono HB1.out.size))
  clear hB2 hcv
  have HKE : Hid (nameF ks = if E ≠ 0 ∨ [k0, k1, k2, k3, k4, k5, k6, k7] ≠ ks then ([], false) else (aheadF ks, true)) := hide (by rw [HE.out, HEK.out])
  obtain ⟨j0, j1, j2, j3, j4, j5, j6, j7, hj⟩ := eight8 ks HL.out
  have hcj : ca = #[.int .u8 j0, .int .u8 j1, .int .u8 j2, .int .u8 j3, .int .u8 j4, .int .u8 j5, .int .u8 j6, .int .u8 j7] := by rw [← HCA.out, hj]; rfl
  rw [hcj] at HA2
  obtain ⟨y0, y1, y2, y3, y4, y5, y6, y7⟩ := HA2.out.eight
  have hylt := HA2.out.lt
  have hneq := neqi_key k0 k1 k2 k3 k4 k5 k6 k7 j0 j1 j2 j3 j4 j5 j6 j7
  have HEQ : Hid ([k0, k1, k2, k3, k4, k5, k6, k7] = ks ↔ [k0, k1, k2, k3, k4, k5, k6, k7] = [j0, j1, j2, j3, j4, j5, j6, j7]) := hide (by rw [hj])
  have HB3 := hide (HB2.out.trans (((Below.refl w2.heap.size w2).alloc (Nat.le_refl _) (.cells #[.int .u8 k0, .int .u8 k1, .int .u8 k2, .int .u8 k3, .int .u8 k4, .int .u8 k5, .int .u8 k6, .int .u8 k7] 53)).mono HB2.out.size))
  clear hcj hj CK HA1 HA2 HE
  have hst : strOfNums (aheadF ks) = strOfNums (aheadF ks) := rfl
  generalize hst0 : strOfNums (aheadF ks) = st at *
  have HST := hide hst0
  clear hst hst0
  by_cases hE : E = 0
  · subst hE
    by_cases hq : [k0, k1, k2, k3, k4, k5, k6, k7] = [j0, j1, j2, j3, j4, j5, j6, j7]
    · have hn : ∀ w, (binOp .neq 53 (.agg #[.int .u8 k0, .int .u8 k1, .int .u8 k2, .int .u8 k3, .int .u8 k4, .int .u8 k5, .int .u8 k6, .int .u8 k7]) (.agg #[.int .u8 j0, .int .u8 j1, .int .u8 j2, .int .u8 j3, .int .u8 j4, .int .u8 j5, .int .u8 j6, .int .u8 j7])).run Try.prog w = .ok (.bool false) w := fun w => by rw [hneq, decide_eq_true hq]; rfl
      have HF : Hid (nameF ks = (aheadF ks, true)) := hide (by rw [HKE.out, if_neg]; simp only [not_or, Classical.not_not]; exact ⟨by trivial, HEQ.out.2 hq⟩)
      clear hneq hq
      go_wp2_with fail
      go_ret2
      exact ⟨by rw [HF.out, HST.out]; rfl, HB3.out⟩
    · have hn : ∀ w, (binOp .neq 53 (.agg #[.int .u8 k0, .int .u8 k1, .int .u8 k2, .int .u8 k3, .int .u8 k4, .int .u8 k5, .int .u8 k6, .int .u8 k7]) (.agg #[.int .u8 j0, .int .u8 j1, .int .u8 j2, .int .u8 j3, .int .u8 j4, .int .u8 j5, .int .u8 j6, .int .u8 j7])).run Try.prog w = .ok (.bool true) w := fun w => by rw [hneq, decide_eq_false hq]; rfl
      have HF : Hid (nameF ks = ([], false)) := hide (by rw [HKE.out, if_pos]; exact .inr (fun h => hq (HEQ.out.1 h)))
      clear hneq hq
      go_wp2_with fail
      go_ret2
      exact ⟨by rw [HF.out]; rfl, HB3.out⟩
  · have hE' : (E != 0) = true := bne_iff_ne.2 hE
    have HF : Hid (nameF ks = ([], false)) := hide (by rw [HKE.out, if_pos (.inl hE)])
    clear hneq hE
    go_wp2_with fail
    go_ret2
    exact ⟨by rw [HF.out]; rfl, HB3.out⟩
end
end Go.Proofs.Ytodomdmmffooaaa
