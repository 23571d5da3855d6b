/-
  Own texts put together: IdName, IdRKey, IdRName, IdRef, IdRef2, IdRef3. Own work.
-/
import Derived.Test.YtodomdmmffooaaaG12
import Derived.Test.YtodomdmmffooaaaG10
import Derived.Test.YtodomdmmffooaaaG06
import Derived.Test.YtodomdmmffooaaaG11
import Derived.Lib.BytesEntry
import Derived.Deep.QuietTactic
import Derived.BigQuiet
import Derived.Deep.RegionHeldLaw
import Derived.Maps.AppendAt
namespace Go.Proofs.Ytodomdmmffooaaa
section
open Go.RowKit

set_option maxRecDepth 100000 in
theorem bindex_any (w : World) (b off c : Nat) (xs : List Int) (hc : ∀ t, t < xs.length → w.cell? ⟨b, off + t, none⟩ = some (.int .u8 (xs.getD t 0))) (hx : ∀ c ∈ xs, 0 ≤ c ∧ c < 256) :
    Calls Try.prog 134 #[.slice (some ⟨b, off, none⟩) xs.length c, .int .u8 0] w fun e w' => e = .returned (.int .i64 (if 0 ∈ xs then ((aheadF xs).length : Int) else -1)) ∧ w' = w := by
  have hr := Lib.run_indexByteSlice (P := Try.prog) w b off xs.length c xs rfl hc 0
  have h0 : Lib.indexByte (Lib.bytesOf xs) (0 : Int).toNat.toUInt8 = if 0 ∈ xs then ((aheadF xs).length : Int) else -1 := index_zero xs hx
  rw [h0] at hr
  generalize (if 0 ∈ xs then ((aheadF xs).length : Int) else -1) = r at *
  generalize xs.length = n at *
  clear hc hx h0
  go_enter Try.func134, Try.ntmps134
  go_wp2
  rw [run_callFunc_extern Try.func146 (by kernel_rfl) (by kernel_rfl) (by kernel_rfl) (e := Extern.BytealgIndexByte.indexByte) (by kernel_rfl), hr]
  simp only [Result.andThen]
  rw [Oper.upon_value]
  go_wp2
  go_ret
  exact ⟨rfl, rfl⟩
set_option maxRecDepth 100000 in
set_option maxHeartbeats 1600000 in
theorem index1_any (w : World) (b off c b2 c2 : Nat) (xs : List Int) (hc : ∀ t, t < xs.length → w.cell? ⟨b, off + t, none⟩ = some (.int .u8 (xs.getD t 0))) (hx : ∀ c ∈ xs, 0 ≤ c ∧ c < 256) (hs : w.cell? ⟨b2, 0, none⟩ = some (.int .u8 0)) :
    Calls Try.prog 117 #[.slice (some ⟨b, off, none⟩) xs.length c, .slice (some ⟨b2, 0, none⟩) 1 c2] w fun e w' => e = .returned (.int .i64 (if 0 ∈ xs then ((aheadF xs).length : Int) else -1)) ∧ w' = w := by
  have C := hide (bindex_any w b off c xs hc hx)
  generalize (if 0 ∈ xs then ((aheadF xs).length : Int) else -1) = r at *
  generalize xs.length = n at *
  clear hc hx
  go_enter Try.func117, Try.ntmps117
  go_wp2_with (go_at_call 134; refine C.out.mono ?_; rintro e w' ⟨rfl, rfl⟩)
  go_ret
  exact ⟨rfl, rfl⟩
set_option maxRecDepth 100000 in
set_option maxHeartbeats 1600000 in
theorem cut_any (w : World) (b b2 : Nat) (ks : List Int) (hl : ks.length = 8) (hc : ∀ t, t < ks.length → w.cell? ⟨b, 0 + t, none⟩ = some (.int .u8 (ks.getD t 0))) (hx : ∀ c ∈ ks, 0 ≤ c ∧ c < 256) (hs : w.cell? ⟨b2, 0, none⟩ = some (.int .u8 0)) :
    Calls Try.prog 100 #[.slice (some ⟨b, 0, none⟩) 8 8, .slice (some ⟨b2, 0, none⟩) 1 1] w fun e w' => ∃ x y n, e = .returned (.tuple #[.slice (some ⟨b, 0, none⟩) (aheadF ks).length 8, x, y]) ∧ w' = w.drewN n := by
  have hC := index1_any w b 0 8 b2 1 ks hc hx hs
  rw [hl] at hC
  have hle := aheadF_le ks
  rw [hl] at hle
  by_cases h0 : (0 : Int) ∈ ks
  · rw [if_pos h0] at hC
    have hlt : (aheadF ks).length < 8 := by
      rcases Nat.lt_or_ge (aheadF ks).length 8 with h | h
      · exact h
      · have e : aheadF ks = ks := by
          have := aheadF_take ks
          rw [List.take_of_length_le (by omega)] at this
          exact this
        have h1 := aheadF_no ks
        rw [e] at h1
        exact absurd h0 h1
    have C := hide hC
    have HTO := fun w => run_to w .i64 (some ⟨b, 0, none⟩) 8 8 (aheadF ks).length (by omega)
    have HFR := fun w => run_from w (some ⟨b, 0, none⟩) 8 8 ((aheadF ks).length + 1) (by omega)
    generalize (aheadF ks).length = n at *
    have hnat : (((n + 1 : Nat)) : Int) = (n : Int) + 1 := by omega
    rw [hnat] at HFR
    generalize (if 8 = n + 1 then (some ⟨b, 0, none⟩ : Option Addr) else (some ⟨b, 0, none⟩ : Option Addr).map (·.add ((n + 1) * 1))) = ao at *
    have hn0 : (0 : Int) ≤ (n : Int) := by omega
    have hnlt : (n : Int) < 8 := by omega
    clear hC hc hx hle hnat
    go_enter Try.func100, Try.ntmps100
    go_wp2_with (go_at_call 117; refine C.out.mono ?_; rintro e w' ⟨rfl, rfl⟩)
    go_quiet (fail)
    go_wp2
    go_ret3
    exact ⟨_, _, _, rfl, rfl⟩
  · rw [if_neg h0] at hC
    have C := hide hC
    have HE : Hid ((aheadF ks).length = 8) := hide (by rw [aheadF_all ks h0, hl])
    rw [HE.out]
    clear hC hc hx hle
    go_enter Try.func100, Try.ntmps100
    go_wp2_with (go_at_call 117; refine C.out.mono ?_; rintro e w' ⟨rfl, rfl⟩)
    go_ret3
    exact ⟨_, _, 0, rfl, rfl⟩
theorem strOf_len (l : List Int) : (strOfNums l).size = l.length := by simp [strOfNums, ByteArray.size]
theorem numsS_strOf (l : List Int) (hl : ∀ c ∈ l, 0 ≤ c ∧ c < 256) : numsS (strOfNums l) = l := by
  unfold numsS
  show (l.map fun n : Int => UInt8.ofNat n.toNat).map _ = l
  rw [List.map_map]
  conv => rhs; rw [← List.map_id l]
  apply List.map_congr_left
  intro c hc
  have := hl c hc
  show ((UInt8.ofNat c.toNat).toNat : Int) = c
  rw [UInt8.toNat_ofNat']
  omega
theorem eight8 (l : List Int) (h : l.length = 8) : ∃ a b c d e f g i, l = [a, b, c, d, e, f, g, i] := by
  match l, h with
  | [a, b, c, d, e, f, g, i], _ => exact ⟨a, b, c, d, e, f, g, i, rfl⟩
set_option maxRecDepth 100000 in
set_option maxHeartbeats 1600000 in
theorem name_any (ks : List Int) (hl : ks.length = 8) (hx : ∀ c ∈ ks, 0 ≤ c ∧ c < 256) (w : World) :
    Calls Try.prog 80 #[.agg (cells8 ks)] w fun e w' => e = .returned (.tuple #[.string (strOfNums (nameF ks).1), .bool (nameF ks).2]) ∧ Below w.heap.size w w' := by
  have HE := hide (nameF_by_key ks hl)
  have hbx : ∀ c ∈ aheadF ks, 0 ≤ c ∧ c < 256 := fun c hc => hx c (aheadF_sub ks c hc)
  have hle := aheadF_le ks
  have HK8 := hide (keyOfF_fst (aheadF ks))
  have hK := fun w => keyOf_any (strOfNums (aheadF ks)) (by rw [strOf_len]; unfold maxLen; omega) w
  rw [numsS_strOf _ hbx] at hK
  have CK := hide hK
  have HA0 : Hid (Box ((w.alloc (.cells (cells8 ks) 53)).alloc (.cells #[.int .u8 0] 5)) w.heap.size (cells8 ks) 53) := hide ((box_new w _ _).belowI ((Below.refl _ _).alloc (Nat.le_refl _) _))
  have HS0 : Hid (Box ((w.alloc (.cells (cells8 ks) 53)).alloc (.cells #[.int .u8 0] 5)) (w.heap.size + 1) #[.int .u8 0] 5) := hide (by
    have := box_new (w.alloc (.cells (cells8 ks) 53)) #[.int .u8 0] 5
    rw [World.size_alloc] at this
    exact this)
  have HB0 := hide (((Below.refl w.heap.size w).alloc (Nat.le_refl _) (.cells (cells8 ks) 53)).alloc (by simp) (.cells #[.int .u8 0] 5))
  have CC := hide (cut_any _ w.heap.size (w.heap.size + 1) ks hl (fun t ht => by rw [Nat.zero_add]; exact HA0.out.cell t _ (by simp [cells8, List.getD, ht])) hx (HS0.out.cell 0 _ rfl))
  have HI := hide infoKeyI
  have HS8 : Hid ((cells8 ks).size = 8) := hide (by rw [cells8_size]; exact hl)
  have HI2 : Hid ((Try.prog.info? 53).map (·.size) = some (cells8 ks).size) := hide (by rw [HS8.out]; exact HI.out)
  have HL := hide hl
  have HX := hide hx
  have HLIE : Hid (∀ W, Box W w.heap.size (cells8 ks) 53 → Lies .u8 W (.slice (some ⟨w.heap.size, 0, none⟩) (aheadF ks).length 8) (aheadF ks)) := hide (fun W hW => by
    have h8 : Lies .u8 W (.slice (some ⟨w.heap.size, 0, none⟩) ks.length 8) ks := .inr ⟨fun e => by rw [e] at hl; simp at hl, w.heap.size, 0, 8, rfl, hW.lt, by omega, by unfold maxLen; omega, fun t ht => by rw [Nat.zero_add]; exact hW.cell t _ (by simp [cells8, List.getD, ht])⟩
    have h9 := h8.take (n := (aheadF ks).length) hle
    rw [← aheadF_take ks] at h9
    exact h9)
  clear hl hx hbx hle hK
  have HEE : Hid ((keyOfF (aheadF ks)).2 = (keyOfF (aheadF ks)).2) := hide rfl
  obtain ⟨k0, k1, k2, k3, k4, k5, k6, k7, hkk⟩ := eight8 _ HK8.out
  have HEK := hide hkk
  rw [hkk] at CK
  have hcc : cells8 [k0, k1, k2, k3, k4, k5, k6, k7] = #[.int .u8 k0, .int .u8 k1, .int .u8 k2, .int .u8 k3, .int .u8 k4, .int .u8 k5, .int .u8 k6, .int .u8 k7] := rfl
  rw [hcc] at CK
  clear hkk hcc HK8
  generalize (keyOfF (aheadF ks)).2 = E at *
  generalize hca : cells8 ks = ca at *
  have HCA := hide hca
  clear hca
  go_enter Try.func80, Try.ntmps80
  go_wp2_with fail
  refine CC.out.mono ?_
  rintro e w1 ⟨x, y, n1, rfl, hw1⟩
  have hA1 : Box w1 w.heap.size ca 53 := by rw [hw1]; exact HA0.out
  have HB1 : Hid (Below w.heap.size w w1) := hide (by rw [hw1]; exact below_drewN HB0.out)
  have hcv := (HLIE.out w1 hA1).convert
  have HA1 := hide hA1
  clear hw1 hA1 HA0 HS0 HB0 CC
  generalize (aheadF ks).length = n at *
  go_wp2_with fail
  refine (CK.out _).mono ?_
  rintro e w2 ⟨rfl, hB2⟩
  have HA2 := hide (HA1.out.belowI hB2)
  have HB2 := hide (HB1.out.trans (hB2.mono HB1.out.size))
  clear hB2 hcv
  have HKE : Hid (nameF ks = if E ≠ 0 ∨ [k0, k1, k2, k3, k4, k5, k6, k7] ≠ ks then ([], false) else (aheadF ks, true)) := hide (by rw [HE.out, HEK.out])
  obtain ⟨j0, j1, j2, j3, j4, j5, j6, j7, hj⟩ := eight8 ks HL.out
  have hcj : ca = #[.int .u8 j0, .int .u8 j1, .int .u8 j2, .int .u8 j3, .int .u8 j4, .int .u8 j5, .int .u8 j6, .int .u8 j7] := by rw [← HCA.out, hj]; rfl
  rw [hcj] at HA2
  obtain ⟨y0, y1, y2, y3, y4, y5, y6, y7⟩ := HA2.out.eight
  have hylt := HA2.out.lt
  have hneq := neqi_key k0 k1 k2 k3 k4 k5 k6 k7 j0 j1 j2 j3 j4 j5 j6 j7
  have HEQ : Hid ([k0, k1, k2, k3, k4, k5, k6, k7] = ks ↔ [k0, k1, k2, k3, k4, k5, k6, k7] = [j0, j1, j2, j3, j4, j5, j6, j7]) := hide (by rw [hj])
  have HB3 := hide (HB2.out.trans (((Below.refl w2.heap.size w2).alloc (Nat.le_refl _) (.cells #[.int .u8 k0, .int .u8 k1, .int .u8 k2, .int .u8 k3, .int .u8 k4, .int .u8 k5, .int .u8 k6, .int .u8 k7] 53)).mono HB2.out.size))
  clear hcj hj CK HA1 HA2 HE
  have hst : strOfNums (aheadF ks) = strOfNums (aheadF ks) := rfl
  generalize hst0 : strOfNums (aheadF ks) = st at *
  have HST := hide hst0
  clear hst hst0
  by_cases hE : E = 0
  · subst hE
    by_cases hq : [k0, k1, k2, k3, k4, k5, k6, k7] = [j0, j1, j2, j3, j4, j5, j6, j7]
    · have hn : ∀ w, (binOp .neq 53 (.agg #[.int .u8 k0, .int .u8 k1, .int .u8 k2, .int .u8 k3, .int .u8 k4, .int .u8 k5, .int .u8 k6, .int .u8 k7]) (.agg #[.int .u8 j0, .int .u8 j1, .int .u8 j2, .int .u8 j3, .int .u8 j4, .int .u8 j5, .int .u8 j6, .int .u8 j7])).run Try.prog w = .ok (.bool false) w := fun w => by rw [hneq, decide_eq_true hq]; rfl
      have HF : Hid (nameF ks = (aheadF ks, true)) := hide (by rw [HKE.out, if_neg]; simp only [not_or, Classical.not_not]; exact ⟨by trivial, HEQ.out.2 hq⟩)
      clear hneq hq
      go_wp2_with fail
      go_ret2
      exact ⟨by rw [HF.out, HST.out]; rfl, HB3.out⟩
    · have hn : ∀ w, (binOp .neq 53 (.agg #[.int .u8 k0, .int .u8 k1, .int .u8 k2, .int .u8 k3, .int .u8 k4, .int .u8 k5, .int .u8 k6, .int .u8 k7]) (.agg #[.int .u8 j0, .int .u8 j1, .int .u8 j2, .int .u8 j3, .int .u8 j4, .int .u8 j5, .int .u8 j6, .int .u8 j7])).run Try.prog w = .ok (.bool true) w := fun w => by rw [hneq, decide_eq_false hq]; rfl
      have HF : Hid (nameF ks = ([], false)) := hide (by rw [HKE.out, if_pos]; exact .inr (fun h => hq (HEQ.out.1 h)))
      clear hneq hq
      go_wp2_with fail
      go_ret2
      exact ⟨by rw [HF.out]; rfl, HB3.out⟩
  · have hE' : (E != 0) = true := bne_iff_ne.2 hE
    have HF : Hid (nameF ks = ([], false)) := hide (by rw [HKE.out, if_pos (.inl hE)])
    clear hneq hE
    go_wp2_with fail
    go_ret2
    exact ⟨by rw [HF.out]; rfl, HB3.out⟩
end
section
open Go.RowKit

theorem ahead_ne (ks : List Int) (k : Nat) (hk : k < (aheadF ks).length) : ks.getD k 0 ≠ 0 := by
  have h1 := aheadF_le ks
  have e : (aheadF ks)[k] = ks[k]'(by omega) := by
    have := aheadF_take ks
    rw [List.getElem_of_eq this]
    simp
  intro h0
  have : ks[k]'(by omega) = 0 := by
    have h2 : k < ks.length := by omega
    simpa [List.getD, h2] using h0
  rw [← e] at this
  exact aheadF_no ks (this ▸ List.getElem_mem hk)
theorem ahead_zero : ∀ ks : List Int, (aheadF ks).length < ks.length → ks.getD (aheadF ks).length 0 = 0
  | [], h => by simp at h
  | x :: r, h => by
    have ih := ahead_zero r
    unfold aheadF at h ⊢
    split
    · rename_i h0; rw [h0]; rfl
    · rename_i h0
      rw [if_neg h0] at h
      simp only [List.length_cons, List.getD_cons_succ] at h ⊢
      exact ih (by omega)
theorem name_all (ks : List Int) (hl : ks.length = 8) (h : ∀ j, (aheadF ks).length ≤ j → j < 8 → ks.getD j 0 = 0) : ks = aheadF ks ++ List.replicate (8 - (aheadF ks).length) 0 := by
  have h1 := aheadF_le ks
  have h2 := aheadF_take ks
  have h3 : ks.drop (aheadF ks).length = List.replicate (8 - (aheadF ks).length) 0 := by
    apply List.ext_getElem
    · simp [hl]
    · intro i hi1 hi2
      have hlt : (aheadF ks).length + i < ks.length := by simp at hi1; omega
      have := h ((aheadF ks).length + i) (by omega) (by omega)
      simp only [List.getElem_drop, List.getElem_replicate]
      simpa [List.getD, hlt] using this
  rw [← h3]
  conv => lhs; rw [← List.take_append_drop (aheadF ks).length ks, ← h2]
theorem name_other (ks : List Int) (j : Nat) (h1 : (aheadF ks).length ≤ j) (h2 : ks.getD j 0 ≠ 0) : ks ≠ aheadF ks ++ List.replicate (8 - (aheadF ks).length) 0 := by
  intro e
  have h3 : (aheadF ks ++ List.replicate (8 - (aheadF ks).length) 0).getD j 0 = 0 := by
    rw [List.getD_eq_getElem?_getD, List.getElem?_append_right h1, List.getElem?_replicate]
    split <;> rfl
  rw [← e] at h3
  exact h2 h3
theorem box_lies {w : World} {q : Nat} {ks : List Int} {t : TypeId} (h : Box w q (cells8 ks) t) (hl : ks.length = 8) : Lies .u8 w (.slice (some ⟨q, 0, none⟩) ks.length 8) ks :=
  .inr ⟨fun e => by rw [e] at hl; simp at hl, q, 0, 8, rfl, h.lt, by omega, by unfold maxLen; omega, fun t ht => by rw [Nat.zero_add]; exact h.cell t _ (by simp [cells8, List.getD, ht])⟩
set_option maxRecDepth 100000 in
set_option maxHeartbeats 1600000 in
theorem rname_any (ks : List Int) (hl : ks.length = 8) (w : World) :
    Calls Try.prog 84 #[.agg (cells8 ks)] w fun e w' => e = .returned (.tuple #[.string (strOfNums (nameF ks).1), .bool (nameF ks).2]) ∧ Below w.heap.size w w' := by
  have hle := aheadF_le ks
  rw [hl] at hle
  have HNE := hide (ahead_ne ks)
  have HZE := hide (ahead_zero ks)
  have HC : Hid (∀ t, t < 8 → (w.alloc (.cells (cells8 ks) 53)).cell? ⟨w.heap.size, t, none⟩ = some (.int .u8 (ks.getD t 0))) := hide (fun t ht => (box_new w _ _).cell t _ (by
    have : t < ks.length := by omega
    simp [cells8, List.getD, this]))
  have HLT := hide ((box_lies (box_new w (cells8 ks) 53) hl).take (n := (aheadF ks).length) (aheadF_le ks))
  rw [← aheadF_take ks] at HLT
  have hcv := HLT.out.convert
  have HB0 := hide ((Below.refl w.heap.size w).alloc (Nat.le_refl _) (.cells (cells8 ks) 53))
  have HALL := hide (name_all ks hl)
  have HOTH := hide (name_other ks)
  have HL := hide hl
  have HNM : Hid (nameF ks = if aheadF ks = [] ∨ ks ≠ aheadF ks ++ List.replicate (8 - (aheadF ks).length) 0 then ([], false) else (aheadF ks, true)) := hide rfl
  have HEM : Hid ((aheadF ks).length = 0 → aheadF ks = []) := hide List.eq_nil_of_length_eq_zero
  have HEN : Hid ((aheadF ks).length ≠ 0 → aheadF ks ≠ []) := hide (fun h e => h (by rw [e]; rfl))
  rw [hl] at HZE
  clear hl HLT
  generalize cells8 ks = ca at *
  generalize hst : strOfNums (aheadF ks) = st at *
  have HST := hide hst
  clear hst
  generalize hN : (aheadF ks).length = N at *
  clear hN
  go_enter Try.func84, Try.ntmps84
  go_wp2
  go_loop [4] (fun i => ∃ k : Nat, k ≤ N ∧ i = .int .i64 k) (fun i => N - (intOf i).toNat)
  case atStart => exact ⟨0, Nat.zero_le _, rfl⟩
  case round =>
    obtain ⟨k, hk, rfl⟩ := hrel
    by_cases hlt : k < N
    · have hk8 : (k : Int) < 8 := by omega
      have hcell := HC.out k (by omega)
      have hne : (ks.getD k 0 != 0) = true := bne_iff_ne.2 (HNE.out k hlt)
      generalize ks.getD k 0 = c at *
      go_wp2
      go_round
      case rel => exact ⟨k + 1, by omega, by go_num⟩
      case measure => simp [intOf]; omega
    · obtain rfl : k = N := by omega
      by_cases h8 : k < 8
      · have hk8 : (k : Int) < 8 := by omega
        have hcell := HC.out k h8
        have hzk := HZE.out h8
        rw [hzk] at hcell
        clear hzk
        go_wp2
        go_loop [5] (fun i => ∃ j : Nat, k ≤ j ∧ j ≤ 8 ∧ i = .int .i64 j ∧ Hid (∀ t, k ≤ t → t < j → ks.getD t 0 = 0)) (fun i => 8 - (intOf i).toNat)
        case atStart => exact ⟨k, Nat.le_refl _, hle, rfl, hide (fun t h1 h2 => by omega)⟩
        case round =>
          obtain ⟨j, hj1, hj2, rfl, HZ⟩ := hrel
          by_cases hj8 : j < 8
          · have hj8I : (j : Int) < 8 := by omega
            have hcj := HC.out j hj8
            by_cases h0 : ks.getD j 0 = 0
            · rw [h0] at hcj
              have HZ2 : Hid (∀ t, k ≤ t → t < j + 1 → ks.getD t 0 = 0) := hide (fun t h1 h2 => by
                by_cases e : t = j
                · rw [e]; exact h0
                · exact HZ.out t h1 (by omega))
              clear h0
              go_wp2
              go_round
              case rel => exact ⟨j + 1, by omega, by omega, by go_num, HZ2⟩
              case measure => simp [intOf]; omega
            · have HF : Hid (nameF ks = ([], false)) := hide (by rw [HNM.out, if_pos (.inr (HOTH.out j hj1 h0))])
              have hne : (ks.getD j 0 != 0) = true := bne_iff_ne.2 h0
              clear h0
              generalize ks.getD j 0 = c at *
              go_wp2
              go_ret2
              exact ⟨by rw [HF.out]; rfl, HB0.out⟩
          · have hj8I : decide ((j : Int) < 8) = false := decide_eq_false (by omega)
            have HKS := hide (HALL.out (fun t h1 h2 => HZ.out t h1 (by omega)))
            by_cases hk0 : k = 0
            · have HF : Hid (nameF ks = ([], false)) := hide (by rw [HNM.out, if_pos (.inl (HEM.out hk0))])
              have hk0I : ((k : Int) == 0) = true := beq_iff_eq.2 (by omega)
              clear hk0
              go_wp2
              go_ret2
              exact ⟨by rw [HF.out]; rfl, HB0.out⟩
            · have HF : Hid (nameF ks = (aheadF ks, true)) := hide (by
                rw [HNM.out, if_neg]
                simp only [not_or, Classical.not_not]
                exact ⟨HEN.out hk0, HKS.out⟩)
              have hk0I : ((k : Int) == 0) = false := beq_eq_false_iff_ne.2 (by omega)
              clear hk0
              have hkI8 : (k : Int) ≤ 8 := by omega
              go_wp2
              go_ret2
              exact ⟨by rw [HF.out, HST.out]; rfl, HB0.out⟩
      · have hk8 : decide ((k : Int) < 8) = false := decide_eq_false (by omega)
        go_wp2
        go_loop [5] (fun i => ∃ j : Nat, k ≤ j ∧ j ≤ 8 ∧ i = .int .i64 j ∧ Hid (∀ t, k ≤ t → t < j → ks.getD t 0 = 0)) (fun i => 8 - (intOf i).toNat)
        case atStart => exact ⟨k, Nat.le_refl _, hle, rfl, hide (fun t h1 h2 => by omega)⟩
        case round =>
          obtain ⟨j, hj1, hj2, rfl, HZ⟩ := hrel
          by_cases hj8 : j < 8
          · have hj8I : (j : Int) < 8 := by omega
            have hcj := HC.out j hj8
            by_cases h0 : ks.getD j 0 = 0
            · rw [h0] at hcj
              have HZ2 : Hid (∀ t, k ≤ t → t < j + 1 → ks.getD t 0 = 0) := hide (fun t h1 h2 => by
                by_cases e : t = j
                · rw [e]; exact h0
                · exact HZ.out t h1 (by omega))
              clear h0
              go_wp2
              go_round
              case rel => exact ⟨j + 1, by omega, by omega, by go_num, HZ2⟩
              case measure => simp [intOf]; omega
            · have HF : Hid (nameF ks = ([], false)) := hide (by rw [HNM.out, if_pos (.inr (HOTH.out j hj1 h0))])
              have hne : (ks.getD j 0 != 0) = true := bne_iff_ne.2 h0
              clear h0
              generalize ks.getD j 0 = c at *
              go_wp2
              go_ret2
              exact ⟨by rw [HF.out]; rfl, HB0.out⟩
          · have hj8I : decide ((j : Int) < 8) = false := decide_eq_false (by omega)
            have HKS := hide (HALL.out (fun t h1 h2 => HZ.out t h1 (by omega)))
            by_cases hk0 : k = 0
            · have HF : Hid (nameF ks = ([], false)) := hide (by rw [HNM.out, if_pos (.inl (HEM.out hk0))])
              have hk0I : ((k : Int) == 0) = true := beq_iff_eq.2 (by omega)
              clear hk0
              go_wp2
              go_ret2
              exact ⟨by rw [HF.out]; rfl, HB0.out⟩
            · have HF : Hid (nameF ks = (aheadF ks, true)) := hide (by
                rw [HNM.out, if_neg]
                simp only [not_or, Classical.not_not]
                exact ⟨HEN.out hk0, HKS.out⟩)
              have hk0I : ((k : Int) == 0) = false := beq_eq_false_iff_ne.2 (by omega)
              clear hk0
              have hkI8 : (k : Int) ≤ 8 := by omega
              go_wp2
              go_ret2
              exact ⟨by rw [HF.out, HST.out]; rfl, HB0.out⟩
end
section
open Go.RowKit

theorem info32 : (Try.prog.info? 31).map (fun i => (i.zero, i.size, i.bytes)) = some (some (.int .u32 0), 1, 4) := by kernel_rfl
theorem drop_two (xs : List Int) (k : Nat) (h : k < xs.length) : xs.drop k = xs.getD k 0 :: xs.drop (k + 1) := by
  rw [List.drop_eq_getElem_cons h]; simp [List.getD, h]
set_option maxRecDepth 100000 in
set_option maxHeartbeats 800000 in
theorem first_any (xs ys : List Int) (v1 v2 : Value) (w : World) (h1 : Lies .u32 w v1 xs) (h2 : Lies .u32 w v2 ys) (hl : xs.length = ys.length) (hn : xs.length ≤ 100) :
    Calls Try.prog 62 #[v1, v2] w fun e w' => e = .returned (.int .i64 (lexF xs ys)) ∧ ∃ n, w' = w.drewN n := by
  rcases h1 with ⟨rfl, ao, cap, rfl, _⟩ | ⟨hx, b1, o1, c1, rfl, hb1, hl1, hm1, hc1⟩
  · clear h2
    go_enter Try.func62, Try.ntmps62
    go_wp2
    refine wp_loop_rounds 1 ?_
    rw [rounds_succ]
    go_wp2
    go_ret
    exact ⟨ret_int (by unfold lexF; rfl), 0, rfl⟩
  · rcases h2 with ⟨rfl, _⟩ | ⟨hy, b2, o2, c2, rfl, hb2, hl2, hm2, hc2⟩
    · exact absurd (List.eq_nil_of_length_eq_zero hl) hx
    · have HC1 := hide hc1
      have HC2 := hide hc2
      have HO : Hid (lexF xs ys = lexF (xs.drop 0) (ys.drop 0)) := hide rfl
      have HL := hide hl
      unfold maxLen at hm1 hm2
      clear hc1 hc2 hl
      generalize hn1 : xs.length = n1 at *
      generalize hn2 : ys.length = n2 at *
      have HN1 := hide hn1
      have HN2 := hide hn2
      clear hn1 hn2
      go_enter Try.func62, Try.ntmps62
      go_wp2
      go_loopw [5] (fun i wr => ∃ k n : Nat, k ≤ n1 ∧ i = .int .i64 k ∧ wr = w.drewN n ∧ Hid (lexF xs ys = lexF (xs.drop k) (ys.drop k))) (fun i _ => n1 - (intOf i).toNat)
      case atStart => exact ⟨0, 0, Nat.zero_le _, rfl, rfl, HO⟩
      case round =>
        obtain ⟨k, n, hk, rfl, hwr, HK⟩ := hrel
        have HW := hide hwr
        have hbk1 : b1 < wr.heap.size := by rw [hwr]; exact hb1
        by_cases hlt : k < n1
        · have hlt2 : k < n2 := by have := HL.out; omega
          have hcell1 : ∀ m, (wr.drewN m).cell? ⟨b1, o1 + k, none⟩ = some (.int .u32 (xs.getD k 0)) := fun m => by rw [hwr]; exact HC1.out k (by omega)
          have hcell2 : ∀ m, (wr.drewN m).cell? ⟨b2, o2 + k, none⟩ = some (.int .u32 (ys.getD k 0)) := fun m => by rw [hwr]; exact HC2.out k (by omega)
          have hcell3 := hcell1 0
          have hcell4 := hcell2 0
          have HD1 := hide (drop_two xs k (by rw [HN1.out]; exact hlt))
          have HD2 := hide (drop_two ys k (by rw [HN2.out]; exact hlt2))
          clear hwr
          generalize xs.getD k 0 = x at *
          generalize ys.getD k 0 = y at *
          rcases cmpF_rng x y with ⟨h, h2⟩ | ⟨h, h2⟩ | ⟨h, h2⟩
          · have HR : Hid (lexF xs ys = -1) := hide (by rw [HK.out, HD1.out, HD2.out]; unfold lexF orF; rw [h]; rfl)
            clear h
            go_wp2
            go_quiet (fail)
            go_wp2
            go_ret
            exact ⟨ret_int HR.out.symm, n + nq, by rw [HW.out, drewN2]⟩
          · have HR : Hid (lexF xs ys = lexF (xs.drop (k + 1)) (ys.drop (k + 1))) := hide (by rw [HK.out, HD1.out, HD2.out]; show orF (cmpF x y) _ = _; unfold orF; rw [if_pos h])
            clear h
            subst h2
            go_wp2
            go_quiet (fail)
            go_wp2
            go_quiet (fail)
            go_wp2
            go_roundw
            case rel => exact ⟨k + 1, _, by omega, by go_num, by rw [HW.out, drewN2], HR⟩
            case measure => simp [intOf]; omega
          · have HR : Hid (lexF xs ys = 1) := hide (by rw [HK.out, HD1.out, HD2.out]; unfold lexF orF; rw [h]; rfl)
            have h3 : ¬ x < y := by omega
            clear h
            go_wp2
            go_quiet (fail)
            go_wp2
            go_quiet (fail)
            go_wp2
            go_ret
            exact ⟨ret_int HR.out.symm, _, by rw [HW.out]; first | exact drewN3 _ _ _ _ | exact drewN2 _ _ _⟩
        · have hge : decide ((k : Int) < (n1 : Int)) = false := decide_eq_false (by omega)
          go_wp2
          go_ret
          exact ⟨ret_int (by rw [HK.out, List.drop_eq_nil_of_le (by have := HN1.out; omega)]; unfold lexF; rfl), n, rfl⟩
end
section
open Go.RowKit

theorem wrap32_u8 {a : Int} (h0 : 0 ≤ a) (h1 : a < 256) : IntKind.u32.wrap a = a := by rw [IntKind.wrap_u32]; omega
theorem owns_lower {w : World} {base base' e size n : Nat} {v : Value} {xs : List Value} (h : w.ownsRow base e size v n xs) (hle : base' ≤ base) : w.ownsRow base' e size v n xs := by
  obtain ⟨hl, h0 | ⟨g, cap, cur, rfl, hb, r⟩⟩ := h
  · exact ⟨hl, .inl h0⟩
  · exact ⟨hl, .inr ⟨g, cap, cur, rfl, Nat.le_trans hle hb, r⟩⟩
/-- A row of one's own in a new block. -/
theorem owns_new32 (w : World) (xs : List Int) (hl : xs.length ≤ 1000000) : (w.alloc (.cells (xs.map (Value.int .u32)).toArray 31)).ownsRow w.heap.size 31 1 (.slice (some ⟨w.heap.size, 0, none⟩) xs.length xs.length) xs.length (xs.map (Value.int .u32)) := by
  refine ⟨by simp, .inr ⟨w.heap.size, xs.length, (xs.map (Value.int .u32)).toArray, rfl, Nat.le_refl _, box_new w _ _, Nat.le_refl _, by unfold maxLen; omega, by simp, ?_⟩⟩
  simp only [Nat.mul_one]
  exact List.take_of_length_le (by simp)
set_option maxRecDepth 100000 in
theorem numbers_any (a b c : Int) (w : World) (h0 : 0 ≤ a) (h1 : a < 256) : Calls Try.prog 63 #[.agg #[.int .u8 a, .int .u32 b, .int .u32 c]] w fun e w' => ∃ v, e = .returned v ∧ w'.ownsRow w.heap.size 31 1 v 3 ([a, b, c].map (Value.int .u32)) ∧ Below w.heap.size w w' := by
  have hcv := wrap32_u8 h0 h1
  go_enter Try.func63, Try.ntmps63
  go_wp2
  go_ret
  refine ⟨_, rfl, ?_, ((Below.refl _ _).alloc (Nat.le_refl _) _).alloc (by simp) _⟩
  have := owns_lower (owns_new32 (w.alloc (.cells #[.int .u8 a, .int .u32 b, .int .u32 c] 33)) [a, b, c] (by simp)) (show w.heap.size ≤ _ by simp)
  rw [World.size_alloc] at this
  exact this
set_option maxRecDepth 100000 in
set_option maxHeartbeats 1600000 in
theorem rtxs_any (a b c d e f : Int) (w : World) (h0 : 0 ≤ a) (h1 : a < 256) (h2 : 0 ≤ d) (h3 : d < 256) : Calls Try.prog 41 #[.agg #[.int .u8 a, .int .u32 b, .int .u32 c], .agg #[.int .u8 d, .int .u32 e, .int .u32 f]] w fun e' w' => e' = .returned (.int .i64 (txsF (a, b, c) (d, e, f))) ∧ Below w.heap.size w w' := by
  have C1 := hide (fun w => numbers_any a b c w h0 h1)
  have C2 := hide (fun w => numbers_any d e f w h2 h3)
  have CF : Hid (∀ v1 v2 w, Lies .u32 w v1 [a, b, c] → Lies .u32 w v2 [d, e, f] → Calls Try.prog 62 #[v1, v2] w fun e' w' => e' = .returned (.int .i64 (txsF (a, b, c) (d, e, f))) ∧ ∃ n, w' = w.drewN n) := hide (fun v1 v2 w h1 h2 => first_any [a, b, c] [d, e, f] v1 v2 w h1 h2 rfl (by simp))
  have HS0 : Hid (Box ((w.alloc (.cells #[.int .u8 a, .int .u32 b, .int .u32 c] 33)).alloc (.cells #[.int .u8 d, .int .u32 e, .int .u32 f] 33)).drew w.heap.size #[.int .u8 a, .int .u32 b, .int .u32 c] 33) := hide ((box_new w _ _).belowI (((Below.refl _ _).alloc (Nat.le_refl _) _).drew))
  have HT0 : Hid (Box ((w.alloc (.cells #[.int .u8 a, .int .u32 b, .int .u32 c] 33)).alloc (.cells #[.int .u8 d, .int .u32 e, .int .u32 f] 33)).drew (w.heap.size + 1) #[.int .u8 d, .int .u32 e, .int .u32 f] 33) := hide (by
    have := box_new (w.alloc (.cells #[.int .u8 a, .int .u32 b, .int .u32 c] 33)) #[.int .u8 d, .int .u32 e, .int .u32 f] 33
    rw [World.size_alloc] at this
    exact this)
  have HB0 := hide (((Below.refl w.heap.size w).alloc (Nat.le_refl _) (.cells #[.int .u8 a, .int .u32 b, .int .u32 c] 33)).alloc (by simp) (.cells #[.int .u8 d, .int .u32 e, .int .u32 f] 33)).drew
  generalize txsF (a, b, c) (d, e, f) = r at *
  go_enter Try.func41, Try.ntmps41
  go_wp2_with fail
  go_region_held (fun w' => w'.cell? ⟨w.heap.size, 0, none⟩ = some (.int .u8 a) ∧ w'.cell? ⟨w.heap.size, 1, none⟩ = some (.int .u32 b) ∧ w'.cell? ⟨w.heap.size, 2, none⟩ = some (.int .u32 c) ∧ w'.cell? ⟨w.heap.size + 1, 0, none⟩ = some (.int .u8 d) ∧ w'.cell? ⟨w.heap.size + 1, 1, none⟩ = some (.int .u32 e) ∧ w'.cell? ⟨w.heap.size + 1, 2, none⟩ = some (.int .u32 f)) (go_keep) (first
    | (go_at_call 63; refine (C1.out _).mono ?_; rintro e' w1 ⟨v1, rfl, ho, hB⟩; have HL1 := hide (Lies.of_own ho); have HS1 := hide (HS0.out.belowI hB); have HT1 := hide (HT0.out.belowI hB); have HB1 := hide (HB0.out.trans (hB.mono HB0.out.size)); obtain ⟨a0, a1, a2⟩ := HS1.out.three; obtain ⟨b0, b1, b2⟩ := HT1.out.three; clear hB ho C1)
    | (go_at_call 63; refine (C2.out _).mono ?_; rintro e' w2 ⟨v2, rfl, ho, hB⟩; have HL2 := hide (Lies.of_own ho); have HL3 := hide (HL1.out.below hB); have HS2 := hide (HS1.out.belowI hB); have HT2 := hide (HT1.out.belowI hB); have HB2 := hide (HB1.out.trans (hB.mono HB1.out.size)); obtain ⟨c0, c1, c2⟩ := HS2.out.three; obtain ⟨d0, d1, d2⟩ := HT2.out.three; clear hB ho)
    | (go_at_call 62; refine (CF.out _ _ _ HL3.out HL2.out).mono ?_; rintro e' w3 ⟨rfl, n3, rfl⟩))
  go_wp2_with fail
  go_ret
  exact ⟨rfl, below_drewN HB2.out⟩
end
section
open Go.RowKit

theorem owns_lt' {w : World} {base e size n : Nat} {v : Value} {xs : List Value} (h : w.ownsRow base e size v n xs) {g : Nat} (hg : v.ownBlock = some g) : g < w.heap.size := (h.lt g hg).2
/-- Two rows of one's own that lie apart. -/
structure Rows2 (base : Nat) (w : World) (v1 v2 : Value) (xs ys : List Int) : Prop where
  o1 : w.ownsRow base 31 1 v1 xs.length (xs.map (Value.int .u32))
  o2 : w.ownsRow base 31 1 v2 ys.length (ys.map (Value.int .u32))
  ne : ∀ g, v1.ownBlock = some g → v2.ownBlock ≠ some g
theorem owns_kept_ne {w w' : World} {base e size n : Nat} {v : Value} {xs : List Value} {row : Option Nat} (h : w.ownsRow base e size v n xs) (hg : w.grownBy w' row) (hne : ∀ g, v.ownBlock = some g → row ≠ some g) : w'.ownsRow base e size v n xs := by
  obtain ⟨hl, h0 | ⟨g, cap, cur, rfl, hb, hh, r⟩⟩ := h
  · exact ⟨hl, .inl h0⟩
  · exact ⟨hl, .inr ⟨g, cap, cur, rfl, hb, (hg.block g (Array.getElem?_eq_some_iff.1 hh).1 (fun e => hne g rfl e.symm)).trans hh, r⟩⟩
set_option maxRecDepth 100000 in
set_option maxHeartbeats 1600000 in
theorem rkeys_any (a b : List Int) (w : World) (ha : a.length = 8) (hb : b.length = 8) (hx : ∀ c ∈ a, 0 ≤ c ∧ c < 256) (hy : ∀ c ∈ b, 0 ≤ c ∧ c < 256) : Calls Try.prog 61 #[.agg (cells8 a), .agg (cells8 b)] w fun e w' => e = .returned (.int .i64 (lexF a b)) ∧ Below w.heap.size w w' := by
  obtain ⟨i0, hi, hz0, hz1, hz2⟩ := info_parts info32
  have HA0 : Hid (Box ((w.alloc (.cells (cells8 a) 53)).alloc (.cells (cells8 b) 53)) w.heap.size (cells8 a) 53) := hide ((box_new w _ _).belowI ((Below.refl _ _).alloc (Nat.le_refl _) _))
  have HB0 : Hid (Box ((w.alloc (.cells (cells8 a) 53)).alloc (.cells (cells8 b) 53)) (w.heap.size + 1) (cells8 b) 53) := hide (by
    have := box_new (w.alloc (.cells (cells8 a) 53)) (cells8 b) 53
    rw [World.size_alloc] at this
    exact this)
  have HW0 := hide (((Below.refl w.heap.size w).alloc (Nat.le_refl _) (.cells (cells8 a) 53)).alloc (by simp) (.cells (cells8 b) 53))
  have hs0 : ((w.alloc (.cells (cells8 a) 53)).alloc (.cells (cells8 b) 53)).heap.size = w.heap.size + 2 := by simp
  have HS0 := hide hs0
  have HX := hide hx
  have HY := hide hy
  have HA := hide ha
  have HB := hide hb
  have CF := hide (fun v1 v2 w h1 h2 => first_any a b v1 v2 w h1 h2 (by rw [ha, hb]) (by omega))
  clear hx hy ha hb hs0
  generalize hca : cells8 a = ca at *
  generalize hcb : cells8 b = cb at *
  have HCA := hide hca
  have HCB := hide hcb
  clear hca hcb
  go_enter Try.func61, Try.ntmps61
  go_wp2
  generalize hW0 : (w.alloc (.cells ca 53)).alloc (.cells cb 53) = W0 at *
  clear hW0
  go_loopw [5, 6, 7] (fun v1 v2 i wr => ∃ k : Nat, k ≤ 8 ∧ i = .int .i64 k ∧ Hid (Rows2 W0.heap.size wr v1 v2 (a.take k) (b.take k)) ∧ Hid (Below W0.heap.size W0 wr)) (fun _ _ i _ => 8 - (intOf i).toNat)
  case atStart => exact ⟨0, by omega, rfl, hide ⟨World.ownsRow_nil _ _ _ _, World.ownsRow_nil _ _ _ _, fun g hg => by cases hg⟩, hide (Below.refl _ _)⟩
  case round =>
    obtain ⟨k, hk, rfl, HR, HBW⟩ := hrel
    by_cases hlt : k < 8
    · have hkI : (k : Int) < 8 := by omega
      have hla : k < a.length := by have := HA.out; omega
      have hlb : k < b.length := by have := HB.out; omega
      have c1 : wr.cell? ⟨w.heap.size, k, none⟩ = some (.int .u8 (a.getD k 0)) := (HA0.out.belowI HBW.out).cell k _ (by rw [← HCA.out]; simp [cells8, List.getD, hla])
      have HYE : Hid (cb[k]? = some (.int .u8 (b.getD k 0))) := hide (by rw [← HCB.out]; simp [cells8, List.getD, hlb])
      have hxa := HX.out (a.getD k 0) (by simp [List.getD, hla])
      have hyb := HY.out (b.getD k 0) (by simp [List.getD, hlb])
      have hv1 := wrap32_u8 hxa.1 hxa.2
      have hv2 := wrap32_u8 hyb.1 hyb.2
      have HT1 : Hid (a.take (k + 1) = a.take k ++ [a.getD k 0]) := hide (by rw [List.take_succ_eq_append_getElem hla]; simp [List.getD, hla])
      have HT2 : Hid (b.take (k + 1) = b.take k ++ [b.getD k 0]) := hide (by rw [List.take_succ_eq_append_getElem hlb]; simp [List.getD, hlb])
      have HLA : Hid ((a.take k).length = k) := hide (by simp; omega)
      have HLB : Hid ((b.take k).length = k) := hide (by simp; omega)
      have ho1 := HR.out.o1
      have ho2 := HR.out.o2
      rw [HLA.out] at ho1
      rw [HLB.out] at ho2
      have HO1 := hide ho1
      have HO2 := hide ho2
      have HNE := hide HR.out.ne
      have HSZ := hide HBW.out.size
      clear ho1 ho2 HR hxa hyb
      generalize a.getD k 0 = x at *
      generalize b.getD k 0 = y at *
      go_wp2_with (first
        | (at_builtin; refine wpList_append_own_at _ rfl _ _ 120 rfl W0.heap.size 31 i0 (.int .u32 0) 1 4 Try.underlying120 hi hz0 hz1 hz2 rfl (by decide) _ k _ rfl (HO1.out.alloc _) ⟨wr.heap.size, 0, none⟩ 1 1 [.int .u32 x] rfl rfl (cell_one_new _ _ _) (ints_oneCell .u32 [x]) (by unfold maxLen; omega) (by omega) (by have := HSZ.out; simp; omega) ?_; intro v1' w1 ho1' hg1 hn1 hat1; have hB1 := (HBW.out.alloc HSZ.out (.cells #[.int .u32 x] 31)).grown hg1 (by have := HSZ.out; simp; omega) (fun g hg => (HO1.out.lt g hg).1); have c2 := (HB0.out.belowI hB1).cell k _ HYE.out; have HO2' := hide (owns_kept_ne (HO2.out.alloc (.cells #[.int .u32 x] 31)) hg1 (fun g hg e => HNE.out g e hg)); have HO1' := hide ho1'; have HAT1 := hide hat1; have HB1 := hide hB1; have HSZ1 := hide hB1.size; have HLT1 := hide (fun g (hg : u5.ownBlock = some g) => Nat.lt_of_lt_of_le (owns_lt' HO1.out hg) (Nat.le_refl _)); have HG1 := hide hg1; clear ho1' hg1 hn1 hat1 HO1 hB1)
        | (at_builtin; refine wpList_append_own_at _ rfl _ _ 120 rfl W0.heap.size 31 i0 (.int .u32 0) 1 4 Try.underlying120 hi hz0 hz1 hz2 rfl (by decide) _ k _ rfl (HO2'.out.alloc _) ⟨w1.heap.size, 0, none⟩ 1 1 [.int .u32 y] rfl rfl (cell_one_new _ _ _) (ints_oneCell .u32 [y]) (by unfold maxLen; omega) (by omega) (by have := HSZ1.out; simp; omega) ?_; intro v2' w2 ho2' hg2 hn2 hat2; have HB2 := hide ((HB1.out.alloc HSZ1.out (.cells #[.int .u32 y] 31)).grown hg2 (by have := HSZ1.out; simp; omega) (fun g hg => (HO2'.out.lt g hg).1)); have HO2'' := hide ho2'; have HG2 := hide hg2; have HAT2 := hide hat2; clear ho2' hg2 hn2 hat2)
        | go_in)
      have h6lt : ∀ g, u6.ownBlock = some g → g < wr.heap.size := fun g hg => owns_lt' HO2.out hg
      have h1lt : ∀ g, v1'.ownBlock = some g → g < w1.heap.size := fun g hg => owns_lt' HO1'.out hg
      have hapart : ∀ g, v1'.ownBlock = some g → u6.ownBlock ≠ some g := fun g hg e => by
        rcases HAT1.out with h | h
        · exact HNE.out g (h ▸ hg) e
        · rw [h] at hg
          have := h6lt g e
          simp at hg
          omega
      have hR : Rows2 W0.heap.size w2 v1' v2' (a.take (k + 1)) (b.take (k + 1)) := by
        refine ⟨?_, ?_, fun g hg e => ?_⟩
        · rw [HT1.out, List.map_append, List.length_append, HLA.out]
          exact owns_kept_ne (HO1'.out.alloc (.cells #[.int .u32 y] 31)) HG2.out (fun g hg e => hapart g hg e)
        · rw [HT2.out, List.map_append, List.length_append, HLB.out]
          exact HO2''.out
        · rcases HAT2.out with h | h
          · exact hapart g hg (h ▸ e)
          · rw [h] at e
            have := h1lt g hg
            simp at e
            omega
      go_roundw
      case rel => exact ⟨k + 1, by omega, by go_num, hide hR, HB2⟩
      case measure => simp [intOf]; omega
    · have hge : decide ((k : Int) < 8) = false := decide_eq_false (by omega)
      obtain rfl : k = 8 := by omega
      have HL1 := hide (Lies.of_own HR.out.o1)
      have HL2 := hide (Lies.of_own HR.out.o2)
      rw [show a.take 8 = a from List.take_of_length_le (by have := HA.out; omega)] at HL1
      rw [show b.take 8 = b from List.take_of_length_le (by have := HB.out; omega)] at HL2
      have HBR := hide (HW0.out.trans (HBW.out.mono HW0.out.size))
      go_wp2_with (go_at_call 62; refine (CF.out _ _ _ HL1.out HL2.out).mono ?_; rintro e' w3 ⟨rfl, n3, rfl⟩)
      go_ret
      exact ⟨rfl, below_drewN HBR.out⟩
end
end Go.Proofs.Ytodomdmmffooaaa
