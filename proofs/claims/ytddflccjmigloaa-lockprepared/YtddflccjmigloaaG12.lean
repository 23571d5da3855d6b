/-
  Own texts put together: Cuts, IdName, LkGet, IdNum, LkAge, MgLaw, MgDo. Own work.
-/
import Derived.Test.YtddflccjmigloaaG02
import Derived.Test.YtddflccjmigloaaG11
import Derived.Test.YtddflccjmigloaaG10
import Derived.Test.YtddflccjmigloaaG09
import Derived.Test.YtddflccjmigloaaG01
import Derived.Lib.BytesEntry
import Derived.Deep.QuietTactic
import Derived.BigQuiet
import Derived.Deep.RegionHeldLaw
import Derived.Sort.Grow
import Derived.Deep.LoopGhost
namespace Go.Proofs.Ytddflccjmigloaa
section
open Go.RowKit

theorem Lies.cap {k : IntKind} {w : World} {ao : Option Addr} {cap : Nat} {xs : List Int} (h : Lies k w (.slice ao xs.length cap) xs) : xs.length ≤ cap := by
  rcases h with ⟨rfl, _⟩ | ⟨_, b, off, cap', e, _, hl, _⟩
  · simp
  · cases e; exact hl
theorem Lies.drop {k : IntKind} {w : World} {ao : Option Addr} {cap s : Nat} {xs : List Int} (h : Lies k w (.slice ao xs.length cap) xs) (hs : s ≤ xs.length) :
    Lies k w (.slice (if cap = s then ao else ao.map (·.add (s * 1))) (xs.length - s) (cap - s)) (xs.drop s) := by
  rcases h with ⟨rfl, ao', cap', e, h0⟩ | ⟨hne, b, off, cap', e, hb, hl, hm, hc⟩
  · cases e
    obtain rfl : s = 0 := by simpa using hs
    refine .inl ⟨by simp, _, cap, rfl, fun hn => ?_⟩
    split at hn
    · assumption
    · cases ao with
      | none => exact h0 rfl
      | some ad => cases hn
  · cases e
    by_cases hlt : s < xs.length
    · rw [if_neg (by omega)]
      have hlen : (xs.drop s).length = xs.length - s := by simp
      refine .inr ⟨fun e => by rw [e] at hlen; simp at hlen; omega, b, off + s, cap - s, by simp [Addr.add_lit], hb, by omega, by omega, fun t ht => ?_⟩
      rw [Nat.add_assoc, hc (s + t) (by omega)]
      simp [List.getD]
    · obtain rfl : s = xs.length := by omega
      refine .inl ⟨by simp, _, _, by rw [Nat.sub_self], fun hn => ?_⟩
      split at hn
      · cases hn
      · cases hn
theorem Lies.take {k : IntKind} {w : World} {ao : Option Addr} {cap n : Nat} {xs : List Int} (h : Lies k w (.slice ao xs.length cap) xs) (hn : n ≤ xs.length) : Lies k w (.slice ao n cap) (xs.take n) := by
  rcases h with ⟨rfl, ao', cap', e, h0⟩ | ⟨hne, b, off, cap', e, hb, hl, hm, hc⟩
  · cases e
    obtain rfl : n = 0 := by simpa using hn
    exact .inl ⟨by simp, ao, cap, rfl, h0⟩
  · cases e
    by_cases h0 : n = 0
    · subst h0
      exact .inl ⟨by simp, _, _, rfl, fun h => by cases h⟩
    · have hlen : (xs.take n).length = n := by simp; omega
      refine .inr ⟨fun e => by rw [e] at hlen; simp at hlen; omega, b, off, cap, by rw [hlen], hb, by omega, hm, fun t ht => ?_⟩
      rw [hc t (by omega)]
      have : t < n := by omega
      simp [List.getD, this]
/-- 'x[s:]' -/
theorem run_from (w : World) (ao : Option Addr) (n cap s : Nat) (hs : s ≤ n) : (Instr.sliceAt 106 (.slice ao n cap) (some (.int .i64 s)) none none).run Try.prog w = .ok (.slice (if cap = s then ao else ao.map (·.add (s * 1))) (n - s) (cap - s)) w := by
  simp [Instr.sliceAt, Instr.slice, run_underlying Try.underlying106, Instr.sliceBounds, Instr.sliceBound, asIntOf]
  omega
/-- 'x[:n]' -/
theorem run_to (w : World) (kd : IntKind) (ao : Option Addr) (m cap n : Nat) (hn : n ≤ cap) : (Instr.sliceAt 106 (.slice ao m cap) none (some (.int kd n)) none).run Try.prog w = .ok (.slice ao n cap) w := by
  have h2 : (if cap = 0 then ao else Option.map (fun x => x.add 0) ao) = ao := by
    split
    · rfl
    · cases ao with
      | none => rfl
      | some ad => simp [Addr.add]
  simp [Instr.sliceAt, Instr.slice, run_underlying Try.underlying106, Instr.sliceBounds, Instr.sliceBound, asIntOf, h2]
  omega
end
section
open Go.RowKit

set_option maxRecDepth 100000 in
theorem bindex_any (w : World) (b off c : Nat) (xs : List Int) (hc : ∀ t, t < xs.length → w.cell? ⟨b, off + t, none⟩ = some (.int .u8 (xs.getD t 0))) (hx : ∀ c ∈ xs, 0 ≤ c ∧ c < 256) :
    Calls Try.prog 94 #[.slice (some ⟨b, off, none⟩) xs.length c, .int .u8 0] w fun e w' => e = .returned (.int .i64 (if 0 ∈ xs then ((aheadF xs).length : Int) else -1)) ∧ w' = w := by
  have hr := Lib.run_indexByteSlice (P := Try.prog) w b off xs.length c xs rfl hc 0
  have h0 : Lib.indexByte (Lib.bytesOf xs) (0 : Int).toNat.toUInt8 = if 0 ∈ xs then ((aheadF xs).length : Int) else -1 := index_zero xs hx
  rw [h0] at hr
  generalize (if 0 ∈ xs then ((aheadF xs).length : Int) else -1) = r at *
  generalize xs.length = n at *
  clear hc hx h0
  go_enter Try.func94, Try.ntmps94
  go_wp2
  rw [run_callFunc_extern Try.func101 (by kernel_rfl) (by kernel_rfl) (by kernel_rfl) (e := Extern.BytealgIndexByte.indexByte) (by kernel_rfl), hr]
  simp only [Result.andThen]
  rw [Oper.upon_value]
  go_wp2
  go_ret
  exact ⟨rfl, rfl⟩
set_option maxRecDepth 100000 in
set_option maxHeartbeats 1600000 in
theorem index1_any (w : World) (b off c b2 c2 : Nat) (xs : List Int) (hc : ∀ t, t < xs.length → w.cell? ⟨b, off + t, none⟩ = some (.int .u8 (xs.getD t 0))) (hx : ∀ c ∈ xs, 0 ≤ c ∧ c < 256) (hs : w.cell? ⟨b2, 0, none⟩ = some (.int .u8 0)) :
    Calls Try.prog 88 #[.slice (some ⟨b, off, none⟩) xs.length c, .slice (some ⟨b2, 0, none⟩) 1 c2] w fun e w' => e = .returned (.int .i64 (if 0 ∈ xs then ((aheadF xs).length : Int) else -1)) ∧ w' = w := by
  have C := hide (bindex_any w b off c xs hc hx)
  generalize (if 0 ∈ xs then ((aheadF xs).length : Int) else -1) = r at *
  generalize xs.length = n at *
  clear hc hx
  go_enter Try.func88, Try.ntmps88
  go_wp2_with (go_at_call 94; refine C.out.mono ?_; rintro e w' ⟨rfl, rfl⟩)
  go_ret
  exact ⟨rfl, rfl⟩
set_option maxRecDepth 100000 in
set_option maxHeartbeats 1600000 in
theorem cut_any (w : World) (b b2 : Nat) (ks : List Int) (hl : ks.length = 8) (hc : ∀ t, t < ks.length → w.cell? ⟨b, 0 + t, none⟩ = some (.int .u8 (ks.getD t 0))) (hx : ∀ c ∈ ks, 0 ≤ c ∧ c < 256) (hs : w.cell? ⟨b2, 0, none⟩ = some (.int .u8 0)) :
    Calls Try.prog 72 #[.slice (some ⟨b, 0, none⟩) 8 8, .slice (some ⟨b2, 0, none⟩) 1 1] w fun e w' => ∃ x y n, e = .returned (.tuple #[.slice (some ⟨b, 0, none⟩) (aheadF ks).length 8, x, y]) ∧ w' = w.drewN n := by
  have hC := index1_any w b 0 8 b2 1 ks hc hx hs
  rw [hl] at hC
  have hle := aheadF_le ks
  rw [hl] at hle
  by_cases h0 : (0 : Int) ∈ ks
  · rw [if_pos h0] at hC
    have hlt : (aheadF ks).length < 8 := by
      rcases Nat.lt_or_ge (aheadF ks).length 8 with h | h
      · exact h
      · have e : aheadF ks = ks := by
          have := aheadF_take ks
          rw [List.take_of_length_le (by omega)] at this
          exact this
        have h1 := aheadF_no ks
        rw [e] at h1
        exact absurd h0 h1
    have C := hide hC
    have HTO := fun w => run_to w .i64 (some ⟨b, 0, none⟩) 8 8 (aheadF ks).length (by omega)
    have HFR := fun w => run_from w (some ⟨b, 0, none⟩) 8 8 ((aheadF ks).length + 1) (by omega)
    generalize (aheadF ks).length = n at *
    have hnat : (((n + 1 : Nat)) : Int) = (n : Int) + 1 := by omega
    rw [hnat] at HFR
    generalize (if 8 = n + 1 then (some ⟨b, 0, none⟩ : Option Addr) else (some ⟨b, 0, none⟩ : Option Addr).map (·.add ((n + 1) * 1))) = ao at *
    have hn0 : (0 : Int) ≤ (n : Int) := by omega
    have hnlt : (n : Int) < 8 := by omega
    clear hC hc hx hle hnat
    go_enter Try.func72, Try.ntmps72
    go_wp2_with (go_at_call 88; refine C.out.mono ?_; rintro e w' ⟨rfl, rfl⟩)
    go_quiet (fail)
    go_wp2
    go_ret3
    exact ⟨_, _, _, rfl, rfl⟩
  · rw [if_neg h0] at hC
    have C := hide hC
    have HE : Hid ((aheadF ks).length = 8) := hide (by rw [aheadF_all ks h0, hl])
    rw [HE.out]
    clear hC hc hx hle
    go_enter Try.func72, Try.ntmps72
    go_wp2_with (go_at_call 88; refine C.out.mono ?_; rintro e w' ⟨rfl, rfl⟩)
    go_ret3
    exact ⟨_, _, 0, rfl, rfl⟩
theorem strOf_len (l : List Int) : (strOfNums l).size = l.length := by simp [strOfNums, ByteArray.size]
theorem numsS_strOf (l : List Int) (hl : ∀ c ∈ l, 0 ≤ c ∧ c < 256) : numsS (strOfNums l) = l := by
  unfold numsS
  show (l.map fun n : Int => UInt8.ofNat n.toNat).map _ = l
  rw [List.map_map]
  conv => rhs; rw [← List.map_id l]
  apply List.map_congr_left
  intro c hc
  have := hl c hc
  show ((UInt8.ofNat c.toNat).toNat : Int) = c
  rw [UInt8.toNat_ofNat']
  omega
theorem eight8 (l : List Int) (h : l.length = 8) : ∃ a b c d e f g i, l = [a, b, c, d, e, f, g, i] := by
  match l, h with
  | [a, b, c, d, e, f, g, i], _ => exact ⟨a, b, c, d, e, f, g, i, rfl⟩
set_option maxRecDepth 100000 in
set_option maxHeartbeats 1600000 in
theorem name_any (ks : List Int) (hl : ks.length = 8) (hx : ∀ c ∈ ks, 0 ≤ c ∧ c < 256) (w : World) :
    Calls Try.prog 54 #[.agg (cells8 ks)] w fun e w' => e = .returned (.tuple #[.string (strOfNums (nameF ks).1), .bool (nameF ks).2]) ∧ Below w.heap.size w w' := by
  have HE := hide (nameF_by_key ks hl)
  have hbx : ∀ c ∈ aheadF ks, 0 ≤ c ∧ c < 256 := fun c hc => hx c (aheadF_sub ks c hc)
  have hle := aheadF_le ks
  have HK8 := hide (keyOfF_fst (aheadF ks))
  have hK := fun w => keyOf_any (strOfNums (aheadF ks)) (by rw [strOf_len]; unfold maxLen; omega) w
  rw [numsS_strOf _ hbx] at hK
  have CK := hide hK
  have HA0 : Hid (Box ((w.alloc (.cells (cells8 ks) 34)).alloc (.cells #[.int .u8 0] 5)) w.heap.size (cells8 ks) 34) := hide ((box_new w _ _).belowI ((Below.refl _ _).alloc (Nat.le_refl _) _))
  have HS0 : Hid (Box ((w.alloc (.cells (cells8 ks) 34)).alloc (.cells #[.int .u8 0] 5)) (w.heap.size + 1) #[.int .u8 0] 5) := hide (by
    have := box_new (w.alloc (.cells (cells8 ks) 34)) #[.int .u8 0] 5
    rw [World.size_alloc] at this
    exact this)
  have HB0 := hide (((Below.refl w.heap.size w).alloc (Nat.le_refl _) (.cells (cells8 ks) 34)).alloc (by simp) (.cells #[.int .u8 0] 5))
  have CC := hide (cut_any _ w.heap.size (w.heap.size + 1) ks hl (fun t ht => by rw [Nat.zero_add]; exact HA0.out.cell t _ (by simp [cells8, List.getD, ht])) hx (HS0.out.cell 0 _ rfl))
  have HI := hide infoKeyI
  have HS8 : Hid ((cells8 ks).size = 8) := hide (by rw [cells8_size]; exact hl)
  have HI2 : Hid ((Try.prog.info? 34).map (·.size) = some (cells8 ks).size) := hide (by rw [HS8.out]; exact HI.out)
  have HL := hide hl
  have HX := hide hx
  have HLIE : Hid (∀ W, Box W w.heap.size (cells8 ks) 34 → Lies .u8 W (.slice (some ⟨w.heap.size, 0, none⟩) (aheadF ks).length 8) (aheadF ks)) := hide (fun W hW => by
    have h8 : Lies .u8 W (.slice (some ⟨w.heap.size, 0, none⟩) ks.length 8) ks := .inr ⟨fun e => by rw [e] at hl; simp at hl, w.heap.size, 0, 8, rfl, hW.lt, by omega, by unfold maxLen; omega, fun t ht => by rw [Nat.zero_add]; exact hW.cell t _ (by simp [cells8, List.getD, ht])⟩
    have h9 := h8.take (n := (aheadF ks).length) hle
    rw [← aheadF_take ks] at h9
    exact h9)
  clear hl hx hbx hle hK
  have HEE : Hid ((keyOfF (aheadF ks)).2 = (keyOfF (aheadF ks)).2) := hide rfl
  obtain ⟨k0, k1, k2, k3, k4, k5, k6, k7, hkk⟩ := eight8 _ HK8.out
  have HEK := hide hkk
  rw [hkk] at CK
  have hcc : cells8 [k0, k1, k2, k3, k4, k5, k6, k7] = #[.int .u8 k0, .int .u8 k1, .int .u8 k2, .int .u8 k3, .int .u8 k4, .int .u8 k5, .int .u8 k6, .int .u8 k7] := rfl
  rw [hcc] at CK
  clear hkk hcc HK8
  generalize (keyOfF (aheadF ks)).2 = E at *
  generalize hca : cells8 ks = ca at *
  have HCA := hide hca
  clear hca
  go_enter Try.func54, Try.ntmps54
  go_wp2_with fail
  refine CC.out.mono ?_
  rintro e w1 ⟨x, y, n1, rfl, hw1⟩
  have hA1 : Box w1 w.heap.size ca 34 := by rw [hw1]; exact HA0.out
  have HB1 : Hid (Below w.heap.size w w1) := hide (by rw [hw1]; exact below_drewN HB0.out)
  have hcv := (HLIE.out w1 hA1).convert
  have HA1 := hide hA1
  clear hw1 hA1 HA0 HS0 HB0 CC
  generalize (aheadF ks).length = n at *
  go_wp2_with fail
  refine (CK.out _).mono ?_
  rintro e w2 ⟨rfl, hB2⟩
  have HA2 := hide (HA1.out.belowI hB2)
  have HB2 := hide (HB1.out.trans (hB2.mono HB1.out.size))
  clear hB2 hcv
  have HKE : Hid (nameF ks = if E ≠ 0 ∨ [k0, k1, k2, k3, k4, k5, k6, k7] ≠ ks then ([], false) else (aheadF ks, true)) := hide (by rw [HE.out, HEK.out])
  obtain ⟨j0, j1, j2, j3, j4, j5, j6, j7, hj⟩ := eight8 ks HL.out
  have hcj : ca = #[.int .u8 j0, .int .u8 j1, .int .u8 j2, .int .u8 j3, .int .u8 j4, .int .u8 j5, .int .u8 j6, .int .u8 j7] := by rw [← HCA.out, hj]; rfl
  rw [hcj] at HA2
  obtain ⟨y0, y1, y2, y3, y4, y5, y6, y7⟩ := HA2.out.eight
  have hylt := HA2.out.lt
  have hneq := neqi_key k0 k1 k2 k3 k4 k5 k6 k7 j0 j1 j2 j3 j4 j5 j6 j7
  have HEQ : Hid ([k0, k1, k2, k3, k4, k5, k6, k7] = ks ↔ [k0, k1, k2, k3, k4, k5, k6, k7] = [j0, j1, j2, j3, j4, j5, j6, j7]) := hide (by rw [hj])
  have HB3 := hide (HB2.out.trans (((Below.refl w2.heap.size w2).alloc (Nat.le_refl _) (.cells #[.int .u8 k0, .int .u8 k1, .int .u8 k2, .int .u8 k3, .int .u8 k4, .int .u8 k5, .int .u8 k6, .int .u8 k7] 34)).mono HB2.out.size))
  clear hcj hj CK HA1 HA2 HE
  have hst : strOfNums (aheadF ks) = strOfNums (aheadF ks) := rfl
  generalize hst0 : strOfNums (aheadF ks) = st at *
  have HST := hide hst0
  clear hst hst0
  by_cases hE : E = 0
  · subst hE
    by_cases hq : [k0, k1, k2, k3, k4, k5, k6, k7] = [j0, j1, j2, j3, j4, j5, j6, j7]
    · have hn : ∀ w, (binOp .neq 34 (.agg #[.int .u8 k0, .int .u8 k1, .int .u8 k2, .int .u8 k3, .int .u8 k4, .int .u8 k5, .int .u8 k6, .int .u8 k7]) (.agg #[.int .u8 j0, .int .u8 j1, .int .u8 j2, .int .u8 j3, .int .u8 j4, .int .u8 j5, .int .u8 j6, .int .u8 j7])).run Try.prog w = .ok (.bool false) w := fun w => by rw [hneq, decide_eq_true hq]; rfl
      have HF : Hid (nameF ks = (aheadF ks, true)) := hide (by rw [HKE.out, if_neg]; simp only [not_or, Classical.not_not]; exact ⟨by trivial, HEQ.out.2 hq⟩)
      clear hneq hq
      go_wp2_with fail
      go_ret2
      exact ⟨by rw [HF.out, HST.out]; rfl, HB3.out⟩
    · have hn : ∀ w, (binOp .neq 34 (.agg #[.int .u8 k0, .int .u8 k1, .int .u8 k2, .int .u8 k3, .int .u8 k4, .int .u8 k5, .int .u8 k6, .int .u8 k7]) (.agg #[.int .u8 j0, .int .u8 j1, .int .u8 j2, .int .u8 j3, .int .u8 j4, .int .u8 j5, .int .u8 j6, .int .u8 j7])).run Try.prog w = .ok (.bool true) w := fun w => by rw [hneq, decide_eq_false hq]; rfl
      have HF : Hid (nameF ks = ([], false)) := hide (by rw [HKE.out, if_pos]; exact .inr (fun h => hq (HEQ.out.1 h)))
      clear hneq hq
      go_wp2_with fail
      go_ret2
      exact ⟨by rw [HF.out]; rfl, HB3.out⟩
  · have hE' : (E != 0) = true := bne_iff_ne.2 hE
    have HF : Hid (nameF ks = ([], false)) := hide (by rw [HKE.out, if_pos (.inl hE)])
    clear hneq hE
    go_wp2_with fail
    go_ret2
    exact ⟨by rw [HF.out]; rfl, HB3.out⟩
end
section
open Go.RowKit Go.Maps Classical

theorem field0_us (e : E15) (w : World) : (Instr.field 66 (usV e) 0).run Try.prog w = .ok (.agg #[.int .u32 (e.1 : Int), .int .u8 (e.2.1.1 : Int), .int .u32 (e.2.1.2.1 : Int), .int .u32 (e.2.1.2.2 : Int)]) w := by kernel_rfl
theorem field1_us (e : E15) (w : World) : (Instr.field 66 (usV e) 1).run Try.prog w = .ok (.bool e.2.2.1) w := by kernel_rfl
theorem field2_us (e : E15) (w : World) : (Instr.field 66 (usV e) 2).run Try.prog w = .ok (.map e.2.2.2.1) w := by kernel_rfl
theorem field3_us (e : E15) (w : World) : (Instr.field 66 (usV e) 3).run Try.prog w = .ok (.map e.2.2.2.2) w := by kernel_rfl
set_option maxRecDepth 100000 in
set_option maxHeartbeats 1600000 in
theorem lkMode_any (q b C : Nat) (p : TxN → Nat × Nat) (l : List (UsP KeyT)) (t : TxN) (k : KeyT) (w : World) (h : PLk w q b C p l) (ht : TxB t) :
    Calls Try.prog 12 #[.pointer (some ⟨q, 0, none⟩), txVN t, .agg (eightA k.1)] w fun e w' => e = .returned (.int .u8 ((getU l t).h k : Int)) ∧ Below w.heap.size w w' := by
  have hA := alloc_below14 w (.cells #[.int .u8 (t.1 : Int), .int .u32 (t.2.1 : Int), .int .u32 (t.2.2 : Int)] 30)
  have hA2 := alloc_below14 (w.alloc (.cells #[.int .u8 (t.1 : Int), .int .u32 (t.2.1 : Int), .int .u32 (t.2.2 : Int)] 30)) (.cells (eightA k.1) 34)
  have hB2 := hA.trans (hA2.mono hA.size)
  have HXT := hide ((box_new w #[.int .u8 (t.1 : Int), .int .u32 (t.2.1 : Int), .int .u32 (t.2.2 : Int)] 30).belowI hA2)
  have HXK : Hid (Box ((w.alloc (.cells #[.int .u8 (t.1 : Int), .int .u32 (t.2.1 : Int), .int .u32 (t.2.2 : Int)] 30)).alloc (.cells (eightA k.1) 34)) (w.heap.size + 1) (eightA k.1) 34) := hide (by have := box_new (w.alloc (.cells #[.int .u8 (t.1 : Int), .int .u32 (t.2.1 : Int), .int .u32 (t.2.2 : Int)] 30)) (eightA k.1) 34; simpa using this)
  obtain ⟨w1, hw1⟩ : ∃ w1, w1 = (w.alloc (.cells #[.int .u8 (t.1 : Int), .int .u32 (t.2.1 : Int), .int .u32 (t.2.2 : Int)] 30)).alloc (.cells (eightA k.1) 34) := ⟨_, rfl⟩
  obtain ⟨p1, hp1⟩ : ∃ p1, p1 = w.heap.size := ⟨_, rfl⟩
  obtain ⟨p2, hp2⟩ : ∃ p2, p2 = p1 + 1 := ⟨_, rfl⟩
  rw [← hw1, ← hp1] at HXT
  rw [← hw1, ← hp1, ← hp2] at HXK
  rw [← hw1] at hB2
  have HW1 := hide hw1
  have HP1 := hide hp1
  have HP2 := hide hp2
  have H1 := hide (h.below hB2)
  have HB := hide hB2
  obtain ⟨⟨tm, ⟨ta, tb, tc⟩, pr, hb, wb⟩, hE⟩ : ∃ E : E15, E = (gU l p ⟨t, ht⟩).getD zE := ⟨_, rfl⟩
  have CF : Hid (∀ W, PLk W q b C p l → Calls Try.prog 26 #[.pointer (some ⟨q, 0, none⟩), txVN t] W fun e w' => e = .returned (usV (tm, (ta, tb, tc), pr, hb, wb)) ∧ Below W.heap.size W w') := hide (fun W hW => by
    have := lkFind_any q b C p l t W hW ht
    rw [← hE] at this
    exact this)
  have HRD : Hid (∀ W, PLk W q b C p l → MRead W hb (getU l t).h) := hide (fun W hW => by
    have := (hW.read ⟨t, ht⟩).1
    rw [← hE] at this
    exact this)
  obtain ⟨k0, k1, k2⟩ := HXT.out.three
  obtain ⟨x0, x1, x2, x3, x4, x5, x6, x7⟩ := box_eight14 HXK.out
  obtain ⟨f, hf⟩ : ∃ f, f = (getU l t).h := ⟨_, rfl⟩
  rw [← hf] at HRD ⊢
  clear h hA hA2 hB2 hw1 hp1 hp2 hE hf
  have hf2 := field2_us (tm, (ta, tb, tc), pr, hb, wb)
  go_enter Try.func12, Try.ntmps12
  go_wp2_with fail
  rw [← HW1.out, ← HP1.out, ← HP2.out]
  go_region_held (fun w' => w'.cell? ⟨p1, 0, none⟩ = some (.int .u8 (t.1 : Int)) ∧ w'.cell? ⟨p1, 1, none⟩ = some (.int .u32 (t.2.1 : Int)) ∧ w'.cell? ⟨p1, 2, none⟩ = some (.int .u32 (t.2.2 : Int)) ∧ w'.cell? ⟨p2, 0, none⟩ = some (.int .u8 (at8 k.1 0)) ∧ w'.cell? ⟨p2, 1, none⟩ = some (.int .u8 (at8 k.1 1)) ∧ w'.cell? ⟨p2, 2, none⟩ = some (.int .u8 (at8 k.1 2)) ∧ w'.cell? ⟨p2, 3, none⟩ = some (.int .u8 (at8 k.1 3)) ∧ w'.cell? ⟨p2, 4, none⟩ = some (.int .u8 (at8 k.1 4)) ∧ w'.cell? ⟨p2, 5, none⟩ = some (.int .u8 (at8 k.1 5)) ∧ w'.cell? ⟨p2, 6, none⟩ = some (.int .u8 (at8 k.1 6)) ∧ w'.cell? ⟨p2, 7, none⟩ = some (.int .u8 (at8 k.1 7))) (go_keep) (first
    | (go_at_call 26; refine (CF.out _ (H1.out.below (below_drew14 w1))).mono ?_; rintro e w3 ⟨rfl, hB3⟩; have HB3 := hide (HB.out.trans (((below_drew14 w1).trans hB3).mono HB.out.size)); have L3 := (HRD.out _ (H1.out.below ((below_drew14 w1).trans hB3))).look k; have ss : _ ∧ _ ∧ _ := (HXT.out.belowI ((below_drew14 w1).trans hB3)).three; have ss2 := box_eight14 (HXK.out.belowI ((below_drew14 w1).trans hB3)); clear hB3))
  all_goals go_wp2_with fail
  all_goals go_ret
  all_goals exact ⟨rfl, HB3.out⟩
set_option maxRecDepth 100000 in
set_option maxHeartbeats 1600000 in
theorem lkWaits_any (q b C : Nat) (p : TxN → Nat × Nat) (l : List (UsP KeyT)) (t : TxN) (w : World) (h : PLk w q b C p l) (ht : TxB t) :
    Calls Try.prog 16 #[.pointer (some ⟨q, 0, none⟩), txVN t] w fun e w' => ∃ B, e = .returned (.bool B) ∧ (B = true ↔ ∃ k, (getU l t).w k ≠ 0) ∧ Below w.heap.size w w' := by
  have hA := alloc_below14 w (.cells #[.int .u8 (t.1 : Int), .int .u32 (t.2.1 : Int), .int .u32 (t.2.2 : Int)] 30)
  have HXT := hide (box_new w #[.int .u8 (t.1 : Int), .int .u32 (t.2.1 : Int), .int .u32 (t.2.2 : Int)] 30)
  have H1 := hide (h.below hA)
  have HB := hide hA
  obtain ⟨⟨tm, ⟨ta, tb, tc⟩, pr, hb, wb⟩, hE⟩ : ∃ E : E15, E = (gU l p ⟨t, ht⟩).getD zE := ⟨_, rfl⟩
  have CF := hide (lkFind_any q b C p l t _ H1.out ht)
  have HRD : Hid (∀ W, PLk W q b C p l → MRead W wb (getU l t).w) := hide (fun W hW => by
    have := (hW.read ⟨t, ht⟩).2.1
    rw [← hE] at this
    exact this)
  rw [← hE] at CF
  have hf3 := field3_us (tm, (ta, tb, tc), pr, hb, wb)
  clear h hA hE
  go_enter Try.func16, Try.ntmps16
  go_wp2_with (refine wp_load_box rfl _ rfl w.heap.size rfl HXT.out Try.underlying30 rfl infoTx15 ?_)
  refine CF.out.mono ?_
  rintro e w3 ⟨rfl, hB3⟩
  obtain ⟨n, hn, hnk⟩ := (HRD.out _ (H1.out.below hB3)).len
  have HN := hide hnk
  have HB3 := hide (HB.out.trans (hB3.mono HB.out.size))
  clear hB3 hnk CF
  go_wp2_with fail
  go_ret
  exact ⟨_, rfl, by rw [← HN.out]; simp, HB3.out⟩
set_option maxRecDepth 100000 in
set_option maxHeartbeats 1600000 in
theorem lkPrepared_any (q b C : Nat) (p : TxN → Nat × Nat) (l : List (UsP KeyT)) (t : TxN) (w : World) (h : PLk w q b C p l) (ht : TxB t) :
    Calls Try.prog 15 #[.pointer (some ⟨q, 0, none⟩), txVN t] w fun e w' => e = .returned (.bool (getU l t).pr) ∧ Below w.heap.size w w' := by
  have hA := alloc_below14 w (.cells #[.int .u8 (t.1 : Int), .int .u32 (t.2.1 : Int), .int .u32 (t.2.2 : Int)] 30)
  have HXT := hide (box_new w #[.int .u8 (t.1 : Int), .int .u32 (t.2.1 : Int), .int .u32 (t.2.2 : Int)] 30)
  have H1 := hide (h.below hA)
  have HB := hide hA
  obtain ⟨⟨tm, ⟨ta, tb, tc⟩, pr, hb, wb⟩, hE⟩ : ∃ E : E15, E = (gU l p ⟨t, ht⟩).getD zE := ⟨_, rfl⟩
  have CF := hide (lkFind_any q b C p l t _ H1.out ht)
  have hpr : pr = (getU l t).pr := by
    have := (h.read ⟨t, ht⟩).2.2
    rw [← hE] at this
    exact this
  rw [← hE] at CF
  rw [← hpr]
  have hf1 := field1_us (tm, (ta, tb, tc), pr, hb, wb)
  clear h hA hE hpr
  go_enter Try.func15, Try.ntmps15
  go_wp2_with (refine wp_load_box rfl _ rfl w.heap.size rfl HXT.out Try.underlying30 rfl infoTx15 ?_)
  refine CF.out.mono ?_
  rintro e w3 ⟨rfl, hB3⟩
  have HB3 := hide (HB.out.trans (hB3.mono HB.out.size))
  clear hB3 CF
  go_wp2_with fail
  go_ret
  exact ⟨rfl, HB3.out⟩
set_option maxRecDepth 100000 in
theorem keyMay15 (k : List Int) (hk : KeyOk k) (w : World) : Calls Try.prog 35 #[.agg (eightA k)] w fun e w' => e = .returned (.bool (nameF k).2) ∧ Below w.heap.size w w' := by
  have hA := alloc_below14 w (.cells (eightA k) 34)
  have hX := box_new w (eightA k) 34
  obtain ⟨w1, hw1⟩ : ∃ w1, w1 = w.alloc (.cells (eightA k) 34) := ⟨_, rfl⟩
  rw [← hw1] at hA hX
  have C := name_any k hk.l hk.b w1
  have hc8 : cells8 k = eightA k := by unfold cells8; rw [← eightE_map hk.l]
  rw [hc8] at C
  have HC := hide C
  have HA := hide hA
  have hW := hw1.symm
  have HX := hide hX
  generalize (nameF k).1 = nm at *
  generalize (nameF k).2 = r at *
  clear hA hX hw1 C hc8
  go_enter Try.func35, Try.ntmps35
  go_wp2_with (first | (refine wp_load_box rfl _ rfl _ rfl HX.out Try.underlying34 rfl infoKey15 ?_) | (go_at_call 54; refine HC.out.mono ?_; rintro e w2 ⟨rfl, hB2⟩; have HB2 := hide hB2; clear hB2))
  go_ret
  exact ⟨rfl, HA.out.trans (HB2.out.mono HA.out.size)⟩
theorem apart15 (a b : Nat) (w : World) : Calls Try.prog 53 #[.int .u8 (a : Int), .int .u8 (b : Int)] w fun e w' => e = .returned (.bool (decide (Apart a b))) ∧ w' = w := by
  obtain ⟨R, hR⟩ : ∃ R, R = decide (Apart a b) := ⟨_, rfl⟩
  rw [← hR]
  have HR := hide hR
  clear hR
  by_cases a0 : a = 0
  · subst a0
    have HF : Hid (R = false) := hide (by rw [HR.out]; simp [Apart])
    go_enter Try.func53, Try.ntmps53
    go_wp2
    go_ret
    exact ⟨by rw [HF.out]; rfl, rfl⟩
  by_cases b0 : b = 0
  · subst b0
    have HF : Hid (R = false) := hide (by rw [HR.out]; simp [Apart])
    go_enter Try.func53, Try.ntmps53
    go_wp2
    go_ret
    exact ⟨by rw [HF.out]; rfl, rfl⟩
  have ha0 : ((a : Int) != 0) = true := by simpa using a0
  have hb0 : ((b : Int) != 0) = true := by simpa using b0
  by_cases a2 : a = 2
  · subst a2
    have HF : Hid (R = true) := hide (by rw [HR.out]; simp [Apart, b0])
    go_enter Try.func53, Try.ntmps53
    go_wp2
    go_ret
    exact ⟨by rw [HF.out]; rfl, rfl⟩
  have ha2 : ((a : Int) == 2) = false := by simp; omega
  by_cases b2 : b = 2
  · subst b2
    have HF : Hid (R = true) := hide (by rw [HR.out]; simp [Apart, a0])
    go_enter Try.func53, Try.ntmps53
    go_wp2
    go_ret
    exact ⟨by rw [HF.out]; rfl, rfl⟩
  have hb2 : ((b : Int) == 2) = false := by simp; omega
  have HF : Hid (R = false) := hide (by rw [HR.out]; simp [Apart, a2, b2])
  go_enter Try.func53, Try.ntmps53
  go_wp2
  go_ret
  exact ⟨by rw [HF.out]; rfl, rfl⟩
end
section
open Go.RowKit

theorem counts_any (n : Int) (w : World) : Calls Try.prog 55 #[.int .u32 n] w fun e w' => e = .returned (.bool (countB n)) ∧ w' = w := by
  unfold countB
  by_cases h : 1 ≤ n
  · have h1 : decide (1 ≤ n) = true := by simpa using h
    rw [h1, Bool.true_and]
    go_enter Try.func55, Try.ntmps55
    go_wp2
    go_ret
    exact ⟨rfl, rfl⟩
  · have h1 : decide (1 ≤ n) = false := by simpa using h
    rw [h1, Bool.false_and]
    go_enter Try.func55, Try.ntmps55
    go_wp2
    go_ret
    exact ⟨rfl, rfl⟩
theorem txMay_any (n b m : Int) (w : World) : Calls Try.prog 36 #[.agg #[.int .u8 n, .int .u32 b, .int .u32 m]] w fun e w' => e = .returned (.bool (txMayB (n, b, m))) ∧ Below w.heap.size w w' := by
  unfold txMayB
  by_cases h : n < 8
  · have h1 : decide (n < 8) = true := by simpa using h
    rw [h1, Bool.true_and]
    cases hb : countB b
    all_goals
      go_enter Try.func36, Try.ntmps36
      go_wp2_with (go_at_call 55; refine (counts_any _ _).mono ?_; rintro e w' ⟨rfl, rfl⟩)
      go_ret
      exact ⟨rfl, (Below.refl _ _).alloc (Nat.le_refl _) _⟩
  · have h1 : decide (n < 8) = false := by simpa using h
    rw [h1, Bool.false_and]
    go_enter Try.func36, Try.ntmps36
    go_wp2
    go_ret
    exact ⟨rfl, (Below.refl _ _).alloc (Nat.le_refl _) _⟩
theorem stMay_any (t n b m : Int) (w : World) : Calls Try.prog 52 #[.agg #[.int .u32 t, .int .u8 n, .int .u32 b, .int .u32 m]] w fun e w' => e = .returned (.bool (stMayB (t, n, b, m))) ∧ Below w.heap.size w w' := by
  unfold stMayB
  have C := fun w => txMay_any n b m w
  by_cases h : t ≤ 2147483647
  · have h1 : decide (t ≤ 2147483647) = true := by simpa using h
    rw [h1, Bool.true_and]
    go_enter Try.func52, Try.ntmps52
    go_wp2_with (go_at_call 36; refine (C _).mono ?_; rintro e w' ⟨rfl, hB⟩)
    go_ret
    exact ⟨rfl, ((Below.refl _ _).alloc (Nat.le_refl _) _).trans (hB.mono (by simp))⟩
  · have h1 : decide (t ≤ 2147483647) = false := by simpa using h
    rw [h1, Bool.false_and]
    go_enter Try.func52, Try.ntmps52
    go_wp2
    go_ret
    exact ⟨rfl, (Below.refl _ _).alloc (Nat.le_refl _) _⟩
end
section
open Go.RowKit Go.Maps Classical

abbrev zU : Array Value := #[.int .u32 0, .int .u8 0, .int .u32 0, .int .u32 0, .bool false, .map none, .map none]
theorem mmap_made (w : World) : MMap (w.alloc (.map #[] 0)) w.heap.size (fun _ => 0) 0 := (gmap_made mmTy w).as (fun _ => rfl)
theorem buildUs (a b c d : Int) (m1 m2 : Nat) (w : World) : (Instr.build 66 #[(0, .agg #[.int .u32 a, .int .u8 b, .int .u32 c, .int .u32 d]), (2, .map (some m1)), (3, .map (some m2))]).run Try.prog w = .ok (.agg #[.int .u32 a, .int .u8 b, .int .u32 c, .int .u32 d, .bool false, .map (some m1), .map (some m2)]) w := by kernel_rfl
set_option maxRecDepth 100000 in
set_option maxHeartbeats 1600000 in
theorem newUser15 (tm : Nat) (t : TxN) (w : World) : Calls Try.prog 32 #[.agg #[.int .u32 (tm : Int), .int .u8 (t.1 : Int), .int .u32 (t.2.1 : Int), .int .u32 (t.2.2 : Int)]] w fun e w' =>
    ∃ m1 m2, e = .returned (usV (tm, t, false, some m1, some m2)) ∧ MMap w' m1 (fun _ => 0) 0 ∧ MMap w' m2 (fun _ => 0) 0 ∧ m1 ≠ m2 ∧ w.heap.size ≤ m1 ∧ w.heap.size ≤ m2 ∧ Below w.heap.size w w' := by
  have hmm := @run_makeMap Try.prog
  have hbu := buildUs (tm : Int) (t.1 : Int) (t.2.1 : Int) (t.2.2 : Int)
  have hA := alloc_below14 w (.cells #[.int .u32 (tm : Int), .int .u8 (t.1 : Int), .int .u32 (t.2.1 : Int), .int .u32 (t.2.2 : Int)] 32)
  have hX := box_new w #[.int .u32 (tm : Int), .int .u8 (t.1 : Int), .int .u32 (t.2.1 : Int), .int .u32 (t.2.2 : Int)] 32
  obtain ⟨w1, hw1⟩ : ∃ w1, w1 = w.alloc (.cells #[.int .u32 (tm : Int), .int .u8 (t.1 : Int), .int .u32 (t.2.1 : Int), .int .u32 (t.2.2 : Int)] 32) := ⟨_, rfl⟩
  rw [← hw1] at hA hX
  have hA2 := alloc_below14 w1 (.cells zU 66)
  have hU := box_new w1 zU 66
  obtain ⟨w2, hw2⟩ : ∃ w2, w2 = w1.alloc (.cells zU 66) := ⟨_, rfl⟩
  rw [← hw2] at hA2 hU
  have hX2 := hX.belowI hA2
  have hA3 := alloc_below14 w2 (.map #[] 0)
  have hM1 := mmap_made w2
  obtain ⟨w3, hw3⟩ : ∃ w3, w3 = w2.alloc (.map #[] 0) := ⟨_, rfl⟩
  rw [← hw3] at hA3 hM1
  have hA4 := alloc_below14 w3 (.map #[] 0)
  have hM2 := mmap_made w3
  obtain ⟨w4, hw4⟩ : ∃ w4, w4 = w3.alloc (.map #[] 0) := ⟨_, rfl⟩
  rw [← hw4] at hA4 hM2
  have hs1 : w1.heap.size = w.heap.size + 1 := by rw [hw1]; simp
  have hs2 : w2.heap.size = w1.heap.size + 1 := by rw [hw2]; simp
  have hs3 : w3.heap.size = w2.heap.size + 1 := by rw [hw3]; simp
  have HU := hide ((hU.belowI hA3).belowI hA4)
  have HM1 := hide (hM1.below hA4)
  have HM2 := hide hM2
  have HX := hide hX2
  have HB := hide (hA.trans ((hA2.trans ((hA3.trans (hA4.mono hA3.size)).mono hA2.size)).mono hA.size))
  have HS := hide (And.intro hs1 (And.intro hs2 hs3))
  obtain ⟨m0, hm0⟩ : ∃ m0, m0 = w1.heap.size := ⟨_, rfl⟩
  obtain ⟨m1, hm1⟩ : ∃ m1, m1 = w2.heap.size := ⟨_, rfl⟩
  obtain ⟨m2, hm2⟩ : ∃ m2, m2 = w3.heap.size := ⟨_, rfl⟩
  rw [← hm0] at HU
  rw [← hm1] at HM1
  rw [← hm2] at HM2
  have HQ : Hid (w.heap.size ≤ m0 ∧ w.heap.size ≤ m1 ∧ w.heap.size ≤ m2 ∧ m1 ≠ m2 ∧ m0 ≠ m1 ∧ m0 ≠ m2) := hide (by omega)
  have e1 := hw1.symm
  have e2 := hw2.symm
  have e3 := hw3.symm
  have e4 := hw4.symm
  have f0 := hm0.symm
  have f1 := hm1.symm
  have f2 := hm2.symm
  clear hA hX hA2 hU hX2 hA3 hM1 hA4 hM2 hs1 hs2 hs3 hw1 hw2 hw3 hw4 hm0 hm1 hm2
  go_enter Try.func32, Try.ntmps32
  go_wp2_with (first | (refine wp_load_box rfl _ rfl w.heap.size rfl HX.out Try.underlying32 rfl infoSt15 ?_) | (refine wp_store_box rfl rfl _ _ rfl m0 rfl (cs' := usA (tm, t, false, some m1, some m2)) rfl HU.out rfl infoUs15 (by simp [Value.oneCell']) ?_; intro w5 hb5 hk5; have HX5 := hide hb5; have HK5 := hide hk5; clear hb5 hk5))
  refine bodyPost_ret (v := usV (tm, t, false, some m1, some m2)) (results_box Try.results32 _ _ m0 rfl HX5.out Try.underlying66 rfl infoUs15) rfl ⟨m1, m2, rfl, HM1.out.keep HK5.out (fun e => HQ.out.2.2.2.2.1 e.symm), HM2.out.keep HK5.out (fun e => HQ.out.2.2.2.2.2 e.symm), HQ.out.2.2.2.1, HQ.out.2.1, HQ.out.2.2.1, HB.out.trans (HK5.out.below HB.out.size (fun k e => by rw [e]; exact HQ.out.1))⟩
theorem ag_getU (p : TxN → Nat × Nat) (l : List (UsP KeyT)) (t : TxT) : (((((gU l p t).getD zE).1 : Nat) : Int), txI ((gU l p t).getD zE).2.1) = (getU l t.1).ag := by
  cases hu : usL l t.1 with
  | none =>
    have e : gU l p t = none := by show (usL l t.1).map _ = _; rw [hu]; rfl
    rw [e, getU_none hu]
    rfl
  | some u =>
    have e : gU l p t = some (u.tm, u.tx, u.pr, some (p t.1).1, some (p t.1).2) := by show (usL l t.1).map _ = _; rw [hu]; rfl
    have eg : getU l t.1 = u := by unfold getU; rw [hu]; rfl
    rw [e, eg]
    rfl
set_option maxRecDepth 100000 in
set_option maxHeartbeats 1600000 in
theorem byAge15 (q b C : Nat) (p : TxN → Nat × Nat) (l : List (UsP KeyT)) (x y : TxN) (w : World) (h : PLk w q b C p l) (hx : TxB x) (hy : TxB y) :
    Calls Try.prog 30 #[.pointer (some ⟨q, 0, none⟩), txVN x, txVN y] w fun e w' => e = .returned (.int .i64 (stsF (getU l x).ag (getU l y).ag)) ∧ Grown w w' := by
  have hA := alloc_below14 w (.cells #[.int .u8 (x.1 : Int), .int .u32 (x.2.1 : Int), .int .u32 (x.2.2 : Int)] 30)
  have hA2 := alloc_below14 (w.alloc (.cells #[.int .u8 (x.1 : Int), .int .u32 (x.2.1 : Int), .int .u32 (x.2.2 : Int)] 30)) (.cells #[.int .u8 (y.1 : Int), .int .u32 (y.2.1 : Int), .int .u32 (y.2.2 : Int)] 30)
  have hB2 := hA.trans (hA2.mono hA.size)
  have HX := hide ((box_new w #[.int .u8 (x.1 : Int), .int .u32 (x.2.1 : Int), .int .u32 (x.2.2 : Int)] 30).belowI hA2)
  have HY : Hid (Box ((w.alloc (.cells #[.int .u8 (x.1 : Int), .int .u32 (x.2.1 : Int), .int .u32 (x.2.2 : Int)] 30)).alloc (.cells #[.int .u8 (y.1 : Int), .int .u32 (y.2.1 : Int), .int .u32 (y.2.2 : Int)] 30)) (w.heap.size + 1) #[.int .u8 (y.1 : Int), .int .u32 (y.2.1 : Int), .int .u32 (y.2.2 : Int)] 30) := hide (by have := box_new (w.alloc (.cells #[.int .u8 (x.1 : Int), .int .u32 (x.2.1 : Int), .int .u32 (x.2.2 : Int)] 30)) #[.int .u8 (y.1 : Int), .int .u32 (y.2.1 : Int), .int .u32 (y.2.2 : Int)] 30; simpa using this)
  obtain ⟨w1, hw1⟩ : ∃ w1, w1 = (w.alloc (.cells #[.int .u8 (x.1 : Int), .int .u32 (x.2.1 : Int), .int .u32 (x.2.2 : Int)] 30)).alloc (.cells #[.int .u8 (y.1 : Int), .int .u32 (y.2.1 : Int), .int .u32 (y.2.2 : Int)] 30) := ⟨_, rfl⟩
  obtain ⟨p1, hp1⟩ : ∃ p1, p1 = w.heap.size := ⟨_, rfl⟩
  obtain ⟨p2, hp2⟩ : ∃ p2, p2 = p1 + 1 := ⟨_, rfl⟩
  have HG : Hid (Grown w w1) := hide (by rw [hw1]; exact ((Grown.refl w).alloc _).alloc _)
  rw [← hw1, ← hp1] at HX
  rw [← hw1, ← hp1, ← hp2] at HY
  rw [← hw1] at hB2
  have HW1 := hide hw1
  have HP1 := hide hp1
  have HP2 := hide hp2
  have h1 := h.below hB2
  obtain ⟨⟨tm, ⟨ta, tb, tc⟩, pr, hb, wb⟩, hE⟩ : ∃ E : E15, E = (gU l p ⟨x, hx⟩).getD zE := ⟨_, rfl⟩
  obtain ⟨⟨um, ⟨ua, ub, uc⟩, ur, ib, vb⟩, hF⟩ : ∃ E : E15, E = (gU l p ⟨y, hy⟩).getD zE := ⟨_, rfl⟩
  have e1 := ag_getU p l ⟨x, hx⟩
  have e2 := ag_getU p l ⟨y, hy⟩
  rw [← hE] at e1
  rw [← hF] at e2
  rw [← e1, ← e2]
  have h0 : w1.cell? ⟨q, 0, none⟩ = some (.map (some b)) := h1.box.cell 0 _ rfl
  obtain ⟨x0, x1, x2⟩ := HX.out.three
  obtain ⟨y0, y1, y2⟩ := HY.out.three
  have L1 := (h1.m.below (below_drew14 w1)).look1 umTy ⟨x, hx⟩
  have L2 := (h1.m.below (below_drew14 w1)).look1 umTy ⟨y, hy⟩
  rw [← hE] at L1
  rw [← hF] at L2
  have f1 := field0_us (tm, (ta, tb, tc), pr, hb, wb)
  have f2 := field0_us (um, (ua, ub, uc), ur, ib, vb)
  have CS := hide (fun W => stamps_any (tm : Int) (ta : Int) (tb : Int) (tc : Int) (um : Int) (ua : Int) (ub : Int) (uc : Int) W)
  obtain ⟨R, hR⟩ : ∃ R, R = stsF ((tm : Int), (ta : Int), (tb : Int), (tc : Int)) ((um : Int), (ua : Int), (ub : Int), (uc : Int)) := ⟨_, rfl⟩
  have HR : Hid (stsF ((((tm, (ta, tb, tc), pr, hb, wb) : E15).1 : Int), txI ((tm, (ta, tb, tc), pr, hb, wb) : E15).2.1) ((((um, (ua, ub, uc), ur, ib, vb) : E15).1 : Int), txI ((um, (ua, ub, uc), ur, ib, vb) : E15).2.1) = R) := hide hR.symm
  rw [← hR] at CS
  rw [HR.out]
  have HCS : Hid (∀ W, Below w1.drew.heap.size w1.drew W → W.cell? ⟨q, 0, none⟩ = some (.map (some b)) ∧ W.cell? ⟨p1, 0, none⟩ = some (.int .u8 (x.1 : Int)) ∧ W.cell? ⟨p1, 1, none⟩ = some (.int .u32 (x.2.1 : Int)) ∧ W.cell? ⟨p1, 2, none⟩ = some (.int .u32 (x.2.2 : Int)) ∧ W.cell? ⟨p2, 0, none⟩ = some (.int .u8 (y.1 : Int)) ∧ W.cell? ⟨p2, 1, none⟩ = some (.int .u32 (y.2.1 : Int)) ∧ W.cell? ⟨p2, 2, none⟩ = some (.int .u32 (y.2.2 : Int))) := hide (fun W hW => by
    have hW1 : Below w1.heap.size w1 W := (below_drew14 w1).trans hW
    obtain ⟨a0, a1, a2⟩ := (HX.out.belowI hW1).three
    obtain ⟨b0, b1, b2⟩ := (HY.out.belowI hW1).three
    exact ⟨(h1.box.belowI hW1).cell 0 _ rfl, a0, a1, a2, b0, b1, b2⟩)
  clear h hA hA2 hB2 hw1 hp1 hp2 hE hF e1 e2 h1 hR HX HY
  go_enter Try.func30, Try.ntmps30
  go_wp2_with fail
  rw [← HW1.out, ← HP1.out, ← HP2.out]
  go_region_held (fun w' => w'.cell? ⟨q, 0, none⟩ = some (.map (some b)) ∧ w'.cell? ⟨p1, 0, none⟩ = some (.int .u8 (x.1 : Int)) ∧ w'.cell? ⟨p1, 1, none⟩ = some (.int .u32 (x.2.1 : Int)) ∧ w'.cell? ⟨p1, 2, none⟩ = some (.int .u32 (x.2.2 : Int)) ∧ w'.cell? ⟨p2, 0, none⟩ = some (.int .u8 (y.1 : Int)) ∧ w'.cell? ⟨p2, 1, none⟩ = some (.int .u32 (y.2.1 : Int)) ∧ w'.cell? ⟨p2, 2, none⟩ = some (.int .u32 (y.2.2 : Int))) (go_keep) (first
    | (go_at_call 51; refine (CS.out _).mono ?_; rintro e w3 ⟨rfl, hG⟩; have ss := HCS.out _ hG.below; have HG3 : Hid (Grown w w3) := hide (HG.out.drew.trans hG); clear hG))
  all_goals go_wp2_with fail
  all_goals go_ret
  all_goals exact ⟨rfl, HG3.out⟩
/-- What an Ask may name. -/
def mayA15 (tm : Nat) (t : TxN) (k : KeyT) (m : Nat) : Bool := stMayB (agS tm t) && ((nameF k.1).2 && (decide (m = 1) || decide (m = 2)))
def refE15 (l : List (UsP KeyT)) (may : Bool) (t : TxN) : Int := if may = false then 1 else if (getU l t).pr = true then 11 else if (usL l t).isNone = true ∧ 64 ≤ l.length then 5 else 0
end
section
open Go.RowKit Classical

/-- A message as a value: its writes lie there. -/
def MgLies (w : World) (v : Value) (m : MsgP) : Prop := ∃ (ao : Option Addr) (cap : Nat), v = .agg (msgA m (.slice ao m.wr.length cap)) ∧ RSrc wrE w (.slice ao m.wr.length cap) m.wr
theorem MgLies.below {w w' : World} {v : Value} {m : MsgP} (h : MgLies w v m) (hB : Below w.heap.size w w') : MgLies w' v m := by
  obtain ⟨ao, cap, rfl, hs⟩ := h
  exact ⟨ao, cap, rfl, hs.below hB⟩
end
end Go.Proofs.Ytddflccjmigloaa
