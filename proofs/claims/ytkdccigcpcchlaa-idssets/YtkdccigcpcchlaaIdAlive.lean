/-
  The probe that stands in each law of layer 5. Own work.
-/
import Derived.Test.YtkdccigcpcchlaaIdSet
import Derived.Test.YtkdccigcpcchlaaIdKey
import Derived.Test.YtkdccigcpcchlaaIdNum
namespace Go.Proofs.Ytkdccigcpcchlaa
open Go.RowKit Go.Maps

theorem key_ab : keyOfF (numsS ⟨#[97, 98]⟩) = ([97, 98, 0, 0, 0, 0, 0, 0], 0) := by decide
theorem tx123 : txOk (1, 2, 3) := by unfold txOk; decide
theorem addD_has (D : DataW Unit) (t : TxP) (ht : txOk t) (hD : IsMap D) : has (addD D t) (txKey t) = true := by
  unfold addD
  by_cases h : has D (txKey t) = true
  · rw [if_pos h]; exact h
  · rw [if_neg h]; exact has_put_same hD (txKeyed.key (keyOf_tx t ht)) _
set_option maxRecDepth 100000 in
set_option maxHeartbeats 1600000 in
theorem alive_any (w : World) : Calls Try.prog 13 #[] w fun e w' => e = .returned (.bool true) ∧ Below w.heap.size w w' := by
  have CK := hide (keyOf_any ⟨#[97, 98]⟩ (by unfold maxLen; decide) w)
  rw [key_ab] at CK
  have HC8 : Hid (cells8 [97, 98, 0, 0, 0, 0, 0, 0] = #[.int .u8 97, .int .u8 98, .int .u8 0, .int .u8 0, .int .u8 0, .int .u8 0, .int .u8 0, .int .u8 0]) := hide rfl
  simp only [HC8.out] at CK
  have hek : ∀ w, (binOp .eql 23 (.agg #[.int .u8 97, .int .u8 98, .int .u8 0, .int .u8 0, .int .u8 0, .int .u8 0, .int .u8 0, .int .u8 0]) (.agg #[.int .u8 97, .int .u8 98, .int .u8 0, .int .u8 0, .int .u8 0, .int .u8 0, .int .u8 0, .int .u8 0])).run Try.prog w = .ok (.bool true) w := fun w => by
    rw [eqli_key]; rfl
  have HD1 : Hid (has (DataW.map [] : DataW Unit) (txKey (1, 2, 3)) = false) := hide rfl
  have HD2 : Hid (has (addD (DataW.map []) (1, 2, 3)) (txKey (1, 2, 3)) = true) := hide (addD_has _ _ tx123 isMap_empty)
  have HTM : Hid (txMayB (1, 2, 3) = true) := hide (by decide)
  have CN := hide idNew_any
  go_enter Try.func13, Try.ntmps13
  go_wp2_with fail
  refine CK.out.mono ?_
  rintro e w1 ⟨rfl, hB1⟩
  have HB1 := hide hB1
  clear hB1 CK HC8
  go_wp2_with fail
  have hb2 := HB1.out.trans (((Below.refl w1.heap.size w1).alloc (Nat.le_refl _) (.cells #[.int .u8 97, .int .u8 98, .int .u8 0, .int .u8 0, .int .u8 0, .int .u8 0, .int .u8 0, .int .u8 0] 23)).mono HB1.out.size)
  have HX := hide (box_new w1 #[.int .u8 97, .int .u8 98, .int .u8 0, .int .u8 0, .int .u8 0, .int .u8 0, .int .u8 0, .int .u8 0] 23)
  have HB2 := hide hb2
  clear hb2
  refine (CN.out _).mono ?_
  rintro e w2 ⟨p, b, rfl, hs, hp, hb, hB2⟩
  have hX2 := HX.out.keep (KeepBut.of_below (fun _ => False) hB2) id
  have HB3 := hide (HB2.out.trans (hB2.mono HB2.out.size))
  have hpb := hs.ne
  have HS := hide hs
  have hplt := hs.box.lt
  have hblt := hs.own.lt
  have hbT := (Below.refl w2.heap.size w2).alloc (Nat.le_refl _) (.cells #[.int .u8 1, .int .u32 2, .int .u32 3] 35)
  have HT := hide (box_new w2 #[.int .u8 1, .int .u32 2, .int .u32 3] 35)
  have HS2 := hide (hs.below hbT)
  have HBT := hide (HB3.out.trans (hbT.mono HB3.out.size))
  have hk0 := hX2.cell 0 _ rfl
  have hk1 := hX2.cell 1 _ rfl
  have hk2 := hX2.cell 2 _ rfl
  have hk3 := hX2.cell 3 _ rfl
  have hk4 := hX2.cell 4 _ rfl
  have hk5 := hX2.cell 5 _ rfl
  have hk6 := hX2.cell 6 _ rfl
  have hk7 := hX2.cell 7 _ rfl
  have hxlt := hX2.lt
  have HBB : Hid (w.heap.size ≤ b) := hide (Nat.le_trans HB2.out.size hb)
  have hA1 := add_any p b 0 _ (1, 2, 3) tx123 _ HS2.out (by omega)
  rw [HD1.out] at hA1
  have CA1 := hide hA1
  clear hs hbT hX2 hB2 HX HB1 CN HS hA1 hp hb
  go_wp2_with fail
  refine CA1.out.mono ?_
  rintro e w3 ⟨rfl, hs3, hk3'⟩
  have hT3 := HT.out.keep hk3' (by omega)
  have t0 := hT3.cell 0 _ rfl
  have t1 := hT3.cell 1 _ rfl
  have t2 := hT3.cell 2 _ rfl
  have HB4 := hide (HBT.out.trans (hk3'.below HBT.out.size (fun k hk => by rw [hk]; exact HBB.out)))
  have hH := has_any p b _ _ (1, 2, 3) tx123 _ hs3
  rw [HD2.out] at hH
  have CH := hide hH
  have HS3 := hide hs3
  have HT3 := hide hT3
  have ht3lt := hT3.lt
  clear hs3 hk3' hT3 hH CA1 HS2 hk0 hk1 hk2 hk3 hk4 hk5 hk6 hk7
  go_wp2_with fail
  refine CH.out.mono ?_
  rintro e w4 ⟨rfl, hB4⟩
  have hT4 := HT3.out.keep (KeepBut.of_below (fun _ => False) hB4) id
  have u0 := hT4.cell 0 _ rfl
  have u1 := hT4.cell 1 _ rfl
  have u2 := hT4.cell 2 _ rfl
  have HB5 := hide (HB4.out.trans (hB4.mono HB4.out.size))
  have hs4 := HS3.out.below hB4
  have hA2 := add_any p b _ _ (1, 2, 3) tx123 _ hs4 (by omega)
  rw [HD2.out] at hA2
  have CA2 := hide hA2
  have HT4 := hide hT4
  clear hB4 hT4 hs4 hA2 t0 t1 t2 HS3 HT3 CH
  go_wp2_with fail
  refine CA2.out.mono ?_
  rintro e w5 ⟨rfl, _, hk5'⟩
  have hT5 := HT4.out.keep hk5' (by omega)
  have v0 := hT5.cell 0 _ rfl
  have v1 := hT5.cell 1 _ rfl
  have v2 := hT5.cell 2 _ rfl
  have HB6 := hide (HB5.out.trans (hk5'.below HB5.out.size (fun k hk => by rw [hk]; exact HBB.out)))
  have hM := txMay_any 1 2 3 w5
  rw [HTM.out] at hM
  have CM := hide hM
  clear hT5 hk5' hM u0 u1 u2 CA2 HT4
  go_wp2_with fail
  refine CM.out.mono ?_
  rintro e w6 ⟨rfl, hB6⟩
  have HB7 := hide (HB6.out.trans (hB6.mono HB6.out.size))
  clear hB6
  go_wp2_with fail
  go_ret
  exact ⟨rfl, HB7.out⟩
end Go.Proofs.Ytkdccigcpcchlaa
