/-
  Proved: the bytes of a record, or its refusal, are the document's: whatever comes. For every input of the form's own reach. Own work.
-/
import Derived.Test.YtencmgepffdodaaGreatG25
import Derived.Test.YtencmgepffdodaaGreatGR4
import Derived.Test.YtencmgepffdodaaGreatGB
import Derived.Test.YtencmgepffdodaaGreatG45
import Derived.Test.YtencmgepffdodaaGreatGA
import Derived.SizedLaws
import Derived.ChangeArms
namespace Go.Proofs.YtencmgepffdodaaGreat
section
open Go.RowKit Classical

theorem infoRW11 : (Tryz.prog.info? 85).map (·.size) = some 1 := by kernel_rfl
theorem mayR_okW {m : RecP} (hm : RecOk m) (h : mayR m = true) {k : Nat} (hk : k ∈ fieldsR m.kind) : okR k m := by
  have h2 := h
  unfold mayR at h2
  rw [Bool.and_eq_true, List.all_eq_true] at h2
  exact mayR_ok hm ((fieldsR_facts m.kind).2 k hk) (h2.2 k hk)
theorem enc_part {m : RecP} (hm : RecOk m) (h : mayR m = true) (a b : List Int) (e : encRec m = a ++ b) : a.length ≤ 4096 := by
  have := encRec_len hm h
  rw [e, List.length_append] at this
  omega
theorem misW_take {l : List Nat} {k : Nat} (hk : k < l.length) : repEnc (numC 255) (l.take (k + 1)) = repEnc (numC 255) (l.take k) ++ shortS l[k] := by
  rw [List.take_succ_eq_append_getElem hk]
  unfold repEnc
  rw [List.flatMap_append]
  simp [numC]
theorem misW_get {l : List Nat} {k : Nat} (hk : k < l.length) : (misI l).getD k 0 = ((l[k] : Nat) : Int) := by simp [misI, List.getD, hk]
set_option maxRecDepth 100000 in
theorem rencode11_no (m : RecP) (ao bo : Option Addr) (l c j d : Nat) (w : World) (hm : RecOk m) (hs : RSrc wrE w (.slice ao l c) m.wr) (ht : Lies .u64 w (.slice bo j d) (misI m.mis)) (hi : m.item.val.length ≤ 9223372036854775807) (hv : ∀ x ∈ m.wr, x.it.val.length ≤ 9223372036854775807) (hl : m.wr.length ≤ 100000) (hmy : mayR m = false) :
    Calls Tryz.prog 16 #[.agg (recA m (.slice ao l c) (.slice bo j d))] w fun e w' => ∃ u, e = .returned (.tuple #[u, .int .i64 1]) ∧ Lies .u8 w' u [] ∧ Below w.heap.size w w' := by
  have hA := alloc_below10 w (.cells (recA m (.slice ao l c) (.slice bo j d)) 37)
  have hX := box_new w (recA m (.slice ao l c) (.slice bo j d)) 37
  obtain ⟨wb, hwb⟩ : ∃ wb, wb = w.alloc (.cells (recA m (.slice ao l c) (.slice bo j d)) 37) := ⟨_, rfl⟩
  rw [← hwb] at hA hX
  have hW := hwb.symm
  have HA := hide hA
  have HX := hide hX
  have hsb := hs.below hA
  have htb := ht.below hA
  have CM := hide (rmay11_any m ao bo l c j d wb hm hsb htb hi hv hl)
  rw [hmy] at CM
  clear hA hX hwb hsb htb hm hs ht hi hv hl hmy
  go_enter Tryz.func16, Tryz.ntmps16
  go_wp2_with (first | (refine wp_load_box rfl _ rfl w.heap.size rfl HX.out Tryz.underlying37 rfl infoRRec ?_) | (go_at_call 12; refine CM.out.mono ?_; rintro e w2 ⟨rfl, hB2⟩; have HB2 := hide hB2; clear hB2))
  go_ret2
  exact ⟨_, rfl, Lies.nil _ _, HA.out.trans (HB2.out.mono HA.out.size)⟩
set_option maxRecDepth 100000 in
set_option maxHeartbeats 6400000 in
theorem rencode11_1 (m : RecP) (ao bo : Option Addr) (l c j d : Nat) (w : World) (hm : RecOk m) (hs : RSrc wrE w (.slice ao l c) m.wr) (ht : Lies .u64 w (.slice bo j d) (misI m.mis)) (hi : m.item.val.length ≤ 9223372036854775807) (hv : ∀ x ∈ m.wr, x.it.val.length ≤ 9223372036854775807) (hl : m.wr.length ≤ 100000) (hk : m.kind = 1) (hmy : mayR m = true) :
    Calls Tryz.prog 16 #[.agg (recA m (.slice ao l c) (.slice bo j d))] w fun e w' => ∃ u, e = .returned (.tuple #[u, .int .i64 0]) ∧ Lies .u8 w' u (encRec m) ∧ Below w.heap.size w w' := by
  have hA := alloc_below10 w (.cells (recA m (.slice ao l c) (.slice bo j d)) 37)
  have hX := box_new w (recA m (.slice ao l c) (.slice bo j d)) 37
  obtain ⟨wb, hwb⟩ : ∃ wb, wb = w.alloc (.cells (recA m (.slice ao l c) (.slice bo j d)) 37) := ⟨_, rfl⟩
  rw [← hwb] at hA hX
  have hW := hwb.symm
  have HA := hide hA
  have HX := hide hX
  have hsb := hs.below hA
  have htb := ht.below hA
  have CM := hide (rmay11_any m ao bo l c j d wb hm hsb htb hi hv hl)
  rw [hmy] at CM
  have HEM : Hid (encRec m = [(1 : Int)] ++ encR 0 m) := hide (by
    unfold encRec
    rw [hk]
    show ((1 : Nat) : Int) :: encRs [0] m = _
    simp [encRs])
  have hlen1 : ([(1 : Int)]).length ≤ 4096 := enc_part hm hmy _ (encR 0 m) HEM.out
  have hlen2 : ([(1 : Int)] ++ encR 0 m).length ≤ 4096 := enc_part hm hmy _ ([]) (by rw [HEM.out]; exact (List.append_nil _).symm)
  have hlt : m.n < 18446744073709551616 := by have := hm.n; omega
  have ew := wrap32 hm.n
  have HSB := hide hsb
  have HTB := hide htb
  have HMO := hide hm
  have HKD : Hid (∀ W, Below wb.heap.size wb W → W.cell? ⟨w.heap.size, 0, none⟩ = some (.int .u8 1)) := hide (fun W hB => by
    have := (HX.out.belowI hB).cell 0 (.int .u8 (m.kind : Int)) rfl
    rw [hk] at this
    exact this)
  have x0 := HKD.out wb (Below.refl _ _)
  have HMY := hide hmy
  clear hA hX hwb hsb htb hm hs ht hi hv hl hmy hk
  go_enter Tryz.func16, Tryz.ntmps16
  go_wp2_with (first
    | (refine wp_load_box rfl _ rfl w.heap.size rfl HX.out Tryz.underlying37 rfl infoRRec ?_)
    | (go_at_call 12; refine CM.out.mono ?_; rintro e w2 ⟨rfl, hB2⟩; have HB2 := hide hB2; have HN2 := hide (box_new w2 #[.slice none 0 0] 85); have HA2 := hide (alloc_below10 w2 (.cells #[.slice none 0 0] 85)); clear hB2)
    | (refine wp_store_box (cs' := #[.slice none 0 0]) rfl rfl _ _ rfl w2.heap.size rfl rfl HN2.out rfl infoRW11 (by simp [Value.oneCell']) ?_; intro w4 hb4 hk4; have W4 : Hid (WBl wb w4 w2.heap.size (.slice none 0 0) []) := hide ⟨⟨hb4, ⟨rfl, .inl ⟨rfl, rfl⟩⟩⟩, HB2.out.trans ((HA2.out.trans (hk4.below HA2.out.size (fun k e => by omega))).mono HB2.out.size), HB2.out.size, (fun g hg => by cases hg)⟩; have y0 := HKD.out w4 W4.out.bl; clear hb4 hk4)
    | (go_at_call 35; refine (rwbyte_any w2.heap.size (.slice none 0 0) [] 1 w4 W4.out.wr (by simp)).mono ?_; rintro e w5 ⟨rfl, v5, h5⟩; have W5 := hide (W4.out.step h5); have HX5 := hide (HX.out.belowI W5.out.bl); have z0 := HKD.out w5 W5.out.bl; have x1 := HX5.out.cell 1 _ rfl;  clear h5 W4 HN2 HA2))
  obtain ⟨p, hp⟩ : ∃ p, w2.heap.size = p := ⟨_, rfl⟩
  simp only [hp] at W5 ⊢
  rw [List.nil_append] at W5
  refine (rwnum_any p v5 ([(1 : Int)]) m.n w5 W5.out.wr (by omega) hlt).mono ?_
  rintro e w6 ⟨rfl, v6, h6⟩
  have W6 : Hid (WBl wb w6 p v6 ([(1 : Int)] ++ encR 0 m)) := hide (W5.out.step h6)
  have HX6 := hide (HX.out.belowI W6.out.bl)
  have y6 := HKD.out w6 W6.out.bl
  clear h6 x1 z0
  have yk := W6.out.wr.box.cell 0 v6 rfl
  go_wp2_with fail
  go_ret2
  refine ⟨v6, rfl, ?_, HA.out.trans (W6.out.bl.mono HA.out.size)⟩
  rw [HEM.out]
  exact Lies.of_own W6.out.wr.own
set_option maxRecDepth 100000 in
set_option maxHeartbeats 6400000 in
theorem rencode11_2 (m : RecP) (ao bo : Option Addr) (l c j d : Nat) (w : World) (hm : RecOk m) (hs : RSrc wrE w (.slice ao l c) m.wr) (ht : Lies .u64 w (.slice bo j d) (misI m.mis)) (hi : m.item.val.length ≤ 9223372036854775807) (hv : ∀ x ∈ m.wr, x.it.val.length ≤ 9223372036854775807) (hl : m.wr.length ≤ 100000) (hk : m.kind = 2) (hmy : mayR m = true) :
    Calls Tryz.prog 16 #[.agg (recA m (.slice ao l c) (.slice bo j d))] w fun e w' => ∃ u, e = .returned (.tuple #[u, .int .i64 0]) ∧ Lies .u8 w' u (encRec m) ∧ Below w.heap.size w w' := by
  have hA := alloc_below10 w (.cells (recA m (.slice ao l c) (.slice bo j d)) 37)
  have hX := box_new w (recA m (.slice ao l c) (.slice bo j d)) 37
  obtain ⟨wb, hwb⟩ : ∃ wb, wb = w.alloc (.cells (recA m (.slice ao l c) (.slice bo j d)) 37) := ⟨_, rfl⟩
  rw [← hwb] at hA hX
  have hW := hwb.symm
  have HA := hide hA
  have HX := hide hX
  have hsb := hs.below hA
  have htb := ht.below hA
  have CM := hide (rmay11_any m ao bo l c j d wb hm hsb htb hi hv hl)
  rw [hmy] at CM
  have HEM : Hid (encRec m = [(2 : Int)] ++ encR 1 m ++ encR 2 m ++ encR 4 m) := hide (by
    unfold encRec
    rw [hk]
    show ((2 : Nat) : Int) :: encRs [1, 2, 4] m = _
    simp [encRs])
  have hlen1 : ([(2 : Int)]).length ≤ 4096 := enc_part hm hmy _ (encR 1 m ++ encR 2 m ++ encR 4 m) (by rw [HEM.out]; simp only [List.append_assoc])
  have hlen2 : ([(2 : Int)] ++ encR 1 m).length ≤ 4096 := enc_part hm hmy _ (encR 2 m ++ encR 4 m) (by rw [HEM.out]; simp only [List.append_assoc])
  have hlen3 : ([(2 : Int)] ++ encR 1 m ++ encR 2 m).length ≤ 4096 := enc_part hm hmy _ (encR 4 m) HEM.out
  have hlen4 : ([(2 : Int)] ++ encR 1 m ++ encR 2 m ++ encR 4 m).length ≤ 4096 := enc_part hm hmy _ ([]) (by rw [HEM.out]; exact (List.append_nil _).symm)
  have HWO : Hid (m.wr.length ≤ 16 ∧ ∀ x ∈ m.wr, wrOk x) := hide (mayR_okW hm hmy (k := 4) (by rw [hk]; decide))
  have HSB := hide hsb
  have HTB := hide htb
  have HMO := hide hm
  have HKD : Hid (∀ W, Below wb.heap.size wb W → W.cell? ⟨w.heap.size, 0, none⟩ = some (.int .u8 2)) := hide (fun W hB => by
    have := (HX.out.belowI hB).cell 0 (.int .u8 (m.kind : Int)) rfl
    rw [hk] at this
    exact this)
  have x0 := HKD.out wb (Below.refl _ _)
  have HMY := hide hmy
  clear hA hX hwb hsb htb hm hs ht hi hv hl hmy hk
  go_enter Tryz.func16, Tryz.ntmps16
  go_wp2_with (first
    | (refine wp_load_box rfl _ rfl w.heap.size rfl HX.out Tryz.underlying37 rfl infoRRec ?_)
    | (go_at_call 12; refine CM.out.mono ?_; rintro e w2 ⟨rfl, hB2⟩; have HB2 := hide hB2; have HN2 := hide (box_new w2 #[.slice none 0 0] 85); have HA2 := hide (alloc_below10 w2 (.cells #[.slice none 0 0] 85)); clear hB2)
    | (refine wp_store_box (cs' := #[.slice none 0 0]) rfl rfl _ _ rfl w2.heap.size rfl rfl HN2.out rfl infoRW11 (by simp [Value.oneCell']) ?_; intro w4 hb4 hk4; have W4 : Hid (WBl wb w4 w2.heap.size (.slice none 0 0) []) := hide ⟨⟨hb4, ⟨rfl, .inl ⟨rfl, rfl⟩⟩⟩, HB2.out.trans ((HA2.out.trans (hk4.below HA2.out.size (fun k e => by omega))).mono HB2.out.size), HB2.out.size, (fun g hg => by cases hg)⟩; have y0 := HKD.out w4 W4.out.bl; clear hb4 hk4)
    | (go_at_call 35; refine (rwbyte_any w2.heap.size (.slice none 0 0) [] 2 w4 W4.out.wr (by simp)).mono ?_; rintro e w5 ⟨rfl, v5, h5⟩; have W5 := hide (W4.out.step h5); have HX5 := hide (HX.out.belowI W5.out.bl); have z0 := HKD.out w5 W5.out.bl; have x2 := HX5.out.cell 2 _ rfl; have x3 := HX5.out.cell 3 _ rfl; have x4 := HX5.out.cell 4 _ rfl;  clear h5 W4 HN2 HA2))
  obtain ⟨p, hp⟩ : ∃ p, w2.heap.size = p := ⟨_, rfl⟩
  simp only [hp] at W5 ⊢
  rw [List.nil_append] at W5
  refine (rputTx_any p v5 ([(2 : Int)]) m.tx w5 W5.out.wr (by omega) HMO.out.tx.2.1 HMO.out.tx.2.2).mono ?_
  rintro e w6 ⟨rfl, v6, h6⟩
  have W6 : Hid (WBl wb w6 p v6 ([(2 : Int)] ++ encR 1 m)) := hide (W5.out.step h6)
  have HX6 := hide (HX.out.belowI W6.out.bl)
  have y6 := HKD.out w6 W6.out.bl
  clear h6 x2 x3 x4 z0
  have x5 := HX6.out.cell 5 _ rfl
  have x6 := HX6.out.cell 6 _ rfl
  go_wp2_with fail
  refine (rputReg_any p v6 ([(2 : Int)] ++ encR 1 m) m.reg w6 W6.out.wr (by omega) HMO.out.reg.1 HMO.out.reg.2).mono ?_
  rintro e w7 ⟨rfl, v7, h7⟩
  have W7 : Hid (WBl wb w7 p v7 ([(2 : Int)] ++ encR 1 m ++ encR 2 m)) := hide (W6.out.step h7)
  have HX7 := hide (HX.out.belowI W7.out.bl)
  have y7 := HKD.out w7 W7.out.bl
  clear h7 x5 x6 y6
  have x8 := HX7.out.cell 8 _ rfl
  go_wp2_with fail
  refine (rputWrites_any wb p v7 ([(2 : Int)] ++ encR 1 m ++ encR 2 m) ao l c m.wr w7 W7.out HSB.out (by omega) HMO.out.wr HWO.out.2 HWO.out.1).mono ?_
  rintro e w8 ⟨rfl, v8, h8⟩
  have W8 : Hid (WBl wb w8 p v8 ([(2 : Int)] ++ encR 1 m ++ encR 2 m ++ encR 4 m)) := hide (h8)
  have HX8 := hide (HX.out.belowI W8.out.bl)
  have y8 := HKD.out w8 W8.out.bl
  clear h8 x8 y7
  have yk := W8.out.wr.box.cell 0 v8 rfl
  go_wp2_with fail
  go_ret2
  refine ⟨v8, rfl, ?_, HA.out.trans (W8.out.bl.mono HA.out.size)⟩
  rw [HEM.out]
  exact Lies.of_own W8.out.wr.own
set_option maxRecDepth 100000 in
set_option maxHeartbeats 6400000 in
theorem rencode11_3 (m : RecP) (ao bo : Option Addr) (l c j d : Nat) (w : World) (hm : RecOk m) (hs : RSrc wrE w (.slice ao l c) m.wr) (ht : Lies .u64 w (.slice bo j d) (misI m.mis)) (hi : m.item.val.length ≤ 9223372036854775807) (hv : ∀ x ∈ m.wr, x.it.val.length ≤ 9223372036854775807) (hl : m.wr.length ≤ 100000) (hk : m.kind = 3) (hmy : mayR m = true) :
    Calls Tryz.prog 16 #[.agg (recA m (.slice ao l c) (.slice bo j d))] w fun e w' => ∃ u, e = .returned (.tuple #[u, .int .i64 0]) ∧ Lies .u8 w' u (encRec m) ∧ Below w.heap.size w w' := by
  have hA := alloc_below10 w (.cells (recA m (.slice ao l c) (.slice bo j d)) 37)
  have hX := box_new w (recA m (.slice ao l c) (.slice bo j d)) 37
  obtain ⟨wb, hwb⟩ : ∃ wb, wb = w.alloc (.cells (recA m (.slice ao l c) (.slice bo j d)) 37) := ⟨_, rfl⟩
  rw [← hwb] at hA hX
  have hW := hwb.symm
  have HA := hide hA
  have HX := hide hX
  have hsb := hs.below hA
  have htb := ht.below hA
  have CM := hide (rmay11_any m ao bo l c j d wb hm hsb htb hi hv hl)
  rw [hmy] at CM
  have HEM : Hid (encRec m = [(3 : Int)] ++ encR 1 m) := hide (by
    unfold encRec
    rw [hk]
    show ((3 : Nat) : Int) :: encRs [1] m = _
    simp [encRs])
  have hlen1 : ([(3 : Int)]).length ≤ 4096 := enc_part hm hmy _ (encR 1 m) HEM.out
  have hlen2 : ([(3 : Int)] ++ encR 1 m).length ≤ 4096 := enc_part hm hmy _ ([]) (by rw [HEM.out]; exact (List.append_nil _).symm)
  have HSB := hide hsb
  have HTB := hide htb
  have HMO := hide hm
  have HKD : Hid (∀ W, Below wb.heap.size wb W → W.cell? ⟨w.heap.size, 0, none⟩ = some (.int .u8 3)) := hide (fun W hB => by
    have := (HX.out.belowI hB).cell 0 (.int .u8 (m.kind : Int)) rfl
    rw [hk] at this
    exact this)
  have x0 := HKD.out wb (Below.refl _ _)
  have HMY := hide hmy
  clear hA hX hwb hsb htb hm hs ht hi hv hl hmy hk
  go_enter Tryz.func16, Tryz.ntmps16
  go_wp2_with (first
    | (refine wp_load_box rfl _ rfl w.heap.size rfl HX.out Tryz.underlying37 rfl infoRRec ?_)
    | (go_at_call 12; refine CM.out.mono ?_; rintro e w2 ⟨rfl, hB2⟩; have HB2 := hide hB2; have HN2 := hide (box_new w2 #[.slice none 0 0] 85); have HA2 := hide (alloc_below10 w2 (.cells #[.slice none 0 0] 85)); clear hB2)
    | (refine wp_store_box (cs' := #[.slice none 0 0]) rfl rfl _ _ rfl w2.heap.size rfl rfl HN2.out rfl infoRW11 (by simp [Value.oneCell']) ?_; intro w4 hb4 hk4; have W4 : Hid (WBl wb w4 w2.heap.size (.slice none 0 0) []) := hide ⟨⟨hb4, ⟨rfl, .inl ⟨rfl, rfl⟩⟩⟩, HB2.out.trans ((HA2.out.trans (hk4.below HA2.out.size (fun k e => by omega))).mono HB2.out.size), HB2.out.size, (fun g hg => by cases hg)⟩; have y0 := HKD.out w4 W4.out.bl; clear hb4 hk4)
    | (go_at_call 35; refine (rwbyte_any w2.heap.size (.slice none 0 0) [] 3 w4 W4.out.wr (by simp)).mono ?_; rintro e w5 ⟨rfl, v5, h5⟩; have W5 := hide (W4.out.step h5); have HX5 := hide (HX.out.belowI W5.out.bl); have z0 := HKD.out w5 W5.out.bl; have x2 := HX5.out.cell 2 _ rfl; have x3 := HX5.out.cell 3 _ rfl; have x4 := HX5.out.cell 4 _ rfl;  clear h5 W4 HN2 HA2))
  obtain ⟨p, hp⟩ : ∃ p, w2.heap.size = p := ⟨_, rfl⟩
  simp only [hp] at W5 ⊢
  rw [List.nil_append] at W5
  refine (rputTx_any p v5 ([(3 : Int)]) m.tx w5 W5.out.wr (by omega) HMO.out.tx.2.1 HMO.out.tx.2.2).mono ?_
  rintro e w6 ⟨rfl, v6, h6⟩
  have W6 : Hid (WBl wb w6 p v6 ([(3 : Int)] ++ encR 1 m)) := hide (W5.out.step h6)
  have HX6 := hide (HX.out.belowI W6.out.bl)
  have y6 := HKD.out w6 W6.out.bl
  clear h6 x2 x3 x4 z0
  have yk := W6.out.wr.box.cell 0 v6 rfl
  go_wp2_with fail
  go_ret2
  refine ⟨v6, rfl, ?_, HA.out.trans (W6.out.bl.mono HA.out.size)⟩
  rw [HEM.out]
  exact Lies.of_own W6.out.wr.own
set_option maxRecDepth 100000 in
set_option maxHeartbeats 6400000 in
theorem rencode11_4 (m : RecP) (ao bo : Option Addr) (l c j d : Nat) (w : World) (hm : RecOk m) (hs : RSrc wrE w (.slice ao l c) m.wr) (ht : Lies .u64 w (.slice bo j d) (misI m.mis)) (hi : m.item.val.length ≤ 9223372036854775807) (hv : ∀ x ∈ m.wr, x.it.val.length ≤ 9223372036854775807) (hl : m.wr.length ≤ 100000) (hk : m.kind = 4) (hmy : mayR m = true) :
    Calls Tryz.prog 16 #[.agg (recA m (.slice ao l c) (.slice bo j d))] w fun e w' => ∃ u, e = .returned (.tuple #[u, .int .i64 0]) ∧ Lies .u8 w' u (encRec m) ∧ Below w.heap.size w w' := by
  have hA := alloc_below10 w (.cells (recA m (.slice ao l c) (.slice bo j d)) 37)
  have hX := box_new w (recA m (.slice ao l c) (.slice bo j d)) 37
  obtain ⟨wb, hwb⟩ : ∃ wb, wb = w.alloc (.cells (recA m (.slice ao l c) (.slice bo j d)) 37) := ⟨_, rfl⟩
  rw [← hwb] at hA hX
  have hW := hwb.symm
  have HA := hide hA
  have HX := hide hX
  have hsb := hs.below hA
  have htb := ht.below hA
  have CM := hide (rmay11_any m ao bo l c j d wb hm hsb htb hi hv hl)
  rw [hmy] at CM
  have HEM : Hid (encRec m = [(4 : Int)] ++ encR 1 m) := hide (by
    unfold encRec
    rw [hk]
    show ((4 : Nat) : Int) :: encRs [1] m = _
    simp [encRs])
  have hlen1 : ([(4 : Int)]).length ≤ 4096 := enc_part hm hmy _ (encR 1 m) HEM.out
  have hlen2 : ([(4 : Int)] ++ encR 1 m).length ≤ 4096 := enc_part hm hmy _ ([]) (by rw [HEM.out]; exact (List.append_nil _).symm)
  have HSB := hide hsb
  have HTB := hide htb
  have HMO := hide hm
  have HKD : Hid (∀ W, Below wb.heap.size wb W → W.cell? ⟨w.heap.size, 0, none⟩ = some (.int .u8 4)) := hide (fun W hB => by
    have := (HX.out.belowI hB).cell 0 (.int .u8 (m.kind : Int)) rfl
    rw [hk] at this
    exact this)
  have x0 := HKD.out wb (Below.refl _ _)
  have HMY := hide hmy
  clear hA hX hwb hsb htb hm hs ht hi hv hl hmy hk
  go_enter Tryz.func16, Tryz.ntmps16
  go_wp2_with (first
    | (refine wp_load_box rfl _ rfl w.heap.size rfl HX.out Tryz.underlying37 rfl infoRRec ?_)
    | (go_at_call 12; refine CM.out.mono ?_; rintro e w2 ⟨rfl, hB2⟩; have HB2 := hide hB2; have HN2 := hide (box_new w2 #[.slice none 0 0] 85); have HA2 := hide (alloc_below10 w2 (.cells #[.slice none 0 0] 85)); clear hB2)
    | (refine wp_store_box (cs' := #[.slice none 0 0]) rfl rfl _ _ rfl w2.heap.size rfl rfl HN2.out rfl infoRW11 (by simp [Value.oneCell']) ?_; intro w4 hb4 hk4; have W4 : Hid (WBl wb w4 w2.heap.size (.slice none 0 0) []) := hide ⟨⟨hb4, ⟨rfl, .inl ⟨rfl, rfl⟩⟩⟩, HB2.out.trans ((HA2.out.trans (hk4.below HA2.out.size (fun k e => by omega))).mono HB2.out.size), HB2.out.size, (fun g hg => by cases hg)⟩; have y0 := HKD.out w4 W4.out.bl; clear hb4 hk4)
    | (go_at_call 35; refine (rwbyte_any w2.heap.size (.slice none 0 0) [] 4 w4 W4.out.wr (by simp)).mono ?_; rintro e w5 ⟨rfl, v5, h5⟩; have W5 := hide (W4.out.step h5); have HX5 := hide (HX.out.belowI W5.out.bl); have z0 := HKD.out w5 W5.out.bl; have x2 := HX5.out.cell 2 _ rfl; have x3 := HX5.out.cell 3 _ rfl; have x4 := HX5.out.cell 4 _ rfl;  clear h5 W4 HN2 HA2))
  obtain ⟨p, hp⟩ : ∃ p, w2.heap.size = p := ⟨_, rfl⟩
  simp only [hp] at W5 ⊢
  rw [List.nil_append] at W5
  refine (rputTx_any p v5 ([(4 : Int)]) m.tx w5 W5.out.wr (by omega) HMO.out.tx.2.1 HMO.out.tx.2.2).mono ?_
  rintro e w6 ⟨rfl, v6, h6⟩
  have W6 : Hid (WBl wb w6 p v6 ([(4 : Int)] ++ encR 1 m)) := hide (W5.out.step h6)
  have HX6 := hide (HX.out.belowI W6.out.bl)
  have y6 := HKD.out w6 W6.out.bl
  clear h6 x2 x3 x4 z0
  have yk := W6.out.wr.box.cell 0 v6 rfl
  go_wp2_with fail
  go_ret2
  refine ⟨v6, rfl, ?_, HA.out.trans (W6.out.bl.mono HA.out.size)⟩
  rw [HEM.out]
  exact Lies.of_own W6.out.wr.own
set_option maxRecDepth 100000 in
set_option maxHeartbeats 6400000 in
theorem rencode11_5 (m : RecP) (ao bo : Option Addr) (l c j d : Nat) (w : World) (hm : RecOk m) (hs : RSrc wrE w (.slice ao l c) m.wr) (ht : Lies .u64 w (.slice bo j d) (misI m.mis)) (hi : m.item.val.length ≤ 9223372036854775807) (hv : ∀ x ∈ m.wr, x.it.val.length ≤ 9223372036854775807) (hl : m.wr.length ≤ 100000) (hk : m.kind = 5) (hmy : mayR m = true) :
    Calls Tryz.prog 16 #[.agg (recA m (.slice ao l c) (.slice bo j d))] w fun e w' => ∃ u, e = .returned (.tuple #[u, .int .i64 0]) ∧ Lies .u8 w' u (encRec m) ∧ Below w.heap.size w w' := by
  have hA := alloc_below10 w (.cells (recA m (.slice ao l c) (.slice bo j d)) 37)
  have hX := box_new w (recA m (.slice ao l c) (.slice bo j d)) 37
  obtain ⟨wb, hwb⟩ : ∃ wb, wb = w.alloc (.cells (recA m (.slice ao l c) (.slice bo j d)) 37) := ⟨_, rfl⟩
  rw [← hwb] at hA hX
  have hW := hwb.symm
  have HA := hide hA
  have HX := hide hX
  have hsb := hs.below hA
  have htb := ht.below hA
  have CM := hide (rmay11_any m ao bo l c j d wb hm hsb htb hi hv hl)
  rw [hmy] at CM
  have HEM : Hid (encRec m = [(5 : Int)] ++ encR 1 m ++ encR 3 m ++ encR 4 m ++ encR 5 m) := hide (by
    unfold encRec
    rw [hk]
    show ((5 : Nat) : Int) :: encRs [1, 3, 4, 5] m = _
    simp [encRs])
  have hlen1 : ([(5 : Int)]).length ≤ 4096 := enc_part hm hmy _ (encR 1 m ++ encR 3 m ++ encR 4 m ++ encR 5 m) (by rw [HEM.out]; simp only [List.append_assoc])
  have hlen2 : ([(5 : Int)] ++ encR 1 m).length ≤ 4096 := enc_part hm hmy _ (encR 3 m ++ encR 4 m ++ encR 5 m) (by rw [HEM.out]; simp only [List.append_assoc])
  have hlen3 : ([(5 : Int)] ++ encR 1 m ++ encR 3 m).length ≤ 4096 := enc_part hm hmy _ (encR 4 m ++ encR 5 m) (by rw [HEM.out]; simp only [List.append_assoc])
  have hlen4 : ([(5 : Int)] ++ encR 1 m ++ encR 3 m ++ encR 4 m).length ≤ 4096 := enc_part hm hmy _ (encR 5 m) HEM.out
  have hlen5 : ([(5 : Int)] ++ encR 1 m ++ encR 3 m ++ encR 4 m ++ encR 5 m).length ≤ 4096 := enc_part hm hmy _ ([]) (by rw [HEM.out]; exact (List.append_nil _).symm)
  have HWO : Hid (m.wr.length ≤ 16 ∧ ∀ x ∈ m.wr, wrOk x) := hide (mayR_okW hm hmy (k := 4) (by rw [hk]; decide))
  have HMI : Hid (m.mis.length = m.wr.length ∧ ∀ x ∈ m.mis, x ≤ 255) := hide (mayR_okW hm hmy (k := 5) (by rw [hk]; decide))
  have HJM : Hid (j = m.mis.length) := hide (by
    obtain ⟨a2, c2, e⟩ := ht.shape
    cases e
    exact misI_len _)
  have HSB := hide hsb
  have HTB := hide htb
  have HMO := hide hm
  have HKD : Hid (∀ W, Below wb.heap.size wb W → W.cell? ⟨w.heap.size, 0, none⟩ = some (.int .u8 5)) := hide (fun W hB => by
    have := (HX.out.belowI hB).cell 0 (.int .u8 (m.kind : Int)) rfl
    rw [hk] at this
    exact this)
  have x0 := HKD.out wb (Below.refl _ _)
  have HMY := hide hmy
  clear hA hX hwb hsb htb hm hs ht hi hv hl hmy hk
  go_enter Tryz.func16, Tryz.ntmps16
  go_wp2_with (first
    | (refine wp_load_box rfl _ rfl w.heap.size rfl HX.out Tryz.underlying37 rfl infoRRec ?_)
    | (go_at_call 12; refine CM.out.mono ?_; rintro e w2 ⟨rfl, hB2⟩; have HB2 := hide hB2; have HN2 := hide (box_new w2 #[.slice none 0 0] 85); have HA2 := hide (alloc_below10 w2 (.cells #[.slice none 0 0] 85)); clear hB2)
    | (refine wp_store_box (cs' := #[.slice none 0 0]) rfl rfl _ _ rfl w2.heap.size rfl rfl HN2.out rfl infoRW11 (by simp [Value.oneCell']) ?_; intro w4 hb4 hk4; have W4 : Hid (WBl wb w4 w2.heap.size (.slice none 0 0) []) := hide ⟨⟨hb4, ⟨rfl, .inl ⟨rfl, rfl⟩⟩⟩, HB2.out.trans ((HA2.out.trans (hk4.below HA2.out.size (fun k e => by omega))).mono HB2.out.size), HB2.out.size, (fun g hg => by cases hg)⟩; have y0 := HKD.out w4 W4.out.bl; clear hb4 hk4)
    | (go_at_call 35; refine (rwbyte_any w2.heap.size (.slice none 0 0) [] 5 w4 W4.out.wr (by simp)).mono ?_; rintro e w5 ⟨rfl, v5, h5⟩; have W5 := hide (W4.out.step h5); have HX5 := hide (HX.out.belowI W5.out.bl); have z0 := HKD.out w5 W5.out.bl; have x2 := HX5.out.cell 2 _ rfl; have x3 := HX5.out.cell 3 _ rfl; have x4 := HX5.out.cell 4 _ rfl;  clear h5 W4 HN2 HA2))
  obtain ⟨p, hp⟩ : ∃ p, w2.heap.size = p := ⟨_, rfl⟩
  simp only [hp] at W5 ⊢
  rw [List.nil_append] at W5
  refine (rputTx_any p v5 ([(5 : Int)]) m.tx w5 W5.out.wr (by omega) HMO.out.tx.2.1 HMO.out.tx.2.2).mono ?_
  rintro e w6 ⟨rfl, v6, h6⟩
  have W6 : Hid (WBl wb w6 p v6 ([(5 : Int)] ++ encR 1 m)) := hide (W5.out.step h6)
  have HX6 := hide (HX.out.belowI W6.out.bl)
  have y6 := HKD.out w6 W6.out.bl
  clear h6 x2 x3 x4 z0
  have x7 := HX6.out.cell 7 _ rfl
  go_wp2_with fail
  refine (rwnum_any p v6 ([(5 : Int)] ++ encR 1 m) m.mem w6 W6.out.wr (by omega) HMO.out.mem).mono ?_
  rintro e w7 ⟨rfl, v7, h7⟩
  have W7 : Hid (WBl wb w7 p v7 ([(5 : Int)] ++ encR 1 m ++ encR 3 m)) := hide (W6.out.step h7)
  have HX7 := hide (HX.out.belowI W7.out.bl)
  have y7 := HKD.out w7 W7.out.bl
  clear h7 x7 y6
  have x8 := HX7.out.cell 8 _ rfl
  go_wp2_with fail
  refine (rputWrites_any wb p v7 ([(5 : Int)] ++ encR 1 m ++ encR 3 m) ao l c m.wr w7 W7.out HSB.out (by omega) HMO.out.wr HWO.out.2 HWO.out.1).mono ?_
  rintro e w8 ⟨rfl, v8, h8⟩
  have W8 : Hid (WBl wb w8 p v8 ([(5 : Int)] ++ encR 1 m ++ encR 3 m ++ encR 4 m)) := hide (h8)
  have HX8 := hide (HX.out.belowI W8.out.bl)
  have y8 := HKD.out w8 W8.out.bl
  clear h8 x8 y7
  obtain rfl := HJM.out
  obtain ⟨J, hJ⟩ : ∃ J, J = m.mis.length := ⟨_, rfl⟩
  have HJ := hide hJ
  rw [← hJ] at HTB
  have HXJ : Hid (∀ W, Below wb.heap.size wb W → W.cell? ⟨w.heap.size, 9, none⟩ = some (.slice bo J d)) := hide (fun W hB => by
    have := (HX.out.belowI hB).cell 9 (.slice bo m.mis.length d) rfl
    rw [hJ]
    exact this)
  have hJ16 : J ≤ 16 := by rw [hJ, HMI.out.1]; exact HWO.out.1
  rw [← hJ]
  clear hJ
  go_wp2_with fail
  clear y8
  go_loopg [5] J (fun g i wr => ∃ (k : Nat) (vk : Value), k + g = J ∧ i = .int .i64 k ∧ Hid (WBl wb wr p vk ([(5 : Int)] ++ encR 1 m ++ encR 3 m ++ encR 4 m ++ repEnc (numC 255) (m.mis.take k))))
  case atStart => exact ⟨0, v8, by omega, rfl, hide (by
    have : [(5 : Int)] ++ encR 1 m ++ encR 3 m ++ encR 4 m ++ repEnc (numC 255) (m.mis.take 0) = [(5 : Int)] ++ encR 1 m ++ encR 3 m ++ encR 4 m := by simp [repEnc]
    rw [this]
    exact W8.out)⟩
  case round =>
    clear W8 HX8
    obtain ⟨k, vk, hk, rfl, WK⟩ := hrel
    have x9 := HXJ.out wr WK.out.bl
    cases gk with
    | zero =>
      obtain rfl : k = J := by omega
      have hz : ¬ ((k : Int) < (k : Int)) := by omega
      have yk := WK.out.wr.box.cell 0 vk rfl
      go_wp2_with fail
      go_ret2
      refine ⟨vk, rfl, ?_, HA.out.trans (WK.out.bl.mono HA.out.size)⟩
      have hw := WK.out.wr.own
      rw [HJ.out, List.take_length] at hw
      rw [HEM.out]
      exact Lies.of_own hw
    | succ g =>
      have hz : (k : Int) < (J : Int) := by omega
      have hz0 : (0 : Int) ≤ (k : Int) := by omega
      have hkl : k < m.mis.length := by rw [← HJ.out]; omega
      have H3 := HTB.out.below WK.out.bl
      rcases H3 with ⟨he0, _⟩ | ⟨_, b, off, c2, e2, _, _, _, hc⟩
      · exfalso
        have := congrArg List.length he0
        rw [misI_len] at this
        have : m.mis.length = 0 := this
        omega
      · cases e2
        have hcell := hc k (by rw [misI_len]; exact hkl)
        rw [misW_get hkl] at hcell
        have hx := HMI.out.2 _ (List.getElem_mem hkl)
        have hln : ([(5 : Int)] ++ encR 1 m ++ encR 3 m ++ encR 4 m ++ repEnc (numC 255) (m.mis.take k)).length ≤ 4096 := by
          refine enc_part HMO.out HMY.out _ (repEnc (numC 255) (m.mis.drop k)) ?_
          rw [HEM.out]
          have : encR 5 m = repEnc (numC 255) (m.mis.take k) ++ repEnc (numC 255) (m.mis.drop k) := by
            show repEnc (numC 255) m.mis = _
            unfold repEnc
            rw [← List.flatMap_append, List.take_append_drop]
          rw [this]
          simp only [List.append_assoc]
        have C := hide (rwnum_any p vk ([(5 : Int)] ++ encR 1 m ++ encR 3 m ++ encR 4 m ++ repEnc (numC 255) (m.mis.take k)) m.mis[k] wr WK.out.wr (by omega) (by omega))
        have HN : Hid ([(5 : Int)] ++ encR 1 m ++ encR 3 m ++ encR 4 m ++ repEnc (numC 255) (m.mis.take k) ++ shortS m.mis[k] = [(5 : Int)] ++ encR 1 m ++ encR 3 m ++ encR 4 m ++ repEnc (numC 255) (m.mis.take (k + 1))) := hide (by rw [misW_take hkl]; simp only [List.append_assoc])
        rw [HN.out] at C
        obtain ⟨x, hx2⟩ : ∃ x, x = m.mis[k] := ⟨_, rfl⟩
        rw [← hx2] at hcell C
        clear hc hx hln hx2 HN
        go_wp2_with (go_at_call 36; refine C.out.mono ?_; rintro e w9 ⟨rfl, v9, h9⟩; have W9 := hide (WK.out.step h9); clear h9)
        go_roundg g
        case measure => omega
        case rel => exact ⟨k + 1, v9, by omega, by first | rfl | go_num, W9⟩
set_option maxRecDepth 100000 in
set_option maxHeartbeats 6400000 in
theorem rencode11_6 (m : RecP) (ao bo : Option Addr) (l c j d : Nat) (w : World) (hm : RecOk m) (hs : RSrc wrE w (.slice ao l c) m.wr) (ht : Lies .u64 w (.slice bo j d) (misI m.mis)) (hi : m.item.val.length ≤ 9223372036854775807) (hv : ∀ x ∈ m.wr, x.it.val.length ≤ 9223372036854775807) (hl : m.wr.length ≤ 100000) (hk : m.kind = 6) (hmy : mayR m = true) :
    Calls Tryz.prog 16 #[.agg (recA m (.slice ao l c) (.slice bo j d))] w fun e w' => ∃ u, e = .returned (.tuple #[u, .int .i64 0]) ∧ Lies .u8 w' u (encRec m) ∧ Below w.heap.size w w' := by
  have hA := alloc_below10 w (.cells (recA m (.slice ao l c) (.slice bo j d)) 37)
  have hX := box_new w (recA m (.slice ao l c) (.slice bo j d)) 37
  obtain ⟨wb, hwb⟩ : ∃ wb, wb = w.alloc (.cells (recA m (.slice ao l c) (.slice bo j d)) 37) := ⟨_, rfl⟩
  rw [← hwb] at hA hX
  have hW := hwb.symm
  have HA := hide hA
  have HX := hide hX
  have hsb := hs.below hA
  have htb := ht.below hA
  have CM := hide (rmay11_any m ao bo l c j d wb hm hsb htb hi hv hl)
  rw [hmy] at CM
  have HEM : Hid (encRec m = [(6 : Int)] ++ encR 1 m) := hide (by
    unfold encRec
    rw [hk]
    show ((6 : Nat) : Int) :: encRs [1] m = _
    simp [encRs])
  have hlen1 : ([(6 : Int)]).length ≤ 4096 := enc_part hm hmy _ (encR 1 m) HEM.out
  have hlen2 : ([(6 : Int)] ++ encR 1 m).length ≤ 4096 := enc_part hm hmy _ ([]) (by rw [HEM.out]; exact (List.append_nil _).symm)
  have HSB := hide hsb
  have HTB := hide htb
  have HMO := hide hm
  have HKD : Hid (∀ W, Below wb.heap.size wb W → W.cell? ⟨w.heap.size, 0, none⟩ = some (.int .u8 6)) := hide (fun W hB => by
    have := (HX.out.belowI hB).cell 0 (.int .u8 (m.kind : Int)) rfl
    rw [hk] at this
    exact this)
  have x0 := HKD.out wb (Below.refl _ _)
  have HMY := hide hmy
  clear hA hX hwb hsb htb hm hs ht hi hv hl hmy hk
  go_enter Tryz.func16, Tryz.ntmps16
  go_wp2_with (first
    | (refine wp_load_box rfl _ rfl w.heap.size rfl HX.out Tryz.underlying37 rfl infoRRec ?_)
    | (go_at_call 12; refine CM.out.mono ?_; rintro e w2 ⟨rfl, hB2⟩; have HB2 := hide hB2; have HN2 := hide (box_new w2 #[.slice none 0 0] 85); have HA2 := hide (alloc_below10 w2 (.cells #[.slice none 0 0] 85)); clear hB2)
    | (refine wp_store_box (cs' := #[.slice none 0 0]) rfl rfl _ _ rfl w2.heap.size rfl rfl HN2.out rfl infoRW11 (by simp [Value.oneCell']) ?_; intro w4 hb4 hk4; have W4 : Hid (WBl wb w4 w2.heap.size (.slice none 0 0) []) := hide ⟨⟨hb4, ⟨rfl, .inl ⟨rfl, rfl⟩⟩⟩, HB2.out.trans ((HA2.out.trans (hk4.below HA2.out.size (fun k e => by omega))).mono HB2.out.size), HB2.out.size, (fun g hg => by cases hg)⟩; have y0 := HKD.out w4 W4.out.bl; clear hb4 hk4)
    | (go_at_call 35; refine (rwbyte_any w2.heap.size (.slice none 0 0) [] 6 w4 W4.out.wr (by simp)).mono ?_; rintro e w5 ⟨rfl, v5, h5⟩; have W5 := hide (W4.out.step h5); have HX5 := hide (HX.out.belowI W5.out.bl); have z0 := HKD.out w5 W5.out.bl; have x2 := HX5.out.cell 2 _ rfl; have x3 := HX5.out.cell 3 _ rfl; have x4 := HX5.out.cell 4 _ rfl;  clear h5 W4 HN2 HA2))
  obtain ⟨p, hp⟩ : ∃ p, w2.heap.size = p := ⟨_, rfl⟩
  simp only [hp] at W5 ⊢
  rw [List.nil_append] at W5
  refine (rputTx_any p v5 ([(6 : Int)]) m.tx w5 W5.out.wr (by omega) HMO.out.tx.2.1 HMO.out.tx.2.2).mono ?_
  rintro e w6 ⟨rfl, v6, h6⟩
  have W6 : Hid (WBl wb w6 p v6 ([(6 : Int)] ++ encR 1 m)) := hide (W5.out.step h6)
  have HX6 := hide (HX.out.belowI W6.out.bl)
  have y6 := HKD.out w6 W6.out.bl
  clear h6 x2 x3 x4 z0
  have yk := W6.out.wr.box.cell 0 v6 rfl
  go_wp2_with fail
  go_ret2
  refine ⟨v6, rfl, ?_, HA.out.trans (W6.out.bl.mono HA.out.size)⟩
  rw [HEM.out]
  exact Lies.of_own W6.out.wr.own
set_option maxRecDepth 100000 in
set_option maxHeartbeats 6400000 in
theorem rencode11_7 (m : RecP) (ao bo : Option Addr) (l c j d : Nat) (w : World) (hm : RecOk m) (hs : RSrc wrE w (.slice ao l c) m.wr) (ht : Lies .u64 w (.slice bo j d) (misI m.mis)) (hi : m.item.val.length ≤ 9223372036854775807) (hv : ∀ x ∈ m.wr, x.it.val.length ≤ 9223372036854775807) (hl : m.wr.length ≤ 100000) (hk : m.kind = 7) (hmy : mayR m = true) :
    Calls Tryz.prog 16 #[.agg (recA m (.slice ao l c) (.slice bo j d))] w fun e w' => ∃ u, e = .returned (.tuple #[u, .int .i64 0]) ∧ Lies .u8 w' u (encRec m) ∧ Below w.heap.size w w' := by
  have hA := alloc_below10 w (.cells (recA m (.slice ao l c) (.slice bo j d)) 37)
  have hX := box_new w (recA m (.slice ao l c) (.slice bo j d)) 37
  obtain ⟨wb, hwb⟩ : ∃ wb, wb = w.alloc (.cells (recA m (.slice ao l c) (.slice bo j d)) 37) := ⟨_, rfl⟩
  rw [← hwb] at hA hX
  have hW := hwb.symm
  have HA := hide hA
  have HX := hide hX
  have hsb := hs.below hA
  have htb := ht.below hA
  have CM := hide (rmay11_any m ao bo l c j d wb hm hsb htb hi hv hl)
  rw [hmy] at CM
  have HEM : Hid (encRec m = [(7 : Int)] ++ encR 6 m ++ encR 7 m) := hide (by
    unfold encRec
    rw [hk]
    show ((7 : Nat) : Int) :: encRs [6, 7] m = _
    simp [encRs])
  have hlen1 : ([(7 : Int)]).length ≤ 4096 := enc_part hm hmy _ (encR 6 m ++ encR 7 m) (by rw [HEM.out]; simp only [List.append_assoc])
  have hlen2 : ([(7 : Int)] ++ encR 6 m).length ≤ 4096 := enc_part hm hmy _ (encR 7 m) HEM.out
  have hlen3 : ([(7 : Int)] ++ encR 6 m ++ encR 7 m).length ≤ 4096 := enc_part hm hmy _ ([]) (by rw [HEM.out]; exact (List.append_nil _).symm)
  have HIO : Hid (itOk m.item) := hide (mayR_okW hm hmy (k := 7) (by rw [hk]; decide))
  have hil : m.item.val.length ≤ 64 := HIO.out.2.1
  have HSB := hide hsb
  have HTB := hide htb
  have HMO := hide hm
  have HKD : Hid (∀ W, Below wb.heap.size wb W → W.cell? ⟨w.heap.size, 0, none⟩ = some (.int .u8 7)) := hide (fun W hB => by
    have := (HX.out.belowI hB).cell 0 (.int .u8 (m.kind : Int)) rfl
    rw [hk] at this
    exact this)
  have x0 := HKD.out wb (Below.refl _ _)
  have HMY := hide hmy
  clear hA hX hwb hsb htb hm hs ht hi hv hl hmy hk
  go_enter Tryz.func16, Tryz.ntmps16
  go_wp2_with (first
    | (refine wp_load_box rfl _ rfl w.heap.size rfl HX.out Tryz.underlying37 rfl infoRRec ?_)
    | (go_at_call 12; refine CM.out.mono ?_; rintro e w2 ⟨rfl, hB2⟩; have HB2 := hide hB2; have HN2 := hide (box_new w2 #[.slice none 0 0] 85); have HA2 := hide (alloc_below10 w2 (.cells #[.slice none 0 0] 85)); clear hB2)
    | (refine wp_store_box (cs' := #[.slice none 0 0]) rfl rfl _ _ rfl w2.heap.size rfl rfl HN2.out rfl infoRW11 (by simp [Value.oneCell']) ?_; intro w4 hb4 hk4; have W4 : Hid (WBl wb w4 w2.heap.size (.slice none 0 0) []) := hide ⟨⟨hb4, ⟨rfl, .inl ⟨rfl, rfl⟩⟩⟩, HB2.out.trans ((HA2.out.trans (hk4.below HA2.out.size (fun k e => by omega))).mono HB2.out.size), HB2.out.size, (fun g hg => by cases hg)⟩; have y0 := HKD.out w4 W4.out.bl; clear hb4 hk4)
    | (go_at_call 35; refine (rwbyte_any w2.heap.size (.slice none 0 0) [] 7 w4 W4.out.wr (by simp)).mono ?_; rintro e w5 ⟨rfl, v5, h5⟩; have W5 := hide (W4.out.step h5); have HX5 := hide (HX.out.belowI W5.out.bl); have z0 := HKD.out w5 W5.out.bl; have x10 := HX5.out.cell 10 _ rfl; have x11 := HX5.out.cell 11 _ rfl; have x12 := HX5.out.cell 12 _ rfl; have x13 := HX5.out.cell 13 _ rfl; have x14 := HX5.out.cell 14 _ rfl; have x15 := HX5.out.cell 15 _ rfl; have x16 := HX5.out.cell 16 _ rfl; have x17 := HX5.out.cell 17 _ rfl;  clear h5 W4 HN2 HA2))
  obtain ⟨p, hp⟩ : ∃ p, w2.heap.size = p := ⟨_, rfl⟩
  simp only [hp] at W5 ⊢
  rw [List.nil_append] at W5
  refine (rkeyI_any p v5 ([(7 : Int)]) m.key w5 HMO.out.key.l W5.out.wr (by omega)).mono ?_
  rintro e w6 ⟨rfl, v6, h6⟩
  have W6 : Hid (WBl wb w6 p v6 ([(7 : Int)] ++ encR 6 m)) := hide (W5.out.step h6)
  have HX6 := hide (HX.out.belowI W6.out.bl)
  have y6 := HKD.out w6 W6.out.bl
  clear h6 x10 x11 x12 x13 x14 x15 x16 x17 z0
  have x18 := HX6.out.cell 18 _ rfl
  have x19 := HX6.out.cell 19 _ rfl
  have x20 := HX6.out.cell 20 _ rfl
  have x21 := HX6.out.cell 21 _ rfl
  have x22 := HX6.out.cell 22 _ rfl
  have x23 := HX6.out.cell 23 _ rfl
  have x24 := HX6.out.cell 24 _ rfl
  have x25 := HX6.out.cell 25 _ rfl
  have x26 := HX6.out.cell 26 _ rfl
  have x27 := HX6.out.cell 27 _ rfl
  have x28 := HX6.out.cell 28 _ rfl
  have x29 := HX6.out.cell 29 _ rfl
  have x30 := HX6.out.cell 30 _ rfl
  go_wp2_with fail
  refine (rputItem_any p v6 ([(7 : Int)] ++ encR 6 m) m.item w6 W6.out.wr (by omega) HMO.out.item (by omega)).mono ?_
  rintro e w7 ⟨rfl, v7, h7⟩
  have W7 : Hid (WBl wb w7 p v7 ([(7 : Int)] ++ encR 6 m ++ encR 7 m)) := hide (W6.out.step h7)
  have HX7 := hide (HX.out.belowI W7.out.bl)
  have y7 := HKD.out w7 W7.out.bl
  clear h7 x18 x19 x20 x21 x22 x23 x24 x25 x26 x27 x28 x29 x30 y6
  have yk := W7.out.wr.box.cell 0 v7 rfl
  go_wp2_with fail
  go_ret2
  refine ⟨v7, rfl, ?_, HA.out.trans (W7.out.bl.mono HA.out.size)⟩
  rw [HEM.out]
  exact Lies.of_own W7.out.wr.own
theorem rencode11_any (m : RecP) (ao bo : Option Addr) (l c j d : Nat) (w : World) (hm : RecOk m) (hs : RSrc wrE w (.slice ao l c) m.wr) (ht : Lies .u64 w (.slice bo j d) (misI m.mis)) (hi : m.item.val.length ≤ 9223372036854775807) (hv : ∀ x ∈ m.wr, x.it.val.length ≤ 9223372036854775807) (hl : m.wr.length ≤ 100000) :
    Calls Tryz.prog 16 #[.agg (recA m (.slice ao l c) (.slice bo j d))] w fun e w' => ∃ u, e = .returned (.tuple #[u, .int .i64 (if mayR m then 0 else 1)]) ∧ Lies .u8 w' u (if mayR m then encRec m else []) ∧ Below w.heap.size w w' := by
  cases hmy : mayR m with
  | false => exact rencode11_no m ao bo l c j d w hm hs ht hi hv hl hmy
  | true =>
    have hne : fieldsR m.kind ≠ [] := fun e => by
      unfold mayR at hmy
      rw [e] at hmy
      cases hmy
    rcases fieldsR_kind hne with e | e | e | e | e | e | e
    · exact rencode11_1 m ao bo l c j d w hm hs ht hi hv hl e hmy
    · exact rencode11_2 m ao bo l c j d w hm hs ht hi hv hl e hmy
    · exact rencode11_3 m ao bo l c j d w hm hs ht hi hv hl e hmy
    · exact rencode11_4 m ao bo l c j d w hm hs ht hi hv hl e hmy
    · exact rencode11_5 m ao bo l c j d w hm hs ht hi hv hl e hmy
    · exact rencode11_6 m ao bo l c j d w hm hs ht hi hv hl e hmy
    · exact rencode11_7 m ao bo l c j d w hm hs ht hi hv hl e hmy
end
section
open Go.RowKit Classical

theorem few_ofC11 {m : RecP} (h : longR m = false) : m.wr.length ≤ 40 := by
  unfold longR at h
  simp only [Bool.or_eq_false_iff, decide_eq_false_iff_not] at h
  omega
set_option maxRecDepth 100000 in
set_option maxHeartbeats 6400000 in
theorem walkC11 (H : RecDo) (m : RecP) (ao bo : Option Addr) (cap dap : Nat) (w : World) (hok : RecOk m) (h : RV w m ao m.wr.length cap bo m.mis.length dap) (hv : m.item.val.length ≤ 140737488355328) (hwv : ∀ x ∈ m.wr, x.it.val.length ≤ 9223372036854775807) :
    Calls Tryz.prog 4 #[.agg (recA m (.slice ao m.wr.length cap) (.slice bo m.mis.length dap))] w fun e w' => e = .returned (.bool true) ∧ Below w.heap.size w w' := by
  have hA := alloc_below10 w (.cells (recA m (.slice ao m.wr.length cap) (.slice bo m.mis.length dap)) 37)
  have hX := box_new w (recA m (.slice ao m.wr.length cap) (.slice bo m.mis.length dap)) 37
  obtain ⟨w1, hw1⟩ : ∃ w1, w1 = w.alloc (.cells (recA m (.slice ao m.wr.length cap) (.slice bo m.mis.length dap)) 37) := ⟨_, rfl⟩
  rw [← hw1] at hA hX
  have CL := hide (long_any11 m ao bo cap dap w1 (h.below hA).1 hv)
  have HA := hide hA
  have HX := hide hX
  have HR := hide (h.below hA)
  have HOK := hide hok
  have hW := hw1.symm
  have HAL := hide (fun w => alive_by11 H w)
  obtain ⟨LN, hLN⟩ : ∃ LN, LN = m.wr.length := ⟨_, rfl⟩
  obtain ⟨LM, hLM⟩ : ∃ LM, LM = m.mis.length := ⟨_, rfl⟩
  rw [← hLN, ← hLM] at CL HX HR hW ⊢
  have HLN := hide (And.intro hLN hLM)
  have HV := hide (And.intro hv hwv)
  clear h hA hX hw1 hok hLN hLM hv hwv
  cases hlg : longR m with
  | true =>
    rw [hlg] at CL
    clear hlg
    go_enter Tryz.func4, Tryz.ntmps4
    go_wp2_with (first | (refine wp_load_box rfl _ rfl w.heap.size rfl HX.out Tryz.underlying37 rfl infoRRec ?_) | (go_at_call 8; refine CL.out.mono ?_; rintro e w2 ⟨rfl, hB2⟩; have HB2 := hide hB2; clear hB2) | (go_at_call 9; refine (HAL.out _).mono ?_; rintro e w3 ⟨rfl, hB3⟩; have HB3 := hide hB3; clear hB3))
    go_ret
    exact ⟨rfl, HA.out.trans ((HB2.out.trans (HB3.out.mono HB2.out.size)).mono HA.out.size)⟩
  | false =>
    have hfew := few_ofC11 hlg
    rw [hlg] at CL
    clear hlg
    have CT := hide (fun w => theirs_any11 m ao bo LN cap LM dap w)
    obtain ⟨E, hE⟩ : ∃ E : Int, E = if mayR m then 0 else 1 := ⟨_, rfl⟩
    obtain ⟨X, hXd⟩ : ∃ X, X = if mayR m then encRec m else [] := ⟨_, rfl⟩
    have CE : Hid (∀ W, Below w1.heap.size w1 W → Calls Tryz.prog 15 #[.agg (recA m (.slice ao LN cap) (.slice bo LM dap))] W fun e w' => ∃ u, e = .returned (.tuple #[u, .int .i64 E]) ∧ Lies .u8 w' u X ∧ Below W.heap.size W w') := hide (fun W hB => by
      have hz := HR.out.below hB
      have := H.enc (w := W) (v := .agg (recA m (.slice ao LN cap) (.slice bo LM dap))) HOK.out ⟨ao, bo, cap, dap, by rw [HLN.out.1, HLN.out.2], by rw [← HLN.out.1]; exact hz.1, by rw [← HLN.out.2]; exact hz.2⟩
      rw [← hE, ← hXd] at this
      exact this)
    have CR : Hid (∀ W, Below w1.heap.size w1 W → Calls Tryz.prog 16 #[.agg (recA m (.slice ao LN cap) (.slice bo LM dap))] W fun e w' => ∃ u, e = .returned (.tuple #[u, .int .i64 E]) ∧ Lies .u8 w' u X ∧ Below W.heap.size W w') := hide (fun W hB => by
      have := rencode11_any m ao bo LN cap LM dap W HOK.out (HR.out.below hB).1 (HR.out.below hB).2 (by have := HV.out.1; omega) HV.out.2 (by have := HLN.out.1; omega)
      rw [← hE, ← hXd] at this
      exact this)
    clear hE hXd hfew
    obtain ⟨XL, hXL⟩ : ∃ XL, XL = X.length := ⟨_, rfl⟩
    have HXL := hide hXL
    clear hXL
    go_enter Tryz.func4, Tryz.ntmps4
    go_wp2_with (first
      | (refine wp_load_box rfl _ rfl w.heap.size rfl HX.out Tryz.underlying37 rfl infoRRec ?_)
      | (go_at_call 8; refine CL.out.mono ?_; rintro e w2 ⟨rfl, hB2⟩; have HB2 := hide hB2; have HX2 := hide (HX.out.belowI hB2); clear hB2 HX CL)
      | (refine wp_load_box rfl _ rfl w.heap.size rfl HX2.out Tryz.underlying37 rfl infoRRec ?_)
      | (go_at_call 11; refine (CT.out w2).mono ?_; rintro e w3 ⟨rfl, hB3⟩; have HB3 := hide (HB2.out.trans (hB3.mono HB2.out.size)); have HX3 := hide (HX2.out.belowI hB3); clear hB3 HX2 CT HB2)
      | (go_at_call 15; refine (CE.out w3 HB3.out).mono ?_; rintro e w4 ⟨u4, rfl, hL4, hB4⟩; obtain ⟨a4, c4, rfl⟩ := hL4.shape; rw [← HXL.out]; have HL4 := hide hL4; have HB4 := hide (HB3.out.trans (hB4.mono HB3.out.size)); have HX4 := hide (HX3.out.belowI hB4); clear hL4 hB4 HX3 CE HB3)
      | (refine wp_load_box rfl _ rfl w.heap.size rfl HX4.out Tryz.underlying37 rfl infoRRec ?_)
      | (go_at_call 16; refine (CR.out w4 HB4.out).mono ?_; rintro e w5 ⟨u5, rfl, hL5, hB5⟩; obtain ⟨a5, c5, rfl⟩ := hL5.shape; rw [← HXL.out]; have HL5 := hide hL5; have HL45 := hide (HL4.out.below hB5); have HB5 := hide (HB4.out.trans (hB5.mono HB4.out.size)); clear hL5 hB5 HX4 CR HB4 HL4)
      | (go_at_call 17; refine (same_any _ _ X w5 (by rw [HXL.out]; exact HL45.out) (by rw [HXL.out]; exact HL5.out)).mono ?_; rintro e w6 ⟨rfl, hw6⟩; have hw7 := hw6.symm; subst hw7)
      | (go_at_call 9; refine (HAL.out _).mono ?_; rintro e w8 ⟨rfl, hB8⟩; have HB8 := hide hB8; clear hB8))
    go_ret
    exact ⟨rfl, HA.out.trans ((HB5.out.trans (HB8.out.mono HB5.out.size)).mono HA.out.size)⟩
end
section
open Go.RowKit Go.ChangeShapes Go.WideShapes Go.ChangeAt

namespace codes11
set_option maxRecDepth 100000 in
theorem lifted (os : Os) (started : os.Started) (H : Type) (enc : TypeId × Value → H) :
    ReturnsInHanded {} Tryz.checked os 4 .any (Rows.recCodesSpec.pre6 enc Tryz.prog Tryz.f4 Rows.recCodesRow.domain false) (Rows.recCodesSpec.post enc Tryz.prog Tryz.f4 false true false false) := by
  refine returnsInHanded_of_change_sized (C := Tryz.checked) own started (by kernel_rfl) Tryz.func4
    (ChangeSpec.witness6 (enc := enc) (C := Tryz.checked) false ⟨#[], #[.agg (recA (zeroR 0) (.slice none 0 0) (.slice none 0 0))], []⟩ 8 (by kernel_rfl) (by kernel_rfl) (by kernel_rfl) (by kernel_rfl)) ?_
  intro W base args ds gs before hval0 hW hcnd hsz _
  have hval : ∀ (j : Nat) t v, Tryz.f4.params[j]? = some t → args[j]? = some v → Value.okWide Tryz.prog W .any base t v := hval0
  have hW' := hW
  obtain ⟨p, q, hA0, hV, rfl, hfz, hnd⟩ := hW
  have hA : DataW.TrodAll enc Tryz.prog W 0 (fun _ => true) true Tryz.f4.params.toList args.toList ds p := hA0
  have hsz2 : ∀ (j : Nat) (t : TypeId) (d : DataW H), Tryz.f4.params.toList[j]? = some t → ds[j]? = some d → ∀ n ∈ d.weights Tryz.prog t, n ≤ 140737488351232 := fun j t d ht hd n hn => by
    have h1 := List.all_eq_true.1 hsz n (DataW.weights_mem_each (j := j) (t := t) (d := d) (by rw [List.getElem?_append_left (List.getElem?_eq_some_iff.1 ht).1]; exact ht) (by rw [List.getElem?_append_left (List.getElem?_eq_some_iff.1 hd).1]; exact hd) n hn)
    have h2 : n ≤ reachBytes := by simpa using h1
    have h3 : reachBytes = 140737488351232 := rfl
    omega
  rw [Tryz.params4] at hA hval hsz2
  obtain ⟨v0, vs0, d0, ds0, p0, q0, hargs, rfl, rfl, h0, r0⟩ := trodAll_cons hA
  obtain ⟨rfl, rfl, rfl⟩ := trodAll_nil r0
  obtain rfl : args = #[v0] := by cases args; simp_all
  obtain ⟨rfl, rfl⟩ := trodVars_none hV
  have k0 := h0
  have lt0 : ∀ x ∈ p0, x.block < W.heap.size := by obtain ⟨m, hm⟩ := k0; exact DataW.trod_lt m _ _ _ hm
  obtain ⟨mg0, pv0, qv0, rfl, ok0, src0, lie0, wt0, wv0⟩ := rrec_of_trod (hval 0 37 v0 rfl rfl) h0
  have sz0 : mg0.item.val.length ≤ 140737488351232 := hsz2 0 37 d0 rfl rfl _ wt0
  obtain ⟨ao0, cp0, hp0, _, _⟩ := src0.shape
  subst hp0
  obtain ⟨bo0, dp0, hq0⟩ := lie0.shape
  rw [misI_len] at hq0
  subst hq0
  clear hA0 hval0
  refine (walkC11 rc_do mg0 ao0 bo0 cp0 dp0 W ok0 ⟨src0, lie0⟩ (by omega) wv0).mono fun e W' ⟨he, bel⟩ => ?_
  subst he
  exact ⟨_, rfl, _, _, _, [], _, [], hW', trodAll_mk1 (shut_bool Tryz.underlying4 _), (trodAll_cons_mk (Below.trod laidOut (by kernel_rfl) (of_decide_eq_true (by kernel_rfl)) k0 bel lt0) trodAll_mk0), rfl, bel.frame _, fun h => by cases h⟩

theorem over : Rows.recCodesRow.holds Tryz.pinned (OpenSpec.ofChange Rows.recCodesSpec) :=
  OpenClaim.holds_of_wide 4 Tryz.f4 rfl rfl rfl rfl rfl rfl rfl ⟨rfl, rfl, rfl, rfl, rfl⟩ rfl rfl rfl rfl rfl (by kernel_rfl) Tryz.func4 (by kernel_rfl)
    (of_decide_eq_true (by kernel_rfl)) (by unfold Func.isWrapper; first | (rw [if_pos (by decide +kernel)]; kernel_rfl) | (rw [if_neg (by decide +kernel)]; exact ⟨rfl, rfl⟩))
    (fun os started H enc _ => lifted os started H enc)
end codes11

/-- THE STATEMENT. -/
theorem recCodes_holds : Rows.RecCodesSaid := codes11.over
#print axioms recCodes_holds
end
end Go.Proofs.YtencmgepffdodaaGreat
