/-
  Proved: versions only rise, and what is refused turns nothing: whatever items come, in whatever order, a key that the program's table had it still has, with no older version, and no other item of the same version, one that was installed is there, and behind an error the table has what it had. For every input of the form's own reach (of a script the first 150 writes count; one whose values are too large is passed by, as the law says). Own work.
-/
import Derived.Test.YtlngejmojpkdkaaG20
import Derived.Test.YtlngejmojpkdkaaG19
import Derived.Deep.LoopGhost
import Derived.SizedLaws
import Derived.ChangeArms
namespace Go.Proofs.Ytlngejmojpkdkaa
section
open Go.RowKit Classical

section
variable {D : World → Nat → (Nat → Prop) → List WrP → Prop}
set_option maxRecDepth 100000 in
set_option maxHeartbeats 12800000 in
theorem walkR13 (H : TableDo D) (v : Value) (fs : List WrP) (w : World) (hL : RSrc wrE w v fs) (hok : ∀ x ∈ fs, KeyOk x.key ∧ ItOk x.it) (hv : ∀ x ∈ fs, x.it.val.length ≤ 9223372036854775807) :
    Calls Try.prog 5 #[v] w fun e w' => e = .returned (.bool true) ∧ Below w.heap.size w w' := by
  obtain ⟨ao, cap, rfl, _, _⟩ := hL.shape
  have HL := hide hL
  have HV := hide hv
  have HOK := hide hok
  have HA := hide (fun w => alive_by13 H w)
  obtain ⟨LF, hLF⟩ : ∃ LF, LF = fs.length := ⟨_, rfl⟩
  rw [← hLF] at HL ⊢
  clear hL hv hok hLF
  go_enter Try.func5, Try.ntmps5
  go_wp2_with fail
  refine (H.new w).mono ?_
  rintro e w1 ⟨q, F1, rfl, hD1, hF1, hB1⟩
  have HS1 : Hid (Since13 D w q [] w1) := hide ⟨F1, hD1, hF1, hB1⟩
  have HB1 := hide hB1
  have CL := hide (long_any13 _ fs w1 (HL.out.below hB1) HV.out)
  clear hD1 hF1 hB1
  by_cases hb : 65536 < bulk13 fs
  · rw [decide_eq_true hb] at CL
    clear hb
    go_wp2_with fail
    refine CL.out.mono ?_
    rintro e w2 ⟨rfl, hB2⟩
    have HB2 := hide (HB1.out.trans (hB2.mono HB1.out.size))
    clear hB2
    go_wp2_with fail
    refine (HA.out w2).mono ?_
    rintro e w3 ⟨rfl, hB3⟩
    have HB3 := hide (HB2.out.trans (hB3.mono HB2.out.size))
    clear hB3
    go_wp2_with fail
    go_ret
    exact ⟨rfl, HB3.out⟩
  · rw [decide_eq_false hb] at CL
    clear hb
    go_wp2_with fail
    refine CL.out.mono ?_
    rintro e w2 ⟨rfl, hB2⟩
    have HS2 := hide (HS1.out.below H hB2)
    have CS := hide (short_any13 _ fs w2 w HL.out)
    clear hB2 CL HS1 HB1
    go_wp2_with fail
    refine CS.out.mono ?_
    rintro e w3 ⟨v3, rfl, hw3, hT⟩
    subst hw3
    obtain ⟨LN, hLN⟩ : ∃ LN, LN = (fs.take 150).length := ⟨_, rfl⟩
    have HLN := hide hLN
    have hln : LN ≤ 150 := by rw [hLN, List.length_take]; omega
    obtain ⟨ao2, cap2, e2, _, _⟩ := hT.shape
    rw [← hLN] at e2
    subst e2
    have HT := hide hT
    have HOK2 : Hid (∀ x ∈ fs.take 150, (KeyOk x.key ∧ ItOk x.it) ∧ x.it.val.length ≤ 9223372036854775807) := hide (fun x hx => ⟨HOK.out x (List.mem_of_mem_take hx), HV.out x (List.mem_of_mem_take hx)⟩)
    clear hT hLN CS HL HV HOK
    generalize fs.take 150 = ts at *
    go_wp2_with fail
    go_loopg [30] LN (fun g ix wr => ∃ (k : Nat) (t : List WrP), k + g = LN ∧ ix = .int .i64 (k : Int) ∧ Hid (Since13 D w q t wr))
    case atStart => exact ⟨0, [], by omega, rfl, HS2⟩
    case round =>
      obtain ⟨k, t, hk, rfl, HS⟩ := hrel
      cases gk with
      | zero =>
        obtain rfl : k = LN := by omega
        have hz : ¬ ((k : Int) < (k : Int)) := by omega
        go_wp2_with fail
        refine (HA.out wr).mono ?_
        rintro e w5 ⟨rfl, hB5⟩
        obtain ⟨F5, _, _, hB4⟩ := HS.out
        have HB5 := hide (hB4.trans (hB5.mono hB4.size))
        clear hB5 hB4
        go_wp2_with fail
        go_ret
        exact ⟨rfl, HB5.out⟩
      | succ g =>
        have hz : (k : Int) < (LN : Int) := by omega
        have hkt : k < ts.length := by rw [← HLN.out]; omega
        obtain ⟨F, hD, hF, hB⟩ := HS.out
        have HD := hide hD
        have HF := hide hF
        have HB := hide hB
        obtain ⟨en9, b9, o9, e9, hb9, hcl⟩ := (HT.out.below hB).at recWR.len hkt
        obtain rfl := e9
        have HRG : Hid (wr.rangeAt b9 (o9 + k * 21) (wrE ts[k])) := hide (fun j u hu => hcl j u hu)
        obtain ⟨⟨hxk, hxi⟩, hxv⟩ := HOK2.out _ (List.getElem_mem hkt)
        generalize ts[k] = x at *
        have HXK := hide hxk
        have HXI := hide hxi
        have HXV := hide hxv
        have HZ := hide (box_new wr (wrA zeroWr) 38)
        have HZB := hide (alloc_below13 wr (.cells (wrA zeroWr) 38))
        clear hD hF hB en9 hb9 hcl hxk hxi hxv hkt HS
        go_wp2_with (first | (refine wpList_load_mid rfl 38 _ rfl b9 (o9 + k * 21) rfl (wrE x) _ HRG.out Try.underlying38 rfl infoWrite ?_) | (refine wp_store_box rfl rfl _ _ rfl wr.heap.size rfl (cs' := wrA x) rfl HZ.out rfl infoWrite (wrA_one13 x) ?_; intro w4 hb4 hk4; have HX4 := hide hb4; have HB4 := hide (HZB.out.trans (hk4.below HZB.out.size (fun j hj => by omega))); clear hb4 hk4))
        have HD4 := hide (H.below HD.out HB4.out)
        refine (H.all HD4.out).mono ?_
        rintro e w5 ⟨va, rfl, hva, hB5⟩
        have HX5 := hide (HX4.out.belowI hB5)
        have HD5 := hide (H.below HD4.out hB5)
        have HVA := hide hva
        have HB5 := hide (HB4.out.trans (hB5.mono HB4.out.size))
        have HFL : Hid (∀ j, F j → j < wr.heap.size) := hide (fun j hj => H.lt HD.out j hj)
        have HRV : Hid (∀ g, va.ownBlock = some g → ¬ F g) := hide (fun g e hf => by
          have h1 := (hva.lt g e).1
          have h2 := HFL.out g hf
          have h3 := HB4.out.size
          omega)
        have HSA := hide (RSrc.of_own hva)
        have HOKT := hide (H.ok HD.out)
        have HK5 := hide (wr_key HX5.out)
        have HI5 := hide (wr_it HX5.out)
        clear hva hB5 HVA HRG HZ HZB HX4 HD4
        go_wp2_with (first | (refine wpList_load_mid rfl 31 _ rfl wr.heap.size 0 rfl (eightE x.key) _ HK5.out Try.underlying31 rfl infoKey13 ?_) | (refine wpList_load_mid rfl 36 _ rfl wr.heap.size 8 rfl (itE x.it) _ HI5.out Try.underlying36 rfl infoIt13 ?_))
        refine (H.ins x.key x.it HD5.out HXK.out HXI.out HXV.out).mono ?_
        rintro e w6 ⟨rfl, F6, hD6, hk6, hF6⟩
        have HX6 := hide (HX5.out.keep hk6 (fun hf => Nat.lt_irrefl _ (HFL.out _ hf)))
        have HSA6 := hide (HSA.out.keep hk6 HRV.out)
        have HD6 := hide hD6
        have HB6 := hide (HB.out.trans ((HB5.out.mono HB.out.size).trans (hk6.below (Nat.le_trans HB.out.size HB5.out.size) HF.out)))
        have HF6 : Hid (∀ j, F6 j → w.heap.size ≤ j) := hide (fun j hj => by
          rcases hF6 j hj with h | h
          · exact HF.out j h
          · exact Nat.le_trans HB.out.size (Nat.le_trans HB5.out.size h))
        clear hD6 hk6 hF6 HX5 HD5 HSA HK5 HI5 HB5 HRV HFL
        go_wp2_with fail
        refine (H.all HD6.out).mono ?_
        rintro e w7 ⟨vb, rfl, hvb, hB7⟩
        have HX7 := hide (HX6.out.belowI hB7)
        have HSA7 := hide (HSA6.out.below hB7)
        have HSB7 := hide (RSrc.of_own hvb)
        have HD7 := hide (H.below HD6.out hB7)
        have HB7 := hide (HB6.out.trans (hB7.mono HB6.out.size))
        clear hvb hB7 HX6 HSA6 HD6 HB6
        by_cases hR : insA t x.key x.it = 0
        · have HR := hide hR
          rw [hR]
          clear hR
          obtain ⟨aoa, capa, ea, _, _⟩ := HSA7.out.shape
          obtain ⟨NT, hNT⟩ : ∃ NT, NT = t.length := ⟨_, rfl⟩
          have HNT := hide hNT
          rw [← hNT] at ea
          subst ea
          have hntl : NT ≤ 64 := by rw [hNT]; exact HOKT.out.1.few
          obtain ⟨bx, hbx⟩ : ∃ bx, bx = wr.heap.size := ⟨_, rfl⟩
          rw [← hbx] at HX7 ⊢
          clear hNT hbx
          go_wp2_with fail
          go_loopg [52] NT (fun g2 ix wr => ∃ (j : Nat), j + g2 = NT ∧ ix = .int .i64 (j : Int) ∧ Hid (Below w7.heap.size w7 wr))
          case atStart => exact ⟨0, by omega, rfl, hide (Below.refl _ _)⟩
          case round =>
            obtain ⟨j, hj, rfl, HBI⟩ := hrel
            cases gk with
            | zero =>
              obtain rfl : j = NT := by omega
              have hz2 : ¬ ((j : Int) < (j : Int)) := by omega
              have HD8 := hide (H.below HD7.out HBI.out)
              have HX8 := hide (HX7.out.belowI HBI.out)
              have HGET := hide (fun W (hD : D W q F6 (insD t x.key x.it)) => H.get x.key hD HXK.out)
              simp only [ins_own HOKT.out.1 HXK.out.l HR.out, Option.getD_some, Option.isSome_some] at HGET
              have HK8 := hide (wr_key HX8.out)
              have hq2 : ∀ W, (binOp .neq 36 (.agg (itA x.it)) (.agg (itA x.it))).run Try.prog W = .ok (.bool false) W := fun W => by rw [neq_it14 HXI.out HXI.out W, decide_eq_true rfl]; rfl
              go_wp2_with (first | (refine wpList_load_mid rfl 31 _ rfl bx 0 rfl (eightE x.key) _ HK8.out Try.underlying31 rfl infoKey13 ?_))
              refine (HGET.out wr HD8.out).mono ?_
              rintro e wA ⟨rfl, hBA⟩
              have HXA := hide (HX8.out.belowI hBA)
              have HDA := hide (H.below HD8.out hBA)
              have HBA := hide (HBI.out.trans (hBA.mono HBI.out.size))
              have HZA := hide (box_new wA (itA zeroIt) 36)
              have HZAB := hide (alloc_below13 wA (.cells (itA zeroIt) 36))
              have hlx := HXA.out.lt
              clear hBA HK8 HX8 HD8 HGET
              go_wp2_with (first | (refine wp_store_box rfl rfl _ _ rfl wA.heap.size rfl (cs' := itA x.it) rfl HZA.out rfl infoIt13 (itA_one13 x.it) ?_; intro wB hb4 hk4; have HZB := hide hb4; have HXB := hide ((HXA.out.belowI HZAB.out).keep hk4 (by omega)); have HAB := hide (HZAB.out.trans (hk4.below HZAB.out.size (fun j hj => by omega))); have HIX := hide (wr_it HXB.out); clear hb4 hk4) | (refine wp_load_box_g rfl _ rfl wA.heap.size rfl HZB.out Try.underlying36 rfl infoIt13 ?_) | (refine wp_load_mid_g rfl 36 _ rfl bx 8 rfl (itE x.it) _ HIX.out Try.underlying36 rfl infoIt13 ?_))
              go_roundg g
              case measure => omega
              case rel =>
                have h9 : Below w7.heap.size w7 wB := HBA.out.trans (HAB.out.mono HBA.out.size)
                exact ⟨k + 1, insD t x.key x.it, by omega, by first | rfl | go_num, hide ⟨F6, H.below HD7.out h9, HF6.out, HB7.out.trans (h9.mono HB7.out.size)⟩⟩
            | succ g2 =>
              have hz2 : (j : Int) < (NT : Int) := by omega
              have hjt : j < t.length := by rw [← HNT.out]; omega
              obtain ⟨en9, b8, o8, e9, hb9, hcl⟩ := (HSA7.out.below HBI.out).at recWR.len hjt
              obtain rfl := e9
              have HRG : Hid (wr.rangeAt b8 (o8 + j * 21) (wrE t[j])) := hide (fun j u hu => hcl j u hu)
              have hyt := List.getElem_mem hjt
              generalize t[j] = y at *
              obtain ⟨z, hz3, hz4, hz5, hz6⟩ := ins_get HOKT.out.1 HXK.out.l HR.out hyt
              have HYO := hide (HOKT.out.2 y hyt)
              have HD8 := hide (H.below HD7.out HBI.out)
              have HX8 := hide (HX7.out.belowI HBI.out)
              have HZO : Hid (ItOk z) := hide (get_ok13 (H.ok HD7.out).2 (H.ok HD7.out).1 hz3)
              have HGET := hide (fun W (hD : D W q F6 (insD t x.key x.it)) => H.get y.key hD HYO.out.1)
              simp only [hz3, Option.getD_some, Option.isSome_some] at HGET
              have HZ := hide (box_new wr (wrA zeroWr) 38)
              have HZB := hide (alloc_below13 wr (.cells (wrA zeroWr) 38))
              have HZ5 := hide hz5
              have HZ6 := hide hz6
              clear en9 hb9 hcl hyt hjt hz3 hz5 hz6
              go_wp2_with (first | (refine wpList_load_mid rfl 38 _ rfl b8 (o8 + j * 21) rfl (wrE y) _ HRG.out Try.underlying38 rfl infoWrite ?_) | (refine wp_store_box rfl rfl _ _ rfl wr.heap.size rfl (cs' := wrA y) rfl HZ.out rfl infoWrite (wrA_one13 y) ?_; intro w9 hb4 hk4; have HY9 := hide hb4; have HB9 := hide (HZB.out.trans (hk4.below HZB.out.size (fun j hj => by omega))); have HK9 := hide (wr_key HY9.out); clear hb4 hk4) | (refine wpList_load_mid rfl 31 _ rfl wr.heap.size 0 rfl (eightE y.key) _ HK9.out Try.underlying31 rfl infoKey13 ?_))
              refine (HGET.out w9 (H.below HD8.out HB9.out)).mono ?_
              rintro e wA ⟨rfl, hBA⟩
              have HYA := hide (HY9.out.belowI hBA)
              have HXA := hide ((HX8.out.belowI HB9.out).belowI hBA)
              have HBA := hide (HBI.out.trans ((HB9.out.trans (hBA.mono HB9.out.size)).mono HBI.out.size))
              have HZA := hide (box_new wA (itA zeroIt) 36)
              have HZAB := hide (alloc_below13 wA (.cells (itA zeroIt) 36))
              clear hBA HY9 HX8 HB9 HK9 HRG HZ HZB HBI HD8 HGET
              have hly := HYA.out.lt
              have hlx := HXA.out.lt
              have dv : decide ((z.ver : Int) < (y.it.ver : Int)) = false := decide_eq_false (by omega)
              have dv2 : decide (z.ver < y.it.ver) = false := decide_eq_false (by omega)
              have dv3 : ¬ ((z.ver : Int) < (y.it.ver : Int)) := by omega
              by_cases hyx : y.key = x.key
              · have hq : ∀ W, (binOp .neq 31 (.agg (eightA y.key)) (.agg (eightA x.key))).run Try.prog W = .ok (.bool false) W := fun W => by rw [neq_ky13 HYO.out.1 HXK.out W, decide_eq_true hyx]; rfl
                clear hyx hz4
                go_wp2_with (first | (refine wp_store_box rfl rfl _ _ rfl wA.heap.size rfl (cs' := itA z) rfl HZA.out rfl infoIt13 (itA_one13 z) ?_; intro wB hb4 hk4; have HZB := hide hb4; have HYB := hide ((HYA.out.belowI HZAB.out).keep hk4 (by omega)); have HXB := hide ((HXA.out.belowI HZAB.out).keep hk4 (by omega)); have HBB := hide (HBA.out.trans ((HZAB.out.trans (hk4.below HZAB.out.size (fun j hj => by omega))).mono HBA.out.size)); have c1 : wB.cell? ⟨wA.heap.size, 0, none⟩ = some (.int .u32 (z.ver : Int)) := HZB.out.cell 0 _ rfl; have c2 : wB.cell? ⟨wr.heap.size, 8, none⟩ = some (.int .u32 (y.it.ver : Int)) := HYB.out.cell 8 _ rfl; have HKY := hide (wr_key HYB.out); have HKX := hide (wr_key HXB.out); have HIY := hide (wr_it HYB.out); clear hb4 hk4) | (refine wp_load_mid_g rfl 31 _ rfl wr.heap.size 0 rfl (eightE y.key) _ HKY.out Try.underlying31 rfl infoKey13 ?_) | (refine wp_load_mid_g rfl 31 _ rfl bx 0 rfl (eightE x.key) _ HKX.out Try.underlying31 rfl infoKey13 ?_))
                go_roundg g2
                case measure => omega
                case rel => exact ⟨j + 1, by omega, by first | rfl | go_num, HBB⟩
              · have hzy := HZ5.out hyx
                subst hzy
                have hq : ∀ W, (binOp .neq 31 (.agg (eightA y.key)) (.agg (eightA x.key))).run Try.prog W = .ok (.bool true) W := fun W => by rw [neq_ky13 HYO.out.1 HXK.out W, decide_eq_false hyx]; rfl
                have hq2 : ∀ W, (binOp .neq 36 (.agg (itA y.it)) (.agg (itA y.it))).run Try.prog W = .ok (.bool false) W := fun W => by rw [neq_it14 HYO.out.2 HYO.out.2 W, decide_eq_true rfl]; rfl
                clear hyx hz4
                go_wp2_with (first | (refine wp_store_box rfl rfl _ _ rfl wA.heap.size rfl (cs' := itA y.it) rfl HZA.out rfl infoIt13 (itA_one13 y.it) ?_; intro wB hb4 hk4; have HZB := hide hb4; have HYB := hide ((HYA.out.belowI HZAB.out).keep hk4 (by omega)); have HXB := hide ((HXA.out.belowI HZAB.out).keep hk4 (by omega)); have HBB := hide (HBA.out.trans ((HZAB.out.trans (hk4.below HZAB.out.size (fun j hj => by omega))).mono HBA.out.size)); have c1 : wB.cell? ⟨wA.heap.size, 0, none⟩ = some (.int .u32 (y.it.ver : Int)) := HZB.out.cell 0 _ rfl; have c2 : wB.cell? ⟨wr.heap.size, 8, none⟩ = some (.int .u32 (y.it.ver : Int)) := HYB.out.cell 8 _ rfl; have HKY := hide (wr_key HYB.out); have HKX := hide (wr_key HXB.out); have HIY := hide (wr_it HYB.out); clear hb4 hk4) | (refine wp_load_mid_g rfl 31 _ rfl wr.heap.size 0 rfl (eightE y.key) _ HKY.out Try.underlying31 rfl infoKey13 ?_) | (refine wp_load_mid_g rfl 31 _ rfl bx 0 rfl (eightE x.key) _ HKX.out Try.underlying31 rfl infoKey13 ?_) | (refine wp_load_box_g rfl _ rfl wA.heap.size rfl HZB.out Try.underlying36 rfl infoIt13 ?_) | (refine wp_load_mid_g rfl 36 _ rfl wr.heap.size 8 rfl (itE y.it) _ HIY.out Try.underlying36 rfl infoIt13 ?_))
                go_roundg g2
                case measure => omega
                case rel => exact ⟨j + 1, by omega, by first | rfl | go_num, HBB⟩
        · have HE := hide (ins_same hR)
          have hne : ((insA t x.key x.it) == 0) = false := by simpa using hR
          rw [HE.out] at HSB7 HD7
          have CW := hide (rsameWrites_any va vb t t w7 HSA7.out HSB7.out HOKT.out.2 HOKT.out.2)
          rw [decide_eq_true rfl] at CW
          generalize insA t x.key x.it = R at *
          clear hR
          go_wp2_with fail
          refine CW.out.mono ?_
          rintro e w8 ⟨rfl, hB8⟩
          have HS8 : Hid (Since13 D w q t w8) := hide ⟨F6, H.below HD7.out hB8, HF6.out, HB7.out.trans (hB8.mono HB7.out.size)⟩
          clear hB8
          go_wp2_with fail
          go_roundg g
          case measure => omega
          case rel => exact ⟨k + 1, t, by omega, by first | rfl | go_num, HS8⟩
end
end
section
open Go.RowKit Go.ChangeShapes Go.WideShapes Go.ChangeAt

namespace DRise
set_option maxRecDepth 100000 in
theorem lifted (os : Os) (started : os.Started) (H : Type) (enc : TypeId × Value → H) :
    ReturnsInHanded {} Try.checked os 5 .any (Rows.itemRiseSpec.pre6 enc Try.prog Try.f5 Rows.itemRiseRow.domain false) (Rows.itemRiseSpec.post enc Try.prog Try.f5 false true false false) := by
  refine returnsInHanded_of_change_sized (C := Try.checked) own started (by kernel_rfl) Try.func5
    (ChangeSpec.witness6 (enc := enc) (C := Try.checked) false ⟨#[], #[.slice none 0 0], []⟩ 8 (by kernel_rfl) (by kernel_rfl) (by kernel_rfl) (by kernel_rfl)) ?_
  intro W base args ds gs before hval0 hW hcnd hsz _
  have hval : ∀ (j : Nat) t v, Try.f5.params[j]? = some t → args[j]? = some v → Value.okWide Try.prog W .any base t v := hval0
  have hW' := hW
  obtain ⟨p, q, hA0, hV, rfl, hfz, hnd⟩ := hW
  have hA : DataW.TrodAll enc Try.prog W 0 (fun _ => true) true Try.f5.params.toList args.toList ds p := hA0
  have hsz2 : ∀ (j : Nat) (t : TypeId) (d : DataW H), Try.f5.params.toList[j]? = some t → ds[j]? = some d → ∀ n ∈ d.weights Try.prog t, n ≤ 140737488351232 := fun j t d ht hd n hn => by
    have h1 := List.all_eq_true.1 hsz n (DataW.weights_mem_each (j := j) (t := t) (d := d) (by rw [List.getElem?_append_left (List.getElem?_eq_some_iff.1 ht).1]; exact ht) (by rw [List.getElem?_append_left (List.getElem?_eq_some_iff.1 hd).1]; exact hd) n hn)
    have h2 : n ≤ reachBytes := by simpa using h1
    have h3 : reachBytes = 140737488351232 := rfl
    omega
  rw [Try.params5] at hA hval hsz2
  obtain ⟨v0, vs0, d0, ds0, p0, q0, hargs, rfl, rfl, h0, r0⟩ := trodAll_cons hA
  obtain ⟨rfl, rfl, rfl⟩ := trodAll_nil r0
  obtain rfl : args = #[v0] := by cases args; simp_all
  obtain ⟨rfl, rfl⟩ := trodVars_none hV
  obtain ⟨a0, len0, cap0, rfl⟩ := okWide_slice Try.underlying22 (hval 0 22 v0 rfl rfl)
  have k0 := h0
  have lt0 : ∀ x ∈ p0, x.block < W.heap.size := by obtain ⟨m, hm⟩ := k0; exact DataW.trod_lt m _ _ _ hm
  obtain ⟨xs0, lies0, by0⟩ := awrites_of_trod h0
  clear hA0 hval0
  refine (walkR13 pt_do _ xs0 W lies0 (fun x hx => ⟨(by0 x hx).1, (by0 x hx).2.1⟩) (fun x hx => (by0 x hx).2.2)).mono fun e W' ⟨he, bel⟩ => ?_
  subst he
  exact ⟨_, rfl, _, _, _, [], _, [], hW', trodAll_mk1 (shut_bool Try.underlying4 _), (trodAll_cons_mk (Below.trod laidOut (by kernel_rfl) (of_decide_eq_true (by kernel_rfl)) k0 bel lt0) trodAll_mk0), rfl, bel.frame _, fun h => by cases h⟩

theorem over : Rows.itemRiseRow.holds Try.pinned (OpenSpec.ofChange Rows.itemRiseSpec) :=
  OpenClaim.holds_of_wide 5 Try.f5 rfl rfl rfl rfl rfl rfl rfl ⟨rfl, rfl, rfl, rfl, rfl⟩ rfl rfl rfl rfl rfl (by kernel_rfl) Try.func5 (by kernel_rfl)
    (of_decide_eq_true (by kernel_rfl)) (by unfold Func.isWrapper; first | (rw [if_pos (by decide +kernel)]; kernel_rfl) | (rw [if_neg (by decide +kernel)]; exact ⟨rfl, rfl⟩))
    (fun os started H enc _ => lifted os started H enc)
end DRise

/-- THE STATEMENT. -/
theorem itemRise_holds : Rows.ItemRiseSaid := DRise.over
#print axioms itemRise_holds
end
end Go.Proofs.Ytlngejmojpkdkaa
