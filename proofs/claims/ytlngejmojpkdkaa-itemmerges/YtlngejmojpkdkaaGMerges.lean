/-
  Proved: a table of the program into which another one is merged, and the newest of any items, is the document's, or refused with its error: whatever items the two tables were made of; the one that is merged stays as it was; a nil one changes nothing. For every input of the form's own reach (of each script the first 150 writes count; one whose values are too large is passed by, as the law says). Own work.
-/
import Derived.Test.YtlngejmojpkdkaaGMer
import Derived.Test.YtlngejmojpkdkaaGPl
import Derived.Test.YtlngejmojpkdkaaG20
import Derived.Test.YtlngejmojpkdkaaG19
import Derived.Deep.LoopGhost
import Derived.SizedLaws
import Derived.ChangeArms
namespace Go.Proofs.Ytlngejmojpkdkaa
section
open Go.RowKit Classical

theorem en13_mer : ∀ args w, (callFunc 21 args).run Try.prog w = .ok (.enter 21 args) w := enters_of Try.func21 (by kernel_rfl) rfl
theorem en13_rmer : ∀ args w, (callFunc 22 args).run Try.prog w = .ok (.enter 22 args) w := enters_of Try.func22 (by kernel_rfl) rfl
theorem en13_alive : ∀ args w, (callFunc 10 args).run Try.prog w = .ok (.enter 10 args) w := enters_of Try.func10 (by kernel_rfl) rfl
theorem neq_bool13 (B : Bool) (w : World) : (binOp .neq 4 (.bool B) (.bool B)).run Try.prog w = .ok (.bool false) w := by cases B <;> simp [go_sem]
theorem eql_err13 (w : World) : (binOp .eql 39 (.int .i64 0) (.int .i64 0)).run Try.prog w = .ok (.bool true) w := by kernel_rfl
theorem it_one13 (i : ItP) : ∀ u ∈ itE i, u.oneCell' = true := fun u hu => List.all_eq_true.1 (show (itE i).all (·.oneCell') = true from rfl) u hu
def RM21 (i : Nat) (w w' : World) : Prop := (i = 11 ∨ i = 12) ∨ Below w.heap.size w w'
theorem nw_ok (is : List ItP) (h : ∀ i ∈ is, ItOk i) : ItOk ((nwT is).getD zeroIt) := by
  cases is with
  | nil => exact zeroIt_ok13
  | cons x l =>
    show ItOk (newT l x)
    have key : ∀ (l : List ItP) (x : ItP), ItOk x → (∀ i ∈ l, ItOk i) → ItOk (newT l x) := by
      intro l
      induction l with
      | nil => exact fun x hx _ => hx
      | cons y l ih =>
        intro x hx hl
        show ItOk (newT l (if x.ver < y.ver then y else x))
        refine ih _ ?_ (fun i hi => hl i (List.mem_cons_of_mem _ hi))
        split
        · exact hl y List.mem_cons_self
        · exact hx
    exact key l x (h x List.mem_cons_self) (fun i hi => h i (List.mem_cons_of_mem _ hi))
def IM21 (s2 q1 q2 : Nat) (G : ItP) (B : Bool) (R : Int) (tM o : List WrP) : Nat → Value → World → Prop
  | 0, v, _ => v = .agg (itA G)
  | 1, v, _ => v = .agg (itA G)
  | 2, v, _ => v = .bool false
  | 3, v, _ => v = .bool false
  | 4, v, _ => v = .bool B
  | 5, v, _ => v = .bool B
  | 6, v, _ => v = .bool false
  | 7, v, _ => v = .bool false
  | 8, v, _ => v = .bool false
  | 9, v, _ => v = .pointer (some ⟨q1, 0, none⟩)
  | 10, v, _ => v = .pointer (some ⟨q2, 0, none⟩)
  | 11, v, _ => v = .int .i64 R
  | 12, v, _ => v = .int .i64 R
  | 13, v, _ => v = .bool false
  | 14, v, _ => v = .bool false
  | 15, v, _ => v = .bool false
  | 16, v, _ => v = .pointer (some ⟨q1, 0, none⟩)
  | 17, v, W => RSrc wrE W v tM
  | 18, v, _ => v = .pointer (some ⟨s2, 0, none⟩)
  | 19, v, W => RSrc wrE W v tM
  | 20, v, _ => v = .bool true
  | 21, v, _ => v = .bool false
  | 22, v, _ => v = .bool false
  | 23, v, _ => v = .bool false
  | 24, v, _ => v = .pointer (some ⟨q2, 0, none⟩)
  | 25, v, W => RSrc wrE W v o
  | 26, v, _ => v = .pointer (some ⟨s2 + 1, 0, none⟩)
  | 27, v, W => RSrc wrE W v o
  | 28, v, _ => v = .bool true
  | 29, v, _ => v = .bool false
  | 30, v, _ => v = .bool false
  | _, _, _ => True
def IM23 (s2 q1 : Nat) (tM : List WrP) : Nat → Value → World → Prop
  | 0, v, _ => v = .pointer (some ⟨q1, 0, none⟩)
  | 1, v, _ => v = .int .i64 0
  | 2, v, _ => v = .bool true
  | 3, v, _ => v = .bool true
  | 4, v, _ => v = .pointer (some ⟨q1, 0, none⟩)
  | 5, v, W => RSrc wrE W v tM
  | 6, v, _ => v = .pointer (some ⟨s2, 0, none⟩)
  | 7, v, W => RSrc wrE W v tM
  | 8, v, _ => v = .bool true
  | 9, v, _ => v = .bool true
  | 10, v, _ => v = .bool true
  | 11, v, _ => v = .bool true
  | 12, v, _ => v = .bool true
  | 13, v, _ => v = .bool true
  | _, _, _ => True
set_option maxRecDepth 100000 in
set_option maxHeartbeats 25600000 in
theorem walkM13 (v v' : Value) (fs gs : List WrP) (w : World) (hL : RSrc wrE w v fs) (hL2 : RSrc wrE w v' gs) (hok : ∀ x ∈ fs, KeyOk x.key ∧ ItOk x.it) (hok2 : ∀ x ∈ gs, KeyOk x.key ∧ ItOk x.it) (hv : ∀ x ∈ fs, x.it.val.length ≤ 9223372036854775807) (hv2 : ∀ x ∈ gs, x.it.val.length ≤ 9223372036854775807) :
    Calls Try.prog 4 #[v, v'] w fun e w' => e = .returned (.bool true) ∧ Below w.heap.size w w' := by
  obtain ⟨ao, cap, rfl, _, _⟩ := hL.shape
  obtain ⟨ap, cbp, rfl, _, _⟩ := hL2.shape
  have HL := hide hL
  have HL2 := hide hL2
  have HV := hide hv
  have HVb := hide hv2
  have HOK := hide hok
  have HOKb := hide hok2
  have HA := hide (fun w => alive_by13 pt_do w)
  obtain ⟨LF, hLF⟩ : ∃ LF, LF = fs.length := ⟨_, rfl⟩
  obtain ⟨LG, hLG⟩ : ∃ LG, LG = gs.length := ⟨_, rfl⟩
  rw [← hLF] at HL ⊢
  rw [← hLG] at HL2 ⊢
  clear hL hL2 hv hv2 hok hok2 hLF hLG
  go_enter Try.func4, Try.ntmps4
  go_wp2_with fail
  refine (ptNew_any w).mono ?_
  rintro e w1 ⟨q1, F1, rfl, ⟨b1, hP1, hF1⟩, hge1, hB1⟩
  have HP1 := hide hP1
  have HB1 := hide hB1
  have n1 := hge1 q1 ((hF1 q1).2 (.inl rfl))
  have n2 := hge1 b1 ((hF1 b1).2 (.inr rfl))
  have n3 := hP1.box.lt
  have n4 := hP1.map.lt
  clear hP1 hF1 hge1 hB1
  go_wp2_with fail
  refine (ptNew_any w1).mono ?_
  rintro e w2 ⟨q2, F2, rfl, ⟨b2, hP2, hF2⟩, hge2, hB2⟩
  have n5 := hge2 q2 ((hF2 q2).2 (.inl rfl))
  have n6 := hge2 b2 ((hF2 b2).2 (.inr rfl))
  have n7 := hP2.box.lt
  have n8 := hP2.map.lt
  have hNm : Nm13 w w1.heap.size w2.heap.size q1 b1 q2 b2 := ⟨⟨n1, n3⟩, ⟨n2, n4⟩, ⟨n5, n7⟩, ⟨n6, n8⟩, HB1.out.size⟩
  have hA := alloc_below13 w2 (.cells #[.slice none 0 0] 26)
  have hA2 := alloc_below13 (w2.alloc (.cells #[.slice none 0 0] 26)) (.cells #[.slice none 0 0] 26)
  have hB3 := hA.trans (hA2.mono hA.size)
  have HM0 : Hid (M13 w w2.heap.size q1 b1 q2 b2 (.slice none 0 0) (.slice none 0 0) [] [] [] [] ((w2.alloc (.cells #[.slice none 0 0] 26)).alloc (.cells #[.slice none 0 0] 26))) := hide ⟨(HP1.out.below hB2).below hB3, hP2.below hB3, ⟨(box_new w2 _ _).belowI hA2, RSrc.nil _, tb_nil, (fun x hx => by cases hx), fun g e => by cases e⟩, ⟨(by have := box_new (w2.alloc (.cells #[.slice none 0 0] 26)) #[.slice none 0 0] 26; simpa using this), RSrc.nil _, tb_nil, (fun x hx => by cases hx), fun g e => by cases e⟩, fun g e => (by cases e), fun g e => (by cases e), fun g e => (by cases e), (HB1.out.trans (hB2.mono HB1.out.size)).trans (hB3.mono (Nat.le_trans HB1.out.size hB2.size))⟩
  have CL := hide (long_any13 _ fs _ (HL.out.below HM0.out.B) HV.out)
  clear hP2 hF2 hge2 hB2 hA hA2 hB3 HP1 HB1 n1 n2 n3 n4 n5 n6 n7 n8
  by_cases hb : 65536 < bulk13 fs
  · rw [decide_eq_true hb] at CL
    go_wp2_with fail
    refine CL.out.mono ?_
    rintro e w3 ⟨rfl, hB3⟩
    have HMM := hide (HM0.out.below hNm hB3)
    clear hB3
    clear hb
    go_wp2_with fail
    refine (HA.out w3).mono ?_
    rintro e wZ ⟨rfl, hBZ⟩
    have HBZ := hide (HMM.out.B.trans (hBZ.mono HMM.out.B.size))
    clear hBZ
    go_wp2_with fail
    go_ret
    exact ⟨rfl, HBZ.out⟩
  · rw [decide_eq_false hb] at CL
    clear hb
    go_wp2_with fail
    refine CL.out.mono ?_
    rintro e w3 ⟨rfl, hB3⟩
    have HMM := hide (HM0.out.below hNm hB3)
    have CL2 := hide (long_any13 _ gs _ (HL2.out.below HMM.out.B) HVb.out)
    clear hB3 HM0 CL
    obtain ⟨s2, hs2⟩ : ∃ s2, s2 = w2.heap.size := ⟨_, rfl⟩
    rw [← hs2] at HMM hNm ⊢
    obtain ⟨s1, hs1⟩ : ∃ s1, s1 = w1.heap.size := ⟨_, rfl⟩
    rw [← hs1] at hNm
    have HNm := hide hNm
    clear hs1 hs2 hNm
    have hNm := HNm.out
    by_cases hb : 65536 < bulk13 gs
    · rw [decide_eq_true hb] at CL2
      go_wp2_with fail
      refine CL2.out.mono ?_
      rintro e w4 ⟨rfl, hB4⟩
      replace HMM := hide (HMM.out.below hNm hB4)
      clear hB4
      clear hb
      go_wp2_with fail
      refine (HA.out w4).mono ?_
      rintro e wZ ⟨rfl, hBZ⟩
      have HBZ := hide (HMM.out.B.trans (hBZ.mono HMM.out.B.size))
      clear hBZ
      go_wp2_with fail
      go_ret
      exact ⟨rfl, HBZ.out⟩
    · rw [decide_eq_false hb] at CL2
      clear hb
      go_wp2_with fail
      refine CL2.out.mono ?_
      rintro e w4 ⟨rfl, hB4⟩
      replace HMM := hide (HMM.out.below hNm hB4)
      have CS := hide (short_any13 _ fs w4 w HL.out)
      have OKX := HOK
      have HVX := HV
      clear hB4 CL2
      go_wp2_with fail
      refine CS.out.mono ?_
      rintro e w3' ⟨v3, rfl, hw3, hT⟩
      subst hw3
      obtain ⟨LN, hLN⟩ : ∃ LN, LN = (fs.take 150).length := ⟨_, rfl⟩
      have HLN := hide hLN
      have hln : LN ≤ 150 := by rw [hLN, List.length_take]; omega
      obtain ⟨ao2, cap2, e2, _, _⟩ := hT.shape
      rw [← hLN] at e2
      subst e2
      have HT := hide hT
      have HOK2 : Hid (∀ x ∈ fs.take 150, (KeyOk x.key ∧ ItOk x.it) ∧ x.it.val.length ≤ 9223372036854775807) := hide (fun x hx => ⟨OKX.out x (List.mem_of_mem_take hx), HVX.out x (List.mem_of_mem_take hx)⟩)
      clear hT hLN CS
      generalize fs.take 150 = ts at *
      go_wp2_with fail
      go_loopg [9, 42] LN (fun g vl ix wr => ∃ (k : Nat) (t : List WrP) (v1 : Value), k + g = LN ∧ ix = .int .i64 (k : Int) ∧ Hid (M13 w s2 q1 b1 q2 b2 v1 (.slice none 0 0) t [] t [] wr) ∧ Hid (wr.ownsRow (s2 + 2) 36 13 vl ((ts.take k).map (·.it)).length (flat itE ((ts.take k).map (·.it)))) ∧ Hid (∀ g, vl.ownBlock = some g → v1.ownBlock ≠ some g) ∧ Hid (∀ x ∈ t, x.it.val.length ≤ 9223372036854775807))
      case atStart => exact ⟨0, [], .slice none 0 0, by omega, rfl, HMM, hide (World.ownsRow_nil _ _ _ _), hide (fun g e => by cases e), hide (fun x hx => by cases hx)⟩
      case round =>
        obtain ⟨k, t, v1, hk, rfl, HM, HRW, HRA, HSM⟩ := hrel
        cases gk with
        | succ g =>
          have hz : (k : Int) < (LN : Int) := by omega
          have hkt : k < ts.length := by rw [← HLN.out]; omega
          obtain ⟨en9, b9, o9, e9, hb9, hcl⟩ := (HT.out.below HM.out.B).at recWR.len hkt
          obtain rfl := e9
          have HRG : Hid (wr.rangeAt b9 (o9 + k * 21) (wrE ts[k])) := hide (fun j u hu => hcl j u hu)
          have HTK := hide (List.take_succ_eq_append_getElem hkt)
          obtain ⟨⟨hxk, hxi⟩, hxv⟩ := HOK2.out _ (List.getElem_mem hkt)
          generalize ts[k] = x at *
          have HXK := hide hxk
          have HXI := hide hxi
          have HXV := hide hxv
          have HZ := hide (box_new wr (wrA zeroWr) 38)
          have HZB := hide (alloc_below13 wr (.cells (wrA zeroWr) 38))
          clear en9 hb9 hcl hxk hxi hxv hkt
          go_wp2_with (first | ((with_reducible show wpList _ _ _ (⟨_, .load 38 _, _, _, _, _⟩ :: _) _ _); refine wpList_load_mid rfl 38 _ rfl b9 (o9 + k * 21) rfl (wrE x) _ HRG.out Try.underlying38 rfl infoWrite ?_) | ((with_reducible show wpList _ _ _ (⟨none, .store _ _ _, _, _, _, _⟩ :: _) _ _); refine wp_store_box rfl rfl _ _ rfl wr.heap.size rfl (cs' := wrA x) rfl HZ.out rfl infoWrite (wrA_one13 x) ?_; intro w4 hb4 hk4; have HX4 := hide hb4; have HB4 := hide (HZB.out.trans (hk4.below HZB.out.size (fun j hj => by omega))); have HK4 := hide (wr_key HX4.out); have HI4 := hide (wr_it HX4.out); clear hb4 hk4) | ((with_reducible show wpList _ _ _ (⟨_, .load 31 _, _, _, _, _⟩ :: _) _ _); refine wpList_load_mid rfl 31 _ rfl wr.heap.size 0 rfl (eightE x.key) _ HK4.out Try.underlying31 rfl infoKey13 ?_) | ((with_reducible show wpList _ _ _ (⟨_, .load 36 _, _, _, _, _⟩ :: _) _ _); refine wpList_load_mid rfl 36 _ rfl wr.heap.size 8 rfl (itE x.it) _ HI4.out Try.underlying36 rfl infoIt13 ?_))
          have HM4 := hide (HM.out.below hNm HB4.out)
          have hbx := HM.out.size
          refine (ptIns_any q1 b1 t x.key x.it w4 HM4.out.a HXK.out HXI.out).mono ?_
          rintro e w5 ⟨rfl, hp5, hk5⟩
          have n1 := hNm.b
          have n2 := hNm.d
          have n3 := hNm.c
          have HM5 := hide (HM4.out.prog1 hNm hp5 hk5)
          have HX5 := hide (HX4.out.keep hk5 (by omega))
          have HRW5 := hide (owns_keep (owns_keep HRW.out (KeepBut.of_below (fun _ => False) HB4.out) (fun _ _ h => h)) hk5 (fun g e => by have := (HRW.out.lt g e).1; omega))
          have HK5 := hide (wr_key HX5.out)
          have HI5 := hide (wr_it HX5.out)
          clear hp5 hk5 HX4 HK4 HI4 HM4 HM HRW HRG HZ HZB
          go_wp2_with (first | ((with_reducible show wpList _ _ _ (⟨_, .load 31 _, _, _, _, _⟩ :: _) _ _); refine wpList_load_mid rfl 31 _ rfl wr.heap.size 0 rfl (eightE x.key) _ HK5.out Try.underlying31 rfl infoKey13 ?_) | ((with_reducible show wpList _ _ _ (⟨_, .load 36 _, _, _, _, _⟩ :: _) _ _); refine wpList_load_mid rfl 36 _ rfl wr.heap.size 8 rfl (itE x.it) _ HI5.out Try.underlying36 rfl infoIt13 ?_))
          refine (rins_any s2 v1 t x.key x.it w5 HM5.out.c HXK.out HXI.out HXV.out).mono ?_
          rintro e w6 ⟨rfl, vb6, h6, hk6, hu6⟩
          obtain ⟨v6, hM6⟩ := HM5.out.ref1 hNm ⟨vb6, h6, hk6, hu6⟩
          have hbx6 : w5.heap.size ≤ w6.heap.size := hk6.size
          have HX6 := hide (HX5.out.keep hk6 (by omega))
          have HRW6 := hide (owns_keep HRW5.out hk6 (fun g e => by have := (HRW5.out.lt g e).1; omega))
          have hv6 : v6 = vb6 := by
            have c1 := hM6.c.box.cell 0 v6 rfl
            have c2 := h6.box.cell 0 vb6 rfl
            rw [c1] at c2
            exact Option.some.inj c2
          subst hv6
          have HRA6 : Hid (∀ g, u9.ownBlock = some g → v6.ownBlock ≠ some g) := hide (fun g e e2 => by
            rcases hu6 with h | h
            · exact HRA.out g e (by rw [← h]; exact e2)
            · have h1 := h g e2
              have h2 := (HRW5.out.lt g e).2
              omega)
          have HM6 := hide hM6
          have HI6 := hide (wr_it HX6.out)
          have HSM6 := hide (ins_small HM5.out.c.ok HSM.out HXK.out.l HXV.out)
          have HSB : Hid (w.heap.size ≤ s2) := hide (by have := hNm.e; omega)
          clear h6 hk6 hu6 hM6 HX5 HK5 HI5 HM5 HRW5
          generalize insA t x.key x.it = R at *
          generalize insD t x.key x.it = t' at *
          go_wp2_with (first | ((with_reducible show wpList _ _ _ (⟨_, .load 36 _, _, _, _, _⟩ :: _) _ _); refine wpList_load_mid rfl 36 _ rfl wr.heap.size 8 rfl (itE x.it) _ HI6.out Try.underlying36 rfl infoIt13 ?_) | ((with_reducible show wpList _ _ _ (⟨_, .call _, _, _, _, _⟩ :: _) _ _); refine wp_recs recIT _ rfl _ _ rfl (s2 + 2) u9 (.slice (some ⟨w6.heap.size, 0, none⟩) 1 1) ((ts.take k).map (·.it)) [x.it] rfl (owns_keep HRW6.out (KeepBut.of_below (fun _ => False) (alloc_below13 w6 (.cells (itA x.it) 36))) (fun _ _ h => h)) rfl (src_new (enc := itE) w6 x.it (itA x.it) rfl 36) (fun y _ => it_one13 y) (by rw [List.length_map, List.length_take]; simp; omega) (Nat.le_trans HM6.out.size (by simp)) ?_; intro v7 w7 ho7 hg7 hob7; have HO7 := hide ho7; have HM7 := hide ((HM6.out.below hNm (alloc_below13 w6 (.cells (itA x.it) 36))).keep hNm (grown_keep hg7 (S := fun k => u9.ownBlock = some k) (fun g e => e)) (fun g e => ⟨(HRW6.out.lt g e).1, HRA6.out g e, (fun e2 => by cases e2)⟩)); have HRA7 : Hid (∀ g, v7.ownBlock = some g → v6.ownBlock ≠ some g) := hide (fun g e e2 => by rcases hob7 with h | h; exact HRA6.out g (by rw [← h]; exact e) e2; (rw [h] at e; have h1 := (HM6.out.c.far g e2).1; simp at e; omega)); clear ho7 hg7 hob7))
          go_roundg g
          case measure => omega
          case rel => exact ⟨k + 1, t', v6, by omega, by first | rfl | go_num, HM7, hide (by rw [HTK.out, List.map_append]; exact HO7.out), HRA7, HSM6⟩
        | zero =>
          obtain rfl : k = LN := by omega
          have hz : ¬ ((k : Int) < (k : Int)) := by omega
          have HE : Hid (ts.take k = ts) := hide (by rw [HLN.out]; exact List.take_length)
          rw [HE.out] at HRW
          have HIS := hide (RSrc.of_own HRW.out)
          have Hu9 : Hid (∀ g, u9.ownBlock = some g → s2 + 2 ≤ g) := hide (fun g e => (HRW.out.lt g e).1)
          have HIO : Hid (∀ i ∈ ts.map (·.it), ItOk i) := hide (fun i hi => by obtain ⟨x, hx, rfl⟩ := List.mem_map.1 hi; exact (HOK2.out x hx).1.2)
          have HIL : Hid ((ts.map (·.it)).length ≤ 100000) := hide (by rw [List.length_map, ← HLN.out]; omega)
          clear HT HOK2 HLN HE HRA
          generalize ts.map (·.it) = is at *
          clear hln
          have CS := hide (short_any13 _ gs wr w HL2.out)
          have OKX := HOKb
          have HVX := HVb
          go_wp2_with fail
          refine CS.out.mono ?_
          rintro e w3b ⟨v3, rfl, hw3, hT⟩
          subst hw3
          obtain ⟨LN, hLN⟩ : ∃ LN, LN = (gs.take 150).length := ⟨_, rfl⟩
          have HLN := hide hLN
          have hln : LN ≤ 150 := by rw [hLN, List.length_take]; omega
          obtain ⟨ao2, cap2, e2, _, _⟩ := hT.shape
          rw [← hLN] at e2
          subst e2
          have HT := hide hT
          have HOK2 : Hid (∀ x ∈ gs.take 150, (KeyOk x.key ∧ ItOk x.it) ∧ x.it.val.length ≤ 9223372036854775807) := hide (fun x hx => ⟨OKX.out x (List.mem_of_mem_take hx), HVX.out x (List.mem_of_mem_take hx)⟩)
          clear hT hLN CS
          generalize gs.take 150 = us at *
          go_wp2_with fail
          have HISr := HIS
          clear HIS HRW HSM
          go_loopg [66] LN (fun g ix wr => ∃ (k : Nat) (o : List WrP) (v2 : Value), k + g = LN ∧ ix = .int .i64 (k : Int) ∧ Hid (M13 w s2 q1 b1 q2 b2 v1 v2 t o t o wr) ∧ Hid (RSrc itE wr u9 is) ∧ Hid (∀ x ∈ o, x.it.val.length ≤ 9223372036854775807))
          case atStart => exact ⟨0, [], .slice none 0 0, by omega, rfl, HM, HISr, hide (fun x hx => by cases hx)⟩
          case round =>
            clear HISr HM
            obtain ⟨k, o, v2, hk, rfl, HM, HIS, HSM⟩ := hrel
            cases gk with
            | succ g =>
              have hz : (k : Int) < (LN : Int) := by omega
              have hkt : k < us.length := by rw [← HLN.out]; omega
              obtain ⟨en9, b9, o9, e9, hb9, hcl⟩ := (HT.out.below HM.out.B).at recWR.len hkt
              obtain rfl := e9
              have HRG : Hid (wr.rangeAt b9 (o9 + k * 21) (wrE us[k])) := hide (fun j u hu => hcl j u hu)
              have HTK := hide (List.take_succ_eq_append_getElem hkt)
              obtain ⟨⟨hxk, hxi⟩, hxv⟩ := HOK2.out _ (List.getElem_mem hkt)
              generalize us[k] = x at *
              have HXK := hide hxk
              have HXI := hide hxi
              have HXV := hide hxv
              have HZ := hide (box_new wr (wrA zeroWr) 38)
              have HZB := hide (alloc_below13 wr (.cells (wrA zeroWr) 38))
              clear en9 hb9 hcl hxk hxi hxv hkt
              go_wp2_with (first | ((with_reducible show wpList _ _ _ (⟨_, .load 38 _, _, _, _, _⟩ :: _) _ _); refine wpList_load_mid rfl 38 _ rfl b9 (o9 + k * 21) rfl (wrE x) _ HRG.out Try.underlying38 rfl infoWrite ?_) | ((with_reducible show wpList _ _ _ (⟨none, .store _ _ _, _, _, _, _⟩ :: _) _ _); refine wp_store_box rfl rfl _ _ rfl wr.heap.size rfl (cs' := wrA x) rfl HZ.out rfl infoWrite (wrA_one13 x) ?_; intro w4 hb4 hk4; have HX4 := hide hb4; have HB4 := hide (HZB.out.trans (hk4.below HZB.out.size (fun j hj => by omega))); have HK4 := hide (wr_key HX4.out); have HI4 := hide (wr_it HX4.out); clear hb4 hk4) | ((with_reducible show wpList _ _ _ (⟨_, .load 31 _, _, _, _, _⟩ :: _) _ _); refine wpList_load_mid rfl 31 _ rfl wr.heap.size 0 rfl (eightE x.key) _ HK4.out Try.underlying31 rfl infoKey13 ?_) | ((with_reducible show wpList _ _ _ (⟨_, .load 36 _, _, _, _, _⟩ :: _) _ _); refine wpList_load_mid rfl 36 _ rfl wr.heap.size 8 rfl (itE x.it) _ HI4.out Try.underlying36 rfl infoIt13 ?_))
              have HM4 := hide (HM.out.below hNm HB4.out)
              have hbx := HM.out.size
              refine (ptIns_any q2 b2 o x.key x.it w4 HM4.out.b HXK.out HXI.out).mono ?_
              rintro e w5 ⟨rfl, hp5, hk5⟩
              have n1 := hNm.b
              have n2 := hNm.d
              have n3 := hNm.c
              have HM5 := hide (HM4.out.prog2 hNm hp5 hk5)
              have HX5 := hide (HX4.out.keep hk5 (by omega))
              have HIS5 := hide ((HIS.out.below HB4.out).keep hk5 (fun g e => by have := Hu9.out g e; omega))
              have HK5 := hide (wr_key HX5.out)
              have HI5 := hide (wr_it HX5.out)
              clear hp5 hk5 HX4 HK4 HI4 HM4 HM HIS HRG HZ HZB
              go_wp2_with (first | ((with_reducible show wpList _ _ _ (⟨_, .load 31 _, _, _, _, _⟩ :: _) _ _); refine wpList_load_mid rfl 31 _ rfl wr.heap.size 0 rfl (eightE x.key) _ HK5.out Try.underlying31 rfl infoKey13 ?_) | ((with_reducible show wpList _ _ _ (⟨_, .load 36 _, _, _, _, _⟩ :: _) _ _); refine wpList_load_mid rfl 36 _ rfl wr.heap.size 8 rfl (itE x.it) _ HI5.out Try.underlying36 rfl infoIt13 ?_))
              refine (rins_any (s2 + 1) v2 o x.key x.it w5 HM5.out.d HXK.out HXI.out HXV.out).mono ?_
              rintro e w6 ⟨rfl, vb6, h6, hk6, hu6⟩
              obtain ⟨v6, hM6⟩ := HM5.out.ref2 hNm ⟨vb6, h6, hk6, hu6⟩
              have HIS6 := hide (HIS5.out.keep hk6 (fun g e => by have := Hu9.out g e; omega))
              have HM6 := hide hM6
              have HSM6 := hide (ins_small HM5.out.d.ok HSM.out HXK.out.l HXV.out)
              clear h6 hk6 hu6 hM6 HX5 HK5 HI5 HM5 HIS5
              generalize insA o x.key x.it = R at *
              generalize insD o x.key x.it = o' at *
              go_wp2_with fail
              go_roundg g
              case measure => omega
              case rel => exact ⟨k + 1, o', v6, by omega, by first | rfl | go_num, HM6, HIS6, HSM6⟩
            | zero =>
              obtain rfl : k = LN := by omega
              have hz : ¬ ((k : Int) < (k : Int)) := by omega
              have HGO := hide (nw_ok is HIO.out)
              have CN := hide (fun W (h : RSrc itE W u9 is) => newest_any u9 is W h HIL.out)
              have CO := hide (fun W (h : RSrc itE W u9 is) => rnewest_any u9 is W h HIL.out)
              generalize (nwT is).getD zeroIt = G at *
              generalize (nwT is).isSome = B at *
              have HQI : Hid (∀ W, (binOp .neq 36 (.agg (itA G)) (.agg (itA G))).run Try.prog W = .ok (.bool false) W) := hide (fun W => by rw [neq_it14 HGO.out HGO.out W, decide_eq_true rfl]; rfl)
              clear HT HOK2 HLN hln HIO HIL HOK HOKb HV HVb HL HL2 OKX HVX
              go_wp2_with fail
              refine (CN.out wr HIS.out).mono ?_
              rintro e w5 ⟨rfl, hB5⟩
              have HM5 := hide (HM.out.below hNm hB5)
              have HIS5 := hide (HIS.out.below hB5)
              have HZ5 := hide (box_new w5 (itA zeroIt) 36)
              have HZB5 := hide (alloc_below13 w5 (.cells (itA zeroIt) 36))
              clear hB5 HM HIS
              go_wp2_with (first | ((with_reducible show wpList _ _ _ (⟨none, .store _ _ _, _, _, _, _⟩ :: _) _ _); refine wp_store_box rfl rfl _ _ rfl w5.heap.size rfl (cs' := itA G) rfl HZ5.out rfl infoIt13 (itA_one13 _) ?_; intro w6 hb4 hk4; have HG6 := hide hb4; have hB6 := HZB5.out.trans (hk4.below HZB5.out.size (fun j hj => by omega)); have HM6 := hide (HM5.out.below hNm hB6); have HIS6 := hide (HIS5.out.below hB6); clear hb4 hk4 hB6))
              refine (CO.out w6 HIS6.out).mono ?_
              rintro e w7 ⟨rfl, hB7⟩
              have HM7 := hide (HM6.out.below hNm hB7)
              have HG7 := hide (HG6.out.belowI hB7)
              have HZ7 := hide (box_new w7 (itA zeroIt) 36)
              have HZB7 := hide (alloc_below13 w7 (.cells (itA zeroIt) 36))
              have hl5 := HG7.out.lt
              have hn5 := HM5.out.size
              clear hB7 HM6 HIS6 HG6 HM5 HIS5 CN CO HZ5 HZB5
              go_wp2_with (first | ((with_reducible show wpList _ _ _ (⟨none, .store _ _ _, _, _, _, _⟩ :: _) _ _); refine wp_store_box rfl rfl _ _ rfl w7.heap.size rfl (cs' := itA G) rfl HZ7.out rfl infoIt13 (itA_one13 _) ?_; intro w8 hb4 hk4; have HH8 := hide hb4; have hB8 := HZB7.out.trans (hk4.below HZB7.out.size (fun j hj => by omega)); have HM8 := hide (HM7.out.below hNm hB8); have HG8 := hide ((HG7.out.belowI HZB7.out).keep hk4 (by omega)); clear hb4 hk4 hB8))
              obtain ⟨ga, hga⟩ : ∃ ga, ga = w5.heap.size := ⟨_, rfl⟩
              obtain ⟨gb, hgb⟩ : ∃ gb, gb = w7.heap.size := ⟨_, rfl⟩
              rw [← hga] at HG8 hl5 hn5 ⊢
              rw [← hgb] at HH8 hl5 ⊢
              have n1 := hNm.b
              have n2 := hNm.d
              have n3 := hNm.c
              have CM := hide (fun W (h : M13 w s2 q1 b1 q2 b2 v1 v2 t o t o W) => ptMerge_any q1 b1 q2 b2 t o W h.a h.b)
              have CRM : Hid (∀ W tM, M13 w s2 q1 b1 q2 b2 v1 v2 tM o t o W → Calls Try.prog 22 #[.pointer (some ⟨s2, 0, none⟩), .pointer (some ⟨s2 + 1, 0, none⟩)] W fun e w' => e = .returned (.int .i64 (merT t o).1) ∧ RTid W w' s2 v1 (merT t o).2) := hide (fun W tM h => rmer_any s2 (s2 + 1) v1 v2 t o W h.c h.d (fun k hu e => by
                rcases hu with hu | hu
                · omega
                · have := h.f2 k hu; omega) HSM.out)
              generalize (merT t o).1 = R at *
              generalize (merT t o).2 = tM at *
              replace CRM := hide (fun W (h : M13 w s2 q1 b1 q2 b2 v1 v2 tM o t o W) => CRM.out W tM h)
              clear hga hgb HSM
              refine wp_region_let (by kernel_rfl) (fun f => [(92, f 0), (93, f 1), (94, f 2), (95, f 3), (96, f 4), (97, f 5), (98, f 6), (99, f 7), (100, f 8), (101, f 9), (102, f 10), (103, f 11), (104, f 12), (105, f 13), (106, f 14), (107, f 15), (108, f 16), (109, f 17), (110, f 18), (111, f 19), (112, f 20), (113, f 21), (114, f 22), (115, f 23), (116, f 24), (117, f 25), (118, f 26), (119, f 27), (120, f 28), (121, f 29), (122, f 30)]) (fun f => rfl) (IM21 s2 q1 q2 G B R tM o) (fun l W => (Box W ga (itA G) 36 ∧ Box W gb (itA G) 36) ∧ Ph 11 12 (fun W => M13 w s2 q1 b1 q2 b2 v1 v2 t o t o W) (fun W => M13 w s2 q1 b1 q2 b2 v1 v2 tM o t o W) (fun W => ∃ v1', M13 w s2 q1 b1 q2 b2 v1' v2 tM o tM o W) l W) RM21 (by kernel_rfl) ?_ ?_ ?_ ?_
              · intro i j v W W' hij hng hI hR
                by_cases hj : j = 17 ∨ j = 19 ∨ j = 25 ∨ j = 27
                · rcases hR with hi | hB
                  · exfalso
                    rcases hj with rfl | rfl | rfl | rfl <;> rcases hi with rfl | rfl <;> exact absurd hng (by decide +kernel)
                  · rcases hj with rfl | rfl | rfl | rfl
                    · exact RSrc.below hI hB
                    · exact RSrc.below hI hB
                    · exact RSrc.below hI hB
                    · exact RSrc.below hI hB
                · match j, hI with
                  | 0, hI => exact hI
                  | 1, hI => exact hI
                  | 2, hI => exact hI
                  | 3, hI => exact hI
                  | 4, hI => exact hI
                  | 5, hI => exact hI
                  | 6, hI => exact hI
                  | 7, hI => exact hI
                  | 8, hI => exact hI
                  | 9, hI => exact hI
                  | 10, hI => exact hI
                  | 11, hI => exact hI
                  | 12, hI => exact hI
                  | 13, hI => exact hI
                  | 14, hI => exact hI
                  | 15, hI => exact hI
                  | 16, hI => exact hI
                  | 17, hI => exact absurd (by simp) hj
                  | 18, hI => exact hI
                  | 19, hI => exact absurd (by simp) hj
                  | 20, hI => exact hI
                  | 21, hI => exact hI
                  | 22, hI => exact hI
                  | 23, hI => exact hI
                  | 24, hI => exact hI
                  | 25, hI => exact absurd (by simp) hj
                  | 26, hI => exact hI
                  | 27, hI => exact absurd (by simp) hj
                  | 28, hI => exact hI
                  | 29, hI => exact hI
                  | 30, hI => exact hI
                  | j + 31, hI => trivial
              · exact ⟨⟨HG8.out.belowI (below_drew13 w8), HH8.out.belowI (below_drew13 w8)⟩, fun _ => HM8.out.below hNm (below_drew13 w8), fun h => (by cases h), fun h => (by cases h)⟩
              · intro i o hi listed A w1 hsz hN hS hold hdeps
                obtain ⟨hX, hP⟩ := hS
                have hlt : i < 31 := (Array.getElem?_eq_some_iff.1 hi).1
                have hc : i = 0 ∨ i = 1 ∨ i = 2 ∨ i = 3 ∨ i = 4 ∨ i = 5 ∨ i = 6 ∨ i = 7 ∨ i = 8 ∨ i = 9 ∨ i = 10 ∨ i = 11 ∨ i = 12 ∨ i = 13 ∨ i = 14 ∨ i = 15 ∨ i = 16 ∨ i = 17 ∨ i = 18 ∨ i = 19 ∨ i = 20 ∨ i = 21 ∨ i = 22 ∨ i = 23 ∨ i = 24 ∨ i = 25 ∨ i = 26 ∨ i = 27 ∨ i = 28 ∨ i = 29 ∨ i = 30 := by omega
                clear hlt
                rcases hc with rfl | rfl | rfl | rfl | rfl | rfl | rfl | rfl | rfl | rfl | rfl | rfl | rfl | rfl | rfl | rfl | rfl | rfl | rfl | rfl | rfl | rfl | rfl | rfl | rfl | rfl | rfl | rfl | rfl | rfl | rfl
                · obtain rfl := Option.some.inj hi
                  have s14 : A.tmps.getD 14 undef = .pointer (some ⟨ga, 0, none⟩) := hold 14 (by kernel_rfl)
                  exact t_value hi rfl rfl (y_load _ _ s14 hX.1 Try.underlying36 rfl infoIt13) ⟨hX, hP.skip (by decide) (by decide)⟩ (.inr (Below.refl _ _)) rfl
                · obtain rfl := Option.some.inj hi
                  have s16 : A.tmps.getD 16 undef = .pointer (some ⟨gb, 0, none⟩) := hold 16 (by kernel_rfl)
                  exact t_value hi rfl rfl (y_load _ _ s16 hX.2 Try.underlying36 rfl infoIt13) ⟨hX, hP.skip (by decide) (by decide)⟩ (.inr (Below.refl _ _)) rfl
                · obtain rfl := Option.some.inj hi
                  have s92 : A.tmps.getD 92 undef = .agg (itA G) := slot_I hdeps 0 rfl (by kernel_rfl)
                  have s93 : A.tmps.getD 93 undef = .agg (itA G) := slot_I hdeps 1 rfl (by kernel_rfl)
                  exact t_value hi rfl rfl (y_bin _ _ _ _ _ s92 s93 (HQI.out w1) (by kernel_rfl)) ⟨hX, hP.skip (by decide) (by decide)⟩ (.inr (Below.refl _ _)) rfl
                · obtain rfl := Option.some.inj hi
                  have s94 : A.tmps.getD 94 undef = .bool false := slot_I hdeps 2 rfl (by kernel_rfl)
                  exact t_value hi rfl rfl (y_move _ s94) ⟨hX, hP.skip (by decide) (by decide)⟩ (.inr (Below.refl _ _)) rfl
                · obtain rfl := Option.some.inj hi
                  have g4 : A.tmps.getD 95 undef = .bool false := slot_I hdeps 3 rfl (by kernel_rfl)
                  have s15 : A.tmps.getD 15 undef = .bool B := hold 15 (by kernel_rfl)
                  exact t_value hi (wanted_not rfl rfl g4) rfl (y_move _ s15) ⟨hX, hP.skip (by decide) (by decide)⟩ (.inr (Below.refl _ _)) rfl
                · obtain rfl := Option.some.inj hi
                  have g5 : A.tmps.getD 95 undef = .bool false := slot_I hdeps 3 rfl (by kernel_rfl)
                  have s17 : A.tmps.getD 17 undef = .bool B := hold 17 (by kernel_rfl)
                  exact t_value hi (wanted_not rfl rfl g5) rfl (y_move _ s17) ⟨hX, hP.skip (by decide) (by decide)⟩ (.inr (Below.refl _ _)) rfl
                · obtain rfl := Option.some.inj hi
                  have g6 : A.tmps.getD 95 undef = .bool false := slot_I hdeps 3 rfl (by kernel_rfl)
                  have s96 : A.tmps.getD 96 undef = .bool B := slot_I hdeps 4 rfl (by kernel_rfl)
                  have s97 : A.tmps.getD 97 undef = .bool B := slot_I hdeps 5 rfl (by kernel_rfl)
                  exact t_value hi (wanted_not rfl rfl g6) rfl (y_bin _ _ _ _ _ s96 s97 (neq_bool13 B w1) (by kernel_rfl)) ⟨hX, hP.skip (by decide) (by decide)⟩ (.inr (Below.refl _ _)) rfl
                · obtain rfl := Option.some.inj hi
                  have s95 : A.tmps.getD 95 undef = .bool false := slot_I hdeps 3 rfl (by kernel_rfl)
                  have s98 : A.tmps.getD 98 undef = .bool false := slot_I hdeps 6 rfl (by kernel_rfl)
                  exact t_value hi rfl rfl (y_pickF _ _ _ s95 s98) ⟨hX, hP.skip (by decide) (by decide)⟩ (.inr (Below.refl _ _)) rfl
                · obtain rfl := Option.some.inj hi
                  have s99 : A.tmps.getD 99 undef = .bool false := slot_I hdeps 7 rfl (by kernel_rfl)
                  exact t_value hi rfl rfl (y_move _ s99) ⟨hX, hP.skip (by decide) (by decide)⟩ (.inr (Below.refl _ _)) rfl
                · obtain rfl := Option.some.inj hi
                  have g9 : A.tmps.getD 100 undef = .bool false := slot_I hdeps 8 rfl (by kernel_rfl)
                  have s5 : A.tmps.getD 5 undef = .pointer (some ⟨q1, 0, none⟩) := hold 5 (by kernel_rfl)
                  exact t_value hi (wanted_not rfl rfl g9) rfl (y_move _ s5) ⟨hX, hP.skip (by decide) (by decide)⟩ (.inr (Below.refl _ _)) rfl
                · obtain rfl := Option.some.inj hi
                  have g10 : A.tmps.getD 100 undef = .bool false := slot_I hdeps 8 rfl (by kernel_rfl)
                  have s6 : A.tmps.getD 6 undef = .pointer (some ⟨q2, 0, none⟩) := hold 6 (by kernel_rfl)
                  exact t_value hi (wanted_not rfl rfl g10) rfl (y_move _ s6) ⟨hX, hP.skip (by decide) (by decide)⟩ (.inr (Below.refl _ _)) rfl
                · obtain rfl := Option.some.inj hi
                  have g11 : A.tmps.getD 100 undef = .bool false := slot_I hdeps 8 rfl (by kernel_rfl)
                  have s101 : A.tmps.getD 101 undef = .pointer (some ⟨q1, 0, none⟩) := slot_I hdeps 9 rfl (by kernel_rfl)
                  have s102 : A.tmps.getD 102 undef = .pointer (some ⟨q2, 0, none⟩) := slot_I hdeps 10 rfl (by kernel_rfl)
                  have h12 : listed.getD 12 true = false := unlisted_of hN.un hN.cl 31 12 (by kernel_rfl)
                  have hU := hP.1 hN.un
                  exact t_enter hi (wanted_not rfl rfl g11) rfl (y_call 21 _ #[.pointer (some ⟨q1, 0, none⟩), .pointer (some ⟨q2, 0, none⟩)] _ rfl (by simp only [List.map_toArray, List.map_cons, List.map_nil, show A.eval (.tmp 101) = .pointer (some ⟨q1, 0, none⟩) from s101, show A.eval (.tmp 102) = .pointer (some ⟨q2, 0, none⟩) from s102]; try rfl) en13_mer) (Calls.mono (CM.out w1 hU) fun e w' ⟨he, hp, hk⟩ => ⟨_, he, ⟨⟨hX.1.keep hk (by omega), hX.2.keep hk (by omega)⟩, Ph.first (by decide) h12 (hU.prog1 hNm hp hk)⟩, .inl (.inl rfl), rfl⟩)
                · obtain rfl := Option.some.inj hi
                  have g12 : A.tmps.getD 100 undef = .bool false := slot_I hdeps 8 rfl (by kernel_rfl)
                  have s7 : A.tmps.getD 7 undef = .pointer (some ⟨s2, 0, none⟩) := hold 7 (by kernel_rfl)
                  have s8 : A.tmps.getD 8 undef = .pointer (some ⟨s2 + 1, 0, none⟩) := hold 8 (by kernel_rfl)
                  have h11 : listed.getD 11 true = true := listed_dep hN 11 (by kernel_rfl)
                  have hU := hP.2.1 h11 hN.un
                  exact t_enter hi (wanted_not rfl rfl g12) rfl (y_call 22 _ #[.pointer (some ⟨s2, 0, none⟩), .pointer (some ⟨s2 + 1, 0, none⟩)] _ rfl (by simp only [List.map_toArray, List.map_cons, List.map_nil, show A.eval (.tmp 7) = .pointer (some ⟨s2, 0, none⟩) from s7, show A.eval (.tmp 8) = .pointer (some ⟨s2 + 1, 0, none⟩) from s8]; try rfl) en13_rmer) (Calls.mono (CRM.out w1 hU) fun e w' ⟨he, v', hr, hk, hu⟩ => ⟨_, he, ⟨⟨hX.1.keep hk (by omega), hX.2.keep hk (by omega)⟩, Ph.second (by decide) h11 (hU.ref1 hNm ⟨v', hr, hk, hu⟩)⟩, .inl (.inr rfl), rfl⟩)
                · obtain rfl := Option.some.inj hi
                  have g13 : A.tmps.getD 100 undef = .bool false := slot_I hdeps 8 rfl (by kernel_rfl)
                  have s103 : A.tmps.getD 103 undef = .int .i64 R := slot_I hdeps 11 rfl (by kernel_rfl)
                  have s104 : A.tmps.getD 104 undef = .int .i64 R := slot_I hdeps 12 rfl (by kernel_rfl)
                  exact t_value hi (wanted_not rfl rfl g13) rfl (y_bin _ _ _ _ _ s103 s104 (neq_int13 R w1) (by kernel_rfl)) ⟨hX, hP.skip (by decide) (by decide)⟩ (.inr (Below.refl _ _)) rfl
                · obtain rfl := Option.some.inj hi
                  have s100 : A.tmps.getD 100 undef = .bool false := slot_I hdeps 8 rfl (by kernel_rfl)
                  have s105 : A.tmps.getD 105 undef = .bool false := slot_I hdeps 13 rfl (by kernel_rfl)
                  exact t_value hi rfl rfl (y_pickF _ _ _ s100 s105) ⟨hX, hP.skip (by decide) (by decide)⟩ (.inr (Below.refl _ _)) rfl
                · obtain rfl := Option.some.inj hi
                  have s106 : A.tmps.getD 106 undef = .bool false := slot_I hdeps 14 rfl (by kernel_rfl)
                  exact t_value hi rfl rfl (y_move _ s106) ⟨hX, hP.skip (by decide) (by decide)⟩ (.inr (Below.refl _ _)) rfl
                · obtain rfl := Option.some.inj hi
                  have g16 : A.tmps.getD 107 undef = .bool false := slot_I hdeps 15 rfl (by kernel_rfl)
                  have s5 : A.tmps.getD 5 undef = .pointer (some ⟨q1, 0, none⟩) := hold 5 (by kernel_rfl)
                  exact t_value hi (wanted_not rfl rfl g16) rfl (y_move _ s5) ⟨hX, hP.skip (by decide) (by decide)⟩ (.inr (Below.refl _ _)) rfl
                · obtain rfl := Option.some.inj hi
                  have g17 : A.tmps.getD 107 undef = .bool false := slot_I hdeps 15 rfl (by kernel_rfl)
                  have s108 : A.tmps.getD 108 undef = .pointer (some ⟨q1, 0, none⟩) := slot_I hdeps 16 rfl (by kernel_rfl)
                  obtain ⟨v9, hU⟩ := hP.2.2 (listed_hangs hN 15 12 31 (by kernel_rfl) (by kernel_rfl))
                  exact t_enter hi (wanted_not rfl rfl g17) rfl (y_call 15 _ #[.pointer (some ⟨q1, 0, none⟩)] _ rfl (by simp only [List.map_toArray, List.map_cons, List.map_nil, show A.eval (.tmp 108) = .pointer (some ⟨q1, 0, none⟩) from s108]; try rfl) en13_all) (Calls.mono (ptAll_any q1 b1 tM w1 hU.a) fun e w' ⟨va, he, hva, hB⟩ => ⟨va, he, ⟨⟨hX.1.belowI hB, hX.2.belowI hB⟩, (hP.map (fun h => h.below hNm hB) (fun h => h.below hNm hB) (fun ⟨v, h⟩ => ⟨v, h.below hNm hB⟩)).skip (by decide) (by decide)⟩, .inr hB, RSrc.of_own hva⟩)
                · obtain rfl := Option.some.inj hi
                  have g18 : A.tmps.getD 107 undef = .bool false := slot_I hdeps 15 rfl (by kernel_rfl)
                  have s7 : A.tmps.getD 7 undef = .pointer (some ⟨s2, 0, none⟩) := hold 7 (by kernel_rfl)
                  exact t_value hi (wanted_not rfl rfl g18) rfl (yt_field _ s7) ⟨hX, hP.skip (by decide) (by decide)⟩ (.inr (Below.refl _ _)) rfl
                · obtain rfl := Option.some.inj hi
                  have g19 : A.tmps.getD 107 undef = .bool false := slot_I hdeps 15 rfl (by kernel_rfl)
                  have s110 : A.tmps.getD 110 undef = .pointer (some ⟨s2, 0, none⟩) := slot_I hdeps 18 rfl (by kernel_rfl)
                  obtain ⟨v9, hU⟩ := hP.2.2 (listed_hangs hN 15 12 31 (by kernel_rfl) (by kernel_rfl))
                  exact t_value hi (wanted_not rfl rfl g19) rfl (yt_cell _ s110 (hU.c.box.cell 0 _ rfl)) ⟨hX, hP.skip (by decide) (by decide)⟩ (.inr (Below.refl _ _)) hU.c.src
                · obtain rfl := Option.some.inj hi
                  have g20 : A.tmps.getD 107 undef = .bool false := slot_I hdeps 15 rfl (by kernel_rfl)
                  have s109 : RSrc wrE w1 (A.tmps.getD 109 undef) tM := slot_I hdeps 17 rfl (by kernel_rfl)
                  have s111 : RSrc wrE w1 (A.tmps.getD 111 undef) tM := slot_I hdeps 19 rfl (by kernel_rfl)
                  obtain ⟨v9, hU⟩ := hP.2.2 (listed_hangs hN 15 12 31 (by kernel_rfl) (by kernel_rfl))
                  have hsw := rsameWrites_any _ _ tM tM w1 s109 s111 hU.c.oks hU.c.oks
                  rw [decide_eq_true rfl] at hsw
                  exact t_enter hi (wanted_not rfl rfl g20) rfl (y_call 14 _ #[A.tmps.getD 109 undef, A.tmps.getD 111 undef] _ rfl (by simp only [List.map_toArray, List.map_cons, List.map_nil]; try rfl) en13_sw) (Calls.mono hsw fun e w' ⟨he, hB⟩ => ⟨_, he, ⟨⟨hX.1.belowI hB, hX.2.belowI hB⟩, (hP.map (fun h => h.below hNm hB) (fun h => h.below hNm hB) (fun ⟨v, h⟩ => ⟨v, h.below hNm hB⟩)).skip (by decide) (by decide)⟩, .inr hB, rfl⟩)
                · obtain rfl := Option.some.inj hi
                  have g21 : A.tmps.getD 107 undef = .bool false := slot_I hdeps 15 rfl (by kernel_rfl)
                  have s112 : A.tmps.getD 112 undef = .bool true := slot_I hdeps 20 rfl (by kernel_rfl)
                  exact t_value hi (wanted_not rfl rfl g21) rfl (y_not (a := true) _ _ s112) ⟨hX, hP.skip (by decide) (by decide)⟩ (.inr (Below.refl _ _)) rfl
                · obtain rfl := Option.some.inj hi
                  have s107 : A.tmps.getD 107 undef = .bool false := slot_I hdeps 15 rfl (by kernel_rfl)
                  have s113 : A.tmps.getD 113 undef = .bool false := slot_I hdeps 21 rfl (by kernel_rfl)
                  exact t_value hi rfl rfl (y_pickF _ _ _ s107 s113) ⟨hX, hP.skip (by decide) (by decide)⟩ (.inr (Below.refl _ _)) rfl
                · obtain rfl := Option.some.inj hi
                  have s114 : A.tmps.getD 114 undef = .bool false := slot_I hdeps 22 rfl (by kernel_rfl)
                  exact t_value hi rfl rfl (y_move _ s114) ⟨hX, hP.skip (by decide) (by decide)⟩ (.inr (Below.refl _ _)) rfl
                · obtain rfl := Option.some.inj hi
                  have g24 : A.tmps.getD 115 undef = .bool false := slot_I hdeps 23 rfl (by kernel_rfl)
                  have s6 : A.tmps.getD 6 undef = .pointer (some ⟨q2, 0, none⟩) := hold 6 (by kernel_rfl)
                  exact t_value hi (wanted_not rfl rfl g24) rfl (y_move _ s6) ⟨hX, hP.skip (by decide) (by decide)⟩ (.inr (Below.refl _ _)) rfl
                · obtain rfl := Option.some.inj hi
                  have g25 : A.tmps.getD 115 undef = .bool false := slot_I hdeps 23 rfl (by kernel_rfl)
                  have s116 : A.tmps.getD 116 undef = .pointer (some ⟨q2, 0, none⟩) := slot_I hdeps 24 rfl (by kernel_rfl)
                  obtain ⟨v9, hU⟩ := hP.2.2 (listed_hangs hN 23 12 31 (by kernel_rfl) (by kernel_rfl))
                  exact t_enter hi (wanted_not rfl rfl g25) rfl (y_call 15 _ #[.pointer (some ⟨q2, 0, none⟩)] _ rfl (by simp only [List.map_toArray, List.map_cons, List.map_nil, show A.eval (.tmp 116) = .pointer (some ⟨q2, 0, none⟩) from s116]; try rfl) en13_all) (Calls.mono (ptAll_any q2 b2 o w1 hU.b) fun e w' ⟨va, he, hva, hB⟩ => ⟨va, he, ⟨⟨hX.1.belowI hB, hX.2.belowI hB⟩, (hP.map (fun h => h.below hNm hB) (fun h => h.below hNm hB) (fun ⟨v, h⟩ => ⟨v, h.below hNm hB⟩)).skip (by decide) (by decide)⟩, .inr hB, RSrc.of_own hva⟩)
                · obtain rfl := Option.some.inj hi
                  have g26 : A.tmps.getD 115 undef = .bool false := slot_I hdeps 23 rfl (by kernel_rfl)
                  have s8 : A.tmps.getD 8 undef = .pointer (some ⟨s2 + 1, 0, none⟩) := hold 8 (by kernel_rfl)
                  exact t_value hi (wanted_not rfl rfl g26) rfl (yt_field _ s8) ⟨hX, hP.skip (by decide) (by decide)⟩ (.inr (Below.refl _ _)) rfl
                · obtain rfl := Option.some.inj hi
                  have g27 : A.tmps.getD 115 undef = .bool false := slot_I hdeps 23 rfl (by kernel_rfl)
                  have s118 : A.tmps.getD 118 undef = .pointer (some ⟨s2 + 1, 0, none⟩) := slot_I hdeps 26 rfl (by kernel_rfl)
                  obtain ⟨v9, hU⟩ := hP.2.2 (listed_hangs hN 23 12 31 (by kernel_rfl) (by kernel_rfl))
                  exact t_value hi (wanted_not rfl rfl g27) rfl (yt_cell _ s118 (hU.d.box.cell 0 _ rfl)) ⟨hX, hP.skip (by decide) (by decide)⟩ (.inr (Below.refl _ _)) hU.d.src
                · obtain rfl := Option.some.inj hi
                  have g28 : A.tmps.getD 115 undef = .bool false := slot_I hdeps 23 rfl (by kernel_rfl)
                  have s117 : RSrc wrE w1 (A.tmps.getD 117 undef) o := slot_I hdeps 25 rfl (by kernel_rfl)
                  have s119 : RSrc wrE w1 (A.tmps.getD 119 undef) o := slot_I hdeps 27 rfl (by kernel_rfl)
                  obtain ⟨v9, hU⟩ := hP.2.2 (listed_hangs hN 23 12 31 (by kernel_rfl) (by kernel_rfl))
                  have hsw := rsameWrites_any _ _ o o w1 s117 s119 hU.d.oks hU.d.oks
                  rw [decide_eq_true rfl] at hsw
                  exact t_enter hi (wanted_not rfl rfl g28) rfl (y_call 14 _ #[A.tmps.getD 117 undef, A.tmps.getD 119 undef] _ rfl (by simp only [List.map_toArray, List.map_cons, List.map_nil]; try rfl) en13_sw) (Calls.mono hsw fun e w' ⟨he, hB⟩ => ⟨_, he, ⟨⟨hX.1.belowI hB, hX.2.belowI hB⟩, (hP.map (fun h => h.below hNm hB) (fun h => h.below hNm hB) (fun ⟨v, h⟩ => ⟨v, h.below hNm hB⟩)).skip (by decide) (by decide)⟩, .inr hB, rfl⟩)
                · obtain rfl := Option.some.inj hi
                  have g29 : A.tmps.getD 115 undef = .bool false := slot_I hdeps 23 rfl (by kernel_rfl)
                  have s120 : A.tmps.getD 120 undef = .bool true := slot_I hdeps 28 rfl (by kernel_rfl)
                  exact t_value hi (wanted_not rfl rfl g29) rfl (y_not (a := true) _ _ s120) ⟨hX, hP.skip (by decide) (by decide)⟩ (.inr (Below.refl _ _)) rfl
                · obtain rfl := Option.some.inj hi
                  have s115 : A.tmps.getD 115 undef = .bool false := slot_I hdeps 23 rfl (by kernel_rfl)
                  have s121 : A.tmps.getD 121 undef = .bool false := slot_I hdeps 29 rfl (by kernel_rfl)
                  exact t_value hi rfl rfl (y_pickF _ _ _ s115 s121) ⟨hX, hP.skip (by decide) (by decide)⟩ (.inr (Below.refl _ _)) rfl
              · intro listed w9 f hall hS hI
                have e0 : f 0 = .agg (itA G) := hI 0 (by decide)
                have e1 : f 1 = .agg (itA G) := hI 1 (by decide)
                have e2 : f 2 = .bool false := hI 2 (by decide)
                have e3 : f 3 = .bool false := hI 3 (by decide)
                have e4 : f 4 = .bool B := hI 4 (by decide)
                have e5 : f 5 = .bool B := hI 5 (by decide)
                have e6 : f 6 = .bool false := hI 6 (by decide)
                have e7 : f 7 = .bool false := hI 7 (by decide)
                have e8 : f 8 = .bool false := hI 8 (by decide)
                have e9 : f 9 = .pointer (some ⟨q1, 0, none⟩) := hI 9 (by decide)
                have e10 : f 10 = .pointer (some ⟨q2, 0, none⟩) := hI 10 (by decide)
                have e11 : f 11 = .int .i64 R := hI 11 (by decide)
                have e12 : f 12 = .int .i64 R := hI 12 (by decide)
                have e13 : f 13 = .bool false := hI 13 (by decide)
                have e14 : f 14 = .bool false := hI 14 (by decide)
                have e15 : f 15 = .bool false := hI 15 (by decide)
                have e16 : f 16 = .pointer (some ⟨q1, 0, none⟩) := hI 16 (by decide)
                have e18 : f 18 = .pointer (some ⟨s2, 0, none⟩) := hI 18 (by decide)
                have e20 : f 20 = .bool true := hI 20 (by decide)
                have e21 : f 21 = .bool false := hI 21 (by decide)
                have e22 : f 22 = .bool false := hI 22 (by decide)
                have e23 : f 23 = .bool false := hI 23 (by decide)
                have e24 : f 24 = .pointer (some ⟨q2, 0, none⟩) := hI 24 (by decide)
                have e26 : f 26 = .pointer (some ⟨s2 + 1, 0, none⟩) := hI 26 (by decide)
                have e28 : f 28 = .bool true := hI 28 (by decide)
                have e29 : f 29 = .bool false := hI 29 (by decide)
                have e30 : f 30 = .bool false := hI 30 (by decide)
                simp only [e0, e1, e2, e3, e4, e5, e6, e7, e8, e9, e10, e11, e12, e13, e14, e15, e16, e18, e20, e21, e22, e23, e24, e26, e28, e29, e30]
                obtain ⟨v9, hU9⟩ := hS.2.2.2 (hall 12 (by decide))
                have HM9 := hide hU9
                clear hI hall hS hU9 e0 e1 e2 e3 e4 e5 e6 e7 e8 e9 e10 e11 e12 e13 e14 e15 e16 e18 e20 e21 e22 e23 e24 e26 e28 e29 e30
                generalize f 17 = x17
                generalize f 19 = x19
                generalize f 25 = x25
                generalize f 27 = x27
                clear f
                simp only [putAll, Act.put, List.setIfInBounds_toArray, List.set_cons_succ, List.set_cons_zero]
                clear HM8 HG8 HH8 CM CRM HQI HM7 HG7 HZ7 HZB7
                go_wp2_with fail
                refine wp_region_let (by kernel_rfl) (fun f => [(123, f 0), (124, f 1), (125, f 2), (126, f 3), (127, f 4), (128, f 5), (129, f 6), (130, f 7), (131, f 8), (132, f 9), (133, f 10), (134, f 11), (135, f 12), (4, f 13)]) (fun f => rfl) (IM23 s2 q1 tM) (fun l W => M13 w s2 q1 b1 q2 b2 v9 v2 tM o tM o W ∧ Ph 99 98 (fun _ => True) (fun _ => True) (fun _ => True) l W) (fun _ W W' => Below W.heap.size W W') (by kernel_rfl) ?_ ?_ ?_ ?_
                · intro i j v W W' hij hng hI hR
                  match j, hI with
                  | 0, hI => exact hI
                  | 1, hI => exact hI
                  | 2, hI => exact hI
                  | 3, hI => exact hI
                  | 4, hI => exact hI
                  | 5, hI => exact RSrc.below hI hR
                  | 6, hI => exact hI
                  | 7, hI => exact RSrc.below hI hR
                  | 8, hI => exact hI
                  | 9, hI => exact hI
                  | 10, hI => exact hI
                  | 11, hI => exact hI
                  | 12, hI => exact hI
                  | 13, hI => exact hI
                  | j + 14, hI => trivial
                · exact ⟨HM9.out.below hNm (below_drew13 w9), fun _ => trivial, fun _ _ => trivial, fun _ => trivial⟩
                · intro i o hi listed A w1 hsz hN hS hold hdeps
                  obtain ⟨hX, hP⟩ := hS
                  have hlt : i < 14 := (Array.getElem?_eq_some_iff.1 hi).1
                  have hc : i = 0 ∨ i = 1 ∨ i = 2 ∨ i = 3 ∨ i = 4 ∨ i = 5 ∨ i = 6 ∨ i = 7 ∨ i = 8 ∨ i = 9 ∨ i = 10 ∨ i = 11 ∨ i = 12 ∨ i = 13 := by omega
                  clear hlt
                  rcases hc with rfl | rfl | rfl | rfl | rfl | rfl | rfl | rfl | rfl | rfl | rfl | rfl | rfl | rfl
                  · obtain rfl := Option.some.inj hi
                    have s5 : A.tmps.getD 5 undef = .pointer (some ⟨q1, 0, none⟩) := hold 5 (by kernel_rfl)
                    exact t_value hi rfl rfl (y_move _ s5) ⟨hX, hP.skip (by decide) (by decide)⟩ (Below.refl _ _) rfl
                  · obtain rfl := Option.some.inj hi
                    have s123 : A.tmps.getD 123 undef = .pointer (some ⟨q1, 0, none⟩) := slot_I hdeps 0 rfl (by kernel_rfl)
                    exact t_enter hi rfl rfl (y_call 21 _ #[.pointer (some ⟨q1, 0, none⟩), .pointer none] _ rfl (by simp only [List.map_toArray, List.map_cons, List.map_nil, show A.eval (.tmp 123) = .pointer (some ⟨q1, 0, none⟩) from s123]; try rfl) en13_mer) (Calls.mono (ptMergeNil_any q1 b1 tM w1 hX.a) fun e w' ⟨he, hw⟩ => ⟨_, he, ⟨by rw [hw]; exact hX, hP.skip (by decide) (by decide)⟩, by rw [hw]; exact Below.refl _ _, rfl⟩)
                  · obtain rfl := Option.some.inj hi
                    have s124 : A.tmps.getD 124 undef = .int .i64 0 := slot_I hdeps 1 rfl (by kernel_rfl)
                    exact t_value hi rfl rfl (y_bin _ _ _ _ _ s124 rfl (eql_err13 w1) (by kernel_rfl)) ⟨hX, hP.skip (by decide) (by decide)⟩ (Below.refl _ _) rfl
                  · obtain rfl := Option.some.inj hi
                    have s125 : A.tmps.getD 125 undef = .bool true := slot_I hdeps 2 rfl (by kernel_rfl)
                    exact t_value hi rfl rfl (y_move _ s125) ⟨hX, hP.skip (by decide) (by decide)⟩ (Below.refl _ _) rfl
                  · obtain rfl := Option.some.inj hi
                    have g4 : A.tmps.getD 126 undef = .bool true := slot_I hdeps 3 rfl (by kernel_rfl)
                    have s5 : A.tmps.getD 5 undef = .pointer (some ⟨q1, 0, none⟩) := hold 5 (by kernel_rfl)
                    exact t_value hi (wanted_of rfl rfl g4) rfl (y_move _ s5) ⟨hX, hP.skip (by decide) (by decide)⟩ (Below.refl _ _) rfl
                  · obtain rfl := Option.some.inj hi
                    have g5 : A.tmps.getD 126 undef = .bool true := slot_I hdeps 3 rfl (by kernel_rfl)
                    have s127 : A.tmps.getD 127 undef = .pointer (some ⟨q1, 0, none⟩) := slot_I hdeps 4 rfl (by kernel_rfl)
                    exact t_enter hi (wanted_of rfl rfl g5) rfl (y_call 15 _ #[.pointer (some ⟨q1, 0, none⟩)] _ rfl (by simp only [List.map_toArray, List.map_cons, List.map_nil, show A.eval (.tmp 127) = .pointer (some ⟨q1, 0, none⟩) from s127]; try rfl) en13_all) (Calls.mono (ptAll_any q1 b1 tM w1 hX.a) fun e w' ⟨va, he, hva, hB⟩ => ⟨va, he, ⟨hX.below hNm hB, hP.skip (by decide) (by decide)⟩, hB, RSrc.of_own hva⟩)
                  · obtain rfl := Option.some.inj hi
                    have g6 : A.tmps.getD 126 undef = .bool true := slot_I hdeps 3 rfl (by kernel_rfl)
                    have s7 : A.tmps.getD 7 undef = .pointer (some ⟨s2, 0, none⟩) := hold 7 (by kernel_rfl)
                    exact t_value hi (wanted_of rfl rfl g6) rfl (yt_field _ s7) ⟨hX, hP.skip (by decide) (by decide)⟩ (Below.refl _ _) rfl
                  · obtain rfl := Option.some.inj hi
                    have g7 : A.tmps.getD 126 undef = .bool true := slot_I hdeps 3 rfl (by kernel_rfl)
                    have s129 : A.tmps.getD 129 undef = .pointer (some ⟨s2, 0, none⟩) := slot_I hdeps 6 rfl (by kernel_rfl)
                    exact t_value hi (wanted_of rfl rfl g7) rfl (yt_cell _ s129 (hX.c.box.cell 0 _ rfl)) ⟨hX, hP.skip (by decide) (by decide)⟩ (Below.refl _ _) hX.c.src
                  · obtain rfl := Option.some.inj hi
                    have g8 : A.tmps.getD 126 undef = .bool true := slot_I hdeps 3 rfl (by kernel_rfl)
                    have s128 : RSrc wrE w1 (A.tmps.getD 128 undef) tM := slot_I hdeps 5 rfl (by kernel_rfl)
                    have s130 : RSrc wrE w1 (A.tmps.getD 130 undef) tM := slot_I hdeps 7 rfl (by kernel_rfl)
                    have hsw := rsameWrites_any _ _ tM tM w1 s128 s130 hX.c.oks hX.c.oks
                    rw [decide_eq_true rfl] at hsw
                    exact t_enter hi (wanted_of rfl rfl g8) rfl (y_call 14 _ #[A.tmps.getD 128 undef, A.tmps.getD 130 undef] _ rfl (by simp only [List.map_toArray, List.map_cons, List.map_nil]; try rfl) en13_sw) (Calls.mono hsw fun e w' ⟨he, hB⟩ => ⟨_, he, ⟨hX.below hNm hB, hP.skip (by decide) (by decide)⟩, hB, rfl⟩)
                  · obtain rfl := Option.some.inj hi
                    have s126 : A.tmps.getD 126 undef = .bool true := slot_I hdeps 3 rfl (by kernel_rfl)
                    have s131 : A.tmps.getD 131 undef = .bool true := slot_I hdeps 8 rfl (by kernel_rfl)
                    exact t_value hi rfl rfl (y_pickT _ _ _ s126 s131) ⟨hX, hP.skip (by decide) (by decide)⟩ (Below.refl _ _) rfl
                  · obtain rfl := Option.some.inj hi
                    have s132 : A.tmps.getD 132 undef = .bool true := slot_I hdeps 9 rfl (by kernel_rfl)
                    exact t_value hi rfl rfl (y_move _ s132) ⟨hX, hP.skip (by decide) (by decide)⟩ (Below.refl _ _) rfl
                  · obtain rfl := Option.some.inj hi
                    have g11 : A.tmps.getD 133 undef = .bool true := slot_I hdeps 10 rfl (by kernel_rfl)
                    exact t_enter hi (wanted_of rfl rfl g11) rfl (y_call 10 _ #[] _ rfl (by simp) en13_alive) (Calls.mono (HA.out w1) fun e w' ⟨he, hB⟩ => ⟨_, he, ⟨hX.below hNm hB, hP.skip (by decide) (by decide)⟩, hB, rfl⟩)
                  · obtain rfl := Option.some.inj hi
                    have s133 : A.tmps.getD 133 undef = .bool true := slot_I hdeps 10 rfl (by kernel_rfl)
                    have s134 : A.tmps.getD 134 undef = .bool true := slot_I hdeps 11 rfl (by kernel_rfl)
                    exact t_value hi rfl rfl (y_pickT _ _ _ s133 s134) ⟨hX, hP.skip (by decide) (by decide)⟩ (Below.refl _ _) rfl
                  · obtain rfl := Option.some.inj hi
                    have s135 : A.tmps.getD 135 undef = .bool true := slot_I hdeps 12 rfl (by kernel_rfl)
                    exact t_value hi rfl rfl (y_assign _ s135) ⟨hX, hP.skip (by decide) (by decide)⟩ (Below.refl _ _) rfl
                · intro listed wA f hall hS hI
                  have e0 : f 0 = .pointer (some ⟨q1, 0, none⟩) := hI 0 (by decide)
                  have e1 : f 1 = .int .i64 0 := hI 1 (by decide)
                  have e2 : f 2 = .bool true := hI 2 (by decide)
                  have e3 : f 3 = .bool true := hI 3 (by decide)
                  have e4 : f 4 = .pointer (some ⟨q1, 0, none⟩) := hI 4 (by decide)
                  have e6 : f 6 = .pointer (some ⟨s2, 0, none⟩) := hI 6 (by decide)
                  have e8 : f 8 = .bool true := hI 8 (by decide)
                  have e9 : f 9 = .bool true := hI 9 (by decide)
                  have e10 : f 10 = .bool true := hI 10 (by decide)
                  have e11 : f 11 = .bool true := hI 11 (by decide)
                  have e12 : f 12 = .bool true := hI 12 (by decide)
                  have e13 : f 13 = .bool true := hI 13 (by decide)
                  simp only [e0, e1, e2, e3, e4, e6, e8, e9, e10, e11, e12, e13]
                  have HMA := hide hS.1
                  clear hI hall hS e0 e1 e2 e3 e4 e6 e8 e9 e10 e11 e12 e13
                  generalize f 5 = x5
                  generalize f 7 = x7
                  clear f
                  simp only [putAll, Act.put, List.setIfInBounds_toArray, List.set_cons_succ, List.set_cons_zero]
                  go_wp2_with fail
                  go_ret
                  exact ⟨rfl, HMA.out.B⟩
end
section
open Go.RowKit Go.ChangeShapes Go.WideShapes Go.ChangeAt

namespace DMerges
set_option maxRecDepth 100000 in
theorem lifted (os : Os) (started : os.Started) (H : Type) (enc : TypeId × Value → H) :
    ReturnsInHanded {} Try.checked os 4 .any (Rows.itemMergesSpec.pre6 enc Try.prog Try.f4 Rows.itemMergesRow.domain false) (Rows.itemMergesSpec.post enc Try.prog Try.f4 false true false false) := by
  refine returnsInHanded_of_change_sized (C := Try.checked) own started (by kernel_rfl) Try.func4
    (ChangeSpec.witness6 (enc := enc) (C := Try.checked) false ⟨#[], #[.slice none 0 0, .slice none 0 0], []⟩ 8 (by kernel_rfl) (by kernel_rfl) (by kernel_rfl) (by kernel_rfl)) ?_
  intro W base args ds gs before hval0 hW hcnd hsz _
  have hval : ∀ (j : Nat) t v, Try.f4.params[j]? = some t → args[j]? = some v → Value.okWide Try.prog W .any base t v := hval0
  have hW' := hW
  obtain ⟨p, q, hA0, hV, rfl, hfz, hnd⟩ := hW
  have hA : DataW.TrodAll enc Try.prog W 0 (fun _ => true) true Try.f4.params.toList args.toList ds p := hA0
  have hsz2 : ∀ (j : Nat) (t : TypeId) (d : DataW H), Try.f4.params.toList[j]? = some t → ds[j]? = some d → ∀ n ∈ d.weights Try.prog t, n ≤ 140737488351232 := fun j t d ht hd n hn => by
    have h1 := List.all_eq_true.1 hsz n (DataW.weights_mem_each (j := j) (t := t) (d := d) (by rw [List.getElem?_append_left (List.getElem?_eq_some_iff.1 ht).1]; exact ht) (by rw [List.getElem?_append_left (List.getElem?_eq_some_iff.1 hd).1]; exact hd) n hn)
    have h2 : n ≤ reachBytes := by simpa using h1
    have h3 : reachBytes = 140737488351232 := rfl
    omega
  rw [Try.params4] at hA hval hsz2
  obtain ⟨v0, vs0, d0, ds0, p0, q0, hargs, rfl, rfl, h0, r0⟩ := trodAll_cons hA
  obtain ⟨v1, vs1, d1, ds1, p1, q1, rfl, rfl, rfl, h1, r1⟩ := trodAll_cons r0
  obtain ⟨rfl, rfl, rfl⟩ := trodAll_nil r1
  obtain rfl : args = #[v0, v1] := by cases args; simp_all
  obtain ⟨rfl, rfl⟩ := trodVars_none hV
  obtain ⟨a0, len0, cap0, rfl⟩ := okWide_slice Try.underlying22 (hval 0 22 v0 rfl rfl)
  have k0 := h0
  have lt0 : ∀ x ∈ p0, x.block < W.heap.size := by obtain ⟨m, hm⟩ := k0; exact DataW.trod_lt m _ _ _ hm
  obtain ⟨xs0, lies0, by0⟩ := awrites_of_trod h0
  obtain ⟨a1, len1, cap1, rfl⟩ := okWide_slice Try.underlying22 (hval 1 22 v1 rfl rfl)
  have k1 := h1
  have lt1 : ∀ x ∈ p1, x.block < W.heap.size := by obtain ⟨m, hm⟩ := k1; exact DataW.trod_lt m _ _ _ hm
  obtain ⟨xs1, lies1, by1⟩ := awrites_of_trod h1
  clear hA0 hval0
  refine (walkM13 _ _ xs0 xs1 W lies0 lies1 (fun x hx => ⟨(by0 x hx).1, (by0 x hx).2.1⟩) (fun x hx => ⟨(by1 x hx).1, (by1 x hx).2.1⟩) (fun x hx => (by0 x hx).2.2) (fun x hx => (by1 x hx).2.2)).mono fun e W' ⟨he, bel⟩ => ?_
  subst he
  exact ⟨_, rfl, _, _, _, [], _, [], hW', trodAll_mk1 (shut_bool Try.underlying4 _), (trodAll_cons_mk (Below.trod laidOut (by kernel_rfl) (of_decide_eq_true (by kernel_rfl)) k0 bel lt0) (trodAll_cons_mk (Below.trod laidOut (by kernel_rfl) (of_decide_eq_true (by kernel_rfl)) k1 bel lt1) trodAll_mk0)), rfl, bel.frame _, fun h => by cases h⟩

theorem over : Rows.itemMergesRow.holds Try.pinned (OpenSpec.ofChange Rows.itemMergesSpec) :=
  OpenClaim.holds_of_wide 4 Try.f4 rfl rfl rfl rfl rfl rfl rfl ⟨rfl, rfl, rfl, rfl, rfl⟩ rfl rfl rfl rfl rfl (by kernel_rfl) Try.func4 (by kernel_rfl)
    (of_decide_eq_true (by kernel_rfl)) (by unfold Func.isWrapper; first | (rw [if_pos (by decide +kernel)]; kernel_rfl) | (rw [if_neg (by decide +kernel)]; exact ⟨rfl, rfl⟩))
    (fun os started H enc _ => lifted os started H enc)
end DMerges

/-- THE STATEMENT. -/
theorem itemMerges_holds : Rows.ItemMergesSaid := DMerges.over
#print axioms itemMerges_holds
end
end Go.Proofs.Ytlngejmojpkdkaa
