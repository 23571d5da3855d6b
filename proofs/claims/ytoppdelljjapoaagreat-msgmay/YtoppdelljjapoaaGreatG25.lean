/-
  Own texts put together: MpPut. Own work.
-/
import Derived.Test.YtoppdelljjapoaaGreatG24
namespace Go.Proofs.YtoppdelljjapoaaGreat
section
open Go.RowKit Classical

/-- A writer, and a variable beside it. -/
structure CSt (w w' : World) (p q : Nat) (cs : Array Value) (t : TypeId) (v v' : Value) (ys : List Int) : Prop where
  wr : CWrote w w' p v v' ys
  box : Box w' q cs t
  off : v'.ownBlock ≠ some q
  ne : q ≠ p
theorem CWrote.alloc {w : World} {p : Nat} {v : Value} {xs : List Int} (h : CW w p v xs) (o : Obj) : CWrote w (w.alloc o) p v v xs :=
  ⟨h.below ((Below.refl _ _).alloc (Nat.le_refl _) _), (KeepBut.refl _ _).alloc _, .inl rfl⟩
theorem CW.lt {w : World} {p : Nat} {v : Value} {xs : List Int} (h : CW w p v xs) : p < w.heap.size := h.box.lt
theorem CSt.start {w : World} {p : Nat} {v : Value} {xs : List Int} (h : CW w p v xs) (cs : Array Value) (t : TypeId) : CSt w (w.alloc (.cells cs t)) p w.heap.size cs t v v xs := by
  refine ⟨CWrote.alloc h _, box_new _ _ _, fun e => ?_, fun e => ?_⟩
  · have := owns_lt h.own e
    omega
  · have := h.lt
    omega
theorem CSt.step {w w1 w2 : World} {p q : Nat} {cs : Array Value} {t : TypeId} {v v1 v2 : Value} {ys zs : List Int} (h : CSt w w1 p q cs t v v1 ys) (h2 : CWrote w1 w2 p v1 v2 zs) : CSt w w2 p q cs t v v2 zs := by
  refine ⟨h.wr.trans h2, h.box.keep h2.keep (fun e => ?_), fun e => ?_, h.ne⟩
  · rcases e with e | e
    · exact h.ne e
    · exact h.off e
  · rcases h2.place with e2 | ⟨g, e2, hg⟩
    · exact h.off (e2.symm.trans e)
    · rw [e2] at e
      cases e
      have := h.box.lt
      omega
/-- A writer made since 'w0'. -/
structure CBl (w0 w : World) (p : Nat) (v : Value) (xs : List Int) : Prop where
  wr : CW w p v xs
  bl : Below w0.heap.size w0 w
  hp : w0.heap.size ≤ p
  hv : ∀ g, v.ownBlock = some g → w0.heap.size ≤ g
theorem CBl.step {w0 w w' : World} {p : Nat} {v v' : Value} {xs ys : List Int} (h : CBl w0 w p v xs) (h2 : CWrote w w' p v v' ys) : CBl w0 w' p v' ys := by
  refine ⟨h2.wr, h.bl.trans (h2.keep.below h.bl.size (fun k e => ?_)), h.hp, fun g e => ?_⟩
  · rcases e with e | e
    · rw [e]; exact h.hp
    · exact h.hv _ e
  · rcases h2.place with e2 | ⟨g2, e2, hg⟩
    · exact h.hv g (e2.symm.trans e)
    · rw [e2] at e
      cases e
      exact Nat.le_trans h.bl.size hg
theorem CBl.below {w0 w w' : World} {p : Nat} {v : Value} {xs : List Int} (h : CBl w0 w p v xs) (hB : Below w.heap.size w w') : CBl w0 w' p v xs := ⟨h.wr.below hB, h.bl.trans (hB.mono h.bl.size), h.hp, h.hv⟩
theorem ctextI_any (p : Nat) (v : Value) (xs l : List Int) (w : World) (hl : ∀ c ∈ l, 0 ≤ c ∧ c < 256) (h : CW w p v xs) (hr : xs.length + l.length + 100 ≤ 140737488355328) :
    Calls Tryz.prog 70 #[.pointer (some ⟨p, 0, none⟩), .string (strOfNums l)] w fun e w' => e = .returned (.tuple #[]) ∧ ∃ v', CWrote w w' p v v' (xs ++ (shortS l.length ++ l)) := by
  have hs : (strOfNums l).size = l.length := strOf_size10 l
  have C := cwtext_any p v xs (strOfNums l) w h (by unfold roomFor; omega)
  rw [hs, strI_of10 l hl, List.append_assoc] at C
  exact C
theorem ckeyI_any (p : Nat) (v : Value) (xs k : List Int) (w : World) (hk : k.length = 8) (h : CW w p v xs) (hr : xs.length + 100 ≤ 140737488355328) :
    Calls Tryz.prog 75 #[.pointer (some ⟨p, 0, none⟩), .agg (eightA k)] w fun e w' => e = .returned (.tuple #[]) ∧ ∃ v', CWrote w w' p v v' (xs ++ k) := by
  have := cwkey_any p v xs k w h (by unfold roomFor; omega) hk
  rw [← eightE_map hk] at this
  exact this
theorem putB_cf {c : Cf} : putB c = cfC.enc c := by
  simp only [putB, cfC, isoC, pairC, numC, repC, rep_byte, natI]
theorem cputCf_any (p : Nat) (v : Value) (xs : List Int) (c : Cf) (w : World) (h : CW w p v xs) (hl : xs.length ≤ 1000000) (hok : c.Ok) :
    Calls Tryz.prog 71 #[.pointer (some ⟨p, 0, none⟩), .agg (cfE c).toArray] w fun e w' => e = .returned (.tuple #[]) ∧ ∃ v', CWrote w w' p v v' (xs ++ cfC.enc c) := by
  have := put_any6 p v xs c w h hl hok
  rw [putB_cf, cf_arr hok] at this
  exact this
theorem it_conf {w : World} {p : Nat} {i : ItP} {t : TypeId} (h : Box w p (itA i) t) : w.rangeAt p 2 (cfE i.cf) := box_range h 2 _ (fun j u hu => by
  match j, hu with
  | 0, hu => exact hu
  | 1, hu => exact hu
  | 2, hu => exact hu
  | 3, hu => exact hu
  | 4, hu => exact hu
  | 5, hu => exact hu
  | 6, hu => exact hu
  | 7, hu => exact hu
  | 8, hu => exact hu
  | 9, hu => exact hu
  | 10, hu => exact hu
  | j + 11, hu => simp at hu)
set_option maxRecDepth 100000 in
set_option maxHeartbeats 3200000 in
theorem putItem_any (p : Nat) (v : Value) (xs : List Int) (i : ItP) (w : World) (h : CW w p v xs) (hr : xs.length ≤ 100000) (hi : ItOk i) (hl : i.val.length ≤ 100000) :
    Calls Tryz.prog 26 #[.pointer (some ⟨p, 0, none⟩), .agg (itA i)] w fun e w' => e = .returned (.tuple #[]) ∧ ∃ v', CWrote w w' p v v' (xs ++ itC.enc i) := by
  have W0 := CSt.start h (itA i) 32
  obtain ⟨w0, hw0⟩ : ∃ w0, w0 = w.alloc (.cells (itA i) 32) := ⟨_, rfl⟩
  obtain ⟨q, hq⟩ : ∃ q, w.heap.size = q := ⟨_, rfl⟩
  rw [← hw0, hq] at W0
  have W0 := hide W0
  have hW := hw0.symm
  have h0 := hi.v
  have l1 := shortS_len10 (n := i.ver) (by omega)
  have l2 := shortS_len10 (n := i.val.length) (by omega)
  have HCF := hide hi.c
  have HIS := hide hi.s
  clear h hw0
  go_enter Tryz.func26, Tryz.ntmps26
  have x0_0 := W0.out.box.cell 0 (.int .u32 (i.ver : Int)) rfl
  go_wp2_with fail
  refine (putCount_any p v xs i.ver w0 W0.out.wr.wr (by unfold roomFor; omega) (by omega)).mono ?_
  rintro e w1 ⟨rfl, v1, h1⟩
  have W1 := hide (W0.out.step h1)
  clear h1
  clear x0_0
  have x1_1 := W1.out.box.cell 1 (.string (strOfNums i.val)) rfl
  go_wp2_with fail
  refine (ctextI_any p v1 (xs ++ shortS i.ver) i.val w1 HIS.out W1.out.wr.wr (by simp only [List.length_append]; omega)).mono ?_
  rintro e w2 ⟨rfl, v2, h2⟩
  have W2 := hide (W1.out.step h2)
  clear h2
  clear x1_1
  have HRC : Hid (w2.rangeAt q 2 (cfE i.cf)) := hide (it_conf W2.out.box)
  go_wp2_with (refine wpList_load_mid rfl _ _ rfl q 2 rfl (cfE i.cf) _ HRC.out Tryz.underlying30 rfl infoCfg ?_)
  refine (cputCf_any p v2 ((xs ++ shortS i.ver) ++ (shortS i.val.length ++ i.val)) i.cf w2 W2.out.wr.wr (by simp only [List.length_append]; omega) HCF.out).mono ?_
  rintro e w3 ⟨rfl, v3, h3⟩
  have W3 := hide (W2.out.step h3)
  clear h3 HRC
  go_wp2_with fail
  go_end0
  refine ⟨rfl, v3, ?_⟩
  have hE : xs ++ itC.enc i = (((xs ++ shortS i.ver) ++ (shortS i.val.length ++ i.val)) ++ cfC.enc i.cf) := by simp only [itC, isoC, pairC, numC, textC, List.append_assoc]
  rw [hE]
  exact W3.out.wr
theorem wr_oneA (x : WrP) : (wrA x).all (·.oneCell') = true := by
  rw [Array.all_eq_true_iff_forall_mem]
  intro u hu
  exact wr_one x u (by simpa using hu)
set_option maxRecDepth 100000 in
set_option maxHeartbeats 3200000 in
theorem putWrites_any (w0 : World) (p : Nat) (v : Value) (xs : List Int) (ao : Option Addr) (n c : Nat) (ws : List WrP) (w : World) (h : CBl w0 w p v xs) (hs : RSrc wrE w0 (.slice ao n c) ws) (hr : xs.length ≤ 50000)
    (hok : ∀ x ∈ ws, KeyOk x.key ∧ ItOk x.it) (hwo : ∀ x ∈ ws, wrOk x) (hln : ws.length ≤ 16) :
    Calls Tryz.prog 28 #[.pointer (some ⟨p, 0, none⟩), .slice ao n c] w fun e w' => e = .returned (.tuple #[]) ∧ ∃ v', CWrote w w' p v v' (xs ++ wsC.enc ws) := by
  obtain ⟨a1, c1, he, _, _⟩ := hs.shape
  cases he
  have HS := hide hs
  have HO := hide hok
  have HW := hide hwo
  have H0 := hide h
  obtain ⟨L, hL⟩ : ∃ L, L = ws.length := ⟨_, rfl⟩
  rw [← hL] at HS hln ⊢
  have HL := hide hL
  have l1 := shortS_len10 (n := L) (by omega)
  have e1 := wrap32 (n := L) (by omega)
  clear h hs hok hwo hL
  go_enter Tryz.func28, Tryz.ntmps28
  go_wp2_with fail
  refine (cwnum_any p v xs L w H0.out.wr (by unfold roomFor; omega) (by omega)).mono ?_
  rintro e w1 ⟨rfl, v1, h1⟩
  have W1 := hide (H0.out.step h1)
  have C1 := hide h1
  clear h1 e1 H0
  obtain ⟨ys, hys⟩ : ∃ ys, ys = xs ++ shortS L := ⟨_, rfl⟩
  rw [← hys] at W1 C1
  have hyl : ys.length ≤ xs.length + 10 := by rw [hys, List.length_append]; omega
  have HYS := hide hys
  clear hys l1
  go_wp2_with fail
  go_loopg [13] L (fun g i wr => ∃ (k : Nat) (vk : Value), k + g = L ∧ i = .int .i64 k ∧ Hid (CBl w0 wr p vk (ys ++ repEnc wrC (ws.take k))) ∧ Hid (CWrote w wr p v vk (ys ++ repEnc wrC (ws.take k))))
  case atStart => exact ⟨0, v1, by omega, rfl, hide (by rw [List.take_zero]; show CBl w0 _ p v1 (ys ++ []); rw [List.append_nil]; exact W1.out), hide (by rw [List.take_zero]; show CWrote w _ p v v1 (ys ++ []); rw [List.append_nil]; exact C1.out)⟩
  case round =>
    clear W1 C1
    obtain ⟨k, vk, hk, rfl, WK, CK⟩ := hrel
    cases gk with
    | zero =>
      obtain rfl : k = L := by omega
      have hz : ¬ ((k : Int) < (k : Int)) := by omega
      go_wp2_with fail
      go_end0
      refine ⟨rfl, vk, ?_⟩
      have hE : xs ++ wsC.enc ws = ys ++ repEnc wrC (ws.take k) := by
        rw [HYS.out, HL.out, List.take_length, List.append_assoc]
        rfl
      rw [hE]
      exact CK.out
    | succ g =>
      have hz : (k : Int) < (L : Int) := by omega
      have hz0 : (0 : Int) ≤ (k : Int) := by omega
      have hkl : k < ws.length := by rw [← HL.out]; omega
      have hS1 := HS.out.below WK.out.bl
      obtain ⟨b1, o1, rfl, hr1⟩ := hS1.range hkl
      obtain ⟨x, hx⟩ : ∃ x, x = ws[k] := ⟨_, rfl⟩
      rw [← hx] at hr1
      have HXO : Hid (KeyOk x.key ∧ ItOk x.it) := hide (by rw [hx]; exact HO.out _ (List.getElem_mem hkl))
      have HXW : Hid (wrOk x) := hide (by rw [hx]; exact HW.out _ (List.getElem_mem hkl))
      have HN : Hid (ys ++ repEnc wrC (ws.take k) ++ x.key ++ itC.enc x.it = ys ++ repEnc wrC (ws.take (k + 1))) := hide (by
        rw [List.take_succ_eq_append_getElem hkl, ← hx]
        simp only [repEnc, List.flatMap_append, List.flatMap_cons, List.flatMap_nil, List.append_nil, List.append_assoc]
        rfl)
      have hlk : (repEnc wrC (ws.take k)).length ≤ 1600 := by
        have := ws_len (ws.take k) (fun y hy => HW.out y (List.mem_of_mem_take hy))
        have h2 : (ws.take k).length ≤ 16 := by rw [List.length_take]; omega
        omega
      obtain ⟨zs, hzs⟩ : ∃ zs, zs = ys ++ repEnc wrC (ws.take k) := ⟨_, rfl⟩
      have hzl : zs.length ≤ ys.length + 1600 := by rw [hzs, List.length_append]; omega
      rw [← hzs] at WK HN CK
      have HR1 := hide hr1
      have hiv : x.it.val.length ≤ 64 := HXW.out.2.2.1
      clear hzs hlk hS1 hr1 hx hkl
      have HZ := hide (box_new wr (wrA zeroWr) 86)
      have HBA := hide (alloc_below10 wr (.cells (wrA zeroWr) 86))
      have HPL := hide WK.out.wr.lt
      have HVL : Hid (∀ g, vk.ownBlock = some g → g < wr.heap.size) := hide (fun g hg => owns_lt WK.out.wr.own hg)
      go_wp2_with (first
        | (refine wpList_load_mid rfl _ _ rfl b1 (o1 + k * 21) rfl (wrE x) _ HR1.out Tryz.underlying86 rfl infoWrite ?_)
        | (refine wp_store_box rfl rfl _ _ rfl wr.heap.size rfl (cs' := wrA x) rfl HZ.out rfl infoWrite (wr_oneA x) ?_; intro w4 hb4 hk4; have HX4 := hide hb4; have HK4 := hide hk4; have HRK := hide (range_key (x := x) (box_range hb4 0 _ (fun j u hu => by rw [Nat.zero_add, List.getElem?_toArray]; exact hu))); clear hb4 hk4)
        | (refine wpList_load_mid rfl _ _ rfl wr.heap.size 0 rfl (eightE x.key) _ HRK.out Tryz.underlying28 rfl infoKey10 ?_))
      have S4 : Hid (CSt wr w4 p wr.heap.size (wrA x) 86 vk vk zs) := hide (by
        have hbl : Below wr.heap.size wr w4 := HBA.out.trans (HK4.out.below HBA.out.size (fun k e => by omega))
        refine ⟨⟨WK.out.wr.below hbl, KeepBut.of_below _ hbl, .inl rfl⟩, HX4.out, fun e => ?_, ?_⟩
        · have := HVL.out _ e
          omega
        · have := HPL.out
          omega)
      clear HX4 HK4 HZ HBA HRK
      refine (ckeyI_any p vk zs x.key w4 HXO.out.1.l S4.out.wr.wr (by omega)).mono ?_
      rintro e w5 ⟨rfl, v5, h5⟩
      have S5 := hide (S4.out.step h5)
      clear h5 S4
      have hl5 : (zs ++ x.key).length ≤ zs.length + 8 := by rw [List.length_append, HXO.out.1.l]; omega
      have HR5 := hide (range_item (x := x) (box_range S5.out.box 0 _ (fun j u hu => by rw [Nat.zero_add, List.getElem?_toArray]; exact hu)))
      go_wp2_with (refine wpList_load_mid rfl _ _ rfl wr.heap.size (0 + 8) rfl (itE x.it) _ HR5.out Tryz.underlying32 rfl infoItem ?_)
      refine (putItem_any p v5 (zs ++ x.key) x.it w5 S5.out.wr.wr (by omega) HXO.out.2 (by omega)).mono ?_
      rintro e w6 ⟨rfl, v6, h6⟩
      have S6 := hide (S5.out.step h6)
      clear h6
      rw [HN.out] at S6
      go_wp2_with fail
      go_roundg g
      case measure => omega
      case rel => exact ⟨k + 1, v6, by omega, by first | rfl | go_num, hide (WK.out.step S6.out.wr), hide (CK.out.trans S6.out.wr)⟩
end
end Go.Proofs.YtoppdelljjapoaaGreat
