/-
  Proved: of the program's table of locks all locks that are held on a key go together, behind every call, whatever calls came, in whatever order. For every input of the form's own reach (of a script the first 60 calls count; one that is too large is passed by, as the law says). Own work.
-/
import Derived.Test.YtddflccjmigloaaG34
import Derived.Test.YtddflccjmigloaaG35
import Derived.Test.YtddflccjmigloaaG22
import Derived.Test.YtddflccjmigloaaG32
import Derived.SizedLaws
import Derived.ChangeArms
namespace Go.Proofs.Ytddflccjmigloaa
section
open Go.RowKit Go.Maps Classical

variable {D : World → Nat → (Nat → Prop) → Nat → List (UsP KeyT) → Prop}
set_option maxRecDepth 100000 in
set_option maxHeartbeats 6400000 in
theorem walkT15 (H : LockDo D) (v : Value) (fs : List LActV) (w : World) (hL : RSrc lactE w v fs) (hok : ∀ a ∈ fs, LvOk w a) :
    Calls Try.prog 3 #[v] w fun e w' => e = .returned (.bool true) ∧ Below w.heap.size w w' := by
  obtain ⟨ao, cap, rfl, hc, hm⟩ := hL.shape
  obtain ⟨LF, hLF⟩ : ∃ LF, LF = fs.length := ⟨_, rfl⟩
  rw [← hLF]
  have HSF : Hid (RSrc lactE w (.slice ao LF cap) fs) := hide (by rw [hLF]; exact hL)
  have HSO := hide hok
  have CF := hide (fun W (hB : Below w.heap.size w W) => far_any15 (.slice ao LF cap) fs W (HSF.out.below hB) (fun a ha => lvok_below (HSO.out a ha) hB))
  have CA := hide (fun W => alive_by15 H W)
  have CSH := hide (fun W => short_any15 (.slice ao LF cap) fs W w HSF.out)
  clear hL hok hLF hc hm
  go_enter Try.func3, Try.ntmps3
  go_wp2_with fail
  refine (H.new w).mono ?_
  rintro e w1 ⟨q, F1, rfl, hD1, hF1, hB1⟩
  have HN1 : Hid (Since15 D w q F1 0 [] w1) := hide ⟨hD1, hF1, hB1⟩
  clear hD1 hF1 hB1
  go_wp2_with fail
  obtain ⟨RF, hRF⟩ : ∃ RF, RF = farL fs := ⟨_, rfl⟩
  have CF' := hide (CF.out w1 HN1.out.b)
  rw [← hRF] at CF'
  have HRF := hide hRF
  clear hRF CF
  cases RF with
  | true =>
    refine CF'.out.mono ?_
    rintro e w2 ⟨rfl, hB2⟩
    have HB2 := hide (HN1.out.b.trans (hB2.mono HN1.out.b.size))
    clear hB2
    go_wp2_with (go_at_call 8; refine (CA.out _).mono ?_; rintro e w3 ⟨rfl, hB3⟩; have HB3 := hide (HB2.out.trans (hB3.mono HB2.out.size)); clear hB3)
    go_ret
    exact ⟨rfl, HB3.out⟩
  | false =>
  refine CF'.out.mono ?_
  rintro e w2 ⟨rfl, hB2⟩
  replace HN1 := hide (HN1.out.below H hB2)
  clear hB2 CF'
  obtain ⟨ts, hts⟩ : ∃ ts, ts = fs.take 60 := ⟨_, rfl⟩
  have HTO : Hid (∀ a ∈ ts, LvOk w a) := hide (fun a ha => by rw [hts] at ha; exact HSO.out a (List.mem_of_mem_take ha))
  have HTK : Hid (∀ a ∈ ts, a.a.ks.length ≤ 30) := hide (fun a ha => by rw [hts] at ha; exact far_ks HRF.out.symm a ha)
  simp only [← hts] at CSH
  obtain ⟨LN, hLN⟩ : ∃ LN, LN = ts.length := ⟨_, rfl⟩
  have hKl : LN ≤ 60 := by rw [hLN, hts, List.length_take]; omega
  have HLN := hide hLN
  clear hts hLN HRF
  go_wp2_with (go_at_call 9; refine (CSH.out _).mono ?_; rintro e Y1 ⟨v1, rfl, rfl, hT⟩; obtain ⟨ta, tc, e1, _, _⟩ := hT.shape; rw [← HLN.out] at e1; subst e1; have HT := hide hT; clear hT)
  have HI0 : Hid (LkI ([] : List (UsP KeyT))) := hide lki_nil
  go_loopg [26] LN (fun g i wr => ∃ (k C : Nat) (F : Nat → Prop) (l : List (UsP KeyT)), k + g = LN ∧ i = .int .i64 k ∧ C ≤ 30 + k ∧ Hid (LkI l) ∧ Hid (Since15 D w q F C l wr))
  case atStart => exact ⟨0, 0, F1, [], by omega, rfl, by omega, HI0, HN1⟩
  case round =>
    clear HI0 HN1
    obtain ⟨k, C, F, l, hk, rfl, hC, HI, HN⟩ := hrel
    cases gk with
    | zero =>
      obtain rfl : k = LN := by omega
      have hz : ¬ ((k : Int) < (k : Int)) := by omega
      go_wp2_with (go_at_call 8; refine (CA.out _).mono ?_; rintro e w3 ⟨rfl, hB3⟩; have HB3 := hide (HN.out.b.trans (hB3.mono HN.out.b.size)); clear hB3)
      go_ret
      exact ⟨rfl, HB3.out⟩
    | succ g =>
      have hz : (k : Int) < (LN : Int) := by omega
      have hkn : k < ts.length := by rw [← HLN.out]; omega
      obtain ⟨en, b, off, rfl, hb, hcl⟩ := (HT.out.below HN.out.b).at recLA.len hkn
      have HRg : Hid (wr.rangeAt b (off + k * 15) (lactE ts[k])) := hide (fun j v hv => hcl j v hv)
      have HOA := hide (lvok_below (HTO.out _ (List.getElem_mem hkn)) HN.out.b)
      have HKA := hide (HTK.out _ (List.getElem_mem hkn))
      generalize ts[k] = ax at *
      obtain ⟨a, u⟩ := ax
      obtain ⟨ro, rc, e1, hrc, _⟩ := HOA.out.src.shape
      dsimp only at e1
      subst e1
      clear hcl en hb hrc
      obtain ⟨p5, hp5⟩ : ∃ p5, p5 = wr.heap.size := ⟨_, rfl⟩
      have HZ := hide (box_new wr (lactA zeroLV.a zeroLV.p) 37)
      have HZB : Hid (Below wr.heap.size wr (wr.alloc (.cells (lactA zeroLV.a zeroLV.p) 37))) := hide (alloc_below14 wr _)
      go_wp2_with (first | (refine wpList_load_mid rfl 37 _ rfl b (off + k * 15) rfl (lactE ⟨a, .slice ro a.ks.length rc⟩) _ HRg.out Try.underlying37 rfl infoLA ?_) | (refine wp_store_box rfl rfl _ _ rfl wr.heap.size rfl (cs' := lactA a (.slice ro a.ks.length rc)) rfl HZ.out rfl infoLA (by simp [Value.oneCell']) ?_; intro w5 hb3 hk3; have HX5 := hide hb3; have HB5 : Hid (Below wr.heap.size wr w5) := hide (HZB.out.trans (hk3.below HZB.out.size (fun k hk => by omega))); clear hb3 hk3) | (refine wp_load_box rfl _ rfl wr.heap.size rfl HX5.out Try.underlying37 rfl infoLA ?_))
      have HN5 := hide (HN.out.below H HB5.out)
      have HNF : Hid (¬ F p5) := hide (fun hf => by have := H.lt HN.out.d _ hf; omega)
      rw [← hp5] at HX5 ⊢
      refine (does_any15 H a (.slice ro a.ks.length rc) HN5.out.d (by omega) (lvok_below HOA.out HB5.out) HKA.out).mono ?_
      rintro e w6 ⟨⟨vw, vg, er, wn, gr, l2, C2, rfl, hR, hC2, hd, _, _⟩⟩
      have HI2 : Hid (LkI l2) := hide (does_ok HI.out HOA.out.tx HOA.out.tm hR)
      obtain ⟨F2, hs6, hk6, hf6⟩ := HN5.out.did hd
      have HN6 := hide hs6
      have HX6 := hide (HX5.out.keep hk6 HNF.out)
      have hC3 : C2 ≤ 30 + (k + 1) := cgrow hC hC2
      clear hR hd hs6 hk6 hf6 hC2 HZ HZB HRg HB5 HX5 HN5 HI HN HNF hp5
      have CU := hide (H.users HN6.out.d)
      obtain ⟨LL, hLL⟩ : ∃ LL, LL = l2.length := ⟨_, rfl⟩
      have hLm : LL ≤ 64 := by rw [hLL]; exact HI2.out.b.few
      have HLL := hide hLL
      clear hLL
      go_wp2_with (go_at_call 11; refine CU.out.mono ?_; rintro e w7 ⟨vu, rfl, hou, hB7⟩; have HSU := hide (src_users hou); obtain ⟨ua, uc, e7, _⟩ := owns_shapeR hou; rw [← HLL.out] at e7; subst e7; have HN7 := hide (HN6.out.below H hB7); have HX7 := hide (HX6.out.belowI hB7); clear hou hB7)
      clear CU HN6 HX6
      go_loopg [6, 7, 36] LL (fun g s6 s7 i wr => ∃ (j M N : Nat), j + g = LL ∧ i = .int .i64 j ∧ s6 = .int .i64 M ∧ s7 = .int .i64 N ∧ M ≤ j ∧ N ≤ j ∧ Hid (M = mnN (l2.take j) a.k ∧ N = wrN (l2.take j) a.k) ∧ Hid (Below w7.heap.size w7 wr))
      case atStart => exact ⟨0, 0, 0, by omega, rfl, rfl, rfl, by omega, by omega, hide ⟨rfl, rfl⟩, hide (Below.refl _ _)⟩
      case round =>
        obtain ⟨j, M, N, hj, rfl, rfl, rfl, hM, hN, HMN, HBW⟩ := hrel
        have HNW := hide (HN7.out.below H HBW.out)
        have HXW := hide (HX7.out.belowI HBW.out)
        cases gk with
        | zero =>
          obtain rfl : j = LL := by omega
          have hz2 : ¬ ((j : Int) < (j : Int)) := by omega
          have HE : Hid (l2.take j = l2) := hide (by rw [HLL.out]; exact List.take_length)
          rw [HE.out] at HMN
          have htc := tog_count HI2.out a.k
          rw [← HMN.out.1, ← HMN.out.2] at htc
          obtain ⟨h1, h2⟩ := htc
          match N, h1, h2, hN with
          | 0, _, _, _ =>
            go_wp2_with fail
            go_roundg g
            case measure => omega
            case rel => exact ⟨k + 1, C2, F2, l2, by omega, by first | rfl | go_num, hC3, HI2, HNW⟩
          | 1, _, h2, _ =>
            have h3 := h2 rfl
            have h4 : ¬ (1 : Int) < (M : Int) := by omega
            go_wp2_with fail
            go_roundg g
            case measure => omega
            case rel => exact ⟨k + 1, C2, F2, l2, by omega, by first | rfl | go_num, hC3, HI2, HNW⟩
        | succ g2 =>
          have hz2 : (j : Int) < (LL : Int) := by omega
          have hjn : j < l2.length := by rw [← HLL.out]; omega
          obtain ⟨en, b, off, rfl, hb, hcl⟩ := (HSU.out.below HBW.out).at (K := 3) (fun _ => rfl) hjn
          have HRg : Hid (wr.rangeAt b (off + j * 3) (txCs (txI l2[j].tx))) := hide (fun j v hv => hcl j v hv)
          have HTX : Hid (TxB l2[j].tx) := hide (HI2.out.b.oks _ (List.getElem_mem hjn)).1
          have HGU : Hid (getU l2 l2[j].tx = l2[j]) := hide (getU_of HI2.out.b (List.getElem_mem hjn))
          have hh2 := (HI2.out.b.oks _ (List.getElem_mem hjn)).2.2.1 a.k
          have HMT := hide (mnN_take l2 a.k hjn)
          have HWT := hide (wrN_take l2 a.k hjn)
          generalize l2[j] = y at *
          clear hcl en hb
          obtain ⟨hm2, hhm⟩ : ∃ m, m = y.h a.k := ⟨_, rfl⟩
          have HZ := hide (box_new wr #[.int .u8 0, .int .u32 0, .int .u32 0] 30)
          have HZB : Hid (Below w7.heap.size w7 (wr.alloc (.cells #[.int .u8 0, .int .u32 0, .int .u32 0] 30))) := hide (HBW.out.alloc HBW.out.size _)
          have hws := HBW.out.size
          go_wp2_with (first | (refine wpList_load_mid rfl 30 _ rfl b (off + j * 3) rfl (txCs (txI y.tx)) _ HRg.out Try.underlying30 rfl infoTx15 ?_) | (refine wp_store_box rfl rfl _ _ rfl wr.heap.size rfl (cs' := #[.int .u8 (y.tx.1 : Int), .int .u32 (y.tx.2.1 : Int), .int .u32 (y.tx.2.2 : Int)]) rfl HZ.out rfl infoTx15 (by simp [Value.oneCell']) ?_; intro w8 hb3 hk3; have HX8 := hide hb3; have HB8 : Hid (Below w7.heap.size w7 w8) := hide (HZB.out.trans (hk3.below HZB.out.size (fun k hk => by omega))); have HXA := hide (HX7.out.belowI HB8.out); have HKR := hide (act_key HXA.out); clear hb3 hk3) | (refine wp_load_box rfl _ rfl wr.heap.size rfl HX8.out Try.underlying30 rfl infoTx15 ?_) | (refine wpList_load_mid rfl 34 _ rfl p5 5 rfl (eightE a.k.1) _ HKR.out Try.underlying34 rfl infoKey15 ?_))
          have CM := hide (H.mode y.tx a.k (HN7.out.below H HB8.out).d HTX.out)
          rw [HGU.out, ← hhm] at CM
          refine CM.out.mono ?_
          rintro e w9 ⟨rfl, hB9⟩
          have HB9 := hide (HB8.out.trans (hB9.mono HB8.out.size))
          rw [← hhm] at HMT HWT hh2
          clear hB9 CM HX8 HXA HKR HZ HZB HRg hhm HTX HGU
          match hm2, hh2, HMT, HWT with
          | 0, _, HMT, HWT =>
            go_wp2_with fail
            go_roundg g2
            case measure => omega
            case rel => exact ⟨j + 1, M, N, by omega, by first | rfl | go_num, rfl, rfl, by omega, by omega, hide ⟨by rw [HMT.out, HMN.out.1]; rfl, by rw [HWT.out, HMN.out.2]; rfl⟩, HB9⟩
          | 1, _, HMT, HWT =>
            go_wp2_with fail
            go_roundg g2
            case measure => omega
            case rel => exact ⟨j + 1, M + 1, N, by omega, by first | rfl | go_num, by first | rfl | go_num, rfl, by omega, by omega, hide ⟨by rw [HMT.out, HMN.out.1]; rfl, by rw [HWT.out, HMN.out.2]; rfl⟩, HB9⟩
          | 2, _, HMT, HWT =>
            go_wp2_with fail
            go_roundg g2
            case measure => omega
            case rel => exact ⟨j + 1, M + 1, N + 1, by omega, by first | rfl | go_num, by first | rfl | go_num, by first | rfl | go_num, by omega, by omega, hide ⟨by rw [HMT.out, HMN.out.1]; rfl, by rw [HWT.out, HMN.out.2]; rfl⟩, HB9⟩
end
section
open Go.RowKit Go.ChangeShapes Go.WideShapes Go.ChangeAt

namespace lockTogether
set_option maxRecDepth 100000 in
theorem lifted (os : Os) (started : os.Started) (H : Type) (enc : TypeId × Value → H) :
    ReturnsInHanded {} Try.checked os 3 .any (Rows.lockTogetherSpec.pre6 enc Try.prog Try.f3 Rows.lockTogetherRow.domain false) (Rows.lockTogetherSpec.post enc Try.prog Try.f3 false true false false) := by
  refine returnsInHanded_of_change_sized (C := Try.checked) own started (by kernel_rfl) Try.func3
    (ChangeSpec.witness6 (enc := enc) (C := Try.checked) false ⟨#[], #[.slice none 0 0], []⟩ 8 (by kernel_rfl) (by kernel_rfl) (by kernel_rfl) (by kernel_rfl)) ?_
  intro W base args ds gs before hval0 hW hcnd hsz _
  have hval : ∀ (j : Nat) t v, Try.f3.params[j]? = some t → args[j]? = some v → Value.okWide Try.prog W .any base t v := hval0
  have hW' := hW
  obtain ⟨p, q, hA0, hV, rfl, hfz, hnd⟩ := hW
  have hA : DataW.TrodAll enc Try.prog W 0 (fun _ => true) true Try.f3.params.toList args.toList ds p := hA0
  have hsz2 : ∀ (j : Nat) (t : TypeId) (d : DataW H), Try.f3.params.toList[j]? = some t → ds[j]? = some d → ∀ n ∈ d.weights Try.prog t, n ≤ 140737488351232 := fun j t d ht hd n hn => by
    have h1 := List.all_eq_true.1 hsz n (DataW.weights_mem_each (j := j) (t := t) (d := d) (by rw [List.getElem?_append_left (List.getElem?_eq_some_iff.1 ht).1]; exact ht) (by rw [List.getElem?_append_left (List.getElem?_eq_some_iff.1 hd).1]; exact hd) n hn)
    have h2 : n ≤ reachBytes := by simpa using h1
    have h3 : reachBytes = 140737488351232 := rfl
    omega
  rw [Try.params3] at hA hval hsz2
  obtain ⟨v0, vs0, d0, ds0, p0, q0, hargs, rfl, rfl, h0, r0⟩ := trodAll_cons hA
  obtain ⟨rfl, rfl, rfl⟩ := trodAll_nil r0
  obtain rfl : args = #[v0] := by cases args; simp_all
  obtain ⟨rfl, rfl⟩ := trodVars_none hV
  obtain ⟨a0, len0, cap0, rfl⟩ := okWide_slice Try.underlying22 (hval 0 22 v0 rfl rfl)
  have k0 := h0
  have lt0 : ∀ x ∈ p0, x.block < W.heap.size := by obtain ⟨m, hm⟩ := k0; exact DataW.trod_lt m _ _ _ hm
  obtain ⟨xs0, lies0, by0⟩ := lacts_of_trod h0
  clear hA0 hval0
  refine (walkT15 (lk_do sortB64) _ xs0 W lies0 by0).mono fun e W' ⟨he, bel⟩ => ?_
  subst he
  exact ⟨_, rfl, _, _, _, [], _, [], hW', trodAll_mk1 (shut_bool Try.underlying4 _), (trodAll_cons_mk (Below.trod laidOut (by kernel_rfl) (of_decide_eq_true (by kernel_rfl)) k0 bel lt0) trodAll_mk0), rfl, bel.frame _, fun h => by cases h⟩

theorem over : Rows.lockTogetherRow.holds Try.pinned (OpenSpec.ofChange Rows.lockTogetherSpec) :=
  OpenClaim.holds_of_wide 3 Try.f3 rfl rfl rfl rfl rfl rfl rfl ⟨rfl, rfl, rfl, rfl, rfl⟩ rfl rfl rfl rfl rfl (by kernel_rfl) Try.func3 (by kernel_rfl)
    (of_decide_eq_true (by kernel_rfl)) (by unfold Func.isWrapper; first | (rw [if_pos (by decide +kernel)]; kernel_rfl) | (rw [if_neg (by decide +kernel)]; exact ⟨rfl, rfl⟩))
    (fun os started H enc _ => lifted os started H enc)
end lockTogether

/-- THE STATEMENT. -/
theorem lockTogether_holds : Rows.LockTogetherSaid := lockTogether.over
#print axioms lockTogether_holds
end
end Go.Proofs.Ytddflccjmigloaa
