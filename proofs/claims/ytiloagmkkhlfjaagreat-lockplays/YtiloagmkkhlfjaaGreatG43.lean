/-
  Own texts put together: LrAsk. Own work.
-/
import Derived.Test.YtiloagmkkhlfjaaGreatG42
namespace Go.Proofs.YtiloagmkkhlfjaaGreat
section
open Go.RowKit Go.Maps Classical
set_option maxHeartbeats 1000000 in
theorem ask_ld {W1 wr W9 : World} {r C : Nat} {F : Nat → Prop} {l' : List (aS KeyT)} {vL vH vW vL7 vH7 vW7 : Value} {L7 : List UsR} {H7 W7 : List (cD KeyT)} (hF : ∀ k, F k ↔ k = r ∨ dQ vL vH vW k) (h : dC W1 wr r vL vH vW vL7 vH7 vW7 L7 H7 W7) (hd : fP dR wr W9 r (fun k => k = r ∨ dQ vL7 vH7 vW7 k) C l') :
  ∃ F2, dR W9 r F2 C l' ∧ aC F W1 W9 ∧ (∀ k, F2 k → F k ∨ W1.heap.size ≤ k) ∧ ∀ k, F2 k → (k = r ∨ dQ vL7 vH7 vW7 k) ∨ wr.heap.size ≤ k := by
 obtain ⟨F2, d2, k2, s2⟩ := hd
 have h1 : ∀ k, (k = r ∨ dQ vL7 vH7 vW7 k) → F k ∨ W1.heap.size ≤ k := fun k hk => by
  rcases hk with e | e
  ·exact .inl ((hF k).2 (.inl e))
  ·exact (h.u k e).imp (fun e => (hF k).2 (.inr e)) id
 have hk1 : aC F W1 wr := h.k.mono (fun k e => (hF k).2 (.inl e))
 have hk2 : aC F W1 W9 := aC.trans hk1 k2 (fun k hk e => (h1 k e).resolve_right (Nat.not_le.2 hk))
 refine ⟨F2, d2, hk2, fun k e => ?_, s2⟩
 rcases s2 k e with e | e
 ·exact h1 k e
 ·exact .inr (Nat.le_trans h.k.size e)
theorem rput_below {w w' : World} {r : Nat} {vL vH vW : Value} {L : List UsR} {H W : List (cD KeyT)} (h : iU w r vL vH vW L H W) (hB : Below w.heap.size w w') : dC w w' r vL vH vW vL vH vW L H W := ⟨h.below hB, aC.of_below _ hB, fun _ e => .inl e⟩
theorem ask_new {l : List (aS KeyT)} {H W : List (cD KeyT)} (h : eF l (l.map usR) H W) {t : TxN} {tm : Nat} (hu : cM l t = none) : eF (cZ l t tm) (inU (l.map usR) ⟨t, tm, false⟩) H W := by
 unfold cZ
 rw [hu, Option.isSome_none, if_neg (by simp)]
 have e1 : inU (l.map usR) ⟨t, tm, false⟩ = (dH l (⟨t, tm, false, fun _ => 0, fun _ => 0⟩ : aS KeyT)).map usR := inU_ins l (⟨t, tm, false, fun _ => 0, fun _ => 0⟩ : aS KeyT)
 exact ⟨e1, h.h.ins (fun _ => rfl), h.w.ins (fun _ => rfl)⟩
theorem ask_bR {l : List (aS KeyT)} (hb : dD l) {t : TxN} {tm : Nat} (ht : kJ t) (htm : tm < 4294967296) (hn : cM l t = none → l.length < 64) : dD (cZ l t tm) ∧ ∃ u ∈ cZ l t tm, u.tx = t := by
 unfold cZ
 cases hu : cM l t with
 | none =>
  rw [Option.isSome_none, if_neg (by simp)]
  exact ⟨insU_b hb (x := (⟨t, tm, false, fun _ => 0, fun _ => 0⟩ : aS KeyT)) hu (hn hu) ⟨ht, htm, fun k => by show 0 ≤ 2; decide, fun k => by show 0 ≤ 2; decide⟩, _, (bU _ _ _).2 (.inl rfl), rfl⟩
 | some x =>
  rw [Option.isSome_some, if_pos rfl]
  obtain ⟨hx, e⟩ := (bT hb).1 hu
  exact ⟨hb, x, hx, e⟩
theorem wait_bR {l : List (aS KeyT)} (hb : dD l) (t : TxN) (k : KeyT) {m : Nat} (hm : m ≤ 2) : dD (bG l t (bF k m)) := i9 hb _ _ (fun u hu => ⟨rfl, rfl, (hb.oks u hu).2.2.1, fun k' => by
 show (if k' = k then max (u.w k) m else u.w k') ≤ 2
 have := (hb.oks u hu).2.2.2 k
 have := (hb.oks u hu).2.2.2 k'
 split <;> omega⟩)
theorem less_nilR (l : List (aS KeyT)) : cY l [] = l := by
 unfold cY
 exact List.filter_eq_self.2 (fun u _ => by simp)
theorem wnd_lenR {l : List (aS KeyT)} (hb : dD l) (t : TxN) (k : KeyT) : (dX l t k).length ≤ 64 := by
 unfold dX sortU
 rw [List.length_map, List.length_mergeSort]
 exact Nat.le_trans (List.length_filter_le _ _) hb.few
theorem buildGtmR (t : TxN) (k : KeyT) (m : Int) (w : World) : (Instr.build 62 #[(0, aV t), (1, .agg (aK k.1)), (2, .int .u8 m)]).run Tryz.prog w = .ok (.agg #[.int .u8 (t.1 : Int), .int .u32 (t.2.1 : Int), .int .u32 (t.2.2 : Int), .int .u8 (aZ k.1 0), .int .u8 (aZ k.1 1), .int .u8 (aZ k.1 2), .int .u8 (aZ k.1 3), .int .u8 (aZ k.1 4), .int .u8 (aZ k.1 5), .int .u8 (aZ k.1 6), .int .u8 (aZ k.1 7), .int .u8 m]) w := by kernel_rfl
set_option maxRecDepth 100000 in
set_option maxHeartbeats 12800000 in
theorem rask_any15 (r C : Nat) (F : Nat → Prop) (l : List (aS KeyT)) (tm : Nat) (t : TxN) (k : KeyT) (m : Nat) (w : World) (h : dR w r F C l) (hC : C + 1 ≤ 10000) (ht : kJ t) (htm : tm < 4294967296) :
  Calls Tryz.prog 31 #[.pointer (some ⟨r, 0, none⟩), .agg (gT tm t), .agg (aK k.1), .int .u8 (m : Int)] w fun e w' => ∃ vw vg er, e = .returned (.tuple #[.agg #[vw, vg], .int .i64 er]) ∧ AskQ w r F C l tm t k m vw vg er w' := by
 have hA0 := aE w (.cells (gT tm t) 36)
 have hA1 := aE (w.alloc (.cells (gT tm t) 36)) (.cells #[.int .u8 (aZ k.1 0), .int .u8 (aZ k.1 1), .int .u8 (aZ k.1 2), .int .u8 (aZ k.1 3), .int .u8 (aZ k.1 4), .int .u8 (aZ k.1 5), .int .u8 (aZ k.1 6), .int .u8 (aZ k.1 7)] 38)
 have hA2 := aE ((w.alloc (.cells (gT tm t) 36)).alloc (.cells #[.int .u8 (aZ k.1 0), .int .u8 (aZ k.1 1), .int .u8 (aZ k.1 2), .int .u8 (aZ k.1 3), .int .u8 (aZ k.1 4), .int .u8 (aZ k.1 5), .int .u8 (aZ k.1 6), .int .u8 (aZ k.1 7)] 38)) (.cells #[.slice none 0 0, .slice none 0 0] 50)
 have hB0 := hA0
 have hB1 := hB0.trans (hA1.mono hB0.size)
 have hB2 := hB1.trans (hA2.mono hB1.size)
 have HXp5 : Hid (bZ (((w.alloc (.cells (gT tm t) 36)).alloc (.cells #[.int .u8 (aZ k.1 0), .int .u8 (aZ k.1 1), .int .u8 (aZ k.1 2), .int .u8 (aZ k.1 3), .int .u8 (aZ k.1 4), .int .u8 (aZ k.1 5), .int .u8 (aZ k.1 6), .int .u8 (aZ k.1 7)] 38)).alloc (.cells #[.slice none 0 0, .slice none 0 0] 50)) (w.heap.size) (gT tm t) 36) := aA ((aN w (gT tm t) 36).belowI (hA1.trans (hA2.mono hA1.size)))
 have HXp6 : Hid (bZ (((w.alloc (.cells (gT tm t) 36)).alloc (.cells #[.int .u8 (aZ k.1 0), .int .u8 (aZ k.1 1), .int .u8 (aZ k.1 2), .int .u8 (aZ k.1 3), .int .u8 (aZ k.1 4), .int .u8 (aZ k.1 5), .int .u8 (aZ k.1 6), .int .u8 (aZ k.1 7)] 38)).alloc (.cells #[.slice none 0 0, .slice none 0 0] 50)) (w.heap.size + 1) #[.int .u8 (aZ k.1 0), .int .u8 (aZ k.1 1), .int .u8 (aZ k.1 2), .int .u8 (aZ k.1 3), .int .u8 (aZ k.1 4), .int .u8 (aZ k.1 5), .int .u8 (aZ k.1 6), .int .u8 (aZ k.1 7)] 38) := aA (by have := (aN (w.alloc (.cells (gT tm t) 36)) #[.int .u8 (aZ k.1 0), .int .u8 (aZ k.1 1), .int .u8 (aZ k.1 2), .int .u8 (aZ k.1 3), .int .u8 (aZ k.1 4), .int .u8 (aZ k.1 5), .int .u8 (aZ k.1 6), .int .u8 (aZ k.1 7)] 38).belowI hA2; simpa using this)
 have HXp8 : Hid (bZ (((w.alloc (.cells (gT tm t) 36)).alloc (.cells #[.int .u8 (aZ k.1 0), .int .u8 (aZ k.1 1), .int .u8 (aZ k.1 2), .int .u8 (aZ k.1 3), .int .u8 (aZ k.1 4), .int .u8 (aZ k.1 5), .int .u8 (aZ k.1 6), .int .u8 (aZ k.1 7)] 38)).alloc (.cells #[.slice none 0 0, .slice none 0 0] 50)) (w.heap.size + 2) #[.slice none 0 0, .slice none 0 0] 50) := aA (by have := aN ((w.alloc (.cells (gT tm t) 36)).alloc (.cells #[.int .u8 (aZ k.1 0), .int .u8 (aZ k.1 1), .int .u8 (aZ k.1 2), .int .u8 (aZ k.1 3), .int .u8 (aZ k.1 4), .int .u8 (aZ k.1 5), .int .u8 (aZ k.1 6), .int .u8 (aZ k.1 7)] 38)) #[.slice none 0 0, .slice none 0 0] 50; simpa using this)
 obtain ⟨W1, hw1⟩ : ∃ W1, W1 = (((w.alloc (.cells (gT tm t) 36)).alloc (.cells #[.int .u8 (aZ k.1 0), .int .u8 (aZ k.1 1), .int .u8 (aZ k.1 2), .int .u8 (aZ k.1 3), .int .u8 (aZ k.1 4), .int .u8 (aZ k.1 5), .int .u8 (aZ k.1 6), .int .u8 (aZ k.1 7)] 38)).alloc (.cells #[.slice none 0 0, .slice none 0 0] 50)) := ⟨_, rfl⟩
 obtain ⟨p5, hp5⟩ : ∃ p5, p5 = w.heap.size := ⟨_, rfl⟩
 obtain ⟨p6, hp6⟩ : ∃ p6, p6 = w.heap.size + 1 := ⟨_, rfl⟩
 obtain ⟨p8, hp8⟩ : ∃ p8, p8 = w.heap.size + 2 := ⟨_, rfl⟩
 rw [← hw1] at HXp5 HXp6 HXp8 hB2
 rw [← hp5] at HXp5
 rw [← hp6] at HXp6
 rw [← hp8] at HXp8
 have HW1 := aA hw1
 have HEp5 := aA hp5
 have HEp6 := aA hp6
 have HEp8 := aA hp8
 have HB := aA hB2
 have HNp5 : Hid (w.heap.size ≤ p5 ∧ p5 < W1.heap.size) := aA ⟨by omega, HXp5.out.lt⟩
 have HNp6 : Hid (w.heap.size ≤ p6 ∧ p6 < W1.heap.size) := aA ⟨by omega, HXp6.out.lt⟩
 have HNp8 : Hid (w.heap.size ≤ p8 ∧ p8 < W1.heap.size) := aA ⟨by omega, HXp8.out.lt⟩
 clear hw1 hA0 hB0 hA1 hB1 hA2 hB2 hp5 hp6 hp8
 have HR0 := aA (rl_more h (Nat.le_succ C))
 obtain ⟨vL, vH, vW, L, H, W, hT, hrep, hb, hcc, hF⟩ := h
 obtain rfl := hrep.us
 have HT := aA (hT.below HB.out)
 have hlen : (l.map usR).length ≤ 100 := by rw [List.length_map]; have := hb.few; omega
 have hb0 := lD
 have HERR := aA (fun (W' : World) (hB : Below w.heap.size w W') (er : Int) (hr : RAsk (dG tm t k m) l t tm k m er l [] []) => (⟨[], [], l, hr, rd_same HR0.out hB, World.ownsRow_nil _ _ _ _, World.ownsRow_nil _ _ _ _⟩ : AskQ w r F C l tm t k m (.slice none 0 0) (.slice none 0 0) er W'))
 have CT := aA (rstMay_any (tm : Int) (t.1 : Int) (t.2.1 : Int) (t.2.2 : Int) W1)
 obtain ⟨B1, hB1⟩ : ∃ B1, B1 = stMayB ((tm : Int), (t.1 : Int), (t.2.1 : Int), (t.2.2 : Int)) := ⟨_, rfl⟩
 obtain ⟨NB, hNB⟩ : ∃ NB, NB = (cU k.1).2 := ⟨_, rfl⟩
 rw [← hB1] at CT
 have HMAY : Hid (dG tm t k m = (B1 && (NB && (decide (m = 1) || decide (m = 2))))) := aA (by rw [hB1, hNB]; exact may15_split tm t k m)
 have CK : Hid (∀ V, Calls Tryz.prog 55 #[.agg (aK k.1)] V fun e w' => e = .returned (.bool NB) ∧ Below V.heap.size V w') := aA (fun V => by rw [hNB]; exact rkeyMay_any k.1 k.2 V)
 have HN3 : Hid (∀ k, F k → k ≠ p5 ∧ k ≠ p6 ∧ k ≠ p8) := aA (fun k hk => by have h1 := rl_lt HR0.out k hk; have h2 := HNp5.out.1; have h3 := HNp6.out.1; have h4 := HNp8.out.1; omega)
 have HRW : Hid (r < w.heap.size) := aA hT.box.lt
 have HREP := aA hrep
 have HLB := aA hb
 have HCC := aA hcc
 have HF := aA hF
 clear hB1 hNB hT hrep hb hcc hF
 go_enter Tryz.func31, Tryz.ntmps31
 go_wp2_with fail
 rw [← HW1.out, ← HEp8.out, ← HEp6.out, ← HEp5.out]
 refine CT.out.mono ?_
 rintro e W2 ⟨rfl, hB2⟩
 have HB12 := aA hB2
 have HX8 := aA (HXp8.out.belowI hB2)
 have HX6 := aA (HXp6.out.belowI hB2)
 have HBE := aA (HB.out.trans (hB2.mono HB.out.size))
 clear hB2 CT
 cases B1 with
 | false =>
  have HF1 : Hid (dG tm t k m = false) := aA (by rw [HMAY.out]; rfl)
  go_wp2_with (refine aP rfl rfl _ _ rfl p8 rfl (cs' := jL) rfl HX8.out rfl bM (by simp [Value.oneCell']) ?_; intro w4 hb4 hk4; have HX9 := aA hb4; have HK4 := aA hk4; clear hb4 hk4)
  exact bodyPost_ret (v := .tuple #[.agg jL, .int .i64 1]) (bB Tryz.results31 _ _ p8 rfl rfl HX9.out Tryz.underlying50 rfl bM) rfl ⟨_, _, _, rfl, HERR.out _ (HBE.out.trans (HK4.out.below HBE.out.size (fun k e => by rw [e]; exact HNp8.out.1))) 1 (.inl ⟨rfl, rfl, rfl, .inl ⟨HF1.out, rfl⟩⟩)⟩
 | true =>
 go_wp2_with (first | (refine aO rfl _ (t := 38) rfl (p6) (0) rfl (bP k.1) (fun j u hu => by rw [Nat.zero_add]; exact HX6.out.cell j u (by simpa using hu)) Tryz.underlying38 rfl cE ?_))
 refine (CK.out W2).mono ?_
 rintro e W3 ⟨rfl, hB3⟩
 replace HB12 := aA (HB12.out.trans (hB3.mono HB12.out.size))
 replace HX8 := aA (HX8.out.belowI hB3)
 replace HBE := aA (HBE.out.trans (hB3.mono HBE.out.size))
 clear hB3 CK HX6
 cases NB with
 | false =>
  have HF1 : Hid (dG tm t k m = false) := aA (by rw [HMAY.out]; rfl)
  go_wp2_with (refine aP rfl rfl _ _ rfl p8 rfl (cs' := jL) rfl HX8.out rfl bM (by simp [Value.oneCell']) ?_; intro w4 hb4 hk4; have HX9 := aA hb4; have HK4 := aA hk4; clear hb4 hk4)
  exact bodyPost_ret (v := .tuple #[.agg jL, .int .i64 1]) (bB Tryz.results31 _ _ p8 rfl rfl HX9.out Tryz.underlying50 rfl bM) rfl ⟨_, _, _, rfl, HERR.out _ (HBE.out.trans (HK4.out.below HBE.out.size (fun k e => by rw [e]; exact HNp8.out.1))) 1 (.inl ⟨rfl, rfl, rfl, .inl ⟨HF1.out, rfl⟩⟩)⟩
 | true =>
 by_cases hm0 : m = 0
 ·have HF1 : Hid (dG tm t k m = false) := aA (by rw [HMAY.out, hm0]; rfl)
  subst hm0
  go_wp2_with (refine aP rfl rfl _ _ rfl p8 rfl (cs' := jL) rfl HX8.out rfl bM (by simp [Value.oneCell']) ?_; intro w4 hb4 hk4; have HX9 := aA hb4; have HK4 := aA hk4; clear hb4 hk4)
  exact bodyPost_ret (v := .tuple #[.agg jL, .int .i64 1]) (bB Tryz.results31 _ _ p8 rfl rfl HX9.out Tryz.underlying50 rfl bM) rfl ⟨_, _, _, rfl, HERR.out _ (HBE.out.trans (HK4.out.below HBE.out.size (fun k e => by rw [e]; exact HNp8.out.1))) 1 (.inl ⟨rfl, rfl, rfl, .inl ⟨HF1.out, rfl⟩⟩)⟩
 by_cases hm2 : 2 < m
 ·have HF1 : Hid (dG tm t k m = false) := aA (by rw [HMAY.out, decide_eq_false (by omega), decide_eq_false (by omega)]; rfl)
  have g1 : ¬ (m : Int) < 1 := by omega
  have g2 : (m : Int) > 2 := by omega
  have g3 : (2 : Int) < (m : Int) := by omega
  clear hm0 hm2
  go_wp2_with (refine aP rfl rfl _ _ rfl p8 rfl (cs' := jL) rfl HX8.out rfl bM (by simp [Value.oneCell']) ?_; intro w4 hb4 hk4; have HX9 := aA hb4; have HK4 := aA hk4; clear hb4 hk4)
  exact bodyPost_ret (v := .tuple #[.agg jL, .int .i64 1]) (bB Tryz.results31 _ _ p8 rfl rfl HX9.out Tryz.underlying50 rfl bM) rfl ⟨_, _, _, rfl, HERR.out _ (HBE.out.trans (HK4.out.below HBE.out.size (fun k e => by rw [e]; exact HNp8.out.1))) 1 (.inl ⟨rfl, rfl, rfl, .inl ⟨HF1.out, rfl⟩⟩)⟩
 have g1 : ¬ (m : Int) < 1 := by omega
 have g2 : ¬ (m : Int) > 2 := by omega
 have g3 : ¬ (2 : Int) < (m : Int) := by omega
 have HM : Hid (m ≠ 0 ∧ m ≤ 2) := aA ⟨hm0, by omega⟩
 have HMT : Hid (dG tm t k m = true) := aA (by
  rw [HMAY.out]
  rcases (by omega : m = 1 ∨ m = 2) with e | e
  ·subst e; rfl
  ·subst e; rfl)
 clear hm0 hm2
 have HT3 := aA (HT.out.below HB12.out)
 have CF := aA (dZ r vL vH vW _ H W t W3 HT3.out hlen)
 have hX5 := HXp5.out.belowI HB12.out
 have x0 := hX5.cell 0 _ rfl
 have x1 := hX5.cell 1 _ rfl
 have x2 := hX5.cell 2 _ rfl
 have x3 := hX5.cell 3 _ rfl
 have CMO : Hid (∀ V, iU V r vL vH vW (l.map usR) H W → Calls Tryz.prog 18 #[.pointer (some ⟨r, 0, none⟩), aV t, .agg (aK k.1)] V fun e w' => e = .returned (.int .u8 ((aT l t).h k : Int)) ∧ Below V.heap.size V w') := aA (fun V hV => rmode_any15 r vL vH vW _ l H W t k V hV HREP.out.h HLB.out (by have := HCC.out; omega))
 go_wp2_with fail
 refine CF.out.mono ?_
 rintro e W4 ⟨rfl, hB4⟩
 replace HB12 := aA (HB12.out.trans (hB4.mono HB12.out.size))
 replace HX8 := aA (HX8.out.belowI hB4)
 replace HBE := aA (HBE.out.trans (hB4.mono HBE.out.size))
 have HT4 := aA (HT3.out.below hB4)
 clear hB4 CF HT3 hX5 x0 x1 x2 x3
 obtain ⟨aL, cL, hvL, _, _⟩ := HT4.out.sL.shape
 subst hvL
 have hll : (l.map usR).length = l.length := List.length_map _
 have m1 := HT4.out.c0
 rw [hll] at m1
 cases hu : cM l t with
 | none =>
  have HU := aA hu
  have HG0 : Hid ((aT l t).pr = false ∧ (aT l t).h k = 0) := aA (by rw [dA hu]; exact ⟨rfl, rfl⟩)
  rw [plU_no hu]
  clear hu
  by_cases h64 : 64 ≤ l.length
  ·have H64 := aA h64
   have h640 : ((l.length : Int)) ≥ 64 := by omega
   have h641 : (64 : Int) ≤ (l.length : Int) := by omega
   clear h64
   go_wp2_with (refine aP rfl rfl _ _ rfl p8 rfl (cs' := jL) rfl HX8.out rfl bM (by simp [Value.oneCell']) ?_; intro w4 hb4 hk4; have HX9 := aA hb4; have HK4 := aA hk4; clear hb4 hk4)
   exact bodyPost_ret (v := .tuple #[.agg jL, .int .i64 5]) (bB Tryz.results31 _ _ p8 rfl rfl HX9.out Tryz.underlying50 rfl bM) rfl ⟨_, _, _, rfl, HERR.out _ (HBE.out.trans (HK4.out.below HBE.out.size (fun k e => by rw [e]; exact HNp8.out.1))) 5 (.inl ⟨rfl, rfl, rfl, .inr ⟨HMT.out, .inr (.inl ⟨HU.out, H64.out, rfl⟩)⟩⟩)⟩
  ·have H64 : Hid (l.length < 64) := aA (by omega)
   have h640 : ¬ ((l.length : Int)) ≥ 64 := by omega
   have h641 : ¬ (64 : Int) ≤ (l.length : Int) := by omega
   have hX5 := HXp5.out.belowI HB12.out
   have x0 := hX5.cell 0 _ rfl
   have x1 := hX5.cell 1 _ rfl
   have x2 := hX5.cell 2 _ rfl
   have x3 := hX5.cell 3 _ rfl
   have HX6 := aA (HXp6.out.belowI HB12.out)
   rw [HG0.out.2] at CMO
   clear h64 hX5
   go_wp2_with (first | (refine aO rfl _ (t := 38) rfl (p6) (0) rfl (bP k.1) (fun j u hu => by rw [Nat.zero_add]; exact HX6.out.cell j u (by simpa using hu)) Tryz.underlying38 rfl cE ?_))
   refine (CMO.out W4 HT4.out).mono ?_
   rintro e W5 ⟨rfl, hB5⟩
   have HB15 := aA (HB12.out.trans (hB5.mono HB12.out.size))
   have HT5 := aA (HT4.out.below hB5)
   have hX5 := HXp5.out.belowI HB15.out
   have x0 := hX5.cell 0 _ rfl
   have x1 := hX5.cell 1 _ rfl
   have x2 := hX5.cell 2 _ rfl
   have x3 := hX5.cell 3 _ rfl
   have hbu := buildUs0R tm t
   have hge : ¬ (0 : Int) ≥ (m : Int) := by have := HM.out; omega
   have hge2 : ¬ (m : Int) ≤ 0 := by have := HM.out; omega
   have CA := aA (radd_any15 r _ _ _ _ H W ⟨t, tm, false⟩ W5 HT5.out hlen ht.1 (fun y hy => by
    obtain ⟨u, hu, rfl⟩ := List.mem_map.1 hy
    exact (HLB.out.oks u hu).1.1))
   clear hB5 hX5 CMO m1
   go_wp2_with fail
   refine CA.out.mono ?_
   rintro e W6 ⟨rfl, vL6, hP6⟩
   have HRA := aA (ask_new (tm := tm) HREP.out HU.out)
   have HAB := aA (ask_bR HLB.out (tm := tm) ht htm (fun _ => H64.out))
   have HPA := aA ((rput_below HT.out HB15.out).trans hP6)
   have HC1 : Hid ((aT l t).pr = false ∧ (cM l t = none → l.length < 64) ∧ (aT l t).h k < m) := aA ⟨HG0.out.1, fun _ => H64.out, by rw [HG0.out.2]; have := HM.out.1; omega⟩
   clear hP6 CA x0 x1 x2 x3 HT5 HT4
   clear hbu hge hge2 g1 g2 g3 h640 h641
   have hX5 := HXp5.out.keep HPA.out.k (fun e => by have h1 := HNp5.out.1; have h2 := HRW.out; omega)
   have x1 := hX5.cell 1 _ rfl
   have x2 := hX5.cell 2 _ rfl
   have x3 := hX5.cell 3 _ rfl
   have HX6 := aA (HXp6.out.keep HPA.out.k (fun e => by have h1 := HNp6.out.1; have h2 := HRW.out; omega))
   have hbm := buildGtmR t k (m : Int)
   have CW := aA (rwait_any15 r _ _ _ _ H W ⟨t, k, m⟩ W6 HPA.out.t (by have := HCC.out; omega))
   clear hX5 hb0
   go_wp2_with (first | (refine aO rfl _ (t := 38) rfl (p6) (0) rfl (bP k.1) (fun j u hu => by rw [Nat.zero_add]; exact HX6.out.cell j u (by simpa using hu)) Tryz.underlying38 rfl cE ?_))
   refine CW.out.mono ?_
   rintro e W7 ⟨g', WW, vW7, rfl, hP7, hor⟩
   obtain ⟨hR7, hgin, hgt, hgk, hlen7⟩ := wait_rep HRA.out HAB.out.1 HAB.out.2 HM.out.1 hor
   have HR7 := aA hR7
   have HGI := aA hgin
   have HGT := aA hgt
   have HGK := aA hgk
   have HL7 := aA hlen7
   have HP7 := aA (HPA.out.trans hP7)
   have HLB2 := aA (wait_bR HAB.out.1 t k HM.out.2)
   have HZ := aA (aN W7 #[.int .u8 0, .int .u32 0, .int .u32 0, .int .u8 0, .int .u8 0, .int .u8 0, .int .u8 0, .int .u8 0, .int .u8 0, .int .u8 0, .int .u8 0, .int .u8 0] 62)
   have HZB := aA (aE W7 (.cells #[.int .u8 0, .int .u32 0, .int .u32 0, .int .u8 0, .int .u8 0, .int .u8 0, .int .u8 0, .int .u8 0, .int .u8 0, .int .u8 0, .int .u8 0, .int .u8 0] 62))
   clear hP7 hor hR7 hgin hgt hgk hlen7 x1 x2 x3 hbm CW HX6
   go_wp2_with (first | (refine aO rfl _ (t := 62) rfl (W7.heap.size) (0) rfl (gtE g') (bE HX11.out) Tryz.underlying62 rfl bS ?_) | (refine aP rfl rfl _ _ rfl W7.heap.size rfl (cs' := bW g') rfl HZ.out rfl bS (by simp [Value.oneCell']) ?_; intro W8 hb3 hk3; have HX11 := aA hb3; have HB78 : Hid (Below W7.heap.size W7 W8) := aA (HZB.out.trans (hk3.below HZB.out.size (fun k hk => by omega))); clear hb3 hk3))
   obtain ⟨p11, hp11⟩ : ∃ p, p = W7.heap.size := ⟨_, rfl⟩
   rw [← hp11] at HX11 ⊢
   have HP11 := aA hp11
   clear HZ HZB hp11
   have HP8 := aA (HP7.out.after HB78.out)
   have CN : Hid (Calls Tryz.prog 60 #[.pointer (some ⟨r, 0, none⟩), .agg (bW g')] W8 fun e w' => ∃ v, e = .returned v ∧ w'.ownsRow W8.heap.size 34 3 v (dX (bG (cZ l t tm) t (bF k m)) t k).length (bR txE3 (dX (bG (cZ l t tm) t (bF k m)) t k)) ∧ Below W8.heap.size W8 w') := aA (by
    have := rwnd_any15 r _ _ _ _ _ H WW g' W8 HP8.out.t HR7.out HLB2.out HGI.out (by have := HCC.out; omega)
    rw [HGT.out, HGK.out] at this
    exact this)
   obtain ⟨wn, hwn⟩ : ∃ wn, wn = dX (bG (cZ l t tm) t (bF k m)) t k := ⟨_, rfl⟩
   rw [← hwn] at CN
   have HWN := aA hwn
   have hb2 := buildOut2R
   clear hwn
   refine CN.out.mono ?_
   rintro e W9 ⟨vwn, rfl, hown, hB9⟩
   obtain ⟨aw, cw, hv, _⟩ := aQ hown
   subst hv
   obtain ⟨nw, hnw⟩ : ∃ nw, nw = wn.length := ⟨_, rfl⟩
   rw [← hnw] at hown ⊢
   have HNW := aA hnw
   have hnw64 : nw ≤ 64 := by rw [hnw, HWN.out]; exact wnd_lenR HLB2.out t k
   have HOW := aA hown
   have HB89 := aA hB9
   have HZ := aA (aN W9 jL 50)
   have HZB := aA (aE W9 (.cells jL 50))
   clear hown hB9 CN hnw
   go_wp2_with (refine aP rfl rfl _ _ rfl W9.heap.size rfl (cs' := #[.slice aw nw cw, .slice none 0 0]) rfl HZ.out rfl bM (by simp [Value.oneCell']) ?_; intro WT hb3 hk3; have HX12 := aA hb3; have HB9T : Hid (Below W9.heap.size W9 WT) := aA (HZB.out.trans (hk3.below HZB.out.size (fun k hk => by omega))); clear hb3 hk3)
   obtain ⟨p12, hp12⟩ : ∃ p, p = W9.heap.size := ⟨_, rfl⟩
   rw [← hp12] at HX12 ⊢
   have HP12 := aA hp12
   clear HZ HZB hp12 hb2 HX11
   have HBT := aA (HB89.out.trans (HB9T.out.mono HB89.out.size))
   have HPT := aA (HP8.out.after HBT.out)
   have HOT := aA (aJ HOW.out (aC.of_below (fun _ => False) HB9T.out) (fun _ _ h => h))
   have HBW : Hid (∀ g, (Value.slice aw nw cw).ownBlock = some g → W8.heap.size ≤ g ∧ g < W9.heap.size) := aA (fun g hg => ⟨(HOW.out.lt g hg).1, (HOW.out.lt g hg).2⟩)
   have HSZ : Hid (r < w.heap.size ∧ w.heap.size ≤ W1.heap.size ∧ W1.heap.size ≤ W7.heap.size ∧ W7.heap.size ≤ W8.heap.size ∧ W8.heap.size ≤ W9.heap.size ∧ p12 = W9.heap.size ∧ p12 < WT.heap.size) := aA ⟨HRW.out, HB.out.size, HP7.out.k.size, HB78.out.size, HB89.out.size, HP12.out, HX12.out.lt⟩
   have HU7 : Hid (∀ g, dQ vL6 vH vW7 g → g < W7.heap.size) := aA (fun g hg => (HP7.out.t.far g hg).1)
   have HWI : Hid (∀ j (hj : j < wn.length), ∃ x ∈ cY (bG (cZ l t tm) t (bF k m)) (wn.take j), x.tx = wn[j]) := aA (by
    have e := HWN.out
    subst e
    exact fun j hj => less_in HLB2.out hj)
   go_wp2_with fail
   go_loopg [13] nw (fun gf i wr => ∃ (j : Nat) (vL8 vH8 vW8 : Value) (L8 : List UsR) (H8 W8' : List (cD KeyT)), j + gf = nw ∧ i = .int .i64 (j : Int) ∧ Hid (dC WT wr r vL6 vH vW7 vL8 vH8 vW8 L8 H8 W8') ∧ Hid (eF (cY (bG (cZ l t tm) t (bF k m)) (wn.take j)) L8 H8 W8') ∧ Hid (H8.length ≤ H.length ∧ W8'.length ≤ W.length + 1))
   case atStart => exact ⟨0, _, _, _, _, _, _, by omega, rfl, aA ⟨HPT.out.t, aC.refl _ _, fun _ e => .inl e⟩, aA (by rw [List.take_zero, less_nilR]; exact HR7.out), aA ⟨Nat.le_refl _, HL7.out⟩⟩
   case round =>
    obtain ⟨j, vL8, vH8, vW8, L8, H8, W8', hj, rfl, HPB, HRB, HLE⟩ := hrel
    have HX12r := aA (HX12.out.keep HPB.out.k (fun e => by have := HSZ.out; omega))
    have x0 := HX12r.out.cell 0 _ rfl
    cases gk with
    | zero =>
     obtain rfl : j = nw := by omega
     have hzj : ¬ ((j : Int) < (j : Int)) := by omega
     have HRF : Hid (eF (cY (bG (cZ l t tm) t (bF k m)) wn) L8 H8 W8') := aA (by have h1 := HRB.out; rw [HNW.out, List.take_length] at h1; exact h1)
     have HPW := aA (HPT.out.trans HPB.out)
     have HRL : Hid (dR wr r (fun j => j = r ∨ dQ vL8 vH8 vW8 j) (C + 1) (cY (bG (cZ l t tm) t (bF k m)) wn)) := aA ⟨vL8, vH8, vW8, L8, H8, W8', HPW.out.t, HRF.out, less_b HLB2.out _, by have h1 := HLE.out; have h2 := HCC.out; omega, fun _ => Iff.rfl⟩
     have CO := aA (ron_any15 r (C + 1) _ _ wr HRL.out hC)
     have HNU : Hid (∀ g, (g = r ∨ dQ vL8 vH8 vW8 g) → g < W7.heap.size ∨ WT.heap.size ≤ g) := aA (fun g hg => by
      have h2 := HSZ.out
      rcases hg with rfl | hg
      ·exact .inl (by omega)
      ·rcases HPB.out.u g hg with e | e
       ·exact .inl (HU7.out g e)
       ·exact .inr e)
     have HOr := aA (aJ HOT.out HPB.out.k (fun g hg e => by have h1 := HBW.out g hg; have h2 := HSZ.out; have e : g = r := e; omega))
     go_wp2_with fail
     refine CO.out.mono ?_
     rintro e WX ⟨v, rfl, gr, l', hon, hld, hown2⟩
     obtain ⟨av, cv, hv, _⟩ := aQ hown2
     subst hv
     obtain ⟨ng, hng⟩ : ∃ ng, ng = gr.length := ⟨_, rfl⟩
     rw [← hng] at hown2 ⊢
     have HNG := aA hng
     have HON := aA hon
     have HOG := aA hown2
     have HKX : Hid (aC (fun j => j = r ∨ dQ vL8 vH8 vW8 j) wr WX) := aA (by obtain ⟨_, _, hk, _⟩ := hld; exact hk)
     have HAL := aA (ask_ld HF.out HPW.out hld)
     have HX12X := aA (HX12r.out.keep HKX.out (fun e => by have h1 := HNU.out p12 e; have h2 := HSZ.out; omega))
     have HOX := aA (aJ HOr.out HKX.out (fun g hg e => by have h1 := HBW.out g hg; have h2 := HSZ.out; have h3 := HNU.out g e; omega))
     have HS12 := aA (HX12X.out.set (i := 1) (v := .slice av ng cv))
     have x1 := HX12X.out.cell 1 _ rfl
     have xf := HX12X.out.frozen 1
     have xl := HX12X.out.lt
     clear hon hld hown2 CO hng x0
     have HX8Y : Hid (bZ (WX.setCell ⟨p12, 1, none⟩ (.slice av ng cv)) p8 #[.slice none 0 0, .slice none 0 0] 50) := aA (by
      obtain ⟨F2, d2, k2, s2, s3⟩ := HAL.out
      exact (HXp8.out.keep k2 (fun e => (HN3.out p8 e).2.2 rfl)).keep ((aC.refl (fun k => k = p12) WX).setCell (p := ⟨p12, 1, none⟩) (.inl rfl) _) (fun e => by have h1 := HNp8.out; have h2 := HSZ.out; have e : p8 = p12 := e; omega))
     go_wp2_with (first
      | (refine dM rfl _ rfl p12 rfl HS12.out Tryz.underlying50 rfl bM ?_)
      | (refine aP rfl rfl _ _ rfl p8 rfl (cs' := #[.slice aw j cw, .slice av ng cv]) rfl HX8Y.out rfl bM (by simp [Value.oneCell']) ?_; intro w5 hb5 hk5; have HX9 := aA hb5; have HK9 := aA hk5; clear hb5 hk5))
     have HKY : Hid (aC (fun j => j = p12) WX (WX.setCell ⟨p12, 1, none⟩ (.slice av ng cv))) := aA ((aC.refl (fun k => k = p12) WX).setCell (p := ⟨p12, 1, none⟩) (.inl rfl) _)
     have HLY : Hid (fP dR W1 (WX.setCell ⟨p12, 1, none⟩ (.slice av ng cv)) r F (C + 1) l') := aA (by
      obtain ⟨F2, d2, k2, s2, s3⟩ := HAL.out
      exact ⟨F2, rl_keep d2 HKY.out (fun g hg e => by have h1 := HSZ.out; have h4 := HPB.out.k.size; have e : g = p12 := e; exact (s3 g hg).elim (fun h5 => by have h6 := HNU.out g h5; omega) (fun h5 => by omega)), k2.trans HKY.out (fun g hg e => by have h1 := HSZ.out; have e : g = p12 := e; omega), s2⟩)
     have HOXY := aA (aJ HOX.out HKY.out (fun g hg e => by have h1 := HBW.out g hg; have h2 := HSZ.out; have e : g = p12 := e; omega))
     have HOGY := aA (aJ HOG.out HKY.out (fun g hg e => by have h1 := (HOG.out.lt g hg).1; have h2 := HSZ.out; have h4 := HPB.out.k.size; have e : g = p12 := e; omega))
     have HOX9 := aA (bQ (aJ HOXY.out HK9.out (fun g hg e => by have h1 := HBW.out g hg; have h2 := HSZ.out; have h3 := HNp8.out; have e : g = p8 := e; omega)) (by have h2 := HSZ.out; omega : w.heap.size ≤ W8.heap.size))
     have HOG9 := aA (bQ (aJ HOGY.out HK9.out (fun g hg e => by have h1 := (HOG.out.lt g hg).1; have h2 := HSZ.out; have h3 := HNp8.out; have h4 := HPB.out.k.size; have e : g = p8 := e; omega)) (by have h2 := HSZ.out; have h4 := HPB.out.k.size; omega : w.heap.size ≤ wr.heap.size))
     exact bodyPost_ret (v := .tuple #[.agg #[.slice aw j cw, .slice av ng cv], .int .i64 0]) (bB Tryz.results31 _ _ p8 rfl rfl HX9.out Tryz.underlying50 rfl bM) rfl ⟨_, _, _, rfl, wn, gr, l', .inr ⟨HMT.out, HC1.out.1, HC1.out.2.1, HC1.out.2.2, rfl, HWN.out, HON.out⟩, rd_box HR0.out HB.out HNp8.out.1 HNp8.out.2 HLY.out HK9.out, by rw [← HNW.out]; exact HOX9.out, by rw [← HNG.out]; exact HOG9.out⟩
    | succ gj =>
     have hjI : (j : Int) < (nw : Int) := by omega
     have hjn : j < wn.length := by rw [← HNW.out]; omega
     have HOr := aA (aJ HOT.out HPB.out.k (fun g hg e => by have h1 := HBW.out g hg; have h2 := HSZ.out; have e : g = r := e; omega))
     have hs := bI.of_own (by rw [← HNW.out]; exact HOr.out : wr.ownsRow W8.heap.size 34 3 (.slice aw nw cw) wn.length (bR txE3 wn))
     obtain ⟨en, ob, oo, hao, hob, hcj⟩ := hs.at dP.len hjn
     subst hao
     have kc0 := hcj 0 _ rfl
     have kc1 := hcj 1 _ rfl
     have kc2 := hcj 2 _ rfl
     rw [Nat.add_zero] at kc0
     have hjN : j < nw := by omega
     have CG : Hid (∀ V, iU V r vL8 vH8 vW8 L8 H8 W8' → Calls Tryz.prog 53 #[.pointer (some ⟨r, 0, none⟩), aV wn[j]] V fun e w' => e = .returned (.tuple #[]) ∧ ∃ vL' vH' vW' L' H' W', dC V w' r vL8 vH8 vW8 vL' vH' vW' L' H' W' ∧ eF (cY (bG (cZ l t tm) t (bF k m)) (wn.take (j + 1))) L' H' W' ∧ H'.length ≤ H8.length ∧ W'.length ≤ W8'.length) := aA (fun V hV => by
      obtain ⟨x, hx, ex⟩ := HWI.out j hjn
      have h1 := rgone_any15 r _ _ _ _ _ H8 W8' x V hV HRB.out (less_b HLB2.out _) hx (by have h1 := HLE.out; have h2 := HCC.out; omega)
      rw [ex] at h1
      refine h1.mono ?_
      rintro e w' ⟨rfl, vL', vH', vW', hp⟩
      have h2 := drop_rep HRB.out wn[j]
      rw [less_next hjn] at h2 hp
      exact ⟨rfl, vL', vH', vW', _, _, _, hp, h2, List.length_filter_le _ _, List.length_filter_le _ _⟩)
     generalize wn[j] = y at *
     clear en hcj hob hs
     go_wp2_with fail
     refine (CG.out wr HPB.out.t).mono ?_
     rintro e W10 ⟨rfl, vL9, vH9, vW9, L9, H9, W9', hP9, hR9, hl1, hl2⟩
     have HP9 := aA (HPB.out.trans hP9)
     have HR9 := aA hR9
     have HL9 : Hid (H9.length ≤ H.length ∧ W9'.length ≤ W.length + 1) := aA ⟨Nat.le_trans hl1 HLE.out.1, Nat.le_trans hl2 HLE.out.2⟩
     clear hP9 hR9 hl1 hl2 CG
     all_goals go_wp2_with fail
     all_goals go_roundg gj
     all_goals first
      | (case measure => omega)
      | (case rel => exact ⟨j + 1, _, _, _, _, _, _, by omega, by first | rfl | go_num, HP9, HR9, HL9⟩)
 | some x =>
  obtain ⟨hx, ext⟩ := (bT HLB.out).1 hu
  obtain ⟨ka, hk1, hka, hkg⟩ := plU_us HLB.out hx
  rw [ext] at hk1
  have HGX : Hid (aT l t = x) := aA (by rw [← ext]; exact bH HLB.out hx)
  have HU := aA hu
  rw [hk1]
  have hka0 : ¬ (ka : Int) < 0 := by omega
  have hka1 : (0 : Int) ≤ (ka : Int) := by omega
  have hka2 : (ka : Int) ≥ 0 := by omega
  have hkal : ka < l.length := by rw [← hll]; exact hka
  have hkaI : (ka : Int) < (l.length : Int) := by omega
  obtain ⟨en, b, off, hao, hbl, hc⟩ := HT4.out.sL.at eJ.len hka
  subst hao
  have r4 := hc 4 (.bool x.pr) (by rw [hkg]; rfl)
  obtain ⟨bp, hbp⟩ : ∃ bp, bp = x.pr := ⟨_, rfl⟩
  rw [← hbp] at r4
  have HBP := aA hbp
  have hX5 := HXp5.out.belowI HB12.out
  have x0 := hX5.cell 0 _ rfl
  have x1 := hX5.cell 1 _ rfl
  have x2 := hX5.cell 2 _ rfl
  have x3 := hX5.cell 3 _ rfl
  have HX6 := aA (HXp6.out.belowI HB12.out)
  have CM2 : Hid (Calls Tryz.prog 18 #[.pointer (some ⟨r, 0, none⟩), aV t, .agg (aK k.1)] W4 fun e w' => e = .returned (.int .u8 (x.h k : Int)) ∧ Below W4.heap.size W4 w') := aA (by have := CMO.out W4 HT4.out; rw [HGX.out] at this; exact this)
  clear hu hx ext hk1 hkg en hc hbp hX5 CMO hka hbl
  cases bp with
  | true =>
   clear x0 x1 x2 x3 CM2 HX6
   go_wp2_with (refine aP rfl rfl _ _ rfl p8 rfl (cs' := jL) rfl HX8.out rfl bM (by simp [Value.oneCell']) ?_; intro w4 hb4 hk4; have HX9 := aA hb4; have HK4 := aA hk4; clear hb4 hk4)
   exact bodyPost_ret (v := .tuple #[.agg jL, .int .i64 11]) (bB Tryz.results31 _ _ p8 rfl rfl HX9.out Tryz.underlying50 rfl bM) rfl ⟨_, _, _, rfl, HERR.out _ (HBE.out.trans (HK4.out.below HBE.out.size (fun k e => by rw [e]; exact HNp8.out.1))) 11 (.inl ⟨rfl, rfl, rfl, .inr ⟨HMT.out, .inl ⟨by rw [HGX.out]; exact HBP.out.symm, rfl⟩⟩⟩)⟩
  | false =>
   by_cases hmo : m ≤ x.h k
   ·have g4 : ((x.h k : Nat) : Int) ≥ (m : Int) := by omega
    have g5 : (m : Int) ≤ ((x.h k : Nat) : Int) := by omega
    have HMO := aA hmo
    clear hmo
    go_wp2_with (first | (refine aO rfl _ (t := 38) rfl (p6) (0) rfl (bP k.1) (fun j u hu => by rw [Nat.zero_add]; exact HX6.out.cell j u (by simpa using hu)) Tryz.underlying38 rfl cE ?_))
    refine CM2.out.mono ?_
    rintro e W5 ⟨rfl, hB5⟩
    replace HX8 := aA (HX8.out.belowI hB5)
    replace HBE := aA (HBE.out.trans (hB5.mono HBE.out.size))
    clear hB5 CM2 HX6 x0 x1 x2 x3 m1 r4
    go_wp2_with (refine aP rfl rfl _ _ rfl p8 rfl (cs' := jL) rfl HX8.out rfl bM (by simp [Value.oneCell']) ?_; intro w4 hb4 hk4; have HX9 := aA hb4; have HK4 := aA hk4; clear hb4 hk4)
    exact bodyPost_ret (v := .tuple #[.agg jL, .int .i64 0]) (bB Tryz.results31 _ _ p8 rfl rfl HX9.out Tryz.underlying50 rfl bM) rfl ⟨_, _, _, rfl, HERR.out _ (HBE.out.trans (HK4.out.below HBE.out.size (fun k e => by rw [e]; exact HNp8.out.1))) 0 (.inl ⟨rfl, rfl, rfl, .inr ⟨HMT.out, .inr (.inr ⟨⟨x, HU.out, HBP.out.symm, HMO.out⟩, rfl⟩)⟩⟩)⟩
   ·have hge : ¬ ((x.h k : Nat) : Int) ≥ (m : Int) := by omega
    have hge2 : ¬ (m : Int) ≤ ((x.h k : Nat) : Int) := by omega
    have HMO : Hid (x.h k < m) := aA (by omega)
    clear hmo
    go_wp2_with (first | (refine aO rfl _ (t := 38) rfl (p6) (0) rfl (bP k.1) (fun j u hu => by rw [Nat.zero_add]; exact HX6.out.cell j u (by simpa using hu)) Tryz.underlying38 rfl cE ?_))
    refine CM2.out.mono ?_
    rintro e W6 ⟨rfl, hB5⟩
    have HB16 := aA (HB12.out.trans (hB5.mono HB12.out.size))
    have HRA : Hid (eF (cZ l t tm) (l.map usR) H W) := aA (by unfold cZ; rw [HU.out, Option.isSome_some, if_pos rfl]; exact HREP.out)
    have HAB := aA (ask_bR HLB.out (tm := tm) ht htm (fun e => by rw [HU.out] at e; cases e))
    obtain ⟨vL6, hvL6⟩ : ∃ v, v = Value.slice (some ⟨b, off, none⟩) (l.map usR).length cL := ⟨_, rfl⟩
    have HPA : Hid (dC W1 W6 r (.slice (some ⟨b, off, none⟩) (l.map usR).length cL) vH vW vL6 vH vW (l.map usR) H W) := aA (by rw [hvL6]; exact rput_below HT.out HB16.out)
    have HC1 : Hid ((aT l t).pr = false ∧ (cM l t = none → l.length < 64) ∧ (aT l t).h k < m) := aA ⟨by rw [HGX.out]; exact HBP.out.symm, (fun e => by rw [HU.out] at e; cases e), by rw [HGX.out]; exact HMO.out⟩
    clear hB5 CM2 HX6 x0 x1 x2 x3 m1 r4 hvL6 g1 g2 g3
    have hX5 := HXp5.out.keep HPA.out.k (fun e => by have h1 := HNp5.out.1; have h2 := HRW.out; omega)
    have x1 := hX5.cell 1 _ rfl
    have x2 := hX5.cell 2 _ rfl
    have x3 := hX5.cell 3 _ rfl
    have HX6 := aA (HXp6.out.keep HPA.out.k (fun e => by have h1 := HNp6.out.1; have h2 := HRW.out; omega))
    have hbm := buildGtmR t k (m : Int)
    have CW := aA (rwait_any15 r _ _ _ _ H W ⟨t, k, m⟩ W6 HPA.out.t (by have := HCC.out; omega))
    clear hX5 hb0
    go_wp2_with (first | (refine aO rfl _ (t := 38) rfl (p6) (0) rfl (bP k.1) (fun j u hu => by rw [Nat.zero_add]; exact HX6.out.cell j u (by simpa using hu)) Tryz.underlying38 rfl cE ?_))
    refine CW.out.mono ?_
    rintro e W7 ⟨g', WW, vW7, rfl, hP7, hor⟩
    obtain ⟨hR7, hgin, hgt, hgk, hlen7⟩ := wait_rep HRA.out HAB.out.1 HAB.out.2 HM.out.1 hor
    have HR7 := aA hR7
    have HGI := aA hgin
    have HGT := aA hgt
    have HGK := aA hgk
    have HL7 := aA hlen7
    have HP7 := aA (HPA.out.trans hP7)
    have HLB2 := aA (wait_bR HAB.out.1 t k HM.out.2)
    have HZ := aA (aN W7 #[.int .u8 0, .int .u32 0, .int .u32 0, .int .u8 0, .int .u8 0, .int .u8 0, .int .u8 0, .int .u8 0, .int .u8 0, .int .u8 0, .int .u8 0, .int .u8 0] 62)
    have HZB := aA (aE W7 (.cells #[.int .u8 0, .int .u32 0, .int .u32 0, .int .u8 0, .int .u8 0, .int .u8 0, .int .u8 0, .int .u8 0, .int .u8 0, .int .u8 0, .int .u8 0, .int .u8 0] 62))
    clear hP7 hor hR7 hgin hgt hgk hlen7 x1 x2 x3 hbm CW HX6
    go_wp2_with (first | (refine aO rfl _ (t := 62) rfl (W7.heap.size) (0) rfl (gtE g') (bE HX11.out) Tryz.underlying62 rfl bS ?_) | (refine aP rfl rfl _ _ rfl W7.heap.size rfl (cs' := bW g') rfl HZ.out rfl bS (by simp [Value.oneCell']) ?_; intro W8 hb3 hk3; have HX11 := aA hb3; have HB78 : Hid (Below W7.heap.size W7 W8) := aA (HZB.out.trans (hk3.below HZB.out.size (fun k hk => by omega))); clear hb3 hk3))
    obtain ⟨p11, hp11⟩ : ∃ p, p = W7.heap.size := ⟨_, rfl⟩
    rw [← hp11] at HX11 ⊢
    have HP11 := aA hp11
    clear HZ HZB hp11
    have HP8 := aA (HP7.out.after HB78.out)
    have CN : Hid (Calls Tryz.prog 60 #[.pointer (some ⟨r, 0, none⟩), .agg (bW g')] W8 fun e w' => ∃ v, e = .returned v ∧ w'.ownsRow W8.heap.size 34 3 v (dX (bG (cZ l t tm) t (bF k m)) t k).length (bR txE3 (dX (bG (cZ l t tm) t (bF k m)) t k)) ∧ Below W8.heap.size W8 w') := aA (by
     have := rwnd_any15 r _ _ _ _ _ H WW g' W8 HP8.out.t HR7.out HLB2.out HGI.out (by have := HCC.out; omega)
     rw [HGT.out, HGK.out] at this
     exact this)
    obtain ⟨wn, hwn⟩ : ∃ wn, wn = dX (bG (cZ l t tm) t (bF k m)) t k := ⟨_, rfl⟩
    rw [← hwn] at CN
    have HWN := aA hwn
    have hb2 := buildOut2R
    clear hwn
    refine CN.out.mono ?_
    rintro e W9 ⟨vwn, rfl, hown, hB9⟩
    obtain ⟨aw, cw, hv, _⟩ := aQ hown
    subst hv
    obtain ⟨nw, hnw⟩ : ∃ nw, nw = wn.length := ⟨_, rfl⟩
    rw [← hnw] at hown ⊢
    have HNW := aA hnw
    have hnw64 : nw ≤ 64 := by rw [hnw, HWN.out]; exact wnd_lenR HLB2.out t k
    have HOW := aA hown
    have HB89 := aA hB9
    have HZ := aA (aN W9 jL 50)
    have HZB := aA (aE W9 (.cells jL 50))
    clear hown hB9 CN hnw
    go_wp2_with (refine aP rfl rfl _ _ rfl W9.heap.size rfl (cs' := #[.slice aw nw cw, .slice none 0 0]) rfl HZ.out rfl bM (by simp [Value.oneCell']) ?_; intro WT hb3 hk3; have HX12 := aA hb3; have HB9T : Hid (Below W9.heap.size W9 WT) := aA (HZB.out.trans (hk3.below HZB.out.size (fun k hk => by omega))); clear hb3 hk3)
    obtain ⟨p12, hp12⟩ : ∃ p, p = W9.heap.size := ⟨_, rfl⟩
    rw [← hp12] at HX12 ⊢
    have HP12 := aA hp12
    clear HZ HZB hp12 hb2 HX11
    have HBT := aA (HB89.out.trans (HB9T.out.mono HB89.out.size))
    have HPT := aA (HP8.out.after HBT.out)
    have HOT := aA (aJ HOW.out (aC.of_below (fun _ => False) HB9T.out) (fun _ _ h => h))
    have HBW : Hid (∀ g, (Value.slice aw nw cw).ownBlock = some g → W8.heap.size ≤ g ∧ g < W9.heap.size) := aA (fun g hg => ⟨(HOW.out.lt g hg).1, (HOW.out.lt g hg).2⟩)
    have HSZ : Hid (r < w.heap.size ∧ w.heap.size ≤ W1.heap.size ∧ W1.heap.size ≤ W7.heap.size ∧ W7.heap.size ≤ W8.heap.size ∧ W8.heap.size ≤ W9.heap.size ∧ p12 = W9.heap.size ∧ p12 < WT.heap.size) := aA ⟨HRW.out, HB.out.size, HP7.out.k.size, HB78.out.size, HB89.out.size, HP12.out, HX12.out.lt⟩
    have HU7 : Hid (∀ g, dQ vL6 vH vW7 g → g < W7.heap.size) := aA (fun g hg => (HP7.out.t.far g hg).1)
    have HWI : Hid (∀ j (hj : j < wn.length), ∃ x ∈ cY (bG (cZ l t tm) t (bF k m)) (wn.take j), x.tx = wn[j]) := aA (by
     have e := HWN.out
     subst e
     exact fun j hj => less_in HLB2.out hj)
    go_wp2_with fail
    go_loopg [13] nw (fun gf i wr => ∃ (j : Nat) (vL8 vH8 vW8 : Value) (L8 : List UsR) (H8 W8' : List (cD KeyT)), j + gf = nw ∧ i = .int .i64 (j : Int) ∧ Hid (dC WT wr r vL6 vH vW7 vL8 vH8 vW8 L8 H8 W8') ∧ Hid (eF (cY (bG (cZ l t tm) t (bF k m)) (wn.take j)) L8 H8 W8') ∧ Hid (H8.length ≤ H.length ∧ W8'.length ≤ W.length + 1))
    case atStart => exact ⟨0, _, _, _, _, _, _, by omega, rfl, aA ⟨HPT.out.t, aC.refl _ _, fun _ e => .inl e⟩, aA (by rw [List.take_zero, less_nilR]; exact HR7.out), aA ⟨Nat.le_refl _, HL7.out⟩⟩
    case round =>
     obtain ⟨j, vL8, vH8, vW8, L8, H8, W8', hj, rfl, HPB, HRB, HLE⟩ := hrel
     have HX12r := aA (HX12.out.keep HPB.out.k (fun e => by have := HSZ.out; omega))
     have x0 := HX12r.out.cell 0 _ rfl
     cases gk with
     | zero =>
      obtain rfl : j = nw := by omega
      have hzj : ¬ ((j : Int) < (j : Int)) := by omega
      have HRF : Hid (eF (cY (bG (cZ l t tm) t (bF k m)) wn) L8 H8 W8') := aA (by have h1 := HRB.out; rw [HNW.out, List.take_length] at h1; exact h1)
      have HPW := aA (HPT.out.trans HPB.out)
      have HRL : Hid (dR wr r (fun j => j = r ∨ dQ vL8 vH8 vW8 j) (C + 1) (cY (bG (cZ l t tm) t (bF k m)) wn)) := aA ⟨vL8, vH8, vW8, L8, H8, W8', HPW.out.t, HRF.out, less_b HLB2.out _, by have h1 := HLE.out; have h2 := HCC.out; omega, fun _ => Iff.rfl⟩
      have CO := aA (ron_any15 r (C + 1) _ _ wr HRL.out hC)
      have HNU : Hid (∀ g, (g = r ∨ dQ vL8 vH8 vW8 g) → g < W7.heap.size ∨ WT.heap.size ≤ g) := aA (fun g hg => by
       have h2 := HSZ.out
       rcases hg with rfl | hg
       ·exact .inl (by omega)
       ·rcases HPB.out.u g hg with e | e
        ·exact .inl (HU7.out g e)
        ·exact .inr e)
      have HOr := aA (aJ HOT.out HPB.out.k (fun g hg e => by have h1 := HBW.out g hg; have h2 := HSZ.out; have e : g = r := e; omega))
      go_wp2_with fail
      refine CO.out.mono ?_
      rintro e WX ⟨v, rfl, gr, l', hon, hld, hown2⟩
      obtain ⟨av, cv, hv, _⟩ := aQ hown2
      subst hv
      obtain ⟨ng, hng⟩ : ∃ ng, ng = gr.length := ⟨_, rfl⟩
      rw [← hng] at hown2 ⊢
      have HNG := aA hng
      have HON := aA hon
      have HOG := aA hown2
      have HKX : Hid (aC (fun j => j = r ∨ dQ vL8 vH8 vW8 j) wr WX) := aA (by obtain ⟨_, _, hk, _⟩ := hld; exact hk)
      have HAL := aA (ask_ld HF.out HPW.out hld)
      have HX12X := aA (HX12r.out.keep HKX.out (fun e => by have h1 := HNU.out p12 e; have h2 := HSZ.out; omega))
      have HOX := aA (aJ HOr.out HKX.out (fun g hg e => by have h1 := HBW.out g hg; have h2 := HSZ.out; have h3 := HNU.out g e; omega))
      have HS12 := aA (HX12X.out.set (i := 1) (v := .slice av ng cv))
      have x1 := HX12X.out.cell 1 _ rfl
      have xf := HX12X.out.frozen 1
      have xl := HX12X.out.lt
      clear hon hld hown2 CO hng x0
      have HX8Y : Hid (bZ (WX.setCell ⟨p12, 1, none⟩ (.slice av ng cv)) p8 #[.slice none 0 0, .slice none 0 0] 50) := aA (by
       obtain ⟨F2, d2, k2, s2, s3⟩ := HAL.out
       exact (HXp8.out.keep k2 (fun e => (HN3.out p8 e).2.2 rfl)).keep ((aC.refl (fun k => k = p12) WX).setCell (p := ⟨p12, 1, none⟩) (.inl rfl) _) (fun e => by have h1 := HNp8.out; have h2 := HSZ.out; have e : p8 = p12 := e; omega))
      go_wp2_with (first
       | (refine dM rfl _ rfl p12 rfl HS12.out Tryz.underlying50 rfl bM ?_)
       | (refine aP rfl rfl _ _ rfl p8 rfl (cs' := #[.slice aw j cw, .slice av ng cv]) rfl HX8Y.out rfl bM (by simp [Value.oneCell']) ?_; intro w5 hb5 hk5; have HX9 := aA hb5; have HK9 := aA hk5; clear hb5 hk5))
      have HKY : Hid (aC (fun j => j = p12) WX (WX.setCell ⟨p12, 1, none⟩ (.slice av ng cv))) := aA ((aC.refl (fun k => k = p12) WX).setCell (p := ⟨p12, 1, none⟩) (.inl rfl) _)
      have HLY : Hid (fP dR W1 (WX.setCell ⟨p12, 1, none⟩ (.slice av ng cv)) r F (C + 1) l') := aA (by
       obtain ⟨F2, d2, k2, s2, s3⟩ := HAL.out
       exact ⟨F2, rl_keep d2 HKY.out (fun g hg e => by have h1 := HSZ.out; have h4 := HPB.out.k.size; have e : g = p12 := e; exact (s3 g hg).elim (fun h5 => by have h6 := HNU.out g h5; omega) (fun h5 => by omega)), k2.trans HKY.out (fun g hg e => by have h1 := HSZ.out; have e : g = p12 := e; omega), s2⟩)
      have HOXY := aA (aJ HOX.out HKY.out (fun g hg e => by have h1 := HBW.out g hg; have h2 := HSZ.out; have e : g = p12 := e; omega))
      have HOGY := aA (aJ HOG.out HKY.out (fun g hg e => by have h1 := (HOG.out.lt g hg).1; have h2 := HSZ.out; have h4 := HPB.out.k.size; have e : g = p12 := e; omega))
      have HOX9 := aA (bQ (aJ HOXY.out HK9.out (fun g hg e => by have h1 := HBW.out g hg; have h2 := HSZ.out; have h3 := HNp8.out; have e : g = p8 := e; omega)) (by have h2 := HSZ.out; omega : w.heap.size ≤ W8.heap.size))
      have HOG9 := aA (bQ (aJ HOGY.out HK9.out (fun g hg e => by have h1 := (HOG.out.lt g hg).1; have h2 := HSZ.out; have h3 := HNp8.out; have h4 := HPB.out.k.size; have e : g = p8 := e; omega)) (by have h2 := HSZ.out; have h4 := HPB.out.k.size; omega : w.heap.size ≤ wr.heap.size))
      exact bodyPost_ret (v := .tuple #[.agg #[.slice aw j cw, .slice av ng cv], .int .i64 0]) (bB Tryz.results31 _ _ p8 rfl rfl HX9.out Tryz.underlying50 rfl bM) rfl ⟨_, _, _, rfl, wn, gr, l', .inr ⟨HMT.out, HC1.out.1, HC1.out.2.1, HC1.out.2.2, rfl, HWN.out, HON.out⟩, rd_box HR0.out HB.out HNp8.out.1 HNp8.out.2 HLY.out HK9.out, by rw [← HNW.out]; exact HOX9.out, by rw [← HNG.out]; exact HOG9.out⟩
     | succ gj =>
      have hjI : (j : Int) < (nw : Int) := by omega
      have hjn : j < wn.length := by rw [← HNW.out]; omega
      have HOr := aA (aJ HOT.out HPB.out.k (fun g hg e => by have h1 := HBW.out g hg; have h2 := HSZ.out; have e : g = r := e; omega))
      have hs := bI.of_own (by rw [← HNW.out]; exact HOr.out : wr.ownsRow W8.heap.size 34 3 (.slice aw nw cw) wn.length (bR txE3 wn))
      obtain ⟨en, ob, oo, hao, hob, hcj⟩ := hs.at dP.len hjn
      subst hao
      have kc0 := hcj 0 _ rfl
      have kc1 := hcj 1 _ rfl
      have kc2 := hcj 2 _ rfl
      rw [Nat.add_zero] at kc0
      have hjN : j < nw := by omega
      have CG : Hid (∀ V, iU V r vL8 vH8 vW8 L8 H8 W8' → Calls Tryz.prog 53 #[.pointer (some ⟨r, 0, none⟩), aV wn[j]] V fun e w' => e = .returned (.tuple #[]) ∧ ∃ vL' vH' vW' L' H' W', dC V w' r vL8 vH8 vW8 vL' vH' vW' L' H' W' ∧ eF (cY (bG (cZ l t tm) t (bF k m)) (wn.take (j + 1))) L' H' W' ∧ H'.length ≤ H8.length ∧ W'.length ≤ W8'.length) := aA (fun V hV => by
       obtain ⟨x, hx, ex⟩ := HWI.out j hjn
       have h1 := rgone_any15 r _ _ _ _ _ H8 W8' x V hV HRB.out (less_b HLB2.out _) hx (by have h1 := HLE.out; have h2 := HCC.out; omega)
       rw [ex] at h1
       refine h1.mono ?_
       rintro e w' ⟨rfl, vL', vH', vW', hp⟩
       have h2 := drop_rep HRB.out wn[j]
       rw [less_next hjn] at h2 hp
       exact ⟨rfl, vL', vH', vW', _, _, _, hp, h2, List.length_filter_le _ _, List.length_filter_le _ _⟩)
      generalize wn[j] = y at *
      clear en hcj hob hs
      go_wp2_with fail
      refine (CG.out wr HPB.out.t).mono ?_
      rintro e W10 ⟨rfl, vL9, vH9, vW9, L9, H9, W9', hP9, hR9, hl1, hl2⟩
      have HP9 := aA (HPB.out.trans hP9)
      have HR9 := aA hR9
      have HL9 : Hid (H9.length ≤ H.length ∧ W9'.length ≤ W.length + 1) := aA ⟨Nat.le_trans hl1 HLE.out.1, Nat.le_trans hl2 HLE.out.2⟩
      clear hP9 hR9 hl1 hl2 CG
      all_goals go_wp2_with fail
      all_goals go_roundg gj
      all_goals first
       | (case measure => omega)
       | (case rel => exact ⟨j + 1, _, _, _, _, _, _, by omega, by first | rfl | go_num, HP9, HR9, HL9⟩)
end
end Go.Proofs.YtiloagmkkhlfjaaGreat
