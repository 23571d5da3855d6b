/-
  Own texts put together: LkAsk. Own work.
-/
import Derived.Test.YtiloagmkkhlfjaaGreatG14
namespace Go.Proofs.YtiloagmkkhlfjaaGreat
section
open Go.RowKit Go.Maps Classical
abbrev stA15 (tm : Nat) (t : TxN) : Array Value := #[.int .u32 (tm : Int), .int .u8 (t.1 : Int), .int .u32 (t.2.1 : Int), .int .u32 (t.2.2 : Int)]
theorem ask_refused {l : List (aS KeyT)} {may : Bool} {t : TxN} {tm : Nat} {k : KeyT} {m : Nat} {er : Int} (h : er = iF l may t) (he : er ≠ 0) : AskR cQ may l t tm k m er l [] [] := by
 refine .inl ⟨rfl, rfl, rfl, ?_⟩
 unfold iF at h
 cases may with
 | false => rw [if_pos rfl] at h; exact .inl ⟨rfl, h⟩
 | true =>
  rw [if_neg (by simp)] at h
  refine .inr ⟨rfl, ?_⟩
  by_cases h1 : (aT l t).pr = true
  ·rw [if_pos h1] at h
   exact .inl ⟨h1, h⟩
  ·rw [if_neg h1] at h
   by_cases h2 : (cM l t).isNone = true ∧ 64 ≤ l.length
   ·rw [if_pos h2] at h
    exact .inr (.inl ⟨by simpa using h2.1, h2.2, h⟩)
   ·rw [if_neg h2] at h
    exact absurd h he
theorem ask_taken {l : List (aS KeyT)} {may : Bool} {t : TxN} (h : 0 = iF l may t) : may = true ∧ (aT l t).pr = false ∧ (cM l t = none → l.length < 64) := by
 unfold iF at h
 cases may with
 | false => rw [if_pos rfl] at h; cases h
 | true =>
  rw [if_neg (by simp)] at h
  by_cases h1 : (aT l t).pr = true
  ·rw [if_pos h1] at h
   cases h
  ·rw [if_neg h1] at h
   by_cases h2 : (cM l t).isNone = true ∧ 64 ≤ l.length
   ·rw [if_pos h2] at h
    cases h
   ·refine ⟨rfl, by simpa using h1, fun e => ?_⟩
    have h3 : (cM l t).isNone = true := by rw [e]; rfl
    by_cases h4 : l.length < 64
    ·exact h4
    ·exact absurd ⟨h3, by omega⟩ h2
theorem own_newK (w : World) (k : KeyT) : (w.alloc (.cells (aK k.1) 38)).ownsRow w.heap.size 38 8 (.slice (some ⟨w.heap.size, 0, none⟩) 1 1) 1 (gI [k]) := by
 have hb := aN w (aK k.1) 38
 refine ⟨by simp [gI], .inr ⟨w.heap.size, 1, aK k.1, rfl, Nat.le_refl _, hb, Nat.le_refl _, by unfold maxLen; omega, by simp, by simp [gI]⟩⟩
theorem wait_b {l : List (aS KeyT)} (h : dD l) (t : TxN) (k : KeyT) {m : Nat} (hm : m ≤ 2) : dD (bG l t (bF k m)) := i9 h t (bF k m) (fun u hu => ⟨rfl, rfl, (h.oks u hu).2.2.1, fun k' => by
 show (if k' = k then max (u.w k) m else u.w k') ≤ 2
 have h1 := (h.oks u hu).2.2.2 k
 have h2 := (h.oks u hu).2.2.2 k'
 split <;> omega⟩)
theorem less_drop (l : List (aS KeyT)) (ts : List TxN) (t : TxN) : cN (cY l ts) t = cY l (ts ++ [t]) := by
 unfold cN cY
 rw [List.filter_filter]
 refine List.filter_congr (fun u _ => ?_)
 by_cases h1 : u.tx = t <;> by_cases h2 : u.tx ∈ ts <;> simp [h1, h2]
theorem ask_mode {tm : Nat} {t : TxN} {k : KeyT} {m : Nat} (h : dG tm t k m = true) : 1 ≤ m := by
 unfold dG at h
 simp only [Bool.and_eq_true, Bool.or_eq_true, decide_eq_true_eq] at h
 omega
theorem kE {tm : Nat} {t : TxN} {k : KeyT} {m : Nat} (h : dG tm t k m = true) : m ≤ 2 := by
 unfold dG at h
 simp only [Bool.and_eq_true, Bool.or_eq_true, decide_eq_true_eq] at h
 omega
attribute [local go_sem ↓] kC
set_option maxRecDepth 100000 in
set_option maxHeartbeats 3200000 in
theorem lkAsk_any (N : Nat) (HS : SortB N) (q b C : Nat) (p : TxN → Nat × Nat) (l : List (aS KeyT)) (tm : Nat) (t : TxN) (k : KeyT) (m : Nat) (w : World) (h : fJ w q b C p l) (ht : kJ t) (htm : tm < 4294967296) (hm : m < 256) (hC : C ≤ 150)
  (HQ : dG tm t k m = true → (cM l t = none → l.length < 64) → (dX (bG (cZ l t tm) t (bF k m)) t k).length ≤ N ∧ QN N (cY (bG (cZ l t tm) t (bF k m)) (dX (bG (cZ l t tm) t (bF k m)) t k))) :
  Calls Tryz.prog 23 #[.pointer (some ⟨q, 0, none⟩), .agg (stA15 tm t), .agg (aK k.1), .int .u8 (m : Int)] w fun e w' => ∃ vw vg er wn gr l' p', e = .returned (.tuple #[.agg #[vw, vg], .int .i64 er]) ∧ AskR cQ (dG tm t k m) l t tm k m er l' wn gr ∧ fJ w' q b (C + 1) p' l' ∧ aC (fun g => eP q b p l g) w w' ∧ (∀ g, eP q b p' l' g → eP q b p l g ∨ w.heap.size ≤ g) ∧ w'.ownsRow w.heap.size 34 3 vw wn.length (bR txCs (wn.map txI)) ∧ w'.ownsRow w.heap.size 73 12 vg gr.length (bR gtE gr) := by
 have hA := aE w (.cells (stA15 tm t) 36)
 have hA2 := aE (w.alloc (.cells (stA15 tm t) 36)) (.cells (aK k.1) 38)
 have hA3 := aE ((w.alloc (.cells (stA15 tm t) 36)).alloc (.cells (aK k.1) 38)) (.cells zO 45)
 have HXS := aA (((aN w (stA15 tm t) 36).belowI hA2).belowI hA3)
 have HXK : Hid (bZ (((w.alloc (.cells (stA15 tm t) 36)).alloc (.cells (aK k.1) 38)).alloc (.cells zO 45)) (w.heap.size + 1) (aK k.1) 38) := aA ((by have := aN (w.alloc (.cells (stA15 tm t) 36)) (aK k.1) 38; simpa using this : bZ ((w.alloc (.cells (stA15 tm t) 36)).alloc (.cells (aK k.1) 38)) (w.heap.size + 1) (aK k.1) 38).belowI hA3)
 have HXO : Hid (bZ (((w.alloc (.cells (stA15 tm t) 36)).alloc (.cells (aK k.1) 38)).alloc (.cells zO 45)) (w.heap.size + 1 + 1) zO 45) := aA (by have := aN ((w.alloc (.cells (stA15 tm t) 36)).alloc (.cells (aK k.1) 38)) zO 45; simpa using this)
 have hB3 := hA.trans ((hA2.trans (hA3.mono hA2.size)).mono hA.size)
 obtain ⟨w1, hw1⟩ : ∃ w1, w1 = ((w.alloc (.cells (stA15 tm t) 36)).alloc (.cells (aK k.1) 38)).alloc (.cells zO 45) := ⟨_, rfl⟩
 obtain ⟨p1, hp1⟩ : ∃ p1, p1 = w.heap.size := ⟨_, rfl⟩
 obtain ⟨p2, hp2⟩ : ∃ p2, p2 = p1 + 1 := ⟨_, rfl⟩
 obtain ⟨p3, hp3⟩ : ∃ p3, p3 = p2 + 1 := ⟨_, rfl⟩
 rw [← hw1, ← hp1] at HXS
 rw [← hw1, ← hp1, ← hp2] at HXK
 rw [← hw1, ← hp1, ← hp2, ← hp3] at HXO
 rw [← hw1] at hB3
 have hW1 := hw1.symm
 have hP1 := hp1.symm
 have hP2 := hp2.symm
 have hP3 := hp3.symm
 have HP := aA h
 have H1 := aA (h.below hB3)
 have HB := aA hB3
 have HNUM : Hid (w.heap.size = p1 ∧ p2 = p1 + 1 ∧ p3 = p2 + 1 ∧ p3 < w1.heap.size) := aA ⟨hp1.symm, hp2, hp3, HXO.out.lt⟩
 have HTB := aA ht
 have HTM := aA htm
 have HMM := aA hm
 have HC := aA hC
 have HSS := aA HS
 have HQQ := aA HQ
 have CR := aA (refusal15 q b C p l tm t k m w1 H1.out ht)
 obtain ⟨ER, hER⟩ : ∃ ER, ER = iF l (dG tm t k m) t := ⟨_, rfl⟩
 rw [← hER] at CR
 have HER := aA hER
 have hbu0 := buildOut0
 obtain ⟨x0, x1, x2, x3, x4, x5, x6, x7⟩ := bN HXK.out
 have s0 : w1.cell? ⟨p1, 0, none⟩ = some (.int .u32 (tm : Int)) := HXS.out.cell 0 _ rfl
 have s1 : w1.cell? ⟨p1, 1, none⟩ = some (.int .u8 (t.1 : Int)) := HXS.out.cell 1 _ rfl
 have s2 : w1.cell? ⟨p1, 2, none⟩ = some (.int .u32 (t.2.1 : Int)) := HXS.out.cell 2 _ rfl
 have s3 : w1.cell? ⟨p1, 3, none⟩ = some (.int .u32 (t.2.2 : Int)) := HXS.out.cell 3 _ rfl
 clear h hA hA2 hA3 hB3 hw1 hp1 hp2 hp3 htm hm HQ hC HS hER
 go_enter Tryz.func23, Tryz.ntmps23
 go_wp2_with fail
 refine CR.out.mono ?_
 rintro e w2 ⟨rfl, hB12⟩
 have HXS2 := aA (HXS.out.belowI hB12)
 have HXK2 := aA (HXK.out.belowI hB12)
 have HXO2 := aA (HXO.out.belowI hB12)
 have H2 := aA (H1.out.below hB12)
 have HB2 := aA (HB.out.trans (hB12.mono HB.out.size))
 have HNUM2 : Hid (w1.heap.size ≤ w2.heap.size) := aA hB12.size
 clear hB12 CR x0 x1 x2 x3 x4 x5 x6 x7 s0 s1 s2 s3 hW1 hP1 hP2 hP3
 by_cases he : ER = 0
 case neg =>
  have hz : (ER != 0) = true := by simp [he]
  have HEN := aA he
  clear he
  go_wp2_with (refine aP rfl rfl _ _ rfl p3 rfl (cs' := zO) rfl HXO2.out rfl bX (by simp [Value.oneCell']) ?_; intro w5 hb5 hk5; have HX5 := aA hb5; have HK5 := aA hk5; clear hb5 hk5)
  refine bodyPost_ret (v := .tuple #[.agg zO, .int .i64 ER]) (bB Tryz.results23 _ _ p3 rfl rfl HX5.out Tryz.underlying45 rfl bX) rfl ?_
  have hne : ∀ g, eP q b p l g → g < p1 := fun g hg => by rw [← HNUM.out.1]; exact HP.out.flt hg
  have h12 := HNUM.out
  exact ⟨.slice none 0 0, .slice none 0 0, ER, [], [], l, p, rfl, ask_refused HER.out HEN.out, (H2.out.keep HK5.out (fun g hg e => by have := hne g hg; omega)).more (by omega), (aC.of_below _ HB2.out).trans HK5.out (fun g hg e => by omega), fun g hg => .inl hg, World.ownsRow_nil _ _ _ _, World.ownsRow_nil _ _ _ _⟩
 case pos =>
  subst he
  have HTK := aA (ask_taken HER.out)
  have HQ1 := aA (HQQ.out HTK.out.1 HTK.out.2.2).1
  have HQ2 := aA (HQQ.out HTK.out.1 HTK.out.2.2).2
  have hA4 := aE w2 (.cells zU 80)
  have hXU := aN w2 zU 80
  obtain ⟨wA, hwA⟩ : ∃ wA, wA = w2.alloc (.cells zU 80) := ⟨_, rfl⟩
  obtain ⟨p4, hp4⟩ : ∃ p4, p4 = w2.heap.size := ⟨_, rfl⟩
  rw [← hwA] at hA4 hXU
  rw [← hp4] at hXU
  have hWA := hwA.symm
  have hP4 := hp4.symm
  have HP4 := aA hP4
  have HA := aA (H2.out.below hA4)
  have h0 : wA.cell? ⟨q, 0, none⟩ = some (.map (some b)) := HA.out.box.cell 0 _ rfl
  have k0 : wA.cell? ⟨p1, 1, none⟩ = some (.int .u8 (t.1 : Int)) := (HXS2.out.belowI hA4).cell 1 _ rfl
  have k1 : wA.cell? ⟨p1, 2, none⟩ = some (.int .u32 (t.2.1 : Int)) := (HXS2.out.belowI hA4).cell 2 _ rfl
  have k2 : wA.cell? ⟨p1, 3, none⟩ = some (.int .u32 (t.2.2 : Int)) := (HXS2.out.belowI hA4).cell 3 _ rfl
  have L1 := (HA.out.m.below (aG wA)).look fM ⟨t, ht⟩
  have h01 : w2.cell? ⟨q, 0, none⟩ = some (.map (some b)) := H2.out.box.cell 0 _ rfl
  have k01 : w2.cell? ⟨p1, 1, none⟩ = some (.int .u8 (t.1 : Int)) := HXS2.out.cell 1 _ rfl
  have k11 : w2.cell? ⟨p1, 2, none⟩ = some (.int .u32 (t.2.1 : Int)) := HXS2.out.cell 2 _ rfl
  have k21 : w2.cell? ⟨p1, 3, none⟩ = some (.int .u32 (t.2.2 : Int)) := HXS2.out.cell 3 _ rfl
  have L11 := (H2.out.m.below (aG w2)).look fM ⟨t, ht⟩
  obtain ⟨E, hE⟩ : ∃ E : E15, E = (gU l p ⟨t, ht⟩).getD zE := ⟨_, rfl⟩
  obtain ⟨I, hI⟩ : ∃ I : Bool, I = (gU l p ⟨t, ht⟩).isSome := ⟨_, rfl⟩
  rw [← hE, ← hI] at L1 L11
  have HEE := aA hE
  have hII : I = (cM l t).isSome := by rw [hI]; show ((cM l t).map _).isSome = _; rw [Option.isSome_map]
  obtain ⟨w3, hst, hx3, hk3⟩ := run_stU (hXU.belowI (aG wA)) rfl E
  have HX3 := aA hx3
  have HB3 : Hid (Below w2.heap.size w2 w3) := aA ((hA4.trans ((aG wA).mono hA4.size)).trans (hk3.below hA4.size (fun j e => by rw [e, hp4]; exact Nat.le_refl _)))
  have HII := aA hII
  clear hwA hp4 hA4 hXU hx3 hk3 hE hI hII HER
  go_wp2_with fail
  go_region
  simp only [Exit.then]
  rename_i hK
  refine hK _ _ ?_
  clear hK h0 k0 k1 k2 h01 k01 k11 k21 L1 L11 hst hWA hP4
  have HXS3 := aA (HXS2.out.belowI HB3.out)
  have HXK3 := aA (HXK2.out.belowI HB3.out)
  have HXO3 := aA (HXO2.out.belowI HB3.out)
  have H3 := aA (H2.out.below HB3.out)
  have HBB3 : Hid (Below w.heap.size w w3) := aA (HB2.out.trans (HB3.out.mono HB2.out.size))
  have HN4 : Hid (p3 < p4 ∧ p4 < w3.heap.size) := aA ⟨Nat.lt_of_lt_of_le HNUM.out.2.2.2 (by rw [← HP4.out]; exact HNUM2.out), HX3.out.lt⟩
  by_cases hc : I = false
  case' pos =>
   have HN : Hid (cM l t = none) := aA (by have := HII.out; rw [hc] at this; cases hu : cM l t with | none => rfl | some x => rw [hu] at this; cases this)
   subst hc
   have CN := aA (newUser15 tm t w3)
   have s0 : w3.cell? ⟨p1, 0, none⟩ = some (.int .u32 (tm : Int)) := HXS3.out.cell 0 _ rfl
   have s1 : w3.cell? ⟨p1, 1, none⟩ = some (.int .u8 (t.1 : Int)) := HXS3.out.cell 1 _ rfl
   have s2 : w3.cell? ⟨p1, 2, none⟩ = some (.int .u32 (t.2.1 : Int)) := HXS3.out.cell 2 _ rfl
   have s3 : w3.cell? ⟨p1, 3, none⟩ = some (.int .u32 (t.2.2 : Int)) := HXS3.out.cell 3 _ rfl
   go_wp2_with fail
   refine CN.out.mono ?_
   rintro e w4 ⟨m1, m2, rfl, hma, hmb, hm12, hn1, hn2, hb4⟩
   have HM12 : Hid (m1 ≠ m2 ∧ w3.heap.size ≤ m1 ∧ w3.heap.size ≤ m2) := aA ⟨hm12, hn1, hn2⟩
   have HMA := aA hma
   have HMB := aA hmb
   have HX4 := aA (HX3.out.belowI hb4)
   have HXS4 := aA (HXS3.out.belowI hb4)
   have HXK4 := aA (HXK3.out.belowI hb4)
   have HXO4 := aA (HXO3.out.belowI hb4)
   have H4 := aA (H3.out.below hb4)
   have HBB4 : Hid (Below w.heap.size w w4) := aA (HBB3.out.trans (hb4.mono HBB3.out.size))
   clear hma hmb hm12 hn1 hn2 hb4 s0 s1 s2 s3 CN
   go_wp2_with (refine aP rfl rfl _ _ rfl p4 rfl (cs' := usA (tm, t, false, some m1, some m2)) rfl HX4.out rfl gZ (by simp [Value.oneCell']) ?_; intro w5 hb5 hk5; have HX5 := aA hb5; have HK5 := aA hk5; clear hb5 hk5)
   have HFL : Hid (∀ g, eP q b p l g → g < p1) := aA (fun g hg => by rw [← HNUM.out.1]; exact HP.out.flt hg)
   have H5 := aA (H4.out.keep HK5.out (fun g hg e => by have h1 := HFL.out g hg; have h2 := HN4.out; have h3 := HNUM.out; omega))
   have HXS5 := aA (HXS4.out.keep HK5.out (fun e => by have h2 := HN4.out; have h3 := HNUM.out; omega))
   have HXK5 := aA (HXK4.out.keep HK5.out (fun e => by have h2 := HN4.out; have h3 := HNUM.out; omega))
   have HXO5 := aA (HXO4.out.keep HK5.out (fun e => by have h2 := HN4.out; omega))
   have HMA5 := aA (HMA.out.keep HK5.out (fun e => by have h2 := HN4.out; have h3 := HM12.out; omega))
   have HMB5 := aA (HMB.out.keep HK5.out (fun e => by have h2 := HN4.out; have h3 := HM12.out; omega))
   have h05 : w5.cell? ⟨q, 0, none⟩ = some (.map (some b)) := H5.out.box.cell 0 _ rfl
   have k05 : w5.cell? ⟨p1, 1, none⟩ = some (.int .u8 (t.1 : Int)) := HXS5.out.cell 1 _ rfl
   have k15 : w5.cell? ⟨p1, 2, none⟩ = some (.int .u32 (t.2.1 : Int)) := HXS5.out.cell 2 _ rfl
   have k25 : w5.cell? ⟨p1, 3, none⟩ = some (.int .u32 (t.2.2 : Int)) := HXS5.out.cell 3 _ rfl
   have u0 : w5.cell? ⟨p4, 0, none⟩ = some (.int .u32 (tm : Int)) := HX5.out.cell 0 _ rfl
   have u1 : w5.cell? ⟨p4, 1, none⟩ = some (.int .u8 (t.1 : Int)) := HX5.out.cell 1 _ rfl
   have u2 : w5.cell? ⟨p4, 2, none⟩ = some (.int .u32 (t.2.1 : Int)) := HX5.out.cell 2 _ rfl
   have u3 : w5.cell? ⟨p4, 3, none⟩ = some (.int .u32 (t.2.2 : Int)) := HX5.out.cell 3 _ rfl
   have u4 : w5.cell? ⟨p4, 4, none⟩ = some (.bool false) := HX5.out.cell 4 _ rfl
   have u5 : w5.cell? ⟨p4, 5, none⟩ = some (.map (some m1)) := HX5.out.cell 5 _ rfl
   have u6 : w5.cell? ⟨p4, 6, none⟩ = some (.map (some m2)) := HX5.out.cell 6 _ rfl
   obtain ⟨w8, hput, hmp, hkp⟩ := (H5.out.m.below (aG w5)).put fM (by have := HP.out.ok.few; unfold maxLen; omega) ⟨t, ht⟩ (tm, t, false, some m1, some m2)
   have HUM := aA hmp
   have HK58 : Hid (aC (fun j => j = b) w5 w8) := aA ((aC.of_below (fun j => j = b) (aG w5)).trans hkp (fun _ _ h => h))
   clear hmp hkp
   go_wp2_with fail
   go_region
   simp only [Exit.then]
   rename_i hK
   refine hK _ _ ?_
   clear hK h05 k05 k15 k25 u0 u1 u2 u3 u4 u5 u6 hput
   have hbi : dD (dH l ⟨t, tm, false, fun _ => 0, fun _ => 0⟩) := insU_b HP.out.ok HN.out (HTK.out.2.2 HN.out) ⟨HTB.out, HTM.out, fun _ => Nat.zero_le _, fun _ => Nat.zero_le _⟩
   obtain ⟨x, hx⟩ : ∃ x : aS KeyT, x = ⟨t, tm, false, fun _ => 0, fun _ => 0⟩ := ⟨_, rfl⟩
   have hxt : x.tx = t := by rw [hx]
   rw [← hx] at hbi
   have hnf : ∀ g, w3.heap.size ≤ g → ¬ eP q b p l g := fun g hg hF => by
    have h1 := HFL.out g hF
    have h2 := HN4.out
    have h3 := HNUM.out
    omega
   have hp8 : fJ w8 q b C (pIns p t m1 m2) (dH l x) := by
    have h1 := H5.out.ins (w' := w8) (C' := C) (x := x) (S := fun j => j = b) (m1 := m1) (m2 := m2) (by rw [hxt]; exact HN.out) hbi (by
      have h2 := HUM.out
      have h3 : (gU l p ⟨t, ht⟩).isSome = false := by show ((cM l t).map _).isSome = false; rw [HN.out]; rfl
      rw [if_neg (by rw [h3]; simp)] at h2
      refine h2.as (fun s => ?_)
      have h4 := gU_ins HP.out.ok hbi p m1 m2 (by rw [hxt]; exact ht) s
      by_cases e : s = ⟨t, ht⟩
      ·rw [if_pos e]
       have h5 := h4.1 (by rw [e]; exact Subtype.ext hxt.symm)
       rw [← h5, hx]
      ·rw [if_neg e]
       exact h4.2 (fun e2 => e (by rw [e2]; exact Subtype.ext hxt))) HK58.out (fun j e => .inl e) (by
      rw [hx]
      exact ⟨0, 0, HMA5.out.keep HK58.out (fun e => by have h1 := HFL.out b (.inr (.inl rfl)); have h2 := HM12.out; have h3 := HN4.out; have h4 := HNUM.out; omega), HMB5.out.keep HK58.out (fun e => by have h1 := HFL.out b (.inr (.inl rfl)); have h2 := HM12.out; have h3 := HN4.out; have h4 := HNUM.out; omega), Nat.zero_le _⟩) (Nat.le_refl _) (hnf m1 HM12.out.2.1) (hnf m2 HM12.out.2.2) HM12.out.1
    rw [hxt] at h1
    exact h1
   obtain ⟨p8, hp8e⟩ : ∃ p8, p8 = pIns p t m1 m2 := ⟨_, rfl⟩
   obtain ⟨l8, hl8e⟩ : ∃ l8, l8 = dH l x := ⟨_, rfl⟩
   rw [← hp8e, ← hl8e] at hp8
   have HP8 := aA hp8
   have HL8 : Hid (l8 = cZ l t tm ∧ x ∈ l8 ∧ x.tx = t ∧ p8 t = (m1, m2)) := aA ⟨by rw [hl8e, hx]; unfold cZ; rw [HN.out]; rfl, by rw [hl8e]; exact (bU l x x).2 (.inl rfl), hxt, by rw [hp8e]; exact gQ p t m1 m2⟩
   have HGE8 : Hid (m ≤ x.h k → cM l t = some x ∧ x.pr = false ∧ l8 = l ∧ p8 = p) := aA (fun h1 => by
    rw [hx] at h1
    have h2 : 1 ≤ m := ask_mode HTK.out.1
    have h3 : m ≤ 0 := h1
    omega)
   have HGT8 : Hid (¬ m ≤ x.h k → (aT l t).h k < m) := aA (fun _ => by
    rw [dA HN.out]
    exact (ask_mode HTK.out.1 : 1 ≤ m))
   have HF8 : Hid (∀ g, eP q b p8 l8 g → eP q b p l g ∨ (w.heap.size ≤ g ∧ g ≠ p1 ∧ g ≠ p2 ∧ g ≠ p3 ∧ g ≠ p4)) := aA (fun g hg => by
    rw [hp8e, hl8e, ← hxt] at hg
    have h1 := HM12.out
    have h2 := HN4.out
    have h3 := HNUM.out
    rcases flk_ins (by rw [hxt]; exact HN.out) hg with e | e | e
    ·exact .inl e
    ·exact .inr (by omega)
    ·exact .inr (by omega))
   have HFB : Hid (b < p1) := aA (HFL.out b (.inr (.inl rfl)))
   have HX8 : Hid (bZ w8 p4 (usA (x.tm, t, x.pr, some m1, some m2)) 80) := aA (by rw [hx]; exact HX5.out.keep HK58.out (fun e => by have h1 := HFB.out; have h2 := HN4.out; have h3 := HNUM.out; omega))
   have HXS8 := aA (HXS5.out.keep HK58.out (fun e => by have h1 := HFB.out; omega))
   have HXK8 := aA (HXK5.out.keep HK58.out (fun e => by have h1 := HFB.out; have h3 := HNUM.out; omega))
   have HXO8 := aA (HXO5.out.keep HK58.out (fun e => by have h1 := HFB.out; have h3 := HNUM.out; omega))
   have HKA8 : Hid (aC (fun g => eP q b p l g) w w8) := aA (((aC.of_below (fun g => eP q b p l g) HBB4.out).trans HK5.out (fun g hg e => by have h2 := HN4.out; have h3 := HNUM.out; omega)).trans HK58.out (fun g _ e => by rw [e]; exact .inr (.inl rfl)))
   clear hp8 hp8e hl8e hxt hnf hbi hx HUM HK58 HMA5 HMB5 HXS5 HXK5 HXO5 HX5 H5 HK5 HMA HMB HX4 HXS4 HXK4 HXO4 H4 HBB4 HM12 HFL HN HFB
  case' neg =>
   have hc2 : I = true := by cases I with | false => exact absurd rfl hc | true => rfl
   have HN : Hid (∃ x, cM l t = some x) := aA (by have := HII.out; rw [hc2] at this; cases hu : cM l t with | none => rw [hu] at this; cases this | some x => exact ⟨x, rfl⟩)
   subst hc2
   clear hc
   obtain ⟨x, hux⟩ := HN.out
   obtain ⟨hx, hxt⟩ := (bT HP.out.ok).1 hux
   have hEx : E = (x.tm, t, x.pr, some (p t).1, some (p t).2) := by
    rw [HEE.out]
    have e : gU l p ⟨t, ht⟩ = some (x.tm, x.tx, x.pr, some (p t).1, some (p t).2) := by show (cM l t).map _ = _; rw [hux]; rfl
    rw [e, hxt]; rfl
   obtain ⟨⟨m1, m2⟩, hm12⟩ : ∃ m, m = p t := ⟨_, rfl⟩
   rw [← hm12] at hEx
   subst hEx
   obtain ⟨p8, hp8e⟩ : ∃ p8, p8 = p := ⟨_, rfl⟩
   obtain ⟨l8, hl8e⟩ : ∃ l8, l8 = l := ⟨_, rfl⟩
   obtain ⟨w8, hw8e⟩ : ∃ w8, w8 = w3 := ⟨_, rfl⟩
   have HP8 : Hid (fJ w8 q b C p8 l8) := aA (by rw [hw8e, hp8e, hl8e]; exact H3.out)
   have hpr : x.pr = false := by have h1 := HTK.out.2.1; unfold aT at h1; rw [hux] at h1; exact h1
   have HL8 : Hid (l8 = cZ l t tm ∧ x ∈ l8 ∧ x.tx = t ∧ p8 t = (m1, m2)) := aA ⟨by rw [hl8e]; unfold cZ; rw [hux]; rfl, by rw [hl8e]; exact hx, hxt, by rw [hp8e]; exact hm12.symm⟩
   have HGE8 : Hid (m ≤ x.h k → cM l t = some x ∧ x.pr = false ∧ l8 = l ∧ p8 = p) := aA (fun _ => ⟨hux, hpr, hl8e, hp8e⟩)
   have HGT8 : Hid (¬ m ≤ x.h k → (aT l t).h k < m) := aA (fun h1 => by
    unfold aT
    rw [hux]
    show x.h k < m
    omega)
   have HF8 : Hid (∀ g, eP q b p8 l8 g → eP q b p l g ∨ (w.heap.size ≤ g ∧ g ≠ p1 ∧ g ≠ p2 ∧ g ≠ p3 ∧ g ≠ p4)) := aA (fun g hg => .inl (by rw [hp8e, hl8e] at hg; exact hg))
   have HX8 : Hid (bZ w8 p4 (usA (x.tm, t, x.pr, some m1, some m2)) 80) := aA (by rw [hw8e]; exact HX3.out)
   have HXS8 : Hid (bZ w8 p1 (stA15 tm t) 36) := aA (by rw [hw8e]; exact HXS3.out)
   have HXK8 : Hid (bZ w8 p2 (aK k.1) 38) := aA (by rw [hw8e]; exact HXK3.out)
   have HXO8 : Hid (bZ w8 p3 zO 45) := aA (by rw [hw8e]; exact HXO3.out)
   have HKA8 : Hid (aC (fun g => eP q b p l g) w w8) := aA (by rw [hw8e]; exact aC.of_below _ HBB3.out)
   have HN48 : Hid (p4 < w8.heap.size) := aA (by rw [hw8e]; exact HN4.out.2)
   clear hux hx hxt hm12 hpr HN
   rw [← hw8e]
   clear hp8e hl8e hw8e
  all_goals
   have HFL : Hid (∀ g, eP q b p l g → g < p1) := aA (fun g hg => by rw [← HNUM.out.1]; exact HP.out.flt hg)
   have HF84 : Hid (∀ g, eP q b p8 l8 g → g ≠ p1 ∧ g ≠ p2 ∧ g ≠ p3 ∧ g ≠ p4) := aA (fun g hg => by
    rcases HF8.out g hg with e | e
    ·have h1 := HFL.out g e
     have h2 := HN4.out
     have h3 := HNUM.out
     omega
    ·exact e.2)
   obtain ⟨n, n', hma, hmb, hnn⟩ := HP8.out.maps x HL8.out.2.1
   rw [HL8.out.2.2.1, HL8.out.2.2.2] at hma hmb
   have HMA := aA hma
   have HMB := aA hmb
   have HNN := aA hnn
   have HFM : Hid (eP q b p8 l8 m1 ∧ eP q b p8 l8 m2 ∧ m1 ≠ m2 ∧ m1 ≠ b ∧ m2 ≠ b) := aA (by
    have h1 := HP8.out.ap x HL8.out.2.1
    have e1 : p8 x.tx = (m1, m2) := by rw [HL8.out.2.2.1]; exact HL8.out.2.2.2
    rw [e1] at h1
    exact ⟨.inr (.inr ⟨x, HL8.out.2.1, .inl (by rw [e1])⟩), .inr (.inr ⟨x, HL8.out.2.1, .inr (by rw [e1])⟩), h1⟩)
   clear hma hmb hnn
   obtain ⟨x0, x1, x2, x3, x4, x5, x6, x7⟩ := bN HXK8.out
   have y5 : w8.cell? ⟨p4, 5, none⟩ = some (.map (some m1)) := HX8.out.cell 5 _ rfl
   have y6 : w8.cell? ⟨p4, 6, none⟩ = some (.map (some m2)) := HX8.out.cell 6 _ rfl
   have L2 := (eN.look (.inr ⟨_, _, rfl, HMA.out⟩) k : (Instr.lookup 78 (.map (some m1)) (kyV k.1) false).run Tryz.prog w8 = _)
   by_cases hge : m ≤ x.h k
   ·have hz : (m : Int) ≤ (x.h k : Int) := by omega
    have HG := aA (HGE8.out hge)
    have HGE := aA hge
    clear hge
    go_wp2_with (refine aP rfl rfl _ _ rfl p3 rfl (cs' := zO) rfl HXO8.out rfl bX (by simp [Value.oneCell']) ?_; intro w9 hb9 hk9; have HX9 := aA hb9; have HK9 := aA hk9; clear hb9 hk9)
    refine bodyPost_ret (v := .tuple #[.agg zO, .int .i64 0]) (bB Tryz.results23 _ _ p3 rfl rfl HX9.out Tryz.underlying45 rfl bX) rfl ?_
    have hp9 := HP8.out.keep HK9.out (fun g hg e => (HF84.out g hg).2.2.1 e)
    rw [HG.out.2.2.1, HG.out.2.2.2] at hp9
    refine ⟨.slice none 0 0, .slice none 0 0, 0, rfl, [], [], l, .inl ⟨rfl, rfl, rfl, .inr ⟨HTK.out.1, .inr (.inr ⟨⟨x, HG.out.1, HG.out.2.1, HGE.out⟩, rfl⟩)⟩⟩, p, hp9.more (by omega), HKA8.out.trans HK9.out (fun g hg e => by have h3 := HNUM.out; omega), fun g hg => .inl hg, World.ownsRow_nil _ _ _ _, World.ownsRow_nil _ _ _ _⟩
   ·have hz : ¬ (m : Int) ≤ (x.h k : Int) := by omega
    have HG := aA (HGT8.out hge)
    have HGE := aA hge
    clear hge
    go_wp2_with fail
    have HXM : Hid (m2 ≠ p1 ∧ m2 ≠ p2 ∧ m2 ≠ p3 ∧ m2 ≠ p4) := aA (HF84.out m2 HFM.out.2.1)
    obtain ⟨V, hV⟩ : ∃ V, V = max (x.w k) m := ⟨_, rfl⟩
    have hmx : ((V : Nat) : Int) = max ((x.w k : Nat) : Int) (m : Int) := by omega
    have L3 := (eN.look (.inr ⟨_, _, rfl, HMB.out.below (aG w8)⟩) k : (Instr.lookup 78 (.map (some m2)) (kyV k.1) false).run Tryz.prog w8.drew = _)
    obtain ⟨w9, hput, hmp, hkp⟩ := mmap_put (HMB.out.below (aG w8)) (by have := HNN.out; have := HC.out; unfold maxLen; omega) k V (by have := ask_mode HTK.out.1; omega)
    rw [hmx] at hput
    rw [hV] at hmp
    have HMB9 := aA hmp
    have HK89 : Hid (aC (fun j => j = m2) w8 w9) := aA ((aC.of_below (fun j => j = m2) (aG w8)).trans hkp (fun _ _ h => h))
    have HXS9 := aA (HXS8.out.keep HK89.out (fun e => HXM.out.1 e.symm))
    have HXK9 := aA (HXK8.out.keep HK89.out (fun e => HXM.out.2.1 e.symm))
    have HXO9 := aA (HXO8.out.keep HK89.out (fun e => HXM.out.2.2.1 e.symm))
    have HX9 := aA (HX8.out.keep HK89.out (fun e => HXM.out.2.2.2 e.symm))
    obtain ⟨z0, z1, z2, z3, z4, z5, z6, z7⟩ := bN HXK9.out
    have v6 : w9.cell? ⟨p4, 6, none⟩ = some (.map (some m2)) := HX9.out.cell 6 _ rfl
    clear hV hmp hkp hmx
    go_region_held (fun w' => w'.cell? ⟨p2, 0, none⟩ = some (.int .u8 (aZ k.1 0)) ∧ w'.cell? ⟨p2, 1, none⟩ = some (.int .u8 (aZ k.1 1)) ∧ w'.cell? ⟨p2, 2, none⟩ = some (.int .u8 (aZ k.1 2)) ∧ w'.cell? ⟨p2, 3, none⟩ = some (.int .u8 (aZ k.1 3)) ∧ w'.cell? ⟨p2, 4, none⟩ = some (.int .u8 (aZ k.1 4)) ∧ w'.cell? ⟨p2, 5, none⟩ = some (.int .u8 (aZ k.1 5)) ∧ w'.cell? ⟨p2, 6, none⟩ = some (.int .u8 (aZ k.1 6)) ∧ w'.cell? ⟨p2, 7, none⟩ = some (.int .u8 (aZ k.1 7)) ∧ w'.cell? ⟨p4, 6, none⟩ = some (.map (some m2))) (go_keep) (fail)
    rename_i hS9
    clear hS9 x0 x1 x2 x3 x4 x5 x6 x7 y5 y6 L2 L3 hput z0 z1 z2 z3 z4 z5 z6 z7 v6
    obtain ⟨l9, hl9⟩ : ∃ l9, l9 = bG l8 t (bF k m) := ⟨_, rfl⟩
    have hb9 : dD l9 := by rw [hl9]; exact wait_b HP8.out.ok t k (kE HTK.out.1)
    have hp9 : fJ w9 q b (C + 1) p8 l9 := by
     have h1 := HP8.out.upd (w' := w9) (C' := C + 1) (S := fun j => j = m2) HL8.out.2.1 (f := bF k m) (fun u => rfl) (by
       refine (HP8.out.m.keep HK89.out (fun e => HFM.out.2.2.2.2 e.symm)).as (fun s => ?_)
       exact (gU_upd x.tx (f := bF k m) (fun u => ⟨rfl, rfl, rfl⟩) p8 s).symm) HK89.out (fun j e => by
       rw [HL8.out.2.2.1, HL8.out.2.2.2]
       exact .inr (.inl e)) (by
       rw [HL8.out.2.2.1, HL8.out.2.2.2]
       refine ⟨n, _, HMA.out.keep HK89.out (fun e => HFM.out.2.2.1 e), HMB9.out, ?_⟩
       have := HNN.out
       split <;> omega) (by omega) (by rw [HL8.out.2.2.1, ← hl9]; exact hb9)
     rw [HL8.out.2.2.1, ← hl9] at h1
     exact h1
    have HP9 := aA hp9
    have HB9 := aA hb9
    have HL9 := aA hl9
    obtain ⟨x9, hx9e⟩ : ∃ x9, x9 = bF k m x := ⟨_, rfl⟩
    have hx9 : x9 ∈ l9 := by
     rw [hl9, hx9e]
     exact dE.2 ⟨x, HL8.out.2.1, by rw [if_pos HL8.out.2.2.1]⟩
    have hx9t : x9.tx = t := by rw [hx9e]; exact HL8.out.2.2.1
    have CW := aA (lkWay_any N HSS.out q b (C + 1) p8 l9 x9 hx9 k w9 HP9.out (by rw [hx9t, hl9, HL8.out.1]; exact HQ1.out))
    rw [hx9t] at CW
    have HF9 : Hid (∀ g, eP q b p8 l9 g → eP q b p8 l8 g) := aA (fun g hg => eX (by rw [hl9]; unfold bG; rw [List.map_map]; exact List.map_congr_left (fun u _ => by show (if u.tx = t then bF k m u else u).tx = u.tx; split <;> rfl)) hg)
    have HKA9 : Hid (aC (fun g => eP q b p l g) w w9) := aA (HKA8.out.trans HK89.out (fun g hg e => by
     rw [e]
     rcases HF8.out m2 HFM.out.2.1 with h1 | h1
     ·exact h1
     ·omega))
    clear hp9 hb9 hl9 hx9e hx9 hx9t
    have s1 : w9.cell? ⟨p1, 1, none⟩ = some (.int .u8 (t.1 : Int)) := HXS9.out.cell 1 _ rfl
    have s2 : w9.cell? ⟨p1, 2, none⟩ = some (.int .u32 (t.2.1 : Int)) := HXS9.out.cell 2 _ rfl
    have s3 : w9.cell? ⟨p1, 3, none⟩ = some (.int .u32 (t.2.2 : Int)) := HXS9.out.cell 3 _ rfl
    obtain ⟨x0, x1, x2, x3, x4, x5, x6, x7⟩ := bN HXK9.out
    go_wp2_with fail
    refine CW.out.mono ?_
    rintro e w10 ⟨vw, rfl, how, hb10⟩
    obtain ⟨aw, cw, rfl, _⟩ := aQ how
    obtain ⟨wn, hwn⟩ : ∃ wn, wn = dX l9 t k := ⟨_, rfl⟩
    rw [← hwn] at how ⊢
    have HWN := aA hwn
    obtain ⟨nw, hnw⟩ : ∃ nw, nw = wn.length := ⟨_, rfl⟩
    rw [← hnw] at how ⊢
    have HNW := aA hnw
    have HND : Hid wn.Nodup := aA (by rw [hwn]; exact wndU_nd HB9.out t k)
    have HWM : Hid (∀ s ∈ wn, ∃ y ∈ l9, y.tx = s) := aA (fun s hs => by
     rw [hwn] at hs
     obtain ⟨y, hy, _, e⟩ := jA.1 hs
     exact ⟨y, hy, e⟩)
    have HNWL : nw ≤ 64 := by
     rw [hnw]
     have h1 : wn.length ≤ (l9.map (·.tx)).length := nodup_le _ _ HND.out (fun s hs => by
      obtain ⟨y, hy, e⟩ := HWM.out s hs
      exact List.mem_map.2 ⟨y, hy, e⟩)
     rw [List.length_map] at h1
     exact Nat.le_trans h1 HB9.out.few
    have HOW := aA how
    have HP10 := aA (HP9.out.below hb10)
    have HKA10 : Hid (aC (fun g => eP q b p l g) w w10) := aA (HKA9.out.trans (aC.of_below (fun _ => False) hb10) (fun _ _ h => h.elim))
    have HXK10 := aA (HXK9.out.belowI hb10)
    have HXO10 := aA (HXO9.out.belowI hb10)
    have HS910 : Hid (w9.heap.size ≤ w10.heap.size ∧ w.heap.size ≤ w9.heap.size) := aA ⟨hb10.size, HKA9.out.size⟩
    have HFL9 : Hid (∀ g, eP q b p8 l9 g → g < w9.heap.size) := aA (fun g hg => HP9.out.flt hg)
    have HOT := aA (own_newK w10 k)
    have HAT := aA (aE w10 (.cells (aK k.1) 38))
    clear x0 x1 x2 x3 x4 x5 x6 x7 s1 s2 s3 how hwn hnw hb10 CW
    obtain ⟨x0, x1, x2, x3, x4, x5, x6, x7⟩ := bN HXK10.out
    go_wp2_with fail
    go_loopw [14, 72] (fun x j wr => ∃ (jn : Nat) (ts : List KeyT) (lj : List (aS KeyT)) (at_ : Option Addr) (ct : Nat), x = .slice at_ ts.length ct ∧ j = .int .i64 (jn : Int) ∧ jn ≤ nw ∧ Hid (lj = cY l9 (wn.take jn)) ∧ Hid (fJ wr q b (C + 1) p8 lj) ∧ Hid (wr.ownsRow w10.heap.size 38 8 (.slice at_ ts.length ct) ts.length (gI ts)) ∧ Hid (∀ k', k' ∈ ts ↔ k' = k ∨ ∃ y ∈ l9, y.tx ∈ wn.take jn ∧ (y.h k' ≠ 0 ∨ y.w k' ≠ 0)) ∧ Hid (ts.length ≤ 1 + jn * (C + 1)) ∧ Hid (aC (fun g => g = b) w10 wr)) (fun _ j _ => ctK nw j)
    case atStart => exact ⟨0, [k], l9, some ⟨w10.heap.size, 0, none⟩, 1, rfl, rfl, Nat.zero_le _, aA (by show l9 = l9.filter _; exact (List.filter_eq_self.2 (fun u _ => by simp)).symm), aA (HP10.out.below HAT.out), HOT, aA (fun k' => by simp), aA (by simp), aA (aC.of_below _ HAT.out)⟩
    case round =>
     clear x0 x1 x2 x3 x4 x5 x6 x7
     obtain ⟨jn, ts, lj, at_, ct, rfl, rfl, hjn, HLJ, HPJ, HOJ, HMJ, HTL, HKJ⟩ := hrel
     by_cases hlt : jn < nw
     ·have hz2 : (jn : Int) < (nw : Int) := by omega
      have hjw : jn < wn.length := by rw [← HNW.out]; exact hlt
      obtain ⟨s, hs⟩ : ∃ s, s = wn[jn] := ⟨_, rfl⟩
      have hsm : s ∈ wn := by rw [hs]; exact List.getElem_mem hjw
      have HTK2 : Hid (wn.take (jn + 1) = wn.take jn ++ [s]) := aA (by rw [hs, List.take_succ_eq_append_getElem hjw])
      have hsn : s ∉ wn.take jn := by
       have h1 := HND.out
       rw [← List.take_append_drop jn wn, List.drop_eq_getElem_cons hjw, ← hs] at h1
       intro h2
       exact (List.nodup_append.1 h1).2.2 s h2 s List.mem_cons_self rfl
      obtain ⟨y, hy, hys⟩ := HWM.out s hsm
      have hyj : y ∈ lj := by
       rw [HLJ.out]
       exact List.mem_filter.2 ⟨hy, by rw [decide_eq_true_eq, hys]; exact hsn⟩
      have HY := aA hy
      have HYS := aA hys
      have HLJ2 : Hid (cN lj s = cY l9 (wn.take (jn + 1))) := aA (by rw [HLJ.out, less_drop, HTK2.out])
      have HOWJ := aA (aJ HOW.out HKJ.out (fun g hg e => by
       have h1 := (HOW.out.lt g hg).1
       have h2 := HFL9.out b (.inr (.inl rfl))
       omega))
      have hsq : bI txCs wr (.slice aw nw cw) (wn.map txI) := by
       have h1 : wr.ownsRow w9.heap.size 34 3 (.slice aw nw cw) (wn.map txI).length (bR txCs (wn.map txI)) := by rw [List.length_map, ← HNW.out]; exact HOWJ.out
       exact bI.of_own h1
      obtain ⟨-, bq, oq, haq, hbq, hcq⟩ := hsq.at (K := 3) (fun _ => rfl) (i := jn) (by rw [List.length_map]; exact hjw)
      subst haq
      have e1 : (wn.map txI)[jn]'(by rw [List.length_map]; exact hjw) = txI s := by rw [List.getElem_map, hs]
      rw [e1] at hcq
      have y0 : wr.cell? ⟨bq, oq + jn * 3, none⟩ = some (.int .u8 (s.1 : Int)) := hcq 0 _ rfl
      have y1 : wr.cell? ⟨bq, oq + jn * 3 + 1, none⟩ = some (.int .u32 (s.2.1 : Int)) := hcq 1 _ rfl
      have y2 : wr.cell? ⟨bq, oq + jn * 3 + 2, none⟩ = some (.int .u32 (s.2.2 : Int)) := hcq 2 _ rfl
      have HA5 := aA (aE wr (.cells #[.int .u8 (s.1 : Int), .int .u32 (s.2.1 : Int), .int .u32 (s.2.2 : Int)] 34))
      have HXB := aA (aN wr #[.int .u8 (s.1 : Int), .int .u32 (s.2.1 : Int), .int .u32 (s.2.2 : Int)] 34)
      obtain ⟨w5, hw5⟩ : ∃ w5, w5 = wr.alloc (.cells #[.int .u8 (s.1 : Int), .int .u32 (s.2.1 : Int), .int .u32 (s.2.2 : Int)] 34) := ⟨_, rfl⟩
      obtain ⟨p9, hp9⟩ : ∃ p9, p9 = wr.heap.size := ⟨_, rfl⟩
      rw [← hw5] at HA5
      rw [← hw5, ← hp9] at HXB
      have hW5 := hw5.symm
      have hP9 := hp9.symm
      have CD := aA (lkDrop_any q b (C + 1) p8 lj y hyj w5 (HPJ.out.below HA5.out) (by have := HC.out; omega))
      rw [hys] at CD
      obtain ⟨y0b, y1b, y2b⟩ := HXB.out.three
      have HOJ5 := aA (aJ HOJ.out (aC.of_below (fun _ => False) HA5.out) (fun _ _ h => h))
      have HKJ5 : Hid (aC (fun g => g = b) w10 w5) := aA (HKJ.out.trans (aC.of_below (fun _ => False) HA5.out) (fun _ _ h => h.elim))
      clear hs hsm hsn hy hys hyj hsq hbq hcq e1 hw5 hp9
      obtain ⟨sa, sb, sc⟩ := s
      dsimp only at *
      go_wp2_with fail
      refine CD.out.mono ?_
      rintro e w6 ⟨v6, ks, rfl, hrow, hmem, hkl, hp6, hk6⟩
      have HSRC : Hid (bI kyCs w6 v6 ks) := aA (bI.of_own hrow)
      have HFJ : Hid (b < w9.heap.size) := aA (HFL9.out b (.inr (.inl rfl)))
      have HOJ6 := aA (aJ HOJ5.out hk6 (fun g hg e => by
       have h1 := (HOJ5.out.lt g hg).1
       have h2 := HFJ.out
       have h3 := HS910.out
       omega))
      have HKJ6 : Hid (aC (fun g => g = b) w10 w6) := aA (HKJ5.out.trans hk6 (fun _ _ h => h))
      have HP6 := aA hp6
      have HMEM := aA hmem
      have HKL := aA hkl
      have HSL : Hid (ts.length + ks.length ≤ 1000000) := aA (by
       have h1 := HTL.out
       have h2 := HKL.out
       have h3 := HC.out
       have h4 : jn * (C + 1) ≤ 64 * 151 := Nat.mul_le_mul (by omega) (by omega)
       omega)
      have HB610 : Hid (w10.heap.size ≤ w6.heap.size) := aA HKJ6.out.size
      clear hrow hmem hkl hp6 hk6 y0 y1 y2 y0b y1b y2b hW5 hP9 CD
      go_wp2_with (at_builtin; refine dS eU _ rfl _ _ rfl w10.heap.size (.slice at_ ts.length ct) v6 ts ks rfl HOJ6.out rfl HSRC.out ?_ HSL.out HB610.out ?_)
      ·exact (fun z hz => key_one15 _)
      intro v9 w9' ho9 hg9 _
      obtain ⟨a9, c9, hv9e, _⟩ := aQ ho9
      subst hv9e
      have hk9 := kept15 hg9
      have HPX := aA (HP6.out.keep hk9 (fun g hF e => by
       have h1 := (HOJ6.out.lt g e).1
       have h2 := HFL9.out g (iT (fun u hu => (List.mem_filter.1 (show u ∈ l9.filter _ from by have := (List.mem_filter.1 hu).1; rw [HLJ.out] at this; exact this)).1) hF)
       have h3 := HS910.out
       omega))
      have HO9 := aA ho9
      have HK9' : Hid (aC (fun g => g = b) w10 w9') := aA (HKJ6.out.trans hk9 (fun g hg e => by
       have h1 := (HOJ6.out.lt g e).1
       omega))
      have HM9 : Hid (∀ k', k' ∈ ts ++ ks ↔ k' = k ∨ ∃ y ∈ l9, y.tx ∈ wn.take (jn + 1) ∧ (y.h k' ≠ 0 ∨ y.w k' ≠ 0)) := aA (fun k' => by
       rw [List.mem_append, HMJ.out k', HMEM.out k', HTK2.out]
       constructor
       ·rintro ((h1 | ⟨z, hz, h2, h3⟩) | h1)
        ·exact .inl h1
        ·exact .inr ⟨z, hz, List.mem_append_left _ h2, h3⟩
        ·exact .inr ⟨y, HY.out, by rw [HYS.out]; simp, h1⟩
       ·rintro (h1 | ⟨z, hz, h2, h3⟩)
        ·exact .inl (.inl h1)
        ·rcases List.mem_append.1 h2 with h2 | h2
         ·exact .inl (.inr ⟨z, hz, h2, h3⟩)
         ·rw [List.mem_singleton] at h2
          have := cR HB9.out.rise hz HY.out (by rw [HYS.out]; exact h2)
          rw [this] at h3
          exact .inr h3)
      have HTL9 : Hid ((ts ++ ks).length ≤ 1 + (jn + 1) * (C + 1)) := aA (by
       have h1 := HTL.out
       have h2 := HKL.out
       rw [List.length_append, Nat.add_mul, Nat.one_mul]
       omega)
      have HLE : Hid ((ts ++ ks).length = ts.length + ks.length) := aA List.length_append
      clear ho9 hg9 hk9
      go_wp2_with fail
      go_roundw
      case rel => exact ⟨jn + 1, ts ++ ks, cN lj (sa, sb, sc), a9, c9, by rw [HLE.out], by first | rfl | go_num, by omega, HLJ2, HPX, by rw [HLE.out]; exact HO9, HM9, HTL9, HK9'⟩
      case measure =>
       rw [show (jn : Int) + 1 = ((jn + 1 : Nat) : Int) from by omega, cB, cB]
       omega
     ·have hz2 : ¬ (jn : Int) < (nw : Int) := by omega
      have HJE : Hid (wn.take jn = wn) := aA (by rw [show jn = wn.length from by rw [← HNW.out]; omega]; exact List.take_length)
      have HLJ2 : Hid (lj = cY l9 wn) := aA (by rw [HLJ.out, HJE.out])
      have HQJ : Hid (QN N lj) := aA (by
       rw [HLJ2.out, HWN.out, HL9.out, HL8.out.1]
       exact HQ2.out)
      have HTL2 : Hid (ts.length ≤ 10000) := aA (by
       have h1 := HTL.out
       have h3 := HC.out
       have h4 : jn * (C + 1) ≤ 64 * 151 := Nat.mul_le_mul (by omega) (by omega)
       omega)
      have HSUB : Hid (∀ u ∈ lj, u ∈ l9) := aA (fun u hu => by rw [HLJ2.out] at hu; exact (List.mem_filter.1 hu).1)
      have CO := aA (lkOn_any N HSS.out q b (C + 1) p8 lj ts (.slice at_ ts.length ct) w10.heap.size wr HPJ.out HOJ.out (fun g hg hF => by
       have h1 := (HOJ.out.lt g hg).1
       have h2 := HFL9.out g (iT HSUB.out hF)
       have h3 := HS910.out
       omega) HTL2.out (by have := HC.out; omega) HQJ.out)
      go_wp2_with fail
      refine CO.out.mono ?_
      rintro e w7 ⟨vg, ks', rfl, hks, hrg, hp7, hk7⟩
      obtain ⟨ag, cg, rfl, _⟩ := aQ hrg
      have HRG := aA hrg
      have HP7 := aA hp7
      have HKS := aA hks
      have HFJ : Hid (b < w9.heap.size ∧ b < p1) := aA ⟨HFL9.out b (.inr (.inl rfl)), HFL.out b (.inr (.inl rfl))⟩
      have HOWJ := aA (aJ HOW.out HKJ.out (fun g hg e => by
       have h1 := (HOW.out.lt g hg).1
       have h2 := HFJ.out
       omega))
      have HNK : Hid (∀ g, w9.heap.size ≤ g → g < w10.heap.size → ¬ (MS15 p8 lj g ∨ (Value.slice at_ ts.length ct).ownBlock = some g)) := aA (fun g h1 h2 h3 => by
       rcases h3 with h3 | h3
       ·have h4 := HFL9.out g (iT HSUB.out (.inr (.inr h3)))
        omega
       ·have h4 := (HOJ.out.lt g h3).1
        omega)
      have HOW7 := aA (aJ HOWJ.out hk7 (fun g hg e => by
       have h1 := HOW.out.lt g hg
       exact HNK.out g h1.1 h1.2 e))
      have HXO7 : Hid (bZ w7 p3 zO 45) := aA ((HXO10.out.keep HKJ.out (fun e => by have h1 := HFJ.out; have h2 := HNUM.out; omega)).keep hk7 (fun e => by
       rcases e with h3 | h3
       ·exact (HF84.out p3 (HF9.out p3 (iT HSUB.out (.inr (.inr h3))))).2.2.1 rfl
       ·have h4 := (HOJ.out.lt p3 h3).1
        have h5 := HXO10.out.lt
        omega))
      have HKA7 : Hid (aC (fun g => eP q b p l g) w w7) := aA ((HKA10.out.trans HKJ.out (fun g _ e => by rw [e]; exact .inr (.inl rfl))).trans hk7 (fun g hg e => by
       rcases e with h3 | h3
       ·rcases HF8.out g (HF9.out g (iT HSUB.out (.inr (.inr h3)))) with h4 | h4
        ·exact h4
        ·omega
       ·have h4 := (HOJ.out.lt g h3).1
        have h5 := HS910.out
        omega))
      have hbu2 := buildOut2 aw ag nw cw (fX lj ks').length cg
      have HWR : Hid (w10.heap.size ≤ wr.heap.size) := aA HKJ.out.size
      clear hrg hp7 hks hk7 CO
      obtain ⟨gr, hgr⟩ : ∃ gr, gr = fX lj ks' := ⟨_, rfl⟩
      obtain ⟨gn, hgn⟩ : ∃ gn, gn = gr.length := ⟨_, rfl⟩
      rw [← hgr] at HRG hbu2 ⊢
      rw [← hgn] at HRG hbu2 ⊢
      have HGR := aA (And.intro hgr hgn)
      clear hgr hgn
      go_wp2_with (refine aP rfl rfl _ _ rfl p3 rfl (cs' := #[.slice aw nw cw, .slice ag gn cg]) rfl HXO7.out rfl bX (by simp [Value.oneCell']) ?_; intro w8' hb8 hk8; have HXE := aA hb8; have HK8 := aA hk8; clear hb8 hk8)
      refine bodyPost_ret (v := .tuple #[.agg #[.slice aw nw cw, .slice ag gn cg], .int .i64 0]) (bB Tryz.results23 _ _ p3 rfl rfl HXE.out Tryz.underlying45 rfl bX) rfl ?_
      have hrel2 : AskR cQ (dG tm t k m) l t tm k m 0 (gA lj ks') wn gr := by
       refine .inr ⟨HTK.out.1, HTK.out.2.1, HTK.out.2.2, HG.out, rfl, ?_⟩
       rw [← HL8.out.1, ← HL9.out]
       refine ⟨HWN.out, ks', ⟨HKS.out.1, fun k' => (HKS.out.2 k').trans ?_⟩, by rw [HGR.out.1, HLJ2.out], by rw [HLJ2.out]⟩
       have h1 := HMJ.out k'
       rw [HJE.out] at h1
       exact h1
      have hf3 : ∀ g, eP q b p8 (gA lj ks') g → eP q b p8 l8 g := fun g hg => HF9.out g (iT HSUB.out (eX (gO ks' lj) hg))
      have h12 := HNUM.out
      have hwn : w8'.ownsRow w.heap.size 34 3 (.slice aw nw cw) wn.length (bR txCs (wn.map txI)) := by
       have h8 := aJ HOW7.out HK8.out (fun g hg e => by
        have h1 := (HOW.out.lt g hg).1
        have h2 := HXO9.out.lt
        omega)
       rw [← HNW.out]
       exact dO h8 HS910.out.2
      have hgw : w8'.ownsRow w.heap.size 73 12 (.slice ag gn cg) gr.length (bR gtE gr) := by
       have h8 := aJ HRG.out HK8.out (fun g hg e => by
        have h1 := (HRG.out.lt g hg).1
        have h2 := HXO10.out.lt
        have h3 := HWR.out
        omega)
       rw [← HGR.out.2]
       exact dO h8 (by have h3 := HWR.out; have h4 := HS910.out; omega)
      refine ⟨_, _, 0, wn, gr, gA lj ks', p8, rfl, hrel2, HP7.out.keep HK8.out (fun g hg e => (HF84.out g (hf3 g hg)).2.2.1 e), HKA7.out.trans HK8.out (fun g hg e => by omega), fun g hg => ?_, hwn, hgw⟩
      rcases HF8.out g (hf3 g hg) with h4 | h4
      ·exact .inl h4
      ·exact .inr h4.1
end
end Go.Proofs.YtiloagmkkhlfjaaGreat
