/-
  Own texts put together: LrRest, LrWould, LrBoth, LrSame. Own work.
-/
import Derived.Test.YtiloagmkkhlfjaaGreatG39
import Derived.Test.YtiloagmkkhlfjaaGreatG16
import Derived.Test.YtiloagmkkhlfjaaGreatG28
import Derived.Test.YtiloagmkkhlfjaaGreatG43
import Derived.Test.YtiloagmkkhlfjaaGreatG42
import Derived.Test.YtiloagmkkhlfjaaGreatG30
namespace Go.Proofs.YtiloagmkkhlfjaaGreat
set_option maxRecDepth 100000
section
open Go.RowKit Go.Maps Classical
theorem src_keepR {α : Type} {enc : α → List Value} {S : Nat → Prop} {w w' : World} {v : Value} {xs : List α} (h : bI enc w v xs) (hk : aC S w w') (hS : xs ≠ [] → ∀ g, v.ownBlock = some g → ¬ S g) : bI enc w' v xs := by
 by_cases hne : xs = []
 ·obtain ⟨ao, c, rfl, h1, h2, h3, h4⟩ := h
  exact ⟨ao, c, rfl, h1, h2, h3, fun h => absurd hne h⟩
 ·exact h.keep hk (hS hne)
def RestQ (w : World) (r : Nat) (F : Nat → Prop) (C : Nat) (l : List (aS KeyT)) (t : TxN) (ks : List KeyT) (er : Int) (w' : World) : Prop := ∃ l', RestR (fF t ks) l t ks er l' ∧ fP dR w w' r F (C + ks.length) l'
def HIf (b : Bool) (P : Prop) : Prop := b = true ↔ P
def h2U (k : KeyT) (u : aS KeyT) : aS KeyT := { u with h := fun k' => if k' = k then 2 else u.h k' }
theorem upd_ins {l : List (aS KeyT)} {x : aS KeyT} (hn : ∀ y ∈ l, y.tx ≠ x.tx) {φ : aS KeyT → aS KeyT} (hφ : (φ x).tx = x.tx) : bG (dH l x) x.tx φ = dH l (φ x) := by
 unfold bG dH
 rw [List.map_append, List.map_cons, if_pos rfl, hφ]
 have h1 : ∀ A : List (aS KeyT), (∀ y ∈ A, y ∈ l) → A.map (fun u => if u.tx = x.tx then φ u else u) = A := fun A hA => by
  conv => rhs; rw [← List.map_id A]
  exact List.map_congr_left fun u hu => by rw [if_neg (hn u (hA u hu))]; rfl
 rw [h1 _ (fun y hy => (List.takeWhile_prefix _).subset hy), h1 _ (fun y hy => (List.dropWhile_suffix _).subset hy)]
theorem rest_next {l : List (aS KeyT)} {t : TxN} (hn : ∀ y ∈ l, y.tx ≠ t) (ks : List KeyT) (k : KeyT) : bG (dH l (eM t ks)) t (h2U k) = dH l (eM t (ks ++ [k])) := by
 have := upd_ins (x := eM t ks) (l := l) hn (φ := h2U k) rfl
 refine this.trans ?_
 congr 1
 unfold h2U eM
 congr 1
 funext k'
 by_cases e : k' = k
 ·simp [e]
 ·simp [e]
theorem rest_rep {l : List (aS KeyT)} {t : TxN} {ks : List KeyT} {k : KeyT} {L : List UsR} {H W : List (cD KeyT)} (hn : ∀ y ∈ l, y.tx ≠ t) (h : eF (dH l (eM t ks)) L H W) : eF (dH l (eM t (ks ++ [k]))) L (jU H ⟨t, k, 2⟩) W := by
 rw [← rest_next hn]
 refine ⟨?_, ?_, h.w.upd t (fun _ => rfl) (fun _ _ => rfl)⟩
 ·rw [h.us]
  unfold bG
  rw [List.map_map]
  refine List.map_congr_left fun u _ => ?_
  show usR u = usR (if u.tx = t then h2U k u else u)
  split <;> rfl
 ·exact h.h.put (g := ⟨t, k, 2⟩) (by show (2 : Nat) ≠ 0; decide) ⟨_, (bU _ _ _).2 (.inl rfl), rfl⟩ (φ := h2U k) (fun _ => rfl) (fun u _ _ => by show (if k = k then 2 else _) = 2; rw [if_pos rfl]) (fun u k' hk => by show (if k' = k then 2 else u.h k') = u.h k'; rw [if_neg hk]) (holdL_pair h.h.u) (fun x => holdL_mem)
theorem held_iff {l : List (aS KeyT)} {H : List (cD KeyT)} (h : LsR l aS.h H) (k : KeyT) : (∃ g ∈ H, g.key = k) ↔ ∃ u ∈ l, u.h k ≠ 0 := by
 constructor
 ·rintro ⟨g, hg, rfl⟩
  obtain ⟨h1, x, hx, e1, e2⟩ := h.mem hg
  exact ⟨x, hx, by rw [e2]; exact h1⟩
 ·rintro ⟨u, hu, hk⟩
  exact ⟨⟨u.tx, k, u.h k⟩, (h.m _ _ _).2 ⟨hk, u, hu, rfl, rfl⟩, rfl⟩
theorem buildSt15R (t : TxN) (w : World) : (Instr.build 36 #[(1, aV t)]).run Tryz.prog w = .ok (.agg #[.int .u32 0, .int .u8 (t.1 : Int), .int .u32 (t.2.1 : Int), .int .u32 (t.2.2 : Int)]) w := by kernel_rfl
theorem buildUs15R (t : TxN) (w : World) : (Instr.build 83 #[(0, .agg #[.int .u32 0, .int .u8 (t.1 : Int), .int .u32 (t.2.1 : Int), .int .u32 (t.2.2 : Int)]), (1, .bool true)]).run Tryz.prog w = .ok (.agg (urA ⟨t, 0, true⟩)) w := by kernel_rfl
theorem buildGt2R (t : TxN) (k : KeyT) (w : World) : (Instr.build 62 #[(0, aV t), (1, .agg (aK k.1)), (2, .int .u8 2)]).run Tryz.prog w = .ok (.agg (bW ⟨t, k, 2⟩)) w := by kernel_rfl
set_option maxHeartbeats 6400000 in
theorem rrestore_any15 (r C : Nat) (F : Nat → Prop) (l : List (aS KeyT)) (t : TxN) (ks : List KeyT) (v : Value) (w : World) (h : dR w r F C l) (hC : C + ks.length ≤ 10000) (ht : kJ t) (hs : bI kyCs w v ks) (hap : ks ≠ [] → ∀ g, v.ownBlock = some g → g ≠ r) :
  Calls Tryz.prog 30 #[.pointer (some ⟨r, 0, none⟩), aV t, v] w fun e w' => ∃ er, e = .returned (.int .i64 er) ∧ RestQ w r F C l t ks er w' := by
 have hA0 := aE w (.cells #[.int .u8 (t.1 : Int), .int .u32 (t.2.1 : Int), .int .u32 (t.2.2 : Int)] 34)
 have hB0 := hA0
 have HXp4 : Hid (bZ (w.alloc (.cells #[.int .u8 (t.1 : Int), .int .u32 (t.2.1 : Int), .int .u32 (t.2.2 : Int)] 34)) (w.heap.size) #[.int .u8 (t.1 : Int), .int .u32 (t.2.1 : Int), .int .u32 (t.2.2 : Int)] 34) := aA (by have := aN w #[.int .u8 (t.1 : Int), .int .u32 (t.2.1 : Int), .int .u32 (t.2.2 : Int)] 34; simpa using this)
 obtain ⟨W1, hw1⟩ : ∃ W1, W1 = (w.alloc (.cells #[.int .u8 (t.1 : Int), .int .u32 (t.2.1 : Int), .int .u32 (t.2.2 : Int)] 34)) := ⟨_, rfl⟩
 obtain ⟨p4, hp4⟩ : ∃ p4, p4 = w.heap.size := ⟨_, rfl⟩
 rw [← hw1] at HXp4 hB0
 rw [← hp4] at HXp4
 have HW1 := aA hw1
 have HEp4 := aA hp4
 have HB := aA hB0
 have HNp4 : Hid (w.heap.size ≤ p4 ∧ p4 < W1.heap.size) := aA ⟨by omega, HXp4.out.lt⟩
 clear hw1 hA0 hB0 hp4
 have HR0 := aA (rl_more h (Nat.le_add_right C ks.length))
 obtain ⟨vL, vH, vW, L, H, W, hT, hrep, hb, hcc, hF⟩ := h
 obtain rfl := hrep.us
 have HT := aA (hT.below HB.out)
 have hlen : (l.map usR).length ≤ 100 := by rw [List.length_map]; have := hb.few; omega
 have HSK := aA (hs.below HB.out)
 obtain ⟨ak, ck, hvk, _, _⟩ := hs.shape
 subst hvk
 obtain ⟨NK, hNK⟩ : ∃ NK, NK = ks.length := ⟨_, rfl⟩
 have HNK := aA hNK
 have HSK2 : Hid (bI kyCs W1 (.slice ak NK ck) ks) := aA (by rw [hNK]; exact HSK.out)
 rw [← hNK] at hC hap ⊢
 have HAP := aA hap
 have HSAME := aA (fun (W' : World) (hB : Below w.heap.size w W') (er : Int) (hr : RestR (fF t ks) l t ks er l) => (⟨l, hr, rd_same HR0.out hB⟩ : RestQ w r F C l t ks er W'))
 have CT := aA (rtxMay_any (t.1 : Int) (t.2.1 : Int) (t.2.2 : Int) W1)
 obtain ⟨B1, hB1⟩ : ∃ B1, B1 = kO ((t.1 : Int), (t.2.1 : Int), (t.2.2 : Int)) := ⟨_, rfl⟩
 rw [← hB1] at CT
 have HMAY : Hid (fF t ks = (B1 && (ks.all (fun k => (cU k.1).2) && (decide (ks ≠ []) && decide ks.Nodup)))) := aA (by rw [hB1]; rfl)
 obtain ⟨x0, x1, x2⟩ := HXp4.out.three
 have hNKb : NK ≤ 10000 := by omega
 clear hs HSK hB1 hap
 go_enter Tryz.func30, Tryz.ntmps30
 go_wp2_with fail
 rw [← HW1.out, ← HEp4.out]
 refine CT.out.mono ?_
 rintro e W2 ⟨rfl, hB2⟩
 have HB12 := aA hB2
 clear hB2 CT
 cases B1 with
 | false =>
  have HF1 : Hid (fF t ks = false) := aA (by rw [HMAY.out]; rfl)
  go_wp2_with fail
  go_ret
  exact ⟨1, rfl, HSAME.out _ (HB.out.trans (HB12.out.mono HB.out.size)) 1 (.inl ⟨rfl, .inl ⟨HF1.out, rfl⟩⟩)⟩
 | true =>
 by_cases hk0 : NK = 0
 ·have HF1 : Hid (fF t ks = false) := aA (by
   have : ks = [] := List.eq_nil_of_length_eq_zero (by rw [← hNK]; exact hk0)
   rw [HMAY.out, this]
   simp)
  have hk00 : ((NK : Int) == 0) = true := by rw [hk0]; rfl
  have hk01 : (NK : Int) = 0 := by omega
  clear hk0
  go_wp2_with fail
  go_ret
  exact ⟨1, rfl, HSAME.out _ (HB.out.trans (HB12.out.mono HB.out.size)) 1 (.inl ⟨rfl, .inl ⟨HF1.out, rfl⟩⟩)⟩
 ·have hk00 : ((NK : Int) == 0) = false := by rw [beq_eq_false_iff_ne]; omega
  have hk01 : ¬ (NK : Int) = 0 := by omega
  have HNE : Hid (ks ≠ []) := aA (fun e => hk0 (by rw [hNK, e]; rfl))
  obtain ⟨aH, cH, hvH, _, _⟩ := HT.out.sH.shape
  subst hvH
  obtain ⟨NH, hNH⟩ : ∃ NH, NH = H.length := ⟨_, rfl⟩
  have HNH := aA hNH
  have hNHb : NH ≤ 10000 := by omega
  have HT2 := aA (HT.out.below HB12.out)
  have HSK3 := aA (HSK2.out.below HB12.out)
  have HSH : Hid (bI gtE W2 (.slice aH NH cH) H) := aA (by rw [hNH]; exact HT2.out.sH)
  have HC1 : Hid (∀ V, Below W2.heap.size W2 V → V.cell? ⟨r, 1, none⟩ = some (.slice aH NH cH)) := aA (fun V hV => by rw [hNH]; exact (HT2.out.below hV).c1)
  have HMB : Hid ((∃ k ∈ ks, (cU k.1).2 = false) ∨ ¬ ks.Nodup → fF t ks = false) := aA (fun hh => by
   rw [HMAY.out]
   rcases hh with ⟨k, hk, e⟩ | hn
   ·have : ks.all (fun k => (cU k.1).2) = false := by rw [List.all_eq_false]; exact ⟨k, hk, by rw [e]; simp⟩
    rw [this]; simp
   ·rw [decide_eq_false hn]; simp)
  have HREP := aA hrep
  have HLB := aA hb
  have HCC := aA hcc
  have HF := aA hF
  clear hk0 hNH hNK hT hrep hb hcc hF x0 x1 x2
  go_wp2_with fail
  go_loopg [7, 8] NK (fun gi hv i wr => ∃ (k : Nat) (hb : Bool), k + gi = NK ∧ hv = .bool hb ∧ i = .int .i64 (k : Int) ∧ Hid (∀ j (hj : j < ks.length), j < k → (cU ks[j].1).2 = true) ∧ Hid ((ks.take k).Nodup) ∧ Hid (HIf hb (∃ x ∈ ks.take k, ∃ g ∈ H, g.key = x)) ∧ Hid (Below W2.heap.size W2 wr))
  case atStart => exact ⟨0, false, by omega, rfl, rfl, aA (fun j _ h => by omega), aA (by simp), aA (by unfold HIf; simp), aA (Below.refl _ _)⟩
  case round =>
   obtain ⟨k, hb, hk, rfl, rfl, HNA, HND, HHB, HBr⟩ := hrel
   cases gk with
   | succ gi =>
    have hkI : (k : Int) < (NK : Int) := by omega
    have hkn : k < ks.length := by rw [← HNK.out]; omega
    obtain ⟨en, bK, oK, hao, hbK, hcK⟩ := (HSK3.out.below HBr.out).at eU.len hkn
    subst hao
    have HRK : Hid (∀ V, Below wr.heap.size wr V → V.rangeAt bK (oK + k * 8) (bP ks[k].1)) := aA (fun V hV j u hu => (hV.cell (p := ⟨bK, oK + k * 8 + j, none⟩) hbK).trans (hcK j u hu))
    obtain ⟨NB, hNB⟩ : ∃ NB, NB = (cU ks[k].1).2 := ⟨_, rfl⟩
    have CK : Hid (∀ V, Calls Tryz.prog 55 #[.agg (aK ks[k].1)] V fun e w' => e = .returned (.bool NB) ∧ Below V.heap.size V w') := aA (fun V => by rw [hNB]; exact rkeyMay_any ks[k].1 ks[k].2 V)
    have HNB := aA hNB
    have HKM := aA (List.getElem_mem hkn)
    have hrow0 := HRK.out wr (Below.refl _ _)
    have HR0k := aA hrow0
    have HKK : Hid (ks.take (k + 1) = ks.take k ++ [ks[k]]) := aA (List.take_succ_eq_append_getElem hkn)
    have HKN := aA hkn
    clear hNB en hrow0
    cases NB with
    | false =>
     have HF1 := aA (HMB.out (.inl ⟨_, HKM.out, HNB.out.symm⟩))
     go_wp2_with (first
      | (refine aO rfl _ (t := 38) rfl (bK) (oK + k * 8) rfl (bP ks[k].1) HR0k.out Tryz.underlying38 rfl cE ?_)
      | (go_at_call 55; refine (CK.out wr).mono ?_; rintro e w4 ⟨rfl, hB4⟩; have HB4 := aA (HBr.out.trans (hB4.mono HBr.out.size)); clear hB4))
     go_ret
     exact ⟨1, rfl, HSAME.out _ (HB.out.trans ((HB12.out.trans (HB4.out.mono HB12.out.size)).mono HB.out.size)) 1 (.inl ⟨rfl, .inl ⟨HF1.out, rfl⟩⟩)⟩
    | true =>
     go_wp2_with (first
      | (refine aO rfl _ (t := 38) rfl (bK) (oK + k * 8) rfl (bP ks[k].1) HR0k.out Tryz.underlying38 rfl cE ?_)
      | (go_at_call 55; refine (CK.out wr).mono ?_; rintro e w4 ⟨rfl, hB4⟩; have HB4 := aA (HBr.out.trans (hB4.mono HBr.out.size)); have HRK4 := aA (HRK.out w4 hB4); have HRB4 := aA hB4; clear hB4))
     have HSK4 := aA (HSK3.out.below HB4.out)
     go_loopg [9] k (fun gj j V => ∃ m : Nat, m + gj = k ∧ j = .int .i64 (m : Int) ∧ Hid (∀ j' (hj : j' < ks.length), j' < m → ks[j'] ≠ ks[k]'HKN.out) ∧ ∃ nd, V = w4.drewN nd)
     case atStart => exact ⟨0, by omega, rfl, aA (fun j _ h => by omega), 0, rfl⟩
     case round =>
      obtain ⟨m, hm, rfl, HNE2, nd, rfl⟩ := hrel
      cases gk with
      | succ gj =>
       have hmI : (m : Int) < (k : Int) := by omega
       have hmNK : (m : Int) < (NK : Int) := by omega
       have hmn : m < ks.length := by rw [← HNK.out]; omega
       obtain ⟨en, b2, o2, hao2, hb2, hc2⟩ := HSK4.out.at eU.len hmn
       cases hao2
       have a0 := hc2 0 _ rfl
       have a1 := hc2 1 _ rfl
       have a2 := hc2 2 _ rfl
       have a3 := hc2 3 _ rfl
       have a4 := hc2 4 _ rfl
       have a5 := hc2 5 _ rfl
       have a6 := hc2 6 _ rfl
       have a7 := hc2 7 _ rfl
       rw [Nat.add_zero] at a0
       have b0 := HRK4.out 0 _ rfl
       have b1 := HRK4.out 1 _ rfl
       have bb2 := HRK4.out 2 _ rfl
       have b3 := HRK4.out 3 _ rfl
       have b4 := HRK4.out 4 _ rfl
       have b5 := HRK4.out 5 _ rfl
       have b6 := HRK4.out 6 _ rfl
       have b7 := HRK4.out 7 _ rfl
       rw [Nat.add_zero] at b0
       have hq := fun V => kG ks[m] (ks[k]'HKN.out) V
       have HXT : Hid (ks[m] ≠ ks[k]'HKN.out → ∀ j' (hj : j' < ks.length), j' < m + 1 → ks[j'] ≠ ks[k]'HKN.out) := aA (fun e j' hj hjm => by
        by_cases ej : j' = m
        ·subst ej; exact e
        ·exact HNE2.out j' hj (by omega))
       have HDU : Hid (ks[m] = ks[k]'HKN.out → ¬ ks.Nodup) := aA (fun e hn => by
        have := (List.pairwise_iff_getElem.1 hn) m k hmn HKN.out (by omega)
        exact this e)
       generalize ks[m] = ym at *
       clear hc2 en
       by_cases e : ym = ks[k]'HKN.out
       ·have HF1 := aA (HMB.out (.inr (HDU.out e)))
        rw [decide_eq_true e] at hq
        clear e HXT HDU
        go_wp2_with fail
        go_quiet (fail)
        go_wp2_with fail
        go_ret
        exact ⟨1, rfl, HSAME.out _ (HB.out.trans ((HB12.out.trans ((HB4.out.trans (((aU w4 nd).trans (aU (w4.drewN nd) nq)).mono HB4.out.size)).mono HB12.out.size)).mono HB.out.size)) 1 (.inl ⟨rfl, .inl ⟨HF1.out, rfl⟩⟩)⟩
       ·have HNE3 := aA (HXT.out e)
        rw [decide_eq_false e] at hq
        clear e HXT HDU
        go_wp2_with fail
        go_quiet (fail)
        go_wp2_with fail
        go_roundg gj
        case measure => omega
        case rel => exact ⟨m + 1, by omega, by first | rfl | go_num, HNE3, nd + nq, by simp⟩
      | zero =>
       obtain rfl : m = k := by omega
       have hzm : ¬ ((m : Int) < (m : Int)) := by omega
       have HND2 : Hid ((ks.take (m + 1)).Nodup) := aA (by
        rw [HKK.out]
        refine List.nodup_append.2 ⟨HND.out, by simp, fun a ha c hc => ?_⟩
        rw [List.mem_singleton] at hc
        subst hc
        obtain ⟨j, hj, rfl⟩ := List.getElem_of_mem ha
        rw [List.length_take] at hj
        rw [List.getElem_take]
        exact HNE2.out j (by omega) (by omega))
       have HNA2 : Hid (∀ j (hj : j < ks.length), j < m + 1 → (cU ks[j].1).2 = true) := aA (fun j hj hjm => by
        by_cases ej : j = m
        ·subst ej; exact HNB.out.symm
        ·exact HNA.out j hj (by omega))
       have HWD := aA (aU w4 nd)
       have HB5 := aA (HB4.out.trans (HWD.out.mono HB4.out.size))
       have HRK5 : Hid ((w4.drewN nd).rangeAt bK (oK + m * 8) (bP (ks[m]'HKN.out).1)) := aA (HRK.out _ (HRB4.out.trans (HWD.out.mono HRB4.out.size)))
       have HSK5 := aA (HSK3.out.below HB5.out)
       clear HWD
       generalize w4.drewN nd = w5 at *
       go_wp2_with fail
       go_loopg [7, 10] NH (fun gj hv j V => ∃ (i : Nat) (hb2 : Bool), i + gj = NH ∧ hv = .bool hb2 ∧ j = .int .i64 (i : Int) ∧ Hid (HIf hb2 ((∃ x ∈ ks.take m, ∃ g ∈ H, g.key = x) ∨ ∃ g ∈ H.take i, g.key = ks[m]'HKN.out)) ∧ ∃ nd, V = w5.drewN nd)
       case atStart => exact ⟨0, hb, by omega, rfl, rfl, aA (by have h := HHB.out; unfold HIf at h ⊢; rw [h]; simp), 0, rfl⟩
       case round =>
        obtain ⟨i, hb2, hi, rfl, rfl, HH2, nd2, rfl⟩ := hrel
        have m1 := HC1.out _ HB5.out
        cases gk with
        | zero =>
         obtain rfl : i = NH := by omega
         have hzi : ¬ ((i : Int) < (i : Int)) := by omega
         have HH3 : Hid (HIf hb2 (∃ x ∈ ks.take (m + 1), ∃ g ∈ H, g.key = x)) := aA (by
          have h2 := HH2.out
          unfold HIf at h2 ⊢
          rw [h2, HKK.out, HNH.out, List.take_length]
          constructor
          ·rintro (⟨x, hx, e⟩ | e)
           ·exact ⟨x, List.mem_append_left _ hx, e⟩
           ·exact ⟨_, List.mem_append_right _ List.mem_cons_self, e⟩
          ·rintro ⟨x, hx, e⟩
           rcases List.mem_append.1 hx with hx | hx
           ·exact .inl ⟨x, hx, e⟩
           ·rw [List.mem_singleton] at hx; subst hx; exact .inr e)
         go_wp2_with fail
         go_roundg gi
         case measure => omega
         case rel => exact ⟨m + 1, hb2, by omega, by first | rfl | go_num, by first | rfl | go_num, HNA2, HND2, HH3, aA (HB5.out.trans ((aU w5 nd2).mono HB5.out.size))⟩
        | succ gj =>
         have hiI : (i : Int) < (NH : Int) := by omega
         have hmNK : (m : Int) < (NK : Int) := by omega
         have hin : i < H.length := by rw [← HNH.out]; omega
         obtain ⟨en, b2, o2, hao2, hb3, hc2⟩ := (HSH.out.below HB5.out).at dJ.len hin
         cases hao2
         have HTK : Hid (H.take (i + 1) = H.take i ++ [H[i]]) := aA (List.take_succ_eq_append_getElem hin)
         have a3 := hc2 3 _ rfl
         have a4 := hc2 4 _ rfl
         have a5 := hc2 5 _ rfl
         have a6 := hc2 6 _ rfl
         have a7 := hc2 7 _ rfl
         have a8 := hc2 8 _ rfl
         have a9 := hc2 9 _ rfl
         have a10 := hc2 10 _ rfl
         have c0 := HRK5.out 0 _ rfl
         have c1 := HRK5.out 1 _ rfl
         have c2 := HRK5.out 2 _ rfl
         have c3 := HRK5.out 3 _ rfl
         have c4 := HRK5.out 4 _ rfl
         have c5 := HRK5.out 5 _ rfl
         have c6 := HRK5.out 6 _ rfl
         have c7 := HRK5.out 7 _ rfl
         rw [Nat.add_zero] at c0
         have hq := fun V => kG H[i].key (ks[m]'HKN.out) V
         generalize H[i] = y at *
         clear hc2 en hb3
         cases hb2 with
         | true =>
          have HH4 : Hid (HIf true ((∃ x ∈ ks.take m, ∃ g ∈ H, g.key = x) ∨ ∃ g ∈ H.take (i + 1), g.key = ks[m]'HKN.out)) := aA (by
           refine ⟨fun _ => (HH2.out.1 rfl).imp id (fun ⟨g, hg, e⟩ => ⟨g, by rw [HTK.out]; exact List.mem_append_left _ hg, e⟩), fun _ => rfl⟩)
          go_wp2_with fail
          go_quiet (fail)
          go_wp2_with fail
          go_roundg gj
          case measure => omega
          case rel => exact ⟨i + 1, true, by omega, by first | rfl | go_num, by first | rfl | go_num, HH4, nd2 + nq, by simp⟩
         | false =>
          obtain ⟨D, hD⟩ : ∃ D, D = decide (y.key = ks[m]'HKN.out) := ⟨_, rfl⟩
          have HH4 : Hid (HIf D ((∃ x ∈ ks.take m, ∃ g ∈ H, g.key = x) ∨ ∃ g ∈ H.take (i + 1), g.key = ks[m]'HKN.out)) := aA (by
           unfold HIf
           rw [hD, decide_eq_true_eq, HTK.out]
           constructor
           ·exact fun e => .inr ⟨y, List.mem_append_right _ List.mem_cons_self, e⟩
           ·rintro (h | ⟨g, hg, e⟩)
            ·have := HH2.out.2 (.inl h); cases this
            ·rcases List.mem_append.1 hg with hg | hg
             ·have := HH2.out.2 (.inr ⟨g, hg, e⟩); cases this
             ·rw [List.mem_singleton] at hg; subst hg; exact e)
          rw [← hD] at hq
          clear hD
          go_wp2_with fail
          go_quiet (fail)
          go_wp2_with fail
          go_roundg gj
          case measure => omega
          case rel => exact ⟨i + 1, D, by omega, by first | rfl | go_num, by first | rfl | go_num, HH4, nd2 + nq, by simp⟩
   | zero =>
    obtain rfl : k = NK := by omega
    have hzk : ¬ ((k : Int) < (k : Int)) := by omega
    have HMT : Hid (fF t ks = true) := aA (by
     rw [HMAY.out]
     have h1 : ks.all (fun k => (cU k.1).2) = true := by
      rw [List.all_eq_true]
      intro x hx
      obtain ⟨j, hj, rfl⟩ := List.getElem_of_mem hx
      exact HNA.out j hj (by rw [HNK.out]; exact hj)
     have h2 : ks.Nodup := by
      have := HND.out
      rw [HNK.out, List.take_length] at this
      exact this
     rw [h1, decide_eq_true HNE.out, decide_eq_true h2]
     rfl)
    have HHK : Hid (HIf hb (∃ x ∈ ks, ∃ u ∈ l, u.h x ≠ 0)) := aA (by
     have h := HHB.out
     unfold HIf at h ⊢
     rw [h, HNK.out, List.take_length]
     exact ⟨fun ⟨x, hx, h1⟩ => ⟨x, hx, (held_iff HREP.out.h x).1 h1⟩, fun ⟨x, hx, h1⟩ => ⟨x, hx, (held_iff HREP.out.h x).2 h1⟩⟩)
    have HTr := aA (HT2.out.below HBr.out)
    have CF := aA (dZ r _ _ _ _ H W t wr HTr.out hlen)
    have hX4 := (HXp4.out.belowI HB12.out).belowI HBr.out
    obtain ⟨x0, x1, x2⟩ := hX4.three
    have HBW := aA (HB12.out.trans (HBr.out.mono HB12.out.size))
    clear hX4
    cases hu : cM l t with
    | some x =>
     have HIS : Hid ((cM l t).isSome = true) := aA (by rw [hu]; rfl)
     obtain ⟨ka, hk1, hk, hk2, hk3⟩ := plU_on hu
     rw [hk1] at CF
     have hka0 : (ka : Int) ≥ 0 := by omega
     have hka1 : (0 : Int) ≤ (ka : Int) := by omega
     clear hu hk1 hk2 hk3 hk
     go_wp2_with fail
     refine CF.out.mono ?_
     rintro e W3 ⟨rfl, hB3⟩
     have HB3 := aA (HB.out.trans ((HBW.out.trans (hB3.mono HBW.out.size)).mono HB.out.size))
     clear hB3 CF x0 x1 x2
     go_wp2_with fail
     go_ret
     exact ⟨7, rfl, HSAME.out _ HB3.out 7 (.inl ⟨rfl, .inr ⟨HMT.out, .inl ⟨HIS.out, rfl⟩⟩⟩)⟩
    | none =>
     have HU := aA hu
     rw [plU_no hu] at CF
     clear hu
     go_wp2_with fail
     refine CF.out.mono ?_
     rintro e W3 ⟨rfl, hB3⟩
     have HBV := aA (HBW.out.trans (hB3.mono HBW.out.size))
     have HB3 := aA (HB.out.trans (HBV.out.mono HB.out.size))
     have HT3 := aA (HTr.out.below hB3)
     clear hB3 CF x0 x1 x2
     cases hb with
     | true =>
      have HH := aA (HHK.out.1 rfl)
      go_wp2_with fail
      go_ret
      exact ⟨11, rfl, HSAME.out _ HB3.out 11 (.inl ⟨rfl, .inr ⟨HMT.out, .inr ⟨HU.out, .inl ⟨HH.out, rfl⟩⟩⟩⟩)⟩
     | false =>
      have HH : Hid (∀ x ∈ ks, ∀ u ∈ l, u.h x = 0) := aA (fun x hx u hu => by
       by_cases h0 : u.h x = 0
       ·exact h0
       ·have := HHK.out.2 ⟨x, hx, u, hu, h0⟩; cases this)
      obtain ⟨aL, cL, hvL, _, _⟩ := HT3.out.sL.shape
      subst hvL
      have m1 := HT3.out.c0
      have hll : (l.map usR).length = l.length := List.length_map _
      rw [hll] at m1
      by_cases h64 : 64 ≤ l.length
      ·have H64 := aA h64
       have h640 : ((l.length : Int)) ≥ 64 := by omega
       have h641 : (64 : Int) ≤ (l.length : Int) := by omega
       clear h64
       go_wp2_with fail
       go_ret
       exact ⟨5, rfl, HSAME.out _ HB3.out 5 (.inl ⟨rfl, .inr ⟨HMT.out, .inr ⟨HU.out, .inr ⟨HH.out, H64.out, rfl⟩⟩⟩⟩)⟩
      ·have H64 : Hid (l.length < 64) := aA (by omega)
       have h640 : ¬ ((l.length : Int)) ≥ 64 := by omega
       have h641 : ¬ (64 : Int) ≤ (l.length : Int) := by omega
       have hbs := buildSt15R t
       have hbu := buildUs15R t
       have HNO : Hid (∀ y ∈ l, y.tx ≠ t) := aA (eR.1 HU.out)
       have CA := aA (radd_any15 r _ _ _ _ H W ⟨t, 0, true⟩ W3 HT3.out hlen ht.1 (fun y hy => by
        obtain ⟨u, hu, rfl⟩ := List.mem_map.1 hy
        exact (HLB.out.oks u hu).1.1))
       have hX4 := (HXp4.out.belowI HBV.out)
       obtain ⟨x0, x1, x2⟩ := hX4.three
       have HX43 := aA hX4
       clear h64 hX4
       go_wp2_with fail
       refine CA.out.mono ?_
       rintro e W4 ⟨rfl, vL4, hP4⟩
       have HP4 := aA hP4
       have HRW : Hid (r < w.heap.size) := aA (rl_lt HR0.out r ((HF.out r).2 (.inl rfl)))
       have HX44 := aA (HX43.out.keep hP4.k (fun e => by have h1 := HNp4.out.1; have h2 := HRW.out; omega))
       clear hP4 CA x0 x1 x2 m1
       have HIN0 : Hid (eF (dH l (eM t (ks.take 0))) (inU (l.map usR) ⟨t, 0, true⟩) H W) := aA (by
        have e1 : inU (l.map usR) ⟨t, 0, true⟩ = (dH l (eM t (ks.take 0))).map usR := inU_ins l (eM t (ks.take 0))
        exact ⟨e1, HREP.out.h.ins (fun k' => by show (if k' ∈ ks.take 0 then 2 else 0) = 0; simp), HREP.out.w.ins (fun k' => rfl)⟩)
       have HSV := aA (fun V (hk : aC (fun j => j = r) W3 V) => src_keepR (HSK2.out.below HBV.out) hk (fun hne g e => HAP.out hne g e))
       go_wp2_with fail
       go_loopg [11] k (fun gj i wr => ∃ (j : Nat) (vL5 vH5 vW5 : Value) (L5 : List UsR) (H5 : List (cD KeyT)), j + gj = k ∧ i = .int .i64 (j : Int) ∧ Hid (dC W3 wr r (.slice aL (l.map usR).length cL) (.slice aH NH cH) vW vL5 vH5 vW5 L5 H5 W) ∧ Hid (eF (dH l (eM t (ks.take j))) L5 H5 W) ∧ Hid (H5.length ≤ H.length + j))
       case atStart => exact ⟨0, _, _, _, _, _, by omega, rfl, (by rw [HNH.out]; exact HP4), HIN0, aA (by omega)⟩
       case round =>
        obtain ⟨j, vL5, vH5, vW5, L5, H5, hj, rfl, HP5, HRP5, HLE⟩ := hrel
        cases gk with
        | zero =>
         obtain rfl : j = k := by omega
         have hzj : ¬ ((j : Int) < (j : Int)) := by omega
         have HRF : Hid (eF (dH l (eM t ks)) L5 H5 W) := aA (by
          have h1 := HRP5.out
          rw [HNK.out, List.take_length] at h1
          exact h1)
         go_wp2_with fail
         go_ret
         refine ⟨0, rfl, dH l (eM t ks), .inr ⟨HMT.out, HU.out, HH.out, H64.out, rfl, rfl⟩, ?_⟩
         refine rd_before HB3.out (rl_of (vL := .slice aL (l.map usR).length cL) (vH := .slice aH NH cH) (vW := vW) (by rw [HNH.out]; exact HF.out) HP5.out HRF.out ?_ ?_)
         ·exact insU_b HLB.out (x := eM t ks) HU.out H64.out ⟨ht, by show 0 < 4294967296; decide, fun k' => by unfold eM; dsimp only; split <;> omega, fun k' => by show 0 ≤ 2; decide⟩
         ·have h1 := HLE.out; have h2 := HCC.out; have h3 := HNK.out; omega
        | succ gj =>
         have hjI : (j : Int) < (k : Int) := by omega
         have hjn : j < ks.length := by rw [← HNK.out]; omega
         have HS5 := aA (HSV.out wr HP5.out.k)
         obtain ⟨en, b2, o2, hao2, hb2, hc2⟩ := HS5.out.at eU.len hjn
         subst hao2
         have HTK : Hid (ks.take (j + 1) = ks.take j ++ [ks[j]]) := aA (List.take_succ_eq_append_getElem hjn)
         have hX5 := HX43.out.keep HP5.out.k (fun e => by have h1 := HNp4.out.1; have h2 := HRW.out; omega)
         have x0 := hX5.cell 0 _ rfl
         have x1 := hX5.cell 1 _ rfl
         have x2 := hX5.cell 2 _ rfl
         have kc0 := hc2 0 _ rfl
         have kc1 := hc2 1 _ rfl
         have kc2 := hc2 2 _ rfl
         have kc3 := hc2 3 _ rfl
         have kc4 := hc2 4 _ rfl
         have kc5 := hc2 5 _ rfl
         have kc6 := hc2 6 _ rfl
         have kc7 := hc2 7 _ rfl
         rw [Nat.add_zero] at kc0
         have CH := aA (fun V (hV : iU V r vL5 vH5 vW5 L5 H5 W) => rhold_any15 r vL5 vH5 vW5 L5 H5 W ⟨t, ks[j], 2⟩ V hV (by have h1 := HLE.out; have h2 := HCC.out; omega))
         have hbg := buildGt2R t ks[j]
         have HRP6 : Hid (eF (dH l (eM t (ks.take (j + 1)))) L5 (jU H5 ⟨t, ks[j], 2⟩) W) := aA (by rw [HTK.out]; exact rest_rep HNO.out HRP5.out)
         generalize ks[j] = y at *
         clear en hc2 hb2 hX5
         go_wp2_with fail
         go_region_with (go_at_call 57; refine (CH.out _ (HP5.out.t.below (aG wr))).mono ?_; rintro e w6 ⟨rfl, vH6, hP6⟩; have HP6 := aA (HP5.out.trans (dC.before (aG wr) hP6)); clear hP6)
         all_goals go_wp2_with fail
         all_goals go_roundg gj
         all_goals first
          | (case measure => omega)
          | (case rel => exact ⟨j + 1, _, _, _, _, _, by omega, by first | rfl | go_num, HP6, HRP6, aA (by have h1 := HLE.out; have h2 := holdL_len H5 ⟨t, y, 2⟩; omega)⟩)
end
section
open Go.RowKit Go.Maps Classical
def WouldR (a : LAct) (l : List (aS KeyT)) (er : Int) (l' : List (aS KeyT)) (wn : List TxN) (gr : List (cD KeyT)) : Prop :=
 (a.kd % 5 = 2 ∧ RPrep l a.t er l' gr ∧ wn = []) ∨ (a.kd % 5 = 3 ∧ RRel l a.t er l' gr ∧ wn = []) ∨ (a.kd % 5 = 4 ∧ RestR (fF a.t a.ks) l a.t a.ks er l' ∧ wn = [] ∧ gr = []) ∨
  ((a.kd % 5 ≠ 2 ∧ a.kd % 5 ≠ 3 ∧ a.kd % 5 ≠ 4) ∧ RAsk (dG a.tm a.t a.k a.m) l a.t a.tm a.k a.m er l' wn gr)
structure WouldV (a : LAct) (w : World) (q : Nat) (F : Nat → Prop) (C : Nat) (l : List (aS KeyT)) (e : Ending) (w' : World) : Prop where
 ex : ∃ vw vg er wn gr l' C', e = .returned (.tuple #[.agg #[vw, vg], .int .i64 er]) ∧ WouldR a l er l' wn gr ∧ C' ≤ C + 30 ∧ fP dR w w' q F C' l' ∧
  w'.ownsRow w.heap.size 34 3 vw wn.length (bR txE3 wn) ∧ w'.ownsRow w.heap.size 62 12 vg gr.length (bR gtE gr)
set_option maxHeartbeats 3200000 in
theorem would_any15 (a : LAct) (u : Value) {w : World} {q C : Nat} {F : Nat → Prop} {l : List (aS KeyT)} (h : dR w q F C l) (hC : C ≤ 5000) (hok : LvOk w ⟨a, u⟩) (hks : a.ks.length ≤ 30) (hap : a.ks ≠ [] → ∀ g, u.ownBlock = some g → g ≠ q) :
  Calls Tryz.prog 9 #[.pointer (some ⟨q, 0, none⟩), .agg (eO a u)] w fun e w' => WouldV a w q F C l e w' := by
 have hA := aE w (.cells (eO a u) 41)
 have hA2 := aE (w.alloc (.cells (eO a u) 41)) (.cells jL 50)
 have HXA := aA ((aN w (eO a u) 41).belowI hA2)
 have HXO : Hid (bZ ((w.alloc (.cells (eO a u) 41)).alloc (.cells jL 50)) (w.heap.size + 1) jL 50) := aA (by have := aN (w.alloc (.cells (eO a u) 41)) jL 50; simpa using this)
 have hB2 := hA.trans (hA2.mono hA.size)
 have hsz : ((w.alloc (.cells (eO a u) 41)).alloc (.cells jL 50)).heap.size = w.heap.size + 2 := by simp
 obtain ⟨w1, hw1⟩ : ∃ w1, w1 = (w.alloc (.cells (eO a u) 41)).alloc (.cells jL 50) := ⟨_, rfl⟩
 obtain ⟨p1, hp1⟩ : ∃ p1, p1 = w.heap.size := ⟨_, rfl⟩
 obtain ⟨p2, hp2⟩ : ∃ p2, p2 = p1 + 1 := ⟨_, rfl⟩
 rw [← hw1, ← hp1] at HXA
 rw [← hw1, ← hp1, ← hp2] at HXO
 rw [← hw1] at hB2 hsz
 have hW1 := hw1.symm
 have hP1 := hp1.symm
 have hP2 := hp2.symm
 have HB := aA hB2
 have HNUM : Hid (w.heap.size ≤ p2 ∧ p2 < w1.heap.size) := aA ⟨by omega, by omega⟩
 have hD1 := rl_below h hB2
 have HD := aA h
 have HLT : Hid (¬ F p2) := aA (fun e => by have := rl_lt h p2 e; omega)
 have CP := aA (rprepare_any15 q C F l a.t w1 hD1 (by omega))
 have CR := aA (rrel_any15 q C F l a.t w1 hD1 (by omega))
 have CS := aA (rrestore_any15 q C F l a.t a.ks u w1 hD1 (by omega) hok.tx (hok.src.below hB2) hap)
 have CA := aA (rask_any15 q C F l a.tm a.t a.k a.m w1 hD1 (by omega) hok.tx hok.tm)
 have hbu0 := lD
 have c0 : w1.cell? ⟨p1, 0, none⟩ = some (.int .u8 (a.kd : Int)) := HXA.out.cell 0 _ rfl
 have c1 : w1.cell? ⟨p1, 1, none⟩ = some (.int .u32 (a.tm : Int)) := HXA.out.cell 1 _ rfl
 have c2 : w1.cell? ⟨p1, 2, none⟩ = some (.int .u8 (a.t.1 : Int)) := HXA.out.cell 2 _ rfl
 have c3 : w1.cell? ⟨p1, 3, none⟩ = some (.int .u32 (a.t.2.1 : Int)) := HXA.out.cell 3 _ rfl
 have c4 : w1.cell? ⟨p1, 4, none⟩ = some (.int .u32 (a.t.2.2 : Int)) := HXA.out.cell 4 _ rfl
 have c5 : w1.cell? ⟨p1, 5, none⟩ = some (.int .u8 (aZ a.k.1 0)) := HXA.out.cell 5 _ rfl
 have c6 : w1.cell? ⟨p1, 6, none⟩ = some (.int .u8 (aZ a.k.1 1)) := HXA.out.cell 6 _ rfl
 have c7 : w1.cell? ⟨p1, 7, none⟩ = some (.int .u8 (aZ a.k.1 2)) := HXA.out.cell 7 _ rfl
 have c8 : w1.cell? ⟨p1, 8, none⟩ = some (.int .u8 (aZ a.k.1 3)) := HXA.out.cell 8 _ rfl
 have c9 : w1.cell? ⟨p1, 9, none⟩ = some (.int .u8 (aZ a.k.1 4)) := HXA.out.cell 9 _ rfl
 have c10 : w1.cell? ⟨p1, 10, none⟩ = some (.int .u8 (aZ a.k.1 5)) := HXA.out.cell 10 _ rfl
 have c11 : w1.cell? ⟨p1, 11, none⟩ = some (.int .u8 (aZ a.k.1 6)) := HXA.out.cell 11 _ rfl
 have c12 : w1.cell? ⟨p1, 12, none⟩ = some (.int .u8 (aZ a.k.1 7)) := HXA.out.cell 12 _ rfl
 have c13 : w1.cell? ⟨p1, 13, none⟩ = some (.int .u8 (a.m : Int)) := HXA.out.cell 13 _ rfl
 have c14 : w1.cell? ⟨p1, 14, none⟩ = some (u) := HXA.out.cell 14 _ rfl
 have HKS : Hid (C + a.ks.length ≤ C + 30) := aA (by omega)
 have hrem : (a.kd : Int).tmod 5 = ((a.kd % 5 : Nat) : Int) := by
  rw [Int.tmod_eq_emod_of_nonneg (by omega)]; omega
 obtain ⟨r, hr⟩ : ∃ r, r = a.kd % 5 := ⟨_, rfl⟩
 rw [← hr] at hrem
 have HRR := aA hr
 have hr5 : r < 5 := by omega
 clear h hD1 hok hks hA hA2 hB2 hw1 hp1 hp2 hr hsz
 go_enter Tryz.func9, Tryz.ntmps9
 by_cases h2 : r = 2
 ·have hz2 : (r : Int) = 2 := by omega
  subst h2
  clear hr5
  go_wp2_with fail
  refine CP.out.mono ?_
  rintro e w2 ⟨vg, er, rfl, gr, l', hR, hd, ho⟩
  have HD2 : Hid (WouldR a l er l' [] gr) := aA (.inl ⟨HRR.out.symm, hR, rfl⟩)
  have how : w2.ownsRow w1.heap.size 34 3 (.slice none 0 0) ([] : List TxN).length (bR txE3 []) := ⟨rfl, .inl ⟨rfl, rfl⟩⟩
  obtain ⟨ag, cg, rfl, _⟩ := aQ ho
  have HC' : Hid (C ≤ C + 30) := aA (Nat.le_add_right _ _)
  have HXO2 : Hid (bZ w2 p2 jL 50) := aA (by obtain ⟨F', _, hk1, _⟩ := hd; exact HXO.out.keep hk1 HLT.out)
  have HDD := aA hd
  have HOW := aA how
  have HOG := aA ho
  clear hR hd how ho
  go_wp2_with (refine aP rfl rfl _ _ rfl p2 rfl (cs' := #[.slice none 0 0, .slice ag gr.length cg]) rfl HXO2.out rfl bM (by simp [Value.oneCell']) ?_; intro w5 hb5 hk5; have HX5 := aA hb5; have HK5 := aA hk5; clear hb5 hk5)
  exact bodyPost_ret (v := .tuple #[.agg #[(.slice none 0 0), (.slice ag gr.length cg)], .int .i64 er]) (bB Tryz.results9 _ _ p2 rfl rfl HX5.out Tryz.underlying50 rfl bM) rfl ⟨⟨(.slice none 0 0), (.slice ag gr.length cg), er, [], gr, l', C, rfl, HD2.out, HC'.out, rd_box HD.out HB.out HNUM.out.1 HNUM.out.2 HDD.out HK5.out, gW HB.out.size HNUM.out.2 HOW.out HK5.out, gW HB.out.size HNUM.out.2 HOG.out HK5.out⟩⟩
 ·have hz2 : ¬ (r : Int) = 2 := by omega
  by_cases h3 : r = 3
  ·have hz3 : (r : Int) = 3 := by omega
   subst h3
   clear hr5
   go_wp2_with fail
   refine CR.out.mono ?_
   rintro e w2 ⟨vg, er, rfl, gr, l', hR, hd, ho⟩
   have HD2 : Hid (WouldR a l er l' [] gr) := aA (.inr (.inl ⟨HRR.out.symm, hR, rfl⟩))
   have how : w2.ownsRow w1.heap.size 34 3 (.slice none 0 0) ([] : List TxN).length (bR txE3 []) := ⟨rfl, .inl ⟨rfl, rfl⟩⟩
   obtain ⟨ag, cg, rfl, _⟩ := aQ ho
   have HC' : Hid (C ≤ C + 30) := aA (Nat.le_add_right _ _)
   have HXO2 : Hid (bZ w2 p2 jL 50) := aA (by obtain ⟨F', _, hk1, _⟩ := hd; exact HXO.out.keep hk1 HLT.out)
   have HDD := aA hd
   have HOW := aA how
   have HOG := aA ho
   clear hR hd how ho
   go_wp2_with (refine aP rfl rfl _ _ rfl p2 rfl (cs' := #[.slice none 0 0, .slice ag gr.length cg]) rfl HXO2.out rfl bM (by simp [Value.oneCell']) ?_; intro w5 hb5 hk5; have HX5 := aA hb5; have HK5 := aA hk5; clear hb5 hk5)
   exact bodyPost_ret (v := .tuple #[.agg #[(.slice none 0 0), (.slice ag gr.length cg)], .int .i64 er]) (bB Tryz.results9 _ _ p2 rfl rfl HX5.out Tryz.underlying50 rfl bM) rfl ⟨⟨(.slice none 0 0), (.slice ag gr.length cg), er, [], gr, l', C, rfl, HD2.out, HC'.out, rd_box HD.out HB.out HNUM.out.1 HNUM.out.2 HDD.out HK5.out, gW HB.out.size HNUM.out.2 HOW.out HK5.out, gW HB.out.size HNUM.out.2 HOG.out HK5.out⟩⟩
  ·have hz3 : ¬ (r : Int) = 3 := by omega
   by_cases h4 : r = 4
   ·have hz4 : (r : Int) = 4 := by omega
    subst h4
    clear hr5
    go_wp2_with fail
    refine CS.out.mono ?_
    rintro e w2 ⟨er, rfl, l', hR, hd⟩
    have HD2 : Hid (WouldR a l er l' [] []) := aA (.inr (.inr (.inl ⟨HRR.out.symm, hR, rfl, rfl⟩)))
    have ho : w2.ownsRow w1.heap.size 62 12 (.slice none 0 0) ([] : List (cD KeyT)).length (bR gtE []) := ⟨rfl, .inl ⟨rfl, rfl⟩⟩
    have how : w2.ownsRow w1.heap.size 34 3 (.slice none 0 0) ([] : List TxN).length (bR txE3 []) := ⟨rfl, .inl ⟨rfl, rfl⟩⟩
    have HC' : Hid (C + a.ks.length ≤ C + 30) := HKS
    have HXO2 : Hid (bZ w2 p2 jL 50) := aA (by obtain ⟨F', _, hk1, _⟩ := hd; exact HXO.out.keep hk1 HLT.out)
    have HDD := aA hd
    have HOW := aA how
    have HOG := aA ho
    clear hR hd how ho
    go_wp2_with (refine aP rfl rfl _ _ rfl p2 rfl (cs' := #[.slice none 0 0, .slice none 0 0]) rfl HXO2.out rfl bM (by simp [Value.oneCell']) ?_; intro w5 hb5 hk5; have HX5 := aA hb5; have HK5 := aA hk5; clear hb5 hk5)
    exact bodyPost_ret (v := .tuple #[.agg #[(.slice none 0 0), (.slice none 0 0)], .int .i64 er]) (bB Tryz.results9 _ _ p2 rfl rfl HX5.out Tryz.underlying50 rfl bM) rfl ⟨⟨(.slice none 0 0), (.slice none 0 0), er, [], [], l', C + a.ks.length, rfl, HD2.out, HC'.out, rd_box HD.out HB.out HNUM.out.1 HNUM.out.2 HDD.out HK5.out, gW HB.out.size HNUM.out.2 HOW.out HK5.out, gW HB.out.size HNUM.out.2 HOG.out HK5.out⟩⟩
   ·have hz4 : ¬ (r : Int) = 4 := by omega
    go_wp2_with fail
    refine CA.out.mono ?_
    rintro e w2 ⟨vw, vg, er, rfl, wn, gr, l', hR, hd, how, ho⟩
    have HD2 : Hid (WouldR a l er l' wn gr) := aA (.inr (.inr (.inr ⟨⟨by rw [← HRR.out]; exact h2, by rw [← HRR.out]; exact h3, by rw [← HRR.out]; exact h4⟩, hR⟩)))
    obtain ⟨aw, cw, rfl, _⟩ := aQ how
    obtain ⟨ag, cg, rfl, _⟩ := aQ ho
    have HC' : Hid (C + 1 ≤ C + 30) := aA (by omega)
    have HXO2 : Hid (bZ w2 p2 jL 50) := aA (by obtain ⟨F', _, hk1, _⟩ := hd; exact HXO.out.keep hk1 HLT.out)
    have HDD := aA hd
    have HOW := aA how
    have HOG := aA ho
    clear hR hd how ho
    go_wp2_with (refine aP rfl rfl _ _ rfl p2 rfl (cs' := #[.slice aw wn.length cw, .slice ag gr.length cg]) rfl HXO2.out rfl bM (by simp [Value.oneCell']) ?_; intro w5 hb5 hk5; have HX5 := aA hb5; have HK5 := aA hk5; clear hb5 hk5)
    exact bodyPost_ret (v := .tuple #[.agg #[(.slice aw wn.length cw), (.slice ag gr.length cg)], .int .i64 er]) (bB Tryz.results9 _ _ p2 rfl rfl HX5.out Tryz.underlying50 rfl bM) rfl ⟨⟨(.slice aw wn.length cw), (.slice ag gr.length cg), er, wn, gr, l', C + 1, rfl, HD2.out, HC'.out, rd_box HD.out HB.out HNUM.out.1 HNUM.out.2 HDD.out HK5.out, gW HB.out.size HNUM.out.2 HOW.out HK5.out, gW HB.out.size HNUM.out.2 HOG.out HK5.out⟩⟩
end
section
open Go.RowKit Go.Maps Classical
theorem rest_det {may : Bool} {l l' l2 : List (aS KeyT)} {t : TxN} {ks : List KeyT} {e e2 : Int} (hA : RestR may l t ks e l') (hR : RestR may l t ks e2 l2) : e2 = e ∧ l2 = l' := by
 rcases hA with ⟨rfl, ha⟩ | ⟨hm, hu, hf, hl, rfl, rfl⟩
 ·rcases hR with ⟨rfl, hr⟩ | ⟨gm, gu, gf, gl, _, _⟩
  ·refine ⟨?_, rfl⟩
   rcases ha with ⟨h1, rfl⟩ | ⟨h1, ⟨h2, rfl⟩ | ⟨h2, ⟨⟨k, hk, u, hu, h3⟩, rfl⟩ | ⟨h3, h4, rfl⟩⟩⟩ <;> rcases hr with ⟨g1, rfl⟩ | ⟨g1, ⟨g2, rfl⟩ | ⟨g2, ⟨⟨k', hk', u', hu', g3⟩, rfl⟩ | ⟨g3, g4, rfl⟩⟩⟩
   all_goals first
    | rfl
    | (rw [h1] at g1; cases g1; done)
    | (rw [h2] at g2; cases g2; done)
    | (rw [g2] at h2; cases h2; done)
    | exact absurd (g3 k hk u hu) h3
    | exact absurd (h3 k' hk' u' hu') g3
  ·rcases ha with ⟨h1, _⟩ | ⟨h1, ⟨h2, _⟩ | ⟨h2, ⟨⟨k, hk, u, hu, h3⟩, _⟩ | ⟨h3, h4, _⟩⟩⟩
   ·rw [h1] at gm; cases gm
   ·rw [gu] at h2; cases h2
   ·exact absurd (gf k hk u hu) h3
   ·omega
 ·rcases hR with ⟨rfl, hr⟩ | ⟨_, _, _, _, rfl, rfl⟩
  ·rcases hr with ⟨g1, _⟩ | ⟨g1, ⟨g2, _⟩ | ⟨g2, ⟨⟨k, hk, u, hu', g3⟩, _⟩ | ⟨g3, g4, _⟩⟩⟩
   ·rw [hm] at g1; cases g1
   ·rw [hu] at g2; cases g2
   ·exact absurd (hf k hk u hu') g3
   ·omega
  ·exact ⟨rfl, rfl⟩
theorem does_det {a : LAct} {l l1 l2 : List (aS KeyT)} {e e2 : Int} {wn wn2 : List TxN} {gr gr2 : List (cD KeyT)} (h : LkI l) (ht : kJ a.t) (htm : a.tm < 4294967296) (hA : DoesR a l e l1 wn gr) (hR : WouldR a l e2 l2 wn2 gr2) : e2 = e ∧ l2 = l1 ∧ wn2 = wn ∧ gr2 = gr := by
 rcases hA with ⟨k1, h1, rfl⟩ | ⟨k1, h1, rfl⟩ | ⟨k1, h1, rfl, rfl⟩ | ⟨⟨k1, k2, k3⟩, h1⟩ <;> rcases hR with ⟨g1, r1, rfl⟩ | ⟨g1, r1, rfl⟩ | ⟨g1, r1, rfl, rfl⟩ | ⟨⟨g1, g2, g3⟩, r1⟩
 all_goals first
  | (exfalso; omega)
  | (have h2 := prep_det h h1 r1; exact ⟨h2.1, h2.2.1, rfl, h2.2.2⟩)
  | (have h2 := rel_det h h1 r1; exact ⟨h2.1, h2.2.1, rfl, h2.2.2⟩)
  | (have h2 := rest_det h1 r1; exact ⟨h2.1, h2.2, rfl, rfl⟩)
  | exact ask_det h ht htm (fun hm => kE hm) h1 r1
theorem rl_new (w : World) : dR (w.alloc (.cells #[.slice none 0 0, .slice none 0 0, .slice none 0 0] 28)) w.heap.size (fun k => k = w.heap.size) 0 [] := by
 have hn : ∀ k, ¬ dQ (.slice none 0 0) (.slice none 0 0) (.slice none 0 0) k := fun k hk => by
  rcases hk with e | e | e <;> cases e
 refine ⟨_, _, _, [], [], [], ⟨aN w _ _, bI.of_own (World.ownsRow_nil _ w.heap.size 83 5), bI.of_own (World.ownsRow_nil _ w.heap.size 62 12), bI.of_own (World.ownsRow_nil _ w.heap.size 62 12), fun k hk => absurd hk (hn k)⟩, rep_nil, lkb_nil, Nat.le_refl _, fun k => ⟨fun e => .inl e, fun e => e.resolve_right (hn k)⟩⟩
structure gH (D : World → Nat → (Nat → Prop) → Nat → List (aS KeyT) → Prop) (w : World) (q r : Nat) (F G : Nat → Prop) (C CR : Nat) (l m : List (aS KeyT)) (W : World) : Prop where
 p : fA D w q F C l W
 d : dR W r G CR m
 new : ∀ k, G k → w.heap.size ≤ k
 a : ∀ k, F k → ¬ G k
section
variable {D : World → Nat → (Nat → Prop) → Nat → List (aS KeyT) → Prop} {w W W' : World} {q r C CR C' : Nat} {F G : Nat → Prop} {l m l' : List (aS KeyT)}
theorem gH.below (H : eH D) (h : gH D w q r F G C CR l m W) (hB : Below W.heap.size W W') : gH D w q r F G C CR l m W' := ⟨h.p.below H hB, rl_below h.d hB, h.new, h.a⟩
theorem gH.keep (H : eH D) {p : Nat} (h : gH D w q r F G C CR l m W) (hk : aC (fun k => k = p) W W') (hp : w.heap.size ≤ p) (h1 : ¬ F p) (h2 : ¬ G p) : gH D w q r F G C CR l m W' := ⟨h.p.keep H hk (fun k e1 e2 => h1 (e2 ▸ e1)) (fun k e => by rw [e]; exact hp), rl_keep h.d hk (fun k e1 e2 => h2 (e2 ▸ e1)), h.new, h.a⟩
theorem gH.does (h : gH D w q r F G C CR l m W) (hd : fP D W W' q F C' l') : ∃ F', gH D w q r F' G C' CR l' m W' ∧ aC F W W' ∧ ∀ k, F' k → F k ∨ W.heap.size ≤ k := by
 obtain ⟨F', h1, hk, h2⟩ := h.p.did hd
 refine ⟨F', ⟨h1, rl_keep h.d hk (fun k e1 e2 => h.a k e2 e1), h.new, fun k e1 e2 => ?_⟩, hk, h2⟩
 rcases h2 k e1 with e | e
 ·exact h.a k e e2
 ·have := rl_lt h.d k e2; omega
theorem gH.would (H : eH D) (h : gH D w q r F G C CR l m W) (hd : fP dR W W' r G C' l') : ∃ G', gH D w q r F G' C C' l l' W' ∧ aC G W W' ∧ ∀ k, G' k → G k ∨ W.heap.size ≤ k := by
 obtain ⟨G', h1, hk, h2⟩ := hd
 refine ⟨G', ⟨h.p.keep H hk (fun k e1 e2 => h.a k e1 e2) h.new, h1, fun k e => (h2 k e).elim (h.new k) (fun e => Nat.le_trans h.p.b.size e), fun k e1 e2 => ?_⟩, hk, h2⟩
 rcases h2 k e2 with e | e
 ·exact h.a k e1 e
 ·have := H.lt h.p.d k e1; omega
end
end
section
open Go.RowKit Go.Maps Classical
theorem eq_key9 (a0 a1 a2 a3 a4 a5 a6 a7 : Int) (w : World) :
  (Op.equalIn 9999 38 (.agg #[.int .u8 a0, .int .u8 a1, .int .u8 a2, .int .u8 a3, .int .u8 a4, .int .u8 a5, .int .u8 a6, .int .u8 a7]) (.agg #[.int .u8 a0, .int .u8 a1, .int .u8 a2, .int .u8 a3, .int .u8 a4, .int .u8 a5, .int .u8 a6, .int .u8 a7])).run Tryz.prog w = .ok true w := by
 rw [show (9999 : Nat) = 9998 + 1 from rfl, Op.equalIn]
 simp only [Sem.run_bind, run_underlying Tryz.underlying38, Result.andThen_ok]
 simp only [Std.Legacy.Range.forIn_eq_forIn_range', Std.Legacy.Range.size, Nat.sub_zero, Nat.add_sub_cancel, Nat.div_one, List.range'_succ, List.range'_zero, List.forIn_cons, List.forIn_nil]
 go_simp
theorem eq_rgotS (y : cD KeyT) (w : World) : (Op.equalIn 10000 62 (.agg (bW y)) (.agg (bW y))).run Tryz.prog w = .ok true w := by
 have hS : Tryz.prog.underlying 62 = some (.struct (Tryz.prog.fieldsOf 62)) := by kernel_rfl
 have hin := fun w => eq_tx9 (y.tx.1 : Int) y.tx.2.1 y.tx.2.2 y.tx.1 y.tx.2.1 y.tx.2.2 w
 have hik := fun w => eq_key9 (aZ y.key.1 0) (aZ y.key.1 1) (aZ y.key.1 2) (aZ y.key.1 3) (aZ y.key.1 4) (aZ y.key.1 5) (aZ y.key.1 6) (aZ y.key.1 7) w
 have hti : ∀ w, (Op.equalIn 9999 5 (.int .u8 (y.mode : Int)) (.int .u8 (y.mode : Int))).run Tryz.prog w = .ok true w := fun w => by
  rw [show (9999 : Nat) = 9998 + 1 from rfl]
  go_simp
 simp only [beq_self_eq_true, Bool.and_self] at hin
 rw [show (10000 : Nat) = 9999 + 1 from rfl, run_equalIn_agg w 9999 62 _ _ hS (by kernel_rfl)]
 simp only [Program.fieldsOf, Tryz.underlying62]
 generalize 9999 = d0 at *
 go_simp
theorem neq_rgotS (y : cD KeyT) (w : World) : (binOp .neq 62 (.agg (bW y)) (.agg (bW y))).run Tryz.prog w = .ok (.bool false) w := by
 rw [run_neq_struct, eq_rgotS]; rfl
set_option maxHeartbeats 1600000 in
theorem same5_any15 (v1 v2 : Value) (ts : List TxN) (w : World) (h1 : bI txE3 w v1 ts) (h2 : bI txE3 w v2 ts) (hl : ts.length ≤ 1000) :
  Calls Tryz.prog 12 #[v1, v2] w fun e w' => e = .returned (.bool true) ∧ Below w.heap.size w w' := by
 have H1 := aA h1
 have H2 := aA h2
 obtain ⟨a1, c1, e1, _, _⟩ := h1.shape
 obtain ⟨a2, c2, e2, _, _⟩ := h2.shape
 subst e1
 subst e2
 obtain ⟨N, hN⟩ : ∃ N, N = ts.length := ⟨_, rfl⟩
 rw [← hN] at H1 H2 hl ⊢
 have HN := aA hN
 clear h1 h2 hN
 go_enter Tryz.func12, Tryz.ntmps12
 go_wp2_with fail
 go_loopw [5] (fun i wr => ∃ k n : Nat, k ≤ N ∧ i = .int .i64 k ∧ wr = w.drewN n) (fun i _ => N - (intOf i).toNat)
 case atStart => exact ⟨0, 0, by omega, rfl, rfl⟩
 case round =>
  obtain ⟨k, n, hk, rfl, rfl⟩ := hrel
  by_cases hlt : k < N
  ·have hkl : k < ts.length := by rw [← HN.out]; exact hlt
   obtain ⟨en, q1, o1, hao1, hq1, hc1⟩ := (H1.out).at dP.len hkl
   obtain ⟨en2, q2, o2, hao2, hq2, hc2⟩ := (H2.out).at dP.len hkl
   subst hao1
   subst hao2
   obtain ⟨ua, ub, uc, hu⟩ : ∃ a b c, ts[k] = (a, b, c) := ⟨_, _, _, rfl⟩
   rw [hu] at hc1 hc2
   have x0 := hc1 0 (.int .u8 (ua : Int)) rfl
   have x1 := hc1 1 (.int .u32 (ub : Int)) rfl
   have x2 := hc1 2 (.int .u32 (uc : Int)) rfl
   have y0 := hc2 0 (.int .u8 (ua : Int)) rfl
   have y1 := hc2 1 (.int .u32 (ub : Int)) rfl
   have y2 := hc2 2 (.int .u32 (uc : Int)) rfl
   rw [Nat.add_zero] at x0 y0
   have hne : ∀ w, (binOp .neq 34 (.agg #[.int .u8 (ua : Int), .int .u32 (ub : Int), .int .u32 (uc : Int)]) (.agg #[.int .u8 (ua : Int), .int .u32 (ub : Int), .int .u32 (uc : Int)])).run Tryz.prog w = .ok (.bool false) w := fun w => by rw [neq_tx]; simp
   have d1 : decide ((k : Int) < (N : Int)) = true := by simp; omega
   clear hu hc1 hc2 en en2
   go_wp2_with fail
   go_quiet (fail)
   go_wp2_with fail
   go_roundw
   case rel => exact ⟨k + 1, _, hlt, by simp, rfl⟩
   case measure => simp [intOf]; omega
  ·have d1 : decide ((k : Int) < (N : Int)) = false := by simp; omega
   go_wp2_with fail
   go_ret
   exact ⟨rfl, aU w n⟩
set_option maxHeartbeats 3200000 in
theorem rsame_any15 (b1 b2 b3 b4 : Nat) (v1 v2 g1 g2 : Value) (wn : List TxN) (gr : List (cD KeyT)) (w : World) (h1 : w.ownsRow b1 34 3 v1 wn.length (bR txE3 wn)) (h2 : w.ownsRow b2 34 3 v2 wn.length (bR txE3 wn)) (h3 : w.ownsRow b3 62 12 g1 gr.length (bR gtE gr)) (h4 : w.ownsRow b4 62 12 g2 gr.length (bR gtE gr)) (hl : wn.length ≤ 1000) :
  Calls Tryz.prog 10 #[.agg #[v1, g1], .agg #[v2, g2]] w fun e w' => e = .returned (.bool true) ∧ Below w.heap.size w w' := by
 have hA0 := aE w (.cells #[v1, g1] 50)
 have hA1 := aE (w.alloc (.cells #[v1, g1] 50)) (.cells #[v2, g2] 50)
 have hB0 := hA0
 have hB1 := hB0.trans (hA1.mono hB0.size)
 have HXp2 : Hid (bZ ((w.alloc (.cells #[v1, g1] 50)).alloc (.cells #[v2, g2] 50)) (w.heap.size) #[v1, g1] 50) := aA ((aN w #[v1, g1] 50).belowI hA1)
 have HXp3 : Hid (bZ ((w.alloc (.cells #[v1, g1] 50)).alloc (.cells #[v2, g2] 50)) (w.heap.size + 1) #[v2, g2] 50) := aA (by have := aN (w.alloc (.cells #[v1, g1] 50)) #[v2, g2] 50; simpa using this)
 obtain ⟨W1, hw1⟩ : ∃ W1, W1 = ((w.alloc (.cells #[v1, g1] 50)).alloc (.cells #[v2, g2] 50)) := ⟨_, rfl⟩
 obtain ⟨p2, hp2⟩ : ∃ p2, p2 = w.heap.size := ⟨_, rfl⟩
 obtain ⟨p3, hp3⟩ : ∃ p3, p3 = w.heap.size + 1 := ⟨_, rfl⟩
 rw [← hw1] at HXp2 HXp3 hB1
 rw [← hp2] at HXp2
 rw [← hp3] at HXp3
 have HW1 := aA hw1
 have HEp2 := aA hp2
 have HEp3 := aA hp3
 have HB := aA hB1
 have HNp2 : Hid (w.heap.size ≤ p2 ∧ p2 < W1.heap.size) := aA ⟨by omega, HXp2.out.lt⟩
 have HNp3 : Hid (w.heap.size ≤ p3 ∧ p3 < W1.heap.size) := aA ⟨by omega, HXp3.out.lt⟩
 clear hw1 hA0 hB0 hA1 hB1 hp2 hp3
 obtain ⟨N, hN⟩ : ∃ N, N = gr.length := ⟨_, rfl⟩
 have hg : N ≤ maxLen := by obtain ⟨a1, c1, e1, hl1, hl2⟩ := (bI.of_own h3).shape; rw [hN]; exact Nat.le_trans hl1 hl2
 have hml : maxLen ≤ 9223372036854775807 := by decide
 rw [← hN] at h3 h4
 obtain ⟨a1, c1, e1, _⟩ := aQ h3
 obtain ⟨a2, c2, e2, _⟩ := aQ h4
 subst e1
 subst e2
 have HN := aA hN
 have CS : Hid (Calls Tryz.prog 12 #[v1, v2] W1 fun e w' => e = .returned (.bool true) ∧ Below W1.heap.size W1 w') := aA (by
  exact same5_any15 v1 v2 wn W1 (bI.of_own (aJ h1 (aC.of_below (fun _ => False) HB.out) (fun _ _ h => h))) (bI.of_own (aJ h2 (aC.of_below (fun _ => False) HB.out) (fun _ _ h => h))) hl)
 have H3 := aA (aJ h3 (aC.of_below (fun _ => False) HB.out) (fun _ _ h => h))
 have H4 := aA (aJ h4 (aC.of_below (fun _ => False) HB.out) (fun _ _ h => h))
 obtain ⟨x0, x1⟩ := HXp2.out.two
 obtain ⟨y0, y1⟩ := HXp3.out.two
 clear hN h1 h2 h3 h4
 go_enter Tryz.func10, Tryz.ntmps10
 go_wp2_with fail
 rw [← HW1.out, ← HEp3.out, ← HEp2.out]
 go_wp2_with fail
 refine CS.out.mono ?_
 rintro e W2 ⟨rfl, hB2⟩
 have HB2 := aA (HB.out.trans (hB2.mono HB.out.size))
 have HS3 : Hid (bI gtE W2 (.slice a1 N c1) gr) := aA (by rw [HN.out]; exact bI.of_own (by rw [← HN.out]; exact aJ H3.out (aC.of_below (fun _ => False) hB2) (fun _ _ h => h)))
 have HS4 : Hid (bI gtE W2 (.slice a2 N c2) gr) := aA (by rw [HN.out]; exact bI.of_own (by rw [← HN.out]; exact aJ H4.out (aC.of_below (fun _ => False) hB2) (fun _ _ h => h)))
 have HX2 := aA (HXp2.out.belowI hB2)
 have HX3 := aA (HXp3.out.belowI hB2)
 clear x0 x1 y0 y1 hB2 CS
 obtain ⟨x0, x1⟩ := HX2.out.two
 obtain ⟨y0, y1⟩ := HX3.out.two
 go_wp2_with fail
 go_loopw [5] (fun i wr => ∃ k n : Nat, k ≤ N ∧ i = .int .i64 k ∧ wr = W2.drewN n) (fun i _ => N - (intOf i).toNat)
 case atStart => exact ⟨0, 0, by omega, rfl, rfl⟩
 case round =>
  obtain ⟨k, n, hk, rfl, rfl⟩ := hrel
  by_cases hlt : k < N
  ·have hkl : k < gr.length := by rw [← HN.out]; exact hlt
   have hkI : (k : Int) < (N : Int) := by omega
   obtain ⟨en, q1, o1, hao1, hq1, hc1⟩ := (HS3.out).at dJ.len hkl
   obtain ⟨en2, q2, o2, hao2, hq2, hc2⟩ := (HS4.out).at dJ.len hkl
   subst hao1
   subst hao2
   have r0 := hc1 0 _ rfl
   have z0 := hc2 0 _ rfl
   have r1 := hc1 1 _ rfl
   have z1 := hc2 1 _ rfl
   have r2 := hc1 2 _ rfl
   have z2 := hc2 2 _ rfl
   have r3 := hc1 3 _ rfl
   have z3 := hc2 3 _ rfl
   have r4 := hc1 4 _ rfl
   have z4 := hc2 4 _ rfl
   have r5 := hc1 5 _ rfl
   have z5 := hc2 5 _ rfl
   have r6 := hc1 6 _ rfl
   have z6 := hc2 6 _ rfl
   have r7 := hc1 7 _ rfl
   have z7 := hc2 7 _ rfl
   have r8 := hc1 8 _ rfl
   have z8 := hc2 8 _ rfl
   have r9 := hc1 9 _ rfl
   have z9 := hc2 9 _ rfl
   have r10 := hc1 10 _ rfl
   have z10 := hc2 10 _ rfl
   have r11 := hc1 11 _ rfl
   have z11 := hc2 11 _ rfl
   rw [Nat.add_zero] at r0 z0
   have hne := neq_rgotS gr[k]
   clear hc1 hc2 en en2
   generalize gr[k] = y at *
   go_wp2_with fail
   go_quiet (fail)
   go_wp2_with fail
   go_roundw
   case rel => exact ⟨k + 1, _, hlt, by first | rfl | go_num, rfl⟩
   case measure => simp [intOf]; omega
  ·have d1 : ¬ ((k : Int) < (N : Int)) := by omega
   go_wp2_with fail
   go_ret
   exact ⟨rfl, aU W2 n |> fun h => HB2.out.trans (h.mono HB2.out.size)⟩
end
end Go.Proofs.YtiloagmkkhlfjaaGreat
