/-
  Own texts put together: LkOn, LkRel, LkPrep, LkIns. Own work.
-/
import Derived.Test.YtiloagmkkhlfjaaGreatG13
import Derived.Test.YtiloagmkkhlfjaaGreatG11
namespace Go.Proofs.YtiloagmkkhlfjaaGreat
set_option maxRecDepth 100000
section
open Go.RowKit Go.Maps Classical
theorem eX {q b : Nat} {p : TxN → Nat × Nat} {l l2 : List (aS KeyT)} (h : l2.map (·.tx) = l.map (·.tx)) {g : Nat} (hg : eP q b p l2 g) : eP q b p l g := by
 rcases hg with e | e | ⟨u, hu, e⟩
 ·exact .inl e
 ·exact .inr (.inl e)
 ·have : u.tx ∈ l2.map (·.tx) := List.mem_map.2 ⟨u, hu, rfl⟩
  rw [h] at this
  obtain ⟨v, hv, e2⟩ := List.mem_map.1 this
  exact .inr (.inr ⟨v, hv, by rw [e2]; exact e⟩)
def MS15 (p : TxN → Nat × Nat) (l : List (aS KeyT)) (g : Nat) : Prop := ∃ u ∈ l, (p u.tx).1 = g ∨ (p u.tx).2 = g
theorem ms_names {p : TxN → Nat × Nat} {l l2 : List (aS KeyT)} (h : l2.map (·.tx) = l.map (·.tx)) {u : aS KeyT} (hu : u ∈ l2) {g : Nat} (hg : g = (p u.tx).1 ∨ g = (p u.tx).2) : MS15 p l g := by
 have : u.tx ∈ l2.map (·.tx) := List.mem_map.2 ⟨u, hu, rfl⟩
 rw [h] at this
 obtain ⟨v, hv, e2⟩ := List.mem_map.1 this
 exact ⟨v, hv, by rw [e2]; exact hg.imp Eq.symm Eq.symm⟩
theorem onQG_len (k : KeyT) : ∀ (q : List TxN) (l : List (aS KeyT)), (onQG k l q).length ≤ q.length
 | [], _ => Nat.le_refl _
 | t :: q, l => by
  show (fN l t k ++ onQG k (cJ l t k) q).length ≤ q.length + 1
  have h1 := onQG_len k q (cJ l t k)
  have h2 : (fN l t k).length ≤ 1 := by unfold fN; split <;> simp
  rw [List.length_append]
  omega
theorem onAG_len : ∀ (ks : List KeyT) {l : List (aS KeyT)} (_ : dD l), (fX l ks).length ≤ ks.length * 64
 | [], _, _ => Nat.le_refl _
 | k :: ks, l, h => by
  show (onG1 l k ++ fX (onS1 l k) ks).length ≤ (ks.length + 1) * 64
  have h1 := onAG_len ks (onQ_b k (cS l k) h)
  have h2 := onQG_len k (cS l k) l
  have h3 := que_len h k
  rw [List.length_append]
  have h4 : (onG1 l k).length ≤ 64 := Nat.le_trans h2 h3
  have h5 : (fX (onS1 l k) ks).length ≤ ks.length * 64 := h1
  omega
set_option maxHeartbeats 3200000 in
theorem lkOn_any (N : Nat) (HS : SortB N) (q b C : Nat) (p : TxN → Nat × Nat) (l : List (aS KeyT)) (ts : List KeyT) (v : Value) (base : Nat) (w : World) (h : fJ w q b C p l) (hv : w.ownsRow base 38 8 v ts.length (gI ts)) (hvb : ∀ g, v.ownBlock = some g → ¬ eP q b p l g) (hl : ts.length ≤ 10000) (hC : C ≤ 1000000)
  (HQ : ∀ ks k, (cS (gA l ks) k).length ≤ N) :
  Calls Tryz.prog 46 #[.pointer (some ⟨q, 0, none⟩), v] w fun e w' => ∃ vg ks, e = .returned vg ∧ KsOk cQ ks (fun k => k ∈ ts) ∧ w'.ownsRow w.heap.size 73 12 vg (fX l ks).length (bR gtE (fX l ks)) ∧ fJ w' q b C p (gA l ks) ∧ aC (fun j => MS15 p l j ∨ v.ownBlock = some j) w w' := by
 obtain ⟨av, cv, rfl, hcv⟩ := aQ hv
 have CS := aA (sortK15 hv (by omega))
 have H := aA h
 have HVW : Hid (∀ g, (Value.slice av ts.length cv).ownBlock = some g → g < w.heap.size) := aA (fun g hg => (hv.lt g hg).2)
 have HVB := aA hvb
 have HL := aA hl
 have HC := aA hC
 have HSS := aA HS
 have HQQ := aA HQ
 obtain ⟨V, hV⟩ : ∃ V, V = Value.slice av ts.length cv := ⟨_, rfl⟩
 obtain ⟨nt, hnt⟩ : ∃ nt, nt = ts.length := ⟨_, rfl⟩
 rw [← hV] at CS HVB HVW ⊢
 have HVE := aA hV
 clear h hv hvb hl hC HS HQ hcv hnt hV
 go_enter Tryz.func46, Tryz.ntmps46
 go_wp2_with fail
 refine CS.out.mono ?_
 rintro e w0 ⟨rfl, ho0, hk0⟩
 have CC := aA (comp15 ho0 (by have := HL.out; omega))
 have HK0 := aA hk0
 clear ho0 hk0 CS
 go_wp2_with fail
 refine CC.out.mono ?_
 rintro e w1 ⟨vd, D, rfl, hD, hsd, hvd, hDl, hk1⟩
 obtain ⟨ad, cd, rfl, _⟩ := hsd.shape
 have HK1 : Hid (aC (fun j => V.ownBlock = some j) w w1) := aA (HK0.out.trans hk1 (fun _ _ h => h))
 have HD := aA hD
 have HSD := aA hsd
 have HVD := aA hvd
 have HDL := aA hDl
 have H1 := aA (H.out.keep HK1.out (fun k hk e => HVB.out k e hk))
 clear hD hsd hvd hDl hk1 CC HK0
 obtain ⟨nd, hnd⟩ : ∃ nd, nd = D.length := ⟨_, rfl⟩
 rw [← hnd] at HSD HVD ⊢
 have HND := aA hnd
 have HNDB : nd ≤ 10000 := by rw [hnd]; exact Nat.le_trans HDL.out HL.out
 have HFL : Hid (∀ g, eP q b p l g → g < w1.heap.size) := aA (fun g hg => H1.out.flt hg)
 have HVL : Hid (∀ g, V.ownBlock = some g → g < w1.heap.size ∧ ¬ eP q b p l g) := aA (fun g hg => ⟨Nat.lt_of_lt_of_le (HVW.out g hg) HK1.out.size, HVB.out g hg⟩)
 have HMF : Hid (∀ g, MS15 p l g → eP q b p l g) := aA (fun g hg => .inr (.inr hg))
 clear hnd
 go_wp2_with fail
 go_loopw [5, 15] (fun o i wr => ∃ (n : Nat) (gs : List (cD KeyT)) (lc : List (aS KeyT)) (ao : Option Addr) (co : Nat), o = .slice ao gs.length co ∧ i = .int .i64 (n : Int) ∧ n ≤ nd ∧ Hid (gs = fX l (D.take n)) ∧ Hid (lc = gA l (D.take n)) ∧ Hid (fJ wr q b C p lc) ∧ Hid (wr.ownsRow w1.heap.size 73 12 (.slice ao gs.length co) gs.length (bR gtE gs)) ∧ Hid (aC (fun g => MS15 p l g) w1 wr)) (fun _ i _ => ctK nd i)
 case atStart => exact ⟨0, [], l, none, 0, rfl, rfl, Nat.zero_le _, aA rfl, aA rfl, H1, aA (World.ownsRow_nil _ _ _ _), aA (aC.refl _ _)⟩
 case round =>
  obtain ⟨n, gs, lc, ao, co, rfl, rfl, hn, HGS, HLC, HP, HO, HKW⟩ := hrel
  by_cases hlt : n < nd
  case neg =>
   have hz : ¬ (n : Int) < (nd : Int) := by omega
   have HNE : Hid (n = nd) := aA (by omega)
   go_wp2_with fail
   go_ret
   have ht : D.take n = D := by rw [HNE.out, HND.out]; exact List.take_length
   have h1 := HGS.out
   have h2 := HLC.out
   rw [ht] at h1 h2
   have h3 := HO.out
   have h4 := HP.out
   rw [h2] at h4
   have hfin : wr.ownsRow w.heap.size 73 12 (.slice ao gs.length co) (fX l D).length (bR gtE (fX l D)) := by rw [← h1]; exact dO h3 HK1.out.size
   refine ⟨_, rfl, D, HD.out, hfin, h4, (HK1.out.mono (fun j e => .inr e)).trans HKW.out (fun _ _ h => .inl h)⟩
  case pos =>
   have hz : (n : Int) < (nd : Int) := by omega
   have HSW := aA (HSD.out.keep HKW.out (fun g e e2 => (HVL.out g (HVD.out g e)).2 (HMF.out g e2)))
   have hnD : n < D.length := by rw [← HND.out]; exact hlt
   obtain ⟨-, bd, od, rfl, hbd, hcd⟩ := HSW.out.at (K := 8) (fun _ => rfl) hnD
   obtain ⟨k, hk⟩ : ∃ k, k = D[n] := ⟨_, rfl⟩
   rw [← hk] at hcd
   have x0 := hcd 0 _ rfl
   have x1 := hcd 1 _ rfl
   have x2 := hcd 2 _ rfl
   have x3 := hcd 3 _ rfl
   have x4 := hcd 4 _ rfl
   have x5 := hcd 5 _ rfl
   have x6 := hcd 6 _ rfl
   have x7 := hcd 7 _ rfl
   simp only [Nat.add_zero] at x0
   have HKD : Hid (D.take (n + 1) = D.take n ++ [k]) := aA (by rw [hk, List.take_succ_eq_append_getElem hnD])
   have HA3 : Hid (Below wr.heap.size wr (wr.alloc (.cells (aK k.1) 38))) := aA (aE _ _)
   have HXK0 := aA (aN wr (aK k.1) 38)
   obtain ⟨w3, hw3⟩ : ∃ w3, w3 = wr.alloc (.cells (aK k.1) 38) := ⟨_, rfl⟩
   obtain ⟨p7, hp7⟩ : ∃ p7, p7 = wr.heap.size := ⟨_, rfl⟩
   rw [← hw3, ← hp7] at HXK0
   rw [← hw3] at HA3
   have hW3 := hw3.symm
   have hP7 := hp7.symm
   have HP7 : Hid (w1.heap.size ≤ p7 ∧ p7 < w3.heap.size) := aA ⟨by rw [hp7]; exact HKW.out.size, HXK0.out.lt⟩
   have HNO : Hid (∀ g, (Value.slice ao gs.length co).ownBlock = some g → g < p7) := aA (fun g hg => by rw [hp7]; exact (HO.out.lt g hg).2)
   have HQN : Hid ((cS lc k).length ≤ N) := aA (by rw [HLC.out]; exact HQQ.out _ k)
   have CQ := aA (lkQueue_any N HSS.out q b C p lc k w3 (HP.out.below HA3.out) HQN.out)
   obtain ⟨z0, z1, z2, z3, z4, z5, z6, z7⟩ := bN HXK0.out
   clear hcd hbd hk hw3 hp7
   go_wp2_with fail
   refine CQ.out.mono ?_
   rintro e w4 ⟨vq, rfl, hoq, hbq⟩
   obtain ⟨aq, cq, rfl, _⟩ := aQ hoq
   obtain ⟨qs, hqs⟩ : ∃ qs, qs = cS lc k := ⟨_, rfl⟩
   rw [← hqs] at hoq ⊢
   have HQS := aA hqs
   have hB34 : Below wr.heap.size wr w4 := HA3.out.trans (hbq.mono HA3.out.size)
   have HOQ := aA hoq
   have HXK := aA (HXK0.out.belowI hbq)
   have HP4 := aA (HP.out.below hB34)
   have HO4 := aA (aJ HO.out (aC.of_below (fun _ => False) hB34) (fun _ _ h => h))
   have HKW4 : Hid (aC (fun g => MS15 p l g) w1 w4) := aA (HKW.out.trans (aC.of_below (fun _ => False) hB34) (fun _ _ h => h.elim))
   have HNM : Hid (lc.map (·.tx) = l.map (·.tx)) := aA (by rw [HLC.out]; exact gO _ _)
   have HQB : Hid (∀ g, (Value.slice aq qs.length cq).ownBlock = some g → w3.heap.size ≤ g ∧ g < w4.heap.size) := aA (fun g hg => hoq.lt g hg)
   have HNQ : Hid qs.Nodup := aA (by rw [hqs]; exact queU_nd HP.out.ok k)
   have HWT : Hid (Wts lc k qs) := aA (by rw [hqs]; exact wts_que _ _)
   have HQL : qs.length ≤ 64 := by rw [hqs]; exact que_len HP.out.ok k
   have HGL : Hid (gs.length ≤ n * 64) := aA (by
    have h1 := onAG_len (D.take n) H1.out.ok
    rw [HGS.out]
    exact Nat.le_trans h1 (Nat.mul_le_mul_right 64 (List.length_take_le _ _)))
   clear hoq hqs hbq hB34 z0 z1 z2 z3 z4 z5 z6 z7 x0 x1 x2 x3 x4 x5 x6 x7 hW3 hP7 CQ
   obtain ⟨ql, hql⟩ : ∃ ql, ql = qs.length := ⟨_, rfl⟩
   have HQE := aA hql
   rw [← hql] at HOQ HQB HQL ⊢
   clear hql
   go_wp2_with fail
   go_loopw [5, 23] (fun o j wr => ∃ (m : Nat) (g2 : List (cD KeyT)) (l2 : List (aS KeyT)) (a2 : Option Addr) (c2 : Nat), o = .slice a2 g2.length c2 ∧ j = .int .i64 (m : Int) ∧ m ≤ ql ∧ Hid (g2 = gs ++ onQG k lc (qs.take m)) ∧ Hid (l2 = j9 k lc (qs.take m)) ∧ Hid (Wts l2 k (qs.drop m)) ∧ Hid (fJ wr q b C p l2) ∧ Hid (wr.ownsRow w1.heap.size 73 12 (.slice a2 g2.length c2) g2.length (bR gtE g2)) ∧ Hid (aC (fun g => MS15 p l g) w1 wr) ∧ Hid (bZ wr p7 (aK k.1) 38) ∧ Hid (wr.ownsRow w3.heap.size 34 3 (.slice aq ql cq) ql (bR txCs (qs.map txI))) ∧ Hid (∀ g, (Value.slice a2 g2.length c2).ownBlock = some g → g ≠ p7 ∧ (Value.slice aq ql cq).ownBlock ≠ some g)) (fun _ j _ => ctK ql j)
   case atStart => exact ⟨0, gs, lc, ao, co, rfl, rfl, Nat.zero_le _, aA (by show gs = gs ++ []; simp), aA rfl, HWT, HP4, HO4, HKW4, HXK, HOQ, aA (fun g hg => by
    have h1 := HNO.out g hg
    have h2 := HP7.out.2
    exact ⟨by omega, fun e => by have := (HQB.out g e).1; omega⟩)⟩
   case round =>
    obtain ⟨m, g2, l2, a2, c2, rfl, rfl, hm, HG2, HL2, HW2, HP2, HO2, HK2, HX2, HQ2, HN2⟩ := hrel
    by_cases hlt2 : m < ql
    case neg =>
     have hz2 : ¬ (m : Int) < (ql : Int) := by omega
     have HME : Hid (qs.take m = qs) := aA (by rw [show m = qs.length from by rw [← HQE.out]; omega]; exact List.take_length)
     go_wp2_with fail
     go_roundw
     case rel =>
      have hg3 : Hid (g2 = fX l (D.take (n + 1))) := aA (by rw [HG2.out, HME.out, HKD.out, onAG_app, ← HGS.out, ← HLC.out, HQS.out]; rfl)
      have hl3 : Hid (l2 = gA l (D.take (n + 1))) := aA (by rw [HL2.out, HME.out, HKD.out, onAS_app, ← HLC.out, HQS.out]; rfl)
      exact ⟨n + 1, g2, l2, a2, c2, rfl, by first | rfl | go_num, by omega, hg3, hl3, HP2, HO2, HK2⟩
     case measure =>
      rw [show (n : Int) + 1 = ((n + 1 : Nat) : Int) from by omega, cB, cB]
      omega
    case pos =>
     have hz2 : (m : Int) < (ql : Int) := by omega
     have htq : m < qs.length := by rw [← HQE.out]; exact hlt2
     obtain ⟨t, ht⟩ : ∃ t, t = qs[m] := ⟨_, rfl⟩
     have HDR : Hid (qs.drop m = t :: qs.drop (m + 1)) := aA (by rw [ht]; exact List.drop_eq_getElem_cons htq)
     have HTK : Hid (qs.take (m + 1) = qs.take m ++ [t]) := aA (by rw [ht, List.take_succ_eq_append_getElem htq])
     obtain ⟨x, hx, hxt, hxw⟩ := HW2.out t (by rw [HDR.out]; exact List.mem_cons_self)
     have HW3 : Hid (Wts (cJ l2 t k) k (qs.drop (m + 1))) := aA (wts_step HP2.out.ok (by rw [← HDR.out]; exact HW2.out) (by rw [← HDR.out]; exact HNQ.out.sublist (List.drop_sublist _ _)))
     have HG3 : Hid (gs ++ onQG k lc (qs.take (m + 1)) = g2 ++ fN l2 t k) := aA (by rw [HTK.out, onQG_app, ← List.append_assoc, ← HG2.out, ← HL2.out])
     have HL3 : Hid (j9 k lc (qs.take (m + 1)) = cJ l2 t k) := aA (by rw [HTK.out, onQS_app, ← HL2.out])
     have HNO4 := aA (fun hf : NF l2 x k => step_no HP2.out.ok hx hxt hf)
     have HYES := aA (fun hf : ¬ NF l2 x k => step_yes HP2.out.ok hx hxt hf)
     have HNM2 : Hid (l2.map (·.tx) = l.map (·.tx)) := aA (by rw [HL2.out]; exact (onQ_names k _ lc).trans HNM.out)
     have HMX : Hid (∀ j, j = (p t).1 ∨ j = (p t).2 → MS15 p l j) := aA (fun j e => ms_names HNM2.out hx (by rw [hxt]; exact e))
     have hsq : bI txCs wr (.slice aq ql cq) (qs.map txI) := by
      have h1 : wr.ownsRow w3.heap.size 34 3 (.slice aq ql cq) (qs.map txI).length (bR txCs (qs.map txI)) := by rw [List.length_map, ← HQE.out]; exact HQ2.out
      exact bI.of_own h1
     obtain ⟨-, bq, oq, haq, hbq, hcq⟩ := hsq.at (K := 3) (fun _ => rfl) (i := m) (by rw [List.length_map]; exact htq)
     subst haq
     have e1 : (qs.map txI)[m]'(by rw [List.length_map]; exact htq) = txI t := by rw [List.getElem_map, ht]
     rw [e1] at hcq
     have y0 : wr.cell? ⟨bq, oq + m * 3, none⟩ = some (.int .u8 (t.1 : Int)) := hcq 0 _ rfl
     have y1 : wr.cell? ⟨bq, oq + m * 3 + 1, none⟩ = some (.int .u32 (t.2.1 : Int)) := hcq 1 _ rfl
     have y2 : wr.cell? ⟨bq, oq + m * 3 + 2, none⟩ = some (.int .u32 (t.2.2 : Int)) := hcq 2 _ rfl
     obtain ⟨M, hM⟩ : ∃ M, M = max (x.h k) (x.w k) := ⟨_, rfl⟩
     rw [← hM] at HYES
     have HXW := aA hxw
     have HX := aA hx
     have HXT := aA hxt
     have HA5 := aA (aE wr (.cells #[.int .u8 (t.1 : Int), .int .u32 (t.2.1 : Int), .int .u32 (t.2.2 : Int)] 34))
     have HXB := aA (aN wr #[.int .u8 (t.1 : Int), .int .u32 (t.2.1 : Int), .int .u32 (t.2.2 : Int)] 34)
     obtain ⟨w5, hw5⟩ : ∃ w5, w5 = wr.alloc (.cells #[.int .u8 (t.1 : Int), .int .u32 (t.2.1 : Int), .int .u32 (t.2.2 : Int)] 34) := ⟨_, rfl⟩
     obtain ⟨p9, hp9⟩ : ∃ p9, p9 = wr.heap.size := ⟨_, rfl⟩
     rw [← hw5] at HA5
     rw [← hw5, ← hp9] at HXB
     have hW5 := hw5.symm
     have hP9 := hp9.symm
     have HP9 : Hid (p9 < w5.heap.size ∧ w1.heap.size ≤ p9) := aA ⟨HXB.out.lt, by rw [hp9]; exact HK2.out.size⟩
     obtain ⟨R, hRd⟩ : ∃ R, R = decide (¬ NF l2 x k) := ⟨_, rfl⟩
     have CF := aA (lkFree_any q b C p l2 x hx k w5 (HP2.out.below HA5.out))
     rw [← hRd] at CF
     have HRD : Hid ((NF l2 x k → R = false) ∧ (¬ NF l2 x k → R = true)) := aA ⟨fun h => by rw [hRd]; exact decide_eq_false (fun h2 => h2 h), fun h => by rw [hRd]; exact decide_eq_true h⟩
     have CG := aA (fun W (hP : fJ W q b C p l2) => lkGrant_any q b C p l2 x hx k W hP hxw HC.out)
     rw [hxt] at CF CG
     rw [← hM] at CG
     obtain ⟨y0b, y1b, y2b⟩ := HXB.out.three
     obtain ⟨z0, z1, z2, z3, z4, z5, z6, z7⟩ := bN (HX2.out.belowI HA5.out)
     clear hRd hx hxt hxw hsq hbq hcq e1 hw5 hp9 ht hM
     obtain ⟨ta, tb, tc⟩ := t
     dsimp only at *
     go_wp2_with fail
     refine CF.out.mono ?_
     rintro e w6 ⟨rfl, hb6⟩
     by_cases hf : NF l2 x k
     case pos =>
      have hst := HNO4.out hf
      have HG4 : Hid (g2 = gs ++ onQG k lc (qs.take (m + 1))) := aA (by rw [HG3.out, hst.2, List.append_nil])
      have HL4 : Hid (l2 = j9 k lc (qs.take (m + 1))) := aA (by rw [HL3.out, hst.1])
      have HW4 : Hid (Wts l2 k (qs.drop (m + 1))) := aA (by have := HW3.out; rw [hst.1] at this; exact this)
      have HB6 := aA (HA5.out.trans (hb6.mono HA5.out.size))
      have HP6 := aA (HP2.out.below HB6.out)
      have HO6 := aA (aJ HO2.out (aC.of_below (fun _ => False) HB6.out) (fun _ _ h => h))
      have HQ6 := aA (aJ HQ2.out (aC.of_below (fun _ => False) HB6.out) (fun _ _ h => h))
      have HX6 := aA (HX2.out.belowI HB6.out)
      have HK6 : Hid (aC (fun g => MS15 p l g) w1 w6) := aA (HK2.out.trans (aC.of_below (fun _ => False) HB6.out) (fun _ _ h => h.elim))
      have hR := HRD.out.1 hf
      subst hR
      clear hst hf hb6
      go_wp2_with fail
      go_roundw
      case rel => exact ⟨m + 1, g2, l2, a2, c2, rfl, by first | rfl | go_num, by omega, HG4, HL4, HW4, HP6, HO6, HK6, HX6, HQ6, HN2⟩
      case measure =>
       rw [show (m : Int) + 1 = ((m + 1 : Nat) : Int) from by omega, cB, cB]
       omega
     case neg =>
      have hst := HYES.out hf
      have hR := HRD.out.2 hf
      subst hR
      have HG4 : Hid (g2 ++ [⟨(ta, tb, tc), k, M⟩] = gs ++ onQG k lc (qs.take (m + 1))) := aA (by rw [HG3.out, hst.2])
      have HL4 : Hid (bG l2 (ta, tb, tc) (iL k) = j9 k lc (qs.take (m + 1))) := aA (by rw [HL3.out, hst.1])
      have HW4 : Hid (Wts (bG l2 (ta, tb, tc) (iL k)) k (qs.drop (m + 1))) := aA (by have := HW3.out; rw [hst.1] at this; exact this)
      have HB6 := aA (HA5.out.trans (hb6.mono HA5.out.size))
      have HP6 := aA (HP2.out.below HB6.out)
      have HO6 := aA (aJ HO2.out (aC.of_below (fun _ => False) HB6.out) (fun _ _ h => h))
      have HQ6 := aA (aJ HQ2.out (aC.of_below (fun _ => False) HB6.out) (fun _ _ h => h))
      have HX6 := aA (HX2.out.belowI HB6.out)
      have HK6 : Hid (aC (fun g => MS15 p l g) w1 w6) := aA (HK2.out.trans (aC.of_below (fun _ => False) HB6.out) (fun _ _ h => h.elim))
      obtain ⟨y0c, y1c, y2c⟩ := (HXB.out.belowI hb6).three
      obtain ⟨v0, v1, v2, v3, v4, v5, v6, v7⟩ := bN HX6.out
      have HW16 : Hid (w1.heap.size ≤ w6.heap.size) := aA HK6.out.size
      clear hst hf hb6 z0 z1 z2 z3 z4 z5 z6 z7 y0 y1 y2 y0b y1b y2b hW5 hP9 CF
      go_wp2_with fail
      refine (CG.out w6 HP6.out).mono ?_
      rintro e w7 ⟨rfl, hp7', hk7⟩
      have HP8 := aA hp7'
      have hnu : l2.map (·.tx) = (bG l2 (ta, tb, tc) (iL k)).map (·.tx) := by
       unfold bG
       rw [List.map_map]
       exact List.map_congr_left (fun u _ => by show u.tx = (if u.tx = (ta, tb, tc) then iL k u else u).tx; split <;> rfl)
      have HK67 : Hid (aC (fun g => MS15 p l g) w6 w7) := aA (hk7.mono (fun j e => HMX.out j e))
      have HNM7 : Hid (∀ g, w1.heap.size ≤ g → ¬ MS15 p l g) := aA (fun g hg hm => by
       have := HFL.out g (HMF.out g hm)
       omega)
      have HO7 := aA (aJ HO6.out HK67.out (fun g e => HNM7.out g (HO6.out.lt g e).1))
      have HQ7 := aA (aJ HQ6.out HK67.out (fun g e => HNM7.out g (by have h1 := (HQB.out g e).1; have h2 := HP7.out; omega)))
      have HX7 := aA (HX6.out.keep HK67.out (HNM7.out p7 HP7.out.1))
      have HK7 : Hid (aC (fun g => MS15 p l g) w1 w7) := aA (HK6.out.trans HK67.out (fun _ _ h => h))
      have HA8 : Hid (Below w7.heap.size w7 (w7.alloc (.cells (bW ⟨(ta, tb, tc), k, M⟩) 73))) := aA (aE _ _)
      have HSRC : Hid (bI gtE (w7.alloc (.cells (bW ⟨(ta, tb, tc), k, M⟩) 73)) (.slice (some ⟨w7.heap.size, 0, none⟩) 1 1) [⟨(ta, tb, tc), k, M⟩]) := aA (dK (enc := gtE) w7 ⟨(ta, tb, tc), k, M⟩ (bW ⟨(ta, tb, tc), k, M⟩) rfl 73)
      have HO8 := aA (aJ HO7.out (aC.of_below (fun _ => False) HA8.out) (fun _ _ h => h))
      have HQ8 := aA (aJ HQ7.out (aC.of_below (fun _ => False) HA8.out) (fun _ _ h => h))
      have HX8 := aA (HX7.out.belowI HA8.out)
      have HPP8 := aA (HP8.out.below HA8.out)
      have HK8 : Hid (aC (fun g => MS15 p l g) w1 (w7.alloc (.cells (bW ⟨(ta, tb, tc), k, M⟩) 73))) := aA (HK7.out.alloc _)
      have HSL : Hid (g2.length + 1 ≤ 1000000) := aA (by
       have h1 := onQG_len k (qs.take m) lc
       have h2 := List.length_take_le m qs
       have h3 := HGL.out
       rw [HG2.out, List.length_append]
       omega)
      have HBS : Hid (w1.heap.size ≤ (w7.alloc (.cells (bW ⟨(ta, tb, tc), k, M⟩) 73)).heap.size) := aA HK8.out.size
      have HGN : Hid ((g2 ++ [(⟨(ta, tb, tc), k, M⟩ : cD KeyT)]).length = g2.length + 1) := aA (by rw [List.length_append]; rfl)
      have HQL8 : Hid (∀ g, (Value.slice (some ⟨bq, oq, none⟩) ql cq).ownBlock = some g → g < w7.heap.size) := aA (fun g hg => (HQ7.out.lt g hg).2)
      have HX7L := aA HX7.out.lt
      have HNM9 : Hid (∀ g, eP q b p (bG l2 (ta, tb, tc) (iL k)) g → ¬ (Value.slice a2 g2.length c2).ownBlock = some g) := aA (fun g hF e => by
       have h1 := HFL.out g (eX HNM2.out (eX (l := l2) (by rw [← hnu]) hF))
       have h2 := (HO2.out.lt g e).1
       omega)
      clear hnu hp7' hk7 v0 v1 v2 v3 v4 v5 v6 v7 y0c y1c y2c
      go_wp2_with (at_builtin; refine dS recGt15 _ rfl _ _ rfl w1.heap.size (.slice a2 g2.length c2) (.slice (some ⟨w7.heap.size, 0, none⟩) 1 1) g2 [⟨(ta, tb, tc), k, M⟩] rfl HO8.out rfl HSRC.out ?_ HSL.out HBS.out ?_)
      ·exact (fun z hz => by simp at hz; subst hz; exact gt_one15 _)
      intro v9 w9 ho9 hg9 hv9
      obtain ⟨a9, c9, hv9e, _⟩ := aQ ho9
      subst hv9e
      have hk9 := kept15 hg9
      have HP9' := aA (HPP8.out.keep hk9 (fun g hF e => HNM9.out g hF e))
      have HO9 := aA ho9
      have HQ9 := aA (aJ HQ8.out hk9 (fun g e e2 => (HN2.out g e2).2 e))
      have HX9 := aA (HX8.out.keep hk9 (fun e2 => (HN2.out p7 e2).1 rfl))
      have HK9 : Hid (aC (fun g => MS15 p l g) w1 w9) := aA (HK8.out.trans hk9 (fun g hg e => by
       have := (HO8.out.lt g e).1
       omega))
      have HN9 : Hid (∀ g, (Value.slice a9 (g2.length + 1) c9).ownBlock = some g → g ≠ p7 ∧ (Value.slice (some ⟨bq, oq, none⟩) ql cq).ownBlock ≠ some g) := aA (fun g hg => by
       rcases hv9 with e | e
       ·exact HN2.out g (e.symm.trans hg)
       ·rw [e] at hg
        cases hg
        refine ⟨fun e2 => ?_, fun e2 => ?_⟩
        ·have h1 := HX7L.out
         have h2 : (w7.alloc (.cells (bW ⟨(ta, tb, tc), k, M⟩) 73)).heap.size = w7.heap.size + 1 := by simp
         omega
        ·have h1 := HQL8.out _ e2
         have h2 : (w7.alloc (.cells (bW ⟨(ta, tb, tc), k, M⟩) 73)).heap.size = w7.heap.size + 1 := by simp
         omega)
      clear ho9 hg9 hv9 hk9
      go_wp2_with fail
      go_roundw
      case rel => exact ⟨m + 1, g2 ++ [⟨(ta, tb, tc), k, M⟩], _, a9, c9, by rw [HGN.out], by first | rfl | go_num, by omega, HG4, HL4, HW4, HP9', by rw [HGN.out]; exact HO9, HK9, HX9, HQ9, by rw [HGN.out]; exact HN9⟩
      case measure =>
       rw [show (m : Int) + 1 = ((m + 1 : Nat) : Int) from by omega, cB, cB]
       omega
end
section
open Go.RowKit Go.Maps Classical
theorem bX : (Tryz.prog.info? 45).map (·.size) = some 2 := by kernel_rfl
abbrev zO : Array Value := #[.slice none 0 0, .slice none 0 0]
theorem buildOut0 (w : World) : (Instr.build 45 #[]).run Tryz.prog w = .ok (.agg zO) w := by kernel_rfl
theorem buildOut1 (a : Option Addr) (n c : Nat) (w : World) : (Instr.build 45 #[(1, .slice a n c)]).run Tryz.prog w = .ok (.agg #[.slice none 0 0, .slice a n c]) w := by kernel_rfl
theorem buildOut2 (a a' : Option Addr) (n c n' c' : Nat) (w : World) : (Instr.build 45 #[(0, .slice a n c), (1, .slice a' n' c')]).run Tryz.prog w = .ok (.agg #[.slice a n c, .slice a' n' c']) w := by kernel_rfl
theorem iT {q b : Nat} {p : TxN → Nat × Nat} {l l2 : List (aS KeyT)} (h : ∀ u ∈ l2, u ∈ l) {g : Nat} (hg : eP q b p l2 g) : eP q b p l g := by
 rcases hg with e | e | ⟨u, hu, e⟩
 ·exact .inl e
 ·exact .inr (.inl e)
 ·exact .inr (.inr ⟨u, h u hu, e⟩)
def QN (N : Nat) (l : List (aS KeyT)) : Prop := ∀ ks k, (cS (gA l ks) k).length ≤ N
theorem qn64 {l : List (aS KeyT)} (h : dD l) : QN 64 l := fun ks k => que_len (onA_b ks h) k
attribute [local go_sem ↓] kC
set_option maxHeartbeats 3200000 in
theorem lkRelease_any (N : Nat) (HS : SortB N) (q b C : Nat) (p : TxN → Nat × Nat) (l : List (aS KeyT)) (t : TxN) (w : World) (h : fJ w q b C p l) (ht : kJ t) (hC : C ≤ 150) (HQ : QN N (cN l t)) :
  Calls Tryz.prog 26 #[.pointer (some ⟨q, 0, none⟩), aV t] w fun e w' => ∃ vg er gr l', e = .returned (.tuple #[.agg #[.slice none 0 0, vg], .int .i64 er]) ∧ RelR cQ l t er l' gr ∧ fJ w' q b C p l' ∧ aC (fun g => eP q b p l g) w w' ∧ w'.ownsRow w.heap.size 73 12 vg gr.length (bR gtE gr) := by
 have hA := aE w (.cells #[.int .u8 (t.1 : Int), .int .u32 (t.2.1 : Int), .int .u32 (t.2.2 : Int)] 34)
 have hA2 := aE (w.alloc (.cells #[.int .u8 (t.1 : Int), .int .u32 (t.2.1 : Int), .int .u32 (t.2.2 : Int)] 34)) (.cells zO 45)
 have HXT := aA ((aN w #[.int .u8 (t.1 : Int), .int .u32 (t.2.1 : Int), .int .u32 (t.2.2 : Int)] 34).belowI hA2)
 have HXO : Hid (bZ ((w.alloc (.cells #[.int .u8 (t.1 : Int), .int .u32 (t.2.1 : Int), .int .u32 (t.2.2 : Int)] 34)).alloc (.cells zO 45)) (w.heap.size + 1) zO 45) := aA (by have := aN (w.alloc (.cells #[.int .u8 (t.1 : Int), .int .u32 (t.2.1 : Int), .int .u32 (t.2.2 : Int)] 34)) zO 45; simpa using this)
 have hB2 := hA.trans (hA2.mono hA.size)
 obtain ⟨w1, hw1⟩ : ∃ w1, w1 = (w.alloc (.cells #[.int .u8 (t.1 : Int), .int .u32 (t.2.1 : Int), .int .u32 (t.2.2 : Int)] 34)).alloc (.cells zO 45) := ⟨_, rfl⟩
 obtain ⟨p1, hp1⟩ : ∃ p1, p1 = w.heap.size := ⟨_, rfl⟩
 obtain ⟨p2, hp2⟩ : ∃ p2, p2 = p1 + 1 := ⟨_, rfl⟩
 rw [← hw1, ← hp1] at HXT
 rw [← hw1, ← hp1, ← hp2] at HXO
 rw [← hw1] at hB2
 have hW1 := hw1.symm
 have hP1 := hp1.symm
 have hP2 := hp2.symm
 have HP := aA h
 have H1 := aA (h.below hB2)
 have HB := aA hB2
 have CM := aA (made15 q b w1 H1.out.box)
 have HP12 : Hid (w.heap.size = p1 ∧ p2 = p1 + 1 ∧ p2 < w1.heap.size) := aA ⟨hp1.symm, hp2, HXO.out.lt⟩
 have hA4 := aE w1 (.cells zU 80)
 have hXU := aN w1 zU 80
 obtain ⟨w2, hw2⟩ : ∃ w2, w2 = w1.alloc (.cells zU 80) := ⟨_, rfl⟩
 obtain ⟨p4, hp4⟩ : ∃ p4, p4 = w1.heap.size := ⟨_, rfl⟩
 rw [← hw2] at hA4 hXU
 rw [← hp4] at hXU
 have hW2 := hw2.symm
 have hP4 := hp4.symm
 have H2 := aA (H1.out.below hA4)
 have h0 : w2.cell? ⟨q, 0, none⟩ = some (.map (some b)) := H2.out.box.cell 0 _ rfl
 obtain ⟨k0, k1, k2⟩ := (HXT.out.belowI hA4).three
 have L1 := (H2.out.m.below (aG w2)).look fM ⟨t, ht⟩
 have h01 : w1.cell? ⟨q, 0, none⟩ = some (.map (some b)) := H1.out.box.cell 0 _ rfl
 obtain ⟨k01, k11, k21⟩ := HXT.out.three
 have L11 := (H1.out.m.below (aG w1)).look fM ⟨t, ht⟩
 obtain ⟨E, hE⟩ : ∃ E : E15, E = (gU l p ⟨t, ht⟩).getD zE := ⟨_, rfl⟩
 obtain ⟨I, hI⟩ : ∃ I : Bool, I = (gU l p ⟨t, ht⟩).isSome := ⟨_, rfl⟩
 rw [← hE, ← hI] at L1 L11
 have hII : I = (cM l t).isSome := by rw [hI]; show ((cM l t).map _).isSome = _; rw [Option.isSome_map]
 obtain ⟨w3, hst, hx3, hk3⟩ := run_stU (hXU.belowI (aG w2)) rfl E
 have HB3 : Hid (Below w1.heap.size w1 w3) := aA ((hA4.trans ((aG w2).mono hA4.size)).trans (hk3.below hA4.size (fun j e => by rw [e, hp4]; exact Nat.le_refl _)))
 have HII := aA hII
 have HQN := aA HQ
 have HC := aA hC
 have HTB := aA ht
 have HSS := aA HS
 have hbu0 := buildOut0
 clear hw2 hp4 hA4 hXU hx3 hk3 hE hI hII h hA hA2 hB2 hw1 hp1 hp2 HQ hC HS
 go_enter Tryz.func26, Tryz.ntmps26
 go_wp2_with fail
 refine CM.out.mono ?_
 rintro e w0 ⟨rfl, hw0⟩
 rw [hw0]
 clear hw0 CM
 go_wp2_with fail
 go_region
 clear h0 k0 k1 k2 h01 k01 k11 k21 L1 L11 hst hW1 hW2 hP1 hP2 hP4
 have HXT3 := aA (HXT.out.belowI HB3.out)
 have HXO3 := aA (HXO.out.belowI HB3.out)
 have H3 := aA (H1.out.below HB3.out)
 have HBB3 : Hid (Below w.heap.size w w3) := aA (HB.out.trans (HB3.out.mono HB.out.size))
 cases hc : I with
 | false =>
  have HN : Hid (cM l t = none) := aA (by have := HII.out; rw [hc] at this; cases hu : cM l t with | none => rfl | some x => rw [hu] at this; cases this)
  subst hc
  go_wp2_with (refine aP rfl rfl _ _ rfl p2 rfl (cs' := zO) rfl HXO3.out rfl bX (by simp [Value.oneCell']) ?_; intro w5 hb5 hk5; have HX5 := aA hb5; have HK5 := aA hk5; clear hb5 hk5)
  refine bodyPost_ret (v := .tuple #[.agg zO, .int .i64 6]) (bB Tryz.results26 _ _ p2 rfl rfl HX5.out Tryz.underlying45 rfl bX) rfl ?_
  have hne : ∀ g, eP q b p l g → g < p1 := fun g hg => by rw [← HP12.out.1]; exact HP.out.flt hg
  have h12 := HP12.out
  exact ⟨.slice none 0 0, 6, [], l, rfl, .inl ⟨rfl, rfl, HN.out, rfl⟩, H3.out.keep HK5.out (fun g hg e => by have := hne g hg; omega), (aC.of_below _ HBB3.out).trans HK5.out (fun g hg e => by omega), World.ownsRow_nil _ _ _ _⟩
 | true =>
  have HN : Hid (∃ x, cM l t = some x) := aA (by have := HII.out; rw [hc] at this; cases hu : cM l t with | none => rw [hu] at this; cases this | some x => exact ⟨x, rfl⟩)
  subst hc
  obtain ⟨x, hux⟩ := HN.out
  obtain ⟨hx, hxt⟩ := (bT HP.out.ok).1 hux
  have HUX := aA hux
  have CD := aA (lkDrop_any q b C p l x hx w3 H3.out (by have := HC.out; omega))
  rw [hxt] at CD
  obtain ⟨k03, k13, k23⟩ := HXT3.out.three
  clear hux hx hxt HN
  simp only [Exit.then]
  rename_i hK
  refine hK _ _ ?_
  clear hK
  go_wp2_with fail
  refine CD.out.mono ?_
  rintro e w6 ⟨v, ks, rfl, hrow, hmem, hkl, hp6, hk6⟩
  have HFL6 : Hid (∀ g, eP q b p (cN l t) g → g < w3.heap.size) := aA (fun g hg => H3.out.flt (iT (fun u hu => (List.mem_filter.1 hu).1) hg))
  have CO := aA (lkOn_any N HSS.out q b C p (cN l t) ks v w3.heap.size w6 hp6 hrow (fun g hg hF => by
   have h1 := (hrow.lt g hg).1
   have h2 := HFL6.out g hF
   omega) (by have := HC.out; omega) (by have := HC.out; omega) HQN.out)
  have HMEM := aA hmem
  have HK6 := aA hk6
  have HVB : Hid (∀ g, v.ownBlock = some g → w3.heap.size ≤ g) := aA (fun g hg => (hrow.lt g hg).1)
  clear hrow hmem hkl hp6 hk6 k03 k13 k23 CD
  go_wp2_with fail
  refine CO.out.mono ?_
  rintro e w7 ⟨vg, ks', rfl, hks, hrg, hp7, hk7⟩
  obtain ⟨ag, cg, rfl, _⟩ := aQ hrg
  have HRG := aA hrg
  have HP7 := aA hp7
  have HKS := aA hks
  have HKA : Hid (aC (fun g => eP q b p l g) w w7) := aA (by
   have a1 := (aC.of_below (fun g => eP q b p l g) HBB3.out).trans HK6.out (fun g _ e => by rw [e]; exact .inr (.inl rfl))
   refine a1.trans hk7 (fun g hg e => ?_)
   rcases e with ⟨u, hu, e⟩ | e
   ·exact .inr (.inr ⟨u, (List.mem_filter.1 hu).1, e⟩)
   ·have h1 := HVB.out g e
    have h2 := HBB3.out.size
    omega)
  have HXO7 : Hid (bZ w7 p2 zO 45) := aA ((HXO3.out.keep HK6.out (fun e => by
    have h1 := HP.out.flt (k := b) (.inr (.inl rfl))
    have h2 := HP12.out
    omega)).keep hk7 (fun e => by
    have h2 := HP12.out
    have h3 := HB3.out.size
    rcases e with ⟨u, hu, e⟩ | e
    ·have h1 := HP.out.flt (k := p2) (.inr (.inr ⟨u, (List.mem_filter.1 hu).1, e⟩))
     omega
    ·have h1 := HVB.out p2 e
     omega))
  have HW67 : Hid (w.heap.size ≤ w6.heap.size ∧ p2 < w6.heap.size) := aA ⟨Nat.le_trans HBB3.out.size HK6.out.size, Nat.lt_of_lt_of_le (Nat.lt_of_lt_of_le HP12.out.2.2 HB3.out.size) HK6.out.size⟩
  have hbu1 := buildOut1 ag (fX (cN l t) ks').length cg
  clear hrg hp7 hks hk7
  obtain ⟨gr, hgr⟩ : ∃ gr, gr = fX (cN l t) ks' := ⟨_, rfl⟩
  obtain ⟨gn, hgn⟩ : ∃ gn, gn = gr.length := ⟨_, rfl⟩
  rw [← hgr] at HRG hbu1 ⊢
  rw [← hgn] at HRG hbu1 ⊢
  have HGR := aA (And.intro hgr hgn)
  clear hgr hgn
  go_wp2_with (refine aP rfl rfl _ _ rfl p2 rfl (cs' := #[.slice none 0 0, .slice ag gn cg]) rfl HXO7.out rfl bX (by simp [Value.oneCell']) ?_; intro w8 hb8 hk8; have HX8 := aA hb8; have HK8 := aA hk8; clear hb8 hk8)
  refine bodyPost_ret (v := .tuple #[.agg #[.slice none 0 0, .slice ag gn cg], .int .i64 0]) (bB Tryz.results26 _ _ p2 rfl rfl HX8.out Tryz.underlying45 rfl bX) rfl ?_
  have hne : ∀ g, eP q b p l g → g < p1 := fun g hg => by rw [← HP12.out.1]; exact HP.out.flt hg
  have h12 := HP12.out
  refine ⟨_, 0, gr, gA (cN l t) ks', rfl, .inr ⟨x, ks', HUX.out, rfl, ⟨HKS.out.1, fun k => (HKS.out.2 k).trans (HMEM.out k)⟩, HGR.out.1, rfl⟩, HP7.out.keep HK8.out (fun g hg e => ?_), HKA.out.trans HK8.out (fun g hg e => by omega), ?_⟩
  ·have := hne g (iT (fun u hu => (List.mem_filter.1 hu).1) (eX (gO ks' (cN l t)) hg))
   omega
  ·have h8 := aJ HRG.out HK8.out (fun g hg e => by
    have h1 := (HRG.out.lt g hg).1
    have h2 := HW67.out
    omega)
   rw [← HGR.out.2]
   exact dO h8 HW67.out.1
end
section
open Go.RowKit Go.Maps Classical
theorem gU_prep {l : List (aS KeyT)} (hb : dD l) {x : aS KeyT} (hx : x ∈ l) (p : TxN → Nat × Nat) {t : TxN} (ht : kJ t) (hxt : x.tx = t) (s : TxT) (hs : s = ⟨t, ht⟩) : some (x.tm, t, true, some (p t).1, some (p t).2) = gU (bG l t cK) p s := by
 subst hs hxt
 show _ = (cM (bG l x.tx cK) x.tx).map _
 rw [usL_upd x.tx (f := cK) (fun u => rfl), (bT hb).2 ⟨hx, rfl⟩]
 show _ = some ((if x.tx = x.tx then cK x else x).tm, (if x.tx = x.tx then cK x else x).tx, (if x.tx = x.tx then cK x else x).pr, some _, some _)
 rw [if_pos rfl]
 rfl
theorem gU_prep' {l : List (aS KeyT)} (hb : dD l) (p : TxN → Nat × Nat) {t : TxN} (ht : kJ t) (s : TxT) (hs : s ≠ ⟨t, ht⟩) : gU l p s = gU (bG l t cK) p s := by
 show (cM l s.1).map _ = (cM (bG l t cK) s.1).map _
 rw [usL_upd t (f := cK) (fun u => rfl), Option.map_map]
 cases hu : cM l s.1 with
 | none => rfl
 | some u =>
  have e1 := ((bT hb).1 hu).2
  have e2 : u.tx ≠ t := fun e3 => hs (Subtype.ext (by rw [← e1]; exact e3))
  show some (u.tm, u.tx, u.pr, some _, some _) = some ((if u.tx = t then cK u else u).tm, (if u.tx = t then cK u else u).tx, (if u.tx = t then cK u else u).pr, some _, some _)
  rw [if_neg e2]
theorem prep_b {l : List (aS KeyT)} (h : dD l) (t : TxN) : dD (bG l t cK) := i9 h t cK (fun u hu => ⟨rfl, rfl, fun k => by
 show (if u.h k = 1 then 0 else u.h k) ≤ 2
 have := (h.oks u hu).2.2.1 k
 split <;> omega, (h.oks u hu).2.2.2⟩)
attribute [local go_sem ↓] kC
set_option maxHeartbeats 3200000 in
theorem lkPrepare_any (N : Nat) (HS : SortB N) (q b C : Nat) (p : TxN → Nat × Nat) (l : List (aS KeyT)) (t : TxN) (w : World) (h : fJ w q b C p l) (ht : kJ t) (hC : C ≤ 150) (HQ : QN N (bG l t cK)) :
  Calls Tryz.prog 25 #[.pointer (some ⟨q, 0, none⟩), aV t] w fun e w' => ∃ vg er gr l', e = .returned (.tuple #[.agg #[.slice none 0 0, vg], .int .i64 er]) ∧ PrepR cQ l t er l' gr ∧ fJ w' q b C p l' ∧ aC (fun g => eP q b p l g) w w' ∧ w'.ownsRow w.heap.size 73 12 vg gr.length (bR gtE gr) := by
 have hA := aE w (.cells #[.int .u8 (t.1 : Int), .int .u32 (t.2.1 : Int), .int .u32 (t.2.2 : Int)] 34)
 have hA2 := aE (w.alloc (.cells #[.int .u8 (t.1 : Int), .int .u32 (t.2.1 : Int), .int .u32 (t.2.2 : Int)] 34)) (.cells zO 45)
 have HXT := aA ((aN w #[.int .u8 (t.1 : Int), .int .u32 (t.2.1 : Int), .int .u32 (t.2.2 : Int)] 34).belowI hA2)
 have HXO : Hid (bZ ((w.alloc (.cells #[.int .u8 (t.1 : Int), .int .u32 (t.2.1 : Int), .int .u32 (t.2.2 : Int)] 34)).alloc (.cells zO 45)) (w.heap.size + 1) zO 45) := aA (by have := aN (w.alloc (.cells #[.int .u8 (t.1 : Int), .int .u32 (t.2.1 : Int), .int .u32 (t.2.2 : Int)] 34)) zO 45; simpa using this)
 have hB2 := hA.trans (hA2.mono hA.size)
 obtain ⟨w1, hw1⟩ : ∃ w1, w1 = (w.alloc (.cells #[.int .u8 (t.1 : Int), .int .u32 (t.2.1 : Int), .int .u32 (t.2.2 : Int)] 34)).alloc (.cells zO 45) := ⟨_, rfl⟩
 obtain ⟨p1, hp1⟩ : ∃ p1, p1 = w.heap.size := ⟨_, rfl⟩
 obtain ⟨p2, hp2⟩ : ∃ p2, p2 = p1 + 1 := ⟨_, rfl⟩
 rw [← hw1, ← hp1] at HXT
 rw [← hw1, ← hp1, ← hp2] at HXO
 rw [← hw1] at hB2
 have hW1 := hw1.symm
 have hP1 := hp1.symm
 have hP2 := hp2.symm
 have HP := aA h
 have H1 := aA (h.below hB2)
 have HB := aA hB2
 have CM := aA (made15 q b w1 H1.out.box)
 have HP12 : Hid (w.heap.size = p1 ∧ p2 = p1 + 1 ∧ p2 < w1.heap.size) := aA ⟨hp1.symm, hp2, HXO.out.lt⟩
 have hA4 := aE w1 (.cells zU 80)
 have hXU := aN w1 zU 80
 obtain ⟨w2, hw2⟩ : ∃ w2, w2 = w1.alloc (.cells zU 80) := ⟨_, rfl⟩
 obtain ⟨p4, hp4⟩ : ∃ p4, p4 = w1.heap.size := ⟨_, rfl⟩
 rw [← hw2] at hA4 hXU
 rw [← hp4] at hXU
 have hW2 := hw2.symm
 have hP4 := hp4.symm
 have HP4 := aA hP4
 have H2 := aA (H1.out.below hA4)
 have h0 : w2.cell? ⟨q, 0, none⟩ = some (.map (some b)) := H2.out.box.cell 0 _ rfl
 obtain ⟨k0, k1, k2⟩ := (HXT.out.belowI hA4).three
 have L1 := (H2.out.m.below (aG w2)).look fM ⟨t, ht⟩
 have h01 : w1.cell? ⟨q, 0, none⟩ = some (.map (some b)) := H1.out.box.cell 0 _ rfl
 obtain ⟨k01, k11, k21⟩ := HXT.out.three
 have L11 := (H1.out.m.below (aG w1)).look fM ⟨t, ht⟩
 obtain ⟨E, hE⟩ : ∃ E : E15, E = (gU l p ⟨t, ht⟩).getD zE := ⟨_, rfl⟩
 obtain ⟨I, hI⟩ : ∃ I : Bool, I = (gU l p ⟨t, ht⟩).isSome := ⟨_, rfl⟩
 rw [← hE, ← hI] at L1 L11
 have HEE := aA hE
 have hII : I = (cM l t).isSome := by rw [hI]; show ((cM l t).map _).isSome = _; rw [Option.isSome_map]
 obtain ⟨w3, hst, hx3, hk3⟩ := run_stU (hXU.belowI (aG w2)) rfl E
 have HX3 := aA hx3
 have HB3 : Hid (Below w1.heap.size w1 w3) := aA ((hA4.trans ((aG w2).mono hA4.size)).trans (hk3.below hA4.size (fun j e => by rw [e, hp4]; exact Nat.le_refl _)))
 have HII := aA hII
 have HQN := aA HQ
 have HC := aA hC
 have HTB := aA ht
 have HSS := aA HS
 have hbu0 := buildOut0
 clear hw2 hp4 hA4 hXU hx3 hk3 hE hI hII h hA hA2 hB2 hw1 hp1 hp2 HQ hC HS
 go_enter Tryz.func25, Tryz.ntmps25
 go_wp2_with fail
 refine CM.out.mono ?_
 rintro e w0 ⟨rfl, hw0⟩
 rw [hw0]
 clear hw0 CM
 go_wp2_with fail
 go_region
 clear h0 k0 k1 k2 h01 k01 k11 k21 L1 L11 hst hW1 hW2 hP1 hP2 hP4
 have HXT3 := aA (HXT.out.belowI HB3.out)
 have HXO3 := aA (HXO.out.belowI HB3.out)
 have H3 := aA (H1.out.below HB3.out)
 have HBB3 : Hid (Below w.heap.size w w3) := aA (HB.out.trans (HB3.out.mono HB.out.size))
 cases hc : I with
 | false =>
  have HN : Hid (cM l t = none) := aA (by have := HII.out; rw [hc] at this; cases hu : cM l t with | none => rfl | some x => rw [hu] at this; cases this)
  subst hc
  go_wp2_with (refine aP rfl rfl _ _ rfl p2 rfl (cs' := zO) rfl HXO3.out rfl bX (by simp [Value.oneCell']) ?_; intro w5 hb5 hk5; have HX5 := aA hb5; have HK5 := aA hk5; clear hb5 hk5)
  refine bodyPost_ret (v := .tuple #[.agg zO, .int .i64 6]) (bB Tryz.results25 _ _ p2 rfl rfl HX5.out Tryz.underlying45 rfl bX) rfl ?_
  have hne : ∀ g, eP q b p l g → g < p1 := fun g hg => by rw [← HP12.out.1]; exact HP.out.flt hg
  have h12 := HP12.out
  exact ⟨.slice none 0 0, 6, [], l, rfl, .inl ⟨rfl, rfl, .inl ⟨HN.out, rfl⟩⟩, H3.out.keep HK5.out (fun g hg e => by have := hne g hg; omega), (aC.of_below _ HBB3.out).trans HK5.out (fun g hg e => by omega), World.ownsRow_nil _ _ _ _⟩
 | true =>
  have HN : Hid (∃ x, cM l t = some x) := aA (by have := HII.out; rw [hc] at this; cases hu : cM l t with | none => rw [hu] at this; cases this | some x => exact ⟨x, rfl⟩)
  subst hc
  obtain ⟨x, hux⟩ := HN.out
  obtain ⟨hx, hxt⟩ := (bT HP.out.ok).1 hux
  have hEx : E = (x.tm, t, x.pr, some (p t).1, some (p t).2) := by
   rw [HEE.out]
   have e : gU l p ⟨t, ht⟩ = some (x.tm, x.tx, x.pr, some (p t).1, some (p t).2) := by show (cM l t).map _ = _; rw [hux]; rfl
   rw [e, hxt]; rfl
  obtain ⟨⟨m1, m2⟩, hm12⟩ : ∃ m, m = p t := ⟨_, rfl⟩
  rw [← hm12] at hEx
  have HM := aA hm12
  subst hEx
  obtain ⟨n, n', hma, hmb, hnn⟩ := H3.out.maps x hx
  rw [hxt, ← hm12] at hma hmb
  obtain ⟨nw, hlen, hpos⟩ := eN.len (.inr ⟨_, _, rfl, hmb⟩ : eN w3 (some m2) x.w)
  have y6 : w3.cell? ⟨p4, 6, none⟩ = some (.map (some m2)) := HX3.out.cell 6 _ rfl
  have HUX := aA hux
  have HX := aA hx
  have HXX := aA hxt
  have HMA := aA hma
  have HMB := aA hmb
  have HNN := aA hnn
  have HPOS := aA hpos
  simp only [Exit.then]
  rename_i hK
  refine hK _ _ ?_
  clear hK hux hx hxt HN hma hmb hnn hpos
  by_cases hw0 : 0 < nw
  case pos =>
   have hz : (0 : Int) < (nw : Int) := by omega
   have HWW := aA (HPOS.out.1 hw0)
   go_wp2_with (refine aP rfl rfl _ _ rfl p2 rfl (cs' := zO) rfl HXO3.out rfl bX (by simp [Value.oneCell']) ?_; intro w5 hb5 hk5; have HX5 := aA hb5; have HK5 := aA hk5; clear hb5 hk5)
   refine bodyPost_ret (v := .tuple #[.agg zO, .int .i64 11]) (bB Tryz.results25 _ _ p2 rfl rfl HX5.out Tryz.underlying45 rfl bX) rfl ?_
   have hne : ∀ g, eP q b p l g → g < p1 := fun g hg => by rw [← HP12.out.1]; exact HP.out.flt hg
   have h12 := HP12.out
   exact ⟨.slice none 0 0, 11, rfl, [], l, .inl ⟨rfl, rfl, .inr ⟨x, HUX.out, HWW.out, rfl⟩⟩, H3.out.keep HK5.out (fun g hg e => by have := hne g hg; omega), (aC.of_below _ HBB3.out).trans HK5.out (fun g hg e => by omega), World.ownsRow_nil _ _ _ _⟩
  case neg =>
   have hz : ¬ (0 : Int) < (nw : Int) := by omega
   have HWW : Hid (∀ k, x.w k = 0) := aA (fun k => by
    by_cases e : x.w k = 0
    ·exact e
    ·exact absurd (HPOS.out.2 ⟨k, e⟩) hw0)
   have hbx := HX3.out.set (i := 4) (v := .bool true)
   obtain ⟨w4, hw4⟩ : ∃ w4, w4 = w3.setCell ⟨p4, 4, none⟩ (.bool true) := ⟨_, rfl⟩
   have hW4 := hw4.symm
   have y4 : w3.cell? ⟨p4, 4, none⟩ = some (.bool x.pr) := HX3.out.cell 4 _ rfl
   have f4 : w3.frozen? ⟨p4, 4, none⟩ = false := HX3.out.frozen 4
   have HX4 : Hid (bZ w4 p4 (usA (x.tm, t, true, some m1, some m2)) 80) := aA (by rw [hw4]; exact hbx)
   have HK34 : Hid (aC (fun j => j = p4) w3 w4) := aA (by rw [hw4]; exact (aC.refl (fun j => j = p4) w3).setCell (p := ⟨p4, 4, none⟩) (.inl rfl) _)
   clear hw4 hbx
   have HP4L : Hid (p1 < p4 ∧ p2 < p4) := aA ⟨Nat.lt_of_lt_of_le HXT.out.lt (Nat.le_of_eq HP4.out), Nat.lt_of_lt_of_le HP12.out.2.2 (Nat.le_of_eq HP4.out)⟩
   have HFP : Hid (∀ g, eP q b p l g → g < p1) := aA (fun g hg => by rw [← HP12.out.1]; exact HP.out.flt hg)
   have H4 := aA (H3.out.keep HK34.out (fun g hg e => by
    have h1 := HFP.out g hg
    have h2 := HP4L.out
    omega))
   have HXT4 := aA (HXT3.out.keep HK34.out (fun e => by have := HP4L.out; omega))
   have HXO4 := aA (HXO3.out.keep HK34.out (fun e => by have := HP4L.out; omega))
   have HFM : Hid (eP q b p l m1 ∧ eP q b p l m2 ∧ m1 ≠ m2 ∧ m1 ≠ b ∧ m2 ≠ b) := aA (by
    have h1 := HP.out.ap x HX.out
    have e1 : p x.tx = (m1, m2) := by rw [HXX.out]; exact HM.out.symm
    rw [e1] at h1
    exact ⟨.inr (.inr ⟨x, HX.out, .inl (by rw [e1])⟩), .inr (.inr ⟨x, HX.out, .inr (by rw [e1])⟩), h1⟩)
   have HMA4 := aA (HMA.out.keep HK34.out (fun e => by
    have h1 := HFP.out m1 HFM.out.1
    have h2 := HP4L.out
    omega))
   have HMB4 := aA (HMB.out.keep HK34.out (fun e => by
    have h1 := HFP.out m2 HFM.out.2.1
    have h2 := HP4L.out
    omega))
   have h04 : w4.cell? ⟨q, 0, none⟩ = some (.map (some b)) := H4.out.box.cell 0 _ rfl
   obtain ⟨k04, k14, k24⟩ := HXT4.out.three
   have u0 : w4.cell? ⟨p4, 0, none⟩ = some (.int .u32 (x.tm : Int)) := HX4.out.cell 0 _ rfl
   have u1 : w4.cell? ⟨p4, 1, none⟩ = some (.int .u8 (t.1 : Int)) := HX4.out.cell 1 _ rfl
   have u2 : w4.cell? ⟨p4, 2, none⟩ = some (.int .u32 (t.2.1 : Int)) := HX4.out.cell 2 _ rfl
   have u3 : w4.cell? ⟨p4, 3, none⟩ = some (.int .u32 (t.2.2 : Int)) := HX4.out.cell 3 _ rfl
   have u4 : w4.cell? ⟨p4, 4, none⟩ = some (.bool true) := HX4.out.cell 4 _ rfl
   have u5 : w4.cell? ⟨p4, 5, none⟩ = some (.map (some m1)) := HX4.out.cell 5 _ rfl
   have u6 : w4.cell? ⟨p4, 6, none⟩ = some (.map (some m2)) := HX4.out.cell 6 _ rfl
   obtain ⟨w5, hput, hmp, hkp⟩ := (H4.out.m.below (aG w4)).put fM (by have := HP.out.ok.few; unfold maxLen; omega) ⟨t, ht⟩ (x.tm, t, true, some m1, some m2)
   have HUM := aA hmp
   have HK45 : Hid (aC (fun j => j = b) w4 w5) := aA ((aC.of_below (fun j => j = b) (aG w4)).trans hkp (fun _ _ h => h))
   clear hmp hkp
   go_wp2_with fail
   go_region
   simp only [Exit.then]
   rename_i hK
   refine hK _ _ ?_
   clear hK h04 k04 k14 k24 u0 u1 u2 u3 u4 u5 u6 hput y4 f4 y6 hlen hW4
   have HMA5 := aA (HMA4.out.keep HK45.out (fun e => HFM.out.2.2.2.1 e))
   have HMB5 := aA (HMB4.out.keep HK45.out (fun e => HFM.out.2.2.2.2 e))
   have HFB : Hid (b < p1) := aA (HFP.out b (.inr (.inl rfl)))
   have HX5 := aA (HX4.out.keep HK45.out (fun e => by have h1 := HFB.out; have h2 := HP4L.out; omega))
   have HXO5 := aA (HXO4.out.keep HK45.out (fun e => by have h1 := HFB.out; have h2 := HP12.out; omega))
   have u0 : w5.cell? ⟨p4, 0, none⟩ = some (.int .u32 (x.tm : Int)) := HX5.out.cell 0 _ rfl
   have u1 : w5.cell? ⟨p4, 1, none⟩ = some (.int .u8 (t.1 : Int)) := HX5.out.cell 1 _ rfl
   have u2 : w5.cell? ⟨p4, 2, none⟩ = some (.int .u32 (t.2.1 : Int)) := HX5.out.cell 2 _ rfl
   have u3 : w5.cell? ⟨p4, 3, none⟩ = some (.int .u32 (t.2.2 : Int)) := HX5.out.cell 3 _ rfl
   have u4 : w5.cell? ⟨p4, 4, none⟩ = some (.bool true) := HX5.out.cell 4 _ rfl
   have u5 : w5.cell? ⟨p4, 5, none⟩ = some (.map (some m1)) := HX5.out.cell 5 _ rfl
   have u6 : w5.cell? ⟨p4, 6, none⟩ = some (.map (some m2)) := HX5.out.cell 6 _ rfl
   have HNC : Hid (n ≤ 150) := aA (by have h1 := HNN.out; have h2 := HC.out; omega)
   have CR := aA (lkReads_any x.tm t true m1 m2 n x.h w5 HMA5.out (by have := HNC.out; omega))
   go_wp2_with fail
   refine CR.out.mono ?_
   rintro e w6 ⟨v, ks, rfl, hrow, hmem, hkl, ⟨n2, hn2, hm6⟩, hk6⟩
   have HK46 : Hid (aC (fun j => j = b ∨ j = m1) w4 w6) := aA ((HK45.out.mono (fun j e => .inl e)).trans hk6 (fun j _ e => .inr e))
   have hum : UMap w6 b (gU (bG l t cK) p) l.length := by
    have h1 := HUM.out.keep hk6 (fun e => HFM.out.2.2.2.1 e.symm)
    have h2 : (gU l p ⟨t, ht⟩).isSome = true := by show ((cM l t).map _).isSome = true; rw [HUX.out]; rfl
    rw [if_pos h2] at h1
    refine h1.as (fun s => ?_)
    by_cases e : s = ⟨t, ht⟩
    ·rw [if_pos e, ← gU_prep HP.out.ok HX.out p ht HXX.out s e, ← HM.out]
    ·rw [if_neg e]
     exact gU_prep' HP.out.ok p ht s e
   have hp6 : fJ w6 q b C p (bG l t cK) := by
    have h1 := H4.out.upd (w' := w6) (C' := C) (S := fun j => j = b ∨ j = m1) HX.out (f := cK) (fun u => rfl) (by rw [HXX.out]; exact hum) HK46.out (fun j e => by
      rw [HXX.out, ← HM.out]
      exact e.elim (fun e => .inr (.inr e)) (fun e => .inl e)) (by
      rw [HXX.out, ← HM.out]
      refine ⟨n2, n', hm6, HMB5.out.keep hk6 (fun e => HFM.out.2.2.1 e.symm), ?_⟩
      have := HNN.out
      omega) (Nat.le_refl _) (by rw [HXX.out]; exact prep_b HP.out.ok t)
    rw [HXX.out] at h1
    exact h1
   have HFL6 : Hid (∀ g, eP q b p (bG l t cK) g → eP q b p l g) := aA (fun g hg => eX (by unfold bG; rw [List.map_map]; exact List.map_congr_left (fun u _ => by show (if u.tx = t then cK u else u).tx = u.tx; split <;> rfl)) hg)
   have HW5 : Hid (w3.heap.size ≤ w5.heap.size ∧ p2 < w5.heap.size ∧ w.heap.size ≤ w5.heap.size ∧ w5.heap.size ≤ w6.heap.size) := aA ⟨Nat.le_trans HK34.out.size HK45.out.size, HXO5.out.lt, Nat.le_trans HBB3.out.size (Nat.le_trans HK34.out.size HK45.out.size), hk6.size⟩
   have CO := aA (lkOn_any N HSS.out q b C p (bG l t cK) ks v w5.heap.size w6 hp6 hrow (fun g hg hF => by
    have h1 := (hrow.lt g hg).1
    have h2 := HP.out.flt (HFL6.out g hF)
    have h3 := HW5.out
    omega) (by have := HNC.out; omega) (by have := HC.out; omega) HQN.out)
   have HMEM := aA hmem
   have HVB : Hid (∀ g, v.ownBlock = some g → w5.heap.size ≤ g) := aA (fun g hg => (hrow.lt g hg).1)
   have HXO6 := aA (HXO5.out.keep hk6 (fun e => by have h1 := HFP.out m1 HFM.out.1; have h2 := HP12.out; omega))
   have HKA6 : Hid (aC (fun g => eP q b p l g) w w6) := aA (by
    have a0 : aC (fun g => eP q b p l g) w w4 := (aC.of_below (fun g => eP q b p l g) HBB3.out).trans HK34.out (fun g hg e => by
     have h1 := HP4L.out
     have h2 := HP12.out
     omega)
    exact a0.trans HK46.out (fun g _ e => e.elim (fun e => by rw [e]; exact .inr (.inl rfl)) (fun e => by rw [e]; exact HFM.out.1)))
   clear hrow hmem hkl hn2 hm6 hk6 hum hp6 u0 u1 u2 u3 u4 u5 u6 CR
   go_wp2_with fail
   refine CO.out.mono ?_
   rintro e w7 ⟨vg, ks', rfl, hks, hrg, hp7, hk7⟩
   obtain ⟨ag, cg, rfl, _⟩ := aQ hrg
   have HRG := aA hrg
   have HP7 := aA hp7
   have HKS := aA hks
   have HKA : Hid (aC (fun g => eP q b p l g) w w7) := aA (by
    refine HKA6.out.trans hk7 (fun g hg e => ?_)
    rcases e with e | e
    ·exact HFL6.out g (.inr (.inr e))
    ·have h1 := HVB.out g e
     have h2 := HW5.out
     omega)
   have HXO7 : Hid (bZ w7 p2 zO 45) := aA (HXO6.out.keep hk7 (fun e => by
     have h2 := HP12.out
     have h3 := HW5.out
     rcases e with e | e
     ·have h1 := HFP.out p2 (HFL6.out p2 (.inr (.inr e)))
      omega
     ·have h1 := HVB.out p2 e
      omega))
   have hbu1 := buildOut1 ag (fX (bG l t cK) ks').length cg
   clear hrg hp7 hks hk7
   obtain ⟨gr, hgr⟩ : ∃ gr, gr = fX (bG l t cK) ks' := ⟨_, rfl⟩
   obtain ⟨gn, hgn⟩ : ∃ gn, gn = gr.length := ⟨_, rfl⟩
   rw [← hgr] at HRG hbu1 ⊢
   rw [← hgn] at HRG hbu1 ⊢
   have HGR := aA (And.intro hgr hgn)
   clear hgr hgn
   go_wp2_with (refine aP rfl rfl _ _ rfl p2 rfl (cs' := #[.slice none 0 0, .slice ag gn cg]) rfl HXO7.out rfl bX (by simp [Value.oneCell']) ?_; intro w8 hb8 hk8; have HX8 := aA hb8; have HK8 := aA hk8; clear hb8 hk8)
   refine bodyPost_ret (v := .tuple #[.agg #[.slice none 0 0, .slice ag gn cg], .int .i64 0]) (bB Tryz.results25 _ _ p2 rfl rfl HX8.out Tryz.underlying45 rfl bX) rfl ?_
   have h12 := HP12.out
   refine ⟨_, 0, gr, gA (bG l t cK) ks', rfl, .inr ⟨x, ks', HUX.out, HWW.out, rfl, ⟨HKS.out.1, fun k => (HKS.out.2 k).trans (HMEM.out k)⟩, HGR.out.1, rfl⟩, HP7.out.keep HK8.out (fun g hg e => ?_), HKA.out.trans HK8.out (fun g hg e => by omega), ?_⟩
   ·have := HFP.out g (HFL6.out g (eX (gO ks' (bG l t cK)) hg))
    omega
   ·have h8 := aJ HRG.out HK8.out (fun g hg e => by
     have h1 := (HRG.out.lt g hg).1
     have h2 := HW5.out
     omega)
    rw [← HGR.out.2]
    exact dO h8 (Nat.le_trans HW5.out.2.2.1 HW5.out.2.2.2)
end
section
open Go.RowKit Go.Maps Classical
theorem usL_ins {l : List (aS KeyT)} (hb : dD l) {x : aS KeyT} (hbi : dD (dH l x)) (s : TxN) : cM (dH l x) s = if s = x.tx then some x else cM l s := by
 by_cases e : s = x.tx
 ·rw [if_pos e, e]
  exact (bT hbi).2 ⟨(bU l x x).2 (.inl rfl), rfl⟩
 ·rw [if_neg e]
  cases hu : cM l s with
  | none =>
   rw [eR]
   intro y hy e2
   rcases (bU l x y).1 hy with rfl | hy
   ·exact e e2.symm
   ·exact eR.1 hu y hy e2
  | some u =>
   obtain ⟨h1, h2⟩ := (bT hb).1 hu
   exact (bT hbi).2 ⟨(bU l x u).2 (.inr h1), h2⟩
def pIns (p : TxN → Nat × Nat) (t : TxN) (m1 m2 : Nat) (s : TxN) : Nat × Nat := if s = t then (m1, m2) else p s
theorem gQ (p : TxN → Nat × Nat) (t : TxN) (m1 m2 : Nat) : pIns p t m1 m2 t = (m1, m2) := by unfold pIns; rw [if_pos rfl]
theorem fE (p : TxN → Nat × Nat) {t s : TxN} (m1 m2 : Nat) (h : s ≠ t) : pIns p t m1 m2 s = p s := by unfold pIns; rw [if_neg h]
theorem gU_ins {l : List (aS KeyT)} (hb : dD l) {x : aS KeyT} (hbi : dD (dH l x)) (p : TxN → Nat × Nat) (m1 m2 : Nat) (ht : kJ x.tx) (s : TxT) : (s = ⟨x.tx, ht⟩ → some (x.tm, x.tx, x.pr, some m1, some m2) = gU (dH l x) (pIns p x.tx m1 m2) s) ∧ (s ≠ ⟨x.tx, ht⟩ → gU l p s = gU (dH l x) (pIns p x.tx m1 m2) s) := by
 constructor
 ·rintro rfl
  show _ = (cM (dH l x) x.tx).map _
  rw [usL_ins hb hbi, if_pos rfl, gQ]
  rfl
 ·intro hs
  have e : s.1 ≠ x.tx := fun e => hs (Subtype.ext e)
  show (cM l s.1).map _ = (cM (dH l x) s.1).map _
  rw [usL_ins hb hbi, if_neg e, fE p m1 m2 e]
theorem fJ.ins {w w' : World} {q b C C' : Nat} {p : TxN → Nat × Nat} {l : List (aS KeyT)} {S : Nat → Prop} (h : fJ w q b C p l) {x : aS KeyT} (hn : cM l x.tx = none) (hbi : dD (dH l x)) {m1 m2 : Nat}
  (hum : UMap w' b (gU (dH l x) (pIns p x.tx m1 m2)) (l.length + 1)) (hk : aC S w w') (hS : ∀ j, S j → j = b ∨ ¬ eP q b p l j) (hm : ∃ n n', jD w' m1 x.h n ∧ jD w' m2 x.w n' ∧ n + n' ≤ C') (hC : C ≤ C')
  (h1 : ¬ eP q b p l m1) (h2 : ¬ eP q b p l m2) (h12 : m1 ≠ m2) : fJ w' q b C' (pIns p x.tx m1 m2) (dH l x) := by
 have hne : ∀ u ∈ l, u.tx ≠ x.tx := eR.1 hn
 have hq := h.q_ne
 have hnb : ∀ j, eP q b p l j → j ≠ b → ¬ S j := fun j hj e hs => (hS j hs).elim e (fun h3 => h3 hj)
 refine ⟨h.box.keep hk (hnb _ (.inl rfl) hq.1), by rw [(insU_perm l x).length_eq, List.length_cons]; exact hum, fun u hu => ?_, fun u hu => ?_, fun u hu v hv e => ?_, hbi⟩
 ·rcases (bU l x u).1 hu with rfl | hu
  ·rw [gQ]
   exact hm
  ·rw [fE p m1 m2 (hne u hu)]
   obtain ⟨n, n', a1, a2, a3⟩ := h.maps u hu
   have hp := h.ap u hu
   exact ⟨n, n', a1.keep hk (hnb _ (.inr (.inr ⟨u, hu, .inl rfl⟩)) hp.2.1), a2.keep hk (hnb _ (.inr (.inr ⟨u, hu, .inr rfl⟩)) hp.2.2), Nat.le_trans a3 hC⟩
 ·rcases (bU l x u).1 hu with rfl | hu
  ·rw [gQ]
   exact ⟨h12, fun e => h1 (.inr (.inl e)), fun e => h2 (.inr (.inl e))⟩
  ·rw [fE p m1 m2 (hne u hu)]
   exact h.ap u hu
 ·rcases (bU l x u).1 hu with e1 | hu'
  ·rcases (bU l x v).1 hv with e2 | hv'
   ·exact absurd (by rw [e1, e2]) e
   ·rw [e1, gQ, fE p m1 m2 (hne v hv')]
    exact ⟨fun e => h1 (.inr (.inr ⟨v, hv', .inl e.symm⟩)), fun e => h1 (.inr (.inr ⟨v, hv', .inr e.symm⟩)), fun e => h2 (.inr (.inr ⟨v, hv', .inr e.symm⟩))⟩
  ·rcases (bU l x v).1 hv with e2 | hv'
   ·rw [e2, gQ, fE p m1 m2 (hne u hu')]
    exact ⟨fun e => h1 (.inr (.inr ⟨u, hu', .inl e⟩)), fun e => h2 (.inr (.inr ⟨u, hu', .inl e⟩)), fun e => h2 (.inr (.inr ⟨u, hu', .inr e⟩))⟩
   ·rw [fE p m1 m2 (hne u hu'), fE p m1 m2 (hne v hv')]
    exact h.ap2 u hu' v hv' e
theorem flk_ins {q b : Nat} {p : TxN → Nat × Nat} {l : List (aS KeyT)} {x : aS KeyT} (hn : cM l x.tx = none) {m1 m2 g : Nat} (h : eP q b (pIns p x.tx m1 m2) (dH l x) g) : eP q b p l g ∨ g = m1 ∨ g = m2 := by
 have hne : ∀ u ∈ l, u.tx ≠ x.tx := eR.1 hn
 rcases h with e | e | ⟨u, hu, e⟩
 ·exact .inl (.inl e)
 ·exact .inl (.inr (.inl e))
 ·rcases (bU l x u).1 hu with rfl | hu
  ·rw [gQ] at e
   exact e.elim (fun e => .inr (.inl e.symm)) (fun e => .inr (.inr e.symm))
  ·rw [fE p m1 m2 (hne u hu)] at e
   exact .inl (.inr (.inr ⟨u, hu, e⟩))
end
end Go.Proofs.YtiloagmkkhlfjaaGreat
