/-
  Own texts put together: LkOn, LkRel. Own work.
-/
import Derived.Test.YtddflccjmigloaaGreatG17
import Derived.Test.YtddflccjmigloaaGreatG15
namespace Go.Proofs.YtddflccjmigloaaGreat
section
open Go.RowKit Go.Maps Classical

theorem flk_names {q b : Nat} {p : TxN → Nat × Nat} {l l2 : List (UsP KeyT)} (h : l2.map (·.tx) = l.map (·.tx)) {g : Nat} (hg : FLk q b p l2 g) : FLk q b p l g := by
  rcases hg with e | e | ⟨u, hu, e⟩
  · exact .inl e
  · exact .inr (.inl e)
  · have : u.tx ∈ l2.map (·.tx) := List.mem_map.2 ⟨u, hu, rfl⟩
    rw [h] at this
    obtain ⟨v, hv, e2⟩ := List.mem_map.1 this
    exact .inr (.inr ⟨v, hv, by rw [e2]; exact e⟩)
/-- The users' maps. -/
def MS15 (p : TxN → Nat × Nat) (l : List (UsP KeyT)) (g : Nat) : Prop := ∃ u ∈ l, (p u.tx).1 = g ∨ (p u.tx).2 = g
theorem ms_names {p : TxN → Nat × Nat} {l l2 : List (UsP KeyT)} (h : l2.map (·.tx) = l.map (·.tx)) {u : UsP KeyT} (hu : u ∈ l2) {g : Nat} (hg : g = (p u.tx).1 ∨ g = (p u.tx).2) : MS15 p l g := by
  have : u.tx ∈ l2.map (·.tx) := List.mem_map.2 ⟨u, hu, rfl⟩
  rw [h] at this
  obtain ⟨v, hv, e2⟩ := List.mem_map.1 this
  exact ⟨v, hv, by rw [e2]; exact hg.imp Eq.symm Eq.symm⟩
theorem onQG_len (k : KeyT) : ∀ (q : List TxN) (l : List (UsP KeyT)), (onQG k l q).length ≤ q.length
  | [], _ => Nat.le_refl _
  | t :: q, l => by
    show (stepG l t k ++ onQG k (stepS l t k) q).length ≤ q.length + 1
    have h1 := onQG_len k q (stepS l t k)
    have h2 : (stepG l t k).length ≤ 1 := by unfold stepG; split <;> simp
    rw [List.length_append]
    omega
theorem onAG_len : ∀ (ks : List KeyT) {l : List (UsP KeyT)} (_ : LkB l), (onAG l ks).length ≤ ks.length * 64
  | [], _, _ => Nat.le_refl _
  | k :: ks, l, h => by
    show (onG1 l k ++ onAG (onS1 l k) ks).length ≤ (ks.length + 1) * 64
    have h1 := onAG_len ks (onQ_b k (queU l k) h)
    have h2 := onQG_len k (queU l k) l
    have h3 := que_len h k
    rw [List.length_append]
    have h4 : (onG1 l k).length ≤ 64 := Nat.le_trans h2 h3
    have h5 : (onAG (onS1 l k) ks).length ≤ ks.length * 64 := h1
    omega
set_option maxRecDepth 100000 in
set_option maxHeartbeats 3200000 in
theorem lkOn_any (N : Nat) (HS : SortB N) (q b C : Nat) (p : TxN → Nat × Nat) (l : List (UsP KeyT)) (ts : List KeyT) (v : Value) (base : Nat) (w : World) (h : PLk w q b C p l) (hv : w.ownsRow base 38 8 v ts.length (rowK ts)) (hvb : ∀ g, v.ownBlock = some g → ¬ FLk q b p l g) (hl : ts.length ≤ 10000) (hC : C ≤ 1000000)
    (HQ : ∀ ks k, (queU (onAS l ks) k).length ≤ N) :
    Calls Tryz.prog 48 #[.pointer (some ⟨q, 0, none⟩), v] w fun e w' => ∃ vg ks, e = .returned vg ∧ KsOk kysF ks (fun k => k ∈ ts) ∧ w'.ownsRow w.heap.size 76 12 vg (onAG l ks).length (flat gtE (onAG l ks)) ∧ PLk w' q b C p (onAS l ks) ∧ KeepBut (fun j => MS15 p l j ∨ v.ownBlock = some j) w w' := by
  obtain ⟨av, cv, rfl, hcv⟩ := owns_shapeR hv
  have CS := hide (sortK15 hv (by omega))
  have H := hide h
  have HVW : Hid (∀ g, (Value.slice av ts.length cv).ownBlock = some g → g < w.heap.size) := hide (fun g hg => (hv.lt g hg).2)
  have HVB := hide hvb
  have HL := hide hl
  have HC := hide hC
  have HSS := hide HS
  have HQQ := hide HQ
  obtain ⟨V, hV⟩ : ∃ V, V = Value.slice av ts.length cv := ⟨_, rfl⟩
  obtain ⟨nt, hnt⟩ : ∃ nt, nt = ts.length := ⟨_, rfl⟩
  rw [← hV] at CS HVB HVW ⊢
  have HVE := hide hV
  clear h hv hvb hl hC HS HQ hcv hnt hV
  go_enter Tryz.func48, Tryz.ntmps48
  go_wp2_with fail
  refine CS.out.mono ?_
  rintro e w0 ⟨rfl, ho0, hk0⟩
  have CC := hide (comp15 ho0 (by have := HL.out; omega))
  have HK0 := hide hk0
  clear ho0 hk0 CS
  go_wp2_with fail
  refine CC.out.mono ?_
  rintro e w1 ⟨vd, D, rfl, hD, hsd, hvd, hDl, hk1⟩
  obtain ⟨ad, cd, rfl, _⟩ := hsd.shape
  have HK1 : Hid (KeepBut (fun j => V.ownBlock = some j) w w1) := hide (HK0.out.trans hk1 (fun _ _ h => h))
  have HD := hide hD
  have HSD := hide hsd
  have HVD := hide hvd
  have HDL := hide hDl
  have H1 := hide (H.out.keep HK1.out (fun k hk e => HVB.out k e hk))
  clear hD hsd hvd hDl hk1 CC HK0
  obtain ⟨nd, hnd⟩ : ∃ nd, nd = D.length := ⟨_, rfl⟩
  rw [← hnd] at HSD HVD ⊢
  have HND := hide hnd
  have HNDB : nd ≤ 10000 := by rw [hnd]; exact Nat.le_trans HDL.out HL.out
  have HFL : Hid (∀ g, FLk q b p l g → g < w1.heap.size) := hide (fun g hg => H1.out.flt hg)
  have HVL : Hid (∀ g, V.ownBlock = some g → g < w1.heap.size ∧ ¬ FLk q b p l g) := hide (fun g hg => ⟨Nat.lt_of_lt_of_le (HVW.out g hg) HK1.out.size, HVB.out g hg⟩)
  have HMF : Hid (∀ g, MS15 p l g → FLk q b p l g) := hide (fun g hg => .inr (.inr hg))
  clear hnd
  go_wp2_with fail
  go_loopw [5, 15] (fun o i wr => ∃ (n : Nat) (gs : List (GtP KeyT)) (lc : List (UsP KeyT)) (ao : Option Addr) (co : Nat), o = .slice ao gs.length co ∧ i = .int .i64 (n : Int) ∧ n ≤ nd ∧ Hid (gs = onAG l (D.take n)) ∧ Hid (lc = onAS l (D.take n)) ∧ Hid (PLk wr q b C p lc) ∧ Hid (wr.ownsRow w1.heap.size 76 12 (.slice ao gs.length co) gs.length (flat gtE gs)) ∧ Hid (KeepBut (fun g => MS15 p l g) w1 wr)) (fun _ i _ => ctK nd i)
  case atStart => exact ⟨0, [], l, none, 0, rfl, rfl, Nat.zero_le _, hide rfl, hide rfl, H1, hide (World.ownsRow_nil _ _ _ _), hide (KeepBut.refl _ _)⟩
  case round =>
    obtain ⟨n, gs, lc, ao, co, rfl, rfl, hn, HGS, HLC, HP, HO, HKW⟩ := hrel
    by_cases hlt : n < nd
    case neg =>
      have hz : ¬ (n : Int) < (nd : Int) := by omega
      have HNE : Hid (n = nd) := hide (by omega)
      go_wp2_with fail
      go_ret
      have ht : D.take n = D := by rw [HNE.out, HND.out]; exact List.take_length
      have h1 := HGS.out
      have h2 := HLC.out
      rw [ht] at h1 h2
      have h3 := HO.out
      have h4 := HP.out
      rw [h2] at h4
      have hfin : wr.ownsRow w.heap.size 76 12 (.slice ao gs.length co) (onAG l D).length (flat gtE (onAG l D)) := by rw [← h1]; exact owns_base15 h3 HK1.out.size
      refine ⟨_, rfl, D, HD.out, hfin, h4, (HK1.out.mono (fun j e => .inr e)).trans HKW.out (fun _ _ h => .inl h)⟩
    case pos =>
      have hz : (n : Int) < (nd : Int) := by omega
      have HSW := hide (HSD.out.keep HKW.out (fun g e e2 => (HVL.out g (HVD.out g e)).2 (HMF.out g e2)))
      have hnD : n < D.length := by rw [← HND.out]; exact hlt
      obtain ⟨-, bd, od, rfl, hbd, hcd⟩ := HSW.out.at (K := 8) (fun _ => rfl) hnD
      obtain ⟨k, hk⟩ : ∃ k, k = D[n] := ⟨_, rfl⟩
      rw [← hk] at hcd
      have x0 := hcd 0 _ rfl
      have x1 := hcd 1 _ rfl
      have x2 := hcd 2 _ rfl
      have x3 := hcd 3 _ rfl
      have x4 := hcd 4 _ rfl
      have x5 := hcd 5 _ rfl
      have x6 := hcd 6 _ rfl
      have x7 := hcd 7 _ rfl
      simp only [Nat.add_zero] at x0
      have HKD : Hid (D.take (n + 1) = D.take n ++ [k]) := hide (by rw [hk, List.take_succ_eq_append_getElem hnD])
      have HA3 : Hid (Below wr.heap.size wr (wr.alloc (.cells (eightA k.1) 38))) := hide (alloc_below14 _ _)
      have HXK0 := hide (box_new wr (eightA k.1) 38)
      obtain ⟨w3, hw3⟩ : ∃ w3, w3 = wr.alloc (.cells (eightA k.1) 38) := ⟨_, rfl⟩
      obtain ⟨p7, hp7⟩ : ∃ p7, p7 = wr.heap.size := ⟨_, rfl⟩
      rw [← hw3, ← hp7] at HXK0
      rw [← hw3] at HA3
      have hW3 := hw3.symm
      have hP7 := hp7.symm
      have HP7 : Hid (w1.heap.size ≤ p7 ∧ p7 < w3.heap.size) := hide ⟨by rw [hp7]; exact HKW.out.size, HXK0.out.lt⟩
      have HNO : Hid (∀ g, (Value.slice ao gs.length co).ownBlock = some g → g < p7) := hide (fun g hg => by rw [hp7]; exact (HO.out.lt g hg).2)
      have HQN : Hid ((queU lc k).length ≤ N) := hide (by rw [HLC.out]; exact HQQ.out _ k)
      have CQ := hide (lkQueue_any N HSS.out q b C p lc k w3 (HP.out.below HA3.out) HQN.out)
      obtain ⟨z0, z1, z2, z3, z4, z5, z6, z7⟩ := box_eight14 HXK0.out
      clear hcd hbd hk hw3 hp7
      go_wp2_with fail
      refine CQ.out.mono ?_
      rintro e w4 ⟨vq, rfl, hoq, hbq⟩
      obtain ⟨aq, cq, rfl, _⟩ := owns_shapeR hoq
      obtain ⟨qs, hqs⟩ : ∃ qs, qs = queU lc k := ⟨_, rfl⟩
      rw [← hqs] at hoq ⊢
      have HQS := hide hqs
      have hB34 : Below wr.heap.size wr w4 := HA3.out.trans (hbq.mono HA3.out.size)
      have HOQ := hide hoq
      have HXK := hide (HXK0.out.belowI hbq)
      have HP4 := hide (HP.out.below hB34)
      have HO4 := hide (owns_keep HO.out (KeepBut.of_below (fun _ => False) hB34) (fun _ _ h => h))
      have HKW4 : Hid (KeepBut (fun g => MS15 p l g) w1 w4) := hide (HKW.out.trans (KeepBut.of_below (fun _ => False) hB34) (fun _ _ h => h.elim))
      have HNM : Hid (lc.map (·.tx) = l.map (·.tx)) := hide (by rw [HLC.out]; exact onA_names _ _)
      have HQB : Hid (∀ g, (Value.slice aq qs.length cq).ownBlock = some g → w3.heap.size ≤ g ∧ g < w4.heap.size) := hide (fun g hg => hoq.lt g hg)
      have HNQ : Hid qs.Nodup := hide (by rw [hqs]; exact queU_nd HP.out.ok k)
      have HWT : Hid (Wts lc k qs) := hide (by rw [hqs]; exact wts_que _ _)
      have HQL : qs.length ≤ 64 := by rw [hqs]; exact que_len HP.out.ok k
      have HGL : Hid (gs.length ≤ n * 64) := hide (by
        have h1 := onAG_len (D.take n) H1.out.ok
        rw [HGS.out]
        exact Nat.le_trans h1 (Nat.mul_le_mul_right 64 (List.length_take_le _ _)))
      clear hoq hqs hbq hB34 z0 z1 z2 z3 z4 z5 z6 z7 x0 x1 x2 x3 x4 x5 x6 x7 hW3 hP7 CQ
      obtain ⟨ql, hql⟩ : ∃ ql, ql = qs.length := ⟨_, rfl⟩
      have HQE := hide hql
      rw [← hql] at HOQ HQB HQL ⊢
      clear hql
      go_wp2_with fail
      go_loopw [5, 23] (fun o j wr => ∃ (m : Nat) (g2 : List (GtP KeyT)) (l2 : List (UsP KeyT)) (a2 : Option Addr) (c2 : Nat), o = .slice a2 g2.length c2 ∧ j = .int .i64 (m : Int) ∧ m ≤ ql ∧ Hid (g2 = gs ++ onQG k lc (qs.take m)) ∧ Hid (l2 = onQS k lc (qs.take m)) ∧ Hid (Wts l2 k (qs.drop m)) ∧ Hid (PLk wr q b C p l2) ∧ Hid (wr.ownsRow w1.heap.size 76 12 (.slice a2 g2.length c2) g2.length (flat gtE g2)) ∧ Hid (KeepBut (fun g => MS15 p l g) w1 wr) ∧ Hid (Box wr p7 (eightA k.1) 38) ∧ Hid (wr.ownsRow w3.heap.size 34 3 (.slice aq ql cq) ql (flat txCs (qs.map txI))) ∧ Hid (∀ g, (Value.slice a2 g2.length c2).ownBlock = some g → g ≠ p7 ∧ (Value.slice aq ql cq).ownBlock ≠ some g)) (fun _ j _ => ctK ql j)
      case atStart => exact ⟨0, gs, lc, ao, co, rfl, rfl, Nat.zero_le _, hide (by show gs = gs ++ []; simp), hide rfl, HWT, HP4, HO4, HKW4, HXK, HOQ, hide (fun g hg => by
        have h1 := HNO.out g hg
        have h2 := HP7.out.2
        exact ⟨by omega, fun e => by have := (HQB.out g e).1; omega⟩)⟩
      case round =>
        obtain ⟨m, g2, l2, a2, c2, rfl, rfl, hm, HG2, HL2, HW2, HP2, HO2, HK2, HX2, HQ2, HN2⟩ := hrel
        by_cases hlt2 : m < ql
        case neg =>
          have hz2 : ¬ (m : Int) < (ql : Int) := by omega
          have HME : Hid (qs.take m = qs) := hide (by rw [show m = qs.length from by rw [← HQE.out]; omega]; exact List.take_length)
          go_wp2_with fail
          go_roundw
          case rel =>
            have hg3 : Hid (g2 = onAG l (D.take (n + 1))) := hide (by rw [HG2.out, HME.out, HKD.out, onAG_app, ← HGS.out, ← HLC.out, HQS.out]; rfl)
            have hl3 : Hid (l2 = onAS l (D.take (n + 1))) := hide (by rw [HL2.out, HME.out, HKD.out, onAS_app, ← HLC.out, HQS.out]; rfl)
            exact ⟨n + 1, g2, l2, a2, c2, rfl, by first | rfl | go_num, by omega, hg3, hl3, HP2, HO2, HK2⟩
          case measure =>
            rw [show (n : Int) + 1 = ((n + 1 : Nat) : Int) from by omega, ctK_at, ctK_at]
            omega
        case pos =>
          have hz2 : (m : Int) < (ql : Int) := by omega
          have htq : m < qs.length := by rw [← HQE.out]; exact hlt2
          obtain ⟨t, ht⟩ : ∃ t, t = qs[m] := ⟨_, rfl⟩
          have HDR : Hid (qs.drop m = t :: qs.drop (m + 1)) := hide (by rw [ht]; exact List.drop_eq_getElem_cons htq)
          have HTK : Hid (qs.take (m + 1) = qs.take m ++ [t]) := hide (by rw [ht, List.take_succ_eq_append_getElem htq])
          obtain ⟨x, hx, hxt, hxw⟩ := HW2.out t (by rw [HDR.out]; exact List.mem_cons_self)
          have HW3 : Hid (Wts (stepS l2 t k) k (qs.drop (m + 1))) := hide (wts_step HP2.out.ok (by rw [← HDR.out]; exact HW2.out) (by rw [← HDR.out]; exact HNQ.out.sublist (List.drop_sublist _ _)))
          have HG3 : Hid (gs ++ onQG k lc (qs.take (m + 1)) = g2 ++ stepG l2 t k) := hide (by rw [HTK.out, onQG_app, ← List.append_assoc, ← HG2.out, ← HL2.out])
          have HL3 : Hid (onQS k lc (qs.take (m + 1)) = stepS l2 t k) := hide (by rw [HTK.out, onQS_app, ← HL2.out])
          have HNO4 := hide (fun hf : NF l2 x k => step_no HP2.out.ok hx hxt hf)
          have HYES := hide (fun hf : ¬ NF l2 x k => step_yes HP2.out.ok hx hxt hf)
          have HNM2 : Hid (l2.map (·.tx) = l.map (·.tx)) := hide (by rw [HL2.out]; exact (onQ_names k _ lc).trans HNM.out)
          have HMX : Hid (∀ j, j = (p t).1 ∨ j = (p t).2 → MS15 p l j) := hide (fun j e => ms_names HNM2.out hx (by rw [hxt]; exact e))
          have hsq : RSrc txCs wr (.slice aq ql cq) (qs.map txI) := by
            have h1 : wr.ownsRow w3.heap.size 34 3 (.slice aq ql cq) (qs.map txI).length (flat txCs (qs.map txI)) := by rw [List.length_map, ← HQE.out]; exact HQ2.out
            exact RSrc.of_own h1
          obtain ⟨-, bq, oq, haq, hbq, hcq⟩ := hsq.at (K := 3) (fun _ => rfl) (i := m) (by rw [List.length_map]; exact htq)
          subst haq
          have e1 : (qs.map txI)[m]'(by rw [List.length_map]; exact htq) = txI t := by rw [List.getElem_map, ht]
          rw [e1] at hcq
          have y0 : wr.cell? ⟨bq, oq + m * 3, none⟩ = some (.int .u8 (t.1 : Int)) := hcq 0 _ rfl
          have y1 : wr.cell? ⟨bq, oq + m * 3 + 1, none⟩ = some (.int .u32 (t.2.1 : Int)) := hcq 1 _ rfl
          have y2 : wr.cell? ⟨bq, oq + m * 3 + 2, none⟩ = some (.int .u32 (t.2.2 : Int)) := hcq 2 _ rfl
          obtain ⟨M, hM⟩ : ∃ M, M = max (x.h k) (x.w k) := ⟨_, rfl⟩
          rw [← hM] at HYES
          have HXW := hide hxw
          have HX := hide hx
          have HXT := hide hxt
          have HA5 := hide (alloc_below14 wr (.cells #[.int .u8 (t.1 : Int), .int .u32 (t.2.1 : Int), .int .u32 (t.2.2 : Int)] 34))
          have HXB := hide (box_new wr #[.int .u8 (t.1 : Int), .int .u32 (t.2.1 : Int), .int .u32 (t.2.2 : Int)] 34)
          obtain ⟨w5, hw5⟩ : ∃ w5, w5 = wr.alloc (.cells #[.int .u8 (t.1 : Int), .int .u32 (t.2.1 : Int), .int .u32 (t.2.2 : Int)] 34) := ⟨_, rfl⟩
          obtain ⟨p9, hp9⟩ : ∃ p9, p9 = wr.heap.size := ⟨_, rfl⟩
          rw [← hw5] at HA5
          rw [← hw5, ← hp9] at HXB
          have hW5 := hw5.symm
          have hP9 := hp9.symm
          have HP9 : Hid (p9 < w5.heap.size ∧ w1.heap.size ≤ p9) := hide ⟨HXB.out.lt, by rw [hp9]; exact HK2.out.size⟩
          obtain ⟨R, hRd⟩ : ∃ R, R = decide (¬ NF l2 x k) := ⟨_, rfl⟩
          have CF := hide (lkFree_any q b C p l2 x hx k w5 (HP2.out.below HA5.out))
          rw [← hRd] at CF
          have HRD : Hid ((NF l2 x k → R = false) ∧ (¬ NF l2 x k → R = true)) := hide ⟨fun h => by rw [hRd]; exact decide_eq_false (fun h2 => h2 h), fun h => by rw [hRd]; exact decide_eq_true h⟩
          have CG := hide (fun W (hP : PLk W q b C p l2) => lkGrant_any q b C p l2 x hx k W hP hxw HC.out)
          rw [hxt] at CF CG
          rw [← hM] at CG
          obtain ⟨y0b, y1b, y2b⟩ := HXB.out.three
          obtain ⟨z0, z1, z2, z3, z4, z5, z6, z7⟩ := box_eight14 (HX2.out.belowI HA5.out)
          clear hRd hx hxt hxw hsq hbq hcq e1 hw5 hp9 ht hM
          obtain ⟨ta, tb, tc⟩ := t
          dsimp only at *
          go_wp2_with fail
          refine CF.out.mono ?_
          rintro e w6 ⟨rfl, hb6⟩
          by_cases hf : NF l2 x k
          case pos =>
            have hst := HNO4.out hf
            have HG4 : Hid (g2 = gs ++ onQG k lc (qs.take (m + 1))) := hide (by rw [HG3.out, hst.2, List.append_nil])
            have HL4 : Hid (l2 = onQS k lc (qs.take (m + 1))) := hide (by rw [HL3.out, hst.1])
            have HW4 : Hid (Wts l2 k (qs.drop (m + 1))) := hide (by have := HW3.out; rw [hst.1] at this; exact this)
            have HB6 := hide (HA5.out.trans (hb6.mono HA5.out.size))
            have HP6 := hide (HP2.out.below HB6.out)
            have HO6 := hide (owns_keep HO2.out (KeepBut.of_below (fun _ => False) HB6.out) (fun _ _ h => h))
            have HQ6 := hide (owns_keep HQ2.out (KeepBut.of_below (fun _ => False) HB6.out) (fun _ _ h => h))
            have HX6 := hide (HX2.out.belowI HB6.out)
            have HK6 : Hid (KeepBut (fun g => MS15 p l g) w1 w6) := hide (HK2.out.trans (KeepBut.of_below (fun _ => False) HB6.out) (fun _ _ h => h.elim))
            have hR := HRD.out.1 hf
            subst hR
            clear hst hf hb6
            go_wp2_with fail
            go_roundw
            case rel => exact ⟨m + 1, g2, l2, a2, c2, rfl, by first | rfl | go_num, by omega, HG4, HL4, HW4, HP6, HO6, HK6, HX6, HQ6, HN2⟩
            case measure =>
              rw [show (m : Int) + 1 = ((m + 1 : Nat) : Int) from by omega, ctK_at, ctK_at]
              omega
          case neg =>
            have hst := HYES.out hf
            have hR := HRD.out.2 hf
            subst hR
            have HG4 : Hid (g2 ++ [⟨(ta, tb, tc), k, M⟩] = gs ++ onQG k lc (qs.take (m + 1))) := hide (by rw [HG3.out, hst.2])
            have HL4 : Hid (updU l2 (ta, tb, tc) (grU k) = onQS k lc (qs.take (m + 1))) := hide (by rw [HL3.out, hst.1])
            have HW4 : Hid (Wts (updU l2 (ta, tb, tc) (grU k)) k (qs.drop (m + 1))) := hide (by have := HW3.out; rw [hst.1] at this; exact this)
            have HB6 := hide (HA5.out.trans (hb6.mono HA5.out.size))
            have HP6 := hide (HP2.out.below HB6.out)
            have HO6 := hide (owns_keep HO2.out (KeepBut.of_below (fun _ => False) HB6.out) (fun _ _ h => h))
            have HQ6 := hide (owns_keep HQ2.out (KeepBut.of_below (fun _ => False) HB6.out) (fun _ _ h => h))
            have HX6 := hide (HX2.out.belowI HB6.out)
            have HK6 : Hid (KeepBut (fun g => MS15 p l g) w1 w6) := hide (HK2.out.trans (KeepBut.of_below (fun _ => False) HB6.out) (fun _ _ h => h.elim))
            obtain ⟨y0c, y1c, y2c⟩ := (HXB.out.belowI hb6).three
            obtain ⟨v0, v1, v2, v3, v4, v5, v6, v7⟩ := box_eight14 HX6.out
            have HW16 : Hid (w1.heap.size ≤ w6.heap.size) := hide HK6.out.size
            clear hst hf hb6 z0 z1 z2 z3 z4 z5 z6 z7 y0 y1 y2 y0b y1b y2b hW5 hP9 CF
            go_wp2_with fail
            refine (CG.out w6 HP6.out).mono ?_
            rintro e w7 ⟨rfl, hp7', hk7⟩
            have HP8 := hide hp7'
            have hnu : l2.map (·.tx) = (updU l2 (ta, tb, tc) (grU k)).map (·.tx) := by
              unfold updU
              rw [List.map_map]
              exact List.map_congr_left (fun u _ => by show u.tx = (if u.tx = (ta, tb, tc) then grU k u else u).tx; split <;> rfl)
            have HK67 : Hid (KeepBut (fun g => MS15 p l g) w6 w7) := hide (hk7.mono (fun j e => HMX.out j e))
            have HNM7 : Hid (∀ g, w1.heap.size ≤ g → ¬ MS15 p l g) := hide (fun g hg hm => by
              have := HFL.out g (HMF.out g hm)
              omega)
            have HO7 := hide (owns_keep HO6.out HK67.out (fun g e => HNM7.out g (HO6.out.lt g e).1))
            have HQ7 := hide (owns_keep HQ6.out HK67.out (fun g e => HNM7.out g (by have h1 := (HQB.out g e).1; have h2 := HP7.out; omega)))
            have HX7 := hide (HX6.out.keep HK67.out (HNM7.out p7 HP7.out.1))
            have HK7 : Hid (KeepBut (fun g => MS15 p l g) w1 w7) := hide (HK6.out.trans HK67.out (fun _ _ h => h))
            have HA8 : Hid (Below w7.heap.size w7 (w7.alloc (.cells (gtA ⟨(ta, tb, tc), k, M⟩) 76))) := hide (alloc_below14 _ _)
            have HSRC : Hid (RSrc gtE (w7.alloc (.cells (gtA ⟨(ta, tb, tc), k, M⟩) 76)) (.slice (some ⟨w7.heap.size, 0, none⟩) 1 1) [⟨(ta, tb, tc), k, M⟩]) := hide (src_new (enc := gtE) w7 ⟨(ta, tb, tc), k, M⟩ (gtA ⟨(ta, tb, tc), k, M⟩) rfl 76)
            have HO8 := hide (owns_keep HO7.out (KeepBut.of_below (fun _ => False) HA8.out) (fun _ _ h => h))
            have HQ8 := hide (owns_keep HQ7.out (KeepBut.of_below (fun _ => False) HA8.out) (fun _ _ h => h))
            have HX8 := hide (HX7.out.belowI HA8.out)
            have HPP8 := hide (HP8.out.below HA8.out)
            have HK8 : Hid (KeepBut (fun g => MS15 p l g) w1 (w7.alloc (.cells (gtA ⟨(ta, tb, tc), k, M⟩) 76))) := hide (HK7.out.alloc _)
            have HSL : Hid (g2.length + 1 ≤ 1000000) := hide (by
              have h1 := onQG_len k (qs.take m) lc
              have h2 := List.length_take_le m qs
              have h3 := HGL.out
              rw [HG2.out, List.length_append]
              omega)
            have HBS : Hid (w1.heap.size ≤ (w7.alloc (.cells (gtA ⟨(ta, tb, tc), k, M⟩) 76)).heap.size) := hide HK8.out.size
            have HGN : Hid ((g2 ++ [(⟨(ta, tb, tc), k, M⟩ : GtP KeyT)]).length = g2.length + 1) := hide (by rw [List.length_append]; rfl)
            have HQL8 : Hid (∀ g, (Value.slice (some ⟨bq, oq, none⟩) ql cq).ownBlock = some g → g < w7.heap.size) := hide (fun g hg => (HQ7.out.lt g hg).2)
            have HX7L := hide HX7.out.lt
            have HNM9 : Hid (∀ g, FLk q b p (updU l2 (ta, tb, tc) (grU k)) g → ¬ (Value.slice a2 g2.length c2).ownBlock = some g) := hide (fun g hF e => by
              have h1 := HFL.out g (flk_names HNM2.out (flk_names (l := l2) (by rw [← hnu]) hF))
              have h2 := (HO2.out.lt g e).1
              omega)
            clear hnu hp7' hk7 v0 v1 v2 v3 v4 v5 v6 v7 y0c y1c y2c
            go_wp2_with (at_builtin; refine wp_recs recGt15 _ rfl _ _ rfl w1.heap.size (.slice a2 g2.length c2) (.slice (some ⟨w7.heap.size, 0, none⟩) 1 1) g2 [⟨(ta, tb, tc), k, M⟩] rfl HO8.out rfl HSRC.out ?_ HSL.out HBS.out ?_)
            · exact (fun z hz => by simp at hz; subst hz; exact gt_one15 _)
            intro v9 w9 ho9 hg9 hv9
            obtain ⟨a9, c9, hv9e, _⟩ := owns_shapeR ho9
            subst hv9e
            have hk9 := kept15 hg9
            have HP9' := hide (HPP8.out.keep hk9 (fun g hF e => HNM9.out g hF e))
            have HO9 := hide ho9
            have HQ9 := hide (owns_keep HQ8.out hk9 (fun g e e2 => (HN2.out g e2).2 e))
            have HX9 := hide (HX8.out.keep hk9 (fun e2 => (HN2.out p7 e2).1 rfl))
            have HK9 : Hid (KeepBut (fun g => MS15 p l g) w1 w9) := hide (HK8.out.trans hk9 (fun g hg e => by
              have := (HO8.out.lt g e).1
              omega))
            have HN9 : Hid (∀ g, (Value.slice a9 (g2.length + 1) c9).ownBlock = some g → g ≠ p7 ∧ (Value.slice (some ⟨bq, oq, none⟩) ql cq).ownBlock ≠ some g) := hide (fun g hg => by
              rcases hv9 with e | e
              · exact HN2.out g (e.symm.trans hg)
              · rw [e] at hg
                cases hg
                refine ⟨fun e2 => ?_, fun e2 => ?_⟩
                · have h1 := HX7L.out
                  have h2 : (w7.alloc (.cells (gtA ⟨(ta, tb, tc), k, M⟩) 76)).heap.size = w7.heap.size + 1 := by simp
                  omega
                · have h1 := HQL8.out _ e2
                  have h2 : (w7.alloc (.cells (gtA ⟨(ta, tb, tc), k, M⟩) 76)).heap.size = w7.heap.size + 1 := by simp
                  omega)
            clear ho9 hg9 hv9 hk9
            go_wp2_with fail
            go_roundw
            case rel => exact ⟨m + 1, g2 ++ [⟨(ta, tb, tc), k, M⟩], _, a9, c9, by rw [HGN.out], by first | rfl | go_num, by omega, HG4, HL4, HW4, HP9', by rw [HGN.out]; exact HO9, HK9, HX9, HQ9, by rw [HGN.out]; exact HN9⟩
            case measure =>
              rw [show (m : Int) + 1 = ((m + 1 : Nat) : Int) from by omega, ctK_at, ctK_at]
              omega
end
section
open Go.RowKit Go.Maps Classical

theorem infoOut15 : (Tryz.prog.info? 45).map (·.size) = some 2 := by kernel_rfl
abbrev zO : Array Value := #[.slice none 0 0, .slice none 0 0]
theorem buildOut0 (w : World) : (Instr.build 45 #[]).run Tryz.prog w = .ok (.agg zO) w := by kernel_rfl
theorem buildOut1 (a : Option Addr) (n c : Nat) (w : World) : (Instr.build 45 #[(1, .slice a n c)]).run Tryz.prog w = .ok (.agg #[.slice none 0 0, .slice a n c]) w := by kernel_rfl
theorem buildOut2 (a a' : Option Addr) (n c n' c' : Nat) (w : World) : (Instr.build 45 #[(0, .slice a n c), (1, .slice a' n' c')]).run Tryz.prog w = .ok (.agg #[.slice a n c, .slice a' n' c']) w := by kernel_rfl
theorem flk_sub {q b : Nat} {p : TxN → Nat × Nat} {l l2 : List (UsP KeyT)} (h : ∀ u ∈ l2, u ∈ l) {g : Nat} (hg : FLk q b p l2 g) : FLk q b p l g := by
  rcases hg with e | e | ⟨u, hu, e⟩
  · exact .inl e
  · exact .inr (.inl e)
  · exact .inr (.inr ⟨u, h u hu, e⟩)
/-- The queues are no longer than this, whatever is gone on with. -/
def QN (N : Nat) (l : List (UsP KeyT)) : Prop := ∀ ks k, (queU (onAS l ks) k).length ≤ N
theorem qn64 {l : List (UsP KeyT)} (h : LkB l) : QN 64 l := fun ks k => que_len (onA_b ks h) k
attribute [local go_sem ↓] stU_hide
set_option maxRecDepth 100000 in
set_option maxHeartbeats 3200000 in
theorem lkRelease_any (N : Nat) (HS : SortB N) (q b C : Nat) (p : TxN → Nat × Nat) (l : List (UsP KeyT)) (t : TxN) (w : World) (h : PLk w q b C p l) (ht : TxB t) (hC : C ≤ 150) (HQ : QN N (dropU l t)) :
    Calls Tryz.prog 27 #[.pointer (some ⟨q, 0, none⟩), txVN t] w fun e w' => ∃ vg er gr l', e = .returned (.tuple #[.agg #[.slice none 0 0, vg], .int .i64 er]) ∧ RelR kysF l t er l' gr ∧ PLk w' q b C p l' ∧ KeepBut (fun g => FLk q b p l g) w w' ∧ w'.ownsRow w.heap.size 76 12 vg gr.length (flat gtE gr) := by
  have hA := alloc_below14 w (.cells #[.int .u8 (t.1 : Int), .int .u32 (t.2.1 : Int), .int .u32 (t.2.2 : Int)] 34)
  have hA2 := alloc_below14 (w.alloc (.cells #[.int .u8 (t.1 : Int), .int .u32 (t.2.1 : Int), .int .u32 (t.2.2 : Int)] 34)) (.cells zO 45)
  have HXT := hide ((box_new w #[.int .u8 (t.1 : Int), .int .u32 (t.2.1 : Int), .int .u32 (t.2.2 : Int)] 34).belowI hA2)
  have HXO : Hid (Box ((w.alloc (.cells #[.int .u8 (t.1 : Int), .int .u32 (t.2.1 : Int), .int .u32 (t.2.2 : Int)] 34)).alloc (.cells zO 45)) (w.heap.size + 1) zO 45) := hide (by have := box_new (w.alloc (.cells #[.int .u8 (t.1 : Int), .int .u32 (t.2.1 : Int), .int .u32 (t.2.2 : Int)] 34)) zO 45; simpa using this)
  have hB2 := hA.trans (hA2.mono hA.size)
  obtain ⟨w1, hw1⟩ : ∃ w1, w1 = (w.alloc (.cells #[.int .u8 (t.1 : Int), .int .u32 (t.2.1 : Int), .int .u32 (t.2.2 : Int)] 34)).alloc (.cells zO 45) := ⟨_, rfl⟩
  obtain ⟨p1, hp1⟩ : ∃ p1, p1 = w.heap.size := ⟨_, rfl⟩
  obtain ⟨p2, hp2⟩ : ∃ p2, p2 = p1 + 1 := ⟨_, rfl⟩
  rw [← hw1, ← hp1] at HXT
  rw [← hw1, ← hp1, ← hp2] at HXO
  rw [← hw1] at hB2
  have hW1 := hw1.symm
  have hP1 := hp1.symm
  have hP2 := hp2.symm
  have HP := hide h
  have H1 := hide (h.below hB2)
  have HB := hide hB2
  have CM := hide (made15 q b w1 H1.out.box)
  have HP12 : Hid (w.heap.size = p1 ∧ p2 = p1 + 1 ∧ p2 < w1.heap.size) := hide ⟨hp1.symm, hp2, HXO.out.lt⟩
  have hA4 := alloc_below14 w1 (.cells zU 83)
  have hXU := box_new w1 zU 83
  obtain ⟨w2, hw2⟩ : ∃ w2, w2 = w1.alloc (.cells zU 83) := ⟨_, rfl⟩
  obtain ⟨p4, hp4⟩ : ∃ p4, p4 = w1.heap.size := ⟨_, rfl⟩
  rw [← hw2] at hA4 hXU
  rw [← hp4] at hXU
  have hW2 := hw2.symm
  have hP4 := hp4.symm
  have H2 := hide (H1.out.below hA4)
  have h0 : w2.cell? ⟨q, 0, none⟩ = some (.map (some b)) := H2.out.box.cell 0 _ rfl
  obtain ⟨k0, k1, k2⟩ := (HXT.out.belowI hA4).three
  have L1 := (H2.out.m.below (below_drew14 w2)).look umTy ⟨t, ht⟩
  have h01 : w1.cell? ⟨q, 0, none⟩ = some (.map (some b)) := H1.out.box.cell 0 _ rfl
  obtain ⟨k01, k11, k21⟩ := HXT.out.three
  have L11 := (H1.out.m.below (below_drew14 w1)).look umTy ⟨t, ht⟩
  obtain ⟨E, hE⟩ : ∃ E : E15, E = (gU l p ⟨t, ht⟩).getD zE := ⟨_, rfl⟩
  obtain ⟨I, hI⟩ : ∃ I : Bool, I = (gU l p ⟨t, ht⟩).isSome := ⟨_, rfl⟩
  rw [← hE, ← hI] at L1 L11
  have hII : I = (usL l t).isSome := by rw [hI]; show ((usL l t).map _).isSome = _; rw [Option.isSome_map]
  obtain ⟨w3, hst, hx3, hk3⟩ := run_stU (hXU.belowI (below_drew14 w2)) rfl E
  have HB3 : Hid (Below w1.heap.size w1 w3) := hide ((hA4.trans ((below_drew14 w2).mono hA4.size)).trans (hk3.below hA4.size (fun j e => by rw [e, hp4]; exact Nat.le_refl _)))
  have HII := hide hII
  have HQN := hide HQ
  have HC := hide hC
  have HTB := hide ht
  have HSS := hide HS
  have hbu0 := buildOut0
  clear hw2 hp4 hA4 hXU hx3 hk3 hE hI hII h hA hA2 hB2 hw1 hp1 hp2 HQ hC HS
  go_enter Tryz.func27, Tryz.ntmps27
  go_wp2_with fail
  refine CM.out.mono ?_
  rintro e w0 ⟨rfl, hw0⟩
  rw [hw0]
  clear hw0 CM
  go_wp2_with fail
  go_region
  clear h0 k0 k1 k2 h01 k01 k11 k21 L1 L11 hst hW1 hW2 hP1 hP2 hP4
  have HXT3 := hide (HXT.out.belowI HB3.out)
  have HXO3 := hide (HXO.out.belowI HB3.out)
  have H3 := hide (H1.out.below HB3.out)
  have HBB3 : Hid (Below w.heap.size w w3) := hide (HB.out.trans (HB3.out.mono HB.out.size))
  cases hc : I with
  | false =>
    have HN : Hid (usL l t = none) := hide (by have := HII.out; rw [hc] at this; cases hu : usL l t with | none => rfl | some x => rw [hu] at this; cases this)
    subst hc
    go_wp2_with (refine wp_store_box rfl rfl _ _ rfl p2 rfl (cs' := zO) rfl HXO3.out rfl infoOut15 (by simp [Value.oneCell']) ?_; intro w5 hb5 hk5; have HX5 := hide hb5; have HK5 := hide hk5; clear hb5 hk5)
    refine bodyPost_ret (v := .tuple #[.agg zO, .int .i64 6]) (results_box2s Tryz.results27 _ _ p2 rfl rfl HX5.out Tryz.underlying45 rfl infoOut15) rfl ?_
    have hne : ∀ g, FLk q b p l g → g < p1 := fun g hg => by rw [← HP12.out.1]; exact HP.out.flt hg
    have h12 := HP12.out
    exact ⟨.slice none 0 0, 6, [], l, rfl, .inl ⟨rfl, rfl, HN.out, rfl⟩, H3.out.keep HK5.out (fun g hg e => by have := hne g hg; omega), (KeepBut.of_below _ HBB3.out).trans HK5.out (fun g hg e => by omega), World.ownsRow_nil _ _ _ _⟩
  | true =>
    have HN : Hid (∃ x, usL l t = some x) := hide (by have := HII.out; rw [hc] at this; cases hu : usL l t with | none => rw [hu] at this; cases this | some x => exact ⟨x, rfl⟩)
    subst hc
    obtain ⟨x, hux⟩ := HN.out
    obtain ⟨hx, hxt⟩ := (usL_some HP.out.ok).1 hux
    have HUX := hide hux
    have CD := hide (lkDrop_any q b C p l x hx w3 H3.out (by have := HC.out; omega))
    rw [hxt] at CD
    obtain ⟨k03, k13, k23⟩ := HXT3.out.three
    clear hux hx hxt HN
    simp only [Exit.then]
    rename_i hK
    refine hK _ _ ?_
    clear hK
    go_wp2_with fail
    refine CD.out.mono ?_
    rintro e w6 ⟨v, ks, rfl, hrow, hmem, hkl, hp6, hk6⟩
    have HFL6 : Hid (∀ g, FLk q b p (dropU l t) g → g < w3.heap.size) := hide (fun g hg => H3.out.flt (flk_sub (fun u hu => (List.mem_filter.1 hu).1) hg))
    have CO := hide (lkOn_any N HSS.out q b C p (dropU l t) ks v w3.heap.size w6 hp6 hrow (fun g hg hF => by
      have h1 := (hrow.lt g hg).1
      have h2 := HFL6.out g hF
      omega) (by have := HC.out; omega) (by have := HC.out; omega) HQN.out)
    have HMEM := hide hmem
    have HK6 := hide hk6
    have HVB : Hid (∀ g, v.ownBlock = some g → w3.heap.size ≤ g) := hide (fun g hg => (hrow.lt g hg).1)
    clear hrow hmem hkl hp6 hk6 k03 k13 k23 CD
    go_wp2_with fail
    refine CO.out.mono ?_
    rintro e w7 ⟨vg, ks', rfl, hks, hrg, hp7, hk7⟩
    obtain ⟨ag, cg, rfl, _⟩ := owns_shapeR hrg
    have HRG := hide hrg
    have HP7 := hide hp7
    have HKS := hide hks
    have HKA : Hid (KeepBut (fun g => FLk q b p l g) w w7) := hide (by
      have a1 := (KeepBut.of_below (fun g => FLk q b p l g) HBB3.out).trans HK6.out (fun g _ e => by rw [e]; exact .inr (.inl rfl))
      refine a1.trans hk7 (fun g hg e => ?_)
      rcases e with ⟨u, hu, e⟩ | e
      · exact .inr (.inr ⟨u, (List.mem_filter.1 hu).1, e⟩)
      · have h1 := HVB.out g e
        have h2 := HBB3.out.size
        omega)
    have HXO7 : Hid (Box w7 p2 zO 45) := hide ((HXO3.out.keep HK6.out (fun e => by
        have h1 := HP.out.flt (k := b) (.inr (.inl rfl))
        have h2 := HP12.out
        omega)).keep hk7 (fun e => by
        have h2 := HP12.out
        have h3 := HB3.out.size
        rcases e with ⟨u, hu, e⟩ | e
        · have h1 := HP.out.flt (k := p2) (.inr (.inr ⟨u, (List.mem_filter.1 hu).1, e⟩))
          omega
        · have h1 := HVB.out p2 e
          omega))
    have HW67 : Hid (w.heap.size ≤ w6.heap.size ∧ p2 < w6.heap.size) := hide ⟨Nat.le_trans HBB3.out.size HK6.out.size, Nat.lt_of_lt_of_le (Nat.lt_of_lt_of_le HP12.out.2.2 HB3.out.size) HK6.out.size⟩
    have hbu1 := buildOut1 ag (onAG (dropU l t) ks').length cg
    clear hrg hp7 hks hk7
    obtain ⟨gr, hgr⟩ : ∃ gr, gr = onAG (dropU l t) ks' := ⟨_, rfl⟩
    obtain ⟨gn, hgn⟩ : ∃ gn, gn = gr.length := ⟨_, rfl⟩
    rw [← hgr] at HRG hbu1 ⊢
    rw [← hgn] at HRG hbu1 ⊢
    have HGR := hide (And.intro hgr hgn)
    clear hgr hgn
    go_wp2_with (refine wp_store_box rfl rfl _ _ rfl p2 rfl (cs' := #[.slice none 0 0, .slice ag gn cg]) rfl HXO7.out rfl infoOut15 (by simp [Value.oneCell']) ?_; intro w8 hb8 hk8; have HX8 := hide hb8; have HK8 := hide hk8; clear hb8 hk8)
    refine bodyPost_ret (v := .tuple #[.agg #[.slice none 0 0, .slice ag gn cg], .int .i64 0]) (results_box2s Tryz.results27 _ _ p2 rfl rfl HX8.out Tryz.underlying45 rfl infoOut15) rfl ?_
    have hne : ∀ g, FLk q b p l g → g < p1 := fun g hg => by rw [← HP12.out.1]; exact HP.out.flt hg
    have h12 := HP12.out
    refine ⟨_, 0, gr, onAS (dropU l t) ks', rfl, .inr ⟨x, ks', HUX.out, rfl, ⟨HKS.out.1, fun k => (HKS.out.2 k).trans (HMEM.out k)⟩, HGR.out.1, rfl⟩, HP7.out.keep HK8.out (fun g hg e => ?_), HKA.out.trans HK8.out (fun g hg e => by omega), ?_⟩
    · have := hne g (flk_sub (fun u hu => (List.mem_filter.1 hu).1) (flk_names (onA_names ks' (dropU l t)) hg))
      omega
    · have h8 := owns_keep HRG.out HK8.out (fun g hg e => by
        have h1 := (HRG.out.lt g hg).1
        have h2 := HW67.out
        omega)
      rw [← HGR.out.2]
      exact owns_base15 h8 HW67.out.1
end
end Go.Proofs.YtddflccjmigloaaGreat
