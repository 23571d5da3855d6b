/-
  Own texts put together: LkPrep, LkIns. Own work.
-/
import Derived.Test.YtddflccjmigloaaGreatG18
namespace Go.Proofs.YtddflccjmigloaaGreat
section
open Go.RowKit Go.Maps Classical

theorem gU_prep {l : List (UsP KeyT)} (hb : LkB l) {x : UsP KeyT} (hx : x ∈ l) (p : TxN → Nat × Nat) {t : TxN} (ht : TxB t) (hxt : x.tx = t) (s : TxT) (hs : s = ⟨t, ht⟩) : some (x.tm, t, true, some (p t).1, some (p t).2) = gU (updU l t prepU) p s := by
  subst hs hxt
  show _ = (usL (updU l x.tx prepU) x.tx).map _
  rw [usL_upd x.tx (f := prepU) (fun u => rfl), (usL_some hb).2 ⟨hx, rfl⟩]
  show _ = some ((if x.tx = x.tx then prepU x else x).tm, (if x.tx = x.tx then prepU x else x).tx, (if x.tx = x.tx then prepU x else x).pr, some _, some _)
  rw [if_pos rfl]
  rfl
theorem gU_prep' {l : List (UsP KeyT)} (hb : LkB l) (p : TxN → Nat × Nat) {t : TxN} (ht : TxB t) (s : TxT) (hs : s ≠ ⟨t, ht⟩) : gU l p s = gU (updU l t prepU) p s := by
  show (usL l s.1).map _ = (usL (updU l t prepU) s.1).map _
  rw [usL_upd t (f := prepU) (fun u => rfl), Option.map_map]
  cases hu : usL l s.1 with
  | none => rfl
  | some u =>
    have e1 := ((usL_some hb).1 hu).2
    have e2 : u.tx ≠ t := fun e3 => hs (Subtype.ext (by rw [← e1]; exact e3))
    show some (u.tm, u.tx, u.pr, some _, some _) = some ((if u.tx = t then prepU u else u).tm, (if u.tx = t then prepU u else u).tx, (if u.tx = t then prepU u else u).pr, some _, some _)
    rw [if_neg e2]
theorem prep_b {l : List (UsP KeyT)} (h : LkB l) (t : TxN) : LkB (updU l t prepU) := updU_b h t prepU (fun u hu => ⟨rfl, rfl, fun k => by
  show (if u.h k = 1 then 0 else u.h k) ≤ 2
  have := (h.oks u hu).2.2.1 k
  split <;> omega, (h.oks u hu).2.2.2⟩)
attribute [local go_sem ↓] stU_hide
set_option maxRecDepth 100000 in
set_option maxHeartbeats 3200000 in
theorem lkPrepare_any (N : Nat) (HS : SortB N) (q b C : Nat) (p : TxN → Nat × Nat) (l : List (UsP KeyT)) (t : TxN) (w : World) (h : PLk w q b C p l) (ht : TxB t) (hC : C ≤ 150) (HQ : QN N (updU l t prepU)) :
    Calls Tryz.prog 30 #[.pointer (some ⟨q, 0, none⟩), txVN t] w fun e w' => ∃ vg er gr l', e = .returned (.tuple #[.agg #[.slice none 0 0, vg], .int .i64 er]) ∧ PrepR kysF l t er l' gr ∧ PLk w' q b C p l' ∧ KeepBut (fun g => FLk q b p l g) w w' ∧ w'.ownsRow w.heap.size 76 12 vg gr.length (flat gtE gr) := by
  have hA := alloc_below14 w (.cells #[.int .u8 (t.1 : Int), .int .u32 (t.2.1 : Int), .int .u32 (t.2.2 : Int)] 34)
  have hA2 := alloc_below14 (w.alloc (.cells #[.int .u8 (t.1 : Int), .int .u32 (t.2.1 : Int), .int .u32 (t.2.2 : Int)] 34)) (.cells zO 45)
  have HXT := hide ((box_new w #[.int .u8 (t.1 : Int), .int .u32 (t.2.1 : Int), .int .u32 (t.2.2 : Int)] 34).belowI hA2)
  have HXO : Hid (Box ((w.alloc (.cells #[.int .u8 (t.1 : Int), .int .u32 (t.2.1 : Int), .int .u32 (t.2.2 : Int)] 34)).alloc (.cells zO 45)) (w.heap.size + 1) zO 45) := hide (by have := box_new (w.alloc (.cells #[.int .u8 (t.1 : Int), .int .u32 (t.2.1 : Int), .int .u32 (t.2.2 : Int)] 34)) zO 45; simpa using this)
  have hB2 := hA.trans (hA2.mono hA.size)
  obtain ⟨w1, hw1⟩ : ∃ w1, w1 = (w.alloc (.cells #[.int .u8 (t.1 : Int), .int .u32 (t.2.1 : Int), .int .u32 (t.2.2 : Int)] 34)).alloc (.cells zO 45) := ⟨_, rfl⟩
  obtain ⟨p1, hp1⟩ : ∃ p1, p1 = w.heap.size := ⟨_, rfl⟩
  obtain ⟨p2, hp2⟩ : ∃ p2, p2 = p1 + 1 := ⟨_, rfl⟩
  rw [← hw1, ← hp1] at HXT
  rw [← hw1, ← hp1, ← hp2] at HXO
  rw [← hw1] at hB2
  have hW1 := hw1.symm
  have hP1 := hp1.symm
  have hP2 := hp2.symm
  have HP := hide h
  have H1 := hide (h.below hB2)
  have HB := hide hB2
  have CM := hide (made15 q b w1 H1.out.box)
  have HP12 : Hid (w.heap.size = p1 ∧ p2 = p1 + 1 ∧ p2 < w1.heap.size) := hide ⟨hp1.symm, hp2, HXO.out.lt⟩
  have hA4 := alloc_below14 w1 (.cells zU 83)
  have hXU := box_new w1 zU 83
  obtain ⟨w2, hw2⟩ : ∃ w2, w2 = w1.alloc (.cells zU 83) := ⟨_, rfl⟩
  obtain ⟨p4, hp4⟩ : ∃ p4, p4 = w1.heap.size := ⟨_, rfl⟩
  rw [← hw2] at hA4 hXU
  rw [← hp4] at hXU
  have hW2 := hw2.symm
  have hP4 := hp4.symm
  have HP4 := hide hP4
  have H2 := hide (H1.out.below hA4)
  have h0 : w2.cell? ⟨q, 0, none⟩ = some (.map (some b)) := H2.out.box.cell 0 _ rfl
  obtain ⟨k0, k1, k2⟩ := (HXT.out.belowI hA4).three
  have L1 := (H2.out.m.below (below_drew14 w2)).look umTy ⟨t, ht⟩
  have h01 : w1.cell? ⟨q, 0, none⟩ = some (.map (some b)) := H1.out.box.cell 0 _ rfl
  obtain ⟨k01, k11, k21⟩ := HXT.out.three
  have L11 := (H1.out.m.below (below_drew14 w1)).look umTy ⟨t, ht⟩
  obtain ⟨E, hE⟩ : ∃ E : E15, E = (gU l p ⟨t, ht⟩).getD zE := ⟨_, rfl⟩
  obtain ⟨I, hI⟩ : ∃ I : Bool, I = (gU l p ⟨t, ht⟩).isSome := ⟨_, rfl⟩
  rw [← hE, ← hI] at L1 L11
  have HEE := hide hE
  have hII : I = (usL l t).isSome := by rw [hI]; show ((usL l t).map _).isSome = _; rw [Option.isSome_map]
  obtain ⟨w3, hst, hx3, hk3⟩ := run_stU (hXU.belowI (below_drew14 w2)) rfl E
  have HX3 := hide hx3
  have HB3 : Hid (Below w1.heap.size w1 w3) := hide ((hA4.trans ((below_drew14 w2).mono hA4.size)).trans (hk3.below hA4.size (fun j e => by rw [e, hp4]; exact Nat.le_refl _)))
  have HII := hide hII
  have HQN := hide HQ
  have HC := hide hC
  have HTB := hide ht
  have HSS := hide HS
  have hbu0 := buildOut0
  clear hw2 hp4 hA4 hXU hx3 hk3 hE hI hII h hA hA2 hB2 hw1 hp1 hp2 HQ hC HS
  go_enter Tryz.func30, Tryz.ntmps30
  go_wp2_with fail
  refine CM.out.mono ?_
  rintro e w0 ⟨rfl, hw0⟩
  rw [hw0]
  clear hw0 CM
  go_wp2_with fail
  go_region
  clear h0 k0 k1 k2 h01 k01 k11 k21 L1 L11 hst hW1 hW2 hP1 hP2 hP4
  have HXT3 := hide (HXT.out.belowI HB3.out)
  have HXO3 := hide (HXO.out.belowI HB3.out)
  have H3 := hide (H1.out.below HB3.out)
  have HBB3 : Hid (Below w.heap.size w w3) := hide (HB.out.trans (HB3.out.mono HB.out.size))
  cases hc : I with
  | false =>
    have HN : Hid (usL l t = none) := hide (by have := HII.out; rw [hc] at this; cases hu : usL l t with | none => rfl | some x => rw [hu] at this; cases this)
    subst hc
    go_wp2_with (refine wp_store_box rfl rfl _ _ rfl p2 rfl (cs' := zO) rfl HXO3.out rfl infoOut15 (by simp [Value.oneCell']) ?_; intro w5 hb5 hk5; have HX5 := hide hb5; have HK5 := hide hk5; clear hb5 hk5)
    refine bodyPost_ret (v := .tuple #[.agg zO, .int .i64 6]) (results_box2s Tryz.results30 _ _ p2 rfl rfl HX5.out Tryz.underlying45 rfl infoOut15) rfl ?_
    have hne : ∀ g, FLk q b p l g → g < p1 := fun g hg => by rw [← HP12.out.1]; exact HP.out.flt hg
    have h12 := HP12.out
    exact ⟨.slice none 0 0, 6, [], l, rfl, .inl ⟨rfl, rfl, .inl ⟨HN.out, rfl⟩⟩, H3.out.keep HK5.out (fun g hg e => by have := hne g hg; omega), (KeepBut.of_below _ HBB3.out).trans HK5.out (fun g hg e => by omega), World.ownsRow_nil _ _ _ _⟩
  | true =>
    have HN : Hid (∃ x, usL l t = some x) := hide (by have := HII.out; rw [hc] at this; cases hu : usL l t with | none => rw [hu] at this; cases this | some x => exact ⟨x, rfl⟩)
    subst hc
    obtain ⟨x, hux⟩ := HN.out
    obtain ⟨hx, hxt⟩ := (usL_some HP.out.ok).1 hux
    have hEx : E = (x.tm, t, x.pr, some (p t).1, some (p t).2) := by
      rw [HEE.out]
      have e : gU l p ⟨t, ht⟩ = some (x.tm, x.tx, x.pr, some (p t).1, some (p t).2) := by show (usL l t).map _ = _; rw [hux]; rfl
      rw [e, hxt]; rfl
    obtain ⟨⟨m1, m2⟩, hm12⟩ : ∃ m, m = p t := ⟨_, rfl⟩
    rw [← hm12] at hEx
    have HM := hide hm12
    subst hEx
    obtain ⟨n, n', hma, hmb, hnn⟩ := H3.out.maps x hx
    rw [hxt, ← hm12] at hma hmb
    obtain ⟨nw, hlen, hpos⟩ := MRead.len (.inr ⟨_, _, rfl, hmb⟩ : MRead w3 (some m2) x.w)
    have y6 : w3.cell? ⟨p4, 6, none⟩ = some (.map (some m2)) := HX3.out.cell 6 _ rfl
    have HUX := hide hux
    have HX := hide hx
    have HXX := hide hxt
    have HMA := hide hma
    have HMB := hide hmb
    have HNN := hide hnn
    have HPOS := hide hpos
    simp only [Exit.then]
    rename_i hK
    refine hK _ _ ?_
    clear hK hux hx hxt HN hma hmb hnn hpos
    by_cases hw0 : 0 < nw
    case pos =>
      have hz : (0 : Int) < (nw : Int) := by omega
      have HWW := hide (HPOS.out.1 hw0)
      go_wp2_with (refine wp_store_box rfl rfl _ _ rfl p2 rfl (cs' := zO) rfl HXO3.out rfl infoOut15 (by simp [Value.oneCell']) ?_; intro w5 hb5 hk5; have HX5 := hide hb5; have HK5 := hide hk5; clear hb5 hk5)
      refine bodyPost_ret (v := .tuple #[.agg zO, .int .i64 11]) (results_box2s Tryz.results30 _ _ p2 rfl rfl HX5.out Tryz.underlying45 rfl infoOut15) rfl ?_
      have hne : ∀ g, FLk q b p l g → g < p1 := fun g hg => by rw [← HP12.out.1]; exact HP.out.flt hg
      have h12 := HP12.out
      exact ⟨.slice none 0 0, 11, rfl, [], l, .inl ⟨rfl, rfl, .inr ⟨x, HUX.out, HWW.out, rfl⟩⟩, H3.out.keep HK5.out (fun g hg e => by have := hne g hg; omega), (KeepBut.of_below _ HBB3.out).trans HK5.out (fun g hg e => by omega), World.ownsRow_nil _ _ _ _⟩
    case neg =>
      have hz : ¬ (0 : Int) < (nw : Int) := by omega
      have HWW : Hid (∀ k, x.w k = 0) := hide (fun k => by
        by_cases e : x.w k = 0
        · exact e
        · exact absurd (HPOS.out.2 ⟨k, e⟩) hw0)
      have hbx := HX3.out.set (i := 4) (v := .bool true)
      obtain ⟨w4, hw4⟩ : ∃ w4, w4 = w3.setCell ⟨p4, 4, none⟩ (.bool true) := ⟨_, rfl⟩
      have hW4 := hw4.symm
      have y4 : w3.cell? ⟨p4, 4, none⟩ = some (.bool x.pr) := HX3.out.cell 4 _ rfl
      have f4 : w3.frozen? ⟨p4, 4, none⟩ = false := HX3.out.frozen 4
      have HX4 : Hid (Box w4 p4 (usA (x.tm, t, true, some m1, some m2)) 83) := hide (by rw [hw4]; exact hbx)
      have HK34 : Hid (KeepBut (fun j => j = p4) w3 w4) := hide (by rw [hw4]; exact (KeepBut.refl (fun j => j = p4) w3).setCell (p := ⟨p4, 4, none⟩) (.inl rfl) _)
      clear hw4 hbx
      have HP4L : Hid (p1 < p4 ∧ p2 < p4) := hide ⟨Nat.lt_of_lt_of_le HXT.out.lt (Nat.le_of_eq HP4.out), Nat.lt_of_lt_of_le HP12.out.2.2 (Nat.le_of_eq HP4.out)⟩
      have HFP : Hid (∀ g, FLk q b p l g → g < p1) := hide (fun g hg => by rw [← HP12.out.1]; exact HP.out.flt hg)
      have H4 := hide (H3.out.keep HK34.out (fun g hg e => by
        have h1 := HFP.out g hg
        have h2 := HP4L.out
        omega))
      have HXT4 := hide (HXT3.out.keep HK34.out (fun e => by have := HP4L.out; omega))
      have HXO4 := hide (HXO3.out.keep HK34.out (fun e => by have := HP4L.out; omega))
      have HFM : Hid (FLk q b p l m1 ∧ FLk q b p l m2 ∧ m1 ≠ m2 ∧ m1 ≠ b ∧ m2 ≠ b) := hide (by
        have h1 := HP.out.ap x HX.out
        have e1 : p x.tx = (m1, m2) := by rw [HXX.out]; exact HM.out.symm
        rw [e1] at h1
        exact ⟨.inr (.inr ⟨x, HX.out, .inl (by rw [e1])⟩), .inr (.inr ⟨x, HX.out, .inr (by rw [e1])⟩), h1⟩)
      have HMA4 := hide (HMA.out.keep HK34.out (fun e => by
        have h1 := HFP.out m1 HFM.out.1
        have h2 := HP4L.out
        omega))
      have HMB4 := hide (HMB.out.keep HK34.out (fun e => by
        have h1 := HFP.out m2 HFM.out.2.1
        have h2 := HP4L.out
        omega))
      have h04 : w4.cell? ⟨q, 0, none⟩ = some (.map (some b)) := H4.out.box.cell 0 _ rfl
      obtain ⟨k04, k14, k24⟩ := HXT4.out.three
      have u0 : w4.cell? ⟨p4, 0, none⟩ = some (.int .u32 (x.tm : Int)) := HX4.out.cell 0 _ rfl
      have u1 : w4.cell? ⟨p4, 1, none⟩ = some (.int .u8 (t.1 : Int)) := HX4.out.cell 1 _ rfl
      have u2 : w4.cell? ⟨p4, 2, none⟩ = some (.int .u32 (t.2.1 : Int)) := HX4.out.cell 2 _ rfl
      have u3 : w4.cell? ⟨p4, 3, none⟩ = some (.int .u32 (t.2.2 : Int)) := HX4.out.cell 3 _ rfl
      have u4 : w4.cell? ⟨p4, 4, none⟩ = some (.bool true) := HX4.out.cell 4 _ rfl
      have u5 : w4.cell? ⟨p4, 5, none⟩ = some (.map (some m1)) := HX4.out.cell 5 _ rfl
      have u6 : w4.cell? ⟨p4, 6, none⟩ = some (.map (some m2)) := HX4.out.cell 6 _ rfl
      obtain ⟨w5, hput, hmp, hkp⟩ := (H4.out.m.below (below_drew14 w4)).put umTy (by have := HP.out.ok.few; unfold maxLen; omega) ⟨t, ht⟩ (x.tm, t, true, some m1, some m2)
      have HUM := hide hmp
      have HK45 : Hid (KeepBut (fun j => j = b) w4 w5) := hide ((KeepBut.of_below (fun j => j = b) (below_drew14 w4)).trans hkp (fun _ _ h => h))
      clear hmp hkp
      go_wp2_with fail
      go_region
      simp only [Exit.then]
      rename_i hK
      refine hK _ _ ?_
      clear hK h04 k04 k14 k24 u0 u1 u2 u3 u4 u5 u6 hput y4 f4 y6 hlen hW4
      have HMA5 := hide (HMA4.out.keep HK45.out (fun e => HFM.out.2.2.2.1 e))
      have HMB5 := hide (HMB4.out.keep HK45.out (fun e => HFM.out.2.2.2.2 e))
      have HFB : Hid (b < p1) := hide (HFP.out b (.inr (.inl rfl)))
      have HX5 := hide (HX4.out.keep HK45.out (fun e => by have h1 := HFB.out; have h2 := HP4L.out; omega))
      have HXO5 := hide (HXO4.out.keep HK45.out (fun e => by have h1 := HFB.out; have h2 := HP12.out; omega))
      have u0 : w5.cell? ⟨p4, 0, none⟩ = some (.int .u32 (x.tm : Int)) := HX5.out.cell 0 _ rfl
      have u1 : w5.cell? ⟨p4, 1, none⟩ = some (.int .u8 (t.1 : Int)) := HX5.out.cell 1 _ rfl
      have u2 : w5.cell? ⟨p4, 2, none⟩ = some (.int .u32 (t.2.1 : Int)) := HX5.out.cell 2 _ rfl
      have u3 : w5.cell? ⟨p4, 3, none⟩ = some (.int .u32 (t.2.2 : Int)) := HX5.out.cell 3 _ rfl
      have u4 : w5.cell? ⟨p4, 4, none⟩ = some (.bool true) := HX5.out.cell 4 _ rfl
      have u5 : w5.cell? ⟨p4, 5, none⟩ = some (.map (some m1)) := HX5.out.cell 5 _ rfl
      have u6 : w5.cell? ⟨p4, 6, none⟩ = some (.map (some m2)) := HX5.out.cell 6 _ rfl
      have HNC : Hid (n ≤ 150) := hide (by have h1 := HNN.out; have h2 := HC.out; omega)
      have CR := hide (lkReads_any x.tm t true m1 m2 n x.h w5 HMA5.out (by have := HNC.out; omega))
      go_wp2_with fail
      refine CR.out.mono ?_
      rintro e w6 ⟨v, ks, rfl, hrow, hmem, hkl, ⟨n2, hn2, hm6⟩, hk6⟩
      have HK46 : Hid (KeepBut (fun j => j = b ∨ j = m1) w4 w6) := hide ((HK45.out.mono (fun j e => .inl e)).trans hk6 (fun j _ e => .inr e))
      have hum : UMap w6 b (gU (updU l t prepU) p) l.length := by
        have h1 := HUM.out.keep hk6 (fun e => HFM.out.2.2.2.1 e.symm)
        have h2 : (gU l p ⟨t, ht⟩).isSome = true := by show ((usL l t).map _).isSome = true; rw [HUX.out]; rfl
        rw [if_pos h2] at h1
        refine h1.as (fun s => ?_)
        by_cases e : s = ⟨t, ht⟩
        · rw [if_pos e, ← gU_prep HP.out.ok HX.out p ht HXX.out s e, ← HM.out]
        · rw [if_neg e]
          exact gU_prep' HP.out.ok p ht s e
      have hp6 : PLk w6 q b C p (updU l t prepU) := by
        have h1 := H4.out.upd (w' := w6) (C' := C) (S := fun j => j = b ∨ j = m1) HX.out (f := prepU) (fun u => rfl) (by rw [HXX.out]; exact hum) HK46.out (fun j e => by
            rw [HXX.out, ← HM.out]
            exact e.elim (fun e => .inr (.inr e)) (fun e => .inl e)) (by
            rw [HXX.out, ← HM.out]
            refine ⟨n2, n', hm6, HMB5.out.keep hk6 (fun e => HFM.out.2.2.1 e.symm), ?_⟩
            have := HNN.out
            omega) (Nat.le_refl _) (by rw [HXX.out]; exact prep_b HP.out.ok t)
        rw [HXX.out] at h1
        exact h1
      have HFL6 : Hid (∀ g, FLk q b p (updU l t prepU) g → FLk q b p l g) := hide (fun g hg => flk_names (by unfold updU; rw [List.map_map]; exact List.map_congr_left (fun u _ => by show (if u.tx = t then prepU u else u).tx = u.tx; split <;> rfl)) hg)
      have HW5 : Hid (w3.heap.size ≤ w5.heap.size ∧ p2 < w5.heap.size ∧ w.heap.size ≤ w5.heap.size ∧ w5.heap.size ≤ w6.heap.size) := hide ⟨Nat.le_trans HK34.out.size HK45.out.size, HXO5.out.lt, Nat.le_trans HBB3.out.size (Nat.le_trans HK34.out.size HK45.out.size), hk6.size⟩
      have CO := hide (lkOn_any N HSS.out q b C p (updU l t prepU) ks v w5.heap.size w6 hp6 hrow (fun g hg hF => by
        have h1 := (hrow.lt g hg).1
        have h2 := HP.out.flt (HFL6.out g hF)
        have h3 := HW5.out
        omega) (by have := HNC.out; omega) (by have := HC.out; omega) HQN.out)
      have HMEM := hide hmem
      have HVB : Hid (∀ g, v.ownBlock = some g → w5.heap.size ≤ g) := hide (fun g hg => (hrow.lt g hg).1)
      have HXO6 := hide (HXO5.out.keep hk6 (fun e => by have h1 := HFP.out m1 HFM.out.1; have h2 := HP12.out; omega))
      have HKA6 : Hid (KeepBut (fun g => FLk q b p l g) w w6) := hide (by
        have a0 : KeepBut (fun g => FLk q b p l g) w w4 := (KeepBut.of_below (fun g => FLk q b p l g) HBB3.out).trans HK34.out (fun g hg e => by
          have h1 := HP4L.out
          have h2 := HP12.out
          omega)
        exact a0.trans HK46.out (fun g _ e => e.elim (fun e => by rw [e]; exact .inr (.inl rfl)) (fun e => by rw [e]; exact HFM.out.1)))
      clear hrow hmem hkl hn2 hm6 hk6 hum hp6 u0 u1 u2 u3 u4 u5 u6 CR
      go_wp2_with fail
      refine CO.out.mono ?_
      rintro e w7 ⟨vg, ks', rfl, hks, hrg, hp7, hk7⟩
      obtain ⟨ag, cg, rfl, _⟩ := owns_shapeR hrg
      have HRG := hide hrg
      have HP7 := hide hp7
      have HKS := hide hks
      have HKA : Hid (KeepBut (fun g => FLk q b p l g) w w7) := hide (by
        refine HKA6.out.trans hk7 (fun g hg e => ?_)
        rcases e with e | e
        · exact HFL6.out g (.inr (.inr e))
        · have h1 := HVB.out g e
          have h2 := HW5.out
          omega)
      have HXO7 : Hid (Box w7 p2 zO 45) := hide (HXO6.out.keep hk7 (fun e => by
          have h2 := HP12.out
          have h3 := HW5.out
          rcases e with e | e
          · have h1 := HFP.out p2 (HFL6.out p2 (.inr (.inr e)))
            omega
          · have h1 := HVB.out p2 e
            omega))
      have hbu1 := buildOut1 ag (onAG (updU l t prepU) ks').length cg
      clear hrg hp7 hks hk7
      obtain ⟨gr, hgr⟩ : ∃ gr, gr = onAG (updU l t prepU) ks' := ⟨_, rfl⟩
      obtain ⟨gn, hgn⟩ : ∃ gn, gn = gr.length := ⟨_, rfl⟩
      rw [← hgr] at HRG hbu1 ⊢
      rw [← hgn] at HRG hbu1 ⊢
      have HGR := hide (And.intro hgr hgn)
      clear hgr hgn
      go_wp2_with (refine wp_store_box rfl rfl _ _ rfl p2 rfl (cs' := #[.slice none 0 0, .slice ag gn cg]) rfl HXO7.out rfl infoOut15 (by simp [Value.oneCell']) ?_; intro w8 hb8 hk8; have HX8 := hide hb8; have HK8 := hide hk8; clear hb8 hk8)
      refine bodyPost_ret (v := .tuple #[.agg #[.slice none 0 0, .slice ag gn cg], .int .i64 0]) (results_box2s Tryz.results30 _ _ p2 rfl rfl HX8.out Tryz.underlying45 rfl infoOut15) rfl ?_
      have h12 := HP12.out
      refine ⟨_, 0, gr, onAS (updU l t prepU) ks', rfl, .inr ⟨x, ks', HUX.out, HWW.out, rfl, ⟨HKS.out.1, fun k => (HKS.out.2 k).trans (HMEM.out k)⟩, HGR.out.1, rfl⟩, HP7.out.keep HK8.out (fun g hg e => ?_), HKA.out.trans HK8.out (fun g hg e => by omega), ?_⟩
      · have := HFP.out g (HFL6.out g (flk_names (onA_names ks' (updU l t prepU)) hg))
        omega
      · have h8 := owns_keep HRG.out HK8.out (fun g hg e => by
          have h1 := (HRG.out.lt g hg).1
          have h2 := HW5.out
          omega)
        rw [← HGR.out.2]
        exact owns_base15 h8 (Nat.le_trans HW5.out.2.2.1 HW5.out.2.2.2)
end
section
open Go.RowKit Go.Maps Classical

theorem usL_ins {l : List (UsP KeyT)} (hb : LkB l) {x : UsP KeyT} (hbi : LkB (insU l x)) (s : TxN) : usL (insU l x) s = if s = x.tx then some x else usL l s := by
  by_cases e : s = x.tx
  · rw [if_pos e, e]
    exact (usL_some hbi).2 ⟨(insU_mem l x x).2 (.inl rfl), rfl⟩
  · rw [if_neg e]
    cases hu : usL l s with
    | none =>
      rw [usL_none]
      intro y hy e2
      rcases (insU_mem l x y).1 hy with rfl | hy
      · exact e e2.symm
      · exact usL_none.1 hu y hy e2
    | some u =>
      obtain ⟨h1, h2⟩ := (usL_some hb).1 hu
      exact (usL_some hbi).2 ⟨(insU_mem l x u).2 (.inr h1), h2⟩
/-- Where each user's maps lie, with one more. -/
def pIns (p : TxN → Nat × Nat) (t : TxN) (m1 m2 : Nat) (s : TxN) : Nat × Nat := if s = t then (m1, m2) else p s
theorem pIns_same (p : TxN → Nat × Nat) (t : TxN) (m1 m2 : Nat) : pIns p t m1 m2 t = (m1, m2) := by unfold pIns; rw [if_pos rfl]
theorem pIns_other (p : TxN → Nat × Nat) {t s : TxN} (m1 m2 : Nat) (h : s ≠ t) : pIns p t m1 m2 s = p s := by unfold pIns; rw [if_neg h]
theorem gU_ins {l : List (UsP KeyT)} (hb : LkB l) {x : UsP KeyT} (hbi : LkB (insU l x)) (p : TxN → Nat × Nat) (m1 m2 : Nat) (ht : TxB x.tx) (s : TxT) : (s = ⟨x.tx, ht⟩ → some (x.tm, x.tx, x.pr, some m1, some m2) = gU (insU l x) (pIns p x.tx m1 m2) s) ∧ (s ≠ ⟨x.tx, ht⟩ → gU l p s = gU (insU l x) (pIns p x.tx m1 m2) s) := by
  constructor
  · rintro rfl
    show _ = (usL (insU l x) x.tx).map _
    rw [usL_ins hb hbi, if_pos rfl, pIns_same]
    rfl
  · intro hs
    have e : s.1 ≠ x.tx := fun e => hs (Subtype.ext e)
    show (usL l s.1).map _ = (usL (insU l x) s.1).map _
    rw [usL_ins hb hbi, if_neg e, pIns_other p m1 m2 e]
theorem PLk.ins {w w' : World} {q b C C' : Nat} {p : TxN → Nat × Nat} {l : List (UsP KeyT)} {S : Nat → Prop} (h : PLk w q b C p l) {x : UsP KeyT} (hn : usL l x.tx = none) (hbi : LkB (insU l x)) {m1 m2 : Nat}
    (hum : UMap w' b (gU (insU l x) (pIns p x.tx m1 m2)) (l.length + 1)) (hk : KeepBut S w w') (hS : ∀ j, S j → j = b ∨ ¬ FLk q b p l j) (hm : ∃ n n', MMap w' m1 x.h n ∧ MMap w' m2 x.w n' ∧ n + n' ≤ C') (hC : C ≤ C')
    (h1 : ¬ FLk q b p l m1) (h2 : ¬ FLk q b p l m2) (h12 : m1 ≠ m2) : PLk w' q b C' (pIns p x.tx m1 m2) (insU l x) := by
  have hne : ∀ u ∈ l, u.tx ≠ x.tx := usL_none.1 hn
  have hq := h.q_ne
  have hnb : ∀ j, FLk q b p l j → j ≠ b → ¬ S j := fun j hj e hs => (hS j hs).elim e (fun h3 => h3 hj)
  refine ⟨h.box.keep hk (hnb _ (.inl rfl) hq.1), by rw [(insU_perm l x).length_eq, List.length_cons]; exact hum, fun u hu => ?_, fun u hu => ?_, fun u hu v hv e => ?_, hbi⟩
  · rcases (insU_mem l x u).1 hu with rfl | hu
    · rw [pIns_same]
      exact hm
    · rw [pIns_other p m1 m2 (hne u hu)]
      obtain ⟨n, n', a1, a2, a3⟩ := h.maps u hu
      have hp := h.ap u hu
      exact ⟨n, n', a1.keep hk (hnb _ (.inr (.inr ⟨u, hu, .inl rfl⟩)) hp.2.1), a2.keep hk (hnb _ (.inr (.inr ⟨u, hu, .inr rfl⟩)) hp.2.2), Nat.le_trans a3 hC⟩
  · rcases (insU_mem l x u).1 hu with rfl | hu
    · rw [pIns_same]
      exact ⟨h12, fun e => h1 (.inr (.inl e)), fun e => h2 (.inr (.inl e))⟩
    · rw [pIns_other p m1 m2 (hne u hu)]
      exact h.ap u hu
  · rcases (insU_mem l x u).1 hu with e1 | hu'
    · rcases (insU_mem l x v).1 hv with e2 | hv'
      · exact absurd (by rw [e1, e2]) e
      · rw [e1, pIns_same, pIns_other p m1 m2 (hne v hv')]
        exact ⟨fun e => h1 (.inr (.inr ⟨v, hv', .inl e.symm⟩)), fun e => h1 (.inr (.inr ⟨v, hv', .inr e.symm⟩)), fun e => h2 (.inr (.inr ⟨v, hv', .inr e.symm⟩))⟩
    · rcases (insU_mem l x v).1 hv with e2 | hv'
      · rw [e2, pIns_same, pIns_other p m1 m2 (hne u hu')]
        exact ⟨fun e => h1 (.inr (.inr ⟨u, hu', .inl e⟩)), fun e => h2 (.inr (.inr ⟨u, hu', .inl e⟩)), fun e => h2 (.inr (.inr ⟨u, hu', .inr e⟩))⟩
      · rw [pIns_other p m1 m2 (hne u hu'), pIns_other p m1 m2 (hne v hv')]
        exact h.ap2 u hu' v hv' e
theorem flk_ins {q b : Nat} {p : TxN → Nat × Nat} {l : List (UsP KeyT)} {x : UsP KeyT} (hn : usL l x.tx = none) {m1 m2 g : Nat} (h : FLk q b (pIns p x.tx m1 m2) (insU l x) g) : FLk q b p l g ∨ g = m1 ∨ g = m2 := by
  have hne : ∀ u ∈ l, u.tx ≠ x.tx := usL_none.1 hn
  rcases h with e | e | ⟨u, hu, e⟩
  · exact .inl (.inl e)
  · exact .inl (.inr (.inl e))
  · rcases (insU_mem l x u).1 hu with rfl | hu
    · rw [pIns_same] at e
      exact e.elim (fun e => .inr (.inl e.symm)) (fun e => .inr (.inr e.symm))
    · rw [pIns_other p m1 m2 (hne u hu)] at e
      exact .inl (.inr (.inr ⟨u, hu, e⟩))
end
end Go.Proofs.YtddflccjmigloaaGreat
