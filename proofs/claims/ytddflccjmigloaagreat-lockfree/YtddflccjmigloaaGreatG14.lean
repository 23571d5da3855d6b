/-
  Own texts put together: LkQue, LkFree. Own work.
-/
import Derived.Test.YtddflccjmigloaaGreatG13
namespace Go.Proofs.YtddflccjmigloaaGreat
section
open Go.RowKit Go.Maps Classical

theorem recTX15 : Rec 42 34 3 txCs := ⟨Tryz.underlying42, rec_info (z := .agg #[.int .u8 0, .int .u32 0, .int .u32 0]) (K := 3) (B := 12) (by kernel_rfl) rfl (by decide), by decide, fun _ => rfl⟩
theorem tx_one15 (t : TxP) : ∀ u ∈ txCs t, u.oneCell' = true := fun u hu => by
  simp only [List.mem_cons, List.not_mem_nil, or_false] at hu
  rcases hu with rfl | rfl | rfl <;> rfl
theorem txCs_arr15 (t : TxN) : (#[.int .u8 (t.1 : Int), .int .u32 (t.2.1 : Int), .int .u32 (t.2.2 : Int)] : Array Value).toList = txCs (txI t) := rfl
/-- What SortFunc must do with the table's order, of no more than N names. -/
def SortB (N : Nat) : Prop := ∀ (W : World) (q b C : Nat) (p : TxN → Nat × Nat) (l : List (UsP KeyT)) (base : Nat) (v : Value) (ss : List TxN), PLk W q b C p l → W.ownsRow base 34 3 v ss.length (flat txCs (ss.map txI)) → (∀ t ∈ ss, ∃ u ∈ l, u.tx = t) → ss.Nodup → ss.length ≤ N → (∀ g, v.ownBlock = some g → ¬ FLk q b p l g) →
  Calls Tryz.prog 40 #[v, .func (.func 41) #[.pointer (some ⟨q, 0, none⟩)] #[]] W fun e w' => e = .returned (.tuple #[]) ∧ ∃ ss' : List TxN, (∀ t, t ∈ ss' ↔ t ∈ ss) ∧ ss'.Pairwise (OldN l) ∧ w'.ownsRow base 34 3 v ss'.length (flat txCs (ss'.map txI)) ∧ KeepBut (fun j => v.ownBlock = some j) W w'
/-- Those of the keys that have come who wait. -/
def whoW (l : List (UsP KeyT)) (k : KeyT) (ks : List TxT) : List TxN := (ks.map (·.1)).filter fun t => decide ((getU l t).w k ≠ 0)
theorem whoW_app (l : List (UsP KeyT)) (k : KeyT) (ks : List TxT) (t : TxT) : whoW l k (ks ++ [t]) = whoW l k ks ++ (if (getU l t.1).w k ≠ 0 then [t.1] else []) := by
  unfold whoW
  rw [List.map_append, List.filter_append]
  congr 1
  by_cases h : (getU l t.1).w k = 0
  · simp [h]
  · simp [h]
theorem whoW_nodup {l : List (UsP KeyT)} {k : KeyT} {ks : List TxT} (h : ks.Nodup) : (whoW l k ks).Nodup := by
  unfold whoW
  rw [List.nodup_iff_pairwise_ne]
  refine List.Pairwise.filter _ ?_
  rw [← List.nodup_iff_pairwise_ne]
  have : ∀ {ks : List TxT}, ks.Nodup → (ks.map (·.1)).Nodup := fun {ks} hn => by
    rw [List.nodup_iff_pairwise_ne, List.pairwise_map]
    exact (List.nodup_iff_pairwise_ne.1 hn).imp (fun {a b} hab e => hab (Subtype.ext e))
  exact this h
theorem whoW_all {l : List (UsP KeyT)} (hb : LkB l) {k : KeyT} {ks : List TxT} (hall : ∀ u ∈ l, ∃ t ∈ ks, t.1 = u.tx) (t : TxN) : t ∈ whoW l k ks ↔ t ∈ queU l k := by
  rw [queU_mem]
  unfold whoW
  rw [List.mem_filter]
  constructor
  · rintro ⟨_, h2⟩
    have h3 : (getU l t).w k ≠ 0 := by simpa using h2
    cases hu : usL l t with
    | none => rw [getU_none hu] at h3; exact absurd rfl h3
    | some u =>
      obtain ⟨hm, rfl⟩ := (usL_some hb).1 hu
      rw [getU_of hb hm] at h3
      exact ⟨u, hm, h3, rfl⟩
  · rintro ⟨u, hu, hw, rfl⟩
    obtain ⟨t', ht', e⟩ := hall u hu
    refine ⟨List.mem_map.2 ⟨t', ht', e⟩, ?_⟩
    rw [getU_of hb hu]
    simpa using hw
theorem que_len {l : List (UsP KeyT)} (hb : LkB l) (k : KeyT) : (queU l k).length ≤ 64 := by
  unfold queU sortU
  rw [List.length_map, List.length_mergeSort]
  exact Nat.le_trans (List.length_filter_le _ _) hb.few
theorem queU_nd {l : List (UsP KeyT)} (hb : LkB l) (k : KeyT) : (queU l k).Nodup := (queU_old hb k).imp fun {x y} hxy e => by subst e; exact hxy.asymm hxy
theorem kept15 {w w' : World} {v : Value} (h : w.grownBy w' v.ownBlock) : KeepBut (fun g => v.ownBlock = some g) w w' := grown_keep h (fun _ h => h)
theorem owns_base15 {w : World} {b b' e size n : Nat} {v : Value} {xs : List Value} (h : w.ownsRow b e size v n xs) (hb : b' ≤ b) : w.ownsRow b' e size v n xs := by
  obtain ⟨hl, h0 | ⟨g, cap, cur, rfl, hg, r⟩⟩ := h
  · exact ⟨hl, .inl h0⟩
  · exact ⟨hl, .inr ⟨g, cap, cur, rfl, Nat.le_trans hb hg, r⟩⟩
theorem ks_le {l : List (UsP KeyT)} {ks : List TxT} (h : ks.Nodup) (hall : ∀ t ∈ ks, ∃ u ∈ l, u.tx = t.1) : ks.length ≤ l.length := by
  have h2 : (ks.map (·.1)).Nodup := by
    rw [List.nodup_iff_pairwise_ne, List.pairwise_map]
    exact (List.nodup_iff_pairwise_ne.1 h).imp (fun {a b} hab e => hab (Subtype.ext e))
  have h3 : ks.map (·.1) ⊆ l.map (·.tx) := fun t ht => by
    obtain ⟨x, hx, rfl⟩ := List.mem_map.1 ht
    obtain ⟨u, hu, e⟩ := hall x hx
    exact List.mem_map.2 ⟨u, hu, e⟩
  have := nodup_le _ _ h2 h3
  simpa using this
set_option maxRecDepth 100000 in
set_option maxHeartbeats 3200000 in
theorem lkQueue_any (N : Nat) (HS : SortB N) (q b C : Nat) (p : TxN → Nat × Nat) (l : List (UsP KeyT)) (k : KeyT) (w : World) (h : PLk w q b C p l) (hN : (queU l k).length ≤ N) :
    Calls Tryz.prog 17 #[.pointer (some ⟨q, 0, none⟩), .agg (eightA k.1)] w fun e w' => ∃ v, e = .returned v ∧ w'.ownsRow w.heap.size 34 3 v (queU l k).length (flat txCs ((queU l k).map txI)) ∧ Below w.heap.size w w' := by
  have hA := alloc_below14 w (.cells (eightA k.1) 38)
  have hX := box_new w (eightA k.1) 38
  obtain ⟨w1, hw1⟩ : ∃ w1, w1 = w.alloc (.cells (eightA k.1) 38) := ⟨_, rfl⟩
  obtain ⟨p1, hp1⟩ : ∃ p1, p1 = w.heap.size := ⟨_, rfl⟩
  rw [← hw1] at hA hX
  rw [← hp1] at hX
  have HW1 := hide hw1
  have HP1 := hide hp1
  have HFL := hide (fun g hg => h.flt (k := g) hg)
  have H1 := hide (h.below hA)
  have HB := hide hA
  have HX := hide hX
  have CM := hide (made15 q b w1 H1.out.box)
  have HNN := hide hN
  have HSS := hide HS
  clear h hA hX hw1 hp1 hN HS
  go_enter Tryz.func17, Tryz.ntmps17
  go_wp2_with fail
  rw [← HW1.out, ← HP1.out]
  refine CM.out.mono ?_
  rintro e w0 ⟨rfl, hw0⟩
  rw [hw0]
  clear hw0 CM
  have h0 : w1.cell? ⟨q, 0, none⟩ = some (.map (some b)) := H1.out.box.cell 0 _ rfl
  go_wp2_with (at_range; refine wp_range_g umTy _ rfl _ rfl rfl H1.out.m ?_; intro w2 hrg hb2 hs2)
  go_frame
  obtain ⟨r, hr⟩ : ∃ r, r = w1.heap.size := ⟨_, rfl⟩
  rw [← hr] at hrg ⊢
  have HRG := hide hrg
  have HB2 := hide hb2
  have HRR := hide hr
  have HSZ : Hid (p1 ≤ w1.heap.size) := hide (by have := HB.out.size; rw [HP1.out]; exact this)
  have HPW : Hid (p1 ≤ w.heap.size) := hide (Nat.le_of_eq HP1.out)
  clear hrg hb2 hs2 h0 hr
  go_loopw [5] (fun x wr => ∃ (ks : List TxT) (ss : List TxN) (ax : Option Addr) (cx : Nat), x = .slice ax ss.length cx ∧ Hid (ss = whoW l k ks) ∧ Hid (URng wr b r l p ks) ∧ Hid (wr.ownsRow w1.heap.size 34 3 (.slice ax ss.length cx) ss.length (flat txCs (ss.map txI))) ∧ Hid (Below w1.heap.size w1 wr) ∧ Hid (ks.length ≤ l.length)) (fun _ wr => wr.rangeLeft b r)
  case atStart => exact ⟨[], [], none, 0, rfl, hide rfl, HRG, hide (World.ownsRow_nil _ _ _ _), HB2, hide (Nat.zero_le _)⟩
  case round =>
    obtain ⟨ks, ss, ax, cx, rfl, HSE, HG, HO, HBW, HKL⟩ := hrel
    go_wp2_with (at_next; refine wp_next_g umTy _ rfl _ rfl rfl HG.out ?_ ?_)
    · intro hdone
      have HAL := hide (whoW_all H1.out.ok (k := k) (gU_none hdone.all H1.out.ok))
      have HND : Hid ss.Nodup := hide (by rw [HSE.out]; exact whoW_nodup HG.out.nodup)
      have HKO := hide (HO.out)
      have HLE : Hid (ss.length ≤ N) := hide (by
        have e : ss.length = (queU l k).length := ((List.perm_ext_iff_of_nodup HND.out (queU_nd H1.out.ok k)).2 (fun t => by rw [HSE.out]; exact HAL.out t)).length_eq
        rw [e]; exact HNN.out)
      have CS := hide (HSS.out wr q b C p l w1.heap.size (.slice ax ss.length cx) ss (H1.out.below HBW.out) HO.out (fun t ht => by
        rw [HSE.out] at ht
        obtain ⟨u, hu, _, e⟩ := queU_mem.1 ((HAL.out t).1 ht)
        exact ⟨u, hu, e⟩) HND.out HLE.out (fun g hg hF => by
        have h1 := (HO.out.lt g hg).1
        have h2 := HFL.out g hF
        have h3 := HB.out.size
        omega))
      have HIF : Hid (∀ t, t ∈ ss ↔ t ∈ queU l k) := hide (fun t => by rw [HSE.out]; exact HAL.out t)
      have HLTG : Hid (∀ j, (Value.slice ax ss.length cx).ownBlock = some j → w1.heap.size ≤ j) := hide (fun j hj => (HO.out.lt j hj).1)
      clear hdone
      go_wp2_with (go_at_call 40; refine CS.out.mono ?_; rintro e w6 ⟨rfl, ss', hm6, hp6, ho6, hk6⟩; have HQE : Hid (ss' = queU l k) := hide (names_unique hp6 (queU_old H1.out.ok k) (fun t => (hm6 t).trans (HIF.out t))); have HO6 := hide ho6; have HB6 := hide (HBW.out.trans (hk6.below HBW.out.size HLTG.out)); clear hm6 hp6 ho6 hk6)
      go_ret
      have hfin := HO6.out
      have hlen : ss'.length = (queU l k).length := by rw [HQE.out]
      rw [hlen] at hfin
      rw [HQE.out] at hfin
      exact ⟨_, rfl, owns_base15 hfin HB.out.size, HB.out.trans (HB6.out.mono HB.out.size)⟩
    · rintro ⟨t, e, w3, hk, he, hrg3, hlt, hkb, hsz, hen⟩
      dsimp only at hen ⊢
      obtain ⟨u, hu, hut, rfl⟩ := gU_some H1.out.ok he
      have hbw3 : Below w1.heap.size w1 w3 := HBW.out.trans (hkb.below HBW.out.size (fun j e => by rw [e, HRR.out]; exact Nat.le_refl _))
      obtain ⟨n, n', _, hm1, _⟩ := (H1.out.below hbw3).maps u hu
      have HZ6 : Hid (Box ((w3.alloc (.cells #[.int .u8 0, .int .u32 0, .int .u32 0] 34)).alloc (.cells zU 83)) w3.heap.size #[.int .u8 0, .int .u32 0, .int .u32 0] 34) := hide ((box_new w3 _ _).belowI (alloc_below14 _ _))
      have HZ7 : Hid (Box ((w3.alloc (.cells #[.int .u8 0, .int .u32 0, .int .u32 0] 34)).alloc (.cells zU 83)) (w3.heap.size + 1) zU 83) := hide (by have := box_new (w3.alloc (.cells #[.int .u8 0, .int .u32 0, .int .u32 0] 34)) zU 83; simpa using this)
      have HAU : Hid (Below w3.heap.size w3 ((w3.alloc (.cells #[.int .u8 0, .int .u32 0, .int .u32 0] 34)).alloc (.cells zU 83))) := hide ((alloc_below14 _ _).trans ((alloc_below14 _ _).mono (by simp)))
      have HNR0 : Hid (∀ g, (Value.slice ax ss.length cx).ownBlock = some g → g ≠ r) := hide (fun g e e2 => by
        obtain ⟨_, ⟨h1, _⟩ | ⟨g', cap, cur, h1, _, hb, _⟩⟩ := HO.out
        · rw [h1] at e; cases e
        · rw [h1] at e
          cases e
          obtain ⟨R0, D0, lf, ct, n0, _, ⟨es, clock, since, seen, c0, _, _, _, _, hr0, _⟩, _⟩ := HG.out.own
          subst e2
          rw [hb] at hr0
          cases hr0)
      have HO3 := hide (owns_keep HO.out hkb HNR0.out)
      have HG3 := hide hrg3
      have HB3 := hide hbw3
      have HLT := hide hlt
      have HUU := hide hut
      rw [hut] at hm1
      have HM1 := hide hm1
      obtain ⟨⟨m1, m2⟩, hmm⟩ : ∃ m, m = p t.1 := ⟨_, rfl⟩
      rw [← hmm] at hen HM1
      have HGU : Hid (getU l t.1 = u) := hide (by rw [← HUU.out]; exact getU_of H1.out.ok hu)
      have HKL2 : Hid ((ks ++ [t]).length ≤ l.length) := hide (ks_le hrg3.nodup (fun t' ht' => by
        obtain ⟨e', he'⟩ := Option.isSome_iff_exists.1 (hrg3.was t' ht')
        obtain ⟨u', hu', ht2, _⟩ := gU_some H1.out.ok he'
        exact ⟨u', hu', ht2⟩))
      clear he hrg3 hkb hsz hut hbw3 hm1 hlt hmm hk
      obtain ⟨⟨y1, y2, y3⟩, ht⟩ := t
      dsimp only at *
      have HA5 : Hid (Below w3.heap.size w3 ((w3.alloc (.cells #[.int .u8 (y1 : Int), .int .u32 (y2 : Int), .int .u32 (y3 : Int)] 34)).alloc (.cells #[.int .u32 (u.tm : Int), .int .u8 (u.tx.1 : Int), .int .u32 (u.tx.2.1 : Int), .int .u32 (u.tx.2.2 : Int), .bool u.pr, .map (some m1), .map (some m2)] 83))) := hide ((alloc_below14 _ _).trans ((alloc_below14 _ _).mono (by simp)))
      have hx5 := HX.out.belowI (HB3.out.trans (HA5.out.mono HB3.out.size))
      obtain ⟨x0, x1, x2, x3, x4, x5, x6, x7⟩ := box_eight14 hx5
      have hlk := (MRead.look (.inr ⟨_, _, rfl, HM1.out.below HA5.out⟩) k : (Instr.lookup 81 (.map (some m2)) (kyV k.1) false).run Tryz.prog ((w3.alloc (.cells #[.int .u8 (y1 : Int), .int .u32 (y2 : Int), .int .u32 (y3 : Int)] 34)).alloc (.cells #[.int .u32 (u.tm : Int), .int .u8 (u.tx.1 : Int), .int .u32 (u.tx.2.1 : Int), .int .u32 (u.tx.2.2 : Int), .bool u.pr, .map (some m1), .map (some m2)] 83)) = _)
      have hg5 := HG3.out.below HA5.out
      have HG5 := hide hg5.1
      have HL5 := hide hg5.2
      have HO5 := hide (owns_keep HO3.out (KeepBut.of_below (fun _ => False) HA5.out) (fun _ _ h => h))
      clear hx5 hg5
      by_cases hz : u.w k = 0
      · have hz0 : ((u.w k : Nat) : Int) = 0 := by omega
        have HS2 : Hid (ss = whoW l k (ks ++ [⟨(y1, y2, y3), ht⟩])) := hide (by rw [whoW_app, HGU.out, if_neg (fun h => h hz), List.append_nil]; exact HSE.out)
        go_wp2_with fail
        go_roundw
        case rel => exact ⟨ks ++ [⟨(y1, y2, y3), ht⟩], ss, ax, cx, rfl, HS2, HG5, HO5, hide (HB3.out.trans (HA5.out.mono HB3.out.size)), HKL2⟩
        case measure => rw [HL5.out]; exact HLT.out
      · have hz0 : (((u.w k : Nat) : Int) != 0) = true := by simp; omega
        have HS2 : Hid (ss ++ [(y1, y2, y3)] = whoW l k (ks ++ [⟨(y1, y2, y3), ht⟩])) := hide (by rw [whoW_app, HGU.out, if_pos hz]; rw [← HSE.out])
        have HA6 : Hid (Below w3.heap.size w3 (((w3.alloc (.cells #[.int .u8 (y1 : Int), .int .u32 (y2 : Int), .int .u32 (y3 : Int)] 34)).alloc (.cells #[.int .u32 (u.tm : Int), .int .u8 (u.tx.1 : Int), .int .u32 (u.tx.2.1 : Int), .int .u32 (u.tx.2.2 : Int), .bool u.pr, .map (some m1), .map (some m2)] 83)).alloc (.cells #[.int .u8 (y1 : Int), .int .u32 (y2 : Int), .int .u32 (y3 : Int)] 34))) := hide (HA5.out.trans ((alloc_below14 _ _).mono HA5.out.size))
        have hg6 := HG3.out.below HA6.out
        have HG6 := hide hg6.1
        have HL6 := hide hg6.2
        have HO6 := hide (owns_keep HO3.out (KeepBut.of_below (fun _ => False) HA6.out) (fun _ _ h => h))
        have HSRC : Hid (RSrc txCs (((w3.alloc (.cells #[.int .u8 (y1 : Int), .int .u32 (y2 : Int), .int .u32 (y3 : Int)] 34)).alloc (.cells #[.int .u32 (u.tm : Int), .int .u8 (u.tx.1 : Int), .int .u32 (u.tx.2.1 : Int), .int .u32 (u.tx.2.2 : Int), .bool u.pr, .map (some m1), .map (some m2)] 83)).alloc (.cells #[.int .u8 (y1 : Int), .int .u32 (y2 : Int), .int .u32 (y3 : Int)] 34)) (.slice (some ⟨w3.heap.size + 1 + 1, 0, none⟩) 1 1) [txI (y1, y2, y3)]) := hide (by
          have h1 := src_new (enc := txCs) ((w3.alloc (.cells #[.int .u8 (y1 : Int), .int .u32 (y2 : Int), .int .u32 (y3 : Int)] 34)).alloc (.cells #[.int .u32 (u.tm : Int), .int .u8 (u.tx.1 : Int), .int .u32 (u.tx.2.1 : Int), .int .u32 (u.tx.2.2 : Int), .bool u.pr, .map (some m1), .map (some m2)] 83)) (txI (y1, y2, y3)) _ (txCs_arr15 (y1, y2, y3)) 34
          have e : ((w3.alloc (.cells #[.int .u8 (y1 : Int), .int .u32 (y2 : Int), .int .u32 (y3 : Int)] 34)).alloc (.cells #[.int .u32 (u.tm : Int), .int .u8 (u.tx.1 : Int), .int .u32 (u.tx.2.1 : Int), .int .u32 (u.tx.2.2 : Int), .bool u.pr, .map (some m1), .map (some m2)] 83)).heap.size = w3.heap.size + 1 + 1 := by simp
          rw [e] at h1
          exact h1)
        have HTL : Hid ((ss.map txI).length = ss.length) := hide (by rw [List.length_map])
        have HTN : Hid ((ss ++ [(y1, y2, y3)]).length = ss.length + 1) := hide (by rw [List.length_append]; rfl)
        have HTM : Hid (ss.map txI ++ [txI (y1, y2, y3)] = (ss ++ [(y1, y2, y3)]).map txI) := hide (by rw [List.map_append]; rfl)
        have HSL : Hid (ss.length + 1 ≤ 1000000) := hide (by
          have h1 : ss.length ≤ ks.length := by rw [HSE.out]; unfold whoW; exact Nat.le_trans (List.length_filter_le _ _) (by rw [List.length_map]; exact Nat.le_refl _)
          have h2 := HKL.out
          have h3 := H1.out.ok.few
          omega)
        have HNR : Hid (∀ g, (Value.slice ax ss.length cx).ownBlock = some g → g ≠ r ∧ g ≠ b) := hide (fun g hg => ⟨HNR0.out g hg, fun e => by
          have h1 := (HO6.out.lt g hg).1
          have h2 := H1.out.m.lt
          omega⟩)
        have HBS : Hid (w1.heap.size ≤ (((w3.alloc (.cells #[.int .u8 (y1 : Int), .int .u32 (y2 : Int), .int .u32 (y3 : Int)] 34)).alloc (.cells #[.int .u32 (u.tm : Int), .int .u8 (u.tx.1 : Int), .int .u32 (u.tx.2.1 : Int), .int .u32 (u.tx.2.2 : Int), .bool u.pr, .map (some m1), .map (some m2)] 83)).alloc (.cells #[.int .u8 (y1 : Int), .int .u32 (y2 : Int), .int .u32 (y3 : Int)] 34)).heap.size) := hide (Nat.le_trans HB3.out.size HA6.out.size)
        have HB36 := hide (HB3.out.trans (HA6.out.mono HB3.out.size))
        clear hg6
        go_wp2_with (at_builtin; refine wp_recs recTX15 _ rfl _ _ rfl w1.heap.size (.slice ax ss.length cx) (.slice (some ⟨w3.heap.size + 1 + 1, 0, none⟩) 1 1) (ss.map txI) [txI (y1, y2, y3)] rfl ?_ rfl HSRC.out ?_ ?_ HBS.out ?_)
        · rw [HTL.out]; exact HO6.out
        · exact (fun z hz => by simp at hz; subst hz; exact tx_one15 _)
        · rw [HTL.out]; exact HSL.out
        intro v4 w4 ho4 hg4 _
        rw [HTM.out] at ho4
        obtain ⟨a4, c4, hv4, _⟩ := owns_shapeR ho4
        subst hv4
        have HB4 : Hid (Below w1.heap.size w1 w4) := hide (HB36.out.grown hg4 HBS.out (fun j hj => (HO6.out.lt j hj).1))
        have HG4 := hide (HG6.out.keep (kept15 hg4) (fun e => (HNR.out _ e).2 rfl) (fun e => (HNR.out _ e).1 rfl))
        have HO4 := hide ho4
        clear ho4 hg4
        go_wp2_with fail
        go_roundw
        case rel => exact ⟨ks ++ [⟨(y1, y2, y3), ht⟩], ss ++ [(y1, y2, y3)], a4, c4, by rw [HTN.out], HS2, hide HG4.out.1, hide (by rw [HTN.out]; exact HO4.out), HB4, HKL2⟩
        case measure => rw [HG4.out.2, HL6.out]; exact HLT.out
end
section
open Go.RowKit Go.Maps Classical

def apB (a b : Nat) : Bool := decide (Apart a b)
theorem apartB (a b : Nat) (w : World) : Calls Tryz.prog 81 #[.int .u8 (a : Int), .int .u8 (b : Int)] w fun e w' => e = .returned (.bool (apB a b)) ∧ w' = w := apart15 a b w
set_option maxRecDepth 100000 in
set_option maxHeartbeats 3200000 in
theorem lkFree_any (q b C : Nat) (p : TxN → Nat × Nat) (l : List (UsP KeyT)) (x : UsP KeyT) (hx : x ∈ l) (k : KeyT) (w : World) (h : PLk w q b C p l) :
    Calls Tryz.prog 78 #[.pointer (some ⟨q, 0, none⟩), txVN x.tx, .agg (eightA k.1)] w fun e w' => e = .returned (.bool (decide (¬ NF l x k))) ∧ Below w.heap.size w w' := by
  have hxb : TxB x.tx := (h.ok.oks x hx).1
  have hE : (gU l p ⟨x.tx, hxb⟩).getD zE = (x.tm, x.tx, x.pr, some (p x.tx).1, some (p x.tx).2) := by
    have e : gU l p ⟨x.tx, hxb⟩ = some (x.tm, x.tx, x.pr, some (p x.tx).1, some (p x.tx).2) := by show (usL l x.tx).map _ = _; rw [(usL_some h.ok).2 ⟨hx, rfl⟩]; rfl
    rw [e]; rfl
  obtain ⟨⟨xm1, xm2⟩, hxm⟩ : ∃ m, m = p x.tx := ⟨_, rfl⟩
  rw [← hxm] at hE
  have hA := alloc_below14 w (.cells #[.int .u8 (x.tx.1 : Int), .int .u32 (x.tx.2.1 : Int), .int .u32 (x.tx.2.2 : Int)] 34)
  have hA2 := alloc_below14 (w.alloc (.cells #[.int .u8 (x.tx.1 : Int), .int .u32 (x.tx.2.1 : Int), .int .u32 (x.tx.2.2 : Int)] 34)) (.cells (eightA k.1) 38)
  have hB2 := hA.trans (hA2.mono hA.size)
  have HXT := hide ((box_new w #[.int .u8 (x.tx.1 : Int), .int .u32 (x.tx.2.1 : Int), .int .u32 (x.tx.2.2 : Int)] 34).belowI hA2)
  have HXK : Hid (Box ((w.alloc (.cells #[.int .u8 (x.tx.1 : Int), .int .u32 (x.tx.2.1 : Int), .int .u32 (x.tx.2.2 : Int)] 34)).alloc (.cells (eightA k.1) 38)) (w.heap.size + 1) (eightA k.1) 38) := hide (by have := box_new (w.alloc (.cells #[.int .u8 (x.tx.1 : Int), .int .u32 (x.tx.2.1 : Int), .int .u32 (x.tx.2.2 : Int)] 34)) (eightA k.1) 38; simpa using this)
  obtain ⟨w1, hw1⟩ : ∃ w1, w1 = (w.alloc (.cells #[.int .u8 (x.tx.1 : Int), .int .u32 (x.tx.2.1 : Int), .int .u32 (x.tx.2.2 : Int)] 34)).alloc (.cells (eightA k.1) 38) := ⟨_, rfl⟩
  obtain ⟨p1, hp1⟩ : ∃ p1, p1 = w.heap.size := ⟨_, rfl⟩
  obtain ⟨p2, hp2⟩ : ∃ p2, p2 = p1 + 1 := ⟨_, rfl⟩
  rw [← hw1, ← hp1] at HXT
  rw [← hw1, ← hp1, ← hp2] at HXK
  rw [← hw1] at hB2
  have hW1 := hw1.symm
  have hP1 := hp1.symm
  have hP2 := hp2.symm
  have H1 := hide (h.below hB2)
  have HB := hide hB2
  obtain ⟨n, n', _, hm2, _⟩ := H1.out.maps x hx
  rw [← hxm] at hm2
  have h0 : w1.cell? ⟨q, 0, none⟩ = some (.map (some b)) := H1.out.box.cell 0 _ rfl
  obtain ⟨k0, k1, k2⟩ := HXT.out.three
  obtain ⟨x0, x1, x2, x3, x4, x5, x6, x7⟩ := box_eight14 HXK.out
  have L1 := (H1.out.m.below (below_drew14 w1)).look1 umTy ⟨x.tx, hxb⟩
  rw [hE] at L1
  have hf3 := field3_us (x.tm, x.tx, x.pr, some xm1, some xm2)
  have L2 := (MRead.look (.inr ⟨_, _, rfl, hm2.below (below_drew14 w1)⟩) k : (Instr.lookup 81 (.map (some xm2)) (kyV k.1) false).run Tryz.prog w1.drew = _)
  obtain ⟨R, hR⟩ : ∃ R, R = decide (¬ NF l x k) := ⟨_, rfl⟩
  have HR := hide hR
  rw [← hR]
  clear h hA hA2 hB2 hw1 hp1 hp2 hE hR hm2 hxm
  have HXB := hide hxb
  have HGX := hide (getU_of H1.out.ok hx)
  obtain ⟨⟨xa, xb, xc⟩, xm, xp, xh, xw⟩ := x
  dsimp only at *
  go_enter Tryz.func78, Tryz.ntmps78
  go_wp2_with fail
  go_region
  have HB2 : Hid (Below w.heap.size w w1.drew) := hide (HB.out.trans ((below_drew14 w1).mono HB.out.size))
  have H2 := hide (H1.out.below (below_drew14 w1))
  have HXT2 := hide (HXT.out.belowI (below_drew14 w1))
  have HXK2 := hide (HXK.out.belowI (below_drew14 w1))
  have h02 : w1.drew.cell? ⟨q, 0, none⟩ = some (.map (some b)) := H2.out.box.cell 0 _ rfl
  have HZ1 : Hid (p1 < w1.drew.heap.size ∧ p2 < w1.drew.heap.size) := hide ⟨HXT2.out.lt, HXK2.out.lt⟩
  clear h0 k0 k1 k2 x0 x1 x2 x3 x4 x5 x6 x7 L1 L2 hf3 H1 HB HXT HXK
  generalize w1.drew = w2 at *
  go_wp2_with (at_range; refine wp_range_g umTy _ rfl _ rfl rfl H2.out.m ?_; intro w3 hrg hb2 hs2)
  go_frame
  obtain ⟨r, hr⟩ : ∃ r, r = w2.heap.size := ⟨_, rfl⟩
  rw [← hr] at hrg ⊢
  have HRG := hide hrg
  have HB3 := hide hb2
  have HRR := hide hr
  clear hrg hb2 hs2 h02 hr
  go_loopw [8] (fun _ wr => ∃ ks : List TxT, Hid (URng wr b r l p ks) ∧ Hid (∀ t ∈ ks, ∀ v ∈ l, v.tx = t.1 → ¬ (v.tx ≠ (xa, xb, xc) ∧ (Apart (xw k) (v.h k) ∨ (Old v ⟨(xa, xb, xc), xm, xp, xh, xw⟩ ∧ Apart (xw k) (v.w k))))) ∧ Hid (Below w2.heap.size w2 wr)) (fun _ wr => wr.rangeLeft b r)
  case atStart => exact ⟨[], HRG, hide (fun t ht => by cases ht), HB3⟩
  case round =>
    obtain ⟨ks, HG, HZ, HBW⟩ := hrel
    go_wp2_with (at_next; refine wp_next_g umTy _ rfl _ rfl rfl HG.out ?_ ?_)
    · intro hdone
      have HF : Hid (R = true) := hide (by
        rw [HR.out, decide_eq_true_eq]
        rintro ⟨u, hu, h1⟩
        obtain ⟨t, ht, e⟩ := gU_none hdone.all H2.out.ok u hu
        exact HZ.out t ht u hu e.symm h1)
      clear hdone
      go_wp2_with fail
      go_ret
      exact ⟨by rw [HF.out]; rfl, HB2.out.trans (HBW.out.mono HB2.out.size)⟩
    · rintro ⟨t, e, w3, hk, he, hrg3, hlt, hkb, hsz, hen⟩
      dsimp only at hen ⊢
      obtain ⟨u, hu, hut, rfl⟩ := gU_some H2.out.ok he
      have hbw3 : Below w2.heap.size w2 w3 := HBW.out.trans (hkb.below HBW.out.size (fun j e => by rw [e, HRR.out]; exact Nat.le_refl _))
      obtain ⟨n1, n2, hm1, hm2, _⟩ := (H2.out.below hbw3).maps u hu
      obtain ⟨⟨y1, y2, y3⟩, ht⟩ := t
      dsimp only at *
      rw [hut] at hm1 hm2
      obtain ⟨⟨m1, m2⟩, hmm⟩ : ∃ m, m = p (y1, y2, y3) := ⟨_, rfl⟩
      rw [← hmm] at hen hm1 hm2
      have HN : Hid (∀ v ∈ l, v.tx = (y1, y2, y3) → v = u) := hide (fun v hv e => rise_eq H2.out.ok.rise hv hu (e.trans hut.symm))
      have HGU : Hid (getU l (y1, y2, y3) = u) := hide (by rw [← hut]; exact getU_of H2.out.ok hu)
      have HUU := hide hu
      obtain ⟨ut, um, up, uh, uw⟩ := u
      dsimp only at *
      subst hut
      have HA5 : Hid (Below w3.heap.size w3 ((w3.alloc (.cells #[.int .u8 (y1 : Int), .int .u32 (y2 : Int), .int .u32 (y3 : Int)] 34)).alloc (.cells #[.int .u32 (um : Int), .int .u8 (y1 : Int), .int .u32 (y2 : Int), .int .u32 (y3 : Int), .bool up, .map (some m1), .map (some m2)] 83))) := hide ((alloc_below14 _ _).trans ((alloc_below14 _ _).mono (by simp)))
      have HB5 := hide (hbw3.trans (HA5.out.mono hbw3.size))
      obtain ⟨k0, k1, k2⟩ := (HXT2.out.belowI HB5.out).three
      obtain ⟨x0, x1, x2, x3, x4, x5, x6, x7⟩ := box_eight14 (HXK2.out.belowI HB5.out)
      have L1 := (MRead.look (.inr ⟨_, _, rfl, hm1.below HA5.out⟩) k : (Instr.lookup 81 (.map (some m1)) (kyV k.1) false).run Tryz.prog ((w3.alloc (.cells #[.int .u8 (y1 : Int), .int .u32 (y2 : Int), .int .u32 (y3 : Int)] 34)).alloc (.cells #[.int .u32 (um : Int), .int .u8 (y1 : Int), .int .u32 (y2 : Int), .int .u32 (y3 : Int), .bool up, .map (some m1), .map (some m2)] 83)) = _)
      have HM2 := hide (hm2.below HA5.out)
      have hg5 := hrg3.below HA5.out
      have HG5 := hide hg5.1
      have HL5 := hide hg5.2
      have HLT := hide hlt
      have HX5 : Hid (Box ((w3.alloc (.cells #[.int .u8 (y1 : Int), .int .u32 (y2 : Int), .int .u32 (y3 : Int)] 34)).alloc (.cells #[.int .u32 (um : Int), .int .u8 (y1 : Int), .int .u32 (y2 : Int), .int .u32 (y3 : Int), .bool up, .map (some m1), .map (some m2)] 83)) (w3.heap.size + 1) (usA (um, (y1, y2, y3), up, some m1, some m2)) 83) := hide (by have := box_new (w3.alloc (.cells #[.int .u8 (y1 : Int), .int .u32 (y2 : Int), .int .u32 (y3 : Int)] 34)) (usA (um, (y1, y2, y3), up, some m1, some m2)) 83; simpa using this)
      clear he hrg3 hkb hsz hbw3 hm1 hm2 hlt hmm hk hg5 hu
      have HST : Hid (¬ (((y1, y2, y3) : TxN) ≠ (xa, xb, xc) ∧ (Apart (xw k) (uh k) ∨ (Old (⟨(y1, y2, y3), um, up, uh, uw⟩ : UsP KeyT) (⟨(xa, xb, xc), xm, xp, xh, xw⟩ : UsP KeyT) ∧ Apart (xw k) (uw k)))) → ∀ t ∈ ks ++ [⟨(y1, y2, y3), ht⟩], ∀ v ∈ l, v.tx = t.1 → ¬ (v.tx ≠ (xa, xb, xc) ∧ (Apart (xw k) (v.h k) ∨ (Old v ⟨(xa, xb, xc), xm, xp, xh, xw⟩ ∧ Apart (xw k) (v.w k))))) := hide (fun hno t' ht' v hv e => by
        rcases List.mem_append.1 ht' with h2 | h2
        · exact HZ.out t' h2 v hv e
        · rw [List.mem_singleton] at h2
          subst h2
          rw [HN.out v hv e]
          exact hno)
      have HBAD : Hid (((y1, y2, y3) : TxN) ≠ (xa, xb, xc) ∧ (Apart (xw k) (uh k) ∨ (Old (⟨(y1, y2, y3), um, up, uh, uw⟩ : UsP KeyT) (⟨(xa, xb, xc), xm, xp, xh, xw⟩ : UsP KeyT) ∧ Apart (xw k) (uw k))) → R = false) := hide (fun hb => by
        rw [HR.out, decide_eq_false_iff_not]
        exact fun h => h ⟨_, HUU.out, hb⟩)
      obtain ⟨S, hS⟩ : ∃ S, S = stsF ((⟨(y1, y2, y3), um, up, uh, uw⟩ : UsP KeyT)).ag ((⟨(xa, xb, xc), xm, xp, xh, xw⟩ : UsP KeyT)).ag := ⟨_, rfl⟩
      have CB : Hid (∀ W, PLk W q b C p l → Calls Tryz.prog 41 #[.pointer (some ⟨q, 0, none⟩), txVN (y1, y2, y3), txVN (xa, xb, xc)] W fun e w' => e = .returned (.int .i64 S) ∧ Grown W w') := hide (fun W hW => by
        have := byAge15 q b C p l (y1, y2, y3) (xa, xb, xc) W hW ht HXB.out
        rw [HGU.out, HGX.out, ← hS] at this
        exact this)
      have HS : Hid (Old (⟨(y1, y2, y3), um, up, uh, uw⟩ : UsP KeyT) (⟨(xa, xb, xc), xm, xp, xh, xw⟩ : UsP KeyT) ↔ S < 0) := hide (by rw [hS])
      have HPL := hide (H2.out.below HB5.out)
      have HC8 : Hid (∀ W, Below ((w3.alloc (.cells #[.int .u8 (y1 : Int), .int .u32 (y2 : Int), .int .u32 (y3 : Int)] 34)).alloc (.cells #[.int .u32 (um : Int), .int .u8 (y1 : Int), .int .u32 (y2 : Int), .int .u32 (y3 : Int), .bool up, .map (some m1), .map (some m2)] 83)).heap.size ((w3.alloc (.cells #[.int .u8 (y1 : Int), .int .u32 (y2 : Int), .int .u32 (y3 : Int)] 34)).alloc (.cells #[.int .u32 (um : Int), .int .u8 (y1 : Int), .int .u32 (y2 : Int), .int .u32 (y3 : Int), .bool up, .map (some m1), .map (some m2)] 83)) W → (W.cell? ⟨w3.heap.size + 1, 6, none⟩ = some (.map (some m2)) ∧ W.cell? ⟨p2, 0, none⟩ = some (.int .u8 (at8 k.1 0)) ∧ W.cell? ⟨p2, 1, none⟩ = some (.int .u8 (at8 k.1 1)) ∧ W.cell? ⟨p2, 2, none⟩ = some (.int .u8 (at8 k.1 2)) ∧ W.cell? ⟨p2, 3, none⟩ = some (.int .u8 (at8 k.1 3)) ∧ W.cell? ⟨p2, 4, none⟩ = some (.int .u8 (at8 k.1 4)) ∧ W.cell? ⟨p2, 5, none⟩ = some (.int .u8 (at8 k.1 5)) ∧ W.cell? ⟨p2, 6, none⟩ = some (.int .u8 (at8 k.1 6)) ∧ W.cell? ⟨p2, 7, none⟩ = some (.int .u8 (at8 k.1 7))) ∧ (Instr.lookup 81 (.map (some m2)) (kyV k.1) false).run Tryz.prog W = .ok (.int .u8 ((uw k : Nat) : Int)) W) := hide (fun W hW => ⟨⟨(HX5.out.belowI hW).cell 6 _ rfl, box_eight14 ((HXK2.out.belowI HB5.out).belowI hW)⟩, MRead.look (.inr ⟨_, _, rfl, HM2.out.below hW⟩) k⟩)
      have HEQ := eql_tx (y1 : Int) (y2 : Int) (y3 : Int) (xa : Int) (xb : Int) (xc : Int)
      obtain ⟨Z, hZ⟩ : ∃ Z, Z = ((y1 : Int) == (xa : Int) && (y2 : Int) == (xb : Int) && (y3 : Int) == (xc : Int)) := ⟨_, rfl⟩
      rw [← hZ] at HEQ
      have HZE : Hid (Z = true ↔ ((y1, y2, y3) : TxN) = (xa, xb, xc)) := hide (by
        rw [hZ]
        simp only [Bool.and_eq_true, beq_iff_eq, Prod.mk.injEq]
        omega)
      clear hS hZ
      cases Z with
      | true =>
        have HZ2 := hide (HST.out (fun h => h.1 (HZE.out.1 rfl)))
        go_wp2_with fail
        go_roundw
        case rel => exact ⟨ks ++ [⟨(y1, y2, y3), ht⟩], HG5, HZ2, HB5⟩
        case measure => rw [HL5.out]; exact HLT.out
      | false =>
        have HNE : Hid (((y1, y2, y3) : TxN) ≠ (xa, xb, xc)) := hide (fun e => by have := HZE.out.2 e; cases this)
        have HA1 : Hid (apB (xw k) (uh k) = true ↔ Apart (xw k) (uh k)) := hide decide_eq_true_iff
        have HA2 : Hid (apB (xw k) (uw k) = true ↔ Apart (xw k) (uw k)) := hide decide_eq_true_iff
        cases a1 : apB (xw k) (uh k) with
        | true =>
          have HF := hide (HBAD.out ⟨HNE.out, .inl (HA1.out.1 a1)⟩)
          go_wp2_with (go_at_call 81; refine (apartB _ _ _).mono ?_; rintro e w' ⟨rfl, rfl⟩)
          go_ret
          have hfin := HB2.out.trans (HB5.out.mono HB2.out.size)
          exact ⟨by rw [HF.out]; rfl, hfin⟩
        | false =>
          have HN1 : Hid (¬ Apart (xw k) (uh k)) := hide (fun h => by have := HA1.out.2 h; rw [a1] at this; cases this)
          by_cases hS : S < 0
          case neg =>
            have HZ2 := hide (HST.out (fun h => h.2.elim HN1.out (fun h => hS (HS.out.1 h.1))))
            go_wp2_with (first | (go_at_call 81; refine (apartB _ _ _).mono ?_; rintro e w' ⟨rfl, rfl⟩) | (go_at_call 41; refine (CB.out _ HPL.out).mono ?_; rintro e w8 ⟨rfl, hG⟩; have HB8 := hide hG.below; have hc8 := HC8.out w8 hG.below; obtain ⟨⟨hc6, c0, c1, c2, c3, c4, c5, c6, c7⟩, L8⟩ := hc8; clear hG))
            have HGZ := hide (HG5.out.below HB8.out)
            go_roundw
            case rel => exact ⟨ks ++ [⟨(y1, y2, y3), ht⟩], hide HGZ.out.1, HZ2, hide (HB5.out.trans (HB8.out.mono HB5.out.size))⟩
            case measure => rw [HGZ.out.2, HL5.out]; exact HLT.out
          case pos =>
          cases a2 : apB (xw k) (uw k) with
          | false =>
            have HZ2 := hide (HST.out (fun h => h.2.elim HN1.out (fun h => by have := HA2.out.2 h.2; rw [a2] at this; cases this)))
            go_wp2_with (first | (go_at_call 81; refine (apartB _ _ _).mono ?_; rintro e w' ⟨rfl, rfl⟩) | (go_at_call 41; refine (CB.out _ HPL.out).mono ?_; rintro e w8 ⟨rfl, hG⟩; have HB8 := hide hG.below; have hc8 := HC8.out w8 hG.below; obtain ⟨⟨hc6, c0, c1, c2, c3, c4, c5, c6, c7⟩, L8⟩ := hc8; clear hG))
            have HGZ := hide (HG5.out.below HB8.out)
            go_roundw
            case rel => exact ⟨ks ++ [⟨(y1, y2, y3), ht⟩], hide HGZ.out.1, HZ2, hide (HB5.out.trans (HB8.out.mono HB5.out.size))⟩
            case measure => rw [HGZ.out.2, HL5.out]; exact HLT.out
          | true =>
            have HF := hide (HBAD.out ⟨HNE.out, .inr ⟨HS.out.2 hS, HA2.out.1 a2⟩⟩)
            go_wp2_with (first | (go_at_call 81; refine (apartB _ _ _).mono ?_; rintro e w' ⟨rfl, rfl⟩) | (go_at_call 41; refine (CB.out _ HPL.out).mono ?_; rintro e w8 ⟨rfl, hG⟩; have HB8 := hide hG.below; have hc8 := HC8.out w8 hG.below; obtain ⟨⟨hc6, c0, c1, c2, c3, c4, c5, c6, c7⟩, L8⟩ := hc8; clear hG))
            go_ret
            have hfin := HB2.out.trans ((HB5.out.trans (HB8.out.mono HB5.out.size)).mono HB2.out.size)
            exact ⟨by rw [HF.out]; rfl, hfin⟩
end
end Go.Proofs.YtddflccjmigloaaGreat
