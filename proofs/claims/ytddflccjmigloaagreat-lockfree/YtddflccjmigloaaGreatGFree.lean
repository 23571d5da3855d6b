/-
  Proved: where all prepared ones of the program's table of locks are released, the oldest user that is left does not wait, again and again until nobody is left, whatever calls came, in whatever order. For every input of the form's own reach (of a script the first 60 calls count; one that is too large is passed by, as the law says). Own work.
-/
import Derived.Test.YtddflccjmigloaaGreatG34
import Derived.Test.YtddflccjmigloaaGreatG35
import Derived.Test.YtddflccjmigloaaGreatG36
import Derived.Test.YtddflccjmigloaaGreatG22
import Derived.Test.YtddflccjmigloaaGreatG32
import Derived.SizedLaws
import Derived.ChangeArms
namespace Go.Proofs.YtddflccjmigloaaGreat
section
open Go.RowKit Go.Maps Classical

/-- What is left of a table where the prepared ones of the first k were released. -/
structure RelTo (l l2 : List (UsP KeyT)) (k : Nat) : Prop where
  who : ∀ v ∈ l2, ∃ u ∈ l, v.tx = u.tx ∧ v.tm = u.tm ∧ v.pr = u.pr
  pr : ∀ v ∈ l2, v.pr = true → v.tx ∉ (l.take k).map (·.tx)
theorem relTo_zero (l : List (UsP KeyT)) : RelTo l l 0 := ⟨fun v hv => ⟨v, hv, rfl, rfl, rfl⟩, fun v _ _ h => by simp at h⟩
theorem take_tx {l : List (UsP KeyT)} {k : Nat} (hk : k < l.length) {y : UsP KeyT} (hy : l[k] = y) (t : TxN) : t ∈ (l.take (k + 1)).map (·.tx) → t ∈ (l.take k).map (·.tx) ∨ t = y.tx := by
  rw [List.take_succ_eq_append_getElem hk, hy, List.map_append]
  simp
theorem RelTo.step {l l2 : List (UsP KeyT)} {k : Nat} (h : RelTo l l2 k) (hb : LkB l2) (hk : k < l.length) {y : UsP KeyT} (hy : l[k] = y) (hp : (getU l2 y.tx).pr = false) : RelTo l l2 (k + 1) :=
  ⟨h.who, fun v hv hpv hi => by
    rcases take_tx hk hy _ hi with h1 | h1
    · exact h.pr v hv hpv h1
    · rw [← h1, getU_of hb hv, hpv] at hp
      cases hp⟩
theorem RelTo.rel {l l2 l3 : List (UsP KeyT)} {k : Nat} {er : Int} {gr : List (GtP KeyT)} (h : RelTo l l2 k) (hI : LkI l2) (hk : k < l.length) {y : UsP KeyT} (hy : l[k] = y) (hp : (getU l2 y.tx).pr = true) (hR : RelR kysF l2 y.tx er l3 gr) : er = 0 ∧ RelTo l l3 (k + 1) := by
  obtain ⟨x, hx⟩ : ∃ x, usL l2 y.tx = some x := by
    cases e : usL l2 y.tx with
    | some x => exact ⟨x, rfl⟩
    | none =>
      unfold getU at hp
      rw [e] at hp
      cases hp
  obtain ⟨hx1, hx2⟩ := (usL_some hI.b).1 hx
  obtain ⟨he, _, hn, _⟩ := rel_some hI hR hx1 hx2
  refine ⟨he, ⟨fun v hv => ?_, fun v hv hpv hi => ?_⟩⟩
  · obtain ⟨u, hu, e1, e2, e3⟩ := rel_who hR v hv
    obtain ⟨u2, hu2, f1, f2, f3⟩ := h.who u hu
    exact ⟨u2, hu2, e1.trans f1, e2.trans f2, e3.trans f3⟩
  · obtain ⟨u, hu, e1, e2, e3⟩ := rel_who hR v hv
    rcases take_tx hk hy _ hi with h1 | h1
    · exact h.pr u hu (e3 ▸ hpv) (e1 ▸ h1)
    · exact hn v hv h1
theorem RelTo.all {l l2 : List (UsP KeyT)} (h : RelTo l l2 l.length) : ∀ u ∈ l2, u.pr = false := fun u hu => by
  cases e : u.pr with
  | false => rfl
  | true =>
    refine absurd ?_ (h.pr u hu e)
    rw [List.take_length]
    obtain ⟨v, hv, e1, _⟩ := h.who u hu
    exact List.mem_map.2 ⟨v, hv, e1.symm⟩
/-- What holds of the users where none is prepared any more: their stamps are the map's. -/
structure LastU (l l3 : List (UsP KeyT)) : Prop where
  pr : ∀ u ∈ l3, u.pr = false
  ag : ∀ u ∈ l3, ∀ h : TxB u.tx, ageG l ⟨u.tx, h⟩ = some (u.tm, u.tx)
theorem RelTo.last {l l2 : List (UsP KeyT)} (hb : LkB l) (h : RelTo l l2 l.length) : LastU l l2 := ⟨h.all, fun u hu ht => by
  obtain ⟨v, hv, e1, e2, _⟩ := h.who u hu
  unfold ageG
  rw [(usL_some hb).2 ⟨hv, e1.symm⟩, e1, e2]
  rfl⟩
theorem LastU.rel {l l2 l3 : List (UsP KeyT)} {t : TxN} {er : Int} {gr : List (GtP KeyT)} (h : LastU l l2) (hR : RelR kysF l2 t er l3 gr) : LastU l l3 :=
  ⟨fun v hv => by obtain ⟨u, hu, _, _, e3⟩ := rel_who hR v hv; rw [e3]; exact h.pr u hu, fun v hv ht => by
    obtain ⟨u, hu, e1, e2, _⟩ := rel_who hR v hv
    have h9 := h.ag u hu (e1 ▸ ht)
    have e3 : (⟨v.tx, ht⟩ : TxT) = ⟨u.tx, e1 ▸ ht⟩ := Subtype.ext e1
    rw [e3, h9, e1, e2]⟩
theorem ag_I (u : UsP KeyT) : u.ag = ((u.tm : Int), (u.tx.1 : Int), (u.tx.2.1 : Int), (u.tx.2.2 : Int)) := rfl
theorem first_free {l : List (UsP KeyT)} (h : LkI l) (hp : ∀ u ∈ l, u.pr = false) {x : UsP KeyT} (hx : x ∈ l) (ho : ∀ i, (hi : i < l.length) → ¬ Old l[i] x) (k : KeyT) : (getU l x.tx).w k = 0 := by
  rw [getU_of h.b hx]
  refine oldest_free h hp hx (fun u hu hne => ?_) k
  obtain ⟨i, hi, rfl⟩ := List.getElem_of_mem hu
  exact (old_total (u := x) (v := l[i]) (fun e => hne e.symm)).resolve_right (ho i hi)

theorem old_take {l : List (UsP KeyT)} {x : UsP KeyT} {j : Nat} (hj : j < l.length) (h : ∀ i, (hi : i < l.length) → i < j → ¬ Old l[i] x) (ho : Old l[j] x) : ∀ i, (hi : i < l.length) → i < j + 1 → ¬ Old l[i] l[j] := fun i hi hij e => by
  by_cases c : i = j
  · subst c
    exact e.asymm e
  · exact h i hi (by omega) (e.trans ho)
theorem old_stay {l : List (UsP KeyT)} {x : UsP KeyT} {j : Nat} (hj : j < l.length) (h : ∀ i, (hi : i < l.length) → i < j → ¬ Old l[i] x) (ho : ¬ Old l[j] x) : ∀ i, (hi : i < l.length) → i < j + 1 → ¬ Old l[i] x := fun i hi hij => by
  by_cases c : i = j
  · subst c
    exact ho
  · exact h i hi (by omega)

variable {D : World → Nat → (Nat → Prop) → Nat → List (UsP KeyT) → Prop}
set_option maxRecDepth 100000 in
set_option maxHeartbeats 6400000 in
theorem walkF15 (H : LockDo D) (v : Value) (fs : List LActV) (w : World) (hL : RSrc lactE w v fs) (hok : ∀ a ∈ fs, LvOk w a) :
    Calls Tryz.prog 5 #[v] w fun e w' => e = .returned (.bool true) ∧ Below w.heap.size w w' := by
  obtain ⟨ao, cap, rfl, hc, hm⟩ := hL.shape
  obtain ⟨LF, hLF⟩ : ∃ LF, LF = fs.length := ⟨_, rfl⟩
  rw [← hLF]
  have HSF : Hid (RSrc lactE w (.slice ao LF cap) fs) := hide (by rw [hLF]; exact hL)
  have HSO := hide hok
  have CF := hide (fun W (hB : Below w.heap.size w W) => far_any15 (.slice ao LF cap) fs W (HSF.out.below hB) (fun a ha => lvok_below (HSO.out a ha) hB))
  have CA := hide (fun W => alive_by15 H W)
  have CSH := hide (fun W => short_any15 (.slice ao LF cap) fs W w HSF.out)
  clear hL hok hLF hc hm
  go_enter Tryz.func5, Tryz.ntmps5
  go_wp2_with fail
  refine (H.new w).mono ?_
  rintro e w1 ⟨q, F1, rfl, hD1, hF1, hB1⟩
  have HN1 : Hid (Since15 D w q F1 0 [] w1) := hide ⟨hD1, hF1, hB1⟩
  clear hD1 hF1 hB1
  go_wp2_with fail
  obtain ⟨RF, hRF⟩ : ∃ RF, RF = farL fs := ⟨_, rfl⟩
  have CF' := hide (CF.out w1 HN1.out.b)
  rw [← hRF] at CF'
  have HRF := hide hRF
  clear hRF CF
  cases RF with
  | true =>
    refine CF'.out.mono ?_
    rintro e w2 ⟨rfl, hB2⟩
    have HB2 := hide (HN1.out.b.trans (hB2.mono HN1.out.b.size))
    clear hB2
    go_wp2_with (go_at_call 8; refine (CA.out _).mono ?_; rintro e w3 ⟨rfl, hB3⟩; have HB3 := hide (HB2.out.trans (hB3.mono HB2.out.size)); clear hB3)
    go_ret
    exact ⟨rfl, HB3.out⟩
  | false =>
  refine CF'.out.mono ?_
  rintro e w2 ⟨rfl, hB2⟩
  replace HN1 := hide (HN1.out.below H hB2)
  clear hB2 CF'
  obtain ⟨ts, hts⟩ : ∃ ts, ts = fs.take 60 := ⟨_, rfl⟩
  have HTO : Hid (∀ a ∈ ts, LvOk w a) := hide (fun a ha => by rw [hts] at ha; exact HSO.out a (List.mem_of_mem_take ha))
  have HTK : Hid (∀ a ∈ ts, a.a.ks.length ≤ 30) := hide (fun a ha => by rw [hts] at ha; exact far_ks HRF.out.symm a ha)
  simp only [← hts] at CSH
  obtain ⟨LN, hLN⟩ : ∃ LN, LN = ts.length := ⟨_, rfl⟩
  have hKl : LN ≤ 60 := by rw [hLN, hts, List.length_take]; omega
  have HLN := hide hLN
  clear hts hLN HRF
  have hmm := @run_makeMap Tryz.prog
  have hMA := alloc_below14 w2 (.map #[] 0)
  have hM0 := gmap_made smTy w2
  obtain ⟨bm0, hbm0⟩ : ∃ bm0, bm0 = w2.heap.size := ⟨_, rfl⟩
  obtain ⟨w3, hw3⟩ : ∃ w3, w3 = w2.alloc (.map #[] 0) := ⟨_, rfl⟩
  rw [← hw3, ← hbm0] at hM0
  rw [← hw3] at hMA
  have HM0 : Hid (SM15 w3 bm0 (ageG []) 0) := hide (hM0.as (fun k => rfl))
  have HNF0 : Hid (¬ F1 bm0) := hide (fun e => by have := H.lt HN1.out.d _ e; omega)
  replace HN1 := hide (HN1.out.below H hMA)
  have hW3 := hw3.symm
  have hBM := hbm0.symm
  clear hMA hM0 hbm0 hw3
  go_wp2_with (go_at_call 9; refine (CSH.out _).mono ?_; rintro e Y1 ⟨v1, rfl, rfl, hT⟩; obtain ⟨ta, tc, e1, _, _⟩ := hT.shape; rw [← HLN.out] at e1; subst e1; have HT := hide hT; clear hT)
  clear hW3 hBM hmm
  have HI0 : Hid (LkI ([] : List (UsP KeyT))) := hide lki_nil
  go_loopg [4, 31] LN (fun g s4 i wr => ∃ (k C bm nm : Nat) (F : Nat → Prop) (l : List (UsP KeyT)), k + g = LN ∧ s4 = .map (some bm) ∧ i = .int .i64 k ∧ C ≤ 30 + k ∧ Hid (LkI l) ∧ Hid (Since15 D w q F C l wr) ∧ Hid (SM15 wr bm (ageG l) nm) ∧ Hid (¬ F bm))
  case atStart => exact ⟨0, 0, bm0, 0, F1, [], by omega, rfl, rfl, by omega, HI0, HN1, HM0, HNF0⟩
  case round =>
    clear HI0 HN1 HM0 HNF0
    obtain ⟨k, C, bm, nm, F, l, hk, rfl, rfl, hC, HI, HN, HM, HNB⟩ := hrel
    cases gk with
    | succ g =>
      have hz : (k : Int) < (LN : Int) := by omega
      have hkn : k < ts.length := by rw [← HLN.out]; omega
      obtain ⟨en, b, off, rfl, hb, hcl⟩ := (HT.out.below HN.out.b).at recLA.len hkn
      have HRg : Hid (wr.rangeAt b (off + k * 15) (lactE ts[k])) := hide (fun j v hv => hcl j v hv)
      have HOA := hide (lvok_below (HTO.out _ (List.getElem_mem hkn)) HN.out.b)
      have HKA := hide (HTK.out _ (List.getElem_mem hkn))
      have HOW := hide (HTO.out _ (List.getElem_mem hkn))
      generalize ts[k] = ax at *
      obtain ⟨a, u⟩ := ax
      obtain ⟨ro, rc, e1, hrc, _⟩ := HOA.out.src.shape
      dsimp only at e1
      subst e1
      clear hcl en hb hrc
      obtain ⟨p5, hp5⟩ : ∃ p5, p5 = wr.heap.size := ⟨_, rfl⟩
      have HZ := hide (box_new wr (lactA zeroLV.a zeroLV.p) 41)
      have HZB : Hid (Below wr.heap.size wr (wr.alloc (.cells (lactA zeroLV.a zeroLV.p) 41))) := hide (alloc_below14 wr _)
      go_wp2_with (first | (refine wpList_load_mid rfl 41 _ rfl b (off + k * 15) rfl (lactE ⟨a, .slice ro a.ks.length rc⟩) _ HRg.out Tryz.underlying41 rfl infoLA ?_) | (refine wp_store_box rfl rfl _ _ rfl wr.heap.size rfl (cs' := lactA a (.slice ro a.ks.length rc)) rfl HZ.out rfl infoLA (by simp [Value.oneCell']) ?_; intro w5 hb3 hk3; have HX5 := hide hb3; have HB5 : Hid (Below wr.heap.size wr w5) := hide (HZB.out.trans (hk3.below HZB.out.size (fun k hk => by omega))); clear hb3 hk3) | (refine wp_load_box rfl _ rfl wr.heap.size rfl HX5.out Tryz.underlying41 rfl infoLA ?_))
      have HN5 := hide (HN.out.below H HB5.out)
      have HM5 := hide (HM.out.below HB5.out)
      have HNF : Hid (¬ F p5) := hide (fun hf => by have := H.lt HN.out.d _ hf; omega)
      rw [← hp5] at HX5 ⊢
      refine (does_any15 H a (.slice ro a.ks.length rc) HN5.out.d (by omega) (lvok_below HOA.out HB5.out) HKA.out).mono ?_
      rintro e w6 ⟨⟨vw, vg, er, wn, gr, l2, C2, rfl, hR, hC2, hd, _, _⟩⟩
      have HI2 : Hid (LkI l2) := hide (does_ok HI.out HOA.out.tx HOA.out.tm hR)
      obtain ⟨F2, hs6, hk6, hf6⟩ := HN5.out.did hd
      have HN6 := hide hs6
      have HX6 := hide (HX5.out.keep hk6 HNF.out)
      have HM6 := hide (HM5.out.keep hk6 HNB.out)
      have HDW := hide (does_who hR)
      have HOA6 := hide (lvok_below HOW.out hs6.b)
      have hC3 : C2 ≤ 30 + (k + 1) := cgrow hC hC2
      clear hR hd hs6 hk6 hf6 hC2 HZ HZB HRg HX5 HN5 HN HNF hp5 HM HM5
      go_wp2_with (refine wp_load_box rfl _ rfl p5 rfl HX6.out Tryz.underlying41 rfl infoLA ?_)
      refine (stamps_any15 H a (.slice ro a.ks.length rc) HN6.out.d HI2.out HI.out HM6.out HOA6.out HDW.out).mono ?_
      rintro e w7 ⟨⟨bm2, nm2, rfl, hm7, hb7, hB7⟩⟩
      have HN7 := hide (HN6.out.below H hB7)
      have HM7 := hide hm7
      have HNB7 : Hid (¬ F2 bm2) := hide (fun e => by have := H.lt HN6.out.d _ e; omega)
      clear hm7 hb7 hB7 HN6 HM6 HX6
      go_wp2_with fail
      go_roundg g
      case measure => omega
      case rel => exact ⟨k + 1, C2, bm2, nm2, F2, l2, by omega, rfl, by first | rfl | go_num, hC3, HI2, HN7, HM7, HNB7⟩
    | zero =>
      obtain rfl : k = LN := by omega
      have hz : ¬ ((k : Int) < (k : Int)) := by omega
      have hC9 : C ≤ 150 := by omega
      clear hC HLN HTO HTK HT
      have CU := hide (H.users HN.out.d)
      obtain ⟨LL, hLL⟩ : ∃ LL, LL = l.length := ⟨_, rfl⟩
      have hLm : LL ≤ 64 := by rw [hLL]; exact HI.out.b.few
      have HLL := hide hLL
      have HRT0 : Hid (RelTo l l 0) := hide (relTo_zero l)
      clear hLL
      go_wp2_with (go_at_call 15; refine CU.out.mono ?_; rintro e w7 ⟨vu, rfl, hou, hB7⟩; have HOU := hide hou; obtain ⟨ua, uc, e7, _⟩ := owns_shapeR hou; rw [← HLL.out] at e7; subst e7; have HN7 := hide (HN.out.below H hB7); have HM7 := hide (HM.out.below hB7); have HRF : Hid (∀ g, (Value.slice ua LL uc).ownBlock = some g → ¬ F g) := hide (fun g hg e => by have h1 := (hou.lt g hg).1; have h2 := H.lt HN.out.d g e; omega); clear hou hB7)
      clear CU HM HN
      go_loopg [46] LL (fun g i W => ∃ (j : Nat) (F2 : Nat → Prop) (l2 : List (UsP KeyT)), j + g = LL ∧ i = .int .i64 j ∧ Hid (LkI l2) ∧ Hid (Since15 D w q F2 C l2 W) ∧ Hid (¬ F2 bm) ∧ Hid (∀ g, (Value.slice ua LL uc).ownBlock = some g → ¬ F2 g) ∧ Hid (SM15 W bm (ageG l) nm) ∧ Hid (W.ownsRow wr.heap.size 34 3 (.slice ua LL uc) l.length (rowOf (l.map fun x => txI x.tx))) ∧ Hid (RelTo l l2 j))
      case atStart => exact ⟨0, F, l, by omega, rfl, HI, HN7, HNB, HRF, HM7, HOU, HRT0⟩
      case round =>
        clear HN7 HNB HRF HM7 HOU HRT0
        obtain ⟨j, F2, l2, hj, rfl, HI2, HN2, HNB2, HRF2, HM2, HO2, HRT⟩ := hrel
        cases gk with
        | succ g =>
          have hz2 : (j : Int) < (LL : Int) := by omega
          have hjn : j < l.length := by rw [← HLL.out]; omega
          have hsu := src_users HO2.out
          obtain ⟨en, b, off, e9, hb, hcl⟩ := hsu.at (K := 3) (fun _ => rfl) hjn
          subst e9
          have HRg : Hid (wr.rangeAt b (off + j * 3) (txCs (txI l[j].tx))) := hide (fun j v hv => hcl j v hv)
          have HTX : Hid (TxB l[j].tx) := hide (HI.out.b.oks _ (List.getElem_mem hjn)).1
          have HS1 := hide (fun hp => HRT.out.step HI2.out.b hjn rfl hp)
          have HS2 : Hid (∀ (er : Int) (l3 : List (UsP KeyT)) (gr : List (GtP KeyT)), (getU l2 l[j].tx).pr = true → RelR kysF l2 l[j].tx er l3 gr → er = 0 ∧ RelTo l l3 (j + 1)) := hide (fun er l3 gr hp hR => HRT.out.rel HI2.out hjn rfl hp hR)
          generalize l[j] = y at *
          clear hcl en hb hsu
          have HZ := hide (box_new wr #[.int .u8 0, .int .u32 0, .int .u32 0] 34)
          have HZB : Hid (Below wr.heap.size wr (wr.alloc (.cells #[.int .u8 0, .int .u32 0, .int .u32 0] 34))) := hide (alloc_below14 wr _)
          obtain ⟨p8, hp8⟩ : ∃ p8, p8 = wr.heap.size := ⟨_, rfl⟩
          go_wp2_with (first | (refine wpList_load_mid rfl 34 _ rfl b (off + j * 3) rfl (txCs (txI y.tx)) _ HRg.out Tryz.underlying34 rfl infoTx15 ?_) | (refine wp_store_box rfl rfl _ _ rfl wr.heap.size rfl (cs' := #[.int .u8 (y.tx.1 : Int), .int .u32 (y.tx.2.1 : Int), .int .u32 (y.tx.2.2 : Int)]) rfl HZ.out rfl infoTx15 (by simp [Value.oneCell']) ?_; intro w8 hb3 hk3; have HX8 := hide hb3; have HB8 : Hid (Below wr.heap.size wr w8) := hide (HZB.out.trans (hk3.below HZB.out.size (fun k hk => by omega))); clear hb3 hk3) | (refine wp_load_box rfl _ rfl wr.heap.size rfl HX8.out Tryz.underlying34 rfl infoTx15 ?_))
          have HN8 := hide (HN2.out.below H HB8.out)
          refine (H.prepd y.tx HN8.out.d HTX.out).mono ?_
          rintro e w9 ⟨rfl, hB9⟩
          have HB9 := hide (HB8.out.trans (hB9.mono HB8.out.size))
          have HX9 := hide (HX8.out.belowI hB9)
          have HN9 := hide (HN8.out.below H hB9)
          have HM9 := hide (HM2.out.below HB9.out)
          have HO9 := hide (owns_keep HO2.out (KeepBut.of_below (fun _ => False) HB9.out) (fun _ _ e => e))
          clear HZ HZB HRg HX8 HB8 HN8 hB9
          obtain ⟨PB, hPB⟩ : ∃ PB, PB = (getU l2 y.tx).pr := ⟨_, rfl⟩
          rw [← hPB] at HS1 HS2 ⊢
          clear hPB
          cases PB with
          | false =>
            go_wp2_with fail
            go_roundg g
            case measure => omega
            case rel => exact ⟨j + 1, F2, l2, by omega, by first | rfl | go_num, HI2, HN9, HNB2, HRF2, HM9, HO9, hide (HS1.out (by first | rfl | trivial))⟩
          | true =>
            rw [← hp8] at HX9
            have HP8 : Hid (¬ F2 p8) := hide (fun e => by have := H.lt HN2.out.d _ e; omega)
            go_wp2_with (refine wp_load_box rfl _ rfl p8 (by rw [hp8]; rfl) HX9.out Tryz.underlying34 rfl infoTx15 ?_)
            refine (H.rel y.tx HN9.out.d hC9 HTX.out).mono ?_
            rintro e w10 ⟨vg, er, gr, l3, rfl, hR, hd, hog⟩
            obtain ⟨rfl, hrt⟩ := HS2.out er l3 gr (by first | rfl | trivial) hR
            have HRT3 := hide hrt
            have HI3 : Hid (LkI l3) := hide (relR_ok HI2.out hR)
            obtain ⟨F3, hs, hkF, hf⟩ := HN9.out.did hd
            have HNB3 : Hid (¬ F3 bm) := hide (fun e => (hf bm e).elim HNB2.out (fun e2 => by have := HM9.out.lt; omega))
            have HRF3 : Hid (∀ g, (Value.slice (some ⟨b, off, none⟩) LL uc).ownBlock = some g → ¬ F3 g) := hide (fun g hg e => (hf g e).elim (HRF2.out g hg) (fun e2 => by have := (HO9.out.lt g hg).2; omega))
            have HM10 := hide (HM9.out.keep hkF HNB2.out)
            have HO10 := hide (owns_keep HO9.out hkF (fun g hg e => HRF2.out g hg e))
            have HN10 := hide hs
            obtain ⟨ag, cg, rfl, _⟩ := owns_shapeR hog
            have HZ10 := hide (box_new w10 zO 45)
            have HZC := hide (alloc_below14 w10 (.cells zO 45))
            clear hR hd hog hrt hs hkF hf HX9 HN9 HM9 HO9 HP8
            go_wp2_with (refine wp_store_box rfl rfl _ _ rfl w10.heap.size rfl (cs' := #[.slice none 0 0, .slice ag gr.length cg]) rfl HZ10.out rfl infoOut15 (by simp [Value.oneCell']) ?_; intro w11 hb4 hk4; have HB11 : Hid (Below w10.heap.size w10 w11) := hide (HZC.out.trans (hk4.below HZC.out.size (fun k hk => by omega))); clear hb4 hk4)
            go_roundg g
            case measure => omega
            case rel => exact ⟨j + 1, F3, l3, by omega, by first | rfl | go_num, HI3, hide (HN10.out.below H HB11.out), HNB3, HRF3, hide (HM10.out.below HB11.out), hide (owns_keep HO10.out (KeepBut.of_below (fun _ => False) HB11.out) (fun _ _ e => e)), HRT3⟩
        | zero =>
          obtain rfl : j = LL := by omega
          have hz2 : ¬ ((j : Int) < (j : Int)) := by omega
          have HLU : Hid (LastU l l2) := hide (RelTo.last HI.out.b (by rw [← HLL.out]; exact HRT.out))
          have hl64 : l2.length ≤ 64 := HI2.out.b.few
          clear HRF2 HO2 HRT
          go_wp2_with fail
          go_loopg [62] 65 (fun g i W => ∃ (n3 : Nat) (F : Nat → Prop) (l3 : List (UsP KeyT)), n3 + g = 65 ∧ i = .int .i64 n3 ∧ l3.length + n3 ≤ 64 ∧ Hid (LkI l3) ∧ Hid (Since15 D w q F C l3 W) ∧ Hid (¬ F bm) ∧ Hid (SM15 W bm (ageG l) nm) ∧ Hid (LastU l l3))
          case atStart => exact ⟨0, F2, l2, by omega, rfl, by omega, HI2, HN2, HNB2, HM2, HLU⟩
          case round =>
            clear HI2 HN2 HNB2 HM2 HLU hl64
            obtain ⟨n3, F, l3, hn3, rfl, hle, HI3, HN, HNB3, HM, HLU⟩ := hrel
            cases gk with
            | zero => exfalso; omega
            | succ g =>
              have hz3 : (n3 : Int) < 65 := by omega
              have CU := hide (H.users HN.out.d)
              obtain ⟨LL, hLL⟩ : ∃ LL, LL = l3.length := ⟨_, rfl⟩
              have hLm3 : LL ≤ 64 := by omega
              have HLL := hide hLL
              by_cases h0 : LL = 0
              · have hz0 : (LL : Int) = 0 := by omega
                go_wp2_with (first | (go_at_call 15; refine CU.out.mono ?_; rintro e w7 ⟨vu, rfl, hou, hB7⟩; have HOU := hide hou; obtain ⟨ua, uc, e7, _⟩ := owns_shapeR hou; rw [← HLL.out] at e7; subst e7; have HN7 := hide (HN.out.below H hB7); have HM7 := hide (HM.out.below hB7); have HRF : Hid (∀ g, (Value.slice ua LL uc).ownBlock = some g → ¬ F g) := hide (fun g hg e => by have h1 := (hou.lt g hg).1; have h2 := H.lt HN.out.d g e; omega); clear hou hB7) | (go_at_call 8; refine (CA.out _).mono ?_; rintro e w8 ⟨rfl, hB8⟩; have HB8 := hide (HN7.out.b.trans (hB8.mono HN7.out.b.size)); clear hB8))
                go_ret
                exact ⟨rfl, HB8.out⟩
              · have hne : ¬ (LL : Int) = 0 := by omega
                have h0n : 0 < l3.length := by omega
                obtain ⟨x0, hx0⟩ : ∃ x0, x0 = l3[0] := ⟨_, rfl⟩
                have HX0 := hide hx0
                have HX0M : Hid (x0 ∈ l3) := hide (by rw [hx0]; exact List.getElem_mem h0n)
                clear hx0
                go_wp2_with (first | (go_at_call 15; refine CU.out.mono ?_; rintro e w7 ⟨vu, rfl, hou, hB7⟩; have HOU := hide hou; obtain ⟨ua, uc, e7, _⟩ := owns_shapeR hou; rw [← HLL.out] at e7; subst e7; have HN7 := hide (HN.out.below H hB7); have HM7 := hide (HM.out.below hB7); have HRF : Hid (∀ g, (Value.slice ua LL uc).ownBlock = some g → ¬ F g) := hide (fun g hg e => by have h1 := (hou.lt g hg).1; have h2 := H.lt HN.out.d g e; omega); have HSU := hide (src_users hou); obtain ⟨en, b, off, e9, hb, hcl⟩ := HSU.out.at (K := 3) (fun _ => rfl) h0n; subst e9; have HR0 : Hid (w7.rangeAt b (off + 0 * 3) (txCs (txI x0.tx))) := hide (fun j v hv => hcl j v (by rw [← HX0.out]; exact hv)); have HZ7 := hide (box_new w7 #[.int .u8 0, .int .u32 0, .int .u32 0] 34); have HZB7 : Hid (Below w7.heap.size w7 (w7.alloc (.cells #[.int .u8 0, .int .u32 0, .int .u32 0] 34))) := hide (alloc_below14 w7 _); clear hou hB7 hcl hb en) | (refine wpList_load_mid rfl 34 _ rfl b (off + 0 * 3) rfl (txCs (txI x0.tx)) _ HR0.out Tryz.underlying34 rfl infoTx15 ?_) | (refine wp_store_box rfl rfl _ _ rfl w7.heap.size rfl (cs' := #[.int .u8 (x0.tx.1 : Int), .int .u32 (x0.tx.2.1 : Int), .int .u32 (x0.tx.2.2 : Int)]) rfl HZ7.out rfl infoTx15 (by simp [Value.oneCell']) ?_; intro w8 hb3 hk3; have HX8 := hide hb3; have HB8 : Hid (Below w7.heap.size w7 w8) := hide (HZB7.out.trans (hk3.below HZB7.out.size (fun k hk => by omega))); clear hb3 hk3))
                obtain ⟨p12, hp12⟩ : ∃ p12, p12 = w7.heap.size := ⟨_, rfl⟩
                rw [← hp12] at HX8 ⊢
                have HP12 := hide hp12
                clear CU HN HM HRF HZ7 HZB7 HR0 hp12
                go_loopg [75] LL (fun g i Y => ∃ (j4 : Nat) (x : UsP KeyT), j4 + g = LL ∧ i = .int .i64 j4 ∧ Hid (Box Y p12 #[.int .u8 (x.tx.1 : Int), .int .u32 (x.tx.2.1 : Int), .int .u32 (x.tx.2.2 : Int)] 34) ∧ Hid (x ∈ l3) ∧ Hid (∀ i, (hi : i < l3.length) → i < j4 → ¬ Old l3[i] x) ∧ Hid (Below w7.heap.size w7 Y))
                case atStart => exact ⟨0, x0, by omega, rfl, HX8, HX0M, hide (fun i hi h => by omega), HB8⟩
                case round =>
                  clear HX8 HX0M HB8 HX0
                  obtain ⟨j4, x, hj4, rfl, HXX, HXM, HOO, HBY⟩ := hrel
                  have HTX : Hid (TxB x.tx) := hide (HI3.out.b.oks _ HXM.out).1
                  cases gk with
                  | succ g4 =>
                    have hz4 : (j4 : Int) < (LL : Int) := by omega
                    have hjn : j4 < l3.length := by rw [← HLL.out]; omega
                    obtain ⟨en, b4, off4, e9, hb, hcl⟩ := (HSU.out.below HBY.out).at (K := 3) (fun _ => rfl) hjn
                    cases e9
                    have HRg : Hid (wr.rangeAt b (off + j4 * 3) (txCs (txI l3[j4].tx))) := hide (fun j v hv => hcl j v hv)
                    have HYM : Hid (l3[j4] ∈ l3) := hide (List.getElem_mem hjn)
                    have HT := hide (old_take hjn HOO.out)
                    have HF := hide (old_stay hjn HOO.out)
                    generalize l3[j4] = y at *
                    clear hcl en hb
                    have HTY : Hid (TxB y.tx) := hide (HI3.out.b.oks _ HYM.out).1
                    have HMY := hide (HM7.out.below HBY.out)
                    have HZ := hide (box_new wr #[.int .u8 0, .int .u32 0, .int .u32 0] 34)
                    have HZB : Hid (Below wr.heap.size wr (wr.alloc (.cells #[.int .u8 0, .int .u32 0, .int .u32 0] 34))) := hide (alloc_below14 wr _)
                    go_wp2_with (first | (refine wpList_load_mid rfl 34 _ rfl b (off + j4 * 3) rfl (txCs (txI y.tx)) _ HRg.out Tryz.underlying34 rfl infoTx15 ?_) | (refine wp_store_box rfl rfl _ _ rfl wr.heap.size rfl (cs' := #[.int .u8 (y.tx.1 : Int), .int .u32 (y.tx.2.1 : Int), .int .u32 (y.tx.2.2 : Int)]) rfl HZ.out rfl infoTx15 (by simp [Value.oneCell']) ?_; intro w9 hb3 hk3; have HX9 := hide hb3; have HB9 : Hid (Below wr.heap.size wr w9) := hide (HZB.out.trans (hk3.below HZB.out.size (fun k hk => by omega))); clear hb3 hk3))
                    obtain ⟨p14, hp14⟩ : ∃ p14, p14 = wr.heap.size := ⟨_, rfl⟩
                    rw [← hp14] at HX9 ⊢
                    have HXX9 := hide (HXX.out.belowI HB9.out)
                    have HBY9 := hide (HBY.out.trans (HB9.out.mono HBY.out.size))
                    clear hp14 HZ HZB HRg HXX
                    have L1 := ((HMY.out.below HB9.out).below (below_drew14 w9)).look1 smTy ⟨y.tx, HTY.out⟩
                    have L2 := ((HMY.out.below HB9.out).below (below_drew14 w9)).look1 smTy ⟨x.tx, HTX.out⟩
                    rw [HLU.out.ag y HYM.out HTY.out] at L1
                    rw [HLU.out.ag x HXM.out HTX.out] at L2
                    simp only [Option.getD_some] at L1 L2
                    have CS := hide (fun W => rstamps_any (y.tm : Int) (y.tx.1 : Int) (y.tx.2.1 : Int) (y.tx.2.2 : Int) (x.tm : Int) (x.tx.1 : Int) (x.tx.2.1 : Int) (x.tx.2.2 : Int) W (by omega) (by have := HTY.out.1; omega) (by omega) (by have := HTX.out.1; omega))
                    obtain ⟨R, hR⟩ : ∃ R, R = stsF ((y.tm : Int), (y.tx.1 : Int), (y.tx.2.1 : Int), (y.tx.2.2 : Int)) ((x.tm : Int), (x.tx.1 : Int), (x.tx.2.1 : Int), (x.tx.2.2 : Int)) := ⟨_, rfl⟩
                    rw [← hR] at CS
                    have HO : Hid (Old y x ↔ R < 0) := hide (by rw [hR]; exact Iff.rfl)
                    clear hR
                    have HCS : Hid (∀ W, Below w9.drew.heap.size w9.drew W → W.cell? ⟨p14, 0, none⟩ = some (.int .u8 (y.tx.1 : Int)) ∧ W.cell? ⟨p14, 1, none⟩ = some (.int .u32 (y.tx.2.1 : Int)) ∧ W.cell? ⟨p14, 2, none⟩ = some (.int .u32 (y.tx.2.2 : Int)) ∧ W.cell? ⟨p12, 0, none⟩ = some (.int .u8 (x.tx.1 : Int)) ∧ W.cell? ⟨p12, 1, none⟩ = some (.int .u32 (x.tx.2.1 : Int)) ∧ W.cell? ⟨p12, 2, none⟩ = some (.int .u32 (x.tx.2.2 : Int))) := hide (fun W hW => by
                      have hW1 : Below w9.heap.size w9 W := (below_drew14 w9).trans hW
                      obtain ⟨a0, a1, a2⟩ := (HX9.out.belowI hW1).three
                      obtain ⟨b0, b1, b2⟩ := (HXX9.out.belowI hW1).three
                      exact ⟨a0, a1, a2, b0, b1, b2⟩)
                    obtain ⟨a0, a1, a2⟩ := HX9.out.three
                    obtain ⟨b0, b1, b2⟩ := HXX9.out.three
                    by_cases hR0 : R < 0
                    · have hd : decide (R < 0) = true := decide_eq_true hR0
                      have HOY : Hid (Old y x) := hide (HO.out.2 hR0)
                      go_wp2_with fail
                      go_region_held (fun w' => w'.cell? ⟨p14, 0, none⟩ = some (.int .u8 (y.tx.1 : Int)) ∧ w'.cell? ⟨p14, 1, none⟩ = some (.int .u32 (y.tx.2.1 : Int)) ∧ w'.cell? ⟨p14, 2, none⟩ = some (.int .u32 (y.tx.2.2 : Int)) ∧ w'.cell? ⟨p12, 0, none⟩ = some (.int .u8 (x.tx.1 : Int)) ∧ w'.cell? ⟨p12, 1, none⟩ = some (.int .u32 (x.tx.2.1 : Int)) ∧ w'.cell? ⟨p12, 2, none⟩ = some (.int .u32 (x.tx.2.2 : Int))) (go_keep) (first | (go_at_call 26; refine (CS.out _).mono ?_; rintro e w10 ⟨rfl, hB⟩; have ss := HCS.out _ hB; have HB10 : Hid (Below w9.heap.size w9 w10) := hide ((below_drew14 w9).trans hB); clear hB))
                      all_goals have HXA := hide (HX9.out.belowI HB10.out)
                      all_goals have HXB := hide (HXX9.out.belowI HB10.out)
                      all_goals go_wp2_with (first | (refine wp_load_box rfl _ rfl p14 rfl HXA.out Tryz.underlying34 rfl infoTx15 ?_) | (refine wp_store_box rfl rfl _ _ rfl p12 rfl (cs' := #[.int .u8 (y.tx.1 : Int), .int .u32 (y.tx.2.1 : Int), .int .u32 (y.tx.2.2 : Int)]) rfl HXB.out rfl infoTx15 (by simp [Value.oneCell']) ?_; intro w11 hb4 hk4; have HX11 := hide hb4; have HB11 : Hid (Below w7.heap.size w7 w11) := hide ((HBY9.out.trans (HB10.out.mono HBY9.out.size)).trans (hk4.below (HBY9.out.trans (HB10.out.mono HBY9.out.size)).size (fun j e => by rw [e, HP12.out]; exact Nat.le_refl _))); clear hb4 hk4))
                      all_goals go_roundg g4
                      all_goals first | omega | exact ⟨j4 + 1, y, by omega, by first | rfl | go_num, HX11, HYM, hide (HT.out HOY.out), HB11⟩
                    · have hd : decide (R < 0) = false := decide_eq_false hR0
                      have HOY : Hid (¬ Old y x) := hide (fun e => hR0 (HO.out.1 e))
                      go_wp2_with fail
                      go_region_held (fun w' => w'.cell? ⟨p14, 0, none⟩ = some (.int .u8 (y.tx.1 : Int)) ∧ w'.cell? ⟨p14, 1, none⟩ = some (.int .u32 (y.tx.2.1 : Int)) ∧ w'.cell? ⟨p14, 2, none⟩ = some (.int .u32 (y.tx.2.2 : Int)) ∧ w'.cell? ⟨p12, 0, none⟩ = some (.int .u8 (x.tx.1 : Int)) ∧ w'.cell? ⟨p12, 1, none⟩ = some (.int .u32 (x.tx.2.1 : Int)) ∧ w'.cell? ⟨p12, 2, none⟩ = some (.int .u32 (x.tx.2.2 : Int))) (go_keep) (first | (go_at_call 26; refine (CS.out _).mono ?_; rintro e w10 ⟨rfl, hB⟩; have ss := HCS.out _ hB; have HB10 : Hid (Below w9.heap.size w9 w10) := hide ((below_drew14 w9).trans hB); clear hB))
                      all_goals have HXB := hide (HXX9.out.belowI HB10.out)
                      all_goals go_wp2_with fail
                      all_goals go_roundg g4
                      all_goals first | omega | exact ⟨j4 + 1, x, by omega, by first | rfl | go_num, HXB, HXM, hide (HF.out HOY.out), hide (HBY9.out.trans (HB10.out.mono HBY9.out.size))⟩
                  | zero =>
                    obtain rfl : j4 = LL := by omega
                    have hz4 : ¬ ((j4 : Int) < (j4 : Int)) := by omega
                    have HOO2 : Hid (∀ i, (hi : i < l3.length) → ¬ Old l3[i] x) := hide (fun i hi => HOO.out i hi (by rw [HLL.out]; exact hi))
                    have HFR := hide (first_free HI3.out HLU.out.pr HXM.out HOO2.out)
                    have HNY := hide (HN7.out.below H HBY.out)
                    have HMY := hide (HM7.out.below HBY.out)
                    go_wp2_with (refine wp_load_box rfl _ rfl p12 rfl HXX.out Tryz.underlying34 rfl infoTx15 ?_)
                    refine (H.waits x.tx HNY.out.d HTX.out).mono ?_
                    rintro e w9 ⟨bw, rfl, hbw, hB9⟩
                    have hbf : bw = false := by
                      cases bw with
                      | false => rfl
                      | true =>
                        obtain ⟨k9, h9⟩ := hbw.1 rfl
                        exact absurd (HFR.out k9) h9
                    subst hbf
                    have HX9 := hide (HXX.out.belowI hB9)
                    have HN9 := hide (HNY.out.below H hB9)
                    have HM9 := hide (HMY.out.below hB9)
                    clear hB9 hbw HNY HMY HXX HOO HOO2 HFR
                    go_wp2_with (refine wp_load_box rfl _ rfl p12 rfl HX9.out Tryz.underlying34 rfl infoTx15 ?_)
                    refine (H.rel x.tx HN9.out.d hC9 HTX.out).mono ?_
                    rintro e w10 ⟨vg, er, gr, l4, rfl, hR, hd, hog⟩
                    have hlen := (rel_some HI3.out hR HXM.out rfl).2.1
                    have HLU4 := hide (HLU.out.rel hR)
                    have HI4 : Hid (LkI l4) := hide (relR_ok HI3.out hR)
                    obtain ⟨F4, hs, hkF, hf⟩ := HN9.out.did hd
                    have HNB4 : Hid (¬ F4 bm) := hide (fun e => (hf bm e).elim HNB3.out (fun e2 => by have := HM9.out.lt; omega))
                    have HM10 := hide (HM9.out.keep hkF HNB3.out)
                    have HN10 := hide hs
                    clear hR hd hog hs hkF hf HN9 HM9 HX9
                    go_wp2_with fail
                    go_roundg g
                    case measure => omega
                    case rel => exact ⟨n3 + 1, F4, l4, by omega, by first | rfl | go_num, by omega, HI4, HN10, HNB4, HM10, HLU4⟩
end
section
open Go.RowKit Go.ChangeShapes Go.WideShapes Go.ChangeAt

namespace lockFree
set_option maxRecDepth 100000 in
theorem lifted (os : Os) (started : os.Started) (H : Type) (enc : TypeId × Value → H) :
    ReturnsInHanded {} Tryz.checked os 5 .any (Rows.lockFreeSpec.pre6 enc Tryz.prog Tryz.f5 Rows.lockFreeRow.domain false) (Rows.lockFreeSpec.post enc Tryz.prog Tryz.f5 false true false false) := by
  refine returnsInHanded_of_change_sized (C := Tryz.checked) own started (by kernel_rfl) Tryz.func5
    (ChangeSpec.witness6 (enc := enc) (C := Tryz.checked) false ⟨#[], #[.slice none 0 0], []⟩ 8 (by kernel_rfl) (by kernel_rfl) (by kernel_rfl) (by kernel_rfl)) ?_
  intro W base args ds gs before hval0 hW hcnd hsz _
  have hval : ∀ (j : Nat) t v, Tryz.f5.params[j]? = some t → args[j]? = some v → Value.okWide Tryz.prog W .any base t v := hval0
  have hW' := hW
  obtain ⟨p, q, hA0, hV, rfl, hfz, hnd⟩ := hW
  have hA : DataW.TrodAll enc Tryz.prog W 0 (fun _ => true) true Tryz.f5.params.toList args.toList ds p := hA0
  have hsz2 : ∀ (j : Nat) (t : TypeId) (d : DataW H), Tryz.f5.params.toList[j]? = some t → ds[j]? = some d → ∀ n ∈ d.weights Tryz.prog t, n ≤ 140737488351232 := fun j t d ht hd n hn => by
    have h1 := List.all_eq_true.1 hsz n (DataW.weights_mem_each (j := j) (t := t) (d := d) (by rw [List.getElem?_append_left (List.getElem?_eq_some_iff.1 ht).1]; exact ht) (by rw [List.getElem?_append_left (List.getElem?_eq_some_iff.1 hd).1]; exact hd) n hn)
    have h2 : n ≤ reachBytes := by simpa using h1
    have h3 : reachBytes = 140737488351232 := rfl
    omega
  rw [Tryz.params5] at hA hval hsz2
  obtain ⟨v0, vs0, d0, ds0, p0, q0, hargs, rfl, rfl, h0, r0⟩ := trodAll_cons hA
  obtain ⟨rfl, rfl, rfl⟩ := trodAll_nil r0
  obtain rfl : args = #[v0] := by cases args; simp_all
  obtain ⟨rfl, rfl⟩ := trodVars_none hV
  obtain ⟨a0, len0, cap0, rfl⟩ := okWide_slice Tryz.underlying22 (hval 0 22 v0 rfl rfl)
  have k0 := h0
  have lt0 : ∀ x ∈ p0, x.block < W.heap.size := by obtain ⟨m, hm⟩ := k0; exact DataW.trod_lt m _ _ _ hm
  obtain ⟨xs0, lies0, by0⟩ := lacts_of_trod h0
  clear hA0 hval0
  refine (walkF15 (lk_do sortB64) _ xs0 W lies0 by0).mono fun e W' ⟨he, bel⟩ => ?_
  subst he
  exact ⟨_, rfl, _, _, _, [], _, [], hW', trodAll_mk1 (shut_bool Tryz.underlying4 _), (trodAll_cons_mk (Below.trod laidOut (by kernel_rfl) (of_decide_eq_true (by kernel_rfl)) k0 bel lt0) trodAll_mk0), rfl, bel.frame _, fun h => by cases h⟩

theorem over : Rows.lockFreeRow.holds Tryz.pinned (OpenSpec.ofChange Rows.lockFreeSpec) :=
  OpenClaim.holds_of_wide 5 Tryz.f5 rfl rfl rfl rfl rfl rfl rfl ⟨rfl, rfl, rfl, rfl, rfl⟩ rfl rfl rfl rfl rfl (by kernel_rfl) Tryz.func5 (by kernel_rfl)
    (of_decide_eq_true (by kernel_rfl)) (by unfold Func.isWrapper; first | (rw [if_pos (by decide +kernel)]; kernel_rfl) | (rw [if_neg (by decide +kernel)]; exact ⟨rfl, rfl⟩))
    (fun os started H enc _ => lifted os started H enc)
end lockFree

/-- THE STATEMENT. -/
theorem lockFree_holds : Rows.LockFreeSaid := lockFree.over
#print axioms lockFree_holds
end
end Go.Proofs.YtddflccjmigloaaGreat
