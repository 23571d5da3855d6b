/-
  The program's clock: ring, Tick. Own work.
-/
import Derived.Test.YtgjdlclkibiffaaPkSet
namespace Go.Proofs.Ytgjdlclkibiffaa
open Go.RowKit Go.Maps

theorem tw_take {p : TmP → Bool} : ∀ {xs : List TmP} {k : Nat}, k ≤ xs.length → (∀ j (h : j < xs.length), j < k → p xs[j] = true) → (∀ h : k < xs.length, p xs[k] = false) → xs.takeWhile p = xs.take k ∧ xs.dropWhile p = xs.drop k
  | [], k, _, _, _ => by simp
  | a :: l, 0, _, _, h2 => by
    have := h2 (by simp)
    simp only [List.getElem_cons_zero] at this
    simp [this]
  | a :: l, k + 1, h, h1, h2 => by
    have ha := h1 0 (by simp) (by omega)
    simp only [List.getElem_cons_zero] at ha
    have ih := tw_take (p := p) (xs := l) (k := k) (by simpa using h) (fun j hj hk => by have := h1 (j + 1) (by simpa using hj) (by omega); simpa using this) (fun hk => by have := h2 (by simpa using hk); simpa using this)
    simp [ha, ih.1, ih.2]
/-- What ring leaves. -/
def Rang (w w' : World) (q b : Nat) (sv : Nat → Value) (c : Ck) (v : Value) : Prop := KDid w w' q b sv (tickD c) ∧ RSrc nmE w' v (tickL c) ∧ ∀ g, v.ownBlock = some g → w.heap.size ≤ g
theorem kring_fin {w WX w3 : World} {q b k i : Nat} {sv : Nat → Value} {c : Ck} {vn v3 : Value} (h : PCs w q b sv (c.now + 1) c.l c.slot) (hok : c.Ok) (hnow : c.now < 2147483647) (hi : i = (c.now + 1) % 64) (hkw : KeepBut (fun k => k = b) w WX) (hM : MapC WX b (c.less ((c.slot i).take k)))
    (hk : k ≤ (c.slot i).length) (h1 : ∀ j (h : j < (c.slot i).length), j < k → ringB c (c.slot i)[j] = true) (h2 : ∀ h : k < (c.slot i).length, ringB c (c.slot i)[k] = false)
    (hn : WX.ownsRow w.heap.size 47 4 vn ((c.slot i).take k |>.map Prod.fst).length (flat nmE ((c.slot i).take k |>.map Prod.fst)))
    (ho : w3.ownsRow 0 80 5 v3 ((c.slot i).take 0 ++ (c.slot i).drop k).length (flat ptE ((c.slot i).take 0 ++ (c.slot i).drop k))) (hv : v3.ownBlock = (sv i).ownBlock) (hk3 : KeepBut (fun g => (sv i).ownBlock = some g) WX w3) :
    Rang w (w3.setCell ⟨q, 2 + i, none⟩ v3) q b sv c vn := by
  have hi64 : i < 64 := by rw [hi]; exact Nat.mod_lt _ (by decide)
  obtain ⟨e1, e2⟩ := tw_take hk h1 h2
  have ts := tick_same hok hnow
  rw [← hi] at ts
  have hP0 : PCs WX q b sv (c.now + 1) (c.less ((c.slot i).take k)) c.slot := h.mapTo hkw hM
  rw [List.take_zero, List.nil_append] at ho
  obtain ⟨hP, hK, hU⟩ := hP0.row hi64 hk3 ho (.inl hv)
  have hl : c.less ((c.slot i).take k) = (tickD c).l := by rw [← e1, ts.2]; exact less_ring hok hnow
  have hKw : KeepBut (usesC9 q b sv) w (w3.setCell ⟨q, 2 + i, none⟩ v3) := (hkw.mono (S' := usesC9 q b sv) (fun _ e => .inr (.inl e))).trans hK (fun _ _ e => e)
  have hge : ∀ g, vn.ownBlock = some g → w.heap.size ≤ g := fun g hg => (hn.lt g hg).1
  refine ⟨⟨updV sv i v3, ⟨?_, tickD_ok hok⟩, hKw, fun k e => (hU k e).imp id (fun e => Nat.le_trans hkw.size e)⟩, ?_, hge⟩
  · rw [hl] at hP
    have hnw : (tickD c).now = c.now + 1 := tick_now hnow
    rw [hnw]
    refine ⟨hP.box, hP.map, fun j hj => ?_, hP.far⟩
    have := hP.own j hj
    by_cases e : j = i
    · subst e
      rw [if_pos rfl] at this
      rw [ts.1, e2]
      exact this
    · rw [if_neg e] at this
      rw [tick_other hok hnow (by rw [← hi]; exact e)]
      exact this
  · have hL : tickL c = ((c.slot i).take k).map Prod.fst := by
      unfold tickL
      rw [if_neg (by omega), ← ts.2, e1]
    rw [hL]
    have hr := RSrc.of_own (enc := nmE) hn
    have hkk : KeepBut (usesC9 q b sv) WX (w3.setCell ⟨q, 2 + i, none⟩ v3) := hK
    exact hr.keep hkk (fun g hg e => by have := h.lt _ e; have := hge g hg; omega)
theorem HBN2 (wa : World) (x : TmP) : Below wa.heap.size wa (wa.drew.alloc (.cells (nmA x.1) 47)) := ((Below.refl _ _).alloc (Nat.le_refl _) _).drew
theorem more_take {xs : List TmP} {k : Nat} (h : k < xs.length) : xs.take (k + 1) = xs.take k ++ [xs[k]] := by rw [List.take_succ_eq_append_getElem h]
set_option maxRecDepth 100000 in
set_option maxHeartbeats 3200000 in
theorem kring_any (q b : Nat) (sv : Nat → Value) (c : Ck) (w : World) (h : PCs w q b sv (c.now + 1) c.l c.slot) (hok : c.Ok) (hnow : c.now < 2147483647) :
    Calls Try.prog 28 #[.pointer (some ⟨q, 0, none⟩)] w fun e w' => ∃ v, e = .returned v ∧ Rang w w' q b sv c v := by
  obtain ⟨i, hi⟩ : ∃ i, i = (c.now + 1) % 64 := ⟨_, rfl⟩
  have hi64 : i < 64 := by rw [hi]; exact Nat.mod_lt _ (by decide)
  have hiI : (i : Int) < 64 := by omega
  obtain ⟨ao, cap, hvi, hcap⟩ := owns_shapeR (h.own i hi64)
  have m0 := h.c0
  have m2 := h.cs hi64
  obtain ⟨nw, hnw⟩ : ∃ nw : Int, nw = ((c.now + 1 : Nat) : Int) := ⟨_, rfl⟩
  have C1 : Hid (∀ W, Calls Try.prog 34 #[.int .u32 nw] W fun e w' => e = .returned (.int .u32 (i : Int)) ∧ w' = W) := hide (fun W => by
    have := kslot_any nw (by omega) (by omega) W
    rw [hnw, Int.toNat_natCast, ← hi, ← hnw] at this
    exact this)
  obtain ⟨xs, hxs⟩ : ∃ xs, xs = c.slot i := ⟨_, rfl⟩
  obtain ⟨ln, hln⟩ : ∃ ln, ln = (c.slot i).length := ⟨_, rfl⟩
  rw [hvi, ← hln] at m2
  rw [← hnw] at m0
  have hl1 : ln ≤ 1024 := by rw [hln]; exact slot_len hok i
  have H0 := hide h
  have HOK := hide hok
  have HNW := hide hnw
  have HLN := hide hln
  have HVI := hide hvi
  have HXS := hide hxs
  have HI := hide hi
  have HNOW := hide hnow
  have hnwR : 0 ≤ nw ∧ nw < 4294967296 := by omega
  have HS0 : Hid (Below w.heap.size w w) := hide (Below.refl _ _)
  clear h hok hcap hvi hnw hln hxs hi hnow
  go_enter Try.func28, Try.ntmps28
  go_wp2_with (first | (go_at_call 34; refine (C1.out _).mono ?_; rintro e w ⟨rfl, rfl⟩))
  go_loopg [4, 19] ln (fun g x i2 wr => ∃ (k : Nat) (ax : Option Addr) (cx : Nat), k + g = ln ∧ x = .slice ax k cx ∧ i2 = .int .i64 k ∧ Hid (wr.ownsRow w.heap.size 47 4 (.slice ax k cx) ((xs.take k).map Prod.fst).length (flat nmE ((xs.take k).map Prod.fst))) ∧ Hid (MapC wr b (c.less (xs.take k))) ∧ Hid (KeepBut (fun k => k = b) w wr) ∧ Hid (∀ j (h : j < xs.length), j < k → ringB c xs[j] = true))
  case atStart => exact ⟨0, none, 0, by omega, rfl, rfl, hide (by simp [flat]; exact World.ownsRow_nil _ _ _ _), hide (by rw [List.take_zero, less_nil]; exact H0.out.map), hide (KeepBut.refl _ _), hide (fun j _ h => absurd h (Nat.not_lt_zero _))⟩
  case round =>
    obtain ⟨k, ax, cx, hk, rfl, rfl, HO, HM, HK, HR⟩ := hrel
    have HP := hide (H0.out.mapTo HK.out HM.out)
    clear m0 m2 C1
    cases gk with
    | zero =>
      obtain rfl : k = ln := by omega
      have hz : ¬ ((k : Int) < (k : Int)) := by omega
      have HPX := HP
      have HKX := HK
      have HMX := HM
      have HNX := HO
      have CI : Hid (Calls Try.prog 35 #[.slice ao k cap, .int .i64 0, .int .i64 (k : Int)] wr.drew fun e w' => ∃ a3 l3 c3, e = .returned (.slice a3 l3 c3) ∧ w'.ownsRow 0 80 5 (.slice a3 l3 c3) ((c.slot i).take 0 ++ (c.slot i).drop k).length (flat ptE ((c.slot i).take 0 ++ (c.slot i).drop k)) ∧ (Value.slice a3 l3 c3).ownBlock = (sv i).ownBlock ∧ KeepBut (fun g => (sv i).ownBlock = some g) wr.drew w') := hide (by
        have hz := pdel_any (sv i) (c.slot i) 0 k wr.drew ((HPX.out.below (below_drewN9 wr 1)).own i hi64) (Nat.zero_le _) (by rw [← HLN.out]; omega)
        rw [HVI.out, ← HLN.out] at hz
        rw [HVI.out, ← HLN.out]
        refine hz.mono (fun e w' ⟨v', e1, e2, e3, e4⟩ => ?_)
        obtain ⟨a3, c3, hv3, _⟩ := owns_shapeR e2
        subst hv3
        exact ⟨a3, _, c3, e1, e2, e3, e4⟩)
      have m2 := HPX.out.cs hi64
      rw [HVI.out, ← HLN.out] at m2
      have HSTOP : Hid (∀ h : k < (c.slot i).length, ringB c (c.slot i)[k] = false) := hide (fun h => by have := HLN.out; omega)
      have HRX : Hid (∀ j (h : j < (c.slot i).length), j < k → ringB c (c.slot i)[j] = true) := hide (by have := HR.out; rw [HXS.out] at this; exact this)
      have HNX2 : Hid (wr.drew.ownsRow w.heap.size 47 4 (.slice ax k cx) (((c.slot i).take k).map Prod.fst).length (flat nmE (((c.slot i).take k).map Prod.fst))) := hide (by have := HNX.out; rw [HXS.out] at this; exact this)
      have HMX2 : Hid (MapC wr.drew b (c.less ((c.slot i).take k))) := hide (by have := HMX.out.below (below_drewN9 wr 1); rw [HXS.out] at this; exact this)
      have HKL : Hid (k ≤ (c.slot i).length) := hide (by rw [← HLN.out]; omega)
      go_wp2_with fail
      go_region_with (first
        | (go_at_call 35; refine CI.out.mono ?_; rintro e w3 ⟨a3, l3, c3, rfl, h3⟩; have y3 : Box w3 q (ckCells (c.now + 1) b sv) 69 := ((HPX.out.box.belowI (below_drewN9 wr 1)).keep h3.2.2 (HPX.out.ne_box hi64)); have y4 := y3.cell _ _ (ck_slot _ _ _ hi64); have y5 := y3.frozen (2 + i); have HFIN : Hid (Rang w (w3.setCell ⟨q, 2 + i, none⟩ (.slice a3 l3 c3)) q b sv c (.slice ax k cx)) := hide (kring_fin H0.out HOK.out HNOW.out HI.out HKX.out.drew HMX2.out HKL.out HRX.out HSTOP.out HNX2.out h3.1 h3.2.1 h3.2.2); clear h3 y3))
      all_goals go_wp2_with fail
      all_goals go_ret
      all_goals exact ⟨_, rfl, HFIN.out⟩
    | succ g =>
      have hz : (k : Int) < (ln : Int) := by omega
      have hkx : k < xs.length := by rw [HXS.out, ← HLN.out]; omega
      have hsrc : RSrc ptE wr (.slice ao ln cap) xs := by
        have := src_own (HP.out.own i hi64)
        rw [HVI.out, ← HLN.out, ← HXS.out] at this
        exact this
      obtain ⟨hx0, bs, off, rfl, hbs, hcl⟩ := hsrc.at recPT.len hkx
      have r0 := hcl 0 _ rfl
      rw [Nat.add_zero] at r0
      have r1 := hcl 1 _ rfl
      have r2 := hcl 2 _ rfl
      have r3 := hcl 3 _ rfl
      have r4 := hcl 4 _ rfl
      have HMORE := hide (more_take hkx)
      have HXM : Hid (xs[k] ∈ c.l) := hide (by have : xs[k] ∈ c.slot i := by rw [← HXS.out]; exact List.getElem_mem hkx
                                               exact (slot_sub c i).subset this)
      have HRK : Hid ((ringB c xs[k] = true) ↔ xs[k].2 = nw) := hide (by unfold ringB; rw [HNW.out]; simp)
      have HRT : Hid (∀ h : k < xs.length, xs[k] = xs[k]) := hide (fun _ => rfl)
      obtain ⟨x, hx⟩ : ∃ x, x = xs[k] := ⟨_, rfl⟩
      have HX := hide hx
      rw [← hx] at r0 r1 r2 r3 r4 HMORE HXM HRK
      have hA := alloc_below9 wr (.cells (ptA x) 80)
      have hXb := box_new wr (ptA x) 80
      obtain ⟨wa, hwa⟩ : ∃ wa, wa = wr.alloc (.cells (ptA x) 80) := ⟨_, rfl⟩
      rw [← hwa] at hA hXb
      have hPa := HP.out.below hA
      have q0 := hPa.c0
      rw [← HNW.out] at q0
      obtain ⟨x0, x1, x2, x3, x4⟩ := hXb.five9
      have hWA := hwa.symm
      have HA := hide hA
      have HXB := hide hXb
      have HPA := hide hPa
      clear hcl hsrc hx0 hx hwa hA hXb hPa HRT
      by_cases hrg : x.2 = nw
      · have hneq : (x.2 != nw) = false := by simp [hrg]
        have HRG : Hid (ringB c x = true) := hide (HRK.out.2 hrg)
        clear hrg HRK
        go_wp2_with fail
        go_region
        have HOw := HO.out
        have hOA := hide (owns_keep HO.out (KeepBut.of_below (fun _ => False) HA.out.drew) (fun _ _ h => h))
        have hAn := alloc_below9 wa.drew (.cells (nmA x.1) 47)
        have HSRC := hide (src_new (enc := nmE) wa.drew x.1 (nmA x.1) rfl 47)
        have HBN := hide (HA.out.drew.trans (hAn.mono HA.out.size))
        have HO2 := hide (owns_keep hOA.out (KeepBut.of_below (fun _ => False) hAn) (fun _ _ h => h))
        have hLk : ((xs.take k).map Prod.fst).length = k := by rw [List.length_map, List.length_take]; omega
        have HLK := hide hLk
        have HSZ : Hid (w.heap.size ≤ wr.heap.size) := hide HK.out.size
        clear hAn hLk HOw
        go_wp2_with (at_builtin; refine wp_recs recCN _ rfl _ _ rfl w.heap.size (.slice ax k cx) _ ((xs.take k).map Prod.fst) [x.1] rfl HO2.out rfl HSRC.out (fun y hy => by simp at hy; subst hy; exact nm_one _) (by rw [HLK.out]; simp; omega) (Nat.le_trans HSZ.out HBN.out.size) ?_; intro v4 w4 ho4 hg4 hb4; obtain ⟨a4, c4, hv4, _⟩ := owns_shapeR ho4; subst hv4; have HO4 := hide ho4; have HG4 := hide hg4; clear ho4 hg4 hb4)
        have HW := hide (HPA.out.below (HBN2 wa x))
        obtain ⟨WN, hWN⟩ : ∃ WN, WN = wa.drew.alloc (.cells (nmA x.1) 47) := ⟨_, rfl⟩
        have HWN : Hid (PCs WN q b sv (c.now + 1) (c.less (xs.take k)) c.slot) := hide (by rw [hWN]; exact HW.out)
        have HG5 : Hid (KeepBut (fun g => (Value.slice ax k cx).ownBlock = some g) WN w4) := hide (by rw [hWN]; exact kept_grown9 HG4.out)
        have HBW : Hid (Below wr.heap.size wr WN) := hide (by rw [hWN]; exact HBN.out)
        have hge : ∀ g, (Value.slice ax k cx).ownBlock = some g → w.heap.size ≤ g ∧ g < wr.heap.size := fun g hg => HO.out.lt g hg
        have HGE := hide hge
        have hP4 : PCs w4 q b sv (c.now + 1) (c.less (xs.take k)) c.slot := HWN.out.keep HG5.out (fun j hj e => by have := H0.out.lt j hj; have := (hge j e).1; omega)
        have hK4 : KeepBut (fun j => j = b) w w4 := (HK.out.trans (KeepBut.of_below (fun _ => False) HBW.out) (fun _ _ e => e.elim)).trans HG5.out (fun j hj e => by have := (hge j e).1; omega)
        have hXw : Box w4 wr.heap.size (ptA x) 80 := (HXB.out.belowI (by rw [hWN] at *; exact (HBN2 wa x))).keep (show KeepBut (fun g => (Value.slice ax k cx).ownBlock = some g) (wa.drew.alloc (.cells (nmA x.1) 47)) w4 from hWN ▸ HG5.out) (fun e => by have := (hge _ e).2; omega)
        obtain ⟨t0, t1, t2, t3, t4⟩ := hXw.five9
        have u1 := hP4.c1
        have hxn : nmOk x.1 := HOK.out.ok x HXM.out
        obtain ⟨w5, hr5, hm5, hk5⟩ : ∃ w5, (Builtin.delete_ #[65, 47] 0 #[.map (some b), .agg (nmA x.1)]).run Try.prog w4.drew = .ok (.tuple #[]) w5 ∧ MapC w5 b ((c.less (xs.take k)).filter (fun y => decide (y.1 ≠ x.1))) ∧ KeepBut (fun k => k = b) w4.drew w5 := (hP4.below (below_drewN9 _ 1)).map.del hxn 0
        have HM5 : Hid (MapC w5 b (c.less (xs.take (k + 1)))) := hide (by rw [less_step HOK.out HXM.out] at hm5; rw [HMORE.out]; exact hm5)
        have hk45 : KeepBut (fun j => j = b) w4 w5 := ⟨hk5.os, hk5.tape, hk5.output, hk5.size, hk5.block⟩
        have HK5 : Hid (KeepBut (fun j => j = b) w w5) := hide (hK4.trans hk45 (fun _ _ e => e))
        have HO5 : Hid (w5.ownsRow w.heap.size 47 4 (.slice a4 (((xs.take k).map Prod.fst) ++ [x.1]).length c4) (((xs.take k).map Prod.fst) ++ [x.1]).length (flat nmE (((xs.take k).map Prod.fst) ++ [x.1]))) := hide (owns_keep HO4.out hk45 (fun g hg e => by have := (HO4.out.lt g hg).1; have := H0.out.map.lt; omega))
        have HR5 : Hid (∀ j (h : j < xs.length), j < k + 1 → ringB c xs[j] = true) := hide (fun j hj hjk => by
          rcases Nat.lt_or_ge j k with h | h
          · exact HR.out j hj h
          · obtain rfl : j = k := by omega
            rw [← HX.out]; exact HRG.out)
        have HEL : Hid ((((xs.take k).map Prod.fst) ++ [x.1]).length = k + 1) := hide (by rw [List.length_append, HLK.out]; rfl)
        have HEM : Hid (((xs.take k).map Prod.fst) ++ [x.1] = (xs.take (k + 1)).map Prod.fst) := hide (by rw [HMORE.out, List.map_append]; rfl)
        clear hP4 hK4 hXw hm5 hk5 hk45 hWN hge hxn r0 r1 r2 r3 r4 x0 x1 x2 x3 x4 q0
        go_region
        go_wp2_with fail
        go_roundg g
        case measure => omega
        case rel =>
          refine ⟨k + 1, a4, c4, by omega, ?_, by first | rfl | go_num, hide ?_, HM5, HK5, HR5⟩
          · have := HEL.out
            simp only [List.length_append, List.length_map, List.length_take, List.length_cons, List.length_nil] at this
            first | rfl | (rw [show min k xs.length = k by omega]) | (simp; omega)
          · have h5 := HO5.out
            rw [HEL.out] at h5
            rw [← HEM.out, HEL.out]
            exact h5
      · have hneq : (x.2 != nw) = true := by simp [hrg]
        have HRG : Hid (ringB c x = false) := hide (by cases hq : ringB c x with | false => rfl | true => exact absurd (HRK.out.1 hq) hrg)
        clear hrg HRK
        go_wp2_with fail
        go_region
        have HPX : Hid (PCs wa.drew q b sv (c.now + 1) (c.less (xs.take k)) c.slot) := hide (HPA.out.below (below_drewN9 wa 1))
        have HKX := hide ((HK.out.trans (KeepBut.of_below (fun _ => False) HA.out) (fun _ _ e => e.elim)).drew)
        have HMX := hide (HM.out.below HA.out.drew)
        have HNX := hide (owns_keep HO.out (KeepBut.of_below (fun _ => False) HA.out.drew) (fun _ _ h => h))
        have CI : Hid (Calls Try.prog 35 #[.slice (some ⟨bs, off, none⟩) ln cap, .int .i64 0, .int .i64 (k : Int)] wa.drew.drew fun e w' => ∃ a3 l3 c3, e = .returned (.slice a3 l3 c3) ∧ w'.ownsRow 0 80 5 (.slice a3 l3 c3) ((c.slot i).take 0 ++ (c.slot i).drop k).length (flat ptE ((c.slot i).take 0 ++ (c.slot i).drop k)) ∧ (Value.slice a3 l3 c3).ownBlock = (sv i).ownBlock ∧ KeepBut (fun g => (sv i).ownBlock = some g) wa.drew.drew w') := hide (by
          have hz := pdel_any (sv i) (c.slot i) 0 k wa.drew.drew ((HPX.out.below (below_drewN9 wa.drew 1)).own i hi64) (Nat.zero_le _) (by rw [← HLN.out]; omega)
          rw [HVI.out, ← HLN.out] at hz
          rw [HVI.out, ← HLN.out]
          refine hz.mono (fun e w' ⟨v', e1, e2, e3, e4⟩ => ?_)
          obtain ⟨a3, c3, hv3, _⟩ := owns_shapeR e2
          subst hv3
          exact ⟨a3, _, c3, e1, e2, e3, e4⟩)
        have m2 := HPX.out.cs hi64
        rw [HVI.out, ← HLN.out] at m2
        have HSTOP : Hid (∀ h : k < (c.slot i).length, ringB c (c.slot i)[k] = false) := hide (fun h => by have h1 := HRG.out; rw [HX.out] at h1; have e := HXS.out; subst e; exact h1)
        have HRX : Hid (∀ j (h : j < (c.slot i).length), j < k → ringB c (c.slot i)[j] = true) := hide (by have := HR.out; rw [HXS.out] at this; exact this)
        have HNX2 : Hid (wa.drew.drew.ownsRow w.heap.size 47 4 (.slice ax k cx) (((c.slot i).take k).map Prod.fst).length (flat nmE (((c.slot i).take k).map Prod.fst))) := hide (by have := HNX.out; rw [HXS.out] at this; exact this)
        have HMX2 : Hid (MapC wa.drew.drew b (c.less ((c.slot i).take k))) := hide (by have := HMX.out.below (below_drewN9 wa.drew 1); rw [HXS.out] at this; exact this)
        have HKL : Hid (k ≤ (c.slot i).length) := hide (by rw [← HLN.out]; omega)
        go_wp2_with fail
        go_region_with (first
          | (go_at_call 35; refine CI.out.mono ?_; rintro e w3 ⟨a3, l3, c3, rfl, h3⟩; have y3 : Box w3 q (ckCells (c.now + 1) b sv) 69 := ((HPX.out.box.belowI (below_drewN9 wa.drew 1)).keep h3.2.2 (HPX.out.ne_box hi64)); have y4 := y3.cell _ _ (ck_slot _ _ _ hi64); have y5 := y3.frozen (2 + i); have HFIN : Hid (Rang w (w3.setCell ⟨q, 2 + i, none⟩ (.slice a3 l3 c3)) q b sv c (.slice ax k cx)) := hide (kring_fin H0.out HOK.out HNOW.out HI.out HKX.out.drew HMX2.out HKL.out HRX.out HSTOP.out HNX2.out h3.1 h3.2.1 h3.2.2); clear h3 y3))
        all_goals go_wp2_with fail
        all_goals go_ret
        all_goals exact ⟨_, rfl, HFIN.out⟩
end Go.Proofs.Ytgjdlclkibiffaa
