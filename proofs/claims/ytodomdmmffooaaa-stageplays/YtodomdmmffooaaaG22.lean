/-
  Own texts put together: SgRf2, SgRf3. Own work.
-/
import Derived.Test.YtodomdmmffooaaaG21
import Derived.Test.YtodomdmmffooaaaG18
namespace Go.Proofs.Ytodomdmmffooaaa
section
open Go.RowKit Classical

theorem recTX : Rec 50 33 3 txCs := ⟨Try.underlying50, rec_info (z := .agg #[.int .u8 0, .int .u32 0, .int .u32 0]) (K := 3) (B := 12) (by kernel_rfl) rfl (by decide), by decide, fun _ => rfl⟩
theorem tx_one14 (t : TxP) : ∀ u ∈ txCs t, u.oneCell' = true := fun u hu => by
  simp only [List.mem_cons, List.not_mem_nil, or_false] at hu
  rcases hu with rfl | rfl | rfl <;> rfl
theorem txCs_arr (t : TxN) : (#[.int .u8 (t.1 : Int), .int .u32 (t.2.1 : Int), .int .u32 (t.2.2 : Int)] : Array Value).toList = txCs (txI t) := rfl
theorem buildRg14 (w : World) : (Instr.build 35 #[]).run Try.prog w = .ok (.agg #[.int .u32 0, .int .u32 0]) w := by kernel_rfl
set_option maxRecDepth 100000 in
set_option maxHeartbeats 1600000 in
theorem rgWrites_any (r : Nat) (v : Value) (vs : List OnV) (t : TxN) (w : World) (h : RSg w r v vs) :
    Calls Try.prog 16 #[.pointer (some ⟨r, 0, none⟩), txVN t] w fun e w' => ∃ u, e = .returned (.tuple #[u, rgV (rgOf (osV vs) t), .bool (onS (osV vs) t).isSome]) ∧ RSrc wrE w' u (tW (osV vs) t) ∧ Below w.heap.size w w' := by
  have hA := alloc_below14 w (.cells #[.int .u8 (t.1 : Int), .int .u32 (t.2.1 : Int), .int .u32 (t.2.2 : Int)] 33)
  have hA2 := alloc_below14 (w.alloc (.cells #[.int .u8 (t.1 : Int), .int .u32 (t.2.1 : Int), .int .u32 (t.2.2 : Int)] 33)) (.cells #[.int .u32 0, .int .u32 0] 35)
  have hB2 := hA.trans (hA2.mono hA.size)
  have HXK := hide ((box_new w #[.int .u8 (t.1 : Int), .int .u32 (t.2.1 : Int), .int .u32 (t.2.2 : Int)] 33).belowI hA2)
  have HXR : Hid (Box ((w.alloc (.cells #[.int .u8 (t.1 : Int), .int .u32 (t.2.1 : Int), .int .u32 (t.2.2 : Int)] 33)).alloc (.cells #[.int .u32 0, .int .u32 0] 35)) (w.heap.size + 1) #[.int .u32 0, .int .u32 0] 35) := hide (by have := box_new (w.alloc (.cells #[.int .u8 (t.1 : Int), .int .u32 (t.2.1 : Int), .int .u32 (t.2.2 : Int)] 33)) #[.int .u32 0, .int .u32 0] 35; simpa using this)
  obtain ⟨w1, hw1⟩ : ∃ w1, w1 = (w.alloc (.cells #[.int .u8 (t.1 : Int), .int .u32 (t.2.1 : Int), .int .u32 (t.2.2 : Int)] 33)).alloc (.cells #[.int .u32 0, .int .u32 0] 35) := ⟨_, rfl⟩
  obtain ⟨p1, hp1⟩ : ∃ p1, p1 = w.heap.size + 1 := ⟨_, rfl⟩
  rw [← hw1] at HXK HXR hB2
  rw [← hp1] at HXR
  have HW1 := hide hw1
  have HP1 := hide hp1
  have HB := hide hB2
  have HR0 := hide h
  have HR := hide (h.below hB2)
  have CP := hide (rgfind_any r v vs t w1 HR.out)
  obtain ⟨x0, x1, x2⟩ := HXK.out.three
  have hp0 : w.heap.size ≤ p1 := by omega
  clear h hA hA2 hB2 hw1 hp1
  cases hf : onS (osV vs) t with
  | none =>
    have hp : plS (osV vs) t = -1 := pl_none (fun x hx => onS_none.1 hf x hx)
    have HE : Hid (rgOf (osV vs) t = (0, 0) ∧ tW (osV vs) t = []) := hide ⟨by unfold rgOf; rw [hf]; rfl, by unfold tW; rw [hf]⟩
    have hbg := buildRg14
    rw [hp] at CP
    clear hf hp
    go_enter Try.func16, Try.ntmps16
    go_wp2_with fail
    rw [← HW1.out, ← HP1.out]
    refine CP.out.mono ?_
    rintro e W2 ⟨rfl, hB2⟩
    have HB2 := hide (HB.out.trans (hB2.mono HB.out.size))
    have HXR2 := hide (HXR.out.belowI hB2)
    clear hB2 CP
    go_wp2_with (refine wp_store_box rfl rfl _ _ rfl p1 rfl (cs' := #[.int .u32 0, .int .u32 0]) rfl HXR2.out rfl infoRg14 (by simp [Value.oneCell']) ?_; intro w4 hb4 hk4; have HR4 := hide hb4; have HB4 := hide (HB2.out.trans (hk4.below HB2.out.size (fun k hk => by omega))); clear hb4 hk4)
    refine bodyPost_ret (v := .tuple #[.slice none 0 0, rgV (0, 0), .bool false]) (results_box3s Try.results16 _ _ p1 rfl rfl rfl HR4.out Try.underlying35 rfl infoRg14) rfl ⟨.slice none 0 0, by rw [HE.out.1]; rfl, by rw [HE.out.2]; exact RSrc.nil _, HB4.out⟩
  | some x =>
    obtain ⟨k, hk1, hk, hkx, hkt⟩ := pl_on hf
    have hkv : k < vs.length := by simpa using hk
    have hxo : vs[k].o = x := by simpa using hkx
    have HE : Hid (rgOf (osV vs) t = vs[k].o.rg ∧ tW (osV vs) t = vs[k].o.wr) := hide ⟨by unfold rgOf; rw [hf, hxo]; rfl, by unfold tW; rw [hf, hxo]⟩
    have hfew : vs.length ≤ 64 := by have := HR.out.all.ok.few; rw [List.length_map] at this; omega
    rw [hk1] at CP
    clear hf hk1 hk hkx hkt hxo
    go_enter Try.func16, Try.ntmps16
    go_wp2_with fail
    rw [← HW1.out, ← HP1.out]
    refine CP.out.mono ?_
    rintro e W2 ⟨rfl, hB2⟩
    have HB2 := hide (HB.out.trans (hB2.mono HB.out.size))
    have HXR2 := hide (HXR.out.belowI hB2)
    have hR2 := HR.out.below hB2
    obtain ⟨ao, cap, hvb, hcap, hcm⟩ := hR2.src.shape
    subst hvb
    have m1 : W2.cell? ⟨r, 0, none⟩ = some (.slice ao vs.length cap) := hR2.box.cell 0 _ rfl
    obtain ⟨en, b, off, hao, hbl, hc⟩ := hR2.src.at recON.len hkv
    have y3 := hc 3 _ rfl
    have y4 := hc 4 _ rfl
    have y5 := hc 5 _ rfl
    cases hao
    have HSU := hide (hR2.wr _ (List.getElem_mem hkv))
    have HSN : Hid (∀ g, vs[k].p.ownBlock = some g → g < w.heap.size) := hide (fun g e => (HR0.out.far g (.inr ⟨_, List.getElem_mem hkv, e⟩)).1)
    obtain ⟨L, hL⟩ : ∃ L, L = vs.length := ⟨_, rfl⟩
    rw [← hL] at m1
    have hkI : (k : Int) < (L : Int) := by omega
    have d1 : decide ((k : Int) < 0) = false := decide_eq_false (by omega)
    obtain ⟨z0, z1⟩ := HXR2.out.two
    have zf0 := HXR2.out.frozen 0
    have zf1 := HXR2.out.frozen 1
    have zl := HXR2.out.lt
    generalize vs[k].p = pk at *
    generalize vs[k].o.wr = wk at *
    generalize vs[k].o.rg = gk at *
    obtain ⟨ga, gb⟩ := gk
    dsimp only at y3 y4
    clear hc en hbl hcap hcm hL hkv hfew hB2 hR2 CP x0 x1 x2
    go_wp2_with fail
    go_region
    all_goals
      go_wp2_with fail
      have hk6 := ((KeepBut.refl (fun k => k = p1) W2.drew).setCell (p := ⟨p1, 0, none⟩) (.inl rfl) (.int .u32 (ga : Int))).setCell (p := ⟨p1, 1, none⟩) (.inl rfl) (.int .u32 (gb : Int))
      have hx6 := ((HXR2.out.belowI (below_drew14 W2)).set (i := 0) (v := .int .u32 (ga : Int))).set (i := 1) (v := .int .u32 (gb : Int))
      have hsf := HSU.out.below (below_drew14 W2)
      refine bodyPost_ret (v := .tuple #[pk, rgV (ga, gb), .bool true]) (results_box3s Try.results16 _ _ p1 rfl rfl rfl hx6 Try.underlying35 rfl infoRg14) rfl ⟨pk, by rw [HE.out.1]; rfl, ?_, ?_⟩
      · rw [HE.out.2]
        exact hsf.keep hk6 (fun g e e2 => by have := HSN.out g e; omega)
      · exact (HB2.out.trans ((below_drew14 W2).mono HB2.out.size)).trans (hk6.below HB2.out.size (fun k hk => by omega))
set_option maxRecDepth 100000 in
set_option maxHeartbeats 1600000 in
theorem rgAll_any (r : Nat) (v : Value) (vs : List OnV) (w : World) (h : RSg w r v vs) :
    Calls Try.prog 19 #[.pointer (some ⟨r, 0, none⟩)] w fun e w' => ∃ u, e = .returned u ∧ w'.ownsRow w.heap.size 33 3 u (osV vs).length (rowOf ((osV vs).map fun x => txI x.tx)) ∧ Below w.heap.size w w' := by
  obtain ⟨ao, cap, hvb, hcap, hcm⟩ := h.src.shape
  subst hvb
  have m1 : w.cell? ⟨r, 0, none⟩ = some (.slice ao vs.length cap) := h.box.cell 0 _ rfl
  have hrl := h.box.lt
  obtain ⟨L, hL⟩ : ∃ L, L = vs.length := ⟨_, rfl⟩
  have hfew : L ≤ 64 := by have := h.all.ok.few; rw [List.length_map] at this; omega
  rw [← hL] at m1
  have HL := hide hL
  have HR := hide h
  have HM : Hid (∀ W, Below w.heap.size w W → W.cell? ⟨r, 0, none⟩ = some (.slice ao L cap)) := hide (fun W hB => (hB.cell (p := ⟨r, 0, none⟩) hrl).trans m1)
  clear h hcap hcm hL m1
  go_enter Try.func19, Try.ntmps19
  go_wp2
  go_loopg [3, 4] L (fun g x i wr => ∃ (k : Nat) (ax : Option Addr) (cx : Nat), k + g = L ∧ x = .slice ax k cx ∧ i = .int .i64 k ∧ Hid (wr.ownsRow w.heap.size 33 3 (.slice ax k cx) k (flat txCs ((vs.take k).map fun x => txI x.o.tx))) ∧ Hid (Below w.heap.size w wr))
  case atStart => exact ⟨0, none, 0, by omega, rfl, rfl, hide (World.ownsRow_nil _ _ _ _), hide (Below.refl _ _)⟩
  case round =>
    obtain ⟨k, ax, cx, hk, rfl, rfl, HO, HB⟩ := hrel
    have m1 := HM.out wr HB.out
    cases gk with
    | zero =>
      obtain rfl : k = L := by omega
      have hz : ¬ ((k : Int) < (k : Int)) := by omega
      go_wp2_with fail
      go_ret
      refine ⟨_, rfl, ?_, HB.out⟩
      have ho := HO.out
      have e1 : vs.take k = vs := by rw [HL.out]; exact List.take_length
      rw [e1] at ho
      rw [← HL.out]
      exact ho
    | succ g =>
      have hkI : (k : Int) < (L : Int) := by omega
      have hkn : k < vs.length := by rw [← HL.out]; omega
      obtain ⟨en, b, off, hao, hbl, hc⟩ := (HR.out.below HB.out).src.at recON.len hkn
      have r0 := hc 0 _ rfl
      have r1 := hc 1 _ rfl
      have r2 := hc 2 _ rfl
      cases hao
      rw [Nat.add_zero] at r0
      have HTS : Hid ((vs.take (k + 1)).map (fun x => txI x.o.tx) = (vs.take k).map (fun x => txI x.o.tx) ++ [txI (vs[k]).o.tx]) := hide (by rw [List.take_succ_eq_append_getElem hkn, List.map_append]; rfl)
      have HTL : Hid (((vs.take k).map fun x => txI x.o.tx).length = k) := hide (by rw [List.length_map, List.length_take]; omega)
      generalize vs[k].o.tx = y at *
      have HTN : Hid (((vs.take k).map (fun x => txI x.o.tx) ++ [txI y]).length = k + 1) := hide (by rw [List.length_append, HTL.out]; rfl)
      have HAL := hide (alloc_below14 wr (.cells #[.int .u8 (y.1 : Int), .int .u32 (y.2.1 : Int), .int .u32 (y.2.2 : Int)] 33))
      have HOW := hide (owns_keep HO.out (KeepBut.of_below (fun _ => False) HAL.out) (fun _ _ h => h))
      have HWS := hide HB.out.size
      clear hc en hbl
      go_wp2_with (at_builtin; refine wp_recs recTX _ rfl _ _ rfl w.heap.size (.slice ax k cx) _ ((vs.take k).map fun x => txI x.o.tx) [txI y] rfl (by rw [HTL.out]; exact HOW.out) rfl (src_new (enc := txCs) wr (txI y) _ (txCs_arr y) 33) (fun z hz => by simp at hz; subst hz; exact tx_one14 _) (by rw [HTL.out]; simp; omega) (Nat.le_trans HWS.out HAL.out.size) ?_; intro v4 w4 ho4 hg4 _; rw [HTN.out] at ho4; obtain ⟨a4, c4, hv4, _⟩ := owns_shapeR ho4; subst hv4; have HB4 : Hid (Below w.heap.size w w4) := hide ((HB.out.trans (HAL.out.mono HB.out.size)).grown hg4 (Nat.le_trans HWS.out HAL.out.size) (fun j hj => (HOW.out.lt j hj).1)); have HO4 := hide ho4; clear ho4 hg4)
      go_roundg g
      case measure => omega
      case rel =>
        refine ⟨k + 1, a4, c4, by omega, ?_, by first | rfl | go_num, hide ?_, HB4⟩
        · rfl
        · have ho := HO4.out
          rw [HTS.out]
          exact ho
end
section
open Go.RowKit Classical

theorem own_at {l : List OnP} {k : List Int} : ∀ {i : Nat} (hi : i < l.length), (∀ j (hj : j < i), hasK (l[j]'(Nat.lt_trans hj hi)) k = false) → hasK l[i] k = true → ownS l k = some l[i].tx := by
  unfold ownS
  induction l with
  | nil => intro i hi; simp at hi
  | cons x l ih =>
    intro i hi hno hyes
    cases i with
    | zero => rw [List.find?_cons_of_pos (by simpa using hyes)]; rfl
    | succ i =>
      have h0 := hno 0 (by omega)
      rw [List.find?_cons_of_neg (by simpa using h0)]
      exact ih (i := i) (by simpa using hi) (fun j hj => by simpa using hno (j + 1) (by omega)) (by simpa using hyes)
theorem build14tx (w : World) : (Instr.build 33 #[]).run Try.prog w = .ok (.agg #[.int .u8 0, .int .u32 0, .int .u32 0]) w := by kernel_rfl
set_option maxRecDepth 100000 in
set_option maxHeartbeats 3200000 in
theorem rgOwner_any (r : Nat) (v : Value) (vs : List OnV) (k : List Int) (w : World) (h : RSg w r v vs) (hk : KeyOk k) :
    Calls Try.prog 21 #[.pointer (some ⟨r, 0, none⟩), .agg (eightA k)] w fun e w' => e = .returned (.tuple #[txVN ((ownS (osV vs) k).getD (0, 0, 0)), .bool (ownS (osV vs) k).isSome]) ∧ Below w.heap.size w w' := by
  have hA := alloc_below14 w (.cells (eightA k) 53)
  have hA2 := alloc_below14 (w.alloc (.cells (eightA k) 53)) (.cells #[.int .u8 0, .int .u32 0, .int .u32 0] 33)
  have hB2 := hA.trans (hA2.mono hA.size)
  have HXK := hide ((box_new w (eightA k) 53).belowI hA2)
  have HXR : Hid (Box ((w.alloc (.cells (eightA k) 53)).alloc (.cells #[.int .u8 0, .int .u32 0, .int .u32 0] 33)) (w.heap.size + 1) #[.int .u8 0, .int .u32 0, .int .u32 0] 33) := hide (by have := box_new (w.alloc (.cells (eightA k) 53)) #[.int .u8 0, .int .u32 0, .int .u32 0] 33; simpa using this)
  obtain ⟨w1, hw1⟩ : ∃ w1, w1 = (w.alloc (.cells (eightA k) 53)).alloc (.cells #[.int .u8 0, .int .u32 0, .int .u32 0] 33) := ⟨_, rfl⟩
  obtain ⟨p1, hp1⟩ : ∃ p1, p1 = w.heap.size + 1 := ⟨_, rfl⟩
  rw [← hw1] at HXK HXR hB2
  rw [← hp1] at HXR
  have HW1 := hide hw1
  have HP1 := hide hp1
  have HB := hide hB2
  have HR := hide (h.below hB2)
  have hp0 : w.heap.size ≤ p1 := by omega
  obtain ⟨ao, cap, hvb, hcap, hcm⟩ := HR.out.src.shape
  subst hvb
  have m1 : w1.cell? ⟨r, 0, none⟩ = some (.slice ao vs.length cap) := HR.out.box.cell 0 _ rfl
  obtain ⟨x0, x1, x2, x3, x4, x5, x6, x7⟩ := box_eight14 HXK.out
  obtain ⟨L, hL⟩ : ∃ L, L = vs.length := ⟨_, rfl⟩
  have hfew : L ≤ 64 := by have := HR.out.all.ok.few; rw [List.length_map] at this; omega
  rw [← hL] at m1
  have HL := hide hL
  have HKL := hide hk.l
  have hbg := build14tx
  clear h hA hA2 hB2 hw1 hp1 hk hcap hcm hL
  go_enter Try.func21, Try.ntmps21
  go_wp2_with fail
  rw [← HW1.out, ← HP1.out]
  go_loopg [6] L (fun g i wr => ∃ i1 : Nat, i1 + g = L ∧ i = .int .i64 i1 ∧ Hid (∀ j (hj : j < vs.length), j < i1 → hasK vs[j].o k = false) ∧ ∃ nd, wr = w1.drewN nd)
  case atStart => exact ⟨0, by omega, rfl, hide (fun j _ hj => by omega), 0, rfl⟩
  case round =>
    obtain ⟨i1, hi1, rfl, HNO, nd, rfl⟩ := hrel
    cases gk with
    | zero =>
      obtain rfl : i1 = L := by omega
      have hz : ¬ ((i1 : Int) < (i1 : Int)) := by omega
      have HE : Hid (ownS (osV vs) k = none) := hide (ownS_none.2 (fun x hx => by
        obtain ⟨y, hy, rfl⟩ := List.mem_map.1 hx
        obtain ⟨j, hj, rfl⟩ := List.getElem_of_mem hy
        exact HNO.out j hj (by have := HL.out; omega)))
      have HB2 := hide (HB.out.trans ((below_drewN14 w1 nd).mono HB.out.size))
      have HX2 := hide (HXR.out.belowI (below_drewN14 w1 nd))
      go_wp2_with (refine wp_store_box rfl rfl _ _ rfl p1 rfl (cs' := #[.int .u8 0, .int .u32 0, .int .u32 0]) rfl HX2.out rfl infoTx14 (by simp [Value.oneCell']) ?_; intro w4 hb4 hk4; have HR4 := hide hb4; have HB4 := hide (HB2.out.trans (hk4.below HB2.out.size (fun k hk => by omega))); clear hb4 hk4)
      refine bodyPost_ret (v := .tuple #[txVN (0, 0, 0), .bool false]) (results_box2s Try.results21 _ _ p1 rfl rfl HR4.out Try.underlying33 rfl infoTx14) rfl ⟨by rw [HE.out]; rfl, HB4.out⟩
    | succ g =>
      have hiI : (i1 : Int) < (L : Int) := by omega
      have hin : i1 < vs.length := by rw [← HL.out]; omega
      obtain ⟨en, b, off, hao, hbl, hc⟩ := HR.out.src.at recON.len hin
      have r0 := hc 0 _ rfl
      have r1 := hc 1 _ rfl
      have r2 := hc 2 _ rfl
      have r5 := hc 5 _ rfl
      cases hao
      rw [Nat.add_zero] at r0
      have hsw := HR.out.wr _ (List.getElem_mem hin)
      have HIN : Hid ((osV vs)[i1]'(by simpa using hin) = vs[i1].o) := hide (by simp)
      have HOA : Hid (hasK vs[i1].o k = true → ownS (osV vs) k = some vs[i1].o.tx) := hide (fun hy => by
        have h1 := own_at (l := osV vs) (k := k) (i := i1) (by simpa using hin) (fun j hj => by have := HNO.out j (by omega) hj; simpa using this) (by simpa using hy)
        rw [h1]
        simp)
      have HHK : Hid (hasK vs[i1].o k = true ↔ ∃ y ∈ vs[i1].o.wr, y.key = k) := hide (hasK_iff _ _)
      have HKO : Hid (∀ y ∈ vs[i1].o.wr, y.key.length = 8) := hide (fun y hy => ((HR.out.oks _ (List.getElem_mem hin)).wr y hy).1.l)
      have HNX : Hid (hasK vs[i1].o k = false → ∀ j (hj : j < vs.length), j < i1 + 1 → hasK vs[j].o k = false) := hide (fun hf j hj hji => by
        by_cases e : j = i1
        · subst e; exact hf
        · exact HNO.out j hj (by omega))
      obtain ⟨pa, pc, hpv, hpc, hpm⟩ := hsw.shape
      obtain ⟨LW, hLW⟩ : ∃ LW, LW = vs[i1].o.wr.length := ⟨_, rfl⟩
      rw [hpv, ← hLW] at r5
      rw [hpv, ← hLW] at hsw
      have HLW := hide hLW
      have HSW := hide hsw
      have hLm : LW ≤ 1000000000 := by
        have hm := (HR.out.all.may _ (List.mem_map.2 ⟨_, List.getElem_mem hin, rfl⟩)).1
        unfold mayO wsMayB at hm
        simp only [Bool.and_eq_true, decide_eq_true_eq] at hm
        have := hm.2.2
        rw [hLW]
        exact Nat.le_trans this (by decide)
      generalize vs[i1].o.tx = tk at *
      generalize vs[i1].o.wr = ws at *
      clear hc en hbl hpc hpm hsw hLW hpv
      go_wp2_with fail
      go_loopg [7] LW (fun g2 j wr => ∃ j1 : Nat, j1 + g2 = LW ∧ j = .int .i64 j1 ∧ Hid (∀ m (hm : m < ws.length), m < j1 → ws[m].key ≠ k) ∧ ∃ nd, wr = w1.drewN nd)
      case atStart => exact ⟨0, by omega, rfl, hide (fun m _ hm => by omega), nd, rfl⟩
      case round =>
        obtain ⟨j1, hj1, rfl, HNK, nd2, rfl⟩ := hrel
        cases gk with
        | zero =>
          obtain rfl : j1 = LW := by omega
          have hz : ¬ ((j1 : Int) < (j1 : Int)) := by omega
          have HF : Hid (hasK vs[i1].o k = false) := hide (by
            cases hc : hasK vs[i1].o k with
            | false => rfl
            | true =>
              obtain ⟨y, hy, e⟩ := HHK.out.1 hc
              obtain ⟨m, hm, rfl⟩ := List.getElem_of_mem hy
              exact absurd e (HNK.out m hm (by have := HLW.out; omega)))
          go_wp2_with fail
          go_roundg g
          case measure => omega
          case rel => exact ⟨i1 + 1, by omega, by first | rfl | go_num, hide (HNX.out HF.out), nd2, rfl⟩
        | succ g2 =>
          have hjI : (j1 : Int) < (LW : Int) := by omega
          have hjn : j1 < ws.length := by rw [← HLW.out]; omega
          obtain ⟨en, pb, po, hpa, hpb, hpc⟩ := HSW.out.at recWR.len hjn
          cases hpa
          have HRW : Hid (∀ j v, (wrE ws[j1])[j]? = some v → w1.cell? ⟨pb, po + j1 * 21 + j, none⟩ = some v) := hide hpc
          have q0 := hpc 0 _ rfl
          have q1 := hpc 1 _ rfl
          have q2 := hpc 2 _ rfl
          have q3 := hpc 3 _ rfl
          have q4 := hpc 4 _ rfl
          have q5 := hpc 5 _ rfl
          have q6 := hpc 6 _ rfl
          have q7 := hpc 7 _ rfl
          rw [Nat.add_zero] at q0
          have hq := fun W => eql_key10 (HKO.out _ (List.getElem_mem hjn)) HKL.out W
          by_cases e : ws[j1].key = k
          · have HYES : Hid (ownS (osV vs) k = some tk) := hide (HOA.out (HHK.out.2 ⟨_, List.getElem_mem hjn, e⟩))
            rw [decide_eq_true e] at hq
            generalize ws[j1].key = yk at *
            clear hpc en hpb e HOA HNX HHK
            go_wp2_with fail
            go_quiet (fail)
            have HX2 := hide (fun n => HXR.out.belowI (below_drewN14 w1 n))
            have HB2 := hide (fun n => HB.out.trans ((below_drewN14 w1 n).mono HB.out.size))
            go_wp2_with (refine wp_store_box rfl rfl _ _ rfl p1 rfl (cs' := #[.int .u8 (tk.1 : Int), .int .u32 (tk.2.1 : Int), .int .u32 (tk.2.2 : Int)]) rfl (HX2.out _) rfl infoTx14 (by simp [Value.oneCell']) ?_; intro w4 hb4 hk4; have HR4 := hide hb4; have HB4 := hide ((HB2.out _).trans (hk4.below (HB2.out _).size (fun k hk => by omega))); clear hb4 hk4)
            refine bodyPost_ret (v := .tuple #[txVN tk, .bool true]) (results_box2s Try.results21 _ _ p1 rfl rfl HR4.out Try.underlying33 rfl infoTx14) rfl ⟨by rw [HYES.out]; rfl, HB4.out⟩
          · have HNK2 : Hid (∀ m (hm : m < ws.length), m < j1 + 1 → ws[m].key ≠ k) := hide (fun m hm hmj => by
              by_cases e2 : m = j1
              · subst e2; exact e
              · exact HNK.out m hm (by omega))
            rw [decide_eq_false e] at hq
            generalize ws[j1].key = yk at *
            clear hpc en hpb e
            go_wp2_with fail
            go_quiet (fail)
            go_wp2_with fail
            go_roundg g2
            case measure => omega
            case rel => exact ⟨j1 + 1, by omega, by first | rfl | go_num, HNK2, nd2 + nq, by simp⟩
end
end Go.Proofs.Ytodomdmmffooaaa
