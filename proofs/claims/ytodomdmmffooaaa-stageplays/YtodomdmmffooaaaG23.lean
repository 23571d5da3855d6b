/-
  Own texts put together: SgRf4. Own work.
-/
import Derived.Test.YtodomdmmffooaaaG22
import Derived.Test.YtodomdmmffooaaaG20
import Derived.Deep.RegionHeld
namespace Go.Proofs.Ytodomdmmffooaaa
section
open Go.RowKit Classical

theorem take_while14 {α : Type} {f : α → Bool} : ∀ {l : List α} {j : Nat}, j ≤ l.length → (∀ x ∈ l.take j, f x = true) → (∀ h : j < l.length, f l[j] = false) → l.takeWhile f = l.take j ∧ l.dropWhile f = l.drop j
  | [], j, _, _, _ => by simp
  | x :: l, 0, _, _, h2 => by
    have hx : f x = false := h2 (by simp)
    rw [List.takeWhile_cons, List.dropWhile_cons]
    simp [hx]
  | x :: l, j + 1, hj, h, h2 => by
    have hx : f x = true := h x (by simp)
    have := take_while14 (l := l) (j := j) (by simpa using hj) (fun y hy => h y (by rw [List.take_succ_cons]; exact List.mem_cons_of_mem _ hy)) (fun hlt => h2 (by simpa using hlt))
    rw [List.takeWhile_cons, List.dropWhile_cons]
    simp [hx, this.1, this.2]
theorem ins_at14 {vs : List OnV} {x : OnP} {p : Value} {j : Nat} (hj : j ≤ vs.length) (h : ∀ m (hm : m < vs.length), m < j → txO vs[m].o.tx x.tx < 0) (h2 : ∀ h : j < vs.length, ¬ txO vs[j].o.tx x.tx < 0) : insS (osV vs) x = osV (vs.take j ++ [⟨x, p⟩] ++ vs.drop j) := by
  obtain ⟨e1, e2⟩ := take_while14 (f := fun y : OnP => decide (txO y.tx x.tx < 0)) (l := osV vs) (j := j) (by simpa using hj) (fun y hy => by
    rw [← List.map_take] at hy
    obtain ⟨z, hz, rfl⟩ := List.mem_map.1 hy
    obtain ⟨m, hm, rfl⟩ := List.getElem_of_mem hz
    rw [List.length_take] at hm
    rw [List.getElem_take]
    simpa using h m (by omega) (by omega)) (fun hlt => by
    have := h2 (by simpa using hlt)
    simpa using this)
  unfold insS
  rw [e1, e2]
  simp
theorem build14one (a b c d e : Int) (ao : Option Addr) (n m : Nat) (w : World) : (Instr.build 91 #[(0, .agg #[.int .u8 a, .int .u32 b, .int .u32 c]), (1, .agg #[.int .u32 d, .int .u32 e]), (2, .slice ao n m)]).run Try.prog w = .ok (.agg #[.int .u8 a, .int .u32 b, .int .u32 c, .int .u32 d, .int .u32 e, .slice ao n m]) w := by kernel_rfl
theorem txO_sF (a b : TxN) : txsF ((a.1 : Int), (a.2.1 : Int), (a.2.2 : Int)) ((b.1 : Int), (b.2.1 : Int), (b.2.2 : Int)) = txO a b := rfl
/-- Two appends one behind the other. -/
theorem run_two14 {α : Type} {t e : TypeId} {K : Nat} {enc : α → List Value} (R : Rec t e K enc) (w : World) (base : Nat) (v vx v2 : Value) (ys xs zs : List α) (hown : w.ownsRow base e K v ys.length (flat enc ys)) (hL : RSrc enc w vx xs) (h2 : RSrc enc w v2 zs) (h1 : ∀ x ∈ xs, ∀ u ∈ enc x, u.oneCell' = true) (h3 : ∀ x ∈ zs, ∀ u ∈ enc x, u.oneCell' = true) (hb : ys.length + xs.length + zs.length ≤ 1000000) (hbase : base ≤ w.heap.size)
    (hap : ∀ g, v2.ownBlock = some g → v.ownBlock ≠ some g) :
    ∃ vD wD vE wE, (∀ ty, (appH #[t, t] ty #[v, vx]).run Try.prog w = .ok vD wD) ∧ (∀ ty, (appH #[t, t] ty #[vD, v2]).run Try.prog wD = .ok vE wE) ∧ Below base w wD ∧ Below base w wE ∧ (∃ a c, vD = .slice a (ys ++ xs).length c) ∧ wE.ownsRow base e K vE (ys ++ xs ++ zs).length (flat enc (ys ++ xs ++ zs)) ∧ KeepBut (fun j => v.ownBlock = some j) w wE := by
  obtain ⟨vD, wD, hrD, hoD, hgD, hobD⟩ := run_recsH R w base v vx ys xs hown hL h1 (by omega) hbase
  have hBD : Below base w wD := (Below.refl _ _).grown hgD hbase (fun j hj => (hown.lt j hj).1)
  have hkD : KeepBut (fun j => v.ownBlock = some j) w wD := ⟨hgD.os, hgD.tape, hgD.output, hgD.size, fun j hj hn => hgD.block j hj (fun e => hn e.symm)⟩
  obtain ⟨vE, wE, hrE, hoE, hgE, _⟩ := run_recsH R wD base vD v2 (ys ++ xs) zs hoD (h2.keep hkD (fun g e => hap g e)) h3 (by rw [List.length_append]; omega) (Nat.le_trans hbase hBD.size)
  refine ⟨vD, wD, vE, wE, hrD, hrE, hBD, hBD.grown hgE (Nat.le_trans hbase hBD.size) (fun j hj => (hoD.lt j hj).1), ?_, hoE, hkD.trans ⟨hgE.os, hgE.tape, hgE.output, hgE.size, fun j hj hn => hgE.block j hj (fun e => hn e.symm)⟩ (fun j hj e => ?_)⟩
  · obtain ⟨a, c, e, _⟩ := owns_shapeR hoD
    exact ⟨a, c, e⟩
  · rcases hobD with o | o
    · rw [← o]; exact e
    · rw [o] at e
      have := Option.some.inj e
      omega
theorem src_lt14 {α : Type} {enc : α → List Value} {w : World} {v : Value} {xs : List α} (h : RSrc enc w v xs) (hne : xs ≠ []) : ∀ g, v.ownBlock = some g → g < w.heap.size := fun g e => by
  obtain ⟨b, off, c, rfl, hb, _⟩ := h.block hne
  cases e
  exact hb
attribute [local go_sem ↓] app_hideH
set_option maxRecDepth 100000 in
set_option maxHeartbeats 12800000 in
theorem rgPut_any (r : Nat) (v : Value) (vs : List OnV) (x : OnP) (u : Value) (w : World) (h : RSg w r v vs) (hx : OnOk x) (hs : RSrc wrE w u x.wr) (hv : ∀ y ∈ x.wr, y.it.val.length ≤ 9223372036854775807) (hlen : x.wr.length ≤ 100000) :
    Calls Try.prog 14 #[.pointer (some ⟨r, 0, none⟩), txVN x.tx, rgV x.rg, u] w fun e w' => e = .returned (.int .i64 (pA (osV vs) x)) ∧ RSid w w' r v vs (pS (osV vs) x) := by
  obtain ⟨tx, rg, ws⟩ := x
  have hA := alloc_below14 w (.cells #[.int .u8 (tx.1 : Int), .int .u32 (tx.2.1 : Int), .int .u32 (tx.2.2 : Int)] 33)
  have hA2 := alloc_below14 (w.alloc (.cells #[.int .u8 (tx.1 : Int), .int .u32 (tx.2.1 : Int), .int .u32 (tx.2.2 : Int)] 33)) (.cells #[.int .u32 (rg.1 : Int), .int .u32 (rg.2 : Int)] 35)
  have hB2 := hA.trans (hA2.mono hA.size)
  have HR0 := hide h
  have H2 := hide (h.below hB2)
  have HSR := hide (hs.below hB2)
  have HXT := hide ((box_new w #[.int .u8 (tx.1 : Int), .int .u32 (tx.2.1 : Int), .int .u32 (tx.2.2 : Int)] 33).belowI hA2)
  have HXR : Hid (Box ((w.alloc (.cells #[.int .u8 (tx.1 : Int), .int .u32 (tx.2.1 : Int), .int .u32 (tx.2.2 : Int)] 33)).alloc (.cells #[.int .u32 (rg.1 : Int), .int .u32 (rg.2 : Int)] 35)) (w.heap.size + 1) #[.int .u32 (rg.1 : Int), .int .u32 (rg.2 : Int)] 35) := hide (by have := box_new (w.alloc (.cells #[.int .u8 (tx.1 : Int), .int .u32 (tx.2.1 : Int), .int .u32 (tx.2.2 : Int)] 33)) #[.int .u32 (rg.1 : Int), .int .u32 (rg.2 : Int)] 35; simpa using this)
  obtain ⟨w1, hw1⟩ : ∃ w1, w1 = (w.alloc (.cells #[.int .u8 (tx.1 : Int), .int .u32 (tx.2.1 : Int), .int .u32 (tx.2.2 : Int)] 33)).alloc (.cells #[.int .u32 (rg.1 : Int), .int .u32 (rg.2 : Int)] 35) := ⟨_, rfl⟩
  obtain ⟨p5, hp5⟩ : ∃ p5, p5 = w.heap.size := ⟨_, rfl⟩
  obtain ⟨p6, hp6⟩ : ∃ p6, p6 = p5 + 1 := ⟨_, rfl⟩
  rw [← hw1] at HXT HXR hB2 H2 HSR
  rw [← hp5] at HXT HXR
  rw [← hp6] at HXR
  have HB2 : Hid (Below w.heap.size w w1) := hide hB2
  have HW1 := hide hw1
  have HP5 := hide hp5
  have HP6 := hide hp6
  have HOK := hide hx
  have CT := hide (fun W => rtxMay_any (tx.1 : Int) (tx.2.1 : Int) (tx.2.2 : Int) W)
  have CR := hide (fun W => rregMay_any (rg.1 : Int) (rg.2 : Int) W)
  have CW := hide (fun W hW => rwrites_any u ws W hW hx.wr hv hlen)
  obtain ⟨ao, cap, rfl, hc, hm⟩ := hs.shape
  unfold maxLen at hm
  dsimp only at hc
  have HMS := hide (may_split ⟨tx, rg, ws⟩)
  have HLE := hide (len_empty (ws := ws))
  obtain ⟨N1, hN1⟩ : ∃ N1, N1 = txMayB (txI tx) := ⟨_, rfl⟩
  obtain ⟨N2, hN2⟩ : ∃ N2, N2 = regMayB ((rg.1 : Int), (rg.2 : Int)) := ⟨_, rfl⟩
  obtain ⟨N3, hN3⟩ : ∃ N3, N3 = ws.isEmpty := ⟨_, rfl⟩
  obtain ⟨N4, hN4⟩ : ∃ N4, N4 = wsMayB ws := ⟨_, rfl⟩
  have hN1' : N1 = txMayB ((tx.1 : Int), (tx.2.1 : Int), (tx.2.2 : Int)) := hN1
  dsimp only at HMS
  rw [← hN1, ← hN2, ← hN3, ← hN4] at HMS
  rw [← hN1'] at CT
  rw [← hN2] at CR
  rw [← hN3] at HLE
  rw [← hN4] at CW
  obtain ⟨LN, hLN⟩ : ∃ LN, LN = ws.length := ⟨_, rfl⟩
  dsimp only at HSR CW
  rw [← hLN] at HSR HLE hc CW ⊢
  have hle : ((LN : Int) == 0) = N3 := HLE.out
  have HLN := hide hLN
  have HP1 : Hid (mayO ⟨tx, rg, ws⟩ = false → pA (osV vs) ⟨tx, rg, ws⟩ = 1 ∧ pS (osV vs) ⟨tx, rg, ws⟩ = osV vs) := hide (fun e => by unfold pA pS; rw [e]; exact ⟨rfl, rfl⟩)
  have HW4 : Hid (N4 = true → LN ≤ 1000) := hide (fun e => by
    rw [hN4] at e
    unfold wsMayB at e
    simp only [Bool.and_eq_true, decide_eq_true_eq] at e
    rw [hLN]
    exact Nat.le_trans e.2 (by decide))
  clear h hx hs hv hlen hA hA2 hB2 hN1 hN2 hN3 hN4 hN1' HLE hLN hw1 hp5 hp6
  go_enter Try.func14, Try.ntmps14
  go_wp2_with fail
  rw [← HW1.out, ← HP5.out, ← HP6.out]
  go_wp2_with (refine wp_load_box rfl _ rfl p5 rfl HXT.out Try.underlying33 rfl infoTx14 ?_)
  cases N1 with
  | false =>
    have HM := HP1.out (by rw [HMS.out]; rfl)
    refine (CT.out w1).mono ?_
    rintro e w3 ⟨rfl, hB3⟩
    have HB3 := hide (HB2.out.trans (hB3.mono HB2.out.size))
    clear hB3
    go_wp2_with fail
    go_ret
    exact ⟨by rw [HM.1]; rfl, by rw [HM.2]; exact RSid.of_below HR0.out HB3.out⟩
  | true =>
  refine (CT.out w1).mono ?_
  rintro e w3 ⟨rfl, hB3⟩
  replace HXT := hide (HXT.out.belowI hB3)
  replace HXR := hide (HXR.out.belowI hB3)
  replace HB2 := hide (HB2.out.trans (hB3.mono HB2.out.size))
  replace HSR := hide (HSR.out.below hB3)
  replace H2 := hide (H2.out.below hB3)
  clear hB3 CT
  go_wp2_with (first | (refine wp_load_box_g rfl _ rfl p6 rfl HXR.out Try.underlying35 rfl infoRg14 ?_))
  cases N2 with
  | false =>
    have HM := HP1.out (by rw [HMS.out]; rfl)
    refine (CR.out w3).mono ?_
    rintro e w4 ⟨rfl, hB3⟩
    have HB3 := hide (HB2.out.trans (hB3.mono HB2.out.size))
    clear hB3
    go_wp2_with fail
    go_ret
    exact ⟨by rw [HM.1]; rfl, by rw [HM.2]; exact RSid.of_below HR0.out HB3.out⟩
  | true =>
  refine (CR.out w3).mono ?_
  rintro e w4 ⟨rfl, hB3⟩
  replace HXT := hide (HXT.out.belowI hB3)
  replace HXR := hide (HXR.out.belowI hB3)
  replace HB2 := hide (HB2.out.trans (hB3.mono HB2.out.size))
  replace HSR := hide (HSR.out.below hB3)
  replace H2 := hide (H2.out.below hB3)
  clear hB3 CR
  cases N3 with
  | true =>
    have HM := HP1.out (by rw [HMS.out]; rfl)
    go_wp2_with fail
    go_ret
    exact ⟨by rw [HM.1]; rfl, by rw [HM.2]; exact RSid.of_below HR0.out HB2.out⟩
  | false =>
  have CW4 := hide (CW.out w4 HSR.out)
  clear CW
  go_wp2_with fail
  cases N4 with
  | false =>
    have HM := HP1.out (by rw [HMS.out]; rfl)
    refine CW4.out.mono ?_
    rintro e w5 ⟨rfl, hB3⟩
    have HB3 := hide (HB2.out.trans (hB3.mono HB2.out.size))
    clear hB3
    go_wp2_with fail
    go_ret
    exact ⟨by rw [HM.1]; rfl, by rw [HM.2]; exact RSid.of_below HR0.out HB3.out⟩
  | true =>
  refine CW4.out.mono ?_
  rintro e w5 ⟨rfl, hB3⟩
  replace HXT := hide (HXT.out.belowI hB3)
  replace HXR := hide (HXR.out.belowI hB3)
  replace HB2 := hide (HB2.out.trans (hB3.mono HB2.out.size))
  replace HSR := hide (HSR.out.below hB3)
  replace H2 := hide (H2.out.below hB3)
  have HMM : Hid (mayO ⟨tx, rg, ws⟩ = true) := hide (by rw [HMS.out]; rfl)
  have hLN1 : LN ≤ 1000 := HW4.out rfl
  clear hB3 CW4 HMS HP1 HW4
  -- find
  obtain ⟨k0, k1, k2⟩ := HXT.out.three
  have CF := hide (rgfind_any r v vs tx w5 H2.out)
  cases hf : onS (osV vs) tx with
  | some y =>
    obtain ⟨k, hk1, hk, hky, hkt⟩ := pl_on hf
    have hkv : k < vs.length := by simpa using hk
    have hyo : vs[k].o = y := by simpa using hky
    have HEA : Hid (pA (osV vs) ⟨tx, rg, ws⟩ = (if (decide (vs[k].o.rg = rg) && wsEqB vs[k].o.wr ws) = true then 0 else 7) ∧ pS (osV vs) ⟨tx, rg, ws⟩ = osV vs) := hide (by
      unfold pA pS putA putS
      dsimp only
      rw [HMM.out, hf, hyo]
      simp)
    have hfew : vs.length ≤ 64 := by have := H2.out.all.ok.few; rw [List.length_map] at this; omega
    rw [hk1] at CF
    clear hf hk1 hk hky hkt hyo
    go_wp2_with fail
    refine CF.out.mono ?_
    rintro e w6 ⟨rfl, hB3⟩
    replace HXT := hide (HXT.out.belowI hB3)
    replace HXR := hide (HXR.out.belowI hB3)
    replace HB2 := hide (HB2.out.trans (hB3.mono HB2.out.size))
    replace HSR := hide (HSR.out.below hB3)
    replace H2 := hide (H2.out.below hB3)
    clear hB3 CF k0 k1 k2
    obtain ⟨so, sc, hvb, hcap, hcm⟩ := H2.out.src.shape
    subst hvb
    have m1 : w6.cell? ⟨r, 0, none⟩ = some (.slice so vs.length sc) := H2.out.box.cell 0 _ rfl
    obtain ⟨en, b, off, hao, hbl, hcl⟩ := H2.out.src.at recON.len hkv
    have y3 := hcl 3 _ rfl
    have y4 := hcl 4 _ rfl
    have y5 := hcl 5 _ rfl
    cases hao
    have HSU := hide (H2.out.wr _ (List.getElem_mem hkv))
    have HYO : Hid (∀ y ∈ vs[k].o.wr, KeyOk y.key ∧ ItOk y.it) := hide (H2.out.oks _ (List.getElem_mem hkv)).wr
    obtain ⟨L, hL⟩ : ∃ L, L = vs.length := ⟨_, rfl⟩
    rw [← hL] at m1
    have hkI : (k : Int) < (L : Int) := by omega
    have d1 : decide ((k : Int) ≥ 0) = true := decide_eq_true (by omega)
    obtain ⟨g0, g1⟩ := HXR.out.two
    have hqr := fun W => eql_rgN vs[k].o.rg rg W
    obtain ⟨pa, pc, hpv, _, _⟩ := HSU.out.shape
    generalize vs[k].p = pk at *
    generalize vs[k].o.wr = wk at *
    generalize vs[k].o.rg = gk at *
    have HBL := hide hbl
    clear hcl en hbl hcap hcm hL hkv hfew
    subst hpv
    by_cases eg : gk = rg
    · rw [decide_eq_true eg] at hqr HEA
      have CS := hide (fun W h1 h2 => rsameWrites_any (.slice pa wk.length pc) (.slice ao LN cap) wk ws W h1 h2 HYO.out HOK.out.wr)
      have HDE : Hid (decide (wk = ws) = wsEqB wk ws) := hide (by rw [Bool.eq_iff_iff, decide_eq_true_eq, wsEqB_iff])
      rw [HDE.out] at CS
      generalize wk.length = lk at *
      obtain ⟨B, hB⟩ : ∃ B, B = wsEqB wk ws := ⟨_, rfl⟩
      rw [← hB] at CS HEA
      obtain ⟨ga, gb⟩ := gk
      dsimp only at y3 y4
      have HCS : Hid (∀ W, Below w6.heap.size w6 W → W.cell? ⟨r, 0, none⟩ = some (.slice (some ⟨b, off, none⟩) L sc) ∧ W.cell? ⟨b, off + k * 6 + 3, none⟩ = some (.int .u32 (ga : Int)) ∧ W.cell? ⟨b, off + k * 6 + 4, none⟩ = some (.int .u32 (gb : Int)) ∧ W.cell? ⟨b, off + k * 6 + 5, none⟩ = some (.slice pa lk pc) ∧ W.cell? ⟨p6, 0, none⟩ = some (.int .u32 (rg.1 : Int)) ∧ W.cell? ⟨p6, 1, none⟩ = some (.int .u32 (rg.2 : Int))) := hide (fun W hW => ⟨(hW.cell (p := ⟨r, 0, none⟩) H2.out.box.lt).trans m1, (hW.cell (p := ⟨b, off + k * 6 + 3, none⟩) HBL.out).trans y3, (hW.cell (p := ⟨b, off + k * 6 + 4, none⟩) HBL.out).trans y4, (hW.cell (p := ⟨b, off + k * 6 + 5, none⟩) HBL.out).trans y5, (HXR.out.belowI hW).two.1, (HXR.out.belowI hW).two.2⟩)
      clear hB eg HDE
      go_wp2_with fail
      go_region_held (fun w' => w'.cell? ⟨r, 0, none⟩ = some (.slice (some ⟨b, off, none⟩) L sc) ∧ w'.cell? ⟨b, off + k * 6 + 3, none⟩ = some (.int .u32 (ga : Int)) ∧ w'.cell? ⟨b, off + k * 6 + 4, none⟩ = some (.int .u32 (gb : Int)) ∧ w'.cell? ⟨b, off + k * 6 + 5, none⟩ = some (.slice pa lk pc) ∧ w'.cell? ⟨p6, 0, none⟩ = some (.int .u32 (rg.1 : Int)) ∧ w'.cell? ⟨p6, 1, none⟩ = some (.int .u32 (rg.2 : Int))) (go_keep) (first
        | (go_at_call 12; refine (CS.out _ (HSU.out.below (below_drew14 _)) (HSR.out.below (below_drew14 _))).mono ?_; rintro e w7 ⟨rfl, hB7⟩; have HB7 := hide (HB2.out.trans (((below_drew14 w6).trans hB7).mono HB2.out.size)); have ss := HCS.out _ ((below_drew14 w6).trans hB7); clear hB7))
      all_goals
        cases B
        all_goals go_wp2_with fail
        all_goals go_ret
        all_goals exact ⟨by rw [HEA.out.1]; rfl, by rw [HEA.out.2]; exact RSid.of_below HR0.out HB7.out⟩
    · rw [decide_eq_false eg] at hqr HEA
      obtain ⟨ga, gb⟩ := gk
      dsimp only at y3 y4
      clear eg
      go_wp2_with fail
      go_quiet (fail)
      have HB7 := hide (HB2.out.trans ((below_drewN14 w6 nq).mono HB2.out.size))
      go_wp2_with fail
      go_ret
      exact ⟨by rw [HEA.out.1]; rfl, by rw [HEA.out.2]; exact RSid.of_below HR0.out HB7.out⟩
  | none =>
    have hp : plS (osV vs) tx = -1 := pl_none (fun x hx => onS_none.1 hf x hx)
    have HNO := hide hf
    have HEA := hide (pA_ref HMM.out hf)
    have HREF : Hid (pS (osV vs) ⟨tx, rg, ws⟩ = if refS (osV vs) ws = 0 then insS (osV vs) ⟨tx, rg, ws⟩ else osV vs) := hide (by
      unfold pS putS
      rw [if_pos HMM.out]
      have e1 : putA (osV vs) ⟨tx, rg, ws⟩ = refS (osV vs) ws := by
        have := HEA.out
        unfold pA at this
        rw [if_pos HMM.out] at this
        exact this
      rw [e1, hf]
      by_cases e : refS (osV vs) ws = 0
      · rw [if_pos e, e]; rfl
      · rw [if_neg e]; simp [e])
    rw [hp] at CF
    clear hf hp
    go_wp2_with fail
    refine CF.out.mono ?_
    rintro e w6 ⟨rfl, hB3⟩
    replace HXT := hide (HXT.out.belowI hB3)
    replace HXR := hide (HXR.out.belowI hB3)
    replace HB2 := hide (HB2.out.trans (hB3.mono HB2.out.size))
    replace HSR := hide (HSR.out.below hB3)
    replace H2 := hide (H2.out.below hB3)
    clear hB3 CF k0 k1 k2
    obtain ⟨L, hL⟩ : ∃ L, L = vs.length := ⟨_, rfl⟩
    have hfew : L ≤ 64 := by have := H2.out.all.ok.few; rw [List.length_map] at this; omega
    have HL := hide hL
    obtain ⟨R, hR⟩ : ∃ R, R = refS (osV vs) ws := ⟨_, rfl⟩
    have HRR := hide hR
    rw [show refS (osV vs) (OnP.mk tx rg ws).wr = R from hR.symm] at HEA
    rw [← hR] at HREF
    clear hL hR
    go_wp2_with fail
    go_loopg [10] LN (fun g i wr => ∃ j : Nat, j + g = LN ∧ i = .int .i64 j ∧ Hid ((ws.take j).any (fun y => (ownS (osV vs) y.key).isSome) = false) ∧ Hid (Below w6.heap.size w6 wr))
    case atStart => exact ⟨0, by omega, rfl, hide (by simp), hide (Below.refl _ _)⟩
    case round =>
      obtain ⟨j, hj, rfl, HAN, HBW⟩ := hrel
      cases gk with
      | succ g =>
        have hz : (j : Int) < (LN : Int) := by omega
        have hjn : j < ws.length := by rw [← HLN.out]; omega
        have HSW := hide (HSR.out.below HBW.out)
        have HRW := hide (H2.out.below HBW.out)
        obtain ⟨en, b, off, rfl, hb, hcl⟩ := HSW.out.at recWR.len hjn
        have HRg : Hid (wr.rangeAt b (off + j * 21) (eightE (ws[j]).key)) := hide (fun m v hv => hcl m v (by
          show (eightE (ws[j]).key ++ itE (ws[j]).it)[m]? = some v
          rw [List.getElem?_append_left (List.getElem?_eq_some_iff.1 hv).1]
          exact hv))
        have HKO := hide (HOK.out.wr _ (List.getElem_mem hjn)).1
        have HTS := hide (take_any14 (fun y : WrP => (ownS (osV vs) y.key).isSome) ws hjn)
        have HEX : Hid ((ownS (osV vs) (ws[j]).key).isSome = true → R = 11) := hide (fun h => by
          rw [HRR.out]
          unfold refS
          rw [if_pos (List.any_eq_true.mpr ⟨_, List.getElem_mem hjn, h⟩)])
        have CO := hide (rgOwner_any r v vs (ws[j]).key wr HRW.out HKO.out)
        generalize ws[j] = y at *
        obtain ⟨O, hO⟩ : ∃ O, O = ownS (osV vs) y.key := ⟨_, rfl⟩
        rw [← hO] at HTS HEX CO
        obtain ⟨B, hB⟩ : ∃ B, B = O.isSome := ⟨_, rfl⟩
        rw [← hB] at HTS HEX CO
        clear hcl en hb hO hB
        go_wp2_with (refine wpList_load_mid rfl 53 _ rfl b (off + j * 21) rfl (eightE y.key) _ HRg.out Try.underlying53 rfl infoKey14 ?_)
        refine CO.out.mono ?_
        rintro e w7 ⟨rfl, hB7⟩
        have HBW7 : Hid (Below w6.heap.size w6 w7) := hide (HBW.out.trans (hB7.mono HBW.out.size))
        have HZ := hide (box_new w7 #[.int .u8 0, .int .u32 0, .int .u32 0] 33)
        have HZB : Hid (Below w6.heap.size w6 (w7.alloc (.cells #[.int .u8 0, .int .u32 0, .int .u32 0] 33))) := hide (HBW7.out.alloc HBW7.out.size _)
        have HS7 := HBW7.out.size
        clear hB7 CO
        cases B with
        | true =>
          have HE := hide (HEX.out rfl)
          go_wp2_with (refine wp_store_box rfl rfl _ _ rfl w7.heap.size rfl (cs' := #[.int .u8 ((O.getD (0, 0, 0)).1 : Int), .int .u32 ((O.getD (0, 0, 0)).2.1 : Int), .int .u32 ((O.getD (0, 0, 0)).2.2 : Int)]) rfl HZ.out rfl infoTx14 (by simp [Value.oneCell']) ?_; intro w8 hb8 hk8; have HB8 : Hid (Below w6.heap.size w6 w8) := hide (HZB.out.trans (hk8.below HZB.out.size (fun k hk => by omega))); clear hb8 hk8)
          go_ret
          have hbf := HB2.out.trans (HB8.out.mono HB2.out.size)
          exact ⟨by rw [HEA.out, HE.out]; rfl, by rw [HREF.out, HE.out, if_neg (by decide)]; exact RSid.of_below HR0.out hbf⟩
        | false =>
          have HT2 : Hid ((ws.take (j + 1)).any (fun y => (ownS (osV vs) y.key).isSome) = false) := hide (by rw [HTS.out, HAN.out]; rfl)
          go_wp2_with (refine wp_store_box rfl rfl _ _ rfl w7.heap.size rfl (cs' := #[.int .u8 ((O.getD (0, 0, 0)).1 : Int), .int .u32 ((O.getD (0, 0, 0)).2.1 : Int), .int .u32 ((O.getD (0, 0, 0)).2.2 : Int)]) rfl HZ.out rfl infoTx14 (by simp [Value.oneCell']) ?_; intro w8 hb8 hk8; have HB8 : Hid (Below w6.heap.size w6 w8) := hide (HZB.out.trans (hk8.below HZB.out.size (fun k hk => by omega))); clear hb8 hk8)
          go_roundg g
          case measure => omega
          case rel => exact ⟨j + 1, by omega, by first | rfl | go_num, HT2, HB8⟩
      | zero =>
        obtain rfl : LN = j := by omega
        have hz : ¬ ((LN : Int) < (LN : Int)) := by omega
        have HANY : Hid (ws.any (fun y => (ownS (osV vs) y.key).isSome) = false) := hide (by
          have := HAN.out
          rw [HLN.out, List.take_length] at this
          exact this)
        have HRf : Hid (R = if 64 ≤ L then 5 else 0) := hide (by
          rw [HRR.out]
          unfold refS
          rw [HANY.out, if_neg (by decide), HL.out, List.length_map])
        replace HXT := hide (HXT.out.belowI HBW.out)
        replace HXR := hide (HXR.out.belowI HBW.out)
        replace HB2 := hide (HB2.out.trans (HBW.out.mono HB2.out.size))
        replace HSR := hide (HSR.out.below HBW.out)
        replace H2 := hide (H2.out.below HBW.out)
        obtain ⟨so, sc, hvb, hcap, hcm⟩ := H2.out.src.shape
        have HVB := hide hvb
        have m1 : wr.cell? ⟨r, 0, none⟩ = some (.slice so L sc) := by
          have := H2.out.box.cell 0 _ rfl
          rw [hvb, ← HL.out] at this
          exact this
        have HSC : Hid (L ≤ sc) := hide (by rw [HL.out]; exact hcap)
        clear hvb hcap hcm
        by_cases h64 : 64 ≤ L
        · have hR5 : R = 5 := by rw [HRf.out, if_pos h64]
          have d1 : decide ((L : Int) ≥ 64) = true := decide_eq_true (by omega)
          subst hR5
          go_wp2_with fail
          go_ret
          exact ⟨by rw [HEA.out]; rfl, by rw [HREF.out, if_neg (by decide)]; exact RSid.of_below HR0.out HB2.out⟩
        have hR0 : R = 0 := by rw [HRf.out, if_neg h64]
        have d1 : decide ((L : Int) ≥ 64) = false := decide_eq_false (by omega)
        subst hR0
        have HIN : Hid (SgOk (insS (osV vs) ⟨tx, rg, ws⟩)) := hide (by
          have hne : ws ≠ [] := may_some HMM.out
          refine insS_ok H2.out.all.ok HNO.out (by rw [List.length_map, ← HL.out]; omega) hne (fun y hy => ?_)
          cases ho : ownS (osV vs) y.key with
          | none => rfl
          | some z =>
            have := HANY.out
            rw [List.any_eq_false] at this
            have h2 := this y hy
            rw [ho] at h2
            exact absurd rfl h2)
        have HALL : Hid (SgAll (insS (osV vs) ⟨tx, rg, ws⟩)) := hide ⟨HIN.out, fun y hy => by
          rcases (insS_mem _ _ y).1 hy with rfl | hy
          · exact ⟨HMM.out, fun z hz => (HOK.out.wr z hz).1.l⟩
          · exact H2.out.all.may y hy⟩
        clear hz HANY HRf HAN HBW HRR h64
        -- the place
        go_wp2_with fail
        clear m1
        obtain ⟨wq, rfl⟩ : ∃ wq, wq = wr := ⟨_, rfl⟩
        go_loopg [13] L (fun g i wy => ∃ k : Nat, k + g = L ∧ i = .int .i64 k ∧ Hid (∀ m (hm : m < vs.length), m < k → txO vs[m].o.tx tx < 0) ∧ Hid (Below wq.heap.size wq wy))
        case atStart => exact ⟨0, by omega, rfl, hide (fun m _ hm => by omega), hide (Below.refl _ _)⟩
        case round =>
          obtain ⟨k, hk, rfl, HAH, HBY⟩ := hrel
          have HXTy := hide (HXT.out.belowI HBY.out)
          have HXRy := hide (HXR.out.belowI HBY.out)
          have HBy := hide (HB2.out.trans (HBY.out.mono HB2.out.size))
          have HSy := hide (HSR.out.below HBY.out)
          have HRy := hide (H2.out.below HBY.out)
          have m1 : wr.cell? ⟨r, 0, none⟩ = some (.slice so L sc) := by
            have := HRy.out.box.cell 0 _ rfl
            rw [HVB.out, ← HL.out] at this
            exact this
          cases gk with
          | zero =>
            obtain rfl : k = L := by omega
            have hz : ¬ ((k : Int) < (k : Int)) := by omega
            have HNOT : Hid (∀ h : k < vs.length, ¬ txO vs[k].o.tx tx < 0) := hide (fun h => by have := HL.out; omega)
            go_wp2_with fail
            go_quiet (fail)
            generalize hwx : wr.drewN nq = Wx
            have hBx : Below wr.heap.size wr Wx := hwx ▸ below_drewN14 wr nq
            clear hwx m1 hz
            have hkL : k ≤ k := Nat.le_refl _
            have hRx := HRy.out.below hBx
            have hXTx := HXTy.out.belowI hBx
            have hXRx := HXRy.out.belowI hBx
            have hsw := HSy.out.below hBx
            have HBx := hide (HBy.out.trans (hBx.mono HBy.out.size))
            have hsx := hRx.src
            rw [HVB.out] at hsx
            have hon := hRx.ones
            have hsc := HSC.out
            have hto := fun W => run_toR recON W so k sc k (by omega)
            have hfr := fun W => run_fromR recON W so k sc k (by omega)
            obtain ⟨af, haf⟩ : ∃ af, af = if sc = k then so else (so : Option Addr).map (·.add (k * 6)) := ⟨_, rfl⟩
            rw [← haf] at hfr
            have hs1 := src_takeR hsx recON.len (i := k) (by rw [← HL.out]; exact hkL)
            have hs2 := src_dropR hsx recON.len (i := k) (by rw [← HL.out]; exact hkL)
            have hfl0 : ∀ g, (Value.slice (if sc = k then so else (so : Option Addr).map (·.add (k * 6))) (k - k) (sc - k)).ownBlock = some g → g < Wx.heap.size := fun g e => (hRx.far g (.inl (by rw [HVB.out, ← HL.out]; rw [own_dropR] at e; exact e))).1
            rw [← haf, ← HL.out] at hs2
            rw [← haf] at hfl0
            obtain ⟨l2, hl2⟩ : ∃ l2, l2 = k - k := ⟨_, rfl⟩
            obtain ⟨cc2, hcc2⟩ : ∃ cc2, cc2 = sc - k := ⟨_, rfl⟩
            rw [← hl2, ← hcc2] at hfr hs2 hfl0
            have hfl := hfl0
            have hBd : Below Wx.heap.size Wx Wx.drew := (Below.refl _ _).drew
            have htl : (vs.take k).length = k := by rw [List.length_take, ← HL.out]; omega
            have hdl : (vs.drop k).length ≤ 64 := by rw [List.length_drop, ← HL.out]; omega
            have FIN : ∀ wf vf pN, Below Wx.heap.size Wx wf → wf.ownsRow Wx.heap.size 91 6 vf (vs.take k ++ [OnV.mk ⟨tx, rg, ws⟩ pN] ++ vs.drop k).length (flat onE (vs.take k ++ [OnV.mk ⟨tx, rg, ws⟩ pN] ++ vs.drop k)) → RSrc wrE wf pN ws → (∀ g, pN.ownBlock = some g → Wx.heap.size ≤ g) → RSid w (wf.setCell ⟨r, 0, none⟩ vf) r v vs (insS (osV vs) ⟨tx, rg, ws⟩) := fun wf vf pN hB ho hp hn => by
              have hins := ins_at14 (vs := vs) (x := ⟨tx, rg, ws⟩) (p := pN) (j := k) (by rw [← HL.out]; exact hkL) (fun m hm hmk => HAH.out m hm hmk) (by first | exact HNOT.out | exact fun hh => Int.not_lt.2 (HNOT.out hh))
              have hlt : ∀ g, pN.ownBlock = some g → g < wf.heap.size := fun g e => src_lt14 hp (may_some HMM.out) g e
              have hput := hRx.put hB ho (fun y hy => by
                rcases List.mem_append.1 hy with hy | hy
                · rcases List.mem_append.1 hy with hy | hy
                  · exact ⟨.inl (List.mem_of_mem_take hy), (hRx.wr y (List.mem_of_mem_take hy)).below hB⟩
                  · obtain rfl := List.mem_singleton.1 hy
                    exact ⟨.inr (fun g e => ⟨hn g e, hlt g e⟩), hp⟩
                · exact ⟨.inl (List.mem_of_mem_drop hy), (hRx.wr y (List.mem_of_mem_drop hy)).below hB⟩) (by rw [← hins]; exact HALL.out) (fun y hy => by
                rcases List.mem_append.1 hy with hy | hy
                · rcases List.mem_append.1 hy with hy | hy
                  · exact hRx.oks y (List.mem_of_mem_take hy)
                  · obtain rfl := List.mem_singleton.1 hy
                    exact HOK.out
                · exact hRx.oks y (List.mem_of_mem_drop hy))
              rw [← hins] at hput
              exact RSid.before HBx.out hput
            have HCELL : Hid (∀ W, Below Wx.heap.size Wx W → W.cell? ⟨r, 0, none⟩ = some (.slice so k sc) ∧ W.frozen? ⟨r, 0, none⟩ = false ∧ W.cell? ⟨p5, 0, none⟩ = some (.int .u8 (tx.1 : Int)) ∧ W.cell? ⟨p5, 1, none⟩ = some (.int .u32 (tx.2.1 : Int)) ∧ W.cell? ⟨p5, 2, none⟩ = some (.int .u32 (tx.2.2 : Int)) ∧ W.cell? ⟨p6, 0, none⟩ = some (.int .u32 (rg.1 : Int)) ∧ W.cell? ⟨p6, 1, none⟩ = some (.int .u32 (rg.2 : Int)) ∧ r < W.heap.size ∧ p5 < W.heap.size ∧ p6 < W.heap.size) := hide (fun W hB => by
              have h1 := (hRx.below hB).box
              have h2 := h1.cell 0 _ rfl
              rw [HVB.out, ← HL.out] at h2
              obtain ⟨a0, a1, a2⟩ := (hXTx.belowI hB).three
              obtain ⟨b0, b1⟩ := (hXRx.belowI hB).two
              exact ⟨h2, h1.frozen 0, a0, a1, a2, b0, b1, h1.lt, (hXTx.belowI hB).lt, (hXRx.belowI hB).lt⟩)
            obtain ⟨qX0, qX1, qX2, qX3, qX4, qX5, qX6, qX7, qX8, qX9⟩ := HCELL.out _ (Below.refl _ _)
            have hbo := build14one (tx.1 : Int) (tx.2.1 : Int) (tx.2.2 : Int) (rg.1 : Int) (rg.2 : Int)
            obtain ⟨vA1, wA1, hrA1, hoA1, hgA1, _⟩ := run_recsH recON Wx.drew Wx.drew.heap.size (.slice none 0 0) (.slice so k sc) [] (vs.take k) (World.ownsRow_nil _ _ _ _) (hs1.below hBd) (ons_one _ (fun x hx => hon x (List.mem_of_mem_take hx))) (by rw [htl]; simp; omega) (Nat.le_refl _)
            rw [List.nil_append] at hoA1
            have hBA1 : Below Wx.heap.size Wx wA1 := hBd.grown hgA1 hBd.size (fun k hk => by cases hk)
            have hsA1 : Below Wx.drew.heap.size Wx.drew wA1 := (Below.refl _ _).grown hgA1 (Nat.le_refl _) (fun k hk => by cases hk)
            obtain ⟨aA1, cA1, hvA1, _⟩ := owns_shapeR hoA1
            subst hvA1
            have hbA1 := hBd.size
            obtain ⟨vB1, wB1, hrB1, hoB1, hgB1, _⟩ := run_recsH recWR wA1 wA1.heap.size (.slice none 0 0) (.slice ao LN cap) [] ws (World.ownsRow_nil _ _ _ _) (hsw.below hBA1) (fun x _ => wr_one x) (by rw [← HLN.out]; simp; omega) (Nat.le_refl _)
            rw [List.nil_append] at hoB1
            have hBB1 : Below Wx.heap.size Wx wB1 := hBA1.grown hgB1 hBA1.size (fun k hk => by cases hk)
            have hsB1 : Below wA1.heap.size wA1 wB1 := (Below.refl _ _).grown hgB1 (Nat.le_refl _) (fun k hk => by cases hk)
            obtain ⟨aB1, cB1, hvB1, _⟩ := owns_shapeR hoB1
            subst hvB1
            have hbB1 := hBA1.size
            have hsC1 : Below wB1.heap.size wB1 (wB1.alloc (.cells #[.int .u8 (tx.1 : Int), .int .u32 (tx.2.1 : Int), .int .u32 (tx.2.2 : Int), .int .u32 (rg.1 : Int), .int .u32 (rg.2 : Int), .slice aB1 LN cB1] 91)) := alloc_below14 _ _
            have hBC1 : Below Wx.heap.size Wx (wB1.alloc (.cells #[.int .u8 (tx.1 : Int), .int .u32 (tx.2.1 : Int), .int .u32 (tx.2.2 : Int), .int .u32 (rg.1 : Int), .int .u32 (rg.2 : Int), .slice aB1 LN cB1] 91)) := hBB1.trans (hsC1.mono hBB1.size)
            have hrC1 : RSrc onE (wB1.alloc (.cells #[.int .u8 (tx.1 : Int), .int .u32 (tx.2.1 : Int), .int .u32 (tx.2.2 : Int), .int .u32 (rg.1 : Int), .int .u32 (rg.2 : Int), .slice aB1 LN cB1] 91)) (.slice (some ⟨wB1.heap.size, 0, none⟩) 1 1) [(OnV.mk ⟨tx, rg, ws⟩ (.slice aB1 LN cB1))] := src_new (enc := onE) wB1 (OnV.mk ⟨tx, rg, ws⟩ (.slice aB1 LN cB1)) _ rfl 91
            have hkA1 : Below wA1.heap.size wA1 (wB1.alloc (.cells #[.int .u8 (tx.1 : Int), .int .u32 (tx.2.1 : Int), .int .u32 (tx.2.2 : Int), .int .u32 (rg.1 : Int), .int .u32 (rg.2 : Int), .slice aB1 LN cB1] 91)) := ((hsB1).trans (hsC1.mono (hsB1).size))
            have hkB1 : Below wB1.heap.size wB1 (wB1.alloc (.cells #[.int .u8 (tx.1 : Int), .int .u32 (tx.2.1 : Int), .int .u32 (tx.2.2 : Int), .int .u32 (rg.1 : Int), .int .u32 (rg.2 : Int), .slice aB1 LN cB1] 91)) := hsC1
            have hkC1 : Below (wB1.alloc (.cells #[.int .u8 (tx.1 : Int), .int .u32 (tx.2.1 : Int), .int .u32 (tx.2.2 : Int), .int .u32 (rg.1 : Int), .int .u32 (rg.2 : Int), .slice aB1 LN cB1] 91)).heap.size (wB1.alloc (.cells #[.int .u8 (tx.1 : Int), .int .u32 (tx.2.1 : Int), .int .u32 (tx.2.2 : Int), .int .u32 (rg.1 : Int), .int .u32 (rg.2 : Int), .slice aB1 LN cB1] 91)) (wB1.alloc (.cells #[.int .u8 (tx.1 : Int), .int .u32 (tx.2.1 : Int), .int .u32 (tx.2.2 : Int), .int .u32 (rg.1 : Int), .int .u32 (rg.2 : Int), .slice aB1 LN cB1] 91)) := (Below.refl _ _)
            obtain ⟨vD1, wD1, vE1, wE1, hrD1, hrE1, hBD01, hBE01, hnD1, hoE1, hkE1⟩ := run_two14 recON (wB1.alloc (.cells #[.int .u8 (tx.1 : Int), .int .u32 (tx.2.1 : Int), .int .u32 (tx.2.2 : Int), .int .u32 (rg.1 : Int), .int .u32 (rg.2 : Int), .slice aB1 LN cB1] 91)) Wx.heap.size (.slice aA1 (vs.take k).length cA1) (.slice (some ⟨wB1.heap.size, 0, none⟩) 1 1) (.slice af l2 cc2) (vs.take k) [(OnV.mk ⟨tx, rg, ws⟩ (.slice aB1 LN cB1))] (vs.drop k) (owns_keep (own_base hoA1 hbA1) (KeepBut.of_below (fun _ => False) hkA1) (fun _ _ h => h)) (hrC1.below hkC1) (hs2.below hBC1) (ons_one _ (fun x hx => by rw [List.mem_singleton.1 hx]; rfl)) (ons_one _ (fun x hx => hon x (List.mem_of_mem_drop hx))) (by rw [htl]; simp only [List.length_cons, List.length_nil]; omega) hBC1.size (fun g e e2 => by have h1 := hfl g e; have h2 := (hoA1.lt g e2).1; have h3 := hbA1; omega)
            have hBD1 : Below Wx.heap.size Wx wD1 := hBC1.trans hBD01
            have hBE1 : Below Wx.heap.size Wx wE1 := hBC1.trans hBE01
            obtain ⟨aD1, cD1, hvD1⟩ := hnD1
            subst hvD1
            obtain ⟨aE1, cE1, hvE1, _⟩ := owns_shapeR hoE1
            subst hvE1
            have hBf1 : RSrc wrE wE1 (.slice aB1 ws.length cB1) ws := ((RSrc.of_own hoB1).below hkB1).keep hkE1 (fun g e e2 => by have h1 := (hoA1.lt g e2).2; have h2 := (hoB1.lt g e).1; omega)
            rw [← HLN.out] at hoB1 hrB1 hBf1
            have HF1 := hide (FIN wE1 _ (.slice aB1 LN cB1) hBE1 hoE1 hBf1 (fun g e => Nat.le_trans hbB1 (hoB1.lt g e).1))
            obtain ⟨qA10, qA11, qA12, qA13, qA14, qA15, qA16, qA17, qA18, qA19⟩ := HCELL.out _ hBA1
            obtain ⟨qB10, qB11, qB12, qB13, qB14, qB15, qB16, qB17, qB18, qB19⟩ := HCELL.out _ hBB1
            obtain ⟨qC10, qC11, qC12, qC13, qC14, qC15, qC16, qC17, qC18, qC19⟩ := HCELL.out _ hBC1
            obtain ⟨qD10, qD11, qD12, qD13, qD14, qD15, qD16, qD17, qD18, qD19⟩ := HCELL.out _ hBD1
            obtain ⟨qE10, qE11, qE12, qE13, qE14, qE15, qE16, qE17, qE18, qE19⟩ := HCELL.out _ hBE1
            rw [htl] at hrA1 hrD1
            obtain ⟨n1, hn1⟩ : ∃ n, n = (vs.take k ++ [(OnV.mk ⟨tx, rg, ws⟩ (.slice aB1 LN cB1))]).length := ⟨_, rfl⟩
            obtain ⟨m1, hm1⟩ : ∃ m, m = (vs.take k ++ [(OnV.mk ⟨tx, rg, ws⟩ (.slice aB1 LN cB1))] ++ vs.drop k).length := ⟨_, rfl⟩
            rw [← hn1] at hrD1 hrE1
            rw [← hm1] at hrE1 HF1
            clear hoA1 hgA1 hBA1 hsA1 hbA1 hoB1 hgB1 hBB1 hsB1 hbB1 hBC1 hsC1 hrC1 hkA1 hkB1 hkC1 hBD01 hBE01 hBD1 hBE1 hoE1 hkE1 hBf1 hn1 hm1
            obtain ⟨vB2, wB2, hrB2, hoB2, hgB2, _⟩ := run_recsH recWR Wx.drew Wx.drew.heap.size (.slice none 0 0) (.slice ao LN cap) [] ws (World.ownsRow_nil _ _ _ _) (hsw.below hBd) (fun x _ => wr_one x) (by rw [← HLN.out]; simp; omega) (Nat.le_refl _)
            rw [List.nil_append] at hoB2
            have hBB2 : Below Wx.heap.size Wx wB2 := hBd.grown hgB2 hBd.size (fun k hk => by cases hk)
            have hsB2 : Below Wx.drew.heap.size Wx.drew wB2 := (Below.refl _ _).grown hgB2 (Nat.le_refl _) (fun k hk => by cases hk)
            obtain ⟨aB2, cB2, hvB2, _⟩ := owns_shapeR hoB2
            subst hvB2
            have hbB2 := hBd.size
            obtain ⟨vA2, wA2, hrA2, hoA2, hgA2, _⟩ := run_recsH recON wB2 wB2.heap.size (.slice none 0 0) (.slice so k sc) [] (vs.take k) (World.ownsRow_nil _ _ _ _) (hs1.below hBB2) (ons_one _ (fun x hx => hon x (List.mem_of_mem_take hx))) (by rw [htl]; simp; omega) (Nat.le_refl _)
            rw [List.nil_append] at hoA2
            have hBA2 : Below Wx.heap.size Wx wA2 := hBB2.grown hgA2 hBB2.size (fun k hk => by cases hk)
            have hsA2 : Below wB2.heap.size wB2 wA2 := (Below.refl _ _).grown hgA2 (Nat.le_refl _) (fun k hk => by cases hk)
            obtain ⟨aA2, cA2, hvA2, _⟩ := owns_shapeR hoA2
            subst hvA2
            have hbA2 := hBB2.size
            have hsC2 : Below wA2.heap.size wA2 (wA2.alloc (.cells #[.int .u8 (tx.1 : Int), .int .u32 (tx.2.1 : Int), .int .u32 (tx.2.2 : Int), .int .u32 (rg.1 : Int), .int .u32 (rg.2 : Int), .slice aB2 LN cB2] 91)) := alloc_below14 _ _
            have hBC2 : Below Wx.heap.size Wx (wA2.alloc (.cells #[.int .u8 (tx.1 : Int), .int .u32 (tx.2.1 : Int), .int .u32 (tx.2.2 : Int), .int .u32 (rg.1 : Int), .int .u32 (rg.2 : Int), .slice aB2 LN cB2] 91)) := hBA2.trans (hsC2.mono hBA2.size)
            have hrC2 : RSrc onE (wA2.alloc (.cells #[.int .u8 (tx.1 : Int), .int .u32 (tx.2.1 : Int), .int .u32 (tx.2.2 : Int), .int .u32 (rg.1 : Int), .int .u32 (rg.2 : Int), .slice aB2 LN cB2] 91)) (.slice (some ⟨wA2.heap.size, 0, none⟩) 1 1) [(OnV.mk ⟨tx, rg, ws⟩ (.slice aB2 LN cB2))] := src_new (enc := onE) wA2 (OnV.mk ⟨tx, rg, ws⟩ (.slice aB2 LN cB2)) _ rfl 91
            have hkA2 : Below wA2.heap.size wA2 (wA2.alloc (.cells #[.int .u8 (tx.1 : Int), .int .u32 (tx.2.1 : Int), .int .u32 (tx.2.2 : Int), .int .u32 (rg.1 : Int), .int .u32 (rg.2 : Int), .slice aB2 LN cB2] 91)) := hsC2
            have hkB2 : Below wB2.heap.size wB2 (wA2.alloc (.cells #[.int .u8 (tx.1 : Int), .int .u32 (tx.2.1 : Int), .int .u32 (tx.2.2 : Int), .int .u32 (rg.1 : Int), .int .u32 (rg.2 : Int), .slice aB2 LN cB2] 91)) := ((hsA2).trans (hsC2.mono (hsA2).size))
            have hkC2 : Below (wA2.alloc (.cells #[.int .u8 (tx.1 : Int), .int .u32 (tx.2.1 : Int), .int .u32 (tx.2.2 : Int), .int .u32 (rg.1 : Int), .int .u32 (rg.2 : Int), .slice aB2 LN cB2] 91)).heap.size (wA2.alloc (.cells #[.int .u8 (tx.1 : Int), .int .u32 (tx.2.1 : Int), .int .u32 (tx.2.2 : Int), .int .u32 (rg.1 : Int), .int .u32 (rg.2 : Int), .slice aB2 LN cB2] 91)) (wA2.alloc (.cells #[.int .u8 (tx.1 : Int), .int .u32 (tx.2.1 : Int), .int .u32 (tx.2.2 : Int), .int .u32 (rg.1 : Int), .int .u32 (rg.2 : Int), .slice aB2 LN cB2] 91)) := (Below.refl _ _)
            obtain ⟨vD2, wD2, vE2, wE2, hrD2, hrE2, hBD02, hBE02, hnD2, hoE2, hkE2⟩ := run_two14 recON (wA2.alloc (.cells #[.int .u8 (tx.1 : Int), .int .u32 (tx.2.1 : Int), .int .u32 (tx.2.2 : Int), .int .u32 (rg.1 : Int), .int .u32 (rg.2 : Int), .slice aB2 LN cB2] 91)) Wx.heap.size (.slice aA2 (vs.take k).length cA2) (.slice (some ⟨wA2.heap.size, 0, none⟩) 1 1) (.slice af l2 cc2) (vs.take k) [(OnV.mk ⟨tx, rg, ws⟩ (.slice aB2 LN cB2))] (vs.drop k) (owns_keep (own_base hoA2 hbA2) (KeepBut.of_below (fun _ => False) hkA2) (fun _ _ h => h)) (hrC2.below hkC2) (hs2.below hBC2) (ons_one _ (fun x hx => by rw [List.mem_singleton.1 hx]; rfl)) (ons_one _ (fun x hx => hon x (List.mem_of_mem_drop hx))) (by rw [htl]; simp only [List.length_cons, List.length_nil]; omega) hBC2.size (fun g e e2 => by have h1 := hfl g e; have h2 := (hoA2.lt g e2).1; have h3 := hbA2; omega)
            have hBD2 : Below Wx.heap.size Wx wD2 := hBC2.trans hBD02
            have hBE2 : Below Wx.heap.size Wx wE2 := hBC2.trans hBE02
            obtain ⟨aD2, cD2, hvD2⟩ := hnD2
            subst hvD2
            obtain ⟨aE2, cE2, hvE2, _⟩ := owns_shapeR hoE2
            subst hvE2
            have hBf2 : RSrc wrE wE2 (.slice aB2 ws.length cB2) ws := ((RSrc.of_own hoB2).below hkB2).keep hkE2 (fun g e e2 => by have h1 := (hoA2.lt g e2).1; have h2 := (hoB2.lt g e).2; omega)
            rw [← HLN.out] at hoB2 hrB2 hBf2
            have HF2 := hide (FIN wE2 _ (.slice aB2 LN cB2) hBE2 hoE2 hBf2 (fun g e => Nat.le_trans hbB2 (hoB2.lt g e).1))
            obtain ⟨qB20, qB21, qB22, qB23, qB24, qB25, qB26, qB27, qB28, qB29⟩ := HCELL.out _ hBB2
            obtain ⟨qA20, qA21, qA22, qA23, qA24, qA25, qA26, qA27, qA28, qA29⟩ := HCELL.out _ hBA2
            obtain ⟨qC20, qC21, qC22, qC23, qC24, qC25, qC26, qC27, qC28, qC29⟩ := HCELL.out _ hBC2
            obtain ⟨qD20, qD21, qD22, qD23, qD24, qD25, qD26, qD27, qD28, qD29⟩ := HCELL.out _ hBD2
            obtain ⟨qE20, qE21, qE22, qE23, qE24, qE25, qE26, qE27, qE28, qE29⟩ := HCELL.out _ hBE2
            rw [htl] at hrA2 hrD2
            obtain ⟨n2, hn2⟩ : ∃ n, n = (vs.take k ++ [(OnV.mk ⟨tx, rg, ws⟩ (.slice aB2 LN cB2))]).length := ⟨_, rfl⟩
            obtain ⟨m2, hm2⟩ : ∃ m, m = (vs.take k ++ [(OnV.mk ⟨tx, rg, ws⟩ (.slice aB2 LN cB2))] ++ vs.drop k).length := ⟨_, rfl⟩
            rw [← hn2] at hrD2 hrE2
            rw [← hm2] at hrE2 HF2
            clear hoA2 hgA2 hBA2 hsA2 hbA2 hoB2 hgB2 hBB2 hsB2 hbB2 hBC2 hsC2 hrC2 hkA2 hkB2 hkC2 hBD02 hBE02 hBD2 hBE2 hoE2 hkE2 hBf2 hn2 hm2
            obtain ⟨vB3, wB3, hrB3, hoB3, hgB3, _⟩ := run_recsH recWR Wx.drew Wx.drew.heap.size (.slice none 0 0) (.slice ao LN cap) [] ws (World.ownsRow_nil _ _ _ _) (hsw.below hBd) (fun x _ => wr_one x) (by rw [← HLN.out]; simp; omega) (Nat.le_refl _)
            rw [List.nil_append] at hoB3
            have hBB3 : Below Wx.heap.size Wx wB3 := hBd.grown hgB3 hBd.size (fun k hk => by cases hk)
            have hsB3 : Below Wx.drew.heap.size Wx.drew wB3 := (Below.refl _ _).grown hgB3 (Nat.le_refl _) (fun k hk => by cases hk)
            obtain ⟨aB3, cB3, hvB3, _⟩ := owns_shapeR hoB3
            subst hvB3
            have hbB3 := hBd.size
            have hsC3 : Below wB3.heap.size wB3 (wB3.alloc (.cells #[.int .u8 (tx.1 : Int), .int .u32 (tx.2.1 : Int), .int .u32 (tx.2.2 : Int), .int .u32 (rg.1 : Int), .int .u32 (rg.2 : Int), .slice aB3 LN cB3] 91)) := alloc_below14 _ _
            have hBC3 : Below Wx.heap.size Wx (wB3.alloc (.cells #[.int .u8 (tx.1 : Int), .int .u32 (tx.2.1 : Int), .int .u32 (tx.2.2 : Int), .int .u32 (rg.1 : Int), .int .u32 (rg.2 : Int), .slice aB3 LN cB3] 91)) := hBB3.trans (hsC3.mono hBB3.size)
            have hrC3 : RSrc onE (wB3.alloc (.cells #[.int .u8 (tx.1 : Int), .int .u32 (tx.2.1 : Int), .int .u32 (tx.2.2 : Int), .int .u32 (rg.1 : Int), .int .u32 (rg.2 : Int), .slice aB3 LN cB3] 91)) (.slice (some ⟨wB3.heap.size, 0, none⟩) 1 1) [(OnV.mk ⟨tx, rg, ws⟩ (.slice aB3 LN cB3))] := src_new (enc := onE) wB3 (OnV.mk ⟨tx, rg, ws⟩ (.slice aB3 LN cB3)) _ rfl 91
            obtain ⟨vA3, wA3, hrA3, hoA3, hgA3, _⟩ := run_recsH recON (wB3.alloc (.cells #[.int .u8 (tx.1 : Int), .int .u32 (tx.2.1 : Int), .int .u32 (tx.2.2 : Int), .int .u32 (rg.1 : Int), .int .u32 (rg.2 : Int), .slice aB3 LN cB3] 91)) (wB3.alloc (.cells #[.int .u8 (tx.1 : Int), .int .u32 (tx.2.1 : Int), .int .u32 (tx.2.2 : Int), .int .u32 (rg.1 : Int), .int .u32 (rg.2 : Int), .slice aB3 LN cB3] 91)).heap.size (.slice none 0 0) (.slice so k sc) [] (vs.take k) (World.ownsRow_nil _ _ _ _) (hs1.below hBC3) (ons_one _ (fun x hx => hon x (List.mem_of_mem_take hx))) (by rw [htl]; simp; omega) (Nat.le_refl _)
            rw [List.nil_append] at hoA3
            have hBA3 : Below Wx.heap.size Wx wA3 := hBC3.grown hgA3 hBC3.size (fun k hk => by cases hk)
            have hsA3 : Below (wB3.alloc (.cells #[.int .u8 (tx.1 : Int), .int .u32 (tx.2.1 : Int), .int .u32 (tx.2.2 : Int), .int .u32 (rg.1 : Int), .int .u32 (rg.2 : Int), .slice aB3 LN cB3] 91)).heap.size (wB3.alloc (.cells #[.int .u8 (tx.1 : Int), .int .u32 (tx.2.1 : Int), .int .u32 (tx.2.2 : Int), .int .u32 (rg.1 : Int), .int .u32 (rg.2 : Int), .slice aB3 LN cB3] 91)) wA3 := (Below.refl _ _).grown hgA3 (Nat.le_refl _) (fun k hk => by cases hk)
            obtain ⟨aA3, cA3, hvA3, _⟩ := owns_shapeR hoA3
            subst hvA3
            have hbA3 := hBC3.size
            have hkA3 : Below wA3.heap.size wA3 wA3 := (Below.refl _ _)
            have hkB3 : Below wB3.heap.size wB3 wA3 := ((hsC3).trans (hsA3.mono (hsC3).size))
            have hkC3 : Below (wB3.alloc (.cells #[.int .u8 (tx.1 : Int), .int .u32 (tx.2.1 : Int), .int .u32 (tx.2.2 : Int), .int .u32 (rg.1 : Int), .int .u32 (rg.2 : Int), .slice aB3 LN cB3] 91)).heap.size (wB3.alloc (.cells #[.int .u8 (tx.1 : Int), .int .u32 (tx.2.1 : Int), .int .u32 (tx.2.2 : Int), .int .u32 (rg.1 : Int), .int .u32 (rg.2 : Int), .slice aB3 LN cB3] 91)) wA3 := hsA3
            obtain ⟨vD3, wD3, vE3, wE3, hrD3, hrE3, hBD03, hBE03, hnD3, hoE3, hkE3⟩ := run_two14 recON wA3 Wx.heap.size (.slice aA3 (vs.take k).length cA3) (.slice (some ⟨wB3.heap.size, 0, none⟩) 1 1) (.slice af l2 cc2) (vs.take k) [(OnV.mk ⟨tx, rg, ws⟩ (.slice aB3 LN cB3))] (vs.drop k) (owns_keep (own_base hoA3 hbA3) (KeepBut.of_below (fun _ => False) hkA3) (fun _ _ h => h)) (hrC3.below hkC3) (hs2.below hBA3) (ons_one _ (fun x hx => by rw [List.mem_singleton.1 hx]; rfl)) (ons_one _ (fun x hx => hon x (List.mem_of_mem_drop hx))) (by rw [htl]; simp only [List.length_cons, List.length_nil]; omega) hBA3.size (fun g e e2 => by have h1 := hfl g e; have h2 := (hoA3.lt g e2).1; have h3 := hbA3; omega)
            have hBD3 : Below Wx.heap.size Wx wD3 := hBA3.trans hBD03
            have hBE3 : Below Wx.heap.size Wx wE3 := hBA3.trans hBE03
            obtain ⟨aD3, cD3, hvD3⟩ := hnD3
            subst hvD3
            obtain ⟨aE3, cE3, hvE3, _⟩ := owns_shapeR hoE3
            subst hvE3
            have hBf3 : RSrc wrE wE3 (.slice aB3 ws.length cB3) ws := ((RSrc.of_own hoB3).below hkB3).keep hkE3 (fun g e e2 => by have h1 := (hoA3.lt g e2).1; have h2 := (hoB3.lt g e).2; have h3 := hsC3.size; omega)
            rw [← HLN.out] at hoB3 hrB3 hBf3
            have HF3 := hide (FIN wE3 _ (.slice aB3 LN cB3) hBE3 hoE3 hBf3 (fun g e => Nat.le_trans hbB3 (hoB3.lt g e).1))
            obtain ⟨qB30, qB31, qB32, qB33, qB34, qB35, qB36, qB37, qB38, qB39⟩ := HCELL.out _ hBB3
            obtain ⟨qC30, qC31, qC32, qC33, qC34, qC35, qC36, qC37, qC38, qC39⟩ := HCELL.out _ hBC3
            obtain ⟨qA30, qA31, qA32, qA33, qA34, qA35, qA36, qA37, qA38, qA39⟩ := HCELL.out _ hBA3
            obtain ⟨qD30, qD31, qD32, qD33, qD34, qD35, qD36, qD37, qD38, qD39⟩ := HCELL.out _ hBD3
            obtain ⟨qE30, qE31, qE32, qE33, qE34, qE35, qE36, qE37, qE38, qE39⟩ := HCELL.out _ hBE3
            rw [htl] at hrA3 hrD3
            obtain ⟨n3, hn3⟩ : ∃ n, n = (vs.take k ++ [(OnV.mk ⟨tx, rg, ws⟩ (.slice aB3 LN cB3))]).length := ⟨_, rfl⟩
            obtain ⟨m3, hm3⟩ : ∃ m, m = (vs.take k ++ [(OnV.mk ⟨tx, rg, ws⟩ (.slice aB3 LN cB3))] ++ vs.drop k).length := ⟨_, rfl⟩
            rw [← hn3] at hrD3 hrE3
            rw [← hm3] at hrE3 HF3
            clear hoA3 hgA3 hBA3 hsA3 hbA3 hoB3 hgB3 hBB3 hsB3 hbB3 hBC3 hsC3 hrC3 hkA3 hkB3 hkC3 hBD03 hBE03 hBD3 hBE3 hoE3 hkE3 hBf3 hn3 hm3
            have plx := hRx.box.lt
            clear hRx hXTx hXRx hsw hsx hon hsc haf hfl hfl0 hs1 hs2 hl2 hcc2 hBd htl hdl FIN hBx
            go_wp2_with fail
            go_region
            all_goals go_wp2_with fail
            all_goals go_ret
            all_goals first | exact ⟨by rw [HEA.out]; rfl, by rw [HREF.out]; (first | rw [if_pos trivial] | rw [if_pos rfl]); exact HF1.out⟩ | exact ⟨by rw [HEA.out]; rfl, by rw [HREF.out]; (first | rw [if_pos trivial] | rw [if_pos rfl]); exact HF2.out⟩ | exact ⟨by rw [HEA.out]; rfl, by rw [HREF.out]; (first | rw [if_pos trivial] | rw [if_pos rfl]); exact HF3.out⟩
          | succ g =>
            have hz : (k : Int) < (L : Int) := by omega
            have hkn : k < vs.length := by rw [← HL.out]; omega
            have hsrc := HRy.out.src
            rw [HVB.out] at hsrc
            obtain ⟨en, b, off, hao, hb, hcl⟩ := hsrc.at recON.len hkn
            have r0 := hcl 0 _ rfl
            have r1 := hcl 1 _ rfl
            have r2 := hcl 2 _ rfl
            rw [Nat.add_zero] at r0
            cases hao
            obtain ⟨x0, x1, x2⟩ := HXTy.out.three
            have hyb := (H2.out.oks _ (List.getElem_mem hkn)).tx
            have CTX := hide (fun W => rtxs_any (vs[k].o.tx.1 : Int) (vs[k].o.tx.2.1 : Int) (vs[k].o.tx.2.2 : Int) (tx.1 : Int) (tx.2.1 : Int) (tx.2.2 : Int) W (by omega) (by have := hyb.1; omega) (by omega) (by have h9 : tx.1 < 256 := HOK.out.tx.1; omega))
            simp only [txO_sF] at CTX
            have HNX : Hid (txO vs[k].o.tx tx < 0 → ∀ m (hm : m < vs.length), m < k + 1 → txO vs[m].o.tx tx < 0) := hide (fun h m hm hmk => by
              by_cases e : m = k
              · subst e; exact h
              · exact HAH.out m hm (by omega))
            have HNOT0 : Hid (¬ txO vs[k].o.tx tx < 0 → ∀ h : k < vs.length, ¬ txO vs[k].o.tx tx < 0) := hide (fun h _ => h)
            generalize hyt : vs[k].o.tx = yt at r0 r1 r2 CTX HNX HNOT0
            obtain ⟨c, hc'⟩ : ∃ c, c = txO yt tx := ⟨_, rfl⟩
            rw [← hc'] at CTX HNX HNOT0
            have HYT := hide hyt
            have HCC := hide hc'
            have hkL : k ≤ L := by omega
            have HBL := hide hb
            have HCS : Hid (∀ W, Below wr.heap.size wr W → W.cell? ⟨r, 0, none⟩ = some (.slice (some ⟨b, off, none⟩) L sc) ∧ W.cell? ⟨b, off + k * 6, none⟩ = some (.int .u8 (yt.1 : Int)) ∧ W.cell? ⟨b, off + k * 6 + 1, none⟩ = some (.int .u32 (yt.2.1 : Int)) ∧ W.cell? ⟨b, off + k * 6 + 2, none⟩ = some (.int .u32 (yt.2.2 : Int)) ∧ W.cell? ⟨p5, 0, none⟩ = some (.int .u8 (tx.1 : Int)) ∧ W.cell? ⟨p5, 1, none⟩ = some (.int .u32 (tx.2.1 : Int)) ∧ W.cell? ⟨p5, 2, none⟩ = some (.int .u32 (tx.2.2 : Int))) := hide (fun W hW => ⟨(hW.cell (p := ⟨r, 0, none⟩) HRy.out.box.lt).trans m1, (hW.cell (p := ⟨b, off + k * 6, none⟩) HBL.out).trans r0, (hW.cell (p := ⟨b, off + k * 6 + 1, none⟩) HBL.out).trans r1, (hW.cell (p := ⟨b, off + k * 6 + 2, none⟩) HBL.out).trans r2, (HXTy.out.belowI hW).three⟩)
            clear hcl en hb hsrc hyb hyt hc'
            by_cases hc0 : c < 0
            · have dc : decide (c < 0) = true := decide_eq_true hc0
              have HN2 := hide (HNX.out hc0)
              go_wp2_with fail
              go_region_held (fun w' => w'.cell? ⟨r, 0, none⟩ = some (.slice (some ⟨b, off, none⟩) L sc) ∧ w'.cell? ⟨b, off + k * 6, none⟩ = some (.int .u8 (yt.1 : Int)) ∧ w'.cell? ⟨b, off + k * 6 + 1, none⟩ = some (.int .u32 (yt.2.1 : Int)) ∧ w'.cell? ⟨b, off + k * 6 + 2, none⟩ = some (.int .u32 (yt.2.2 : Int)) ∧ w'.cell? ⟨p5, 0, none⟩ = some (.int .u8 (tx.1 : Int)) ∧ w'.cell? ⟨p5, 1, none⟩ = some (.int .u32 (tx.2.1 : Int)) ∧ w'.cell? ⟨p5, 2, none⟩ = some (.int .u32 (tx.2.2 : Int))) (go_keep) (first
                | (go_at_call 41; refine (CTX.out _).mono ?_; rintro e wz ⟨rfl, hBz⟩; have HBq : Hid (Below wr.heap.size wr wz) := hide ((below_drew14 wr).trans hBz); have HBz : Hid (Below wq.heap.size wq wz) := hide (HBY.out.trans (HBq.out.mono HBY.out.size)); have ss := HCS.out _ HBq.out; clear hBz))
              all_goals go_wp2_with fail
              all_goals go_roundg g
              case measure => omega
              case rel => exact ⟨k + 1, by omega, by first | rfl | go_num, HN2, HBz⟩
            · have dc : decide (c < 0) = false := decide_eq_false hc0
              have HNOT : Hid (∀ h : k < vs.length, ¬ txO vs[k].o.tx tx < 0) := hide (fun h => by rw [HYT.out, ← HCC.out]; exact hc0)
              go_wp2_with fail
              go_region_held (fun w' => w'.cell? ⟨r, 0, none⟩ = some (.slice (some ⟨b, off, none⟩) L sc) ∧ w'.cell? ⟨b, off + k * 6, none⟩ = some (.int .u8 (yt.1 : Int)) ∧ w'.cell? ⟨b, off + k * 6 + 1, none⟩ = some (.int .u32 (yt.2.1 : Int)) ∧ w'.cell? ⟨b, off + k * 6 + 2, none⟩ = some (.int .u32 (yt.2.2 : Int)) ∧ w'.cell? ⟨p5, 0, none⟩ = some (.int .u8 (tx.1 : Int)) ∧ w'.cell? ⟨p5, 1, none⟩ = some (.int .u32 (tx.2.1 : Int)) ∧ w'.cell? ⟨p5, 2, none⟩ = some (.int .u32 (tx.2.2 : Int))) (go_keep) (first
                | (go_at_call 41; refine (CTX.out _).mono ?_; rintro e wz ⟨rfl, hBz⟩; have HBq : Hid (Below wr.heap.size wr wz) := hide ((below_drew14 wr).trans hBz); have HBz : Hid (Below wq.heap.size wq wz) := hide (HBY.out.trans (HBq.out.mono HBY.out.size)); have ss := HCS.out _ HBq.out; clear hBz))
              generalize hwx : wz = Wx at *
              have hBx : Below wr.heap.size wr Wx := HBq.out
              clear m1 r0 r1 r2 x0 x1 x2 hz hc0 dc
              have hRx := HRy.out.below hBx
              have hXTx := HXTy.out.belowI hBx
              have hXRx := HXRy.out.belowI hBx
              have hsw := HSy.out.below hBx
              have HBx := hide (HBy.out.trans (hBx.mono HBy.out.size))
              have hsx := hRx.src
              rw [HVB.out] at hsx
              have hon := hRx.ones
              have hsc := HSC.out
              have hto := fun W => run_toR recON W (some ⟨b, off, none⟩) L sc k (by omega)
              have hfr := fun W => run_fromR recON W (some ⟨b, off, none⟩) L sc k (by omega)
              obtain ⟨af, haf⟩ : ∃ af, af = if sc = k then (some ⟨b, off, none⟩) else ((some ⟨b, off, none⟩) : Option Addr).map (·.add (k * 6)) := ⟨_, rfl⟩
              rw [← haf] at hfr
              have hs1 := src_takeR hsx recON.len (i := k) (by rw [← HL.out]; exact hkL)
              have hs2 := src_dropR hsx recON.len (i := k) (by rw [← HL.out]; exact hkL)
              have hfl0 : ∀ g, (Value.slice (if sc = k then (some ⟨b, off, none⟩) else ((some ⟨b, off, none⟩) : Option Addr).map (·.add (k * 6))) (L - k) (sc - k)).ownBlock = some g → g < Wx.heap.size := fun g e => (hRx.far g (.inl (by rw [HVB.out, ← HL.out]; rw [own_dropR] at e; exact e))).1
              rw [← haf, ← HL.out] at hs2
              rw [← haf] at hfl0
              obtain ⟨l2, hl2⟩ : ∃ l2, l2 = L - k := ⟨_, rfl⟩
              obtain ⟨cc2, hcc2⟩ : ∃ cc2, cc2 = sc - k := ⟨_, rfl⟩
              rw [← hl2, ← hcc2] at hfr hs2 hfl0
              have hfl := hfl0
              have hBd : Below Wx.heap.size Wx Wx.drew := (Below.refl _ _).drew
              have htl : (vs.take k).length = k := by rw [List.length_take, ← HL.out]; omega
              have hdl : (vs.drop k).length ≤ 64 := by rw [List.length_drop, ← HL.out]; omega
              have FIN : ∀ wf vf pN, Below Wx.heap.size Wx wf → wf.ownsRow Wx.heap.size 91 6 vf (vs.take k ++ [OnV.mk ⟨tx, rg, ws⟩ pN] ++ vs.drop k).length (flat onE (vs.take k ++ [OnV.mk ⟨tx, rg, ws⟩ pN] ++ vs.drop k)) → RSrc wrE wf pN ws → (∀ g, pN.ownBlock = some g → Wx.heap.size ≤ g) → RSid w (wf.setCell ⟨r, 0, none⟩ vf) r v vs (insS (osV vs) ⟨tx, rg, ws⟩) := fun wf vf pN hB ho hp hn => by
                have hins := ins_at14 (vs := vs) (x := ⟨tx, rg, ws⟩) (p := pN) (j := k) (by rw [← HL.out]; exact hkL) (fun m hm hmk => HAH.out m hm hmk) (by first | exact HNOT.out | exact fun hh => Int.not_lt.2 (HNOT.out hh))
                have hlt : ∀ g, pN.ownBlock = some g → g < wf.heap.size := fun g e => src_lt14 hp (may_some HMM.out) g e
                have hput := hRx.put hB ho (fun y hy => by
                  rcases List.mem_append.1 hy with hy | hy
                  · rcases List.mem_append.1 hy with hy | hy
                    · exact ⟨.inl (List.mem_of_mem_take hy), (hRx.wr y (List.mem_of_mem_take hy)).below hB⟩
                    · obtain rfl := List.mem_singleton.1 hy
                      exact ⟨.inr (fun g e => ⟨hn g e, hlt g e⟩), hp⟩
                  · exact ⟨.inl (List.mem_of_mem_drop hy), (hRx.wr y (List.mem_of_mem_drop hy)).below hB⟩) (by rw [← hins]; exact HALL.out) (fun y hy => by
                  rcases List.mem_append.1 hy with hy | hy
                  · rcases List.mem_append.1 hy with hy | hy
                    · exact hRx.oks y (List.mem_of_mem_take hy)
                    · obtain rfl := List.mem_singleton.1 hy
                      exact HOK.out
                  · exact hRx.oks y (List.mem_of_mem_drop hy))
                rw [← hins] at hput
                exact RSid.before HBx.out hput
              have HCELL : Hid (∀ W, Below Wx.heap.size Wx W → W.cell? ⟨r, 0, none⟩ = some (.slice (some ⟨b, off, none⟩) L sc) ∧ W.frozen? ⟨r, 0, none⟩ = false ∧ W.cell? ⟨p5, 0, none⟩ = some (.int .u8 (tx.1 : Int)) ∧ W.cell? ⟨p5, 1, none⟩ = some (.int .u32 (tx.2.1 : Int)) ∧ W.cell? ⟨p5, 2, none⟩ = some (.int .u32 (tx.2.2 : Int)) ∧ W.cell? ⟨p6, 0, none⟩ = some (.int .u32 (rg.1 : Int)) ∧ W.cell? ⟨p6, 1, none⟩ = some (.int .u32 (rg.2 : Int)) ∧ r < W.heap.size ∧ p5 < W.heap.size ∧ p6 < W.heap.size) := hide (fun W hB => by
                have h1 := (hRx.below hB).box
                have h2 := h1.cell 0 _ rfl
                rw [HVB.out, ← HL.out] at h2
                obtain ⟨a0, a1, a2⟩ := (hXTx.belowI hB).three
                obtain ⟨b0, b1⟩ := (hXRx.belowI hB).two
                exact ⟨h2, h1.frozen 0, a0, a1, a2, b0, b1, h1.lt, (hXTx.belowI hB).lt, (hXRx.belowI hB).lt⟩)
              obtain ⟨qX0, qX1, qX2, qX3, qX4, qX5, qX6, qX7, qX8, qX9⟩ := HCELL.out _ (Below.refl _ _)
              have hbo := build14one (tx.1 : Int) (tx.2.1 : Int) (tx.2.2 : Int) (rg.1 : Int) (rg.2 : Int)
              obtain ⟨vA1, wA1, hrA1, hoA1, hgA1, _⟩ := run_recsH recON Wx.drew Wx.drew.heap.size (.slice none 0 0) (.slice (some ⟨b, off, none⟩) k sc) [] (vs.take k) (World.ownsRow_nil _ _ _ _) (hs1.below hBd) (ons_one _ (fun x hx => hon x (List.mem_of_mem_take hx))) (by rw [htl]; simp; omega) (Nat.le_refl _)
              rw [List.nil_append] at hoA1
              have hBA1 : Below Wx.heap.size Wx wA1 := hBd.grown hgA1 hBd.size (fun k hk => by cases hk)
              have hsA1 : Below Wx.drew.heap.size Wx.drew wA1 := (Below.refl _ _).grown hgA1 (Nat.le_refl _) (fun k hk => by cases hk)
              obtain ⟨aA1, cA1, hvA1, _⟩ := owns_shapeR hoA1
              subst hvA1
              have hbA1 := hBd.size
              obtain ⟨vB1, wB1, hrB1, hoB1, hgB1, _⟩ := run_recsH recWR wA1 wA1.heap.size (.slice none 0 0) (.slice ao LN cap) [] ws (World.ownsRow_nil _ _ _ _) (hsw.below hBA1) (fun x _ => wr_one x) (by rw [← HLN.out]; simp; omega) (Nat.le_refl _)
              rw [List.nil_append] at hoB1
              have hBB1 : Below Wx.heap.size Wx wB1 := hBA1.grown hgB1 hBA1.size (fun k hk => by cases hk)
              have hsB1 : Below wA1.heap.size wA1 wB1 := (Below.refl _ _).grown hgB1 (Nat.le_refl _) (fun k hk => by cases hk)
              obtain ⟨aB1, cB1, hvB1, _⟩ := owns_shapeR hoB1
              subst hvB1
              have hbB1 := hBA1.size
              have hsC1 : Below wB1.heap.size wB1 (wB1.alloc (.cells #[.int .u8 (tx.1 : Int), .int .u32 (tx.2.1 : Int), .int .u32 (tx.2.2 : Int), .int .u32 (rg.1 : Int), .int .u32 (rg.2 : Int), .slice aB1 LN cB1] 91)) := alloc_below14 _ _
              have hBC1 : Below Wx.heap.size Wx (wB1.alloc (.cells #[.int .u8 (tx.1 : Int), .int .u32 (tx.2.1 : Int), .int .u32 (tx.2.2 : Int), .int .u32 (rg.1 : Int), .int .u32 (rg.2 : Int), .slice aB1 LN cB1] 91)) := hBB1.trans (hsC1.mono hBB1.size)
              have hrC1 : RSrc onE (wB1.alloc (.cells #[.int .u8 (tx.1 : Int), .int .u32 (tx.2.1 : Int), .int .u32 (tx.2.2 : Int), .int .u32 (rg.1 : Int), .int .u32 (rg.2 : Int), .slice aB1 LN cB1] 91)) (.slice (some ⟨wB1.heap.size, 0, none⟩) 1 1) [(OnV.mk ⟨tx, rg, ws⟩ (.slice aB1 LN cB1))] := src_new (enc := onE) wB1 (OnV.mk ⟨tx, rg, ws⟩ (.slice aB1 LN cB1)) _ rfl 91
              have hkA1 : Below wA1.heap.size wA1 (wB1.alloc (.cells #[.int .u8 (tx.1 : Int), .int .u32 (tx.2.1 : Int), .int .u32 (tx.2.2 : Int), .int .u32 (rg.1 : Int), .int .u32 (rg.2 : Int), .slice aB1 LN cB1] 91)) := ((hsB1).trans (hsC1.mono (hsB1).size))
              have hkB1 : Below wB1.heap.size wB1 (wB1.alloc (.cells #[.int .u8 (tx.1 : Int), .int .u32 (tx.2.1 : Int), .int .u32 (tx.2.2 : Int), .int .u32 (rg.1 : Int), .int .u32 (rg.2 : Int), .slice aB1 LN cB1] 91)) := hsC1
              have hkC1 : Below (wB1.alloc (.cells #[.int .u8 (tx.1 : Int), .int .u32 (tx.2.1 : Int), .int .u32 (tx.2.2 : Int), .int .u32 (rg.1 : Int), .int .u32 (rg.2 : Int), .slice aB1 LN cB1] 91)).heap.size (wB1.alloc (.cells #[.int .u8 (tx.1 : Int), .int .u32 (tx.2.1 : Int), .int .u32 (tx.2.2 : Int), .int .u32 (rg.1 : Int), .int .u32 (rg.2 : Int), .slice aB1 LN cB1] 91)) (wB1.alloc (.cells #[.int .u8 (tx.1 : Int), .int .u32 (tx.2.1 : Int), .int .u32 (tx.2.2 : Int), .int .u32 (rg.1 : Int), .int .u32 (rg.2 : Int), .slice aB1 LN cB1] 91)) := (Below.refl _ _)
              obtain ⟨vD1, wD1, vE1, wE1, hrD1, hrE1, hBD01, hBE01, hnD1, hoE1, hkE1⟩ := run_two14 recON (wB1.alloc (.cells #[.int .u8 (tx.1 : Int), .int .u32 (tx.2.1 : Int), .int .u32 (tx.2.2 : Int), .int .u32 (rg.1 : Int), .int .u32 (rg.2 : Int), .slice aB1 LN cB1] 91)) Wx.heap.size (.slice aA1 (vs.take k).length cA1) (.slice (some ⟨wB1.heap.size, 0, none⟩) 1 1) (.slice af l2 cc2) (vs.take k) [(OnV.mk ⟨tx, rg, ws⟩ (.slice aB1 LN cB1))] (vs.drop k) (owns_keep (own_base hoA1 hbA1) (KeepBut.of_below (fun _ => False) hkA1) (fun _ _ h => h)) (hrC1.below hkC1) (hs2.below hBC1) (ons_one _ (fun x hx => by rw [List.mem_singleton.1 hx]; rfl)) (ons_one _ (fun x hx => hon x (List.mem_of_mem_drop hx))) (by rw [htl]; simp only [List.length_cons, List.length_nil]; omega) hBC1.size (fun g e e2 => by have h1 := hfl g e; have h2 := (hoA1.lt g e2).1; have h3 := hbA1; omega)
              have hBD1 : Below Wx.heap.size Wx wD1 := hBC1.trans hBD01
              have hBE1 : Below Wx.heap.size Wx wE1 := hBC1.trans hBE01
              obtain ⟨aD1, cD1, hvD1⟩ := hnD1
              subst hvD1
              obtain ⟨aE1, cE1, hvE1, _⟩ := owns_shapeR hoE1
              subst hvE1
              have hBf1 : RSrc wrE wE1 (.slice aB1 ws.length cB1) ws := ((RSrc.of_own hoB1).below hkB1).keep hkE1 (fun g e e2 => by have h1 := (hoA1.lt g e2).2; have h2 := (hoB1.lt g e).1; omega)
              rw [← HLN.out] at hoB1 hrB1 hBf1
              have HF1 := hide (FIN wE1 _ (.slice aB1 LN cB1) hBE1 hoE1 hBf1 (fun g e => Nat.le_trans hbB1 (hoB1.lt g e).1))
              obtain ⟨qA10, qA11, qA12, qA13, qA14, qA15, qA16, qA17, qA18, qA19⟩ := HCELL.out _ hBA1
              obtain ⟨qB10, qB11, qB12, qB13, qB14, qB15, qB16, qB17, qB18, qB19⟩ := HCELL.out _ hBB1
              obtain ⟨qC10, qC11, qC12, qC13, qC14, qC15, qC16, qC17, qC18, qC19⟩ := HCELL.out _ hBC1
              obtain ⟨qD10, qD11, qD12, qD13, qD14, qD15, qD16, qD17, qD18, qD19⟩ := HCELL.out _ hBD1
              obtain ⟨qE10, qE11, qE12, qE13, qE14, qE15, qE16, qE17, qE18, qE19⟩ := HCELL.out _ hBE1
              rw [htl] at hrA1 hrD1
              obtain ⟨n1, hn1⟩ : ∃ n, n = (vs.take k ++ [(OnV.mk ⟨tx, rg, ws⟩ (.slice aB1 LN cB1))]).length := ⟨_, rfl⟩
              obtain ⟨m1, hm1⟩ : ∃ m, m = (vs.take k ++ [(OnV.mk ⟨tx, rg, ws⟩ (.slice aB1 LN cB1))] ++ vs.drop k).length := ⟨_, rfl⟩
              rw [← hn1] at hrD1 hrE1
              rw [← hm1] at hrE1 HF1
              clear hoA1 hgA1 hBA1 hsA1 hbA1 hoB1 hgB1 hBB1 hsB1 hbB1 hBC1 hsC1 hrC1 hkA1 hkB1 hkC1 hBD01 hBE01 hBD1 hBE1 hoE1 hkE1 hBf1 hn1 hm1
              obtain ⟨vB2, wB2, hrB2, hoB2, hgB2, _⟩ := run_recsH recWR Wx.drew Wx.drew.heap.size (.slice none 0 0) (.slice ao LN cap) [] ws (World.ownsRow_nil _ _ _ _) (hsw.below hBd) (fun x _ => wr_one x) (by rw [← HLN.out]; simp; omega) (Nat.le_refl _)
              rw [List.nil_append] at hoB2
              have hBB2 : Below Wx.heap.size Wx wB2 := hBd.grown hgB2 hBd.size (fun k hk => by cases hk)
              have hsB2 : Below Wx.drew.heap.size Wx.drew wB2 := (Below.refl _ _).grown hgB2 (Nat.le_refl _) (fun k hk => by cases hk)
              obtain ⟨aB2, cB2, hvB2, _⟩ := owns_shapeR hoB2
              subst hvB2
              have hbB2 := hBd.size
              obtain ⟨vA2, wA2, hrA2, hoA2, hgA2, _⟩ := run_recsH recON wB2 wB2.heap.size (.slice none 0 0) (.slice (some ⟨b, off, none⟩) k sc) [] (vs.take k) (World.ownsRow_nil _ _ _ _) (hs1.below hBB2) (ons_one _ (fun x hx => hon x (List.mem_of_mem_take hx))) (by rw [htl]; simp; omega) (Nat.le_refl _)
              rw [List.nil_append] at hoA2
              have hBA2 : Below Wx.heap.size Wx wA2 := hBB2.grown hgA2 hBB2.size (fun k hk => by cases hk)
              have hsA2 : Below wB2.heap.size wB2 wA2 := (Below.refl _ _).grown hgA2 (Nat.le_refl _) (fun k hk => by cases hk)
              obtain ⟨aA2, cA2, hvA2, _⟩ := owns_shapeR hoA2
              subst hvA2
              have hbA2 := hBB2.size
              have hsC2 : Below wA2.heap.size wA2 (wA2.alloc (.cells #[.int .u8 (tx.1 : Int), .int .u32 (tx.2.1 : Int), .int .u32 (tx.2.2 : Int), .int .u32 (rg.1 : Int), .int .u32 (rg.2 : Int), .slice aB2 LN cB2] 91)) := alloc_below14 _ _
              have hBC2 : Below Wx.heap.size Wx (wA2.alloc (.cells #[.int .u8 (tx.1 : Int), .int .u32 (tx.2.1 : Int), .int .u32 (tx.2.2 : Int), .int .u32 (rg.1 : Int), .int .u32 (rg.2 : Int), .slice aB2 LN cB2] 91)) := hBA2.trans (hsC2.mono hBA2.size)
              have hrC2 : RSrc onE (wA2.alloc (.cells #[.int .u8 (tx.1 : Int), .int .u32 (tx.2.1 : Int), .int .u32 (tx.2.2 : Int), .int .u32 (rg.1 : Int), .int .u32 (rg.2 : Int), .slice aB2 LN cB2] 91)) (.slice (some ⟨wA2.heap.size, 0, none⟩) 1 1) [(OnV.mk ⟨tx, rg, ws⟩ (.slice aB2 LN cB2))] := src_new (enc := onE) wA2 (OnV.mk ⟨tx, rg, ws⟩ (.slice aB2 LN cB2)) _ rfl 91
              have hkA2 : Below wA2.heap.size wA2 (wA2.alloc (.cells #[.int .u8 (tx.1 : Int), .int .u32 (tx.2.1 : Int), .int .u32 (tx.2.2 : Int), .int .u32 (rg.1 : Int), .int .u32 (rg.2 : Int), .slice aB2 LN cB2] 91)) := hsC2
              have hkB2 : Below wB2.heap.size wB2 (wA2.alloc (.cells #[.int .u8 (tx.1 : Int), .int .u32 (tx.2.1 : Int), .int .u32 (tx.2.2 : Int), .int .u32 (rg.1 : Int), .int .u32 (rg.2 : Int), .slice aB2 LN cB2] 91)) := ((hsA2).trans (hsC2.mono (hsA2).size))
              have hkC2 : Below (wA2.alloc (.cells #[.int .u8 (tx.1 : Int), .int .u32 (tx.2.1 : Int), .int .u32 (tx.2.2 : Int), .int .u32 (rg.1 : Int), .int .u32 (rg.2 : Int), .slice aB2 LN cB2] 91)).heap.size (wA2.alloc (.cells #[.int .u8 (tx.1 : Int), .int .u32 (tx.2.1 : Int), .int .u32 (tx.2.2 : Int), .int .u32 (rg.1 : Int), .int .u32 (rg.2 : Int), .slice aB2 LN cB2] 91)) (wA2.alloc (.cells #[.int .u8 (tx.1 : Int), .int .u32 (tx.2.1 : Int), .int .u32 (tx.2.2 : Int), .int .u32 (rg.1 : Int), .int .u32 (rg.2 : Int), .slice aB2 LN cB2] 91)) := (Below.refl _ _)
              obtain ⟨vD2, wD2, vE2, wE2, hrD2, hrE2, hBD02, hBE02, hnD2, hoE2, hkE2⟩ := run_two14 recON (wA2.alloc (.cells #[.int .u8 (tx.1 : Int), .int .u32 (tx.2.1 : Int), .int .u32 (tx.2.2 : Int), .int .u32 (rg.1 : Int), .int .u32 (rg.2 : Int), .slice aB2 LN cB2] 91)) Wx.heap.size (.slice aA2 (vs.take k).length cA2) (.slice (some ⟨wA2.heap.size, 0, none⟩) 1 1) (.slice af l2 cc2) (vs.take k) [(OnV.mk ⟨tx, rg, ws⟩ (.slice aB2 LN cB2))] (vs.drop k) (owns_keep (own_base hoA2 hbA2) (KeepBut.of_below (fun _ => False) hkA2) (fun _ _ h => h)) (hrC2.below hkC2) (hs2.below hBC2) (ons_one _ (fun x hx => by rw [List.mem_singleton.1 hx]; rfl)) (ons_one _ (fun x hx => hon x (List.mem_of_mem_drop hx))) (by rw [htl]; simp only [List.length_cons, List.length_nil]; omega) hBC2.size (fun g e e2 => by have h1 := hfl g e; have h2 := (hoA2.lt g e2).1; have h3 := hbA2; omega)
              have hBD2 : Below Wx.heap.size Wx wD2 := hBC2.trans hBD02
              have hBE2 : Below Wx.heap.size Wx wE2 := hBC2.trans hBE02
              obtain ⟨aD2, cD2, hvD2⟩ := hnD2
              subst hvD2
              obtain ⟨aE2, cE2, hvE2, _⟩ := owns_shapeR hoE2
              subst hvE2
              have hBf2 : RSrc wrE wE2 (.slice aB2 ws.length cB2) ws := ((RSrc.of_own hoB2).below hkB2).keep hkE2 (fun g e e2 => by have h1 := (hoA2.lt g e2).1; have h2 := (hoB2.lt g e).2; omega)
              rw [← HLN.out] at hoB2 hrB2 hBf2
              have HF2 := hide (FIN wE2 _ (.slice aB2 LN cB2) hBE2 hoE2 hBf2 (fun g e => Nat.le_trans hbB2 (hoB2.lt g e).1))
              obtain ⟨qB20, qB21, qB22, qB23, qB24, qB25, qB26, qB27, qB28, qB29⟩ := HCELL.out _ hBB2
              obtain ⟨qA20, qA21, qA22, qA23, qA24, qA25, qA26, qA27, qA28, qA29⟩ := HCELL.out _ hBA2
              obtain ⟨qC20, qC21, qC22, qC23, qC24, qC25, qC26, qC27, qC28, qC29⟩ := HCELL.out _ hBC2
              obtain ⟨qD20, qD21, qD22, qD23, qD24, qD25, qD26, qD27, qD28, qD29⟩ := HCELL.out _ hBD2
              obtain ⟨qE20, qE21, qE22, qE23, qE24, qE25, qE26, qE27, qE28, qE29⟩ := HCELL.out _ hBE2
              rw [htl] at hrA2 hrD2
              obtain ⟨n2, hn2⟩ : ∃ n, n = (vs.take k ++ [(OnV.mk ⟨tx, rg, ws⟩ (.slice aB2 LN cB2))]).length := ⟨_, rfl⟩
              obtain ⟨m2, hm2⟩ : ∃ m, m = (vs.take k ++ [(OnV.mk ⟨tx, rg, ws⟩ (.slice aB2 LN cB2))] ++ vs.drop k).length := ⟨_, rfl⟩
              rw [← hn2] at hrD2 hrE2
              rw [← hm2] at hrE2 HF2
              clear hoA2 hgA2 hBA2 hsA2 hbA2 hoB2 hgB2 hBB2 hsB2 hbB2 hBC2 hsC2 hrC2 hkA2 hkB2 hkC2 hBD02 hBE02 hBD2 hBE2 hoE2 hkE2 hBf2 hn2 hm2
              obtain ⟨vB3, wB3, hrB3, hoB3, hgB3, _⟩ := run_recsH recWR Wx.drew Wx.drew.heap.size (.slice none 0 0) (.slice ao LN cap) [] ws (World.ownsRow_nil _ _ _ _) (hsw.below hBd) (fun x _ => wr_one x) (by rw [← HLN.out]; simp; omega) (Nat.le_refl _)
              rw [List.nil_append] at hoB3
              have hBB3 : Below Wx.heap.size Wx wB3 := hBd.grown hgB3 hBd.size (fun k hk => by cases hk)
              have hsB3 : Below Wx.drew.heap.size Wx.drew wB3 := (Below.refl _ _).grown hgB3 (Nat.le_refl _) (fun k hk => by cases hk)
              obtain ⟨aB3, cB3, hvB3, _⟩ := owns_shapeR hoB3
              subst hvB3
              have hbB3 := hBd.size
              have hsC3 : Below wB3.heap.size wB3 (wB3.alloc (.cells #[.int .u8 (tx.1 : Int), .int .u32 (tx.2.1 : Int), .int .u32 (tx.2.2 : Int), .int .u32 (rg.1 : Int), .int .u32 (rg.2 : Int), .slice aB3 LN cB3] 91)) := alloc_below14 _ _
              have hBC3 : Below Wx.heap.size Wx (wB3.alloc (.cells #[.int .u8 (tx.1 : Int), .int .u32 (tx.2.1 : Int), .int .u32 (tx.2.2 : Int), .int .u32 (rg.1 : Int), .int .u32 (rg.2 : Int), .slice aB3 LN cB3] 91)) := hBB3.trans (hsC3.mono hBB3.size)
              have hrC3 : RSrc onE (wB3.alloc (.cells #[.int .u8 (tx.1 : Int), .int .u32 (tx.2.1 : Int), .int .u32 (tx.2.2 : Int), .int .u32 (rg.1 : Int), .int .u32 (rg.2 : Int), .slice aB3 LN cB3] 91)) (.slice (some ⟨wB3.heap.size, 0, none⟩) 1 1) [(OnV.mk ⟨tx, rg, ws⟩ (.slice aB3 LN cB3))] := src_new (enc := onE) wB3 (OnV.mk ⟨tx, rg, ws⟩ (.slice aB3 LN cB3)) _ rfl 91
              obtain ⟨vA3, wA3, hrA3, hoA3, hgA3, _⟩ := run_recsH recON (wB3.alloc (.cells #[.int .u8 (tx.1 : Int), .int .u32 (tx.2.1 : Int), .int .u32 (tx.2.2 : Int), .int .u32 (rg.1 : Int), .int .u32 (rg.2 : Int), .slice aB3 LN cB3] 91)) (wB3.alloc (.cells #[.int .u8 (tx.1 : Int), .int .u32 (tx.2.1 : Int), .int .u32 (tx.2.2 : Int), .int .u32 (rg.1 : Int), .int .u32 (rg.2 : Int), .slice aB3 LN cB3] 91)).heap.size (.slice none 0 0) (.slice (some ⟨b, off, none⟩) k sc) [] (vs.take k) (World.ownsRow_nil _ _ _ _) (hs1.below hBC3) (ons_one _ (fun x hx => hon x (List.mem_of_mem_take hx))) (by rw [htl]; simp; omega) (Nat.le_refl _)
              rw [List.nil_append] at hoA3
              have hBA3 : Below Wx.heap.size Wx wA3 := hBC3.grown hgA3 hBC3.size (fun k hk => by cases hk)
              have hsA3 : Below (wB3.alloc (.cells #[.int .u8 (tx.1 : Int), .int .u32 (tx.2.1 : Int), .int .u32 (tx.2.2 : Int), .int .u32 (rg.1 : Int), .int .u32 (rg.2 : Int), .slice aB3 LN cB3] 91)).heap.size (wB3.alloc (.cells #[.int .u8 (tx.1 : Int), .int .u32 (tx.2.1 : Int), .int .u32 (tx.2.2 : Int), .int .u32 (rg.1 : Int), .int .u32 (rg.2 : Int), .slice aB3 LN cB3] 91)) wA3 := (Below.refl _ _).grown hgA3 (Nat.le_refl _) (fun k hk => by cases hk)
              obtain ⟨aA3, cA3, hvA3, _⟩ := owns_shapeR hoA3
              subst hvA3
              have hbA3 := hBC3.size
              have hkA3 : Below wA3.heap.size wA3 wA3 := (Below.refl _ _)
              have hkB3 : Below wB3.heap.size wB3 wA3 := ((hsC3).trans (hsA3.mono (hsC3).size))
              have hkC3 : Below (wB3.alloc (.cells #[.int .u8 (tx.1 : Int), .int .u32 (tx.2.1 : Int), .int .u32 (tx.2.2 : Int), .int .u32 (rg.1 : Int), .int .u32 (rg.2 : Int), .slice aB3 LN cB3] 91)).heap.size (wB3.alloc (.cells #[.int .u8 (tx.1 : Int), .int .u32 (tx.2.1 : Int), .int .u32 (tx.2.2 : Int), .int .u32 (rg.1 : Int), .int .u32 (rg.2 : Int), .slice aB3 LN cB3] 91)) wA3 := hsA3
              obtain ⟨vD3, wD3, vE3, wE3, hrD3, hrE3, hBD03, hBE03, hnD3, hoE3, hkE3⟩ := run_two14 recON wA3 Wx.heap.size (.slice aA3 (vs.take k).length cA3) (.slice (some ⟨wB3.heap.size, 0, none⟩) 1 1) (.slice af l2 cc2) (vs.take k) [(OnV.mk ⟨tx, rg, ws⟩ (.slice aB3 LN cB3))] (vs.drop k) (owns_keep (own_base hoA3 hbA3) (KeepBut.of_below (fun _ => False) hkA3) (fun _ _ h => h)) (hrC3.below hkC3) (hs2.below hBA3) (ons_one _ (fun x hx => by rw [List.mem_singleton.1 hx]; rfl)) (ons_one _ (fun x hx => hon x (List.mem_of_mem_drop hx))) (by rw [htl]; simp only [List.length_cons, List.length_nil]; omega) hBA3.size (fun g e e2 => by have h1 := hfl g e; have h2 := (hoA3.lt g e2).1; have h3 := hbA3; omega)
              have hBD3 : Below Wx.heap.size Wx wD3 := hBA3.trans hBD03
              have hBE3 : Below Wx.heap.size Wx wE3 := hBA3.trans hBE03
              obtain ⟨aD3, cD3, hvD3⟩ := hnD3
              subst hvD3
              obtain ⟨aE3, cE3, hvE3, _⟩ := owns_shapeR hoE3
              subst hvE3
              have hBf3 : RSrc wrE wE3 (.slice aB3 ws.length cB3) ws := ((RSrc.of_own hoB3).below hkB3).keep hkE3 (fun g e e2 => by have h1 := (hoA3.lt g e2).1; have h2 := (hoB3.lt g e).2; have h3 := hsC3.size; omega)
              rw [← HLN.out] at hoB3 hrB3 hBf3
              have HF3 := hide (FIN wE3 _ (.slice aB3 LN cB3) hBE3 hoE3 hBf3 (fun g e => Nat.le_trans hbB3 (hoB3.lt g e).1))
              obtain ⟨qB30, qB31, qB32, qB33, qB34, qB35, qB36, qB37, qB38, qB39⟩ := HCELL.out _ hBB3
              obtain ⟨qC30, qC31, qC32, qC33, qC34, qC35, qC36, qC37, qC38, qC39⟩ := HCELL.out _ hBC3
              obtain ⟨qA30, qA31, qA32, qA33, qA34, qA35, qA36, qA37, qA38, qA39⟩ := HCELL.out _ hBA3
              obtain ⟨qD30, qD31, qD32, qD33, qD34, qD35, qD36, qD37, qD38, qD39⟩ := HCELL.out _ hBD3
              obtain ⟨qE30, qE31, qE32, qE33, qE34, qE35, qE36, qE37, qE38, qE39⟩ := HCELL.out _ hBE3
              rw [htl] at hrA3 hrD3
              obtain ⟨n3, hn3⟩ : ∃ n, n = (vs.take k ++ [(OnV.mk ⟨tx, rg, ws⟩ (.slice aB3 LN cB3))]).length := ⟨_, rfl⟩
              obtain ⟨m3, hm3⟩ : ∃ m, m = (vs.take k ++ [(OnV.mk ⟨tx, rg, ws⟩ (.slice aB3 LN cB3))] ++ vs.drop k).length := ⟨_, rfl⟩
              rw [← hn3] at hrD3 hrE3
              rw [← hm3] at hrE3 HF3
              clear hoA3 hgA3 hBA3 hsA3 hbA3 hoB3 hgB3 hBB3 hsB3 hbB3 hBC3 hsC3 hrC3 hkA3 hkB3 hkC3 hBD03 hBE03 hBD3 hBE3 hoE3 hkE3 hBf3 hn3 hm3
              have plx := hRx.box.lt
              clear hRx hXTx hXRx hsw hsx hon hsc haf hfl hfl0 hs1 hs2 hl2 hcc2 hBd htl hdl FIN hBx
              go_wp2_with fail
              go_region
              all_goals go_wp2_with fail
              all_goals go_ret
              all_goals first | exact ⟨by rw [HEA.out]; rfl, by rw [HREF.out]; (first | rw [if_pos trivial] | rw [if_pos rfl]); exact HF1.out⟩ | exact ⟨by rw [HEA.out]; rfl, by rw [HREF.out]; (first | rw [if_pos trivial] | rw [if_pos rfl]); exact HF2.out⟩ | exact ⟨by rw [HEA.out]; rfl, by rw [HREF.out]; (first | rw [if_pos trivial] | rw [if_pos rfl]); exact HF3.out⟩
end
end Go.Proofs.Ytodomdmmffooaaa
