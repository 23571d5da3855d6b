/-
  Proved: of the program's table of locks a prepared user is never wounded, and keeps what it holds to write, and neither waits nor holds anything to read, until it is released, whatever calls came ahead, and whatever calls come behind. For every input of the form's own reach (of each script the first 60 calls count; one that is too large is passed by, as the law says). Own work.
-/
import Derived.Test.YtddflccjmigloaaG35
import Derived.Test.YtddflccjmigloaaG08
import Derived.Test.YtddflccjmigloaaG09
import Derived.Test.YtddflccjmigloaaG34
import Derived.Test.YtddflccjmigloaaG22
import Derived.Test.YtddflccjmigloaaG32
import Derived.SizedLaws
import Derived.ChangeArms
namespace Go.Proofs.Ytddflccjmigloaa
section
open Go.RowKit Go.Maps Classical

theorem kmTy15 : MapTy 72 34 4 (fun k : KeyT => kyV k.1) (fun k => kyKey k.1) Value.bool false where
  und := Try.underlying72
  keyed := kyKeyed
  key := fun k => keyOf_ky k.1 k.2
  inj := fun k l h => Subtype.ext (kyKey_inj k.2 l.2 h)
  inv := fun v kl h => keyOf_ky_inv h
  zero := fun w => by kernel_rfl
  einj := fun a b h => by cases h; rfl
abbrev inG (ks : List KeyT) (k : KeyT) : Option Bool := if k ∈ ks then some true else none
abbrev KM15 (w : World) (b : Nat) (ks : List KeyT) (n : Nat) : Prop := GMap 34 (fun k : KeyT => kyKey k.1) Value.bool w b (inG ks) n
theorem km_few {w : World} {b n : Nat} {ks : List KeyT} (h : KM15 w b ks n) : n ≤ ks.length := h.few kmTy15 ks (fun k hk => by
  by_cases e : k ∈ ks
  · exact e
  · simp [inG, e] at hk)
theorem km_put {w' : World} {b n : Nat} {ks : List KeyT} {k : KeyT} {g : KeyT → Option Bool} (h : GMap 34 (fun k : KeyT => kyKey k.1) Value.bool w' b g n) (h1 : g k = some true) (h2 : ∀ k', k' ≠ k → g k' = inG ks k') : KM15 w' b (ks ++ [k]) n :=
  h.as fun k' => by
    by_cases e : k' = k
    · rw [e, h1]; simp [inG]
    · rw [h2 k' e]; simp [inG, e]
abbrev KeyRow (w : World) (B : Nat) (v : Value) (ks : List KeyT) : Prop := w.ownsRow B 34 8 v ks.length (flat kyCs ks)
theorem krow_new (w : World) (k : KeyT) : KeyRow (w.alloc (.cells (eightA k.1) 34)) w.heap.size (.slice (some ⟨w.heap.size, 0, none⟩) 1 1) [k] :=
  ⟨rfl, .inr ⟨w.heap.size, 1, eightA k.1, rfl, Nat.le_refl _, box_new w (eightA k.1) 34, Nat.le_refl _, by decide, rfl, by simp [flat]⟩⟩
theorem krow_map {w : World} {B b n : Nat} {v : Value} {ks : List KeyT} {g : KeyT → Option Bool} (h : KeyRow w B v ks) (hm : GMap 34 (fun k : KeyT => kyKey k.1) Value.bool w b g n) : ∀ j, v.ownBlock = some j → j ≠ b := fun j e => by
  obtain ⟨_, ⟨h1, _⟩ | ⟨g', cap, cur, h1, _, hb, _⟩⟩ := h
  · rw [h1] at e; cases e
  · rw [h1] at e
    cases e
    exact hm.ne (show Box w _ cur 34 from hb)
theorem krow_below {w w' : World} {B : Nat} {v : Value} {ks : List KeyT} (h : KeyRow w B v ks) (hB : Below w.heap.size w w') : KeyRow w' B v ks := owns_keep h (KeepBut.of_below (fun _ => False) hB) (fun _ _ h => h)
structure KeysV (w : World) (e : Ending) (w' : World) : Prop where
  ex : ∃ v ks, e = .returned v ∧ KeyRow w' w.heap.size v ks ∧ ks.length ≤ 1860 ∧ Below w.heap.size w w'
set_option maxRecDepth 100000 in
set_option maxHeartbeats 6400000 in
theorem keys_any15 (v : Value) (fs : List LActV) (w : World) (h : RSrc lactE w v fs) (hok : ∀ a ∈ fs.take 60, LvOk w a) (hks : ∀ a ∈ fs.take 60, a.a.ks.length ≤ 30) :
    Calls Try.prog 14 #[v] w fun e w' => KeysV w e w' := by
  have CSH := hide (fun W (hB : Below w.heap.size w W) => short_any15 v fs W w h)
  obtain ⟨ts, hts⟩ : ∃ ts, ts = fs.take 60 := ⟨_, rfl⟩
  rw [← hts] at hok hks
  simp only [← hts] at CSH
  have HTO := hide hok
  have HTK := hide hks
  obtain ⟨LN, hLN⟩ : ∃ LN, LN = ts.length := ⟨_, rfl⟩
  have hKl : LN ≤ 60 := by rw [hLN, hts, List.length_take]; omega
  have HLN := hide hLN
  have hmm := @run_makeMap Try.prog
  have hMA := alloc_below14 w (.map #[] 0)
  have HM0 := hide (gmap_made kmTy15 w)
  obtain ⟨bm, hbm⟩ : ∃ bm, bm = w.heap.size := ⟨_, rfl⟩
  obtain ⟨w1, hw1⟩ : ∃ w1, w1 = w.alloc (.map #[] 0) := ⟨_, rfl⟩
  rw [← hw1, ← hbm] at HM0
  rw [← hw1] at hMA
  have HB1 := hide hMA
  have hW1 := hw1.symm
  have hBM := hbm.symm
  have HBM : Hid (w.heap.size ≤ bm) := hide (by omega)
  have HM1 : Hid (KM15 w1 bm [] 0) := hide (HM0.out.as (fun k => by simp [inG]))
  have HO1 : Hid (KeyRow w1 w.heap.size (.slice none 0 0) []) := hide ⟨rfl, .inl ⟨rfl, rfl⟩⟩
  clear h hok hks hts hLN hMA hw1 hbm HM0
  go_enter Try.func14, Try.ntmps14
  go_wp2_with (go_at_call 9; refine (CSH.out _ HB1.out).mono ?_; rintro e Y1 ⟨v1, rfl, rfl, hT⟩; obtain ⟨ta, tc, e1, _, _⟩ := hT.shape; rw [← HLN.out] at e1; subst e1; have HT := hide hT; clear hT)
  clear hW1 hBM hmm CSH
  go_loopg [4, 13] LN (fun g s4 i wr => ∃ (k n : Nat) (ks : List KeyT) (ax : Option Addr) (cx : Nat), k + g = LN ∧ i = .int .i64 k ∧ s4 = .slice ax ks.length cx ∧ ks.length ≤ 31 * k ∧ Hid (KeyRow wr w.heap.size (.slice ax ks.length cx) ks) ∧ Hid (KM15 wr bm ks n) ∧ Hid (Below w.heap.size w wr))
  case atStart => exact ⟨0, 0, [], none, 0, by omega, rfl, rfl, by simp, HO1, HM1, HB1⟩
  case round =>
    clear HO1 HM1 HB1
    obtain ⟨k, n, ks, ax, cx, hk, rfl, rfl, hkl, HO, HM, HB⟩ := hrel
    cases gk with
    | zero =>
      obtain rfl : k = LN := by omega
      have hz : ¬ ((k : Int) < (k : Int)) := by omega
      go_wp2_with fail
      go_ret
      exact ⟨⟨_, ks, rfl, HO.out, by omega, HB.out⟩⟩
    | succ g =>
      have hz : (k : Int) < (LN : Int) := by omega
      have hkn : k < ts.length := by rw [← HLN.out]; omega
      obtain ⟨en, b, off, rfl, hb, hcl⟩ := (HT.out.below HB.out).at recLA.len hkn
      have HRg : Hid (wr.rangeAt b (off + k * 15) (lactE ts[k])) := hide (fun j v hv => hcl j v hv)
      have HOA := hide (lvok_below (HTO.out _ (List.getElem_mem hkn)) HB.out)
      have HKA := hide (HTK.out _ (List.getElem_mem hkn))
      generalize ts[k] = ax5 at *
      obtain ⟨a, u⟩ := ax5
      obtain ⟨ro, rc, e1, hrc, _⟩ := HOA.out.src.shape
      dsimp only at e1
      subst e1
      clear hcl en hb hrc
      obtain ⟨p5, hp5⟩ : ∃ p5, p5 = wr.heap.size := ⟨_, rfl⟩
      have HZ := hide (box_new wr (lactA zeroLV.a zeroLV.p) 37)
      have HZB : Hid (Below wr.heap.size wr (wr.alloc (.cells (lactA zeroLV.a zeroLV.p) 37))) := hide (alloc_below14 wr _)
      obtain ⟨xs, hxs⟩ : ∃ xs, xs = [a.k] ++ a.ks := ⟨_, rfl⟩
      obtain ⟨LX, hLX⟩ : ∃ LX, LX = xs.length := ⟨_, rfl⟩
      have hLXm : LX ≤ 31 := by
        have h9 : a.ks.length ≤ 30 := HKA.out
        rw [hLX, hxs, List.length_append, List.length_singleton]
        omega
      have HLX := hide hLX
      have HXS := hide hxs
      clear hxs hLX
      go_wp2_with (first | (refine wpList_load_mid rfl 37 _ rfl b (off + k * 15) rfl (lactE ⟨a, .slice ro a.ks.length rc⟩) _ HRg.out Try.underlying37 rfl infoLA ?_) | (refine wp_store_box rfl rfl _ _ rfl wr.heap.size rfl (cs' := lactA a (.slice ro a.ks.length rc)) rfl HZ.out rfl infoLA (by simp [Value.oneCell']) ?_; intro w5 hb3 hk3; have HB5 : Hid (Below wr.heap.size wr w5) := hide (HZB.out.trans (hk3.below HZB.out.size (fun k hk => by omega))); have HKR := hide (act_key hb3); have hA6 := alloc_below14 w5 (.cells (eightA a.k.1) 34); have y14 : (w5.alloc (.cells (eightA a.k.1) 34)).cell? ⟨wr.heap.size, 14, none⟩ = some (.slice ro a.ks.length rc) := (hb3.belowI hA6).cell 14 (.slice ro a.ks.length rc) rfl; have HSR := hide ((HOA.out.src.below HB5.out).below hA6); have HB6 := hide (HB5.out.trans (hA6.mono HB5.out.size)); have HK6 := hide (krow_new w5 a.k); clear hb3 hk3 hA6) | (refine wpList_load_mid rfl 34 _ rfl wr.heap.size 5 rfl (eightE a.k.1) _ HKR.out Try.underlying34 rfl infoKey15 ?_) | (at_builtin; refine wp_recs recKey15 _ rfl _ _ rfl w5.heap.size (.slice (some ⟨w5.heap.size, 0, none⟩) 1 1) (.slice ro a.ks.length rc) [a.k] a.ks rfl HK6.out rfl HSR.out (fun z _ => key_one15 z) (by have h9 : a.ks.length ≤ 30 := HKA.out; rw [List.length_singleton]; omega) (by simp) ?_; intro v7 w7 ho7 hg7 _; rw [← HXS.out] at ho7; obtain ⟨a7, c7, e7, _⟩ := owns_shapeR ho7; rw [← HLX.out] at e7; subst e7; have HO7 := hide ho7; have HG7 := hide hg7; clear ho7 hg7))
      have HW7 : Hid (Below wr.heap.size wr w7) := hide (HB6.out.grown HG7.out HB6.out.size (fun j hj => by
        have e : w5.heap.size = j := Option.some.inj hj
        have := HB5.out.size
        omega))
      obtain ⟨B7, hB7⟩ : ∃ B7, B7 = w5.heap.size := ⟨_, rfl⟩
      have HX7 : Hid (KeyRow w7 B7 (.slice a7 LX c7) xs) := hide (by rw [hB7]; exact HO7.out)
      have HB57 : Hid (wr.heap.size ≤ B7) := hide (by rw [hB7]; exact HB5.out.size)
      have HN7 := hide (krow_below HO.out HW7.out)
      have HM7 := hide (HM.out.below HW7.out)
      have HA7 : Hid (∀ g, (Value.slice ax ks.length cx).ownBlock = some g → (Value.slice a7 LX c7).ownBlock ≠ some g) := hide (fun g hg e => by
        have h1 := (HO.out.lt g hg).2
        have h2 := (HX7.out.lt g e).1
        have h3 := HB57.out
        omega)
      have HBW := hide (HB.out.trans (HW7.out.mono HB.out.size))
      clear HO7 HG7 HW7 HK6 HSR HB6 HB5 y14 HKR HZ HZB HRg HO HM HB hB7 HOA HKA
      go_loopg [4, 24] LX (fun g s4 i wr => ∃ (j n : Nat) (ks : List KeyT) (ax : Option Addr) (cx : Nat), j + g = LX ∧ i = .int .i64 j ∧ s4 = .slice ax ks.length cx ∧ ks.length ≤ 31 * k + j ∧ Hid (KeyRow wr w.heap.size (.slice ax ks.length cx) ks) ∧ Hid (KM15 wr bm ks n) ∧ Hid (KeyRow wr B7 (.slice a7 LX c7) xs) ∧ Hid (∀ g, (Value.slice ax ks.length cx).ownBlock = some g → (Value.slice a7 LX c7).ownBlock ≠ some g) ∧ Hid (Below w.heap.size w wr))
      case atStart => exact ⟨0, n, ks, ax, cx, by omega, rfl, rfl, by omega, HN7, HM7, HX7, HA7, HBW⟩
      case round =>
        clear HN7 HM7 HX7 HA7 HBW
        obtain ⟨j, n, ks, ax, cx, hj, rfl, rfl, hkj, HO, HM, HX, HA, HB⟩ := hrel
        cases gk with
        | zero =>
          obtain rfl : j = LX := by omega
          have hz2 : ¬ ((j : Int) < (j : Int)) := by omega
          go_wp2_with fail
          go_roundg g
          case measure => omega
          case rel => exact ⟨k + 1, n, ks, ax, cx, by omega, by first | rfl | go_num, rfl, by omega, HO, HM, HB⟩
        | succ g2 =>
          have hz2 : (j : Int) < (LX : Int) := by omega
          have hjn : j < xs.length := by rw [← HLX.out]; omega
          obtain ⟨en, b, off, rfl, hb, hcl⟩ := (RSrc.of_own HX.out).at (K := 8) (fun _ => rfl) hjn
          have HRg : Hid (wr.rangeAt b (off + j * 8) (kyCs xs[j])) := hide (fun j v hv => hcl j v hv)
          generalize xs[j] = kk at *
          clear hcl en hb
          have HZ := hide (box_new wr #[.int .u8 0, .int .u8 0, .int .u8 0, .int .u8 0, .int .u8 0, .int .u8 0, .int .u8 0, .int .u8 0] 34)
          have HZB : Hid (Below wr.heap.size wr (wr.alloc (.cells #[.int .u8 0, .int .u8 0, .int .u8 0, .int .u8 0, .int .u8 0, .int .u8 0, .int .u8 0, .int .u8 0] 34))) := hide (alloc_below14 wr _)
          by_cases hin : kk ∈ ks
          · have HIN := hide hin
            clear hin
            go_wp2_with (first | (refine wpList_load_mid rfl 34 _ rfl b (off + j * 8) rfl (kyCs kk) _ HRg.out Try.underlying34 rfl infoKey15 ?_) | (refine wp_store_box rfl rfl _ _ rfl wr.heap.size rfl (cs' := eightA kk.1) rfl HZ.out rfl infoKey15 (by simp [Value.oneCell']) ?_; intro w8 hb3 hk3; have HX8 := hide hb3; have HB8 : Hid (Below wr.heap.size wr w8) := hide (HZB.out.trans (hk3.below HZB.out.size (fun k hk => by omega))); have L8 := (HM.out.below HB8.out).look1 kmTy15 kk; rw [show (inG ks kk).getD false = true from by simp [inG, HIN.out]] at L8; clear hb3 hk3) | (refine wp_load_box rfl _ rfl wr.heap.size rfl HX8.out Try.underlying34 rfl infoKey15 ?_))
            have HB9 := hide (HB.out.trans (HB8.out.mono HB.out.size))
            go_roundg g2
            case measure => omega
            case rel => exact ⟨j + 1, n, ks, ax, cx, by omega, by first | rfl | go_num, rfl, by omega, hide (krow_below HO.out HB8.out), hide (HM.out.below HB8.out), hide (krow_below HX.out HB8.out), HA, HB9⟩
          · have HIN := hide hin
            clear hin
            go_wp2_with (first | (refine wpList_load_mid rfl 34 _ rfl b (off + j * 8) rfl (kyCs kk) _ HRg.out Try.underlying34 rfl infoKey15 ?_) | (refine wp_store_box rfl rfl _ _ rfl wr.heap.size rfl (cs' := eightA kk.1) rfl HZ.out rfl infoKey15 (by simp [Value.oneCell']) ?_; intro w8 hb3 hk3; have HX8 := hide hb3; have HB8 : Hid (Below wr.heap.size wr w8) := hide (HZB.out.trans (hk3.below HZB.out.size (fun k hk => by omega))); have L8 := (HM.out.below HB8.out).look1 kmTy15 kk; rw [show (inG ks kk).getD false = false from by simp [inG, HIN.out]] at L8; obtain ⟨w9, hr9, hg9, hk9⟩ := (HM.out.below HB8.out).put kmTy15 (by have h1 := km_few HM.out; unfold maxLen; omega) kk true; have HG9 := hide hg9; have HK9 := hide hk9; have HX9 := hide (hb3.keep hk9 (fun e => (HM.out.below HB8.out).ne hb3 e)); have HO9 := hide (owns_keep (krow_below HO.out HB8.out) hk9 (krow_map (krow_below HO.out HB8.out) (HM.out.below HB8.out))); have HS9 := hide (owns_keep (krow_below HX.out HB8.out) hk9 (krow_map (krow_below HX.out HB8.out) (HM.out.below HB8.out))); have HC9 : Hid (Below w.heap.size w w9) := hide ((HB.out.trans (HB8.out.mono HB.out.size)).trans (hk9.below (HB.out.trans (HB8.out.mono HB.out.size)).size (fun k e => by rw [e]; exact HBM.out))); have HSRC := hide (src_new (enc := kyCs) w9 kk (eightA kk.1) rfl 34); have HAL := hide (alloc_below14 w9 (.cells (eightA kk.1) 34)); clear hb3 hk3 hg9 hk9) | (refine wp_load_box rfl _ rfl wr.heap.size rfl HX8.out Try.underlying34 rfl infoKey15 ?_) | (refine wp_load_box rfl _ rfl wr.heap.size rfl HX9.out Try.underlying34 rfl infoKey15 ?_) | (at_builtin; refine wp_recs recKey15 _ rfl _ _ rfl w.heap.size (.slice ax ks.length cx) (.slice (some ⟨w9.heap.size, 0, none⟩) 1 1) ks [kk] rfl (krow_below HO9.out HAL.out) rfl HSRC.out (fun z _ => key_one15 z) (by rw [List.length_singleton]; omega) (Nat.le_trans HC9.out.size HAL.out.size) ?_; intro v11 w11 ho11 hg11 hv11; obtain ⟨a11, c11, e11, _⟩ := owns_shapeR ho11; rw [List.length_append, List.length_singleton] at e11; subst e11; have HO11 := hide ho11; have HG11 := hide hg11; have HV11 := hide hv11; clear ho11 hg11 hv11))
            have HM9 := hide (km_put HG9.out (if_pos rfl) (fun k' e => if_neg e))
            have HM10 := hide (HM9.out.below HAL.out)
            have HO10 := hide (krow_below HO9.out HAL.out)
            have HS10 := hide (krow_below HS9.out HAL.out)
            have HE : Hid ((ks ++ [kk]).length = ks.length + 1) := hide (by rw [List.length_append]; rfl)
            have hkk := kept15 HG11.out
            have HM11 := hide (HM10.out.keep hkk (fun e => krow_map HO10.out HM10.out _ e rfl))
            have HS11 := hide (owns_keep HS10.out hkk (fun g hg e => HA.out g e hg))
            have HC11 : Hid (Below w.heap.size w w11) := hide ((HC9.out.trans (HAL.out.mono HC9.out.size)).grown HG11.out (Nat.le_trans HC9.out.size HAL.out.size) (fun j hj => (HO10.out.lt j hj).1))
            have HA11 : Hid (∀ g, (Value.slice a11 (ks.length + 1) c11).ownBlock = some g → (Value.slice (some ⟨b, off, none⟩) LX c7).ownBlock ≠ some g) := hide (fun g hg e => by
              rcases HV11.out with h1 | h1
              · exact HA.out g (h1.symm.trans hg) e
              · have h2 : g = (w9.alloc (.cells (eightA kk.1) 34)).heap.size := (Option.some.inj (h1.symm.trans hg)).symm
                have h3 := (HS10.out.lt g e).2
                omega)
            have HO12 : Hid (KeyRow w11 w.heap.size (.slice a11 (ks ++ [kk]).length c11) (ks ++ [kk])) := hide (by rw [HE.out]; exact HO11.out)
            rw [← HE.out] at HA11
            clear hkk
            go_wp2_with fail
            go_roundg g2
            case measure => omega
            case rel => exact ⟨j + 1, _, ks ++ [kk], a11, c11, by omega, by first | rfl | go_num, by rw [HE.out], by rw [HE.out]; omega, HO12, HM11, HS11, HA11, HC11⟩
end
section
open Go.RowKit Go.Maps Classical

theorem eqlT15 (a b : TxN) (w : World) : (binOp .eql 30 (txVN a) (txVN b)).run Try.prog w = .ok (.bool (decide (a = b))) w := by
  refine (eql_tx _ _ _ _ _ _ w).trans ?_
  congr 2
  obtain ⟨a1, a2, a3⟩ := a
  obtain ⟨b1, b2, b3⟩ := b
  rw [Bool.eq_iff_iff]
  simp only [Bool.and_eq_true, beq_iff_eq, decide_eq_true_eq, Prod.mk.injEq]
  constructor
  · rintro ⟨⟨h1, h2⟩, h3⟩
    exact ⟨by omega, by omega, by omega⟩
  · rintro ⟨h1, h2, h3⟩
    exact ⟨⟨by omega, by omega⟩, by omega⟩
/-- Who is prepared, and what it holds. -/
theorem prep_done {l l' : List (UsP KeyT)} {t : TxN} {er : Int} {gr : List (GtP KeyT)} (h : LkI l) (hR : PrepR kysF l t er l' gr) (he : er = 0) : ∃ u ∈ l', u.tx = t ∧ u.pr = true := by
  rcases hR with ⟨_, _, ⟨_, h1⟩ | ⟨_, _, _, h1⟩⟩ | ⟨x, ks, hu, hw, _, _, _, rfl⟩
  · omega
  · omega
  · obtain ⟨hx, ht⟩ := (usL_some h.b).1 hu
    have hb : LkB (updU l t prepU) := updU_b h.b _ _ (fun u hu => ⟨rfl, rfl, fun k => by
      show (if u.h k = 1 then 0 else u.h k) ≤ 2
      have := (h.b.oks u hu).2.2.1 k
      split <;> omega, (h.b.oks u hu).2.2.2⟩)
    exact ⟨prepU x, onA_keep (u := prepU x) hw ks hb (updU_mem.2 ⟨x, hx, by rw [if_pos ht]⟩), ht, rfl⟩
theorem does_prep {a : LAct} {l l' : List (UsP KeyT)} {er : Int} {wn : List TxN} {gr : List (GtP KeyT)} (h : LkI l) (ht : TxB a.t) (htm : a.tm < 4294967296) (hR : DoesR a l er l' wn gr) {u : UsP KeyT} (hu : u ∈ l) (hp : u.pr = true) (hno : a.kd % 5 = 3 → a.t ≠ u.tx) : u ∈ l' ∧ u.tx ∉ wn := by
  rcases hR with ⟨_, h1, rfl⟩ | ⟨h0, h1, rfl⟩ | ⟨_, h1, rfl, _⟩ | ⟨_, h1⟩
  · exact ⟨prep_prep h h1 hu hp, List.not_mem_nil⟩
  · exact ⟨rel_prep h h1 hu hp (fun e => hno h0 e.symm), List.not_mem_nil⟩
  · exact ⟨rest_prep h1 hu, List.not_mem_nil⟩
  · exact ask_prep h ht htm (fun e => ask_mode2 e) h1 hu hp
theorem act_four {w : World} {p : Nat} {a : LAct} {u : Value} (h : Box w p (lactA a u) 37) : w.cell? ⟨p, 0, none⟩ = some (.int .u8 (a.kd : Int)) ∧ w.cell? ⟨p, 2, none⟩ = some (.int .u8 (a.t.1 : Int)) ∧ w.cell? ⟨p, 3, none⟩ = some (.int .u32 (a.t.2.1 : Int)) ∧ w.cell? ⟨p, 4, none⟩ = some (.int .u32 (a.t.2.2 : Int)) := ⟨h.cell 0 _ rfl, h.cell 2 _ rfl, h.cell 3 _ rfl, h.cell 4 _ rfl⟩
theorem src_tx15 {w : World} {base : Nat} {v : Value} {ts : List TxN} (h : w.ownsRow base 30 3 v ts.length (rowOf (ts.map txI))) : RSrc (fun t : TxN => txCs (txI t)) w v ts := by
  have e : rowOf (ts.map txI) = flat (fun t : TxN => txCs (txI t)) ts := by
    unfold rowOf flat
    rw [List.flatMap_map]
  rw [e] at h
  exact RSrc.of_own h
variable {D : World → Nat → (Nat → Prop) → Nat → List (UsP KeyT) → Prop}
set_option maxRecDepth 100000 in
set_option maxHeartbeats 12800000 in
theorem walkP15 (H : LockDo D) (v0 v1 : Value) (fs0 fs1 : List LActV) (x : TxN) (w : World) (hL0 : RSrc lactE w v0 fs0) (hok0 : ∀ a ∈ fs0, LvOk w a) (hL1 : RSrc lactE w v1 fs1) (hok1 : ∀ a ∈ fs1, LvOk w a) (hx : TxB x) :
    Calls Try.prog 4 #[v0, v1, txVN x] w fun e w' => e = .returned (.bool true) ∧ Below w.heap.size w w' := by
  have CA := hide (fun W => alive_by15 H W)
  obtain ⟨ao0, cap0, rfl, _, _⟩ := hL0.shape
  obtain ⟨LF0, hLF0⟩ : ∃ LF, LF = fs0.length := ⟨_, rfl⟩
  rw [← hLF0]
  have HSF0 : Hid (RSrc lactE w (.slice ao0 LF0 cap0) fs0) := hide (by rw [hLF0]; exact hL0)
  have HSO0 := hide hok0
  have CF0 := hide (fun W (hB : Below w.heap.size w W) => far_any15 (.slice ao0 LF0 cap0) fs0 W (HSF0.out.below hB) (fun a ha => lvok_below (HSO0.out a ha) hB))
  have CSH0 := hide (fun W => short_any15 (.slice ao0 LF0 cap0) fs0 W w HSF0.out)
  obtain ⟨RF0, hRF0⟩ : ∃ RF, RF = farL fs0 := ⟨_, rfl⟩
  rw [← hRF0] at CF0
  have HRF0 := hide hRF0
  clear hL0 hok0 hLF0 hRF0
  obtain ⟨ao1, cap1, rfl, _, _⟩ := hL1.shape
  obtain ⟨LF1, hLF1⟩ : ∃ LF, LF = fs1.length := ⟨_, rfl⟩
  rw [← hLF1]
  have HSF1 : Hid (RSrc lactE w (.slice ao1 LF1 cap1) fs1) := hide (by rw [hLF1]; exact hL1)
  have HSO1 := hide hok1
  have CF1 := hide (fun W (hB : Below w.heap.size w W) => far_any15 (.slice ao1 LF1 cap1) fs1 W (HSF1.out.below hB) (fun a ha => lvok_below (HSO1.out a ha) hB))
  have CSH1 := hide (fun W => short_any15 (.slice ao1 LF1 cap1) fs1 W w HSF1.out)
  obtain ⟨RF1, hRF1⟩ : ∃ RF, RF = farL fs1 := ⟨_, rfl⟩
  rw [← hRF1] at CF1
  have HRF1 := hide hRF1
  clear hL1 hok1 hLF1 hRF1
  have HXB := hide hx
  have hA1 := alloc_below14 w (.cells #[.int .u8 (x.1 : Int), .int .u32 (x.2.1 : Int), .int .u32 (x.2.2 : Int)] 30)
  have HPX := hide (box_new w #[.int .u8 (x.1 : Int), .int .u32 (x.2.1 : Int), .int .u32 (x.2.2 : Int)] 30)
  obtain ⟨w1, hw1⟩ : ∃ w1, w1 = w.alloc (.cells #[.int .u8 (x.1 : Int), .int .u32 (x.2.1 : Int), .int .u32 (x.2.2 : Int)] 30) := ⟨_, rfl⟩
  obtain ⟨px, hpx⟩ : ∃ px, px = w.heap.size := ⟨_, rfl⟩
  rw [← hw1, ← hpx] at HPX
  rw [← hw1] at hA1
  have hW1 := hw1.symm
  have hPX := hpx.symm
  have HB1 := hide hA1
  have HPXW : Hid (w.heap.size ≤ px) := hide (by omega)
  clear hw1 hpx hA1 hx
  go_enter Try.func4, Try.ntmps4
  go_wp2_with fail
  refine (H.new w1).mono ?_
  rintro e w2 ⟨q, F1, rfl, hD1, hF1, hB2⟩
  have HN1 : Hid (Since15 D w q F1 0 [] w2) := hide ⟨hD1, fun k hk => Nat.le_trans HB1.out.size (hF1 k hk), HB1.out.trans (hB2.mono HB1.out.size)⟩
  have HPX2 := hide (HPX.out.belowI hB2)
  have HNX : Hid (¬ F1 px) := hide (fun e => by have := hF1 _ e; have := HPX.out.lt; omega)
  clear hD1 hF1 hB2 hW1 hPX HPX
  go_wp2_with fail
  refine (CF0.out w2 HN1.out.b).mono ?_
  rintro e w3 ⟨rfl, hB3⟩
  replace HN1 := hide (HN1.out.below H hB3)
  replace HPX2 := hide (HPX2.out.belowI hB3)
  clear hB3 CF0
  cases RF0 with
  | true =>
    go_wp2_with (go_at_call 8; refine (CA.out _).mono ?_; rintro e w4 ⟨rfl, hB4⟩; have HB4 := hide (HN1.out.b.trans (hB4.mono HN1.out.b.size)); clear hB4)
    go_ret
    exact ⟨rfl, HB4.out⟩
  | false =>
  go_wp2_with fail
  refine (CF1.out w3 HN1.out.b).mono ?_
  rintro e w4 ⟨rfl, hB4⟩
  replace HN1 := hide (HN1.out.below H hB4)
  replace HPX2 := hide (HPX2.out.belowI hB4)
  clear hB4 CF1
  cases RF1 with
  | true =>
    go_wp2_with (go_at_call 8; refine (CA.out _).mono ?_; rintro e w5 ⟨rfl, hB5⟩; have HB5 := hide (HN1.out.b.trans (hB5.mono HN1.out.b.size)); clear hB5)
    go_ret
    exact ⟨rfl, HB5.out⟩
  | false =>
  have CK0 := hide (fun W (hB : Below w.heap.size w W) => keys_any15 (.slice ao0 LF0 cap0) fs0 W (HSF0.out.below hB) (fun a ha => lvok_below (HSO0.out a (List.mem_of_mem_take ha)) hB) (far_ks HRF0.out.symm))
  obtain ⟨ts0, hts0⟩ : ∃ ts, ts = fs0.take 60 := ⟨_, rfl⟩
  have HTO0 : Hid (∀ a ∈ ts0, LvOk w a) := hide (fun a ha => by rw [hts0] at ha; exact HSO0.out a (List.mem_of_mem_take ha))
  have HTK0 : Hid (∀ a ∈ ts0, a.a.ks.length ≤ 30) := hide (fun a ha => by rw [hts0] at ha; exact far_ks HRF0.out.symm a ha)
  simp only [← hts0] at CSH0
  obtain ⟨LN0, hLN0⟩ : ∃ LN, LN = ts0.length := ⟨_, rfl⟩
  have hKl0 : LN0 ≤ 60 := by rw [hLN0, hts0, List.length_take]; omega
  have Hts0 := hide hLN0
  clear hts0 hLN0 HRF0 HSO0 HSF0
  have CK1 := hide (fun W (hB : Below w.heap.size w W) => keys_any15 (.slice ao1 LF1 cap1) fs1 W (HSF1.out.below hB) (fun a ha => lvok_below (HSO1.out a (List.mem_of_mem_take ha)) hB) (far_ks HRF1.out.symm))
  obtain ⟨ts1, hts1⟩ : ∃ ts, ts = fs1.take 60 := ⟨_, rfl⟩
  have HTO1 : Hid (∀ a ∈ ts1, LvOk w a) := hide (fun a ha => by rw [hts1] at ha; exact HSO1.out a (List.mem_of_mem_take ha))
  have HTK1 : Hid (∀ a ∈ ts1, a.a.ks.length ≤ 30) := hide (fun a ha => by rw [hts1] at ha; exact far_ks HRF1.out.symm a ha)
  simp only [← hts1] at CSH1
  obtain ⟨LN1, hLN1⟩ : ∃ LN, LN = ts1.length := ⟨_, rfl⟩
  have hKl1 : LN1 ≤ 60 := by rw [hLN1, hts1, List.length_take]; omega
  have Hts1 := hide hLN1
  clear hts1 hLN1 HRF1 HSO1 HSF1
  go_wp2_with (go_at_call 9; refine (CSH0.out _).mono ?_; rintro e Y1 ⟨v9, rfl, rfl, hT⟩; obtain ⟨ta, tc, e1, _, _⟩ := hT.shape; rw [← Hts0.out] at e1; subst e1; have HT := hide hT; clear hT)
  have HI0 : Hid (LkI ([] : List (UsP KeyT))) := hide lki_nil
  go_loopg [43] LN0 (fun g i wr => ∃ (k C : Nat) (F : Nat → Prop) (l : List (UsP KeyT)), k + g = LN0 ∧ i = .int .i64 k ∧ C ≤ 30 + k ∧ Hid (LkI l) ∧ Hid (Since15 D w q F C l wr) ∧ Hid (Box wr px #[.int .u8 (x.1 : Int), .int .u32 (x.2.1 : Int), .int .u32 (x.2.2 : Int)] 30) ∧ Hid (¬ F px))
  case atStart => exact ⟨0, 0, F1, [], by omega, rfl, by omega, HI0, HN1, HPX2, HNX⟩
  case round =>
    clear HI0 HN1 HPX2 HNX
    obtain ⟨k, C, F, l, hk, rfl, hC, HI, HN, HPX, HNX⟩ := hrel
    cases gk with
    | succ g =>
      have hz : (k : Int) < (LN0 : Int) := by omega
      have hkn : k < ts0.length := by rw [← Hts0.out]; omega
      obtain ⟨en, b, off, rfl, hb, hcl⟩ := (HT.out.below HN.out.b).at recLA.len hkn
      have HRg : Hid (wr.rangeAt b (off + k * 15) (lactE ts0[k])) := hide (fun j v hv => hcl j v hv)
      have HOA := hide (lvok_below (HTO0.out _ (List.getElem_mem hkn)) HN.out.b)
      have HKA := hide (HTK0.out _ (List.getElem_mem hkn))
      generalize ts0[k] = ax at *
      obtain ⟨a, u⟩ := ax
      obtain ⟨ro, rc, e1, hrc, _⟩ := HOA.out.src.shape
      dsimp only at e1
      subst e1
      clear hcl en hb hrc
      obtain ⟨p5, hp5⟩ : ∃ p5, p5 = wr.heap.size := ⟨_, rfl⟩
      have HZ := hide (box_new wr (lactA zeroLV.a zeroLV.p) 37)
      have HZB : Hid (Below wr.heap.size wr (wr.alloc (.cells (lactA zeroLV.a zeroLV.p) 37))) := hide (alloc_below14 wr _)
      go_wp2_with (first | (refine wpList_load_mid rfl 37 _ rfl b (off + k * 15) rfl (lactE ⟨a, .slice ro a.ks.length rc⟩) _ HRg.out Try.underlying37 rfl infoLA ?_) | (refine wp_store_box rfl rfl _ _ rfl wr.heap.size rfl (cs' := lactA a (.slice ro a.ks.length rc)) rfl HZ.out rfl infoLA (by simp [Value.oneCell']) ?_; intro w5 hb3 hk3; have HX5 := hide hb3; have HB5 : Hid (Below wr.heap.size wr w5) := hide (HZB.out.trans (hk3.below HZB.out.size (fun k hk => by omega))); clear hb3 hk3) | (refine wp_load_box rfl _ rfl wr.heap.size rfl HX5.out Try.underlying37 rfl infoLA ?_))
      have HN5 := hide (HN.out.below H HB5.out)
      have HNF : Hid (¬ F p5) := hide (fun hf => by have := H.lt HN.out.d _ hf; omega)
      rw [← hp5] at HX5 ⊢
      refine (does_any15 H a (.slice ro a.ks.length rc) HN5.out.d (by omega) (lvok_below HOA.out HB5.out) HKA.out).mono ?_
      rintro e w6 ⟨⟨vw, vg, er, wn, gr, l2, C2, rfl, hR, hC2, hd, how, hog⟩⟩
      have HI2 : Hid (LkI l2) := hide (does_ok HI.out HOA.out.tx HOA.out.tm hR)
      obtain ⟨F2, hs6, hk6, hf6⟩ := HN5.out.did hd
      have HN6 := hide hs6
      have HPX6 := hide ((HPX.out.belowI HB5.out).keep hk6 HNX.out)
      have HNX6 : Hid (¬ F2 px) := hide (fun e => (hf6 px e).elim HNX.out (fun e2 => by have := HPX.out.lt; have := HB5.out.size; omega))
      have hC3 : C2 ≤ 30 + (k + 1) := cgrow hC hC2
      clear hR hd hs6 hk6 hf6 hC2 how hog HZ HZB HRg HB5 HX5 HN5 HI HN HNF hp5
      go_wp2_with fail
      go_roundg g
      case measure => omega
      case rel => exact ⟨k + 1, C2, F2, l2, by omega, by first | rfl | go_num, hC3, HI2, HN6, HPX6, HNX6⟩
    | zero =>
      obtain rfl : k = LN0 := by omega
      have hz : ¬ ((k : Int) < (k : Int)) := by omega
      have hC9 : C ≤ 90 := by omega
      clear hC hk HT
      go_wp2_with (refine wp_load_box rfl _ rfl px rfl HPX.out Try.underlying30 rfl infoTx15 ?_)
      refine (H.prep x HN.out.d (by omega) HXB.out).mono ?_
      rintro e w5 ⟨vg, er, gr, l1, rfl, hR, hd, hog⟩
      have HI1 : Hid (LkI l1) := hide (prepR_ok HI.out hR)
      have HPD : Hid (er = 0 → ∃ u ∈ l1, u.tx = x ∧ u.pr = true) := hide (prep_done HI.out hR)
      obtain ⟨ag, cg, rfl, _⟩ := owns_shapeR hog
      obtain ⟨ng, hng⟩ : ∃ n, n = gr.length := ⟨_, rfl⟩
      rw [← hng]
      obtain ⟨F2, hs5, hk5, hf5⟩ := HN.out.did hd
      have HN5 := hide hs5
      have HPX5 := hide (HPX.out.keep hk5 HNX.out)
      have HNX5 : Hid (¬ F2 px) := hide (fun e => (hf5 px e).elim HNX.out (fun e2 => by have := HPX.out.lt; omega))
      have HZ5 := hide (box_new w5 zO 41)
      have HZB5 := hide (alloc_below14 w5 (.cells zO 41))
      clear hR hd hog hng hs5 hk5 hf5 HI HN HPX HNX
      by_cases he : er = 0
      case neg =>
        have he2 : (er == 0) = false := by simpa using he
        have he3 : (er != 0) = true := by simpa using he
        go_wp2_with (first | (refine wp_store_box rfl rfl _ _ rfl w5.heap.size rfl (cs' := #[.slice none 0 0, .slice ag ng cg]) rfl HZ5.out rfl infoOut15 (by simp [Value.oneCell']) ?_; intro w6 hb6 hk6; have hB56 : Below w5.heap.size w5 w6 := HZB5.out.trans (hk6.below HZB5.out.size (fun k e => by omega)); have HN6 := hide (HN5.out.below H hB56); have HPX6 := hide (HPX5.out.belowI hB56); clear hb6 hk6 hB56) | (go_at_call 8; refine (CA.out _).mono ?_; rintro e w7 ⟨rfl, hB7⟩; have HB7 := hide (HN6.out.b.trans (hB7.mono HN6.out.b.size)); clear hB7))
        go_ret
        exact ⟨rfl, HB7.out⟩
      case pos =>
      subst he
      obtain ⟨y, hy, hyx, hyp⟩ := HPD.out rfl
      have HY := hide hy
      have HYX := hide hyx
      have HYP := hide hyp
      have HYM : Hid (∀ k, y.w k = 0 ∧ y.h k ≠ 1) := hide (HI1.out.m.prep y hy hyp)
      have HYB : Hid (∀ k, y.h k ≤ 2) := hide (HI1.out.b.oks y hy).2.2.1
      clear hy hyx hyp HPD
      go_wp2_with (refine wp_store_box rfl rfl _ _ rfl w5.heap.size rfl (cs' := #[.slice none 0 0, .slice ag ng cg]) rfl HZ5.out rfl infoOut15 (by simp [Value.oneCell']) ?_; intro w6 hb6 hk6; have hB56 : Below w5.heap.size w5 w6 := HZB5.out.trans (hk6.below HZB5.out.size (fun k e => by omega)); have HN6 := hide (HN5.out.below H hB56); have HPX6 := hide (HPX5.out.belowI hB56); clear hb6 hk6 hB56)
      clear HZ5 HZB5 HN5 HPX5
      refine (CK0.out _ HN6.out.b).mono ?_
      rintro e w7 ⟨⟨k0, K0, rfl, hr0, hl0, hB7⟩⟩
      have HR0 := hide hr0
      have HN6o := HN6
      have HPX6o := HPX6
      replace HN6 := hide (HN6.out.below H hB7)
      replace HPX6 := hide (HPX6.out.belowI hB7)
      have HFL : Hid (∀ g, F2 g → g < w6.heap.size) := hide (fun g hg => H.lt HN6o.out.d g hg)
      have HPXL : Hid (px < w6.heap.size) := hide HPX6o.out.lt
      have HW67 : Hid (w6.heap.size ≤ w7.heap.size) := hide hB7.size
      obtain ⟨a0, c0, hk0, _⟩ := owns_shapeR hr0
      subst hk0
      clear hr0 hB7
      go_wp2_with fail
      refine (CK1.out _ HN6.out.b).mono ?_
      rintro e w8 ⟨⟨k1, K1, rfl, hr1, hl1, hB8⟩⟩
      have HR0b := hide (krow_below HR0.out hB8)
      have HR1 := hide (RSrc.of_own hr1)
      replace HN6 := hide (HN6.out.below H hB8)
      replace HPX6 := hide (HPX6.out.belowI hB8)
      have HA0 : Hid (KeyRow w8 w6.heap.size (.slice a0 K0.length c0) K0) := HR0b
      obtain ⟨b1, c1, hk1, _⟩ := owns_shapeR hr1
      subst hk1
      have HOL : Hid (∀ g, (Value.slice a0 K0.length c0).ownBlock = some g → ¬ F2 g ∧ g ≠ px) := hide (fun g hg => by
        have h1 := (HR0.out.lt g hg).1
        have h2 := HPXL.out
        exact ⟨fun e => by have := HFL.out g e; omega, by omega⟩)
      obtain ⟨KK, hKK⟩ : ∃ KK, KK = K0 ++ K1 := ⟨_, rfl⟩
      obtain ⟨LK, hLK⟩ : ∃ LK, LK = KK.length := ⟨_, rfl⟩
      have hLKm : LK ≤ 3720 := by rw [hLK, hKK, List.length_append]; omega
      have HKK := hide hKK
      have HLK := hide hLK
      have hl2 : K0.length + K1.length ≤ 1000000 := by omega
      have HBS : Hid (w6.heap.size ≤ w8.heap.size) := hide (Nat.le_trans HW67.out hB8.size)
      clear hr1 hB8 hKK hLK
      go_wp2_with (at_builtin; refine wp_recs recKey15 _ rfl _ _ rfl w6.heap.size (.slice a0 K0.length c0) (.slice b1 K1.length c1) K0 K1 rfl HA0.out rfl HR1.out (fun z _ => key_one15 z) hl2 HBS.out ?_; intro v9 w9 ho9 hg9 _; obtain ⟨a9, c9, e9, _⟩ := owns_shapeR ho9; rw [← HKK.out, ← HLK.out] at e9; subst e9; rw [← HKK.out] at ho9; have HO9 := hide ho9; have HG9 := hide hg9; clear ho9 hg9)
      have HN6b : Hid (w.heap.size ≤ w6.heap.size) := hide HN6o.out.b.size
      have HNXf := HNX5
      have hkk := kept15 HG9.out
      have HN9 : Hid (Since15 D w q F2 C l1 w9) := hide (HN6.out.keep H hkk (fun g e1 e2 => (HOL.out g e2).1 e1) (fun g e => Nat.le_trans HN6b.out ((HR0.out.lt g e).1)))
      have HPX9 := hide (HPX6.out.keep hkk (fun e => (HOL.out px e).2 rfl))
      have HSK := hide (RSrc.of_own HO9.out)
      have HFL9 : Hid (∀ g, F2 g → g < w9.heap.size) := hide (fun g hg => H.lt HN9.out.d g hg)
      have HGX : Hid (getU l1 x = y) := hide (by rw [← HYX.out]; exact getU_of HI1.out.b HY.out)
      have HH0 : Hid (∀ k ∈ ([] : List KeyT), y.h k = 2) := hide (fun _ h => by cases h)
      have HO0 : Hid (KeyRow w9 w9.heap.size (.slice none 0 0) []) := hide ⟨rfl, .inl ⟨rfl, rfl⟩⟩
      clear hkk HN6 HPX6 HG9 HA0 HR0b HR0 HR1 HOL HFL HPXL HN6o HPX6o HW67 HKK hl2 hl0 hl1 HBS HN6b CK0 CK1 HNX5 HO9
      go_loopg [13, 67] LK (fun g s13 i wr => ∃ (j : Nat) (hs : List KeyT) (ax : Option Addr) (cx : Nat), j + g = LK ∧ i = .int .i64 j ∧ s13 = .slice ax hs.length cx ∧ hs.length ≤ j ∧ Hid (∀ k ∈ hs, y.h k = 2) ∧ Hid (KeyRow wr w9.heap.size (.slice ax hs.length cx) hs) ∧ Hid (Below w9.heap.size w9 wr))
      case atStart => exact ⟨0, [], none, 0, by omega, rfl, rfl, Nat.le_refl _, HH0, HO0, hide (Below.refl _ _)⟩
      case round =>
        clear HH0 HO0
        obtain ⟨j, hs, ax, cx, hj, rfl, rfl, hhs, HH, HO, HB⟩ := hrel
        have HPXc := hide (HPX9.out.belowI HB.out)
        cases gk with
        | succ g =>
          have hz2 : (j : Int) < (LK : Int) := by omega
          have hjn : j < KK.length := by rw [← HLK.out]; omega
          obtain ⟨en, b, off, rfl, hb, hcl⟩ := (HSK.out.below HB.out).at (K := 8) (fun _ => rfl) hjn
          have HRg : Hid (wr.rangeAt b (off + j * 8) (kyCs KK[j])) := hide (fun j v hv => hcl j v hv)
          generalize KK[j] = kk at *
          clear hcl en hb
          have HZ := hide (box_new wr #[.int .u8 0, .int .u8 0, .int .u8 0, .int .u8 0, .int .u8 0, .int .u8 0, .int .u8 0, .int .u8 0] 34)
          have HZB : Hid (Below wr.heap.size wr (wr.alloc (.cells #[.int .u8 0, .int .u8 0, .int .u8 0, .int .u8 0, .int .u8 0, .int .u8 0, .int .u8 0, .int .u8 0] 34))) := hide (alloc_below14 wr _)
          replace HPXc := hide (HPXc.out.belowI (alloc_below14 wr (.cells #[.int .u8 0, .int .u8 0, .int .u8 0, .int .u8 0, .int .u8 0, .int .u8 0, .int .u8 0, .int .u8 0] 34)))
          have hpl := HPX9.out.lt
          have hwl := HB.out.size
          go_wp2_with (first | (refine wpList_load_mid rfl 34 _ rfl b (off + j * 8) rfl (kyCs kk) _ HRg.out Try.underlying34 rfl infoKey15 ?_) | (refine wp_store_box rfl rfl _ _ rfl wr.heap.size rfl (cs' := eightA kk.1) rfl HZ.out rfl infoKey15 (by simp [Value.oneCell']) ?_; intro w10 hb3 hk3; have HX8 := hide hb3; have HB8 : Hid (Below wr.heap.size wr w10) := hide (HZB.out.trans (hk3.below HZB.out.size (fun k hk => by omega))); replace HPXc := hide (HPXc.out.keep hk3 (fun e => by omega)); clear hb3 hk3) | (refine wp_load_box rfl _ rfl px rfl HPXc.out Try.underlying30 rfl infoTx15 ?_) | (refine wp_load_box rfl _ rfl wr.heap.size rfl HX8.out Try.underlying34 rfl infoKey15 ?_))
          have HB10 := hide (HB.out.trans (HB8.out.mono HB.out.size))
          have CM := hide (H.mode x kk (HN9.out.below H (HB10.out)).d HXB.out)
          rw [HGX.out] at CM
          obtain ⟨m, hm⟩ : ∃ m, m = y.h kk := ⟨_, rfl⟩
          rw [← hm] at CM
          have hm1 : m ≠ 1 := by rw [hm]; exact (HYM.out kk).2
          have hm2 : m ≤ 2 := by rw [hm]; exact HYB.out kk
          have HM := hide hm
          clear hm
          refine CM.out.mono ?_
          rintro e w11 ⟨rfl, hB11⟩
          have HB11 := hide (HB10.out.trans (hB11.mono HB10.out.size))
          have HX11 := hide (HX8.out.belowI hB11)
          have HO11 := hide (krow_below (krow_below HO.out HB8.out) hB11)
          clear hB11 CM HZ HZB HRg HB8 HX8
          match m, hm1, hm2, HM with
          | 0, _, _, _ =>
            go_wp2_with fail
            go_roundg g
            case measure => omega
            case rel => exact ⟨j + 1, hs, ax, cx, by omega, by first | rfl | go_num, rfl, by omega, HH, HO11, HB11⟩
          | 1, h1, _, _ => exact absurd rfl h1
          | 2, _, _, HM =>
            have HSRC := hide (src_new (enc := kyCs) w11 kk (eightA kk.1) rfl 34)
            have HAL := hide (alloc_below14 w11 (.cells (eightA kk.1) 34))
            have hlen : hs.length + [kk].length ≤ 1000000 := by rw [List.length_singleton]; omega
            go_wp2_with (first | (refine wp_load_box rfl _ rfl wr.heap.size rfl HX11.out Try.underlying34 rfl infoKey15 ?_) | (at_builtin; refine wp_recs recKey15 _ rfl _ _ rfl w9.heap.size (.slice ax hs.length cx) (.slice (some ⟨w11.heap.size, 0, none⟩) 1 1) hs [kk] rfl (krow_below HO11.out HAL.out) rfl HSRC.out (fun z _ => key_one15 z) hlen (Nat.le_trans HB11.out.size HAL.out.size) ?_; intro v12 w12 ho12 hg12 _; obtain ⟨a12, c12, e12, _⟩ := owns_shapeR ho12; rw [List.length_append, List.length_singleton] at e12; subst e12; have HO12 := hide ho12; have HB12 : Hid (Below w9.heap.size w9 w12) := hide ((HB11.out.trans (HAL.out.mono HB11.out.size)).grown hg12 (Nat.le_trans HB11.out.size HAL.out.size) (fun j hj => ((krow_below HO11.out HAL.out).lt j hj).1)); clear ho12 hg12))
            have HE : Hid ((hs ++ [kk]).length = hs.length + 1) := hide (by rw [List.length_append]; rfl)
            have HH2 : Hid (∀ k ∈ hs ++ [kk], y.h k = 2) := hide (fun k hk => by
              rcases List.mem_append.1 hk with h | h
              · exact HH.out k h
              · rw [List.mem_singleton.1 h]; exact HM.out.symm)
            have HO13 : Hid (KeyRow w12 w9.heap.size (.slice a12 (hs ++ [kk]).length c12) (hs ++ [kk])) := hide (by rw [HE.out]; exact HO12.out)
            go_roundg g
            case measure => omega
            case rel => exact ⟨j + 1, hs ++ [kk], a12, c12, by omega, by first | rfl | go_num, by rw [HE.out], by rw [HE.out]; omega, HH2, HO13, HB12⟩
        | zero =>
          obtain rfl : j = LK := by omega
          have hz2 : ¬ ((j : Int) < (j : Int)) := by omega
          have HNf := hide (HN9.out.below H (HB.out))
          have HOF : Hid (∀ g, (Value.slice ax hs.length cx).ownBlock = some g → ¬ F2 g) := hide (fun g hg e => by
            have h1 := (HO.out.lt g hg).1
            have h2 := HFL9.out g e
            omega)
          have HFX : Hid (¬ F2 px) := HNXf
          obtain ⟨LH, hLH⟩ : ∃ LH, LH = hs.length := ⟨_, rfl⟩
          have HLH := hide hLH
          rw [← hLH] at HO HOF
          rw [← hLH]
          obtain ⟨b9, hb9⟩ : ∃ b9, b9 = w9.heap.size := ⟨_, rfl⟩
          rw [← hb9] at HO
          clear hLH hj hb9 HSK HFL9 HGX HB HN9 HPX9
          go_wp2_with (go_at_call 9; refine (CSH1.out _).mono ?_; rintro e Y1 ⟨v9, rfl, rfl, hT⟩; obtain ⟨ta, tc, e1, _, _⟩ := hT.shape; rw [← Hts1.out] at e1; subst e1; have HT := hide hT; clear hT)
          go_loopg [87] LN1 (fun g i wr => ∃ (k C : Nat) (F : Nat → Prop) (l : List (UsP KeyT)), k + g = LN1 ∧ i = .int .i64 k ∧ C ≤ 90 + k ∧ Hid (LkI l) ∧ Hid (y ∈ l) ∧ Hid (Since15 D w q F C l wr) ∧ Hid (Box wr px #[.int .u8 (x.1 : Int), .int .u32 (x.2.1 : Int), .int .u32 (x.2.2 : Int)] 30) ∧ Hid (¬ F px) ∧ Hid (KeyRow wr b9 (.slice ax LH cx) hs) ∧ Hid (∀ g, (Value.slice ax LH cx).ownBlock = some g → ¬ F g))
          case atStart => exact ⟨0, C, F2, l1, by omega, rfl, by omega, HI1, HY, HNf, HPXc, HFX, HO, HOF⟩
          case round =>
            clear HI1 HY HNf HPXc HFX HO HOF hC9
            obtain ⟨k, C, F, l, hk, rfl, hC, HI, HY, HN, HPX, HNX, HO, HOF⟩ := hrel
            cases gk with
            | succ g =>
              have hz3 : (k : Int) < (LN1 : Int) := by omega
              have hkn : k < ts1.length := by rw [← Hts1.out]; omega
              obtain ⟨en, b, off, rfl, hb, hcl⟩ := (HT.out.below HN.out.b).at recLA.len hkn
              have HRg : Hid (wr.rangeAt b (off + k * 15) (lactE ts1[k])) := hide (fun j v hv => hcl j v hv)
              have HOA := hide (lvok_below (HTO1.out _ (List.getElem_mem hkn)) HN.out.b)
              have HKA := hide (HTK1.out _ (List.getElem_mem hkn))
              generalize ts1[k] = ax at *
              obtain ⟨a, u⟩ := ax
              obtain ⟨ro, rc, e1, hrc, _⟩ := HOA.out.src.shape
              dsimp only at e1
              subst e1
              clear hcl en hb hrc
              obtain ⟨p5, hp5⟩ : ∃ p5, p5 = wr.heap.size := ⟨_, rfl⟩
              have HZ := hide (box_new wr (lactA zeroLV.a zeroLV.p) 37)
              have HZB : Hid (Below wr.heap.size wr (wr.alloc (.cells (lactA zeroLV.a zeroLV.p) 37))) := hide (alloc_below14 wr _)
              have HPXc := hide (HPX.out.belowI (alloc_below14 wr (.cells (lactA zeroLV.a zeroLV.p) 37)))
              have hpl := HPX.out.lt
              have hrem : (a.kd : Int).tmod 5 = ((a.kd % 5 : Nat) : Int) := by
                rw [Int.tmod_eq_emod_of_nonneg (by omega)]; omega
              obtain ⟨r, hr⟩ : ∃ r, r = a.kd % 5 := ⟨_, rfl⟩
              rw [← hr] at hrem
              have HRR := hide hr
              have hr5 : r < 5 := by omega
              have heq := eqlT15 a.t x
              clear hr
              by_cases h3 : r = 3
              · have hz5 : (r : Int) = 3 := by omega
                subst h3
                clear hr5
                by_cases hax : a.t = x
                · rw [decide_eq_true hax] at heq
                  have hax2 : Hid (a.t = x) := hide hax
                  clear hax
                  go_wp2_with (first | (refine wpList_load_mid rfl 37 _ rfl b (off + k * 15) rfl (lactE ⟨a, .slice ro a.ks.length rc⟩) _ HRg.out Try.underlying37 rfl infoLA ?_) | (refine wp_store_box rfl rfl _ _ rfl wr.heap.size rfl (cs' := lactA a (.slice ro a.ks.length rc)) rfl HZ.out rfl infoLA (by simp [Value.oneCell']) ?_; intro w5 hb3 hk3; have HX5 := hide hb3; have HB5 : Hid (Below wr.heap.size wr w5) := hide (HZB.out.trans (hk3.below HZB.out.size (fun k hk => by omega))); replace HPXc := hide (HPXc.out.keep hk3 (fun e => by omega)); obtain ⟨c0, c2, c3, c4⟩ := act_four hb3; obtain ⟨x0, x1, x2⟩ := HPXc.out.three; clear hb3 hk3) | (refine wp_load_box rfl _ rfl wr.heap.size rfl HX5.out Try.underlying37 rfl infoLA ?_) | (refine wp_load_box rfl _ rfl px rfl HPXc.out Try.underlying30 rfl infoTx15 ?_))
                  have HO5 := hide (krow_below HO.out HB5.out)
                  go_roundg g
                  case measure => omega
                  case rel => exact ⟨k + 1, C, F, l, by omega, by first | rfl | go_num, by omega, HI, HY, hide (HN.out.below H HB5.out), HPXc, HNX, HO5, HOF⟩
                · rw [decide_eq_false hax] at heq
                  have HNO : Hid (a.kd % 5 = 3 → a.t ≠ y.tx) := hide (fun _ e => hax (e.trans HYX.out))
                  clear hax
                  go_wp2_with (first | (refine wpList_load_mid rfl 37 _ rfl b (off + k * 15) rfl (lactE ⟨a, .slice ro a.ks.length rc⟩) _ HRg.out Try.underlying37 rfl infoLA ?_) | (refine wp_store_box rfl rfl _ _ rfl wr.heap.size rfl (cs' := lactA a (.slice ro a.ks.length rc)) rfl HZ.out rfl infoLA (by simp [Value.oneCell']) ?_; intro w5 hb3 hk3; have HX5 := hide hb3; have HB5 : Hid (Below wr.heap.size wr w5) := hide (HZB.out.trans (hk3.below HZB.out.size (fun k hk => by omega))); replace HPXc := hide (HPXc.out.keep hk3 (fun e => by omega)); obtain ⟨c0, c2, c3, c4⟩ := act_four hb3; obtain ⟨x0, x1, x2⟩ := HPXc.out.three; clear hb3 hk3) | (refine wp_load_box rfl _ rfl wr.heap.size rfl HX5.out Try.underlying37 rfl infoLA ?_) | (refine wp_load_box rfl _ rfl px rfl HPXc.out Try.underlying30 rfl infoTx15 ?_))
                  have HN5 := hide (HN.out.below H HB5.out)
                  have HNF : Hid (¬ F p5) := hide (fun hf => by have := H.lt HN.out.d _ hf; omega)
                  rw [← hp5] at HX5 ⊢
                  refine (does_any15 H a (.slice ro a.ks.length rc) HN5.out.d (by omega) (lvok_below HOA.out HB5.out) HKA.out).mono ?_
                  rintro e w6 ⟨⟨vw, vg, er, wn, gr, l2, C2, rfl, hR, hC2, hd, how, hog⟩⟩
                  have HI2 : Hid (LkI l2) := hide (does_ok HI.out HOA.out.tx HOA.out.tm hR)
                  obtain ⟨F2, hs6, hk6, hf6⟩ := HN5.out.did hd
                  have HN6 := hide hs6
                  have HY2 := hide (does_prep HI.out HOA.out.tx HOA.out.tm hR HY.out HYP.out HNO.out)
                  have HSW := hide (src_tx15 how)
                  obtain ⟨aw, cw, e7, hcw, hmw⟩ := (src_tx15 how).shape
                  subst e7
                  obtain ⟨ag, cg, e8, _⟩ := owns_shapeR hog
                  subst e8
                  unfold maxLen at hmw
                  obtain ⟨LW, hLW⟩ : ∃ LW, LW = wn.length := ⟨_, rfl⟩
                  obtain ⟨ng, hng⟩ : ∃ n, n = gr.length := ⟨_, rfl⟩
                  rw [← hLW] at HSW hcw
                  rw [← hLW, ← hng]
                  have hLWm : LW ≤ 9223372036854775807 := by omega
                  have HLW := hide hLW
                  have HPX6 := hide ((HPX.out.belowI HB5.out).keep hk6 HNX.out)
                  have HNX6 : Hid (¬ F2 px) := hide (fun e => (hf6 px e).elim HNX.out (fun e2 => by have := HPX.out.lt; have := HB5.out.size; omega))
                  have HO6 := hide (owns_keep (krow_below HO.out HB5.out) hk6 HOF.out)
                  have HOF6 : Hid (∀ g, (Value.slice ax LH cx).ownBlock = some g → ¬ F2 g) := hide (fun g hg e => (hf6 g e).elim (HOF.out g hg) (fun e2 => by have := ((krow_below HO.out HB5.out).lt g hg).2; omega))
                  have hC3 : C2 ≤ 90 + (k + 1) := by omega
                  have HZ6 := hide (box_new w6 zO 41)
                  have HZB6 := hide (alloc_below14 w6 (.cells zO 41))
                  clear hR hd hs6 hk6 hf6 hC2 how hog hLW hng hcw hmw HZ HZB HRg HB5 HX5 HN5 HI HN HNF hp5 HPX HNX HO HOF HPXc HY hrem heq hpl
                  go_wp2_with (refine wp_store_box rfl rfl _ _ rfl w6.heap.size rfl (cs' := #[.slice aw LW cw, .slice ag ng cg]) rfl HZ6.out rfl infoOut15 (by simp [Value.oneCell']) ?_; intro w7 hb7 hk7; have hB67 : Below w6.heap.size w6 w7 := HZB6.out.trans (hk7.below HZB6.out.size (fun k e => by omega)); have HN7 := hide (HN6.out.below H hB67); have HPX7 := hide (HPX6.out.belowI hB67); have HO7 := hide (krow_below HO6.out hB67); have HSW7 := hide (HSW.out.below hB67); have y0 := hb7.cell 0 (.slice aw LW cw) rfl; clear hb7 hk7 hB67)
                  clear y0 HZ6 HZB6 HN6 HPX6 HO6 HSW
                  go_loopg [111] LW (fun g i wr => ∃ (j : Nat), j + g = LW ∧ i = .int .i64 j ∧ Hid (Below w7.heap.size w7 wr))
                  case atStart => exact ⟨0, by omega, rfl, hide (Below.refl _ _)⟩
                  case round =>
                    obtain ⟨j, hj, rfl, HB⟩ := hrel
                    have HPXc := hide (HPX7.out.belowI HB.out)
                    cases gk with
                    | zero =>
                      obtain rfl : j = LW := by omega
                      have hz4 : ¬ ((j : Int) < (j : Int)) := by omega
                      go_wp2_with fail
                      go_roundg g
                      case measure => omega
                      case rel => exact ⟨k + 1, C2, F2, l2, by omega, by first | rfl | go_num, hC3, HI2, hide HY2.out.1, hide (HN7.out.below H HB.out), HPXc, HNX6, hide (krow_below HO7.out HB.out), HOF6⟩
                    | succ g2 =>
                      have hz4 : (j : Int) < (LW : Int) := by omega
                      have hjn : j < wn.length := by rw [← HLW.out]; omega
                      obtain ⟨en, b, off, rfl, hb, hcl⟩ := (HSW7.out.below HB.out).at (K := 3) (fun _ => rfl) hjn
                      have HRg : Hid (wr.rangeAt b (off + j * 3) (txCs (txI wn[j]))) := hide (fun j v hv => hcl j v hv)
                      have hne : wn[j] ≠ x := fun e => HY2.out.2 (by rw [HYX.out, ← e]; exact List.getElem_mem hjn)
                      generalize wn[j] = z at *
                      have heq := eqlT15 z x
                      rw [decide_eq_false hne] at heq
                      clear hcl en hb hne
                      have HZ := hide (box_new wr #[.int .u8 0, .int .u32 0, .int .u32 0] 30)
                      have HZB : Hid (Below wr.heap.size wr (wr.alloc (.cells #[.int .u8 0, .int .u32 0, .int .u32 0] 30))) := hide (alloc_below14 wr _)
                      replace HPXc := hide (HPXc.out.belowI (alloc_below14 wr (.cells #[.int .u8 0, .int .u32 0, .int .u32 0] 30)))
                      have hpl := HPX7.out.lt
                      have hwl := HB.out.size
                      go_wp2_with (first | (refine wpList_load_mid rfl 30 _ rfl b (off + j * 3) rfl (txCs (txI z)) _ HRg.out Try.underlying30 rfl infoTx15 ?_) | (refine wp_store_box rfl rfl _ _ rfl wr.heap.size rfl (cs' := #[.int .u8 (z.1 : Int), .int .u32 (z.2.1 : Int), .int .u32 (z.2.2 : Int)]) rfl HZ.out rfl infoTx15 (by simp [Value.oneCell']) ?_; intro w10 hb3 hk3; have HX8 := hide hb3; have HB8 : Hid (Below wr.heap.size wr w10) := hide (HZB.out.trans (hk3.below HZB.out.size (fun k hk => by omega))); replace HPXc := hide (HPXc.out.keep hk3 (fun e => by omega)); clear hb3 hk3) | (refine wp_load_box rfl _ rfl px rfl HPXc.out Try.underlying30 rfl infoTx15 ?_) | (refine wp_load_box rfl _ rfl wr.heap.size rfl HX8.out Try.underlying30 rfl infoTx15 ?_))
                      go_roundg g2
                      case measure => omega
                      case rel => exact ⟨j + 1, by omega, by first | rfl | go_num, hide (HB.out.trans (HB8.out.mono HB.out.size))⟩
              · have hz5 : ¬ (r : Int) = 3 := by omega
                have HNO : Hid (a.kd % 5 = 3 → a.t ≠ y.tx) := hide (fun e => absurd (HRR.out.trans e) h3)
                go_wp2_with (first | (refine wpList_load_mid rfl 37 _ rfl b (off + k * 15) rfl (lactE ⟨a, .slice ro a.ks.length rc⟩) _ HRg.out Try.underlying37 rfl infoLA ?_) | (refine wp_store_box rfl rfl _ _ rfl wr.heap.size rfl (cs' := lactA a (.slice ro a.ks.length rc)) rfl HZ.out rfl infoLA (by simp [Value.oneCell']) ?_; intro w5 hb3 hk3; have HX5 := hide hb3; have HB5 : Hid (Below wr.heap.size wr w5) := hide (HZB.out.trans (hk3.below HZB.out.size (fun k hk => by omega))); replace HPXc := hide (HPXc.out.keep hk3 (fun e => by omega)); obtain ⟨c0, c2, c3, c4⟩ := act_four hb3; obtain ⟨x0, x1, x2⟩ := HPXc.out.three; clear hb3 hk3) | (refine wp_load_box rfl _ rfl wr.heap.size rfl HX5.out Try.underlying37 rfl infoLA ?_) | (refine wp_load_box rfl _ rfl px rfl HPXc.out Try.underlying30 rfl infoTx15 ?_))
                have HN5 := hide (HN.out.below H HB5.out)
                have HNF : Hid (¬ F p5) := hide (fun hf => by have := H.lt HN.out.d _ hf; omega)
                rw [← hp5] at HX5 ⊢
                refine (does_any15 H a (.slice ro a.ks.length rc) HN5.out.d (by omega) (lvok_below HOA.out HB5.out) HKA.out).mono ?_
                rintro e w6 ⟨⟨vw, vg, er, wn, gr, l2, C2, rfl, hR, hC2, hd, how, hog⟩⟩
                have HI2 : Hid (LkI l2) := hide (does_ok HI.out HOA.out.tx HOA.out.tm hR)
                obtain ⟨F2, hs6, hk6, hf6⟩ := HN5.out.did hd
                have HN6 := hide hs6
                have HY2 := hide (does_prep HI.out HOA.out.tx HOA.out.tm hR HY.out HYP.out HNO.out)
                have HSW := hide (src_tx15 how)
                obtain ⟨aw, cw, e7, hcw, hmw⟩ := (src_tx15 how).shape
                subst e7
                obtain ⟨ag, cg, e8, _⟩ := owns_shapeR hog
                subst e8
                unfold maxLen at hmw
                obtain ⟨LW, hLW⟩ : ∃ LW, LW = wn.length := ⟨_, rfl⟩
                obtain ⟨ng, hng⟩ : ∃ n, n = gr.length := ⟨_, rfl⟩
                rw [← hLW] at HSW hcw
                rw [← hLW, ← hng]
                have hLWm : LW ≤ 9223372036854775807 := by omega
                have HLW := hide hLW
                have HPX6 := hide ((HPX.out.belowI HB5.out).keep hk6 HNX.out)
                have HNX6 : Hid (¬ F2 px) := hide (fun e => (hf6 px e).elim HNX.out (fun e2 => by have := HPX.out.lt; have := HB5.out.size; omega))
                have HO6 := hide (owns_keep (krow_below HO.out HB5.out) hk6 HOF.out)
                have HOF6 : Hid (∀ g, (Value.slice ax LH cx).ownBlock = some g → ¬ F2 g) := hide (fun g hg e => (hf6 g e).elim (HOF.out g hg) (fun e2 => by have := ((krow_below HO.out HB5.out).lt g hg).2; omega))
                have hC3 : C2 ≤ 90 + (k + 1) := by omega
                have HZ6 := hide (box_new w6 zO 41)
                have HZB6 := hide (alloc_below14 w6 (.cells zO 41))
                clear hR hd hs6 hk6 hf6 hC2 how hog hLW hng hcw hmw HZ HZB HRg HB5 HX5 HN5 HI HN HNF hp5 HPX HNX HO HOF HPXc HY hrem heq hpl
                go_wp2_with (refine wp_store_box rfl rfl _ _ rfl w6.heap.size rfl (cs' := #[.slice aw LW cw, .slice ag ng cg]) rfl HZ6.out rfl infoOut15 (by simp [Value.oneCell']) ?_; intro w7 hb7 hk7; have hB67 : Below w6.heap.size w6 w7 := HZB6.out.trans (hk7.below HZB6.out.size (fun k e => by omega)); have HN7 := hide (HN6.out.below H hB67); have HPX7 := hide (HPX6.out.belowI hB67); have HO7 := hide (krow_below HO6.out hB67); have HSW7 := hide (HSW.out.below hB67); have y0 := hb7.cell 0 (.slice aw LW cw) rfl; clear hb7 hk7 hB67)
                clear y0 HZ6 HZB6 HN6 HPX6 HO6 HSW
                go_loopg [111] LW (fun g i wr => ∃ (j : Nat), j + g = LW ∧ i = .int .i64 j ∧ Hid (Below w7.heap.size w7 wr))
                case atStart => exact ⟨0, by omega, rfl, hide (Below.refl _ _)⟩
                case round =>
                  obtain ⟨j, hj, rfl, HB⟩ := hrel
                  have HPXc := hide (HPX7.out.belowI HB.out)
                  cases gk with
                  | zero =>
                    obtain rfl : j = LW := by omega
                    have hz4 : ¬ ((j : Int) < (j : Int)) := by omega
                    go_wp2_with fail
                    go_roundg g
                    case measure => omega
                    case rel => exact ⟨k + 1, C2, F2, l2, by omega, by first | rfl | go_num, hC3, HI2, hide HY2.out.1, hide (HN7.out.below H HB.out), HPXc, HNX6, hide (krow_below HO7.out HB.out), HOF6⟩
                  | succ g2 =>
                    have hz4 : (j : Int) < (LW : Int) := by omega
                    have hjn : j < wn.length := by rw [← HLW.out]; omega
                    obtain ⟨en, b, off, rfl, hb, hcl⟩ := (HSW7.out.below HB.out).at (K := 3) (fun _ => rfl) hjn
                    have HRg : Hid (wr.rangeAt b (off + j * 3) (txCs (txI wn[j]))) := hide (fun j v hv => hcl j v hv)
                    have hne : wn[j] ≠ x := fun e => HY2.out.2 (by rw [HYX.out, ← e]; exact List.getElem_mem hjn)
                    generalize wn[j] = z at *
                    have heq := eqlT15 z x
                    rw [decide_eq_false hne] at heq
                    clear hcl en hb hne
                    have HZ := hide (box_new wr #[.int .u8 0, .int .u32 0, .int .u32 0] 30)
                    have HZB : Hid (Below wr.heap.size wr (wr.alloc (.cells #[.int .u8 0, .int .u32 0, .int .u32 0] 30))) := hide (alloc_below14 wr _)
                    replace HPXc := hide (HPXc.out.belowI (alloc_below14 wr (.cells #[.int .u8 0, .int .u32 0, .int .u32 0] 30)))
                    have hpl := HPX7.out.lt
                    have hwl := HB.out.size
                    go_wp2_with (first | (refine wpList_load_mid rfl 30 _ rfl b (off + j * 3) rfl (txCs (txI z)) _ HRg.out Try.underlying30 rfl infoTx15 ?_) | (refine wp_store_box rfl rfl _ _ rfl wr.heap.size rfl (cs' := #[.int .u8 (z.1 : Int), .int .u32 (z.2.1 : Int), .int .u32 (z.2.2 : Int)]) rfl HZ.out rfl infoTx15 (by simp [Value.oneCell']) ?_; intro w10 hb3 hk3; have HX8 := hide hb3; have HB8 : Hid (Below wr.heap.size wr w10) := hide (HZB.out.trans (hk3.below HZB.out.size (fun k hk => by omega))); replace HPXc := hide (HPXc.out.keep hk3 (fun e => by omega)); clear hb3 hk3) | (refine wp_load_box rfl _ rfl px rfl HPXc.out Try.underlying30 rfl infoTx15 ?_) | (refine wp_load_box rfl _ rfl wr.heap.size rfl HX8.out Try.underlying30 rfl infoTx15 ?_))
                    go_roundg g2
                    case measure => omega
                    case rel => exact ⟨j + 1, by omega, by first | rfl | go_num, hide (HB.out.trans (HB8.out.mono HB.out.size))⟩
            | zero =>
              obtain rfl : k = LN1 := by omega
              have hz3 : ¬ ((k : Int) < (k : Int)) := by omega
              obtain ⟨w14, hw14⟩ : ∃ w14, w14 = wr := ⟨_, rfl⟩
              subst hw14
              have HSH := hide (RSrc.of_own HO.out)
              have HGX : Hid (getU l x = y) := hide (by rw [← HYX.out]; exact getU_of HI.out.b HY.out)
              go_wp2_with fail
              go_loopg [122] LH (fun g i wr => ∃ (j : Nat), j + g = LH ∧ i = .int .i64 j ∧ Hid (Below w14.heap.size w14 wr))
              case atStart => exact ⟨0, by omega, rfl, hide (Below.refl _ _)⟩
              case round =>
                obtain ⟨j, hj, rfl, HB⟩ := hrel
                have HNw := hide (HN.out.below H HB.out)
                have HPXc := hide (HPX.out.belowI HB.out)
                cases gk with
                | succ g2 =>
                  have hz4 : (j : Int) < (LH : Int) := by omega
                  have hjn : j < hs.length := by rw [← HLH.out]; omega
                  obtain ⟨en, b, off, rfl, hb, hcl⟩ := (HSH.out.below HB.out).at (K := 8) (fun _ => rfl) hjn
                  have HRg : Hid (wr.rangeAt b (off + j * 8) (kyCs hs[j])) := hide (fun j v hv => hcl j v hv)
                  have hh2 := HH.out _ (List.getElem_mem hjn)
                  generalize hs[j] = kk at *
                  clear hcl en hb
                  have HZ := hide (box_new wr #[.int .u8 0, .int .u8 0, .int .u8 0, .int .u8 0, .int .u8 0, .int .u8 0, .int .u8 0, .int .u8 0] 34)
                  have HZB : Hid (Below wr.heap.size wr (wr.alloc (.cells #[.int .u8 0, .int .u8 0, .int .u8 0, .int .u8 0, .int .u8 0, .int .u8 0, .int .u8 0, .int .u8 0] 34))) := hide (alloc_below14 wr _)
                  replace HPXc := hide (HPXc.out.belowI (alloc_below14 wr (.cells #[.int .u8 0, .int .u8 0, .int .u8 0, .int .u8 0, .int .u8 0, .int .u8 0, .int .u8 0, .int .u8 0] 34)))
                  have hpl := HPX.out.lt
                  have hwl := HB.out.size
                  go_wp2_with (first | (refine wpList_load_mid rfl 34 _ rfl b (off + j * 8) rfl (kyCs kk) _ HRg.out Try.underlying34 rfl infoKey15 ?_) | (refine wp_store_box rfl rfl _ _ rfl wr.heap.size rfl (cs' := eightA kk.1) rfl HZ.out rfl infoKey15 (by simp [Value.oneCell']) ?_; intro w10 hb3 hk3; have HX8 := hide hb3; have HB8 : Hid (Below wr.heap.size wr w10) := hide (HZB.out.trans (hk3.below HZB.out.size (fun k hk => by omega))); replace HPXc := hide (HPXc.out.keep hk3 (fun e => by omega)); clear hb3 hk3) | (refine wp_load_box rfl _ rfl px rfl HPXc.out Try.underlying30 rfl infoTx15 ?_) | (refine wp_load_box rfl _ rfl wr.heap.size rfl HX8.out Try.underlying34 rfl infoKey15 ?_))
                  have CM := hide (H.mode x kk (HNw.out.below H HB8.out).d HXB.out)
                  rw [HGX.out, hh2] at CM
                  refine CM.out.mono ?_
                  rintro e w11 ⟨rfl, hB11⟩
                  have HB11 := hide ((HB.out.trans (HB8.out.mono HB.out.size)).trans (hB11.mono (HB.out.trans (HB8.out.mono HB.out.size)).size))
                  clear hB11 CM HZ HZB HRg HB8 HX8 hh2
                  go_wp2_with fail
                  go_roundg g2
                  case measure => omega
                  case rel => exact ⟨j + 1, by omega, by first | rfl | go_num, HB11⟩
                | zero =>
                  obtain rfl : j = LH := by omega
                  have hz4 : ¬ ((j : Int) < (j : Int)) := by omega
                  go_wp2_with (refine wp_load_box rfl _ rfl px rfl HPXc.out Try.underlying30 rfl infoTx15 ?_)
                  have CPr := hide (H.prepd x HNw.out.d HXB.out)
                  rw [HGX.out, HYP.out] at CPr
                  refine CPr.out.mono ?_
                  rintro e w11 ⟨rfl, hB11⟩
                  have HN11 := hide (HNw.out.below H hB11)
                  replace HPXc := hide (HPXc.out.belowI hB11)
                  clear hB11 CPr
                  obtain ⟨x0, x1, x2⟩ := HPXc.out.three
                  go_wp2_with fail
                  refine (H.waits x HN11.out.d HXB.out).mono ?_
                  rintro e w12 ⟨bw, rfl, hbw, hB12⟩
                  have hbf : bw = false := by
                    cases bw with
                    | false => rfl
                    | true =>
                      obtain ⟨k9, h9⟩ := hbw.1 rfl
                      rw [HGX.out] at h9
                      exact absurd (HYM.out k9).1 h9
                  subst hbf
                  have HB12 := hide (HN11.out.b.trans (hB12.mono HN11.out.b.size))
                  clear hB12 hbw
                  go_wp2_with (go_at_call 8; refine (CA.out _).mono ?_; rintro e w13 ⟨rfl, hB13⟩; have HB13 := hide (HB12.out.trans (hB13.mono HB12.out.size)); clear hB13)
                  go_ret
                  exact ⟨rfl, HB13.out⟩
end
section
open Go.RowKit Go.ChangeShapes Go.WideShapes Go.ChangeAt

namespace lockPrepared
set_option maxRecDepth 100000 in
theorem lifted (os : Os) (started : os.Started) (H : Type) (enc : TypeId × Value → H) :
    ReturnsInHanded {} Try.checked os 4 .any (Rows.lockPreparedSpec.pre6 enc Try.prog Try.f4 Rows.lockPreparedRow.domain false) (Rows.lockPreparedSpec.post enc Try.prog Try.f4 false true false false) := by
  refine returnsInHanded_of_change_sized (C := Try.checked) own started (by kernel_rfl) Try.func4
    (ChangeSpec.witness6 (enc := enc) (C := Try.checked) false ⟨#[], #[.slice none 0 0, .slice none 0 0, .agg #[.int .u8 0, .int .u32 0, .int .u32 0]], []⟩ 8 (by kernel_rfl) (by kernel_rfl) (by kernel_rfl) (by kernel_rfl)) ?_
  intro W base args ds gs before hval0 hW hcnd hsz _
  have hval : ∀ (j : Nat) t v, Try.f4.params[j]? = some t → args[j]? = some v → Value.okWide Try.prog W .any base t v := hval0
  have hW' := hW
  obtain ⟨p, q, hA0, hV, rfl, hfz, hnd⟩ := hW
  have hA : DataW.TrodAll enc Try.prog W 0 (fun _ => true) true Try.f4.params.toList args.toList ds p := hA0
  have hsz2 : ∀ (j : Nat) (t : TypeId) (d : DataW H), Try.f4.params.toList[j]? = some t → ds[j]? = some d → ∀ n ∈ d.weights Try.prog t, n ≤ 140737488351232 := fun j t d ht hd n hn => by
    have h1 := List.all_eq_true.1 hsz n (DataW.weights_mem_each (j := j) (t := t) (d := d) (by rw [List.getElem?_append_left (List.getElem?_eq_some_iff.1 ht).1]; exact ht) (by rw [List.getElem?_append_left (List.getElem?_eq_some_iff.1 hd).1]; exact hd) n hn)
    have h2 : n ≤ reachBytes := by simpa using h1
    have h3 : reachBytes = 140737488351232 := rfl
    omega
  rw [Try.params4] at hA hval hsz2
  obtain ⟨v0, vs0, d0, ds0, p0, q0, hargs, rfl, rfl, h0, r0⟩ := trodAll_cons hA
  obtain ⟨v1, vs1, d1, ds1, p1, q1, rfl, rfl, rfl, h1, r1⟩ := trodAll_cons r0
  obtain ⟨v2, vs2, d2, ds2, p2, q2, rfl, rfl, rfl, h2, r2⟩ := trodAll_cons r1
  obtain ⟨rfl, rfl, rfl⟩ := trodAll_nil r2
  obtain rfl : args = #[v0, v1, v2] := by cases args; simp_all
  obtain ⟨rfl, rfl⟩ := trodVars_none hV
  obtain ⟨a0, len0, cap0, rfl⟩ := okWide_slice Try.underlying22 (hval 0 22 v0 rfl rfl)
  have k0 := h0
  have lt0 : ∀ x ∈ p0, x.block < W.heap.size := by obtain ⟨m, hm⟩ := k0; exact DataW.trod_lt m _ _ _ hm
  obtain ⟨xs0, lies0, by0⟩ := lacts_of_trod h0
  obtain ⟨a1, len1, cap1, rfl⟩ := okWide_slice Try.underlying22 (hval 1 22 v1 rfl rfl)
  have k1 := h1
  have lt1 : ∀ x ∈ p1, x.block < W.heap.size := by obtain ⟨m, hm⟩ := k1; exact DataW.trod_lt m _ _ _ hm
  obtain ⟨xs1, lies1, by1⟩ := lacts_of_trod h1
  have k2 := h2
  have lt2 : ∀ x ∈ p2, x.block < W.heap.size := by obtain ⟨m, hm⟩ := k2; exact DataW.trod_lt m _ _ _ hm
  obtain ⟨tn2, rfl, ok2⟩ := tx_of_trod15 (hval 2 30 v2 rfl rfl) h2
  clear hA0 hval0
  refine (walkP15 (lk_do sortB64) _ _ xs0 xs1 tn2 W lies0 by0 lies1 by1 ok2).mono fun e W' ⟨he, bel⟩ => ?_
  subst he
  exact ⟨_, rfl, _, _, _, [], _, [], hW', trodAll_mk1 (shut_bool Try.underlying4 _), (trodAll_cons_mk (Below.trod laidOut (by kernel_rfl) (of_decide_eq_true (by kernel_rfl)) k0 bel lt0) (trodAll_cons_mk (Below.trod laidOut (by kernel_rfl) (of_decide_eq_true (by kernel_rfl)) k1 bel lt1) (trodAll_cons_mk (Below.trod laidOut (by kernel_rfl) (of_decide_eq_true (by kernel_rfl)) k2 bel lt2) trodAll_mk0))), rfl, bel.frame _, fun h => by cases h⟩

theorem over : Rows.lockPreparedRow.holds Try.pinned (OpenSpec.ofChange Rows.lockPreparedSpec) :=
  OpenClaim.holds_of_wide 4 Try.f4 rfl rfl rfl rfl rfl rfl rfl ⟨rfl, rfl, rfl, rfl, rfl⟩ rfl rfl rfl rfl rfl (by kernel_rfl) Try.func4 (by kernel_rfl)
    (of_decide_eq_true (by kernel_rfl)) (by unfold Func.isWrapper; first | (rw [if_pos (by decide +kernel)]; kernel_rfl) | (rw [if_neg (by decide +kernel)]; exact ⟨rfl, rfl⟩))
    (fun os started H enc _ => lifted os started H enc)
end lockPrepared

/-- THE STATEMENT. -/
theorem lockPrepared_holds : Rows.LockPreparedSaid := lockPrepared.over
#print axioms lockPrepared_holds
end
end Go.Proofs.Ytddflccjmigloaa
