/-
  The reference's clock: Set. Own work.
-/
import Derived.Test.YtgjdlclkibiffaaCkRef3
import Derived.Deep.RegionHeld
namespace Go.Proofs.Ytgjdlclkibiffaa
open Go.RowKit

theorem ins_at {l : List TmP} {t : TmP} {k : Nat} (h1 : ∀ j (hj : j < l.length), j < k → aheadB l[j] t = true) (h2 : ∀ h : k < l.length, aheadB l[k] t = false) (hk : k ≤ l.length) : insT t l = l.take k ++ [t] ++ l.drop k := by
  obtain ⟨e1, e2⟩ := take_all (f := fun x => aheadB x t) h1 h2 hk
  unfold insT
  rw [e1, e2]
  simp
attribute [local go_sem ↓] app_hideH
set_option maxRecDepth 100000 in
set_option maxHeartbeats 6400000 in
theorem rset9_any (p : Nat) (vb : Value) (c : Ck) (n : NmP) (after : Int) (w : World) (h : RCk w p vb c) (hn : nmOk n) (ha : 0 ≤ after) (ha2 : after < 4294967296) :
    Calls Try.prog 19 #[.pointer (some ⟨p, 0, none⟩), .agg (nmA n), .int .u32 after] w fun e w' => e = .returned (.int .i64 (setA c n after)) ∧ RKid w w' p vb (setD c n after) := by
  have hX0 := box_new w (nmA n) 34
  have hA0 := alloc_below9 w (.cells (nmA n) 34)
  obtain ⟨w1, hw1⟩ : ∃ w1, w1 = w.alloc (.cells (nmA n) 34) := ⟨_, rfl⟩
  rw [← hw1] at hX0 hA0
  have hW1 := hw1.symm
  have hR := h.below hA0
  have HSO := hide (setD_ok h.ok hn ha)
  have HX0 := hide hX0
  have HB := hide hA0
  have HR0 := hide h
  have HR := hide hR
  have HNN := hide hn
  have hnm := h.ok.now
  have hfew := h.ok.few
  have hpw := h.box.lt
  clear h hR hX0 hA0 hw1 hn
  by_cases h0 : after = 0
  · have HA : Hid (setA c n after = 1) := hide (by unfold setA; rw [if_pos h0])
    have HD : Hid (setD c n after = c) := hide (by unfold setD; rw [if_neg (by rw [HA.out]; decide)])
    rw [HA.out, HD.out]
    have d0 : (after == 0) = true := by simp [h0]
    clear h0
    go_enter Try.func19, Try.ntmps19
    go_wp2_with fail
    go_ret
    exact ⟨rfl, RKid.of_below HR0.out HB.out⟩
  · have d0 : (after == 0) = false := by simp [h0]
    have m0 := HR.out.at.1
    have hw2 : IntKind.u32.wrap (2147483647 - (c.now : Int)) = 2147483647 - (c.now : Int) := by rw [IntKind.wrap_u32]; omega
    by_cases h1 : 2147483647 < (c.now : Int) + after
    · have HA : Hid (setA c n after = 17) := hide (by unfold setA; rw [if_neg h0, if_pos h1])
      have HD : Hid (setD c n after = c) := hide (by unfold setD; rw [if_neg (by rw [HA.out]; decide)])
      rw [HA.out, HD.out]
      have d1 : decide (after > 2147483647 - (c.now : Int)) = true := decide_eq_true (by omega)
      clear h0 h1
      go_enter Try.func19, Try.ntmps19
      go_wp2_with fail
      go_ret
      exact ⟨rfl, RKid.of_below HR0.out HB.out⟩
    · have d1 : decide (after > 2147483647 - (c.now : Int)) = false := decide_eq_false (by omega)
      have x0 := HX0.out.cell 0 _ rfl
      have x1 := HX0.out.cell 1 _ rfl
      have x2 := HX0.out.cell 2 _ rfl
      have x3 := HX0.out.cell 3 _ rfl
      have CP := hide (rplace_any p vb c n w1 HR.out)
      have hhas := place_has c n
      have hwn : IntKind.u32.wrap ((c.now : Int) + after) = (c.now : Int) + after := by rw [IntKind.wrap_u32]; omega
      by_cases h2 : c.has n = false ∧ 1024 ≤ c.l.length
      · have HA : Hid (setA c n after = 5) := hide (by unfold setA; rw [if_neg h0, if_neg h1, if_pos h2])
        have HD : Hid (setD c n after = c) := hide (by unfold setD; rw [if_neg (by rw [HA.out]; decide)])
        rw [HA.out, HD.out]
        have dp : decide (placeF c.l n < 0) = true := by
          rw [hhas] at h2
          have := h2.1
          simp at this
          simp [this]
        generalize placeF c.l n = pl at *
        go_enter Try.func19, Try.ntmps19
        go_wp2_with fail
        refine CP.out.mono ?_
        rintro e W2 ⟨rfl, hB2⟩
        have HB2 := hide (HB.out.trans (hB2.mono HB.out.size))
        have hR2 := HR.out.below hB2
        obtain ⟨ao, cap, hvb, _⟩ := hR2.src.shape
        have n1 := hR2.at.2
        rw [hvb] at n1
        have dl : decide ((c.l.length : Int) ≥ 1024) = true := decide_eq_true (by omega)
        clear hB2 CP hR2 hvb d1 hw2 h0 h1 h2 hhas d0
        go_wp2_with fail
        go_ret
        exact ⟨rfl, RKid.of_below HR0.out HB2.out⟩
      · have hA : setA c n after = 0 := by unfold setA; rw [if_neg h0, if_neg h1, if_neg h2]
        have HDD : Hid ((setD c n after).l = insT (n, (c.now : Int) + after) (stopD c n).l ∧ (setD c n after).now = c.now) := hide (by unfold setD; rw [if_pos hA]; exact ⟨rfl, rfl⟩)
        rw [hA]
        generalize setD c n after = cF at *
        have HTO : Hid (nmOk n ∧ ∀ s ∈ (stopD c n).l, nmOk s.1) := hide ⟨HNN.out, (stopD_ok HR0.out.ok n).ok⟩
        have HSF : Hid ((stopD c n).l.length ≤ 1024) := hide (stopD_ok HR0.out.ok n).few
        clear h0 h1 hA
        by_cases hneg : placeF c.l n < 0
        · have dp : decide (placeF c.l n < 0) = true := decide_eq_true hneg
          have hlt : c.l.length < 1024 := by
            rcases Nat.lt_or_ge c.l.length 1024 with h | h
            · exact h
            · exact absurd ⟨by rw [hhas]; simp [hneg], h⟩ h2
          have dl : decide ((c.l.length : Int) ≥ 1024) = false := decide_eq_false (by omega)
          clear h2 hhas hneg
          generalize placeF c.l n = pl at *
          go_enter Try.func19, Try.ntmps19
          go_wp2_with fail
          refine CP.out.mono ?_
          rintro e W2 ⟨rfl, hB2⟩
          have HB2 := hide (HB.out.trans (hB2.mono HB.out.size))
          have HX2 := hide (HX0.out.belowI hB2)
          have HR2 := hide (HR.out.below hB2)
          have CS := hide (rstop_any p vb c n W2 HR2.out)
          have y0 := HX2.out.cell 0 _ rfl
          have y1 := HX2.out.cell 1 _ rfl
          have y2 := HX2.out.cell 2 _ rfl
          have y3 := HX2.out.cell 3 _ rfl
          have n1 := (HR.out.below hB2).at.2
          obtain ⟨ao, cap, hvb, _⟩ := (HR.out.below hB2).src.shape
          rw [hvb] at n1
          clear hvb
          clear hB2 CP x0 x1 x2 x3 m0 hw2 d1 d0
          go_wp2_with fail
          refine CS.out.mono ?_
          rintro e W3 ⟨rfl, vb3, hR3, hk3, hob3⟩
          have HX3 := hide (HX2.out.keep hk3 (by omega))
          have HK3 := hide ((KeepBut.of_below (fun k => k = p) HB2.out).trans hk3 (fun _ _ h => h))
          have HR3 := hide hR3
          have HO3 : Hid (vb3.ownBlock = vb.ownBlock ∨ ∀ g, vb3.ownBlock = some g → w.heap.size ≤ g) := hide (hob3.imp id (fun h g e => Nat.le_trans HB2.out.size (h g e)))
          have HPN : Hid (w.heap.size < W3.heap.size) := hide HX3.out.lt
          generalize c.has n = hh
          obtain ⟨c', hc'⟩ : ∃ c', c' = stopD c n := ⟨_, rfl⟩
          have hnw : c'.now = c.now := by rw [hc']; rfl
          rw [← hc'] at HR3 HDD HTO HSF
          have z0 := HR3.out.at.1
          rw [hnw] at z0
          have u0 := HX3.out.cell 0 _ rfl
          have u1 := HX3.out.cell 1 _ rfl
          have u2 := HX3.out.cell 2 _ rfl
          have u3 := HX3.out.cell 3 _ rfl
          obtain ⟨t, ht⟩ : ∃ t : TmP, t = (n, (c.now : Int) + after) := ⟨_, rfl⟩
          have HTT := hide ht
          have hXT := box_new W3 (tmA t) 77
          have hAT := alloc_below9 W3 (.cells (tmA t) 77)
          obtain ⟨W4, hW4⟩ : ∃ W4, W4 = (W3.alloc (.cells (tmA t) 77)).drew := ⟨_, rfl⟩
          have hB34 : Below W3.heap.size W3 W4 := hW4 ▸ hAT.trans ((Below.refl (W3.alloc (.cells (tmA t) 77)).heap.size (W3.alloc (.cells (tmA t) 77))).drew.mono hAT.size)
          have hXT4 : Box W4 W3.heap.size (tmA t) 77 := hW4 ▸ hXT
          have HXT := hide hXT4
          have HB34 := hide hB34
          have hW4' := hW4.symm
          rw [ht] at hW4'
          have hpl3 : p < W3.heap.size := HR3.out.box.lt
          have hnl3 : w.heap.size < W3.heap.size := HPN.out
          clear hk3 hR3 hob3 CS y0 y1 y2 y3 HX2 HR2 hc' ht hXT hAT hB34 hXT4 hW4
          go_wp2_with fail
          go_region
          go_wp2_with fail
          obtain ⟨LN, hLN⟩ : ∃ LN, LN = c'.l.length := ⟨_, rfl⟩
          have hLb : LN ≤ 1024 := by rw [hLN]; exact HSF.out
          have HLN := hide hLN
          clear hLN u0 u1 u2 u3 z0 hW4'
          go_loopg [8] LN (fun g i wr => ∃ (k : Nat), k + g = LN ∧ i = .int .i64 k ∧ Hid (∀ j (hj : j < c'.l.length), j < k → aheadB c'.l[j] t = true) ∧ Hid (Below W4.heap.size W4 wr))
          case atStart => exact ⟨0, by omega, rfl, hide (fun j _ hj => by omega), hide (Below.refl _ _)⟩
          case round =>
            obtain ⟨k, hk, rfl, HAH, HBW⟩ := hrel
            have HR4 := hide ((HR3.out.below HB34.out).below HBW.out)
            have HXT4 := hide (HXT.out.belowI HBW.out)
            obtain ⟨a3, c3, hv3, hcap3, hcm3⟩ := HR4.out.src.shape
            have m1 := HR4.out.at.2
            have HV3 := hide hv3
            rw [hv3, ← HLN.out] at m1
            rw [← HLN.out] at hcap3
            have HC3 : Hid (LN ≤ c3 ∧ c3 ≤ maxLen) := hide ⟨hcap3, hcm3⟩
            have HBX : Hid (Below w.heap.size w w) := hide (Below.refl _ _)
            clear hv3 hcap3 hcm3 HBX
            cases gk with
            | zero =>
              obtain rfl : k = LN := by omega
              have hz : ¬ ((k : Int) < (k : Int)) := by omega
              go_wp2_with fail
              go_quiet (fail)
              generalize hwx : wr.drewN nq = Wx
              have hBx : Below wr.heap.size wr Wx := hwx ▸ below_drewN9 wr nq
              have HINS := hide (ins_at HAH.out (fun h => by have := HLN.out; omega) (Nat.le_of_eq HLN.out))
              have hkLN : k ≤ k := Nat.le_refl _
              clear hwx m1 hz
              have hRx := HR4.out.below hBx
              have hXTx := HXT4.out.belowI hBx
              rw [HV3.out, ← HLN.out] at hRx
              have hsx := hRx.src
              rw [HLN.out] at hsx
              have hcl3 := HC3.out
              have hto := fun W => run_toR recTM W a3 k c3 k (by omega)
              have hfr := fun W => run_fromR recTM W a3 k c3 k hkLN
              obtain ⟨af, haf⟩ : ∃ af, af = if c3 = k then a3 else (a3 : Option Addr).map (·.add (k * 5)) := ⟨_, rfl⟩
              rw [← haf] at hfr
              have hs1 := src_takeR hsx recTM.len (i := k) (by rw [← HLN.out]; exact hkLN)
              have hs2 := src_dropR hsx recTM.len (i := k) (by rw [← HLN.out]; exact hkLN)
              rw [← haf, ← HLN.out] at hs2
              obtain ⟨l2, hl2⟩ : ∃ l2, l2 = k - k := ⟨_, rfl⟩
              obtain ⟨cc2, hcc2⟩ : ∃ cc2, cc2 = c3 - k := ⟨_, rfl⟩
              rw [← hl2, ← hcc2] at hfr hs2
              have hBd : Below Wx.heap.size Wx Wx.drew := (Below.refl _ _).drew
              have htl : (c'.l.take k).length = k := by rw [List.length_take, ← HLN.out]; omega
              have hdl : (c'.l.drop k).length ≤ 1024 := by rw [List.length_drop, ← HLN.out]; omega
              -- (A) the first part, the one, the second part
              obtain ⟨vA, wA, hrA, hoA, hgA, _⟩ := run_recsH recTM Wx.drew Wx.heap.size (.slice none 0 0) (.slice a3 k c3) [] (c'.l.take k) (World.ownsRow_nil _ _ _ _) (hs1.below hBd) (tms_one _) (by rw [htl]; simp; omega) (Nat.le_refl _)
              rw [List.nil_append] at hoA
              have hBA : Below Wx.heap.size Wx wA := hBd.grown hgA (Nat.le_refl _) (fun k hk => by cases hk)
              have hAA := alloc_below9 wA (.cells (tmA t) 77)
              have hBA2 := hBA.trans (hAA.mono hBA.size)
              obtain ⟨vC, wC, hrC, hoC, hgC, _⟩ := run_recsH recTM (wA.alloc (.cells (tmA t) 77)) Wx.heap.size vA (.slice (some ⟨wA.heap.size, 0, none⟩) 1 1) (c'.l.take k) [t] (owns_keep hoA (KeepBut.of_below (fun _ => False) hAA) (fun _ _ h => h)) (src_new (enc := tmE) wA t (tmA t) rfl 77) (tms_one _) (by rw [htl]; simp; omega) hBA2.size
              have hBC : Below Wx.heap.size Wx wC := hBA2.grown hgC hBA2.size (fun j hj => (hoA.lt j hj).1)
              obtain ⟨vD, wD, hrD, hoD, hgD, _⟩ := run_recsH recTM wC Wx.heap.size vC (.slice af l2 cc2) (c'.l.take k ++ [t]) (c'.l.drop k) hoC (hs2.below hBC) (tms_one _) (by rw [List.length_append, htl]; simp only [List.length_cons, List.length_nil]; omega) hBC.size
              have hBD : Below Wx.heap.size Wx wD := hBC.grown hgD hBC.size (fun j hj => (hoC.lt j hj).1)
              -- (B) the one, the first part, the second part
              obtain ⟨wB0, hwB0⟩ : ∃ wB0, wB0 = (Wx.alloc (.cells (tmA t) 77)).drew := ⟨_, rfl⟩
              have hBB0 : Below Wx.heap.size Wx wB0 := hwB0 ▸ ((Below.refl Wx.heap.size Wx).alloc (Nat.le_refl _) _).drew
              have hsB : RSrc tmE wB0 (.slice (some ⟨Wx.heap.size, 0, none⟩) 1 1) [t] := by
                rw [hwB0]
                exact (src_new (enc := tmE) Wx t (tmA t) rfl 77).below (Below.refl _ _).drew
              obtain ⟨vE, wE, hrE, hoE, hgE, _⟩ := run_recsH recTM wB0 wB0.heap.size (.slice none 0 0) (.slice a3 k c3) [] (c'.l.take k) (World.ownsRow_nil _ _ _ _) (hs1.below hBB0) (tms_one _) (by rw [htl]; simp; omega) (Nat.le_refl _)
              rw [List.nil_append] at hoE
              have hBE0 : Below wB0.heap.size wB0 wE := (Below.refl _ _).grown hgE (Nat.le_refl _) (fun k hk => by cases hk)
              have hBE := hBB0.trans (hBE0.mono hBB0.size)
              have hoE' : wE.ownsRow Wx.heap.size 77 5 vE (c'.l.take k).length (flat tmE (c'.l.take k)) := by
                obtain ⟨hl, h0 | ⟨g, cap', cur, e, hg, r⟩⟩ := hoE
                · exact ⟨hl, .inl h0⟩
                · exact ⟨hl, .inr ⟨g, cap', cur, e, Nat.le_trans hBB0.size hg, r⟩⟩
              obtain ⟨vF, wF, hrF, hoF, hgF, _⟩ := run_recsH recTM wE Wx.heap.size vE (.slice (some ⟨Wx.heap.size, 0, none⟩) 1 1) (c'.l.take k) [t] hoE' (hsB.below hBE0) (tms_one _) (by rw [htl]; simp; omega) hBE.size
              have hBF : Below Wx.heap.size Wx wF := hBE.grown hgF hBE.size (fun j hj => (hoE'.lt j hj).1)
              obtain ⟨vG, wG, hrG, hoG, hgG, _⟩ := run_recsH recTM wF Wx.heap.size vF (.slice af l2 cc2) (c'.l.take k ++ [t]) (c'.l.drop k) hoF (hs2.below hBF) (tms_one _) (by rw [List.length_append, htl]; simp only [List.length_cons, List.length_nil]; omega) hBF.size
              have hBG : Below Wx.heap.size Wx wG := hBF.grown hgG hBF.size (fun j hj => (hoF.lt j hj).1)
              have hcl : cF.l = c'.l.take k ++ [t] ++ c'.l.drop k := by rw [HDD.out.1, ← HTT.out]; exact HINS.out
              rw [← hcl] at hoD hoG
              have hk04 : KeepBut (fun j => j = p) w Wx := HK3.out.trans (KeepBut.of_below (fun j => j = p) (HB34.out.trans ((HBW.out.trans (hBx.mono HBW.out.size)).mono HB34.out.size))) (fun _ _ h => h)
              have hov : (Value.slice a3 k c3).ownBlock = vb.ownBlock ∨ ∀ g, (Value.slice a3 k c3).ownBlock = some g → w.heap.size ≤ g := by have := HO3.out; rw [HV3.out, ← HLN.out] at this; exact this
              have FIN : ∀ wf v, Below Wx.heap.size Wx wf → wf.ownsRow Wx.heap.size 77 5 v cF.l.length (flat tmE cF.l) → RKid w (wf.setCell ⟨p, 1, none⟩ v) p vb cF := fun wf v hB ho => by
                obtain ⟨vb', r, kk, ob⟩ := hRx.put hB ho HSO.out (by rw [HDD.out.2, hnw])
                refine ⟨vb', r, hk04.trans kk (fun _ _ h => h), .inr fun g e => ?_⟩
                rcases ob with ob | ob
                · have h1 := (ho.lt g (by
                    have : vb' = v := by
                      have c1 := r.at.2
                      have c2 := ((hRx.box.belowI hB).set (i := 1) (v := v)).cell 1 v rfl
                      rw [c1] at c2
                      exact Option.some.inj c2
                    rw [← this]; exact e)).1
                  exact Nat.le_trans hk04.size h1
                · exact Nat.le_trans hk04.size (ob g e)
              have HFD := hide (FIN wD vD hBD hoD)
              have HFG := hide (FIN wG vG hBG hoG)
              have m1 := hRx.at.2
              have qA := (hRx.below hBA).at.2
              have qC := (hRx.below hBC).at.2
              have qB := (hRx.below hBB0).at.2
              have qE := (hRx.below hBE).at.2
              have qF := (hRx.below hBF).at.2
              have qD := (hRx.below hBD).at.2
              have qG := (hRx.below hBG).at.2
              have zD := (hRx.below hBD).box.frozen 1
              have zG := (hRx.below hBG).box.frozen 1
              have plx := hRx.box.lt
              have plA := (hRx.below hBA).box.lt
              have tlx := hXTx.lt
              have tlA := (hXTx.belowI hBA).lt
              have t0 := hXTx.cell 0 _ rfl
              have t1 := hXTx.cell 1 _ rfl
              have t2 := hXTx.cell 2 _ rfl
              have t3 := hXTx.cell 3 _ rfl
              have t4 := hXTx.cell 4 _ rfl
              have a0 := (hXTx.belowI hBA).cell 0 _ rfl
              have a1 := (hXTx.belowI hBA).cell 1 _ rfl
              have a2 := (hXTx.belowI hBA).cell 2 _ rfl
              have a3' := (hXTx.belowI hBA).cell 3 _ rfl
              have a4 := (hXTx.belowI hBA).cell 4 _ rfl
              obtain ⟨aA, cA, hvA, _⟩ := owns_shapeR hoA
              obtain ⟨aC, cC, hvC, _⟩ := owns_shapeR hoC
              obtain ⟨aD, cD, hvD, _⟩ := owns_shapeR hoD
              obtain ⟨aE, cE, hvE, _⟩ := owns_shapeR hoE
              obtain ⟨aF, cFF, hvF, _⟩ := owns_shapeR hoF
              obtain ⟨aG, cG, hvG, _⟩ := owns_shapeR hoG
              subst hvA
              subst hvC
              subst hvD
              subst hvE
              subst hvF
              subst hvG
              rw [htl] at hrA hrC hrE hrF
              obtain ⟨n2, hn2⟩ : ∃ n2, n2 = (c'.l.take k ++ [t]).length := ⟨_, rfl⟩
              obtain ⟨n3, hn3⟩ : ∃ n3, n3 = cF.l.length := ⟨_, rfl⟩
              rw [← hn2] at hrC hrD hrF hrG
              rw [← hn3] at hrD hrG HFD HFG
              clear hRx hXTx hsx hcl3 haf hs1 hs2 hl2 hcc2 hBd htl hdl hoA hgA hBA hAA hBA2 hoC hgC hBC hoD hgD hBD hBB0 hsB hoE hgE hBE0 hBE hoE' hoF hgF hBF hoG hgG hBG hcl hk04 hov FIN hn2 hn3 hBx
              subst hwB0
              go_wp2_with fail
              go_region
              all_goals go_wp2_with fail
              all_goals go_ret
              all_goals first
                | exact ⟨rfl, HFD.out⟩
                | exact ⟨rfl, HFG.out⟩
            | succ g =>
              have hz : (k : Int) < (LN : Int) := by omega
              have hkn : k < c'.l.length := by rw [← HLN.out]; omega
              have hsrc := HR4.out.src
              rw [HV3.out] at hsrc
              obtain ⟨_, b, off, hao, hb, hc⟩ := hsrc.at recTM.len hkn
              subst hao
              obtain ⟨s, hs⟩ : ∃ s, s = c'.l[k] := ⟨_, rfl⟩
              rw [← hs] at hc
              have HSS := hide hs
              have HSK : Hid (nmOk s.1) := hide (by rw [hs]; exact HTO.out.2 _ (List.getElem_mem _))
              have HTK : Hid (nmOk t.1) := hide (by rw [HTT.out]; exact HTO.out.1)
              have SS : Hid (∀ Z, Below wr.heap.size wr Z → (Z.cell? ⟨p, 1, none⟩ = some (.slice (some ⟨b, off, none⟩) LN c3) ∧ Z.cell? ⟨b, off + k * 5, none⟩ = some (.int .u8 s.1.1) ∧ Z.cell? ⟨b, off + k * 5 + 1, none⟩ = some (.int .u8 s.1.2.1) ∧ Z.cell? ⟨b, off + k * 5 + 2, none⟩ = some (.int .u32 s.1.2.2.1) ∧ Z.cell? ⟨b, off + k * 5 + 3, none⟩ = some (.int .u32 s.1.2.2.2) ∧ Z.cell? ⟨b, off + k * 5 + 4, none⟩ = some (.int .u32 s.2) ∧ Z.cell? ⟨W3.heap.size, 0, none⟩ = some (.int .u8 t.1.1) ∧ Z.cell? ⟨W3.heap.size, 1, none⟩ = some (.int .u8 t.1.2.1) ∧ Z.cell? ⟨W3.heap.size, 2, none⟩ = some (.int .u32 t.1.2.2.1) ∧ Z.cell? ⟨W3.heap.size, 3, none⟩ = some (.int .u32 t.1.2.2.2) ∧ Z.cell? ⟨W3.heap.size, 4, none⟩ = some (.int .u32 t.2))) := hide (fun Z hB => by
                have hx := HXT4.out.belowI hB
                have hr := (HR4.out.below hB).at.2
                rw [HV3.out, ← HLN.out] at hr
                have hcz := fun j u hu => (hB.cell (p := ⟨b, off + k * 5 + j, none⟩) hb).trans (hc j u hu)
                exact ⟨hr, hcz 0 _ rfl, hcz 1 _ rfl, hcz 2 _ rfl, hcz 3 _ rfl, hcz 4 _ rfl, hx.cell 0 _ rfl, hx.cell 1 _ rfl, hx.cell 2 _ rfl, hx.cell 3 _ rfl, hx.cell 4 _ rfl⟩)
              have ss0 := SS.out wr (Below.refl _ _)
              have HCUR : Hid (Below wr.heap.size wr wr.drew) := hide (Below.refl _ _).drew
              have hoff : LN ≤ 1024 := hLb
              clear hc hsrc hs m1 hb
              cases hah : aheadB s t
              · have HAF := hide hah
                go_wp2_with fail
                go_region_held (fun w' => w'.cell? ⟨p, 1, none⟩ = some (.slice (some ⟨b, off, none⟩) LN c3) ∧ w'.cell? ⟨b, off + k * 5, none⟩ = some (.int .u8 s.1.1) ∧ w'.cell? ⟨b, off + k * 5 + 1, none⟩ = some (.int .u8 s.1.2.1) ∧ w'.cell? ⟨b, off + k * 5 + 2, none⟩ = some (.int .u32 s.1.2.2.1) ∧ w'.cell? ⟨b, off + k * 5 + 3, none⟩ = some (.int .u32 s.1.2.2.2) ∧ w'.cell? ⟨b, off + k * 5 + 4, none⟩ = some (.int .u32 s.2) ∧ w'.cell? ⟨W3.heap.size, 0, none⟩ = some (.int .u8 t.1.1) ∧ w'.cell? ⟨W3.heap.size, 1, none⟩ = some (.int .u8 t.1.2.1) ∧ w'.cell? ⟨W3.heap.size, 2, none⟩ = some (.int .u32 t.1.2.2.1) ∧ w'.cell? ⟨W3.heap.size, 3, none⟩ = some (.int .u32 t.1.2.2.2) ∧ w'.cell? ⟨W3.heap.size, 4, none⟩ = some (.int .u32 t.2)) (go_keep) (first
                  | (go_at_call 32; refine (rahead_any s t _ HSK.out HTK.out).mono ?_; rw [HAF.out]; rintro e Z1 ⟨rfl, hB⟩; replace HCUR := hide (HCUR.out.trans (hB.mono HCUR.out.size)); have ss := SS.out Z1 HCUR.out; clear hB))
                generalize hwx : Z1 = Wx at *
                have hBx : Below wr.heap.size wr Wx := HCUR.out
                have HINS := hide (ins_at HAH.out (fun h => by rw [← HSS.out]; exact HAF.out) (Nat.le_of_lt hkn))
                have hkLN : k ≤ LN := by omega
                clear hah hz hwx SS ss0 ss HCUR
                have hRx := HR4.out.below hBx
                have hXTx := HXT4.out.belowI hBx
                rw [HV3.out, ← HLN.out] at hRx
                have hsx := hRx.src
                rw [HLN.out] at hsx
                have hcl3 := HC3.out
                have hto := fun W => run_toR recTM W (some ⟨b, off, none⟩) LN c3 k (by omega)
                have hfr := fun W => run_fromR recTM W (some ⟨b, off, none⟩) LN c3 k hkLN
                obtain ⟨af, haf⟩ : ∃ af, af = if c3 = k then (some ⟨b, off, none⟩) else ((some ⟨b, off, none⟩) : Option Addr).map (·.add (k * 5)) := ⟨_, rfl⟩
                rw [← haf] at hfr
                have hs1 := src_takeR hsx recTM.len (i := k) (by rw [← HLN.out]; exact hkLN)
                have hs2 := src_dropR hsx recTM.len (i := k) (by rw [← HLN.out]; exact hkLN)
                rw [← haf, ← HLN.out] at hs2
                obtain ⟨l2, hl2⟩ : ∃ l2, l2 = LN - k := ⟨_, rfl⟩
                obtain ⟨cc2, hcc2⟩ : ∃ cc2, cc2 = c3 - k := ⟨_, rfl⟩
                rw [← hl2, ← hcc2] at hfr hs2
                have hBd : Below Wx.heap.size Wx Wx.drew := (Below.refl _ _).drew
                have htl : (c'.l.take k).length = k := by rw [List.length_take, ← HLN.out]; omega
                have hdl : (c'.l.drop k).length ≤ 1024 := by rw [List.length_drop, ← HLN.out]; omega
                -- (A) the first part, the one, the second part
                obtain ⟨vA, wA, hrA, hoA, hgA, _⟩ := run_recsH recTM Wx.drew Wx.heap.size (.slice none 0 0) (.slice (some ⟨b, off, none⟩) k c3) [] (c'.l.take k) (World.ownsRow_nil _ _ _ _) (hs1.below hBd) (tms_one _) (by rw [htl]; simp; omega) (Nat.le_refl _)
                rw [List.nil_append] at hoA
                have hBA : Below Wx.heap.size Wx wA := hBd.grown hgA (Nat.le_refl _) (fun k hk => by cases hk)
                have hAA := alloc_below9 wA (.cells (tmA t) 77)
                have hBA2 := hBA.trans (hAA.mono hBA.size)
                obtain ⟨vC, wC, hrC, hoC, hgC, _⟩ := run_recsH recTM (wA.alloc (.cells (tmA t) 77)) Wx.heap.size vA (.slice (some ⟨wA.heap.size, 0, none⟩) 1 1) (c'.l.take k) [t] (owns_keep hoA (KeepBut.of_below (fun _ => False) hAA) (fun _ _ h => h)) (src_new (enc := tmE) wA t (tmA t) rfl 77) (tms_one _) (by rw [htl]; simp; omega) hBA2.size
                have hBC : Below Wx.heap.size Wx wC := hBA2.grown hgC hBA2.size (fun j hj => (hoA.lt j hj).1)
                obtain ⟨vD, wD, hrD, hoD, hgD, _⟩ := run_recsH recTM wC Wx.heap.size vC (.slice af l2 cc2) (c'.l.take k ++ [t]) (c'.l.drop k) hoC (hs2.below hBC) (tms_one _) (by rw [List.length_append, htl]; simp only [List.length_cons, List.length_nil]; omega) hBC.size
                have hBD : Below Wx.heap.size Wx wD := hBC.grown hgD hBC.size (fun j hj => (hoC.lt j hj).1)
                -- (B) the one, the first part, the second part
                obtain ⟨wB0, hwB0⟩ : ∃ wB0, wB0 = (Wx.alloc (.cells (tmA t) 77)).drew := ⟨_, rfl⟩
                have hBB0 : Below Wx.heap.size Wx wB0 := hwB0 ▸ ((Below.refl Wx.heap.size Wx).alloc (Nat.le_refl _) _).drew
                have hsB : RSrc tmE wB0 (.slice (some ⟨Wx.heap.size, 0, none⟩) 1 1) [t] := by
                  rw [hwB0]
                  exact (src_new (enc := tmE) Wx t (tmA t) rfl 77).below (Below.refl _ _).drew
                obtain ⟨vE, wE, hrE, hoE, hgE, _⟩ := run_recsH recTM wB0 wB0.heap.size (.slice none 0 0) (.slice (some ⟨b, off, none⟩) k c3) [] (c'.l.take k) (World.ownsRow_nil _ _ _ _) (hs1.below hBB0) (tms_one _) (by rw [htl]; simp; omega) (Nat.le_refl _)
                rw [List.nil_append] at hoE
                have hBE0 : Below wB0.heap.size wB0 wE := (Below.refl _ _).grown hgE (Nat.le_refl _) (fun k hk => by cases hk)
                have hBE := hBB0.trans (hBE0.mono hBB0.size)
                have hoE' : wE.ownsRow Wx.heap.size 77 5 vE (c'.l.take k).length (flat tmE (c'.l.take k)) := by
                  obtain ⟨hl, h0 | ⟨g, cap', cur, e, hg, r⟩⟩ := hoE
                  · exact ⟨hl, .inl h0⟩
                  · exact ⟨hl, .inr ⟨g, cap', cur, e, Nat.le_trans hBB0.size hg, r⟩⟩
                obtain ⟨vF, wF, hrF, hoF, hgF, _⟩ := run_recsH recTM wE Wx.heap.size vE (.slice (some ⟨Wx.heap.size, 0, none⟩) 1 1) (c'.l.take k) [t] hoE' (hsB.below hBE0) (tms_one _) (by rw [htl]; simp; omega) hBE.size
                have hBF : Below Wx.heap.size Wx wF := hBE.grown hgF hBE.size (fun j hj => (hoE'.lt j hj).1)
                obtain ⟨vG, wG, hrG, hoG, hgG, _⟩ := run_recsH recTM wF Wx.heap.size vF (.slice af l2 cc2) (c'.l.take k ++ [t]) (c'.l.drop k) hoF (hs2.below hBF) (tms_one _) (by rw [List.length_append, htl]; simp only [List.length_cons, List.length_nil]; omega) hBF.size
                have hBG : Below Wx.heap.size Wx wG := hBF.grown hgG hBF.size (fun j hj => (hoF.lt j hj).1)
                have hcl : cF.l = c'.l.take k ++ [t] ++ c'.l.drop k := by rw [HDD.out.1, ← HTT.out]; exact HINS.out
                rw [← hcl] at hoD hoG
                have hk04 : KeepBut (fun j => j = p) w Wx := HK3.out.trans (KeepBut.of_below (fun j => j = p) (HB34.out.trans ((HBW.out.trans (hBx.mono HBW.out.size)).mono HB34.out.size))) (fun _ _ h => h)
                have hov : (Value.slice (some ⟨b, off, none⟩) LN c3).ownBlock = vb.ownBlock ∨ ∀ g, (Value.slice (some ⟨b, off, none⟩) LN c3).ownBlock = some g → w.heap.size ≤ g := by have := HO3.out; rw [HV3.out, ← HLN.out] at this; exact this
                have FIN : ∀ wf v, Below Wx.heap.size Wx wf → wf.ownsRow Wx.heap.size 77 5 v cF.l.length (flat tmE cF.l) → RKid w (wf.setCell ⟨p, 1, none⟩ v) p vb cF := fun wf v hB ho => by
                  obtain ⟨vb', r, kk, ob⟩ := hRx.put hB ho HSO.out (by rw [HDD.out.2, hnw])
                  refine ⟨vb', r, hk04.trans kk (fun _ _ h => h), .inr fun g e => ?_⟩
                  rcases ob with ob | ob
                  · have h1 := (ho.lt g (by
                      have : vb' = v := by
                        have c1 := r.at.2
                        have c2 := ((hRx.box.belowI hB).set (i := 1) (v := v)).cell 1 v rfl
                        rw [c1] at c2
                        exact Option.some.inj c2
                      rw [← this]; exact e)).1
                    exact Nat.le_trans hk04.size h1
                  · exact Nat.le_trans hk04.size (ob g e)
                have HFD := hide (FIN wD vD hBD hoD)
                have HFG := hide (FIN wG vG hBG hoG)
                have m1 := hRx.at.2
                have qA := (hRx.below hBA).at.2
                have qC := (hRx.below hBC).at.2
                have qB := (hRx.below hBB0).at.2
                have qE := (hRx.below hBE).at.2
                have qF := (hRx.below hBF).at.2
                have qD := (hRx.below hBD).at.2
                have qG := (hRx.below hBG).at.2
                have zD := (hRx.below hBD).box.frozen 1
                have zG := (hRx.below hBG).box.frozen 1
                have plx := hRx.box.lt
                have plA := (hRx.below hBA).box.lt
                have tlx := hXTx.lt
                have tlA := (hXTx.belowI hBA).lt
                have t0 := hXTx.cell 0 _ rfl
                have t1 := hXTx.cell 1 _ rfl
                have t2 := hXTx.cell 2 _ rfl
                have t3 := hXTx.cell 3 _ rfl
                have t4 := hXTx.cell 4 _ rfl
                have a0 := (hXTx.belowI hBA).cell 0 _ rfl
                have a1 := (hXTx.belowI hBA).cell 1 _ rfl
                have a2 := (hXTx.belowI hBA).cell 2 _ rfl
                have a3' := (hXTx.belowI hBA).cell 3 _ rfl
                have a4 := (hXTx.belowI hBA).cell 4 _ rfl
                obtain ⟨aA, cA, hvA, _⟩ := owns_shapeR hoA
                obtain ⟨aC, cC, hvC, _⟩ := owns_shapeR hoC
                obtain ⟨aD, cD, hvD, _⟩ := owns_shapeR hoD
                obtain ⟨aE, cE, hvE, _⟩ := owns_shapeR hoE
                obtain ⟨aF, cFF, hvF, _⟩ := owns_shapeR hoF
                obtain ⟨aG, cG, hvG, _⟩ := owns_shapeR hoG
                subst hvA
                subst hvC
                subst hvD
                subst hvE
                subst hvF
                subst hvG
                rw [htl] at hrA hrC hrE hrF
                obtain ⟨n2, hn2⟩ : ∃ n2, n2 = (c'.l.take k ++ [t]).length := ⟨_, rfl⟩
                obtain ⟨n3, hn3⟩ : ∃ n3, n3 = cF.l.length := ⟨_, rfl⟩
                rw [← hn2] at hrC hrD hrF hrG
                rw [← hn3] at hrD hrG HFD HFG
                clear hRx hXTx hsx hcl3 haf hs1 hs2 hl2 hcc2 hBd htl hdl hoA hgA hBA hAA hBA2 hoC hgC hBC hoD hgD hBD hBB0 hsB hoE hgE hBE0 hBE hoE' hoF hgF hBF hoG hgG hBG hcl hk04 hov FIN hn2 hn3 hBx
                subst hwB0
                go_wp2_with fail
                go_region
                all_goals go_wp2_with fail
                all_goals go_ret
                all_goals first
                  | exact ⟨rfl, HFD.out⟩
                  | exact ⟨rfl, HFG.out⟩
              · have HAF := hide hah
                go_wp2_with fail
                go_region_held (fun w' => w'.cell? ⟨p, 1, none⟩ = some (.slice (some ⟨b, off, none⟩) LN c3) ∧ w'.cell? ⟨b, off + k * 5, none⟩ = some (.int .u8 s.1.1) ∧ w'.cell? ⟨b, off + k * 5 + 1, none⟩ = some (.int .u8 s.1.2.1) ∧ w'.cell? ⟨b, off + k * 5 + 2, none⟩ = some (.int .u32 s.1.2.2.1) ∧ w'.cell? ⟨b, off + k * 5 + 3, none⟩ = some (.int .u32 s.1.2.2.2) ∧ w'.cell? ⟨b, off + k * 5 + 4, none⟩ = some (.int .u32 s.2) ∧ w'.cell? ⟨W3.heap.size, 0, none⟩ = some (.int .u8 t.1.1) ∧ w'.cell? ⟨W3.heap.size, 1, none⟩ = some (.int .u8 t.1.2.1) ∧ w'.cell? ⟨W3.heap.size, 2, none⟩ = some (.int .u32 t.1.2.2.1) ∧ w'.cell? ⟨W3.heap.size, 3, none⟩ = some (.int .u32 t.1.2.2.2) ∧ w'.cell? ⟨W3.heap.size, 4, none⟩ = some (.int .u32 t.2)) (go_keep) (first
                  | (go_at_call 32; refine (rahead_any s t _ HSK.out HTK.out).mono ?_; rw [HAF.out]; rintro e Z1 ⟨rfl, hB⟩; replace HCUR := hide (HCUR.out.trans (hB.mono HCUR.out.size)); have ss := SS.out Z1 HCUR.out; clear hB))
                have HAH2 : Hid (∀ j (hj : j < c'.l.length), j < k + 1 → aheadB c'.l[j] t = true) := hide (fun j hj hjk => by
                  by_cases ej : j = k
                  · subst ej; rw [← HSS.out]; exact HAF.out
                  · exact HAH.out j hj (by omega))
                have HBZ := hide (HBW.out.trans (HCUR.out.mono HBW.out.size))
                clear hah ss ss0 SS HCUR
                go_wp2_with fail
                go_roundg g
                case measure => omega
                case rel => exact ⟨k + 1, by omega, by first | rfl | go_num, HAH2, HBZ⟩
        · have dp : decide (placeF c.l n < 0) = false := decide_eq_false hneg
          clear h2 hhas hneg
          generalize placeF c.l n = pl at *
          go_enter Try.func19, Try.ntmps19
          go_wp2_with fail
          refine CP.out.mono ?_
          rintro e W2 ⟨rfl, hB2⟩
          have HB2 := hide (HB.out.trans (hB2.mono HB.out.size))
          have HX2 := hide (HX0.out.belowI hB2)
          have HR2 := hide (HR.out.below hB2)
          have CS := hide (rstop_any p vb c n W2 HR2.out)
          have y0 := HX2.out.cell 0 _ rfl
          have y1 := HX2.out.cell 1 _ rfl
          have y2 := HX2.out.cell 2 _ rfl
          have y3 := HX2.out.cell 3 _ rfl
          clear hB2 CP x0 x1 x2 x3 m0 hw2 d1 d0
          go_wp2_with fail
          refine CS.out.mono ?_
          rintro e W3 ⟨rfl, vb3, hR3, hk3, hob3⟩
          have HX3 := hide (HX2.out.keep hk3 (by omega))
          have HK3 := hide ((KeepBut.of_below (fun k => k = p) HB2.out).trans hk3 (fun _ _ h => h))
          have HR3 := hide hR3
          have HO3 : Hid (vb3.ownBlock = vb.ownBlock ∨ ∀ g, vb3.ownBlock = some g → w.heap.size ≤ g) := hide (hob3.imp id (fun h g e => Nat.le_trans HB2.out.size (h g e)))
          have HPN : Hid (w.heap.size < W3.heap.size) := hide HX3.out.lt
          generalize c.has n = hh
          obtain ⟨c', hc'⟩ : ∃ c', c' = stopD c n := ⟨_, rfl⟩
          have hnw : c'.now = c.now := by rw [hc']; rfl
          rw [← hc'] at HR3 HDD HTO HSF
          have z0 := HR3.out.at.1
          rw [hnw] at z0
          have u0 := HX3.out.cell 0 _ rfl
          have u1 := HX3.out.cell 1 _ rfl
          have u2 := HX3.out.cell 2 _ rfl
          have u3 := HX3.out.cell 3 _ rfl
          obtain ⟨t, ht⟩ : ∃ t : TmP, t = (n, (c.now : Int) + after) := ⟨_, rfl⟩
          have HTT := hide ht
          have hXT := box_new W3 (tmA t) 77
          have hAT := alloc_below9 W3 (.cells (tmA t) 77)
          obtain ⟨W4, hW4⟩ : ∃ W4, W4 = (W3.alloc (.cells (tmA t) 77)).drew := ⟨_, rfl⟩
          have hB34 : Below W3.heap.size W3 W4 := hW4 ▸ hAT.trans ((Below.refl (W3.alloc (.cells (tmA t) 77)).heap.size (W3.alloc (.cells (tmA t) 77))).drew.mono hAT.size)
          have hXT4 : Box W4 W3.heap.size (tmA t) 77 := hW4 ▸ hXT
          have HXT := hide hXT4
          have HB34 := hide hB34
          have hW4' := hW4.symm
          rw [ht] at hW4'
          have hpl3 : p < W3.heap.size := HR3.out.box.lt
          have hnl3 : w.heap.size < W3.heap.size := HPN.out
          clear hk3 hR3 hob3 CS y0 y1 y2 y3 HX2 HR2 hc' ht hXT hAT hB34 hXT4 hW4
          go_wp2_with fail
          go_region
          go_wp2_with fail
          obtain ⟨LN, hLN⟩ : ∃ LN, LN = c'.l.length := ⟨_, rfl⟩
          have hLb : LN ≤ 1024 := by rw [hLN]; exact HSF.out
          have HLN := hide hLN
          clear hLN u0 u1 u2 u3 z0 hW4'
          go_loopg [8] LN (fun g i wr => ∃ (k : Nat), k + g = LN ∧ i = .int .i64 k ∧ Hid (∀ j (hj : j < c'.l.length), j < k → aheadB c'.l[j] t = true) ∧ Hid (Below W4.heap.size W4 wr))
          case atStart => exact ⟨0, by omega, rfl, hide (fun j _ hj => by omega), hide (Below.refl _ _)⟩
          case round =>
            obtain ⟨k, hk, rfl, HAH, HBW⟩ := hrel
            have HR4 := hide ((HR3.out.below HB34.out).below HBW.out)
            have HXT4 := hide (HXT.out.belowI HBW.out)
            obtain ⟨a3, c3, hv3, hcap3, hcm3⟩ := HR4.out.src.shape
            have m1 := HR4.out.at.2
            have HV3 := hide hv3
            rw [hv3, ← HLN.out] at m1
            rw [← HLN.out] at hcap3
            have HC3 : Hid (LN ≤ c3 ∧ c3 ≤ maxLen) := hide ⟨hcap3, hcm3⟩
            have HBX : Hid (Below w.heap.size w w) := hide (Below.refl _ _)
            clear hv3 hcap3 hcm3 HBX
            cases gk with
            | zero =>
              obtain rfl : k = LN := by omega
              have hz : ¬ ((k : Int) < (k : Int)) := by omega
              go_wp2_with fail
              go_quiet (fail)
              generalize hwx : wr.drewN nq = Wx
              have hBx : Below wr.heap.size wr Wx := hwx ▸ below_drewN9 wr nq
              have HINS := hide (ins_at HAH.out (fun h => by have := HLN.out; omega) (Nat.le_of_eq HLN.out))
              have hkLN : k ≤ k := Nat.le_refl _
              clear hwx m1 hz
              have hRx := HR4.out.below hBx
              have hXTx := HXT4.out.belowI hBx
              rw [HV3.out, ← HLN.out] at hRx
              have hsx := hRx.src
              rw [HLN.out] at hsx
              have hcl3 := HC3.out
              have hto := fun W => run_toR recTM W a3 k c3 k (by omega)
              have hfr := fun W => run_fromR recTM W a3 k c3 k hkLN
              obtain ⟨af, haf⟩ : ∃ af, af = if c3 = k then a3 else (a3 : Option Addr).map (·.add (k * 5)) := ⟨_, rfl⟩
              rw [← haf] at hfr
              have hs1 := src_takeR hsx recTM.len (i := k) (by rw [← HLN.out]; exact hkLN)
              have hs2 := src_dropR hsx recTM.len (i := k) (by rw [← HLN.out]; exact hkLN)
              rw [← haf, ← HLN.out] at hs2
              obtain ⟨l2, hl2⟩ : ∃ l2, l2 = k - k := ⟨_, rfl⟩
              obtain ⟨cc2, hcc2⟩ : ∃ cc2, cc2 = c3 - k := ⟨_, rfl⟩
              rw [← hl2, ← hcc2] at hfr hs2
              have hBd : Below Wx.heap.size Wx Wx.drew := (Below.refl _ _).drew
              have htl : (c'.l.take k).length = k := by rw [List.length_take, ← HLN.out]; omega
              have hdl : (c'.l.drop k).length ≤ 1024 := by rw [List.length_drop, ← HLN.out]; omega
              -- (A) the first part, the one, the second part
              obtain ⟨vA, wA, hrA, hoA, hgA, _⟩ := run_recsH recTM Wx.drew Wx.heap.size (.slice none 0 0) (.slice a3 k c3) [] (c'.l.take k) (World.ownsRow_nil _ _ _ _) (hs1.below hBd) (tms_one _) (by rw [htl]; simp; omega) (Nat.le_refl _)
              rw [List.nil_append] at hoA
              have hBA : Below Wx.heap.size Wx wA := hBd.grown hgA (Nat.le_refl _) (fun k hk => by cases hk)
              have hAA := alloc_below9 wA (.cells (tmA t) 77)
              have hBA2 := hBA.trans (hAA.mono hBA.size)
              obtain ⟨vC, wC, hrC, hoC, hgC, _⟩ := run_recsH recTM (wA.alloc (.cells (tmA t) 77)) Wx.heap.size vA (.slice (some ⟨wA.heap.size, 0, none⟩) 1 1) (c'.l.take k) [t] (owns_keep hoA (KeepBut.of_below (fun _ => False) hAA) (fun _ _ h => h)) (src_new (enc := tmE) wA t (tmA t) rfl 77) (tms_one _) (by rw [htl]; simp; omega) hBA2.size
              have hBC : Below Wx.heap.size Wx wC := hBA2.grown hgC hBA2.size (fun j hj => (hoA.lt j hj).1)
              obtain ⟨vD, wD, hrD, hoD, hgD, _⟩ := run_recsH recTM wC Wx.heap.size vC (.slice af l2 cc2) (c'.l.take k ++ [t]) (c'.l.drop k) hoC (hs2.below hBC) (tms_one _) (by rw [List.length_append, htl]; simp only [List.length_cons, List.length_nil]; omega) hBC.size
              have hBD : Below Wx.heap.size Wx wD := hBC.grown hgD hBC.size (fun j hj => (hoC.lt j hj).1)
              -- (B) the one, the first part, the second part
              obtain ⟨wB0, hwB0⟩ : ∃ wB0, wB0 = (Wx.alloc (.cells (tmA t) 77)).drew := ⟨_, rfl⟩
              have hBB0 : Below Wx.heap.size Wx wB0 := hwB0 ▸ ((Below.refl Wx.heap.size Wx).alloc (Nat.le_refl _) _).drew
              have hsB : RSrc tmE wB0 (.slice (some ⟨Wx.heap.size, 0, none⟩) 1 1) [t] := by
                rw [hwB0]
                exact (src_new (enc := tmE) Wx t (tmA t) rfl 77).below (Below.refl _ _).drew
              obtain ⟨vE, wE, hrE, hoE, hgE, _⟩ := run_recsH recTM wB0 wB0.heap.size (.slice none 0 0) (.slice a3 k c3) [] (c'.l.take k) (World.ownsRow_nil _ _ _ _) (hs1.below hBB0) (tms_one _) (by rw [htl]; simp; omega) (Nat.le_refl _)
              rw [List.nil_append] at hoE
              have hBE0 : Below wB0.heap.size wB0 wE := (Below.refl _ _).grown hgE (Nat.le_refl _) (fun k hk => by cases hk)
              have hBE := hBB0.trans (hBE0.mono hBB0.size)
              have hoE' : wE.ownsRow Wx.heap.size 77 5 vE (c'.l.take k).length (flat tmE (c'.l.take k)) := by
                obtain ⟨hl, h0 | ⟨g, cap', cur, e, hg, r⟩⟩ := hoE
                · exact ⟨hl, .inl h0⟩
                · exact ⟨hl, .inr ⟨g, cap', cur, e, Nat.le_trans hBB0.size hg, r⟩⟩
              obtain ⟨vF, wF, hrF, hoF, hgF, _⟩ := run_recsH recTM wE Wx.heap.size vE (.slice (some ⟨Wx.heap.size, 0, none⟩) 1 1) (c'.l.take k) [t] hoE' (hsB.below hBE0) (tms_one _) (by rw [htl]; simp; omega) hBE.size
              have hBF : Below Wx.heap.size Wx wF := hBE.grown hgF hBE.size (fun j hj => (hoE'.lt j hj).1)
              obtain ⟨vG, wG, hrG, hoG, hgG, _⟩ := run_recsH recTM wF Wx.heap.size vF (.slice af l2 cc2) (c'.l.take k ++ [t]) (c'.l.drop k) hoF (hs2.below hBF) (tms_one _) (by rw [List.length_append, htl]; simp only [List.length_cons, List.length_nil]; omega) hBF.size
              have hBG : Below Wx.heap.size Wx wG := hBF.grown hgG hBF.size (fun j hj => (hoF.lt j hj).1)
              have hcl : cF.l = c'.l.take k ++ [t] ++ c'.l.drop k := by rw [HDD.out.1, ← HTT.out]; exact HINS.out
              rw [← hcl] at hoD hoG
              have hk04 : KeepBut (fun j => j = p) w Wx := HK3.out.trans (KeepBut.of_below (fun j => j = p) (HB34.out.trans ((HBW.out.trans (hBx.mono HBW.out.size)).mono HB34.out.size))) (fun _ _ h => h)
              have hov : (Value.slice a3 k c3).ownBlock = vb.ownBlock ∨ ∀ g, (Value.slice a3 k c3).ownBlock = some g → w.heap.size ≤ g := by have := HO3.out; rw [HV3.out, ← HLN.out] at this; exact this
              have FIN : ∀ wf v, Below Wx.heap.size Wx wf → wf.ownsRow Wx.heap.size 77 5 v cF.l.length (flat tmE cF.l) → RKid w (wf.setCell ⟨p, 1, none⟩ v) p vb cF := fun wf v hB ho => by
                obtain ⟨vb', r, kk, ob⟩ := hRx.put hB ho HSO.out (by rw [HDD.out.2, hnw])
                refine ⟨vb', r, hk04.trans kk (fun _ _ h => h), .inr fun g e => ?_⟩
                rcases ob with ob | ob
                · have h1 := (ho.lt g (by
                    have : vb' = v := by
                      have c1 := r.at.2
                      have c2 := ((hRx.box.belowI hB).set (i := 1) (v := v)).cell 1 v rfl
                      rw [c1] at c2
                      exact Option.some.inj c2
                    rw [← this]; exact e)).1
                  exact Nat.le_trans hk04.size h1
                · exact Nat.le_trans hk04.size (ob g e)
              have HFD := hide (FIN wD vD hBD hoD)
              have HFG := hide (FIN wG vG hBG hoG)
              have m1 := hRx.at.2
              have qA := (hRx.below hBA).at.2
              have qC := (hRx.below hBC).at.2
              have qB := (hRx.below hBB0).at.2
              have qE := (hRx.below hBE).at.2
              have qF := (hRx.below hBF).at.2
              have qD := (hRx.below hBD).at.2
              have qG := (hRx.below hBG).at.2
              have zD := (hRx.below hBD).box.frozen 1
              have zG := (hRx.below hBG).box.frozen 1
              have plx := hRx.box.lt
              have plA := (hRx.below hBA).box.lt
              have tlx := hXTx.lt
              have tlA := (hXTx.belowI hBA).lt
              have t0 := hXTx.cell 0 _ rfl
              have t1 := hXTx.cell 1 _ rfl
              have t2 := hXTx.cell 2 _ rfl
              have t3 := hXTx.cell 3 _ rfl
              have t4 := hXTx.cell 4 _ rfl
              have a0 := (hXTx.belowI hBA).cell 0 _ rfl
              have a1 := (hXTx.belowI hBA).cell 1 _ rfl
              have a2 := (hXTx.belowI hBA).cell 2 _ rfl
              have a3' := (hXTx.belowI hBA).cell 3 _ rfl
              have a4 := (hXTx.belowI hBA).cell 4 _ rfl
              obtain ⟨aA, cA, hvA, _⟩ := owns_shapeR hoA
              obtain ⟨aC, cC, hvC, _⟩ := owns_shapeR hoC
              obtain ⟨aD, cD, hvD, _⟩ := owns_shapeR hoD
              obtain ⟨aE, cE, hvE, _⟩ := owns_shapeR hoE
              obtain ⟨aF, cFF, hvF, _⟩ := owns_shapeR hoF
              obtain ⟨aG, cG, hvG, _⟩ := owns_shapeR hoG
              subst hvA
              subst hvC
              subst hvD
              subst hvE
              subst hvF
              subst hvG
              rw [htl] at hrA hrC hrE hrF
              obtain ⟨n2, hn2⟩ : ∃ n2, n2 = (c'.l.take k ++ [t]).length := ⟨_, rfl⟩
              obtain ⟨n3, hn3⟩ : ∃ n3, n3 = cF.l.length := ⟨_, rfl⟩
              rw [← hn2] at hrC hrD hrF hrG
              rw [← hn3] at hrD hrG HFD HFG
              clear hRx hXTx hsx hcl3 haf hs1 hs2 hl2 hcc2 hBd htl hdl hoA hgA hBA hAA hBA2 hoC hgC hBC hoD hgD hBD hBB0 hsB hoE hgE hBE0 hBE hoE' hoF hgF hBF hoG hgG hBG hcl hk04 hov FIN hn2 hn3 hBx
              subst hwB0
              go_wp2_with fail
              go_region
              all_goals go_wp2_with fail
              all_goals go_ret
              all_goals first
                | exact ⟨rfl, HFD.out⟩
                | exact ⟨rfl, HFG.out⟩
            | succ g =>
              have hz : (k : Int) < (LN : Int) := by omega
              have hkn : k < c'.l.length := by rw [← HLN.out]; omega
              have hsrc := HR4.out.src
              rw [HV3.out] at hsrc
              obtain ⟨_, b, off, hao, hb, hc⟩ := hsrc.at recTM.len hkn
              subst hao
              obtain ⟨s, hs⟩ : ∃ s, s = c'.l[k] := ⟨_, rfl⟩
              rw [← hs] at hc
              have HSS := hide hs
              have HSK : Hid (nmOk s.1) := hide (by rw [hs]; exact HTO.out.2 _ (List.getElem_mem _))
              have HTK : Hid (nmOk t.1) := hide (by rw [HTT.out]; exact HTO.out.1)
              have SS : Hid (∀ Z, Below wr.heap.size wr Z → (Z.cell? ⟨p, 1, none⟩ = some (.slice (some ⟨b, off, none⟩) LN c3) ∧ Z.cell? ⟨b, off + k * 5, none⟩ = some (.int .u8 s.1.1) ∧ Z.cell? ⟨b, off + k * 5 + 1, none⟩ = some (.int .u8 s.1.2.1) ∧ Z.cell? ⟨b, off + k * 5 + 2, none⟩ = some (.int .u32 s.1.2.2.1) ∧ Z.cell? ⟨b, off + k * 5 + 3, none⟩ = some (.int .u32 s.1.2.2.2) ∧ Z.cell? ⟨b, off + k * 5 + 4, none⟩ = some (.int .u32 s.2) ∧ Z.cell? ⟨W3.heap.size, 0, none⟩ = some (.int .u8 t.1.1) ∧ Z.cell? ⟨W3.heap.size, 1, none⟩ = some (.int .u8 t.1.2.1) ∧ Z.cell? ⟨W3.heap.size, 2, none⟩ = some (.int .u32 t.1.2.2.1) ∧ Z.cell? ⟨W3.heap.size, 3, none⟩ = some (.int .u32 t.1.2.2.2) ∧ Z.cell? ⟨W3.heap.size, 4, none⟩ = some (.int .u32 t.2))) := hide (fun Z hB => by
                have hx := HXT4.out.belowI hB
                have hr := (HR4.out.below hB).at.2
                rw [HV3.out, ← HLN.out] at hr
                have hcz := fun j u hu => (hB.cell (p := ⟨b, off + k * 5 + j, none⟩) hb).trans (hc j u hu)
                exact ⟨hr, hcz 0 _ rfl, hcz 1 _ rfl, hcz 2 _ rfl, hcz 3 _ rfl, hcz 4 _ rfl, hx.cell 0 _ rfl, hx.cell 1 _ rfl, hx.cell 2 _ rfl, hx.cell 3 _ rfl, hx.cell 4 _ rfl⟩)
              have ss0 := SS.out wr (Below.refl _ _)
              have HCUR : Hid (Below wr.heap.size wr wr.drew) := hide (Below.refl _ _).drew
              have hoff : LN ≤ 1024 := hLb
              clear hc hsrc hs m1 hb
              cases hah : aheadB s t
              · have HAF := hide hah
                go_wp2_with fail
                go_region_held (fun w' => w'.cell? ⟨p, 1, none⟩ = some (.slice (some ⟨b, off, none⟩) LN c3) ∧ w'.cell? ⟨b, off + k * 5, none⟩ = some (.int .u8 s.1.1) ∧ w'.cell? ⟨b, off + k * 5 + 1, none⟩ = some (.int .u8 s.1.2.1) ∧ w'.cell? ⟨b, off + k * 5 + 2, none⟩ = some (.int .u32 s.1.2.2.1) ∧ w'.cell? ⟨b, off + k * 5 + 3, none⟩ = some (.int .u32 s.1.2.2.2) ∧ w'.cell? ⟨b, off + k * 5 + 4, none⟩ = some (.int .u32 s.2) ∧ w'.cell? ⟨W3.heap.size, 0, none⟩ = some (.int .u8 t.1.1) ∧ w'.cell? ⟨W3.heap.size, 1, none⟩ = some (.int .u8 t.1.2.1) ∧ w'.cell? ⟨W3.heap.size, 2, none⟩ = some (.int .u32 t.1.2.2.1) ∧ w'.cell? ⟨W3.heap.size, 3, none⟩ = some (.int .u32 t.1.2.2.2) ∧ w'.cell? ⟨W3.heap.size, 4, none⟩ = some (.int .u32 t.2)) (go_keep) (first
                  | (go_at_call 32; refine (rahead_any s t _ HSK.out HTK.out).mono ?_; rw [HAF.out]; rintro e Z1 ⟨rfl, hB⟩; replace HCUR := hide (HCUR.out.trans (hB.mono HCUR.out.size)); have ss := SS.out Z1 HCUR.out; clear hB))
                generalize hwx : Z1 = Wx at *
                have hBx : Below wr.heap.size wr Wx := HCUR.out
                have HINS := hide (ins_at HAH.out (fun h => by rw [← HSS.out]; exact HAF.out) (Nat.le_of_lt hkn))
                have hkLN : k ≤ LN := by omega
                clear hah hz hwx SS ss0 ss HCUR
                have hRx := HR4.out.below hBx
                have hXTx := HXT4.out.belowI hBx
                rw [HV3.out, ← HLN.out] at hRx
                have hsx := hRx.src
                rw [HLN.out] at hsx
                have hcl3 := HC3.out
                have hto := fun W => run_toR recTM W (some ⟨b, off, none⟩) LN c3 k (by omega)
                have hfr := fun W => run_fromR recTM W (some ⟨b, off, none⟩) LN c3 k hkLN
                obtain ⟨af, haf⟩ : ∃ af, af = if c3 = k then (some ⟨b, off, none⟩) else ((some ⟨b, off, none⟩) : Option Addr).map (·.add (k * 5)) := ⟨_, rfl⟩
                rw [← haf] at hfr
                have hs1 := src_takeR hsx recTM.len (i := k) (by rw [← HLN.out]; exact hkLN)
                have hs2 := src_dropR hsx recTM.len (i := k) (by rw [← HLN.out]; exact hkLN)
                rw [← haf, ← HLN.out] at hs2
                obtain ⟨l2, hl2⟩ : ∃ l2, l2 = LN - k := ⟨_, rfl⟩
                obtain ⟨cc2, hcc2⟩ : ∃ cc2, cc2 = c3 - k := ⟨_, rfl⟩
                rw [← hl2, ← hcc2] at hfr hs2
                have hBd : Below Wx.heap.size Wx Wx.drew := (Below.refl _ _).drew
                have htl : (c'.l.take k).length = k := by rw [List.length_take, ← HLN.out]; omega
                have hdl : (c'.l.drop k).length ≤ 1024 := by rw [List.length_drop, ← HLN.out]; omega
                -- (A) the first part, the one, the second part
                obtain ⟨vA, wA, hrA, hoA, hgA, _⟩ := run_recsH recTM Wx.drew Wx.heap.size (.slice none 0 0) (.slice (some ⟨b, off, none⟩) k c3) [] (c'.l.take k) (World.ownsRow_nil _ _ _ _) (hs1.below hBd) (tms_one _) (by rw [htl]; simp; omega) (Nat.le_refl _)
                rw [List.nil_append] at hoA
                have hBA : Below Wx.heap.size Wx wA := hBd.grown hgA (Nat.le_refl _) (fun k hk => by cases hk)
                have hAA := alloc_below9 wA (.cells (tmA t) 77)
                have hBA2 := hBA.trans (hAA.mono hBA.size)
                obtain ⟨vC, wC, hrC, hoC, hgC, _⟩ := run_recsH recTM (wA.alloc (.cells (tmA t) 77)) Wx.heap.size vA (.slice (some ⟨wA.heap.size, 0, none⟩) 1 1) (c'.l.take k) [t] (owns_keep hoA (KeepBut.of_below (fun _ => False) hAA) (fun _ _ h => h)) (src_new (enc := tmE) wA t (tmA t) rfl 77) (tms_one _) (by rw [htl]; simp; omega) hBA2.size
                have hBC : Below Wx.heap.size Wx wC := hBA2.grown hgC hBA2.size (fun j hj => (hoA.lt j hj).1)
                obtain ⟨vD, wD, hrD, hoD, hgD, _⟩ := run_recsH recTM wC Wx.heap.size vC (.slice af l2 cc2) (c'.l.take k ++ [t]) (c'.l.drop k) hoC (hs2.below hBC) (tms_one _) (by rw [List.length_append, htl]; simp only [List.length_cons, List.length_nil]; omega) hBC.size
                have hBD : Below Wx.heap.size Wx wD := hBC.grown hgD hBC.size (fun j hj => (hoC.lt j hj).1)
                -- (B) the one, the first part, the second part
                obtain ⟨wB0, hwB0⟩ : ∃ wB0, wB0 = (Wx.alloc (.cells (tmA t) 77)).drew := ⟨_, rfl⟩
                have hBB0 : Below Wx.heap.size Wx wB0 := hwB0 ▸ ((Below.refl Wx.heap.size Wx).alloc (Nat.le_refl _) _).drew
                have hsB : RSrc tmE wB0 (.slice (some ⟨Wx.heap.size, 0, none⟩) 1 1) [t] := by
                  rw [hwB0]
                  exact (src_new (enc := tmE) Wx t (tmA t) rfl 77).below (Below.refl _ _).drew
                obtain ⟨vE, wE, hrE, hoE, hgE, _⟩ := run_recsH recTM wB0 wB0.heap.size (.slice none 0 0) (.slice (some ⟨b, off, none⟩) k c3) [] (c'.l.take k) (World.ownsRow_nil _ _ _ _) (hs1.below hBB0) (tms_one _) (by rw [htl]; simp; omega) (Nat.le_refl _)
                rw [List.nil_append] at hoE
                have hBE0 : Below wB0.heap.size wB0 wE := (Below.refl _ _).grown hgE (Nat.le_refl _) (fun k hk => by cases hk)
                have hBE := hBB0.trans (hBE0.mono hBB0.size)
                have hoE' : wE.ownsRow Wx.heap.size 77 5 vE (c'.l.take k).length (flat tmE (c'.l.take k)) := by
                  obtain ⟨hl, h0 | ⟨g, cap', cur, e, hg, r⟩⟩ := hoE
                  · exact ⟨hl, .inl h0⟩
                  · exact ⟨hl, .inr ⟨g, cap', cur, e, Nat.le_trans hBB0.size hg, r⟩⟩
                obtain ⟨vF, wF, hrF, hoF, hgF, _⟩ := run_recsH recTM wE Wx.heap.size vE (.slice (some ⟨Wx.heap.size, 0, none⟩) 1 1) (c'.l.take k) [t] hoE' (hsB.below hBE0) (tms_one _) (by rw [htl]; simp; omega) hBE.size
                have hBF : Below Wx.heap.size Wx wF := hBE.grown hgF hBE.size (fun j hj => (hoE'.lt j hj).1)
                obtain ⟨vG, wG, hrG, hoG, hgG, _⟩ := run_recsH recTM wF Wx.heap.size vF (.slice af l2 cc2) (c'.l.take k ++ [t]) (c'.l.drop k) hoF (hs2.below hBF) (tms_one _) (by rw [List.length_append, htl]; simp only [List.length_cons, List.length_nil]; omega) hBF.size
                have hBG : Below Wx.heap.size Wx wG := hBF.grown hgG hBF.size (fun j hj => (hoF.lt j hj).1)
                have hcl : cF.l = c'.l.take k ++ [t] ++ c'.l.drop k := by rw [HDD.out.1, ← HTT.out]; exact HINS.out
                rw [← hcl] at hoD hoG
                have hk04 : KeepBut (fun j => j = p) w Wx := HK3.out.trans (KeepBut.of_below (fun j => j = p) (HB34.out.trans ((HBW.out.trans (hBx.mono HBW.out.size)).mono HB34.out.size))) (fun _ _ h => h)
                have hov : (Value.slice (some ⟨b, off, none⟩) LN c3).ownBlock = vb.ownBlock ∨ ∀ g, (Value.slice (some ⟨b, off, none⟩) LN c3).ownBlock = some g → w.heap.size ≤ g := by have := HO3.out; rw [HV3.out, ← HLN.out] at this; exact this
                have FIN : ∀ wf v, Below Wx.heap.size Wx wf → wf.ownsRow Wx.heap.size 77 5 v cF.l.length (flat tmE cF.l) → RKid w (wf.setCell ⟨p, 1, none⟩ v) p vb cF := fun wf v hB ho => by
                  obtain ⟨vb', r, kk, ob⟩ := hRx.put hB ho HSO.out (by rw [HDD.out.2, hnw])
                  refine ⟨vb', r, hk04.trans kk (fun _ _ h => h), .inr fun g e => ?_⟩
                  rcases ob with ob | ob
                  · have h1 := (ho.lt g (by
                      have : vb' = v := by
                        have c1 := r.at.2
                        have c2 := ((hRx.box.belowI hB).set (i := 1) (v := v)).cell 1 v rfl
                        rw [c1] at c2
                        exact Option.some.inj c2
                      rw [← this]; exact e)).1
                    exact Nat.le_trans hk04.size h1
                  · exact Nat.le_trans hk04.size (ob g e)
                have HFD := hide (FIN wD vD hBD hoD)
                have HFG := hide (FIN wG vG hBG hoG)
                have m1 := hRx.at.2
                have qA := (hRx.below hBA).at.2
                have qC := (hRx.below hBC).at.2
                have qB := (hRx.below hBB0).at.2
                have qE := (hRx.below hBE).at.2
                have qF := (hRx.below hBF).at.2
                have qD := (hRx.below hBD).at.2
                have qG := (hRx.below hBG).at.2
                have zD := (hRx.below hBD).box.frozen 1
                have zG := (hRx.below hBG).box.frozen 1
                have plx := hRx.box.lt
                have plA := (hRx.below hBA).box.lt
                have tlx := hXTx.lt
                have tlA := (hXTx.belowI hBA).lt
                have t0 := hXTx.cell 0 _ rfl
                have t1 := hXTx.cell 1 _ rfl
                have t2 := hXTx.cell 2 _ rfl
                have t3 := hXTx.cell 3 _ rfl
                have t4 := hXTx.cell 4 _ rfl
                have a0 := (hXTx.belowI hBA).cell 0 _ rfl
                have a1 := (hXTx.belowI hBA).cell 1 _ rfl
                have a2 := (hXTx.belowI hBA).cell 2 _ rfl
                have a3' := (hXTx.belowI hBA).cell 3 _ rfl
                have a4 := (hXTx.belowI hBA).cell 4 _ rfl
                obtain ⟨aA, cA, hvA, _⟩ := owns_shapeR hoA
                obtain ⟨aC, cC, hvC, _⟩ := owns_shapeR hoC
                obtain ⟨aD, cD, hvD, _⟩ := owns_shapeR hoD
                obtain ⟨aE, cE, hvE, _⟩ := owns_shapeR hoE
                obtain ⟨aF, cFF, hvF, _⟩ := owns_shapeR hoF
                obtain ⟨aG, cG, hvG, _⟩ := owns_shapeR hoG
                subst hvA
                subst hvC
                subst hvD
                subst hvE
                subst hvF
                subst hvG
                rw [htl] at hrA hrC hrE hrF
                obtain ⟨n2, hn2⟩ : ∃ n2, n2 = (c'.l.take k ++ [t]).length := ⟨_, rfl⟩
                obtain ⟨n3, hn3⟩ : ∃ n3, n3 = cF.l.length := ⟨_, rfl⟩
                rw [← hn2] at hrC hrD hrF hrG
                rw [← hn3] at hrD hrG HFD HFG
                clear hRx hXTx hsx hcl3 haf hs1 hs2 hl2 hcc2 hBd htl hdl hoA hgA hBA hAA hBA2 hoC hgC hBC hoD hgD hBD hBB0 hsB hoE hgE hBE0 hBE hoE' hoF hgF hBF hoG hgG hBG hcl hk04 hov FIN hn2 hn3 hBx
                subst hwB0
                go_wp2_with fail
                go_region
                all_goals go_wp2_with fail
                all_goals go_ret
                all_goals first
                  | exact ⟨rfl, HFD.out⟩
                  | exact ⟨rfl, HFG.out⟩
              · have HAF := hide hah
                go_wp2_with fail
                go_region_held (fun w' => w'.cell? ⟨p, 1, none⟩ = some (.slice (some ⟨b, off, none⟩) LN c3) ∧ w'.cell? ⟨b, off + k * 5, none⟩ = some (.int .u8 s.1.1) ∧ w'.cell? ⟨b, off + k * 5 + 1, none⟩ = some (.int .u8 s.1.2.1) ∧ w'.cell? ⟨b, off + k * 5 + 2, none⟩ = some (.int .u32 s.1.2.2.1) ∧ w'.cell? ⟨b, off + k * 5 + 3, none⟩ = some (.int .u32 s.1.2.2.2) ∧ w'.cell? ⟨b, off + k * 5 + 4, none⟩ = some (.int .u32 s.2) ∧ w'.cell? ⟨W3.heap.size, 0, none⟩ = some (.int .u8 t.1.1) ∧ w'.cell? ⟨W3.heap.size, 1, none⟩ = some (.int .u8 t.1.2.1) ∧ w'.cell? ⟨W3.heap.size, 2, none⟩ = some (.int .u32 t.1.2.2.1) ∧ w'.cell? ⟨W3.heap.size, 3, none⟩ = some (.int .u32 t.1.2.2.2) ∧ w'.cell? ⟨W3.heap.size, 4, none⟩ = some (.int .u32 t.2)) (go_keep) (first
                  | (go_at_call 32; refine (rahead_any s t _ HSK.out HTK.out).mono ?_; rw [HAF.out]; rintro e Z1 ⟨rfl, hB⟩; replace HCUR := hide (HCUR.out.trans (hB.mono HCUR.out.size)); have ss := SS.out Z1 HCUR.out; clear hB))
                have HAH2 : Hid (∀ j (hj : j < c'.l.length), j < k + 1 → aheadB c'.l[j] t = true) := hide (fun j hj hjk => by
                  by_cases ej : j = k
                  · subst ej; rw [← HSS.out]; exact HAF.out
                  · exact HAH.out j hj (by omega))
                have HBZ := hide (HBW.out.trans (HCUR.out.mono HBW.out.size))
                clear hah ss ss0 SS HCUR
                go_wp2_with fail
                go_roundg g
                case measure => omega
                case rel => exact ⟨k + 1, by omega, by first | rfl | go_num, HAH2, HBZ⟩
end Go.Proofs.Ytgjdlclkibiffaa
