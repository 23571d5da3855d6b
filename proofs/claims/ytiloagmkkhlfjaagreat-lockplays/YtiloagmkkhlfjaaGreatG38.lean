/-
  Own texts put together: LrOn. Own work.
-/
import Derived.Test.YtiloagmkkhlfjaaGreatG36
import Derived.Test.YtiloagmkkhlfjaaGreatG37
import Derived.Test.YtiloagmkkhlfjaaGreatG16
import Derived.Deep.RegionWith
namespace Go.Proofs.YtiloagmkkhlfjaaGreat
section
open Go.RowKit Go.Maps Classical
theorem rl_of {w w' : World} {r : Nat} {F : Nat → Prop} {C : Nat} {l' : List (aS KeyT)} {vL vH vW vL' vH' vW' : Value} {L' : List UsR} {H' W' : List (cD KeyT)} (hF : ∀ k, F k ↔ k = r ∨ dQ vL vH vW k) (h : dC w w' r vL vH vW vL' vH' vW' L' H' W') (hr : eF l' L' H' W') (hb : dD l') (hC : H'.length + W'.length ≤ C) : fP dR w w' r F C l' :=
 ⟨fun k => k = r ∨ dQ vL' vH' vW' k, ⟨vL', vH', vW', L', H', W', h.t, hr, hb, hC, fun _ => Iff.rfl⟩, h.k.mono (fun k e => (hF k).2 (.inl e)), fun k hk => by
  rcases hk with e | e
  ·exact .inl ((hF k).2 (.inl e))
  ·exact (h.u k e).imp (fun e => (hF k).2 (.inr e)) id⟩
def OnQ (w : World) (r : Nat) (F : Nat → Prop) (C : Nat) (l : List (aS KeyT)) (v : Value) (w' : World) : Prop := ∃ gr l', OnR cQ l gr l' ∧ fP dR w w' r F C l' ∧ w'.ownsRow w.heap.size 62 12 v gr.length (bR gtE gr)
theorem on_a {w wo w3 w4 w5 w6 : World} {r p6 : Nat} {vL0 vH0 vW0 vL vH vW vL2 vH2 vW2 : Value} {L L2 : List UsR} {H W H2 W2 : List (cD KeyT)} (h1 : dC w wo r vL0 vH0 vW0 vL vH vW L H W) (hB : Below wo.heap.size wo w3) (h2 : dC w3 w4 r vL vH vW vL2 vH2 vW2 L2 H2 W2) (hB5 : Below w4.heap.size w4 w5) (hk : aC (fun j => j = p6) w5 w6) (hp : w.heap.size ≤ p6) (hpr : p6 ≠ r) (hp1 : wo.heap.size ≤ p6) (hp2 : p6 < w3.heap.size) : dC w w6 r vL0 vH0 vW0 vL2 vH2 vW2 L2 H2 W2 :=
 (((h1.after hB).trans h2).after hB5).later hk (fun j hj e => by
   subst e
   rcases hj with e | e
   ·exact hpr e
   ·rcases h2.u _ e with e | e
    ·have := (h1.t.far _ e).1; omega
    ·omega) (fun j e => by rw [e]; exact hp)
theorem on_o {wo w3 w4 w5 w6 : World} {r p6 base n : Nat} {v : Value} {xs : List Value} (ho : wo.ownsRow base 62 12 v n xs) (hB : Below wo.heap.size wo w3) (hk4 : aC (fun j => j = r) w3 w4) (hB5 : Below w4.heap.size w4 w5) (hk : aC (fun j => j = p6) w5 w6) (hn : ∀ q, v.ownBlock = some q → q ≠ r ∧ q ≠ p6) : w6.ownsRow base 62 12 v n xs :=
 aJ (aJ (aJ (aJ ho (aC.of_below (fun _ => False) hB) (fun _ _ h => h)) hk4 (fun q hq => (hn q hq).1)) (aC.of_below (fun _ => False) hB5) (fun _ _ h => h)) hk (fun q hq => (hn q hq).2)
theorem on_u {w wo w3 w4 w6 w7 wi : World} {r base n : Nat} {vo : Value} {xs : List Value} {w5 : World} {vL0 vH0 vW0 vL vH vW vL2 vH2 vW2 vL3 vH3 vW3 : Value} {L L2 L3 : List UsR} {H W H2 W2 H3 W3 : List (cD KeyT)} (ha : ∀ g, vo.ownBlock = some g → ¬ dQ vL vH vW g) (_ : dC w wo r vL0 vH0 vW0 vL vH vW L H W) (h2 : dC w3 w4 r vL vH vW vL2 vH2 vW2 L2 H2 W2) (h3 : dC w6 w7 r vL2 vH2 vW2 vL3 vH3 vW3 L3 H3 W3) (ho : wo.ownsRow base 62 12 vo n xs) (hs : wo.heap.size ≤ wi.heap.size) (hs3 : wi.heap.size ≤ w3.heap.size) (hs5 : w4.heap.size ≤ w5.heap.size) (hs6 : w5.heap.size ≤ w6.heap.size) : ∀ g, vo.ownBlock = some g → ¬ dQ vL3 vH3 vW3 g := fun g hg e => by
 have h4 := (ho.lt g hg).2
 have h5 := h2.k.size
 rcases h3.u g e with e | e
 ·rcases h2.u g e with e | e
  ·exact ha g hg e
  ·omega
 ·omega
theorem on_f {w w7 wa w9 : World} {r base n n9 : Nat} {vo v9 : Value} {xs : List Value} {vL0 vH0 vW0 vL vH vW : Value} {L : List UsR} {H W : List (cD KeyT)} (h : dC w w7 r vL0 vH0 vW0 vL vH vW L H W) (hA : Below w7.heap.size w7 wa) (hg : wa.grownBy w9 vo.ownBlock) (hob : v9.ownBlock = vo.ownBlock ∨ v9.ownBlock = some wa.heap.size) (hu : ∀ g, vo.ownBlock = some g → ¬ dQ vL vH vW g) (ho : w7.ownsRow w.heap.size base n vo n9 xs) (hr : r < w.heap.size) :
  dC w w9 r vL0 vH0 vW0 vL vH vW L H W ∧ ∀ g, v9.ownBlock = some g → ¬ dQ vL vH vW g := by
 refine ⟨(h.after hA).later (S := fun j => vo.ownBlock = some j) ⟨hg.os, hg.tape, hg.output, hg.size, fun j hj hn => hg.block j hj (fun e => hn e.symm)⟩ (fun j hj e => ?_) (fun j e => (ho.lt j e).1), fun g e hj => ?_⟩
 ·rcases hj with e2 | e2
  ·have := (ho.lt j e).1; omega
  ·exact hu j e e2
 ·rcases hob with e2 | e2
  ·rw [e2] at e; exact hu g e hj
  ·rw [e2] at e
   have h1 := (h.t.far g hj).1
   have h2 := hA.size
   have h3 := Option.some.inj e
   omega
attribute [local go_sem ↓] iW
set_option maxRecDepth 100000 in
set_option maxHeartbeats 12800000 in
theorem ron_any15 (r C : Nat) (F : Nat → Prop) (l : List (aS KeyT)) (w : World) (h : dR w r F C l) (hC : C ≤ 10000) :
  Calls Tryz.prog 52 #[.pointer (some ⟨r, 0, none⟩)] w fun e w' => ∃ v, e = .returned v ∧ OnQ w r F C l v w' := by
 obtain ⟨vL0, vH0, vW0, L0, H0, W0, hT0, hR0, hb0, hC0, hF⟩ := h
 have HF := aA hF
 have HT0 := aA hT0
 obtain ⟨M0, hM0⟩ : ∃ M0, M0 = W0.length := ⟨_, rfl⟩
 have HSTART : Hid (∃ vL vH vW L H W, dC w w r vL0 vH0 vW0 vL vH vW L H W ∧ eF l L H W ∧ dD l ∧ H.length + W.length ≤ C ∧ W.length = M0) := aA ⟨vL0, vH0, vW0, L0, H0, W0, ⟨hT0, aC.refl _ _, fun j hj => .inl hj⟩, hR0, hb0, hC0, hM0.symm⟩
 have HM0 : Hid (M0 ≤ 10000) := aA (by omega)
 clear hF hT0 hR0 hb0 hC0 hM0
 go_enter Tryz.func52, Tryz.ntmps52
 go_wp2_with fail
 go_loopg [3] M0 (fun gf o wr => ∃ (gs : List (cD KeyT)) (lc : List (aS KeyT)) (ax : Option Addr) (n cx : Nat) (vL vH vW : Value) (L : List UsR) (H W : List (cD KeyT)), o = .slice ax n cx ∧ Hid (n = gs.length) ∧ Hid (∀ gr l', OnR cQ lc gr l' → OnR cQ l (gs ++ gr) l') ∧ Hid (dC w wr r vL0 vH0 vW0 vL vH vW L H W) ∧ Hid (eF lc L H W) ∧ Hid (dD lc) ∧ Hid (H.length + W.length ≤ C) ∧ Hid (W.length = gf) ∧ Hid (wr.ownsRow w.heap.size 62 12 (.slice ax n cx) n (bR gtE gs)) ∧ Hid (∀ g, (Value.slice ax n cx).ownBlock = some g → ¬ dQ vL vH vW g) ∧ Hid (gs.length + gf ≤ M0))
 case atStart =>
  obtain ⟨vL, vH, vW, L, H, W, h1, h2, h3, h4, h5⟩ := HSTART.out
  exact ⟨[], l, none, 0, 0, vL, vH, vW, L, H, W, rfl, aA rfl, aA (fun gr l' h => h), aA h1, aA h2, aA h3, aA h4, aA h5, aA (World.ownsRow_nil _ _ _ _), aA (fun g e => by cases e), aA (by simp)⟩
 case round =>
  obtain ⟨gs, lc, ax, n, cx, vL, vH, vW, L, H, W, rfl, HN, HON, HP, HRP, HLB, HCC, HWL, HO, HAP, HGL⟩ := hrel
  obtain rfl := HRP.out.us
  obtain ⟨aW, cap, hvW, _, _⟩ := HP.out.t.sW.shape
  subst hvW
  obtain ⟨N, hN⟩ : ∃ N, N = W.length := ⟨_, rfl⟩
  have HL := aA hN
  have hNb : N ≤ 10000 := by have := HCC.out; omega
  have hgN : gk = N := by rw [hN]; exact HWL.out.symm
  have HC2 : Hid (∀ V, Below wr.heap.size wr V → V.cell? ⟨r, 2, none⟩ = some (.slice aW N cap)) := aA (fun V hV => by rw [hN]; exact (HP.out.t.below hV).c2)
  have HSW : Hid (bI gtE wr (.slice aW N cap) W) := aA (by rw [hN]; exact HP.out.t.sW)
  have HGN := aA hgN
  clear hN hgN
  go_wp2_with fail
  go_loopg [4, 5] N (fun gi bv i V => ∃ (k : Nat) (bt : Int), k + gi = N ∧ bv = .int .i64 bt ∧ i = .int .i64 (k : Int) ∧ Hid (Best lc W k bt) ∧ Hid (Below wr.heap.size wr V))
  case atStart => exact ⟨0, -1, by omega, rfl, rfl, aA (.inl ⟨rfl, fun j hj h0 => by omega⟩), aA (Below.refl _ _)⟩
  case round =>
   obtain ⟨k, bt, hk, rfl, rfl, HBE, HBV⟩ := hrel
   have m2 := HC2.out wr HBV.out
   cases gk with
   | succ gi =>
    have hkN : k < N := by omega
    have hkI : (k : Int) < (N : Int) := by omega
    have hkn : k < W.length := by rw [← HL.out]; exact hkN
    obtain ⟨en, b, off, hao, hbl, hc⟩ := (HSW.out.below HBV.out).at dJ.len hkn
    subst hao
    have HC : Hid (∀ V, Below wr.heap.size wr V → V.cell? ⟨r, 2, none⟩ = some (.slice (some ⟨b, off, none⟩) N cap)) := aA (fun V hV => HC2.out V (HBV.out.trans (hV.mono HBV.out.size)))
    have HRX : Hid (∀ V, Below wr.heap.size wr V → V.rangeAt b (off + k * 12) (gtE W[k])) := aA (fun V hV j v hv => (hV.cell (p := ⟨b, off + k * 12 + j, none⟩) hbl).trans (hc j v hv))
    have HNX := aA (best_next HRP.out HLB.out hkn HBE.out)
    have HTq := aA (fun V (hV : Below wr.heap.size wr V) => HP.out.t.below (HBV.out.trans (hV.mono HBV.out.size)))
    have hgx := HRP.out.w.got HLB.out (List.getElem_mem hkn)
    have hfew2 : H.length + W.length ≤ 10000 := Nat.le_trans HCC.out hC
    have HCF : Hid (∀ V, Below wr.heap.size wr V → Calls Tryz.prog 80 #[.pointer (some ⟨r, 0, none⟩), .agg (bW W[k])] V fun e w' => e = .returned (.bool (decide (¬ NF lc (aT lc W[k].tx) W[k].key))) ∧ Below V.heap.size V w') := aA (fun V hV => rfree_any15 r _ _ _ _ lc H W W[k] V (HTq.out V hV) HRP.out HLB.out (List.getElem_mem hkn) hfew2)
    by_cases hnf : NF lc (aT lc W[k].tx) W[k].key
    ·have HBE2 := aA (HNX.out.1 hnf)
     have CF : Hid (∀ V, Below wr.heap.size wr V → Calls Tryz.prog 80 #[.pointer (some ⟨r, 0, none⟩), .agg (bW W[k])] V fun e w' => e = .returned (.bool false) ∧ Below V.heap.size V w') := aA (fun V hV => by have := HCF.out V hV; rw [decide_eq_false (fun h => h hnf)] at this; exact this)
     clear HCF hnf hgx HNX hc en hbl
     generalize W[k] = x at *
     go_wp2_with fail
     refine bD (by kernel_rfl) [(16, .pointer (some ⟨r, 0, none⟩)), (17, .pointer (some ⟨r, 0, none⟩)), (18, .pointer (some ⟨r, 0, none⟩)), (19, .pointer (some ⟨r, 2, none⟩)), (20, .slice (some ⟨b, off, none⟩) N cap), (21, .int .i64 (k : Int)), (22, .pointer (some ⟨b, off + k * 12, none⟩)), (23, .agg (bW x)), (24, .bool false), (25, .bool false), (26, undef), (27, undef), (28, undef), (29, undef), (30, undef), (31, undef), (32, undef), (33, undef), (34, undef), (35, undef), (36, undef), (37, undef), (38, undef), (39, undef), (40, undef), (41, undef), (42, undef), (43, undef), (44, undef), (45, undef), (46, .bool false)] (by kernel_rfl) rfl ?_ ?_
     ·intro i o hi A w1 hB hold hdeps
      have hlt : i < 31 := (Array.getElem?_eq_some_iff.1 hi).1
      have hc : i = 0 ∨ i = 1 ∨ i = 2 ∨ i = 3 ∨ i = 4 ∨ i = 5 ∨ i = 6 ∨ i = 7 ∨ i = 8 ∨ i = 9 ∨ i = 10 ∨ i = 11 ∨ i = 12 ∨ i = 13 ∨ i = 14 ∨ i = 15 ∨ i = 16 ∨ i = 17 ∨ i = 18 ∨ i = 19 ∨ i = 20 ∨ i = 21 ∨ i = 22 ∨ i = 23 ∨ i = 24 ∨ i = 25 ∨ i = 26 ∨ i = 27 ∨ i = 28 ∨ i = 29 ∨ i = 30 := by omega
      clear hlt
      rcases hc with rfl|rfl|rfl|rfl|rfl|rfl|rfl|rfl|rfl|rfl|rfl|rfl|rfl|rfl|rfl|rfl|rfl|rfl|rfl|rfl|rfl|rfl|rfl|rfl|rfl|rfl|rfl|rfl|rfl|rfl|rfl <;> obtain rfl := Option.some.inj hi
      ·have s0 : A.tmps.getD 0 undef = .pointer (some ⟨r, 0, none⟩) := hold 0 (by kernel_rfl)
       exact aD hi rfl rfl (aR _ s0)
      ·have s0 : A.tmps.getD 0 undef = .pointer (some ⟨r, 0, none⟩) := hold 0 (by kernel_rfl)
       exact aD hi rfl rfl (aR _ s0)
      ·have s17 : A.tmps.getD 17 undef = .pointer (some ⟨r, 0, none⟩) := aB hdeps 1 (by kernel_rfl)
       exact aD hi rfl rfl (dY _ s17)
      ·have s18 : A.tmps.getD 18 undef = .pointer (some ⟨r, 0, none⟩) := aB hdeps 2 (by kernel_rfl)
       exact aD hi rfl rfl (fU _ s18)
      ·have s19 : A.tmps.getD 19 undef = .pointer (some ⟨r, 2, none⟩) := aB hdeps 3 (by kernel_rfl)
       exact aD hi rfl rfl (dF _ s19 (HC.out w1 hB))
      ·have s5 : A.tmps.getD 5 undef = .int .i64 (k : Int) := hold 5 (by kernel_rfl)
       exact aD hi rfl rfl (aR _ s5)
      ·have s20 : A.tmps.getD 20 undef = .slice (some ⟨b, off, none⟩) N cap := aB hdeps 4 (by kernel_rfl)
       have s21 : A.tmps.getD 21 undef = .int .i64 (k : Int) := aB hdeps 5 (by kernel_rfl)
       exact aD hi rfl rfl (eQ _ _ s20 s21 hkN)
      ·have s22 : A.tmps.getD 22 undef = .pointer (some ⟨b, off + k * 12, none⟩) := aB hdeps 6 (by kernel_rfl)
       exact aD hi rfl rfl (f9 (g := x) _ s22 (HRX.out w1 hB))
      ·have s16 : A.tmps.getD 16 undef = .pointer (some ⟨r, 0, none⟩) := aB hdeps 0 (by kernel_rfl)
       have s23 : A.tmps.getD 23 undef = .agg (bW x) := aB hdeps 7 (by kernel_rfl)
       exact cF hi rfl rfl (cC 80 _ #[.pointer (some ⟨r, 0, none⟩), .agg (bW x)] _ rfl (by simp only [List.map_toArray, List.map_cons, List.map_nil, show A.eval (.tmp 16) = .pointer (some ⟨r, 0, none⟩) from s16, show A.eval (.tmp 23) = .agg (bW x) from s23]; try rfl) en_freeR) (CF.out w1 hB)
      ·have s24 : A.tmps.getD 24 undef = .bool false := aB hdeps 8 (by kernel_rfl)
       exact aD hi rfl rfl (aR _ s24)
      ·have g10 : A.tmps.getD 25 undef = .bool false := aB hdeps 9 (by kernel_rfl)
       exact aI hi rfl rfl (fun e => absurd (g10.symm.trans e) (by simp)) rfl
      ·have g11 : A.tmps.getD 25 undef = .bool false := aB hdeps 9 (by kernel_rfl)
       exact aI hi rfl rfl (fun e => absurd (g11.symm.trans e) (by simp)) rfl
      ·have g12 : A.tmps.getD 25 undef = .bool false := aB hdeps 9 (by kernel_rfl)
       exact aI hi rfl rfl (fun e => absurd (g12.symm.trans e) (by simp)) rfl
      ·have g13 : A.tmps.getD 28 undef = undef := aB hdeps 12 (by kernel_rfl)
       exact aI hi rfl rfl (fun e => absurd (g13.symm.trans e) (by simp [undef])) rfl
      ·have g14 : A.tmps.getD 28 undef = undef := aB hdeps 12 (by kernel_rfl)
       exact aI hi rfl rfl (fun e => absurd (g14.symm.trans e) (by simp [undef])) rfl
      ·have g15 : A.tmps.getD 28 undef = undef := aB hdeps 12 (by kernel_rfl)
       exact aI hi rfl rfl (fun e => absurd (g15.symm.trans e) (by simp [undef])) rfl
      ·have g16 : A.tmps.getD 28 undef = undef := aB hdeps 12 (by kernel_rfl)
       exact aI hi rfl rfl (fun e => absurd (g16.symm.trans e) (by simp [undef])) rfl
      ·have g17 : A.tmps.getD 28 undef = undef := aB hdeps 12 (by kernel_rfl)
       exact aI hi rfl rfl (fun e => absurd (g17.symm.trans e) (by simp [undef])) rfl
      ·have g18 : A.tmps.getD 28 undef = undef := aB hdeps 12 (by kernel_rfl)
       exact aI hi rfl rfl (fun e => absurd (g18.symm.trans e) (by simp [undef])) rfl
      ·have g19 : A.tmps.getD 28 undef = undef := aB hdeps 12 (by kernel_rfl)
       exact aI hi rfl rfl (fun e => absurd (g19.symm.trans e) (by simp [undef])) rfl
      ·have g20 : A.tmps.getD 28 undef = undef := aB hdeps 12 (by kernel_rfl)
       exact aI hi rfl rfl (fun e => absurd (g20.symm.trans e) (by simp [undef])) rfl
      ·have g21 : A.tmps.getD 28 undef = undef := aB hdeps 12 (by kernel_rfl)
       exact aI hi rfl rfl (fun e => absurd (g21.symm.trans e) (by simp [undef])) rfl
      ·have g22 : A.tmps.getD 28 undef = undef := aB hdeps 12 (by kernel_rfl)
       exact aI hi rfl rfl (fun e => absurd (g22.symm.trans e) (by simp [undef])) rfl
      ·have g23 : A.tmps.getD 28 undef = undef := aB hdeps 12 (by kernel_rfl)
       exact aI hi rfl rfl (fun e => absurd (g23.symm.trans e) (by simp [undef])) rfl
      ·have g24 : A.tmps.getD 28 undef = undef := aB hdeps 12 (by kernel_rfl)
       exact aI hi rfl rfl (fun e => absurd (g24.symm.trans e) (by simp [undef])) rfl
      ·have g25 : A.tmps.getD 28 undef = undef := aB hdeps 12 (by kernel_rfl)
       exact aI hi rfl rfl (fun e => absurd (g25.symm.trans e) (by simp [undef])) rfl
      ·have g26 : A.tmps.getD 28 undef = undef := aB hdeps 12 (by kernel_rfl)
       exact aI hi rfl rfl (fun e => absurd (g26.symm.trans e) (by simp [undef])) rfl
      ·have g27 : A.tmps.getD 28 undef = undef := aB hdeps 12 (by kernel_rfl)
       exact aI hi rfl rfl (fun e => absurd (g27.symm.trans e) (by simp [undef])) rfl
      ·have g28 : A.tmps.getD 28 undef = undef := aB hdeps 12 (by kernel_rfl)
       exact aI hi rfl rfl (fun e => absurd (g28.symm.trans e) (by simp [undef])) rfl
      ·have g29 : A.tmps.getD 25 undef = .bool false := aB hdeps 9 (by kernel_rfl)
       exact aI hi rfl rfl (fun e => absurd (g29.symm.trans e) (by simp)) rfl
      ·have s25 : A.tmps.getD 25 undef = .bool false := aB hdeps 9 (by kernel_rfl)
       exact aD hi rfl rfl (dB _ _ _ s25 rfl)
     ·intro w10 hB10
      simp only [cA, Act.put, List.setIfInBounds_toArray, List.set_cons_succ, List.set_cons_zero]
      go_wp2_with fail
      go_roundg gi
      case measure => omega
      case rel => exact ⟨k + 1, bt, by omega, by first | rfl | go_num, by first | rfl | go_num, HBE2, aA (HBV.out.trans (hB10.mono HBV.out.size))⟩
    ·have CF : Hid (∀ V, Below wr.heap.size wr V → Calls Tryz.prog 80 #[.pointer (some ⟨r, 0, none⟩), .agg (bW W[k])] V fun e w' => e = .returned (.bool true) ∧ Below V.heap.size V w') := aA (fun V hV => by have := HCF.out V hV; rw [decide_eq_true hnf] at this; exact this)
     rcases HBE.out with ⟨hbt, _⟩ | ⟨m, hbt, hmk, hm, _⟩
     ·subst hbt
      have HBE2 := aA (HNX.out.2.1 hnf rfl)
      have hneg := fH (-1) 0 true (by decide)
      clear HCF hnf hgx HNX hc en hbl
      generalize W[k] = x at *
      go_wp2_with fail
      refine bD (by kernel_rfl) [(16, .pointer (some ⟨r, 0, none⟩)), (17, .pointer (some ⟨r, 0, none⟩)), (18, .pointer (some ⟨r, 0, none⟩)), (19, .pointer (some ⟨r, 2, none⟩)), (20, .slice (some ⟨b, off, none⟩) N cap), (21, .int .i64 (k : Int)), (22, .pointer (some ⟨b, off + k * 12, none⟩)), (23, .agg (bW x)), (24, .bool true), (25, .bool true), (26, .int .i64 (-1)), (27, .bool true), (28, .bool true), (29, undef), (30, undef), (31, undef), (32, undef), (33, undef), (34, undef), (35, undef), (36, undef), (37, undef), (38, undef), (39, undef), (40, undef), (41, undef), (42, undef), (43, undef), (44, undef), (45, .bool true), (46, .bool true)] (by kernel_rfl) rfl ?_ ?_
      ·intro i o hi A w1 hB hold hdeps
       have hlt : i < 31 := (Array.getElem?_eq_some_iff.1 hi).1
       have hc : i = 0 ∨ i = 1 ∨ i = 2 ∨ i = 3 ∨ i = 4 ∨ i = 5 ∨ i = 6 ∨ i = 7 ∨ i = 8 ∨ i = 9 ∨ i = 10 ∨ i = 11 ∨ i = 12 ∨ i = 13 ∨ i = 14 ∨ i = 15 ∨ i = 16 ∨ i = 17 ∨ i = 18 ∨ i = 19 ∨ i = 20 ∨ i = 21 ∨ i = 22 ∨ i = 23 ∨ i = 24 ∨ i = 25 ∨ i = 26 ∨ i = 27 ∨ i = 28 ∨ i = 29 ∨ i = 30 := by omega
       clear hlt
       rcases hc with rfl|rfl|rfl|rfl|rfl|rfl|rfl|rfl|rfl|rfl|rfl|rfl|rfl|rfl|rfl|rfl|rfl|rfl|rfl|rfl|rfl|rfl|rfl|rfl|rfl|rfl|rfl|rfl|rfl|rfl|rfl <;> obtain rfl := Option.some.inj hi
       ·have s0 : A.tmps.getD 0 undef = .pointer (some ⟨r, 0, none⟩) := hold 0 (by kernel_rfl)
        exact aD hi rfl rfl (aR _ s0)
       ·have s0 : A.tmps.getD 0 undef = .pointer (some ⟨r, 0, none⟩) := hold 0 (by kernel_rfl)
        exact aD hi rfl rfl (aR _ s0)
       ·have s17 : A.tmps.getD 17 undef = .pointer (some ⟨r, 0, none⟩) := aB hdeps 1 (by kernel_rfl)
        exact aD hi rfl rfl (dY _ s17)
       ·have s18 : A.tmps.getD 18 undef = .pointer (some ⟨r, 0, none⟩) := aB hdeps 2 (by kernel_rfl)
        exact aD hi rfl rfl (fU _ s18)
       ·have s19 : A.tmps.getD 19 undef = .pointer (some ⟨r, 2, none⟩) := aB hdeps 3 (by kernel_rfl)
        exact aD hi rfl rfl (dF _ s19 (HC.out w1 hB))
       ·have s5 : A.tmps.getD 5 undef = .int .i64 (k : Int) := hold 5 (by kernel_rfl)
        exact aD hi rfl rfl (aR _ s5)
       ·have s20 : A.tmps.getD 20 undef = .slice (some ⟨b, off, none⟩) N cap := aB hdeps 4 (by kernel_rfl)
        have s21 : A.tmps.getD 21 undef = .int .i64 (k : Int) := aB hdeps 5 (by kernel_rfl)
        exact aD hi rfl rfl (eQ _ _ s20 s21 hkN)
       ·have s22 : A.tmps.getD 22 undef = .pointer (some ⟨b, off + k * 12, none⟩) := aB hdeps 6 (by kernel_rfl)
        exact aD hi rfl rfl (f9 (g := x) _ s22 (HRX.out w1 hB))
       ·have s16 : A.tmps.getD 16 undef = .pointer (some ⟨r, 0, none⟩) := aB hdeps 0 (by kernel_rfl)
        have s23 : A.tmps.getD 23 undef = .agg (bW x) := aB hdeps 7 (by kernel_rfl)
        exact cF hi rfl rfl (cC 80 _ #[.pointer (some ⟨r, 0, none⟩), .agg (bW x)] _ rfl (by simp only [List.map_toArray, List.map_cons, List.map_nil, show A.eval (.tmp 16) = .pointer (some ⟨r, 0, none⟩) from s16, show A.eval (.tmp 23) = .agg (bW x) from s23]; try rfl) en_freeR) (CF.out w1 hB)
       ·have s24 : A.tmps.getD 24 undef = .bool true := aB hdeps 8 (by kernel_rfl)
        exact aD hi rfl rfl (aR _ s24)
       ·have g10 : A.tmps.getD 25 undef = .bool true := aB hdeps 9 (by kernel_rfl)
        have s4 : A.tmps.getD 4 undef = .int .i64 (-1) := hold 4 (by kernel_rfl)
        exact aD hi (aM rfl rfl g10) rfl (aR _ s4)
       ·have g11 : A.tmps.getD 25 undef = .bool true := aB hdeps 9 (by kernel_rfl)
        have s26 : A.tmps.getD 26 undef = .int .i64 (-1) := aB hdeps 10 (by kernel_rfl)
        exact aD hi (aM rfl rfl g11) rfl (eE _ _ _ _ _ s26 rfl (hneg w1) (by kernel_rfl))
       ·have g12 : A.tmps.getD 25 undef = .bool true := aB hdeps 9 (by kernel_rfl)
        have s27 : A.tmps.getD 27 undef = .bool true := aB hdeps 11 (by kernel_rfl)
        exact aD hi (aM rfl rfl g12) rfl (aR _ s27)
       ·have g13 : A.tmps.getD 28 undef = .bool true := aB hdeps 12 (by kernel_rfl)
        exact aI hi rfl rfl (fun e => absurd (g13.symm.trans e) (by simp)) rfl
       ·have g14 : A.tmps.getD 28 undef = .bool true := aB hdeps 12 (by kernel_rfl)
        exact aI hi rfl rfl (fun e => absurd (g14.symm.trans e) (by simp)) rfl
       ·have g15 : A.tmps.getD 28 undef = .bool true := aB hdeps 12 (by kernel_rfl)
        exact aI hi rfl rfl (fun e => absurd (g15.symm.trans e) (by simp)) rfl
       ·have g16 : A.tmps.getD 28 undef = .bool true := aB hdeps 12 (by kernel_rfl)
        exact aI hi rfl rfl (fun e => absurd (g16.symm.trans e) (by simp)) rfl
       ·have g17 : A.tmps.getD 28 undef = .bool true := aB hdeps 12 (by kernel_rfl)
        exact aI hi rfl rfl (fun e => absurd (g17.symm.trans e) (by simp)) rfl
       ·have g18 : A.tmps.getD 28 undef = .bool true := aB hdeps 12 (by kernel_rfl)
        exact aI hi rfl rfl (fun e => absurd (g18.symm.trans e) (by simp)) rfl
       ·have g19 : A.tmps.getD 28 undef = .bool true := aB hdeps 12 (by kernel_rfl)
        exact aI hi rfl rfl (fun e => absurd (g19.symm.trans e) (by simp)) rfl
       ·have g20 : A.tmps.getD 28 undef = .bool true := aB hdeps 12 (by kernel_rfl)
        exact aI hi rfl rfl (fun e => absurd (g20.symm.trans e) (by simp)) rfl
       ·have g21 : A.tmps.getD 28 undef = .bool true := aB hdeps 12 (by kernel_rfl)
        exact aI hi rfl rfl (fun e => absurd (g21.symm.trans e) (by simp)) rfl
       ·have g22 : A.tmps.getD 28 undef = .bool true := aB hdeps 12 (by kernel_rfl)
        exact aI hi rfl rfl (fun e => absurd (g22.symm.trans e) (by simp)) rfl
       ·have g23 : A.tmps.getD 28 undef = .bool true := aB hdeps 12 (by kernel_rfl)
        exact aI hi rfl rfl (fun e => absurd (g23.symm.trans e) (by simp)) rfl
       ·have g24 : A.tmps.getD 28 undef = .bool true := aB hdeps 12 (by kernel_rfl)
        exact aI hi rfl rfl (fun e => absurd (g24.symm.trans e) (by simp)) rfl
       ·have g25 : A.tmps.getD 28 undef = .bool true := aB hdeps 12 (by kernel_rfl)
        exact aI hi rfl rfl (fun e => absurd (g25.symm.trans e) (by simp)) rfl
       ·have g26 : A.tmps.getD 28 undef = .bool true := aB hdeps 12 (by kernel_rfl)
        exact aI hi rfl rfl (fun e => absurd (g26.symm.trans e) (by simp)) rfl
       ·have g27 : A.tmps.getD 28 undef = .bool true := aB hdeps 12 (by kernel_rfl)
        exact aI hi rfl rfl (fun e => absurd (g27.symm.trans e) (by simp)) rfl
       ·have g28 : A.tmps.getD 28 undef = .bool true := aB hdeps 12 (by kernel_rfl)
        exact aI hi rfl rfl (fun e => absurd (g28.symm.trans e) (by simp)) rfl
       ·have g29 : A.tmps.getD 25 undef = .bool true := aB hdeps 9 (by kernel_rfl)
        have s28 : A.tmps.getD 28 undef = .bool true := aB hdeps 12 (by kernel_rfl)
        exact aD hi (aM rfl rfl g29) rfl (dT _ _ _ s28 rfl)
       ·have s25 : A.tmps.getD 25 undef = .bool true := aB hdeps 9 (by kernel_rfl)
        have s45 : A.tmps.getD 45 undef = .bool true := aB hdeps 29 (by kernel_rfl)
        exact aD hi rfl rfl (dT _ _ _ s25 s45)
      ·intro w10 hB10
       simp only [cA, Act.put, List.setIfInBounds_toArray, List.set_cons_succ, List.set_cons_zero]
       go_wp2_with fail
       go_roundg gi
       case measure => omega
       case rel => exact ⟨k + 1, (k : Int), by omega, by first | rfl | go_num, by first | rfl | go_num, HBE2, aA (HBV.out.trans (hB10.mono HBV.out.size))⟩
     ·subst hbt
      have HNM := aA (HNX.out.2.2 hnf m rfl hm)
      have hmN : m < N := by rw [HL.out]; exact hm
      have hpos := fH (m : Int) 0 false (decide_eq_false (by omega))
      have hgy := HRP.out.w.got HLB.out (List.getElem_mem hm)
      obtain ⟨en2, b2, off2, hao2, _, hcy⟩ := (HSW.out.below HBV.out).at dJ.len hm
      cases hao2
      have HRY : Hid (∀ V, Below wr.heap.size wr V → V.rangeAt b (off + m * 12) (gtE W[m])) := aA (fun V hV j v hv => (hV.cell (p := ⟨b, off + m * 12 + j, none⟩) hbl).trans (hcy j v hv))
      have HCB : Hid (∀ V, Below wr.heap.size wr V → Calls Tryz.prog 81 #[.pointer (some ⟨r, 0, none⟩), .agg (bW W[k]), .agg (bW W[m])] V fun e w' => e = .returned (.bool (decide (Bef lc W[k] W[m]))) ∧ Below V.heap.size V w') := aA (fun V hV => (rfirst_any15 r _ _ _ lc H W W[k] W[m] _ _ V (HTq.out V hV) HLB.out hgx.1 hgy.1 hgx.2.1 hgy.2.1).mono (fun e w' ⟨he, hB⟩ => ⟨he.trans (by congr 2; exact decide_eq_decide.2 Iff.rfl), hB⟩))
      by_cases hbf : Bef lc W[k] W[m]
      ·have HBE2 := aA (HNM.out.1 hbf)
       have CB : Hid (∀ V, Below wr.heap.size wr V → Calls Tryz.prog 81 #[.pointer (some ⟨r, 0, none⟩), .agg (bW W[k]), .agg (bW W[m])] V fun e w' => e = .returned (.bool true) ∧ Below V.heap.size V w') := aA (fun V hV => by have := HCB.out V hV; rw [decide_eq_true hbf] at this; exact this)
       clear HCF HCB hnf hgx hgy HNX HNM hc hcy en en2 hbl hbf
       generalize W[k] = x at *
       generalize W[m] = y at *
       go_wp2_with fail
       refine bD (by kernel_rfl) [(16, .pointer (some ⟨r, 0, none⟩)), (17, .pointer (some ⟨r, 0, none⟩)), (18, .pointer (some ⟨r, 0, none⟩)), (19, .pointer (some ⟨r, 2, none⟩)), (20, .slice (some ⟨b, off, none⟩) N cap), (21, .int .i64 (k : Int)), (22, .pointer (some ⟨b, off + k * 12, none⟩)), (23, .agg (bW x)), (24, .bool true), (25, .bool true), (26, .int .i64 (m : Int)), (27, .bool false), (28, .bool false), (29, .pointer (some ⟨r, 0, none⟩)), (30, .pointer (some ⟨r, 0, none⟩)), (31, .pointer (some ⟨r, 0, none⟩)), (32, .pointer (some ⟨r, 2, none⟩)), (33, .slice (some ⟨b, off, none⟩) N cap), (34, .int .i64 (k : Int)), (35, .pointer (some ⟨b, off + k * 12, none⟩)), (36, .agg (bW x)), (37, .pointer (some ⟨r, 0, none⟩)), (38, .pointer (some ⟨r, 0, none⟩)), (39, .pointer (some ⟨r, 2, none⟩)), (40, .slice (some ⟨b, off, none⟩) N cap), (41, .int .i64 (m : Int)), (42, .pointer (some ⟨b, off + m * 12, none⟩)), (43, .agg (bW y)), (44, .bool true), (45, .bool true), (46, .bool true)] (by kernel_rfl) rfl ?_ ?_
       ·intro i o hi A w1 hB hold hdeps
        have hlt : i < 31 := (Array.getElem?_eq_some_iff.1 hi).1
        have hc : i = 0 ∨ i = 1 ∨ i = 2 ∨ i = 3 ∨ i = 4 ∨ i = 5 ∨ i = 6 ∨ i = 7 ∨ i = 8 ∨ i = 9 ∨ i = 10 ∨ i = 11 ∨ i = 12 ∨ i = 13 ∨ i = 14 ∨ i = 15 ∨ i = 16 ∨ i = 17 ∨ i = 18 ∨ i = 19 ∨ i = 20 ∨ i = 21 ∨ i = 22 ∨ i = 23 ∨ i = 24 ∨ i = 25 ∨ i = 26 ∨ i = 27 ∨ i = 28 ∨ i = 29 ∨ i = 30 := by omega
        clear hlt
        rcases hc with rfl|rfl|rfl|rfl|rfl|rfl|rfl|rfl|rfl|rfl|rfl|rfl|rfl|rfl|rfl|rfl|rfl|rfl|rfl|rfl|rfl|rfl|rfl|rfl|rfl|rfl|rfl|rfl|rfl|rfl|rfl <;> obtain rfl := Option.some.inj hi
        ·have s0 : A.tmps.getD 0 undef = .pointer (some ⟨r, 0, none⟩) := hold 0 (by kernel_rfl)
         exact aD hi rfl rfl (aR _ s0)
        ·have s0 : A.tmps.getD 0 undef = .pointer (some ⟨r, 0, none⟩) := hold 0 (by kernel_rfl)
         exact aD hi rfl rfl (aR _ s0)
        ·have s17 : A.tmps.getD 17 undef = .pointer (some ⟨r, 0, none⟩) := aB hdeps 1 (by kernel_rfl)
         exact aD hi rfl rfl (dY _ s17)
        ·have s18 : A.tmps.getD 18 undef = .pointer (some ⟨r, 0, none⟩) := aB hdeps 2 (by kernel_rfl)
         exact aD hi rfl rfl (fU _ s18)
        ·have s19 : A.tmps.getD 19 undef = .pointer (some ⟨r, 2, none⟩) := aB hdeps 3 (by kernel_rfl)
         exact aD hi rfl rfl (dF _ s19 (HC.out w1 hB))
        ·have s5 : A.tmps.getD 5 undef = .int .i64 (k : Int) := hold 5 (by kernel_rfl)
         exact aD hi rfl rfl (aR _ s5)
        ·have s20 : A.tmps.getD 20 undef = .slice (some ⟨b, off, none⟩) N cap := aB hdeps 4 (by kernel_rfl)
         have s21 : A.tmps.getD 21 undef = .int .i64 (k : Int) := aB hdeps 5 (by kernel_rfl)
         exact aD hi rfl rfl (eQ _ _ s20 s21 hkN)
        ·have s22 : A.tmps.getD 22 undef = .pointer (some ⟨b, off + k * 12, none⟩) := aB hdeps 6 (by kernel_rfl)
         exact aD hi rfl rfl (f9 (g := x) _ s22 (HRX.out w1 hB))
        ·have s16 : A.tmps.getD 16 undef = .pointer (some ⟨r, 0, none⟩) := aB hdeps 0 (by kernel_rfl)
         have s23 : A.tmps.getD 23 undef = .agg (bW x) := aB hdeps 7 (by kernel_rfl)
         exact cF hi rfl rfl (cC 80 _ #[.pointer (some ⟨r, 0, none⟩), .agg (bW x)] _ rfl (by simp only [List.map_toArray, List.map_cons, List.map_nil, show A.eval (.tmp 16) = .pointer (some ⟨r, 0, none⟩) from s16, show A.eval (.tmp 23) = .agg (bW x) from s23]; try rfl) en_freeR) (CF.out w1 hB)
        ·have s24 : A.tmps.getD 24 undef = .bool true := aB hdeps 8 (by kernel_rfl)
         exact aD hi rfl rfl (aR _ s24)
        ·have g10 : A.tmps.getD 25 undef = .bool true := aB hdeps 9 (by kernel_rfl)
         have s4 : A.tmps.getD 4 undef = .int .i64 (m : Int) := hold 4 (by kernel_rfl)
         exact aD hi (aM rfl rfl g10) rfl (aR _ s4)
        ·have g11 : A.tmps.getD 25 undef = .bool true := aB hdeps 9 (by kernel_rfl)
         have s26 : A.tmps.getD 26 undef = .int .i64 (m : Int) := aB hdeps 10 (by kernel_rfl)
         exact aD hi (aM rfl rfl g11) rfl (eE _ _ _ _ _ s26 rfl (hpos w1) (by kernel_rfl))
        ·have g12 : A.tmps.getD 25 undef = .bool true := aB hdeps 9 (by kernel_rfl)
         have s27 : A.tmps.getD 27 undef = .bool false := aB hdeps 11 (by kernel_rfl)
         exact aD hi (aM rfl rfl g12) rfl (aR _ s27)
        ·have g13 : A.tmps.getD 28 undef = .bool false := aB hdeps 12 (by kernel_rfl)
         have s0 : A.tmps.getD 0 undef = .pointer (some ⟨r, 0, none⟩) := hold 0 (by kernel_rfl)
         exact aD hi (aF rfl rfl g13) rfl (aR _ s0)
        ·have g14 : A.tmps.getD 28 undef = .bool false := aB hdeps 12 (by kernel_rfl)
         have s0 : A.tmps.getD 0 undef = .pointer (some ⟨r, 0, none⟩) := hold 0 (by kernel_rfl)
         exact aD hi (aF rfl rfl g14) rfl (aR _ s0)
        ·have g15 : A.tmps.getD 28 undef = .bool false := aB hdeps 12 (by kernel_rfl)
         have s30 : A.tmps.getD 30 undef = .pointer (some ⟨r, 0, none⟩) := aB hdeps 14 (by kernel_rfl)
         exact aD hi (aF rfl rfl g15) rfl (dY _ s30)
        ·have g16 : A.tmps.getD 28 undef = .bool false := aB hdeps 12 (by kernel_rfl)
         have s31 : A.tmps.getD 31 undef = .pointer (some ⟨r, 0, none⟩) := aB hdeps 15 (by kernel_rfl)
         exact aD hi (aF rfl rfl g16) rfl (fU _ s31)
        ·have g17 : A.tmps.getD 28 undef = .bool false := aB hdeps 12 (by kernel_rfl)
         have s32 : A.tmps.getD 32 undef = .pointer (some ⟨r, 2, none⟩) := aB hdeps 16 (by kernel_rfl)
         exact aD hi (aF rfl rfl g17) rfl (dF _ s32 (HC.out w1 hB))
        ·have g18 : A.tmps.getD 28 undef = .bool false := aB hdeps 12 (by kernel_rfl)
         have s5 : A.tmps.getD 5 undef = .int .i64 (k : Int) := hold 5 (by kernel_rfl)
         exact aD hi (aF rfl rfl g18) rfl (aR _ s5)
        ·have g19 : A.tmps.getD 28 undef = .bool false := aB hdeps 12 (by kernel_rfl)
         have s33 : A.tmps.getD 33 undef = .slice (some ⟨b, off, none⟩) N cap := aB hdeps 17 (by kernel_rfl)
         have s34 : A.tmps.getD 34 undef = .int .i64 (k : Int) := aB hdeps 18 (by kernel_rfl)
         exact aD hi (aF rfl rfl g19) rfl (eQ _ _ s33 s34 hkN)
        ·have g20 : A.tmps.getD 28 undef = .bool false := aB hdeps 12 (by kernel_rfl)
         have s35 : A.tmps.getD 35 undef = .pointer (some ⟨b, off + k * 12, none⟩) := aB hdeps 19 (by kernel_rfl)
         exact aD hi (aF rfl rfl g20) rfl (f9 (g := x) _ s35 (HRX.out w1 hB))
        ·have g21 : A.tmps.getD 28 undef = .bool false := aB hdeps 12 (by kernel_rfl)
         have s0 : A.tmps.getD 0 undef = .pointer (some ⟨r, 0, none⟩) := hold 0 (by kernel_rfl)
         exact aD hi (aF rfl rfl g21) rfl (aR _ s0)
        ·have g22 : A.tmps.getD 28 undef = .bool false := aB hdeps 12 (by kernel_rfl)
         have s37 : A.tmps.getD 37 undef = .pointer (some ⟨r, 0, none⟩) := aB hdeps 21 (by kernel_rfl)
         exact aD hi (aF rfl rfl g22) rfl (dY _ s37)
        ·have g23 : A.tmps.getD 28 undef = .bool false := aB hdeps 12 (by kernel_rfl)
         have s38 : A.tmps.getD 38 undef = .pointer (some ⟨r, 0, none⟩) := aB hdeps 22 (by kernel_rfl)
         exact aD hi (aF rfl rfl g23) rfl (fU _ s38)
        ·have g24 : A.tmps.getD 28 undef = .bool false := aB hdeps 12 (by kernel_rfl)
         have s39 : A.tmps.getD 39 undef = .pointer (some ⟨r, 2, none⟩) := aB hdeps 23 (by kernel_rfl)
         exact aD hi (aF rfl rfl g24) rfl (dF _ s39 (HC.out w1 hB))
        ·have g25 : A.tmps.getD 28 undef = .bool false := aB hdeps 12 (by kernel_rfl)
         have s4 : A.tmps.getD 4 undef = .int .i64 (m : Int) := hold 4 (by kernel_rfl)
         exact aD hi (aF rfl rfl g25) rfl (aR _ s4)
        ·have g26 : A.tmps.getD 28 undef = .bool false := aB hdeps 12 (by kernel_rfl)
         have s40 : A.tmps.getD 40 undef = .slice (some ⟨b, off, none⟩) N cap := aB hdeps 24 (by kernel_rfl)
         have s41 : A.tmps.getD 41 undef = .int .i64 (m : Int) := aB hdeps 25 (by kernel_rfl)
         exact aD hi (aF rfl rfl g26) rfl (eQ _ _ s40 s41 hmN)
        ·have g27 : A.tmps.getD 28 undef = .bool false := aB hdeps 12 (by kernel_rfl)
         have s42 : A.tmps.getD 42 undef = .pointer (some ⟨b, off + m * 12, none⟩) := aB hdeps 26 (by kernel_rfl)
         exact aD hi (aF rfl rfl g27) rfl (f9 (g := y) _ s42 (HRY.out w1 hB))
        ·have g28 : A.tmps.getD 28 undef = .bool false := aB hdeps 12 (by kernel_rfl)
         have s29 : A.tmps.getD 29 undef = .pointer (some ⟨r, 0, none⟩) := aB hdeps 13 (by kernel_rfl)
         have s36 : A.tmps.getD 36 undef = .agg (bW x) := aB hdeps 20 (by kernel_rfl)
         have s43 : A.tmps.getD 43 undef = .agg (bW y) := aB hdeps 27 (by kernel_rfl)
         exact cF hi (aF rfl rfl g28) rfl (cC 81 _ #[.pointer (some ⟨r, 0, none⟩), .agg (bW x), .agg (bW y)] _ rfl (by simp only [List.map_toArray, List.map_cons, List.map_nil, show A.eval (.tmp 29) = .pointer (some ⟨r, 0, none⟩) from s29, show A.eval (.tmp 36) = .agg (bW x) from s36, show A.eval (.tmp 43) = .agg (bW y) from s43]; try rfl) en_firstR) (CB.out w1 hB)
        ·have g29 : A.tmps.getD 25 undef = .bool true := aB hdeps 9 (by kernel_rfl)
         have s28 : A.tmps.getD 28 undef = .bool false := aB hdeps 12 (by kernel_rfl)
         have s44 : A.tmps.getD 44 undef = .bool true := aB hdeps 28 (by kernel_rfl)
         exact aD hi (aM rfl rfl g29) rfl (dB _ _ _ s28 s44)
        ·have s25 : A.tmps.getD 25 undef = .bool true := aB hdeps 9 (by kernel_rfl)
         have s45 : A.tmps.getD 45 undef = .bool true := aB hdeps 29 (by kernel_rfl)
         exact aD hi rfl rfl (dT _ _ _ s25 s45)
       ·intro w10 hB10
        simp only [cA, Act.put, List.setIfInBounds_toArray, List.set_cons_succ, List.set_cons_zero]
        go_wp2_with fail
        go_roundg gi
        case measure => omega
        case rel => exact ⟨k + 1, (k : Int), by omega, by first | rfl | go_num, by first | rfl | go_num, HBE2, aA (HBV.out.trans (hB10.mono HBV.out.size))⟩
      ·have HBE2 := aA (HNM.out.2 hbf)
       have CB : Hid (∀ V, Below wr.heap.size wr V → Calls Tryz.prog 81 #[.pointer (some ⟨r, 0, none⟩), .agg (bW W[k]), .agg (bW W[m])] V fun e w' => e = .returned (.bool false) ∧ Below V.heap.size V w') := aA (fun V hV => by have := HCB.out V hV; rw [decide_eq_false hbf] at this; exact this)
       clear HCF HCB hnf hgx hgy HNX HNM hc hcy en en2 hbl hbf
       generalize W[k] = x at *
       generalize W[m] = y at *
       go_wp2_with fail
       refine bD (by kernel_rfl) [(16, .pointer (some ⟨r, 0, none⟩)), (17, .pointer (some ⟨r, 0, none⟩)), (18, .pointer (some ⟨r, 0, none⟩)), (19, .pointer (some ⟨r, 2, none⟩)), (20, .slice (some ⟨b, off, none⟩) N cap), (21, .int .i64 (k : Int)), (22, .pointer (some ⟨b, off + k * 12, none⟩)), (23, .agg (bW x)), (24, .bool true), (25, .bool true), (26, .int .i64 (m : Int)), (27, .bool false), (28, .bool false), (29, .pointer (some ⟨r, 0, none⟩)), (30, .pointer (some ⟨r, 0, none⟩)), (31, .pointer (some ⟨r, 0, none⟩)), (32, .pointer (some ⟨r, 2, none⟩)), (33, .slice (some ⟨b, off, none⟩) N cap), (34, .int .i64 (k : Int)), (35, .pointer (some ⟨b, off + k * 12, none⟩)), (36, .agg (bW x)), (37, .pointer (some ⟨r, 0, none⟩)), (38, .pointer (some ⟨r, 0, none⟩)), (39, .pointer (some ⟨r, 2, none⟩)), (40, .slice (some ⟨b, off, none⟩) N cap), (41, .int .i64 (m : Int)), (42, .pointer (some ⟨b, off + m * 12, none⟩)), (43, .agg (bW y)), (44, .bool false), (45, .bool false), (46, .bool false)] (by kernel_rfl) rfl ?_ ?_
       ·intro i o hi A w1 hB hold hdeps
        have hlt : i < 31 := (Array.getElem?_eq_some_iff.1 hi).1
        have hc : i = 0 ∨ i = 1 ∨ i = 2 ∨ i = 3 ∨ i = 4 ∨ i = 5 ∨ i = 6 ∨ i = 7 ∨ i = 8 ∨ i = 9 ∨ i = 10 ∨ i = 11 ∨ i = 12 ∨ i = 13 ∨ i = 14 ∨ i = 15 ∨ i = 16 ∨ i = 17 ∨ i = 18 ∨ i = 19 ∨ i = 20 ∨ i = 21 ∨ i = 22 ∨ i = 23 ∨ i = 24 ∨ i = 25 ∨ i = 26 ∨ i = 27 ∨ i = 28 ∨ i = 29 ∨ i = 30 := by omega
        clear hlt
        rcases hc with rfl|rfl|rfl|rfl|rfl|rfl|rfl|rfl|rfl|rfl|rfl|rfl|rfl|rfl|rfl|rfl|rfl|rfl|rfl|rfl|rfl|rfl|rfl|rfl|rfl|rfl|rfl|rfl|rfl|rfl|rfl <;> obtain rfl := Option.some.inj hi
        ·have s0 : A.tmps.getD 0 undef = .pointer (some ⟨r, 0, none⟩) := hold 0 (by kernel_rfl)
         exact aD hi rfl rfl (aR _ s0)
        ·have s0 : A.tmps.getD 0 undef = .pointer (some ⟨r, 0, none⟩) := hold 0 (by kernel_rfl)
         exact aD hi rfl rfl (aR _ s0)
        ·have s17 : A.tmps.getD 17 undef = .pointer (some ⟨r, 0, none⟩) := aB hdeps 1 (by kernel_rfl)
         exact aD hi rfl rfl (dY _ s17)
        ·have s18 : A.tmps.getD 18 undef = .pointer (some ⟨r, 0, none⟩) := aB hdeps 2 (by kernel_rfl)
         exact aD hi rfl rfl (fU _ s18)
        ·have s19 : A.tmps.getD 19 undef = .pointer (some ⟨r, 2, none⟩) := aB hdeps 3 (by kernel_rfl)
         exact aD hi rfl rfl (dF _ s19 (HC.out w1 hB))
        ·have s5 : A.tmps.getD 5 undef = .int .i64 (k : Int) := hold 5 (by kernel_rfl)
         exact aD hi rfl rfl (aR _ s5)
        ·have s20 : A.tmps.getD 20 undef = .slice (some ⟨b, off, none⟩) N cap := aB hdeps 4 (by kernel_rfl)
         have s21 : A.tmps.getD 21 undef = .int .i64 (k : Int) := aB hdeps 5 (by kernel_rfl)
         exact aD hi rfl rfl (eQ _ _ s20 s21 hkN)
        ·have s22 : A.tmps.getD 22 undef = .pointer (some ⟨b, off + k * 12, none⟩) := aB hdeps 6 (by kernel_rfl)
         exact aD hi rfl rfl (f9 (g := x) _ s22 (HRX.out w1 hB))
        ·have s16 : A.tmps.getD 16 undef = .pointer (some ⟨r, 0, none⟩) := aB hdeps 0 (by kernel_rfl)
         have s23 : A.tmps.getD 23 undef = .agg (bW x) := aB hdeps 7 (by kernel_rfl)
         exact cF hi rfl rfl (cC 80 _ #[.pointer (some ⟨r, 0, none⟩), .agg (bW x)] _ rfl (by simp only [List.map_toArray, List.map_cons, List.map_nil, show A.eval (.tmp 16) = .pointer (some ⟨r, 0, none⟩) from s16, show A.eval (.tmp 23) = .agg (bW x) from s23]; try rfl) en_freeR) (CF.out w1 hB)
        ·have s24 : A.tmps.getD 24 undef = .bool true := aB hdeps 8 (by kernel_rfl)
         exact aD hi rfl rfl (aR _ s24)
        ·have g10 : A.tmps.getD 25 undef = .bool true := aB hdeps 9 (by kernel_rfl)
         have s4 : A.tmps.getD 4 undef = .int .i64 (m : Int) := hold 4 (by kernel_rfl)
         exact aD hi (aM rfl rfl g10) rfl (aR _ s4)
        ·have g11 : A.tmps.getD 25 undef = .bool true := aB hdeps 9 (by kernel_rfl)
         have s26 : A.tmps.getD 26 undef = .int .i64 (m : Int) := aB hdeps 10 (by kernel_rfl)
         exact aD hi (aM rfl rfl g11) rfl (eE _ _ _ _ _ s26 rfl (hpos w1) (by kernel_rfl))
        ·have g12 : A.tmps.getD 25 undef = .bool true := aB hdeps 9 (by kernel_rfl)
         have s27 : A.tmps.getD 27 undef = .bool false := aB hdeps 11 (by kernel_rfl)
         exact aD hi (aM rfl rfl g12) rfl (aR _ s27)
        ·have g13 : A.tmps.getD 28 undef = .bool false := aB hdeps 12 (by kernel_rfl)
         have s0 : A.tmps.getD 0 undef = .pointer (some ⟨r, 0, none⟩) := hold 0 (by kernel_rfl)
         exact aD hi (aF rfl rfl g13) rfl (aR _ s0)
        ·have g14 : A.tmps.getD 28 undef = .bool false := aB hdeps 12 (by kernel_rfl)
         have s0 : A.tmps.getD 0 undef = .pointer (some ⟨r, 0, none⟩) := hold 0 (by kernel_rfl)
         exact aD hi (aF rfl rfl g14) rfl (aR _ s0)
        ·have g15 : A.tmps.getD 28 undef = .bool false := aB hdeps 12 (by kernel_rfl)
         have s30 : A.tmps.getD 30 undef = .pointer (some ⟨r, 0, none⟩) := aB hdeps 14 (by kernel_rfl)
         exact aD hi (aF rfl rfl g15) rfl (dY _ s30)
        ·have g16 : A.tmps.getD 28 undef = .bool false := aB hdeps 12 (by kernel_rfl)
         have s31 : A.tmps.getD 31 undef = .pointer (some ⟨r, 0, none⟩) := aB hdeps 15 (by kernel_rfl)
         exact aD hi (aF rfl rfl g16) rfl (fU _ s31)
        ·have g17 : A.tmps.getD 28 undef = .bool false := aB hdeps 12 (by kernel_rfl)
         have s32 : A.tmps.getD 32 undef = .pointer (some ⟨r, 2, none⟩) := aB hdeps 16 (by kernel_rfl)
         exact aD hi (aF rfl rfl g17) rfl (dF _ s32 (HC.out w1 hB))
        ·have g18 : A.tmps.getD 28 undef = .bool false := aB hdeps 12 (by kernel_rfl)
         have s5 : A.tmps.getD 5 undef = .int .i64 (k : Int) := hold 5 (by kernel_rfl)
         exact aD hi (aF rfl rfl g18) rfl (aR _ s5)
        ·have g19 : A.tmps.getD 28 undef = .bool false := aB hdeps 12 (by kernel_rfl)
         have s33 : A.tmps.getD 33 undef = .slice (some ⟨b, off, none⟩) N cap := aB hdeps 17 (by kernel_rfl)
         have s34 : A.tmps.getD 34 undef = .int .i64 (k : Int) := aB hdeps 18 (by kernel_rfl)
         exact aD hi (aF rfl rfl g19) rfl (eQ _ _ s33 s34 hkN)
        ·have g20 : A.tmps.getD 28 undef = .bool false := aB hdeps 12 (by kernel_rfl)
         have s35 : A.tmps.getD 35 undef = .pointer (some ⟨b, off + k * 12, none⟩) := aB hdeps 19 (by kernel_rfl)
         exact aD hi (aF rfl rfl g20) rfl (f9 (g := x) _ s35 (HRX.out w1 hB))
        ·have g21 : A.tmps.getD 28 undef = .bool false := aB hdeps 12 (by kernel_rfl)
         have s0 : A.tmps.getD 0 undef = .pointer (some ⟨r, 0, none⟩) := hold 0 (by kernel_rfl)
         exact aD hi (aF rfl rfl g21) rfl (aR _ s0)
        ·have g22 : A.tmps.getD 28 undef = .bool false := aB hdeps 12 (by kernel_rfl)
         have s37 : A.tmps.getD 37 undef = .pointer (some ⟨r, 0, none⟩) := aB hdeps 21 (by kernel_rfl)
         exact aD hi (aF rfl rfl g22) rfl (dY _ s37)
        ·have g23 : A.tmps.getD 28 undef = .bool false := aB hdeps 12 (by kernel_rfl)
         have s38 : A.tmps.getD 38 undef = .pointer (some ⟨r, 0, none⟩) := aB hdeps 22 (by kernel_rfl)
         exact aD hi (aF rfl rfl g23) rfl (fU _ s38)
        ·have g24 : A.tmps.getD 28 undef = .bool false := aB hdeps 12 (by kernel_rfl)
         have s39 : A.tmps.getD 39 undef = .pointer (some ⟨r, 2, none⟩) := aB hdeps 23 (by kernel_rfl)
         exact aD hi (aF rfl rfl g24) rfl (dF _ s39 (HC.out w1 hB))
        ·have g25 : A.tmps.getD 28 undef = .bool false := aB hdeps 12 (by kernel_rfl)
         have s4 : A.tmps.getD 4 undef = .int .i64 (m : Int) := hold 4 (by kernel_rfl)
         exact aD hi (aF rfl rfl g25) rfl (aR _ s4)
        ·have g26 : A.tmps.getD 28 undef = .bool false := aB hdeps 12 (by kernel_rfl)
         have s40 : A.tmps.getD 40 undef = .slice (some ⟨b, off, none⟩) N cap := aB hdeps 24 (by kernel_rfl)
         have s41 : A.tmps.getD 41 undef = .int .i64 (m : Int) := aB hdeps 25 (by kernel_rfl)
         exact aD hi (aF rfl rfl g26) rfl (eQ _ _ s40 s41 hmN)
        ·have g27 : A.tmps.getD 28 undef = .bool false := aB hdeps 12 (by kernel_rfl)
         have s42 : A.tmps.getD 42 undef = .pointer (some ⟨b, off + m * 12, none⟩) := aB hdeps 26 (by kernel_rfl)
         exact aD hi (aF rfl rfl g27) rfl (f9 (g := y) _ s42 (HRY.out w1 hB))
        ·have g28 : A.tmps.getD 28 undef = .bool false := aB hdeps 12 (by kernel_rfl)
         have s29 : A.tmps.getD 29 undef = .pointer (some ⟨r, 0, none⟩) := aB hdeps 13 (by kernel_rfl)
         have s36 : A.tmps.getD 36 undef = .agg (bW x) := aB hdeps 20 (by kernel_rfl)
         have s43 : A.tmps.getD 43 undef = .agg (bW y) := aB hdeps 27 (by kernel_rfl)
         exact cF hi (aF rfl rfl g28) rfl (cC 81 _ #[.pointer (some ⟨r, 0, none⟩), .agg (bW x), .agg (bW y)] _ rfl (by simp only [List.map_toArray, List.map_cons, List.map_nil, show A.eval (.tmp 29) = .pointer (some ⟨r, 0, none⟩) from s29, show A.eval (.tmp 36) = .agg (bW x) from s36, show A.eval (.tmp 43) = .agg (bW y) from s43]; try rfl) en_firstR) (CB.out w1 hB)
        ·have g29 : A.tmps.getD 25 undef = .bool true := aB hdeps 9 (by kernel_rfl)
         have s28 : A.tmps.getD 28 undef = .bool false := aB hdeps 12 (by kernel_rfl)
         have s44 : A.tmps.getD 44 undef = .bool false := aB hdeps 28 (by kernel_rfl)
         exact aD hi (aM rfl rfl g29) rfl (dB _ _ _ s28 s44)
        ·have s25 : A.tmps.getD 25 undef = .bool true := aB hdeps 9 (by kernel_rfl)
         have s45 : A.tmps.getD 45 undef = .bool false := aB hdeps 29 (by kernel_rfl)
         exact aD hi rfl rfl (dT _ _ _ s25 s45)
       ·intro w10 hB10
        simp only [cA, Act.put, List.setIfInBounds_toArray, List.set_cons_succ, List.set_cons_zero]
        go_wp2_with fail
        go_roundg gi
        case measure => omega
        case rel => exact ⟨k + 1, (m : Int), by omega, by first | rfl | go_num, by first | rfl | go_num, HBE2, aA (HBV.out.trans (hB10.mono HBV.out.size))⟩
   | zero =>
    obtain rfl : k = N := by omega
    have hzk : ¬ ((k : Int) < (k : Int)) := by omega
    rcases HBE.out with ⟨hbt, ha⟩ | ⟨m, hbt, hmk, hm, hfm, ha⟩
    ·subst hbt
     have HST : Hid (OnR cQ l gs lc) := aA (by
      have := HON.out [] lc (.stop (best_stop HRP.out HLB.out (fun j hj _ => ha j hj (by rw [HL.out]; exact hj))))
      rw [List.append_nil] at this
      exact this)
     have hneg : (-1 : Int) < 0 := by decide
     go_wp2_with fail
     go_ret
     refine ⟨_, rfl, gs, lc, HST.out, rl_of HF.out (HP.out.after HBV.out) HRP.out HLB.out HCC.out, ?_⟩
     rw [← HN.out]
     exact aJ HO.out (aC.of_below (fun _ => False) HBV.out) (fun _ _ h => h)
    ·subst hbt
     have HPK := aA (best_pick HRP.out HLB.out hm hfm (fun j hj hfj => ha j hj (by rw [HL.out]; exact hj) hfj))
     have HSR := aA (step_rep HRP.out HLB.out hm)
     have HLB2 := aA (i9 HLB.out W[m].tx (iL W[m].key) (grU_ok HLB.out W[m].key))
     have hgm := HRP.out.w.got HLB.out (List.getElem_mem hm)
     obtain ⟨MD, hMD⟩ : ∃ MD, MD = (aT lc W[m].tx).h W[m].key := ⟨_, rfl⟩
     have hfew2 : H.length + W.length ≤ 10000 := Nat.le_trans HCC.out hC
     have HTm := aA (fun V (hV : Below wr.heap.size wr V) => HP.out.t.below (HBV.out.trans (hV.mono HBV.out.size)))
     obtain ⟨en, b, off, hao, hbl, hc⟩ := (HSW.out.below HBV.out).at dJ.len hm
     subst hao
     have HRX : Hid (wr.rangeAt b (off + m * 12) (gtE W[m])) := aA (fun j v hv => hc j v hv)
     have HONS : Hid (∀ gr l', OnR cQ (bG lc W[m].tx (iL W[m].key)) gr l' → OnR cQ l ((gs ++ [⟨W[m].tx, W[m].key, max W[m].mode MD⟩]) ++ gr) l') := aA (fun gr l' h => by
      have h1 := HON.out _ _ (.step HPK.out h)
      rw [hgm.2.2.1, ← hMD, Nat.max_comm] at h1
      rw [List.append_assoc]
      exact h1)
     have hmI : (m : Int) < (k : Int) := by omega
     have hm0 : ¬ (m : Int) < 0 := by omega
     have hm00 : (0 : Int) ≤ (m : Int) := by omega
     rw [← hMD] at HSR
     have HWm := aA (rfl : W[m] = W[m])
     have HER : Hid (W.eraseIdx m = W.take m ++ W.drop (m + 1)) := aA (List.eraseIdx_eq_take_drop_succ _ _)
     have HEL : Hid ((W.eraseIdx m).length + 1 = W.length) := aA (by rw [List.length_eraseIdx_of_lt hm]; omega)
     have CM : Hid (∀ V vW' W', iU V r vL vH vW' (lc.map usR) H W' → Calls Tryz.prog 18 #[.pointer (some ⟨r, 0, none⟩), aV W[m].tx, .agg (aK W[m].key.1)] V fun e w' => e = .returned (.int .u8 (MD : Int)) ∧ Below V.heap.size V w') := aA (fun V vW' W' hV => by
      have := rmode_any15 r vL vH vW' _ lc H W' W[m].tx W[m].key V hV HRP.out.h HLB.out (by omega)
      rw [← hMD] at this
      exact this)
     have CH : Hid (∀ V vW' W' g, iU V r vL vH vW' (lc.map usR) H W' → Calls Tryz.prog 57 #[.pointer (some ⟨r, 0, none⟩), .agg (bW g)] V fun e w' => e = .returned (.tuple #[]) ∧ ∃ vH', dC V w' r vL vH vW' vL vH' vW' (lc.map usR) (jU H g) W') := aA (fun V vW' W' g hV => rhold_any15 r vL vH vW' _ H W' g V hV (by omega))
     clear hMD hgm hfm ha hc en hbl HPK HBE
     generalize W[m] = x at *
     have HZ := aA (aN wr #[.int .u8 0, .int .u32 0, .int .u32 0, .int .u8 0, .int .u8 0, .int .u8 0, .int .u8 0, .int .u8 0, .int .u8 0, .int .u8 0, .int .u8 0, .int .u8 0] 62)
     have HZB := aA (aE wr (.cells #[.int .u8 0, .int .u32 0, .int .u32 0, .int .u8 0, .int .u8 0, .int .u8 0, .int .u8 0, .int .u8 0, .int .u8 0, .int .u8 0, .int .u8 0, .int .u8 0] 62))
     go_wp2_with (first
      | (refine aO rfl _ (t := 62) rfl (b) (off + m * 12) rfl (gtE x) HRX.out Tryz.underlying62 rfl bS ?_)
      | (refine aP rfl rfl _ _ rfl wr.heap.size rfl (cs' := bW x) rfl HZ.out rfl bS (by simp [Value.oneCell']) ?_; intro w3 hb3 hk3; have HX6 := aA hb3; have HB3 : Hid (Below wr.heap.size wr w3) := aA (HZB.out.trans (hk3.below HZB.out.size (fun k hk => by omega))); clear hb3 hk3))
     obtain ⟨p6, hp6⟩ : ∃ p6, p6 = wr.heap.size := ⟨_, rfl⟩
     rw [← hp6] at HX6 ⊢
     have HP6 := aA hp6
     clear HZ HZB hp6
     have h3 := HTm.out w3 HB3.out
     have hnk : k = W.length := HL.out
     have hmk2 : m < k := hmk
     have hcap : k ≤ cap := by obtain ⟨_, _, e, hle, _⟩ := h3.sW; cases e; omega
     have hto := fun V => gD dJ V (some ⟨b, off, none⟩) k cap m (by omega)
     have hfr := fun V => fK dJ V (some ⟨b, off, none⟩) k cap (m + 1) (by omega)
     obtain ⟨af, haf⟩ : ∃ af, af = if cap = m + 1 then (some ⟨b, off, none⟩ : Option Addr) else (some ⟨b, off, none⟩ : Option Addr).map (·.add ((m + 1) * 12)) := ⟨_, rfl⟩
     rw [← haf] at hfr
     have hs1 := fL h3.sW dJ.len (i := m) (by omega)
     have hs2 := f7 h3.sW dJ.len (i := m + 1) (by omega)
     rw [← haf, ← hnk] at hs2
     obtain ⟨l2, hl2⟩ : ∃ l2, l2 = k - (m + 1) := ⟨_, rfl⟩
     obtain ⟨cc2, hcc2⟩ : ∃ cc2, cc2 = cap - (m + 1) := ⟨_, rfl⟩
     rw [← hl2, ← hcc2] at hfr hs2
     have hwrap : IntKind.i64.wrap ((m : Int) + 1) = ((m + 1 : Nat) : Int) := by rw [IntKind.wrap_i64]; omega
     have hfr2 : ∀ V, (Instr.sliceAt 26 (.slice (some ⟨b, off, none⟩) k cap) (some (.int .i64 (IntKind.i64.wrap ((m : Int) + 1)))) none none).run Tryz.prog V = .ok (.slice af l2 cc2) V := fun V => by rw [hwrap]; exact hfr V
     have hfr3 : ∀ V, (Instr.sliceAt 26 (.slice (some ⟨b, off, none⟩) k cap) (some (.int .i64 ((m : Int) + 1))) none none).run Tryz.prog V = .ok (.slice af l2 cc2) V := fun V => by
      have := hfr V
      rw [show ((m + 1 : Nat) : Int) = (m : Int) + 1 by omega] at this
      exact this
     obtain ⟨a1, n1, c1, wA, a2, n2, c2, wB, e1, e2, hn2, hown, b1, b2⟩ := del_run dJ w3 _ _ _ _ hs1 hs2 gS (by simp; omega)
     rw [← HER.out] at hown hn2
     rw [hn2] at hown
     have hput := h3.put2 b2 hown
     rw [← hn2] at hput
     have HP4 := aA hput
     have HN2 := aA hn2
     have HCE : Hid (∀ V, Below w3.heap.size w3 V → V.cell? ⟨r, 2, none⟩ = some (.slice (some ⟨b, off, none⟩) k cap) ∧ V.frozen? ⟨r, 2, none⟩ = false ∧ r < V.heap.size) := aA (fun V hV => by
      have h1 := h3.below hV
      have h2 := h1.c2
      rw [← hnk] at h2
      exact ⟨h2, h1.box.frozen 2, h1.box.lt⟩)
     obtain ⟨x00, x01, x02⟩ := HCE.out w3 (Below.refl _ _)
     obtain ⟨x10, x11, x12⟩ := HCE.out wA b1
     obtain ⟨x20, x21, x22⟩ := HCE.out wB b2
     have HRW : Hid (r < w.heap.size) := aA HT0.out.box.lt
     have HP6R : Hid (p6 ≠ r ∧ w.heap.size ≤ p6) := aA (by have h1 := HP.out.k.size; have h2 := HBV.out.size; have h4 := HP6.out; have h5 := HRW.out; omega)
     have HX64 := aA ((HX6.out.belowI b2).keep ((aC.refl (fun j => j = r) wB).setCell (p := ⟨r, 2, none⟩) (.inl rfl) (.slice a2 n2 c2)) HP6R.out.1)
     clear hown hn2 hput hs1 hs2 hl2 hcc2 haf hcap b1 b2 hwrap hfr HCE h3 hnk hmk2
     go_wp2_with fail
     go_region
     all_goals
      generalize wB.setCell ⟨r, 2, none⟩ (.slice a2 n2 c2) = w4 at *
      clear x00 x01 x02 x10 x11 x12 x20 x21 x22 e1 e2 hto hfr2 hfr3
      obtain ⟨VM, hVM⟩ : ∃ VM : Nat, (VM : Int) = max (x.mode : Int) (MD : Int) := ⟨max x.mode MD, by omega⟩
      have hmx := hVM.symm
      have HVM := aA hVM
      clear hVM
      have hX64 := HX64.out
      have q0 := hX64.cell 0 _ rfl
      have q1 := hX64.cell 1 _ rfl
      have q2 := hX64.cell 2 _ rfl
      have q3 := hX64.cell 3 _ rfl
      have q4 := hX64.cell 4 _ rfl
      have q5 := hX64.cell 5 _ rfl
      have q6 := hX64.cell 6 _ rfl
      have q7 := hX64.cell 7 _ rfl
      have q8 := hX64.cell 8 _ rfl
      have q9 := hX64.cell 9 _ rfl
      have q10 := hX64.cell 10 _ rfl
      have q11 := hX64.cell 11 _ rfl
      have q11f := hX64.frozen 11
      have q11l := hX64.lt
      clear hX64
      go_wp2_with fail
      go_region_with (go_at_call 18; refine (CM.out _ _ _ (HP4.out.t.below (aG w4))).mono ?_; rintro e w5 ⟨rfl, hB5⟩; have HB5 : Hid (Below w4.heap.size w4 w5) := aA ((aG w4).trans hB5); have hX65 := HX64.out.belowI ((aG w4).trans hB5); have s0 := hX65.cell 0 _ rfl; have s1 := hX65.cell 1 _ rfl; have s2 := hX65.cell 2 _ rfl; have s3 := hX65.cell 3 _ rfl; have s4 := hX65.cell 4 _ rfl; have s5 := hX65.cell 5 _ rfl; have s6 := hX65.cell 6 _ rfl; have s7 := hX65.cell 7 _ rfl; have s8 := hX65.cell 8 _ rfl; have s9 := hX65.cell 9 _ rfl; have s10 := hX65.cell 10 _ rfl; have s11 := hX65.cell 11 _ rfl; have s11f := hX65.frozen 11; have s11l := hX65.lt; clear hX65 hB5)
      all_goals
       obtain ⟨w6, hw6⟩ : ∃ w6, w6 = w5.setCell ⟨p6, 11, none⟩ (.int .u8 (VM : Int)) := ⟨_, rfl⟩
       rw [← hw6]
       have hk6 : aC (fun j => j = p6) w5 w6 := by rw [hw6]; exact (aC.refl (fun j => j = p6) w5).setCell (p := ⟨p6, 11, none⟩) (.inl rfl) (.int .u8 (VM : Int))
       obtain ⟨g, hg⟩ : ∃ g : cD KeyT, g = ⟨x.tx, x.key, VM⟩ := ⟨_, rfl⟩
       have HG := aA hg
       have HX66 : Hid (bZ w6 p6 (bW g) 62) := aA (by rw [hw6, hg]; exact (HX64.out.belowI HB5.out).set (i := 11) (v := .int .u8 (VM : Int)))
       have HPA := aA (on_a HP.out (HBV.out.trans (HB3.out.mono HBV.out.size)) HP4.out HB5.out hk6 HP6R.out.2 HP6R.out.1 (by rw [HP6.out]; exact HBV.out.size) HX6.out.lt)
       have HO6 := aA (on_o HO.out (HBV.out.trans (HB3.out.mono HBV.out.size)) HP4.out.k HB5.out hk6 (fun q hq => ⟨fun e => by have := (HO.out.lt q hq).1; have := HRW.out; omega, fun e => by have h1 := (HO.out.lt q hq).2; have h2 := HP6.out; have h3 := HBV.out.size; omega⟩))
       have HK56 := aA hk6.size
       clear hk6 hw6 hg
       clear s0 s1 s2 s3 s4 s5 s6 s7 s8 s9 s10 s11 s11f s11l q0 q1 q2 q3 q4 q5 q6 q7 q8 q9 q10 q11 q11f q11l hmx
       have hgl := kY g
       go_wp2_with (first
        | (refine aO rfl _ (t := 62) rfl (p6) (0) rfl (gtE g) (bE HX66.out) Tryz.underlying62 rfl bS ?_)
        | (go_at_call 57; refine (CH.out _ _ _ g HPA.out.t).mono ?_; rintro e w7 ⟨rfl, vH7, hP7⟩; have HP7 := aA (HPA.out.trans hP7); have HO7 := aA (aJ HO6.out hP7.k (fun q hq e => by have := (HO6.out.lt q hq).1; have := HRW.out; omega)); have HU7 := aA (on_u HAP.out HP.out HP4.out hP7 HO.out HBV.out.size HB3.out.size HB5.out.size HK56.out); replace HX66 := aA (HX66.out.keep hP7.k HP6R.out.1); have HAL := aA (aE w7 (.cells (gtE g).toArray 62)); clear hP7)
        | (at_builtin; rw [jJ]; refine dS dJ _ rfl _ _ rfl w.heap.size (.slice ax n cx) _ gs [g] rfl (by rw [← HN.out]; exact aJ HO7.out (aC.of_below (fun _ => False) HAL.out) (fun _ _ h => h)) rfl (dK (enc := gtE) w7 g _ (by simp) 62) (fun z hz => by simp at hz; subst hz; exact gS _) (by have h1 := HGL.out; have h2 := HM0.out; simp; omega) (Nat.le_trans HP7.out.k.size HAL.out.size) ?_; intro v9 w9 ho9 hg9 hob; rw [List.length_append, ← HN.out, List.length_singleton] at ho9; obtain ⟨a9, c9, hv9, _⟩ := aQ ho9; subst hv9; have HO9 := aA ho9; have HG9 := aA hg9; have HOB := aA hob; clear ho9 hg9 hob))
       have HFIN := aA (on_f HP7.out HAL.out HG9.out HOB.out HU7.out HO7.out HRW.out)
       have HVG : Hid (g = ⟨x.tx, x.key, max x.mode MD⟩) := aA (by rw [HG.out]; congr 1; have := HVM.out; omega)
       go_roundg (k - 1)
       case measure => have := HGN.out; omega
       case rel => exact ⟨gs ++ [g], bG lc x.tx (iL x.key), a9, n + 1, c9, vL, vH7, .slice a2 n2 c2, lc.map usR, jU H g, W.eraseIdx m, rfl, aA (by rw [List.length_append, HN.out]; rfl), aA (by rw [HVG.out]; exact HONS.out), aA HFIN.out.1, aA (by rw [HVG.out]; exact HSR.out), HLB2, aA (by have h1 := holdL_len H g; have h2 := HEL.out; have h3 := HCC.out; omega), aA (by have h2 := HEL.out; have h3 := HL.out; omega), HO9, aA HFIN.out.2, aA (by rw [List.length_append, List.length_singleton]; have h1 := HGL.out; have h2 := HGN.out; omega)⟩
end
end Go.Proofs.YtiloagmkkhlfjaaGreat
