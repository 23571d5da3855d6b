/-
  Own texts put together: LkBrk. Own work.
-/
import Derived.Test.YtiloagmkkhlfjaaGreatG21
import Derived.Sort.Walk7
import Derived.Deep.LoopGhost
namespace Go.Proofs.YtiloagmkkhlfjaaGreat
section
open Go.RowKit Go.Maps Go.Shelf Go.Sort Classical
structure iC (w0 w : World) (g sb X : Nat) : Prop where
 bx : bZ w sb #[.int .u64 (X : Int)] 149
 old : w0.heap.size ≤ sb
 g : g < w0.heap.size
theorem bJ.rnd {l : List (aS KeyT)} {g n sb X : Nat} {w0 w : World} {d : Array TxN} (h : bJ l g w0 w n d) (hc : iC w0 w g sb X) (u : Value) : bJ l g w0 (w.setCell ⟨sb, 0, none⟩ u) n d :=
 h.keepS (S := fun j => j = sb) (aC.setCell (S := fun j => j = sb) (aC.refl _ w) (p := ⟨sb, 0, none⟩) (.inl rfl) u) (fun e => by have := hc.old; have := hc.g; omega) (h.kb.setCell (p := ⟨sb, 0, none⟩) (.inr hc.old) u)
theorem iC.up {w0 w : World} {g sb X Y : Nat} (hc : iC w0 w g sb X) : iC w0 (w.setCell ⟨sb, 0, none⟩ (.int .u64 (Y : Int))) g sb Y := ⟨hc.bx.set (i := 0), hc.old, hc.g⟩
theorem iC.keep {S : Nat → Prop} {w0 w w' : World} {g sb X : Nat} (hc : iC w0 w g sb X) (hk : aC S w w') (hS : ¬ S sb) : iC w0 w' g sb X := ⟨hc.bx.keep hk hS, hc.old, hc.g⟩
theorem iC.swp {w0 w : World} {g sb X : Nat} (hc : iC w0 w g sb X) (i j : Nat) (x y : TxN) : iC w0 ((w.drew.setCells g (i * 3) (txCs (txI y))).setCells g (j * 3) (txCs (txI x))) g sb X :=
 hc.keep (keep_set2 (keep_set2 (aC.refl (fun j => j = g) w).drew _ _) _ _) (fun e => by have := hc.old; have := hc.g; omega)
theorem nextRnd {w0 w : World} {g sb X : Nat} {l : List (aS KeyT)} {n : Nat} {d : Array TxN} (hc : iC w0 w g sb X) (hX : X < 18446744073709551616) (h : bJ l g w0 w n d) :
  Calls Tryz.prog 108 #[.pointer (some ⟨sb, 0, none⟩)] w fun e w' => e = .returned (.int .u64 ((xorNextN X : Nat) : Int)) ∧ iC w0 w' g sb (xorNextN X) ∧ bJ l g w0 w' n d := by
 have hn := AnyF.xorshift_Next (P := Tryz.prog) { Tryz.sortL with } sb 0 X hX w (hc.bx.cell 0 _ rfl) (hc.bx.frozen 0)
 have hn2 : Calls Tryz.prog 108 #[.pointer (some ⟨sb, 0, none⟩)] w _ := hn
 refine hn2.mono ?_
 rintro e w' ⟨rfl, rfl⟩
 have h1 := h.rnd hc (.int .u64 ((xorNextN X : Nat) : Int))
 have c1 := hc.up (Y := xorNextN X)
 have hd : ∀ (W : World), aC (fun _ => False) W (W.drewN 3) := fun W => ((((aC.refl (fun _ => False) W).drew).drew).drew)
 exact ⟨rfl, c1.keep (hd _) (fun h => h), h1.keepS (hd _) (fun h => h) (h1.kb.trans (hd _) (fun _ _ h => h.elim))⟩
theorem powTwo (m : Nat) (hm : m ≤ 100) (w : World) : Calls Tryz.prog 107 #[.int .i64 (m : Int)] w fun e w' => e = .returned (.int .u64 ((1 <<< bitsLen m : Nat) : Int)) ∧ w' = w :=
 AnyF.nextPowerOfTwo (P := Tryz.prog) { Tryz.sortL with } m (by omega) w
attribute [local go_sem ↓] fT
set_option maxRecDepth 100000 in
set_option maxHeartbeats 6400000 in
theorem brkB {l : List (aS KeyT)} {q g n : Nat} {w0 w : World} {d : Array TxN} (cap a b : Nat) (hC : iB l q g w0) (h : bJ l g w0 w n d) (hg : g < w0.heap.size) (h8b : 8 ≤ b - a) (hb : b ≤ n) (hsz : n ≤ 100) :
  Calls Tryz.prog 91 #[.slice (some ⟨g, 0, none⟩) n cap, .int .i64 (a : Int), .int .i64 (b : Int), ageV q] w fun e w' => e = .returned (.tuple #[]) ∧ bJ l g w0 w' n (breakPatterns d a b) := by
 have H := aA h
 have HC := aA hC
 have mixed : Tryz.prog.follows .mixedOrders = true := by kernel_rfl
 have hA := aE w (.cells #[.int .u64 ((b - a : Nat) : Int)] 149)
 have H1 := aA (h.below hA)
 have hbx := aN w #[.int .u64 ((b - a : Nat) : Int)] 149
 have hC1 : iC w0 (w.alloc (.cells #[.int .u64 ((b - a : Nat) : Int)] 149)) g w.heap.size (b - a) := ⟨hbx, h.kb.size, hg⟩
 obtain ⟨m, hm⟩ : ∃ m, m = b - a := ⟨_, rfl⟩
 rw [← hm] at H1 hC1
 obtain ⟨w1, hw1⟩ : ∃ w1, w1 = w.alloc (.cells #[.int .u64 (m : Int)] 149) := ⟨_, rfl⟩
 obtain ⟨sb, hsb⟩ : ∃ sb, sb = w.heap.size := ⟨_, rfl⟩
 rw [← hw1] at H1 hC1
 rw [← hsb] at hC1
 have C1 : Hid (iC w0 w1 g sb (UInt64.ofNat m).toNat) := aA (by rw [show (UInt64.ofNat m).toNat = m from by simp; omega]; exact hC1)
 have hW1 := hw1.symm
 have hSB := hsb.symm
 obtain ⟨mq, hmq⟩ : ∃ mq, mq = m / 4 := ⟨_, rfl⟩
 obtain ⟨e0, he0⟩ : ∃ e0, e0 = a + mq * 2 := ⟨_, rfl⟩
 obtain ⟨i0, hi0⟩ : ∃ i0, i0 = e0 - 1 := ⟨_, rfl⟩
 obtain ⟨M, hM⟩ : ∃ M : Nat, M = 1 <<< bitsLen m := ⟨_, rfl⟩
 have hM1 : 1 ≤ M := by rw [hM, Nat.one_shiftLeft]; exact Nat.two_pow_pos _
 have hM2 : M ≤ 2 * m := by rw [hM, Nat.one_shiftLeft]; exact two_pow_bitsLen_le (by omega)
 have CP := aA (fun W => powTwo m (by omega) W)
 rw [← hM] at CP
 obtain ⟨M1, hMM⟩ : ∃ M1, M1 = M - 1 := ⟨_, rfl⟩
 obtain ⟨R, hR⟩ : ∃ R, R = breakPatterns d a b := ⟨_, rfl⟩
 have HR : Hid (R = bpRest a m (M1 + 1) i0 (3 - 0) 0 (UInt64.ofNat m, d)) := aA (by
  have e := breakPatterns_eq d a m (by omega)
  rw [show a + m = b from by omega] at e
  rw [hR, e, show M1 + 1 = 1 <<< bitsLen m from by omega, show i0 = a + m / 4 * 2 - 1 from by omega])
 have g1 : (b : Int) - (a : Int) = (m : Int) := by omega
 have g2 : (m : Int).tdiv 4 = (mq : Int) := by rw [Int.tdiv_eq_ediv_of_nonneg (by omega)]; omega
 have g3 : (a : Int) + (mq : Int) * 2 = (e0 : Int) := by omega
 have g4 : (e0 : Int) - 1 = (i0 : Int) := by omega
 have g5 : (M : Int) - 1 = (M1 : Int) := by omega
 have h8 : (8 : Int) ≤ (m : Int) := by omega
 have bm : m ≤ 100 ∧ mq ≤ 100 ∧ a ≤ 100 ∧ b ≤ 100 ∧ M1 ≤ 300 ∧ a < i0 ∧ i0 + 2 < b ∧ e0 = i0 + 1 ∧ a + m = b ∧ M1 + 1 ≤ 2 * m := by omega
 obtain ⟨bm1, bm2, bm3, bm4, bm5, bm6, bm7, bm8, bm9, bm10⟩ := bm
 clear h hC
 rw [← hR]
 clear hm hmq he0 hi0 hM hM1 hM2 hMM hR hw1 hsb hbx hC1 hA H
 go_enter Tryz.func91, Tryz.ntmps91
 go_wp2_with fail
 refine (CP.out _).mono ?_
 rintro e w2 ⟨rfl, hw2⟩
 subst hw2
 go_wp2_with fail
 go_loopw [11] (fun x wr => ∃ (t : Nat) (r : UInt64) (xi : Int) (dk : Array TxN), x = .int .i64 xi ∧ xi = (i0 : Int) + (t : Int) ∧ t ≤ 3 ∧ Hid (bJ l g w0 wr n dk) ∧ Hid (iC w0 wr g sb r.toNat) ∧ Hid (R = bpRest a m (M1 + 1) i0 (3 - t) t (r, dk))) (fun x _ => ctK (i0 + 3) x)
 case atStart => exact ⟨0, UInt64.ofNat m, (i0 : Int), d, rfl, by omega, by omega, H1, C1, HR⟩
 case round =>
  clear HR
  obtain ⟨t, r, xi, dk, rfl, rfl, ht, HT, HC9, HO⟩ := hrel
  obtain ⟨ix, hix⟩ : ∃ ix, ix = i0 + t := ⟨_, rfl⟩
  have g6 : (i0 : Int) + (t : Int) = (ix : Int) := by omega
  have HIX := aA hix
  rw [g6]
  clear hix
  by_cases h3 : t < 3
  ·have hz : (ix : Int) ≤ (e0 : Int) + 1 := by have := HIX.out; omega
   have CN := aA (nextRnd HC9.out r.toNat_lt HT.out)
   obtain ⟨R2, hR2⟩ : ∃ R2, R2 = xorNextN r.toNat := ⟨_, rfl⟩
   rw [← hR2] at CN
   have lR2 : R2 < 18446744073709551616 := by rw [hR2]; exact xorNextN_lt _ r.toNat_lt
   obtain ⟨O, hO⟩ : ∃ O, O = R2 &&& M1 := ⟨_, rfl⟩
   have lO : O ≤ M1 := by rw [hO]; exact Nat.and_le_right
   have eAnd : bits .and .u64 (R2 : Int) (M1 : Int) = (O : Int) := by rw [bits_and_u64_nat _ _ lR2 (by omega), hO]
   have HO2 : Hid (R2 = (xorNext r).toNat ∧ O = (xorNext r).toNat &&& ((M1 + 1) - 1)) := aA (by
    have e : R2 = (xorNext r).toNat := by rw [hR2, xorNext_toNat]
    exact ⟨e, by rw [hO, e, Nat.add_sub_cancel]⟩)
   clear hR2 hO
   go_wp2_with fail
   refine CN.out.mono ?_
   rintro e w3 ⟨rfl, c3, h3'⟩
   have HC3 := aA c3
   have H3 := aA h3'
   clear c3 h3'
   by_cases hge : m ≤ O
   ·have hzz : (m : Int) ≤ (O : Int) := by omega
    obtain ⟨ot, hot⟩ : ∃ ot, ot = O - m := ⟨_, rfl⟩
    obtain ⟨fo, hfo⟩ : ∃ fo, fo = a + ot := ⟨_, rfl⟩
    have HOT := aA hot
    have HFO := aA hfo
    have g7 : (O : Int) - (m : Int) = (ot : Int) := by omega
    have g8 : (a : Int) + (ot : Int) = (fo : Int) := by omega
    have hfn : fo < n := by omega
    have hin : ix < n := by have := HIX.out; omega
    have z1 : (ix : Int) < (n : Int) := by omega
    have z2 : (fo : Int) < (n : Int) := by omega
    have v1 : IntKind.i64.wrap (ix : Int) = (ix : Int) := by rw [IntKind.wrap_i64]; omega
    have v2 : IntKind.i64.wrap (fo : Int) = (fo : Int) := by rw [IntKind.wrap_i64]; omega
    have v3 : IntKind.i64.wrap ((a : Int) + (ot : Int)) = (fo : Int) := by rw [IntKind.wrap_i64]; omega
    have v4 : IntKind.i64.wrap (O : Int) = (O : Int) := by rw [IntKind.wrap_i64]; omega
    clear hot hfo
    obtain ⟨Xa, Ya, HXa, ssa, tta⟩ := twoAt H3.out (i := ix) (j := fo) (by omega) (by omega)
    have HG : Hid (R = bpRest a m (M1 + 1) i0 (3 - (t + 1)) (t + 1) (xorNext r, swp dk ix fo)) := aA (by
     rw [HO.out, HIX.out, HFO.out]
     refine bp_step a m (M1 + 1) i0 t r dk ot h3 ?_
     rw [← HO2.out.2, HOT.out]
     exact if_pos hge)
    have HCN : Hid (iC w0 ((w3.drew.setCells g (ix * 3) (txCs (txI Ya))).setCells g (fo * 3) (txCs (txI Xa))) g sb (xorNext r).toNat) := aA (by rw [← HO2.out.1]; exact HC3.out.swp ix fo Xa Ya)
    clear HT HC9 HO CN
    go_wp2_with fail
    all_goals
     obtain ⟨st1, st2, HN⟩ := gE H3.out (i := ix) (j := fo) (by omega) (by omega) HXa.out.1 HXa.out.2.1
     obtain ⟨e0, e1, e2⟩ := ssa
     obtain ⟨e3, e4, e5⟩ := tta
    all_goals go_region
    all_goals (first | simp only [Exit.then] | simp only [Exit.inBlock, Exit.then] | skip)
    all_goals rename_i hK
    all_goals refine hK _ _ ?_
    all_goals clear hK st1 st2 e0 e1 e2 e3 e4 e5
    all_goals go_wp2_with fail
    all_goals exact ⟨⟨t + 1, xorNext r, (ix : Int) + 1, _, rfl, by have := HIX.out; omega, by omega, HN, HCN, HG⟩, by rw [show (ix : Int) + 1 = ((ix + 1 : Nat) : Int) from by omega, cB, cB]; have := HIX.out; omega⟩
   ·have hzz : ¬ (m : Int) ≤ (O : Int) := by omega
    obtain ⟨fo, hfo⟩ : ∃ fo, fo = a + O := ⟨_, rfl⟩
    have HFO := aA hfo
    have g8 : (a : Int) + (O : Int) = (fo : Int) := by omega
    have hfn : fo < n := by omega
    have hin : ix < n := by have := HIX.out; omega
    have z1 : (ix : Int) < (n : Int) := by omega
    have z2 : (fo : Int) < (n : Int) := by omega
    have v1 : IntKind.i64.wrap (ix : Int) = (ix : Int) := by rw [IntKind.wrap_i64]; omega
    have v2 : IntKind.i64.wrap (fo : Int) = (fo : Int) := by rw [IntKind.wrap_i64]; omega
    have v3 : IntKind.i64.wrap ((a : Int) + (O : Int)) = (fo : Int) := by rw [IntKind.wrap_i64]; omega
    have v4 : IntKind.i64.wrap (O : Int) = (O : Int) := by rw [IntKind.wrap_i64]; omega
    clear hfo
    obtain ⟨Xa, Ya, HXa, ssa, tta⟩ := twoAt H3.out (i := ix) (j := fo) (by omega) (by omega)
    have HG : Hid (R = bpRest a m (M1 + 1) i0 (3 - (t + 1)) (t + 1) (xorNext r, swp dk ix fo)) := aA (by
     rw [HO.out, HIX.out, HFO.out]
     refine bp_step a m (M1 + 1) i0 t r dk O h3 ?_
     rw [← HO2.out.2]
     exact if_neg hge)
    have HCN : Hid (iC w0 ((w3.drew.setCells g (ix * 3) (txCs (txI Ya))).setCells g (fo * 3) (txCs (txI Xa))) g sb (xorNext r).toNat) := aA (by rw [← HO2.out.1]; exact HC3.out.swp ix fo Xa Ya)
    clear HT HC9 HO CN
    go_wp2_with fail
    all_goals
     obtain ⟨st1, st2, HN⟩ := gE H3.out (i := ix) (j := fo) (by omega) (by omega) HXa.out.1 HXa.out.2.1
     obtain ⟨e0, e1, e2⟩ := ssa
     obtain ⟨e3, e4, e5⟩ := tta
    all_goals go_region
    all_goals (first | simp only [Exit.then] | simp only [Exit.inBlock, Exit.then] | skip)
    all_goals rename_i hK
    all_goals refine hK _ _ ?_
    all_goals clear hK st1 st2 e0 e1 e2 e3 e4 e5
    all_goals go_wp2_with fail
    all_goals exact ⟨⟨t + 1, xorNext r, (ix : Int) + 1, _, rfl, by have := HIX.out; omega, by omega, HN, HCN, HG⟩, by rw [show (ix : Int) + 1 = ((ix + 1 : Nat) : Int) from by omega, cB, cB]; have := HIX.out; omega⟩
  ·obtain rfl : t = 3 := by omega
   have hz : ¬ (ix : Int) ≤ (e0 : Int) + 1 := by have := HIX.out; omega
   go_wp2_with fail
   go_end0
   have h1 := HT.out
   have h2 : R = dk := HO.out
   rw [← h2] at h1
   exact ⟨rfl, h1⟩
end
end Go.Proofs.YtiloagmkkhlfjaaGreat
