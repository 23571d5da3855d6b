/-
  Own texts put together: IdNum, LkAge, MgLaw, MgDo, E10One, LkRef, LkLocked, LkQue. Own work.
-/
import Derived.Test.YtiloagmkkhlfjaaGreatG07
import Derived.Test.YtiloagmkkhlfjaaGreatG01
import Derived.Test.YtiloagmkkhlfjaaGreatG09
import Derived.Test.YtiloagmkkhlfjaaGreatG08
import Derived.Deep.RegionHeldLaw
import Derived.Deep.QuietTactic
import Derived.BigQuiet
import Derived.Sort.Grow
import Derived.Deep.LoopGhost
namespace Go.Proofs.YtiloagmkkhlfjaaGreat
set_option maxRecDepth 100000
section
open Go.RowKit
theorem counts_any (n : Int) (w : World) : Calls Tryz.prog 78 #[.int .u32 n] w fun e w' => e = .returned (.bool (countB n)) ∧ w' = w := by
 unfold countB
 by_cases h : 1 ≤ n
 ·have h1 : decide (1 ≤ n) = true := by simpa using h
  rw [h1, Bool.true_and]
  go_enter Tryz.func78, Tryz.ntmps78
  go_wp2
  go_ret
  exact ⟨rfl, rfl⟩
 ·have h1 : decide (1 ≤ n) = false := by simpa using h
  rw [h1, Bool.false_and]
  go_enter Tryz.func78, Tryz.ntmps78
  go_wp2
  go_ret
  exact ⟨rfl, rfl⟩
theorem rcount_any (n : Int) (w : World) : Calls Tryz.prog 82 #[.int .u32 n] w fun e w' => e = .returned (.bool (countB n)) ∧ w' = w := by
 unfold countB
 by_cases h : 1 ≤ n
 ·have h1 : decide (1 ≤ n) = true := by simpa using h
  rw [h1, Bool.true_and]
  go_enter Tryz.func82, Tryz.ntmps82
  go_wp2
  go_ret
  exact ⟨rfl, rfl⟩
 ·have h1 : decide (1 ≤ n) = false := by simpa using h
  rw [h1, Bool.false_and]
  go_enter Tryz.func82, Tryz.ntmps82
  go_wp2
  go_ret
  exact ⟨rfl, rfl⟩
theorem txMay_any (n b m : Int) (w : World) : Calls Tryz.prog 49 #[.agg #[.int .u8 n, .int .u32 b, .int .u32 m]] w fun e w' => e = .returned (.bool (kO (n, b, m))) ∧ Below w.heap.size w w' := by
 unfold kO
 by_cases h : n < 8
 ·have h1 : decide (n < 8) = true := by simpa using h
  rw [h1, Bool.true_and]
  cases hb : countB b
  all_goals
   go_enter Tryz.func49, Tryz.ntmps49
   go_wp2_with (go_at_call 78; refine (counts_any _ _).mono ?_; rintro e w' ⟨rfl, rfl⟩)
   go_ret
   exact ⟨rfl, (Below.refl _ _).alloc (Nat.le_refl _) _⟩
 ·have h1 : decide (n < 8) = false := by simpa using h
  rw [h1, Bool.false_and]
  go_enter Tryz.func49, Tryz.ntmps49
  go_wp2
  go_ret
  exact ⟨rfl, (Below.refl _ _).alloc (Nat.le_refl _) _⟩
theorem rtxMay_any (n b m : Int) (w : World) : Calls Tryz.prog 54 #[.agg #[.int .u8 n, .int .u32 b, .int .u32 m]] w fun e w' => e = .returned (.bool (kO (n, b, m))) ∧ Below w.heap.size w w' := by
 unfold kO
 by_cases h : n < 8
 ·have h1 : decide (n < 8) = true := by simpa using h
  rw [h1, Bool.true_and]
  cases hb : countB b
  all_goals
   go_enter Tryz.func54, Tryz.ntmps54
   go_wp2_with (go_at_call 82; refine (rcount_any _ _).mono ?_; rintro e w' ⟨rfl, rfl⟩)
   go_ret
   exact ⟨rfl, (Below.refl _ _).alloc (Nat.le_refl _) _⟩
 ·have h1 : decide (n < 8) = false := by simpa using h
  rw [h1, Bool.false_and]
  go_enter Tryz.func54, Tryz.ntmps54
  go_wp2
  go_ret
  exact ⟨rfl, (Below.refl _ _).alloc (Nat.le_refl _) _⟩
theorem stMay_any (t n b m : Int) (w : World) : Calls Tryz.prog 70 #[.agg #[.int .u32 t, .int .u8 n, .int .u32 b, .int .u32 m]] w fun e w' => e = .returned (.bool (stMayB (t, n, b, m))) ∧ Below w.heap.size w w' := by
 unfold stMayB
 have C := fun w => txMay_any n b m w
 by_cases h : t ≤ 2147483647
 ·have h1 : decide (t ≤ 2147483647) = true := by simpa using h
  rw [h1, Bool.true_and]
  go_enter Tryz.func70, Tryz.ntmps70
  go_wp2_with (go_at_call 49; refine (C _).mono ?_; rintro e w' ⟨rfl, hB⟩)
  go_ret
  exact ⟨rfl, ((Below.refl _ _).alloc (Nat.le_refl _) _).trans (hB.mono (by simp))⟩
 ·have h1 : decide (t ≤ 2147483647) = false := by simpa using h
  rw [h1, Bool.false_and]
  go_enter Tryz.func70, Tryz.ntmps70
  go_wp2
  go_ret
  exact ⟨rfl, (Below.refl _ _).alloc (Nat.le_refl _) _⟩
theorem rstMay_any (t n b m : Int) (w : World) : Calls Tryz.prog 58 #[.agg #[.int .u32 t, .int .u8 n, .int .u32 b, .int .u32 m]] w fun e w' => e = .returned (.bool (stMayB (t, n, b, m))) ∧ Below w.heap.size w w' := by
 unfold stMayB
 have C := fun w => rtxMay_any n b m w
 by_cases h : t ≤ 2147483647
 ·have h1 : decide (t ≤ 2147483647) = true := by simpa using h
  rw [h1, Bool.true_and]
  go_enter Tryz.func58, Tryz.ntmps58
  go_wp2_with (go_at_call 54; refine (C _).mono ?_; rintro e w' ⟨rfl, hB⟩)
  go_ret
  exact ⟨rfl, ((Below.refl _ _).alloc (Nat.le_refl _) _).trans (hB.mono (by simp))⟩
 ·have h1 : decide (t ≤ 2147483647) = false := by simpa using h
  rw [h1, Bool.false_and]
  go_enter Tryz.func58, Tryz.ntmps58
  go_wp2
  go_ret
  exact ⟨rfl, (Below.refl _ _).alloc (Nat.le_refl _) _⟩
end
section
open Go.RowKit Go.Maps Classical
abbrev zU : Array Value := #[.int .u32 0, .int .u8 0, .int .u32 0, .int .u32 0, .bool false, .map none, .map none]
theorem mmap_made (w : World) : jD (w.alloc (.map #[] 0)) w.heap.size (fun _ => 0) 0 := (gmap_made kB w).as (fun _ => rfl)
theorem buildUs (a b c d : Int) (m1 m2 : Nat) (w : World) : (Instr.build 80 #[(0, .agg #[.int .u32 a, .int .u8 b, .int .u32 c, .int .u32 d]), (2, .map (some m1)), (3, .map (some m2))]).run Tryz.prog w = .ok (.agg #[.int .u32 a, .int .u8 b, .int .u32 c, .int .u32 d, .bool false, .map (some m1), .map (some m2)]) w := by kernel_rfl
set_option maxHeartbeats 1600000 in
theorem newUser15 (tm : Nat) (t : TxN) (w : World) : Calls Tryz.prog 43 #[.agg #[.int .u32 (tm : Int), .int .u8 (t.1 : Int), .int .u32 (t.2.1 : Int), .int .u32 (t.2.2 : Int)]] w fun e w' =>
  ∃ m1 m2, e = .returned (usV (tm, t, false, some m1, some m2)) ∧ jD w' m1 (fun _ => 0) 0 ∧ jD w' m2 (fun _ => 0) 0 ∧ m1 ≠ m2 ∧ w.heap.size ≤ m1 ∧ w.heap.size ≤ m2 ∧ Below w.heap.size w w' := by
 have hmm := @run_makeMap Tryz.prog
 have hbu := buildUs (tm : Int) (t.1 : Int) (t.2.1 : Int) (t.2.2 : Int)
 have hA := aE w (.cells #[.int .u32 (tm : Int), .int .u8 (t.1 : Int), .int .u32 (t.2.1 : Int), .int .u32 (t.2.2 : Int)] 36)
 have hX := aN w #[.int .u32 (tm : Int), .int .u8 (t.1 : Int), .int .u32 (t.2.1 : Int), .int .u32 (t.2.2 : Int)] 36
 obtain ⟨w1, hw1⟩ : ∃ w1, w1 = w.alloc (.cells #[.int .u32 (tm : Int), .int .u8 (t.1 : Int), .int .u32 (t.2.1 : Int), .int .u32 (t.2.2 : Int)] 36) := ⟨_, rfl⟩
 rw [← hw1] at hA hX
 have hA2 := aE w1 (.cells zU 80)
 have hU := aN w1 zU 80
 obtain ⟨w2, hw2⟩ : ∃ w2, w2 = w1.alloc (.cells zU 80) := ⟨_, rfl⟩
 rw [← hw2] at hA2 hU
 have hX2 := hX.belowI hA2
 have hA3 := aE w2 (.map #[] 0)
 have hM1 := mmap_made w2
 obtain ⟨w3, hw3⟩ : ∃ w3, w3 = w2.alloc (.map #[] 0) := ⟨_, rfl⟩
 rw [← hw3] at hA3 hM1
 have hA4 := aE w3 (.map #[] 0)
 have hM2 := mmap_made w3
 obtain ⟨w4, hw4⟩ : ∃ w4, w4 = w3.alloc (.map #[] 0) := ⟨_, rfl⟩
 rw [← hw4] at hA4 hM2
 have hs1 : w1.heap.size = w.heap.size + 1 := by rw [hw1]; simp
 have hs2 : w2.heap.size = w1.heap.size + 1 := by rw [hw2]; simp
 have hs3 : w3.heap.size = w2.heap.size + 1 := by rw [hw3]; simp
 have HU := aA ((hU.belowI hA3).belowI hA4)
 have HM1 := aA (hM1.below hA4)
 have HM2 := aA hM2
 have HX := aA hX2
 have HB := aA (hA.trans ((hA2.trans ((hA3.trans (hA4.mono hA3.size)).mono hA2.size)).mono hA.size))
 have HS := aA (And.intro hs1 (And.intro hs2 hs3))
 obtain ⟨m0, hm0⟩ : ∃ m0, m0 = w1.heap.size := ⟨_, rfl⟩
 obtain ⟨m1, hm1⟩ : ∃ m1, m1 = w2.heap.size := ⟨_, rfl⟩
 obtain ⟨m2, hm2⟩ : ∃ m2, m2 = w3.heap.size := ⟨_, rfl⟩
 rw [← hm0] at HU
 rw [← hm1] at HM1
 rw [← hm2] at HM2
 have HQ : Hid (w.heap.size ≤ m0 ∧ w.heap.size ≤ m1 ∧ w.heap.size ≤ m2 ∧ m1 ≠ m2 ∧ m0 ≠ m1 ∧ m0 ≠ m2) := aA (by omega)
 have e1 := hw1.symm
 have e2 := hw2.symm
 have e3 := hw3.symm
 have e4 := hw4.symm
 have f0 := hm0.symm
 have f1 := hm1.symm
 have f2 := hm2.symm
 clear hA hX hA2 hU hX2 hA3 hM1 hA4 hM2 hs1 hs2 hs3 hw1 hw2 hw3 hw4 hm0 hm1 hm2
 go_enter Tryz.func43, Tryz.ntmps43
 go_wp2_with (first | (refine dM rfl _ rfl w.heap.size rfl HX.out Tryz.underlying36 rfl infoSt15 ?_) | (refine aP rfl rfl _ _ rfl m0 rfl (cs' := usA (tm, t, false, some m1, some m2)) rfl HU.out rfl gZ (by simp [Value.oneCell']) ?_; intro w5 hb5 hk5; have HX5 := aA hb5; have HK5 := aA hk5; clear hb5 hk5))
 refine bodyPost_ret (v := usV (tm, t, false, some m1, some m2)) (eL Tryz.results43 _ _ m0 rfl HX5.out Tryz.underlying80 rfl gZ) rfl ⟨m1, m2, rfl, HM1.out.keep HK5.out (fun e => HQ.out.2.2.2.2.1 e.symm), HM2.out.keep HK5.out (fun e => HQ.out.2.2.2.2.2 e.symm), HQ.out.2.2.2.1, HQ.out.2.1, HQ.out.2.2.1, HB.out.trans (HK5.out.below HB.out.size (fun k e => by rw [e]; exact HQ.out.1))⟩
theorem ag_getU (p : TxN → Nat × Nat) (l : List (aS KeyT)) (t : TxT) : (((((gU l p t).getD zE).1 : Nat) : Int), txI ((gU l p t).getD zE).2.1) = (aT l t.1).ag := by
 cases hu : cM l t.1 with
 | none =>
  have e : gU l p t = none := by show (cM l t.1).map _ = _; rw [hu]; rfl
  rw [e, dA hu]
  rfl
 | some u =>
  have e : gU l p t = some (u.tm, u.tx, u.pr, some (p t.1).1, some (p t.1).2) := by show (cM l t.1).map _ = _; rw [hu]; rfl
  have eg : aT l t.1 = u := by unfold aT; rw [hu]; rfl
  rw [e, eg]
  rfl
set_option maxHeartbeats 1600000 in
theorem byAge15 (q b C : Nat) (p : TxN → Nat × Nat) (l : List (aS KeyT)) (x y : TxN) (w : World) (h : fJ w q b C p l) (hx : kJ x) (hy : kJ y) :
  Calls Tryz.prog 37 #[.pointer (some ⟨q, 0, none⟩), aV x, aV y] w fun e w' => e = .returned (.int .i64 (fO (aT l x).ag (aT l y).ag)) ∧ dN w w' := by
 have hA := aE w (.cells #[.int .u8 (x.1 : Int), .int .u32 (x.2.1 : Int), .int .u32 (x.2.2 : Int)] 34)
 have hA2 := aE (w.alloc (.cells #[.int .u8 (x.1 : Int), .int .u32 (x.2.1 : Int), .int .u32 (x.2.2 : Int)] 34)) (.cells #[.int .u8 (y.1 : Int), .int .u32 (y.2.1 : Int), .int .u32 (y.2.2 : Int)] 34)
 have hB2 := hA.trans (hA2.mono hA.size)
 have HX := aA ((aN w #[.int .u8 (x.1 : Int), .int .u32 (x.2.1 : Int), .int .u32 (x.2.2 : Int)] 34).belowI hA2)
 have HY : Hid (bZ ((w.alloc (.cells #[.int .u8 (x.1 : Int), .int .u32 (x.2.1 : Int), .int .u32 (x.2.2 : Int)] 34)).alloc (.cells #[.int .u8 (y.1 : Int), .int .u32 (y.2.1 : Int), .int .u32 (y.2.2 : Int)] 34)) (w.heap.size + 1) #[.int .u8 (y.1 : Int), .int .u32 (y.2.1 : Int), .int .u32 (y.2.2 : Int)] 34) := aA (by have := aN (w.alloc (.cells #[.int .u8 (x.1 : Int), .int .u32 (x.2.1 : Int), .int .u32 (x.2.2 : Int)] 34)) #[.int .u8 (y.1 : Int), .int .u32 (y.2.1 : Int), .int .u32 (y.2.2 : Int)] 34; simpa using this)
 obtain ⟨w1, hw1⟩ : ∃ w1, w1 = (w.alloc (.cells #[.int .u8 (x.1 : Int), .int .u32 (x.2.1 : Int), .int .u32 (x.2.2 : Int)] 34)).alloc (.cells #[.int .u8 (y.1 : Int), .int .u32 (y.2.1 : Int), .int .u32 (y.2.2 : Int)] 34) := ⟨_, rfl⟩
 obtain ⟨p1, hp1⟩ : ∃ p1, p1 = w.heap.size := ⟨_, rfl⟩
 obtain ⟨p2, hp2⟩ : ∃ p2, p2 = p1 + 1 := ⟨_, rfl⟩
 have HG : Hid (dN w w1) := aA (by rw [hw1]; exact ((dN.refl w).alloc _).alloc _)
 rw [← hw1, ← hp1] at HX
 rw [← hw1, ← hp1, ← hp2] at HY
 rw [← hw1] at hB2
 have HW1 := aA hw1
 have HP1 := aA hp1
 have HP2 := aA hp2
 have h1 := h.below hB2
 obtain ⟨⟨tm, ⟨ta, tb, tc⟩, pr, hb, wb⟩, hE⟩ : ∃ E : E15, E = (gU l p ⟨x, hx⟩).getD zE := ⟨_, rfl⟩
 obtain ⟨⟨um, ⟨ua, ub, uc⟩, ur, ib, vb⟩, hF⟩ : ∃ E : E15, E = (gU l p ⟨y, hy⟩).getD zE := ⟨_, rfl⟩
 have e1 := ag_getU p l ⟨x, hx⟩
 have e2 := ag_getU p l ⟨y, hy⟩
 rw [← hE] at e1
 rw [← hF] at e2
 rw [← e1, ← e2]
 have h0 : w1.cell? ⟨q, 0, none⟩ = some (.map (some b)) := h1.box.cell 0 _ rfl
 obtain ⟨x0, x1, x2⟩ := HX.out.three
 obtain ⟨y0, y1, y2⟩ := HY.out.three
 have L1 := (h1.m.below (aG w1)).look1 fM ⟨x, hx⟩
 have L2 := (h1.m.below (aG w1)).look1 fM ⟨y, hy⟩
 rw [← hE] at L1
 rw [← hF] at L2
 have f1 := field0_us (tm, (ta, tb, tc), pr, hb, wb)
 have f2 := field0_us (um, (ua, ub, uc), ur, ib, vb)
 have CS := aA (fun W => stamps_any (tm : Int) (ta : Int) (tb : Int) (tc : Int) (um : Int) (ua : Int) (ub : Int) (uc : Int) W)
 obtain ⟨R, hR⟩ : ∃ R, R = fO ((tm : Int), (ta : Int), (tb : Int), (tc : Int)) ((um : Int), (ua : Int), (ub : Int), (uc : Int)) := ⟨_, rfl⟩
 have HR : Hid (fO ((((tm, (ta, tb, tc), pr, hb, wb) : E15).1 : Int), txI ((tm, (ta, tb, tc), pr, hb, wb) : E15).2.1) ((((um, (ua, ub, uc), ur, ib, vb) : E15).1 : Int), txI ((um, (ua, ub, uc), ur, ib, vb) : E15).2.1) = R) := aA hR.symm
 rw [← hR] at CS
 rw [HR.out]
 have HCS : Hid (∀ W, Below w1.drew.heap.size w1.drew W → W.cell? ⟨q, 0, none⟩ = some (.map (some b)) ∧ W.cell? ⟨p1, 0, none⟩ = some (.int .u8 (x.1 : Int)) ∧ W.cell? ⟨p1, 1, none⟩ = some (.int .u32 (x.2.1 : Int)) ∧ W.cell? ⟨p1, 2, none⟩ = some (.int .u32 (x.2.2 : Int)) ∧ W.cell? ⟨p2, 0, none⟩ = some (.int .u8 (y.1 : Int)) ∧ W.cell? ⟨p2, 1, none⟩ = some (.int .u32 (y.2.1 : Int)) ∧ W.cell? ⟨p2, 2, none⟩ = some (.int .u32 (y.2.2 : Int))) := aA (fun W hW => by
  have hW1 : Below w1.heap.size w1 W := (aG w1).trans hW
  obtain ⟨a0, a1, a2⟩ := (HX.out.belowI hW1).three
  obtain ⟨b0, b1, b2⟩ := (HY.out.belowI hW1).three
  exact ⟨(h1.box.belowI hW1).cell 0 _ rfl, a0, a1, a2, b0, b1, b2⟩)
 clear h hA hA2 hB2 hw1 hp1 hp2 hE hF e1 e2 h1 hR HX HY
 go_enter Tryz.func37, Tryz.ntmps37
 go_wp2_with fail
 rw [← HW1.out, ← HP1.out, ← HP2.out]
 go_region_held (fun w' => w'.cell? ⟨q, 0, none⟩ = some (.map (some b)) ∧ w'.cell? ⟨p1, 0, none⟩ = some (.int .u8 (x.1 : Int)) ∧ w'.cell? ⟨p1, 1, none⟩ = some (.int .u32 (x.2.1 : Int)) ∧ w'.cell? ⟨p1, 2, none⟩ = some (.int .u32 (x.2.2 : Int)) ∧ w'.cell? ⟨p2, 0, none⟩ = some (.int .u8 (y.1 : Int)) ∧ w'.cell? ⟨p2, 1, none⟩ = some (.int .u32 (y.2.1 : Int)) ∧ w'.cell? ⟨p2, 2, none⟩ = some (.int .u32 (y.2.2 : Int))) (go_keep) (first
  | (go_at_call 68; refine (CS.out _).mono ?_; rintro e w3 ⟨rfl, hG⟩; have ss := HCS.out _ hG.below; have HG3 : Hid (dN w w3) := aA (HG.out.drew.trans hG); clear hG))
 all_goals go_wp2_with fail
 all_goals go_ret
 all_goals exact ⟨rfl, HG3.out⟩
def dG (tm : Nat) (t : TxN) (k : KeyT) (m : Nat) : Bool := stMayB (agS tm t) && ((cU k.1).2 && (decide (m = 1) || decide (m = 2)))
def iF (l : List (aS KeyT)) (may : Bool) (t : TxN) : Int := if may = false then 1 else if (aT l t).pr = true then 11 else if (cM l t).isNone = true ∧ 64 ≤ l.length then 5 else 0
end
section
open Go.RowKit
theorem alloc_below10 (w : World) (o : Obj) : Below w.heap.size w (w.alloc o) := (Below.refl _ _).alloc (Nat.le_refl _) o
end
section
open Go.RowKit Classical
def MgLies (w : World) (v : Value) (m : MsgP) : Prop := ∃ (ao : Option Addr) (cap : Nat), v = .agg (msgA m (.slice ao m.wr.length cap)) ∧ bI wrE w (.slice ao m.wr.length cap) m.wr
theorem MgLies.below {w w' : World} {v : Value} {m : MsgP} (h : MgLies w v m) (hB : Below w.heap.size w w') : MgLies w' v m := by
 obtain ⟨ao, cap, rfl, hs⟩ := h
 exact ⟨ao, cap, rfl, hs.below hB⟩
end
section
open Go.RowKit Classical
theorem wp_load_box_g {ops : Array Oper} {rest : List Oper} {op : Oper} {a : Act} {w : World} {Q : Exit → Act → World → Prop} {t t0 : TypeId} {d : TypeDesc} (hgd : Region.wanted op (yielded ops a.tmps) = true) (x : Operand) (ho : op.op = .load t x)
  (p : Nat) (hx : a.eval x = .pointer (some ⟨p, 0, none⟩)) {cs : Array Value} (hb : bZ w p cs t0) (hu : Tryz.prog.underlying t = some d) (hd : d.isRow = true) (hi : (Tryz.prog.info? t).map (·.size) = some cs.size)
  (h : wpList Tryz.prog ops Q rest (a.put op.dst (.agg cs)) w) : wpList Tryz.prog ops Q (op :: rest) a w := by
 have hr : w.rangeAt p 0 cs.toList := fun j v hv => by
  rw [Nat.zero_add]; exact hb.cell j v (by simpa using hv)
 exact wpList_wanted hgd fun _ hK => wp_load_mid t x ho p 0 hx cs.toList d hr hu hd (by simpa using hi) (hK _ _ (by simpa using h))
end
section
open Go.RowKit Go.Maps Classical
theorem may15_split (tm : Nat) (t : TxN) (k : KeyT) (m : Nat) : dG tm t k m = (stMayB ((tm : Int), (t.1 : Int), (t.2.1 : Int), (t.2.2 : Int)) && ((cU k.1).2 && (decide (m = 1) || decide (m = 2)))) := rfl
set_option maxHeartbeats 3200000 in
theorem refusal15 (q b C : Nat) (p : TxN → Nat × Nat) (l : List (aS KeyT)) (tm : Nat) (t : TxN) (k : KeyT) (m : Nat) (w : World) (h : fJ w q b C p l) (ht : kJ t) :
  Calls Tryz.prog 42 #[.pointer (some ⟨q, 0, none⟩), .agg #[.int .u32 (tm : Int), .int .u8 (t.1 : Int), .int .u32 (t.2.1 : Int), .int .u32 (t.2.2 : Int)], .agg (aK k.1), .int .u8 (m : Int)] w fun e w' => e = .returned (.int .i64 (iF l (dG tm t k m) t)) ∧ Below w.heap.size w w' := by
 have hA := aE w (.cells #[.int .u32 (tm : Int), .int .u8 (t.1 : Int), .int .u32 (t.2.1 : Int), .int .u32 (t.2.2 : Int)] 36)
 have hA2 := aE (w.alloc (.cells #[.int .u32 (tm : Int), .int .u8 (t.1 : Int), .int .u32 (t.2.1 : Int), .int .u32 (t.2.2 : Int)] 36)) (.cells (aK k.1) 38)
 have hB2 := hA.trans (hA2.mono hA.size)
 have HXS := aA ((aN w #[.int .u32 (tm : Int), .int .u8 (t.1 : Int), .int .u32 (t.2.1 : Int), .int .u32 (t.2.2 : Int)] 36).belowI hA2)
 have HXK : Hid (bZ ((w.alloc (.cells #[.int .u32 (tm : Int), .int .u8 (t.1 : Int), .int .u32 (t.2.1 : Int), .int .u32 (t.2.2 : Int)] 36)).alloc (.cells (aK k.1) 38)) (w.heap.size + 1) (aK k.1) 38) := aA (by have := aN (w.alloc (.cells #[.int .u32 (tm : Int), .int .u8 (t.1 : Int), .int .u32 (t.2.1 : Int), .int .u32 (t.2.2 : Int)] 36)) (aK k.1) 38; simpa using this)
 obtain ⟨w1, hw1⟩ : ∃ w1, w1 = (w.alloc (.cells #[.int .u32 (tm : Int), .int .u8 (t.1 : Int), .int .u32 (t.2.1 : Int), .int .u32 (t.2.2 : Int)] 36)).alloc (.cells (aK k.1) 38) := ⟨_, rfl⟩
 obtain ⟨p1, hp1⟩ : ∃ p1, p1 = w.heap.size := ⟨_, rfl⟩
 obtain ⟨p2, hp2⟩ : ∃ p2, p2 = p1 + 1 := ⟨_, rfl⟩
 rw [← hw1, ← hp1] at HXS
 rw [← hw1, ← hp1, ← hp2] at HXK
 rw [← hw1] at hB2
 have HW1 := aA hw1
 have HP1 := aA hp1
 have HP2 := aA hp2
 have H1 := aA (h.below hB2)
 have HB := aA hB2
 have CM := aA (made15 q b w1 H1.out.box)
 have CT := aA (fun W => stMay_any (tm : Int) (t.1 : Int) (t.2.1 : Int) (t.2.2 : Int) W)
 have CK := aA (fun W => keyMay15 k.1 k.2 W)
 obtain ⟨MAY, hMAY⟩ : ∃ MAY, MAY = dG tm t k m := ⟨_, rfl⟩
 have hsp := may15_split tm t k m
 rw [← hMAY] at hsp ⊢
 obtain ⟨N1, hN1⟩ : ∃ N1, N1 = stMayB ((tm : Int), (t.1 : Int), (t.2.1 : Int), (t.2.2 : Int)) := ⟨_, rfl⟩
 obtain ⟨N2, hN2⟩ : ∃ N2, N2 = (cU k.1).2 := ⟨_, rfl⟩
 rw [← hN1] at CT hsp
 rw [← hN2] at CK hsp
 have HSP := aA hsp
 have HTB := aA ht
 have HNO : Hid (MAY = false → iF l MAY t = 1) := aA (fun e => by unfold iF; rw [if_pos e])
 clear h hA hA2 hB2 hw1 hp1 hp2 hsp hMAY hN1 hN2 ht
 go_enter Tryz.func42, Tryz.ntmps42
 go_wp2_with fail
 rw [← HW1.out, ← HP1.out, ← HP2.out]
 refine CM.out.mono ?_
 rintro e w0 ⟨rfl, hw0⟩
 rw [hw0]
 clear hw0 CM
 go_wp2_with (refine dM rfl _ rfl p1 rfl HXS.out Tryz.underlying36 rfl infoSt15 ?_)
 refine (CT.out w1).mono ?_
 rintro e w3 ⟨rfl, hB3⟩
 replace HXS := aA (HXS.out.belowI hB3)
 replace HXK := aA (HXK.out.belowI hB3)
 replace H1 := aA (H1.out.below hB3)
 replace HB := aA (HB.out.trans (hB3.mono HB.out.size))
 clear hB3 CT
 cases N1 with
 | false =>
  have HE := aA (HNO.out (by rw [HSP.out]; rfl))
  go_wp2_with fail
  go_ret
  exact ⟨by rw [HE.out]; rfl, HB.out⟩
 | true =>
 go_wp2_with (refine wp_load_box_g rfl _ rfl p2 rfl HXK.out Tryz.underlying38 rfl infoKey15 ?_)
 refine (CK.out w3).mono ?_
 rintro e w4 ⟨rfl, hB3⟩
 replace HXS := aA (HXS.out.belowI hB3)
 replace HXK := aA (HXK.out.belowI hB3)
 replace H1 := aA (H1.out.below hB3)
 replace HB := aA (HB.out.trans (hB3.mono HB.out.size))
 clear hB3 CK
 cases N2 with
 | false =>
  have HE := aA (HNO.out (by rw [HSP.out]; rfl))
  go_wp2_with fail
  go_ret
  exact ⟨by rw [HE.out]; rfl, HB.out⟩
 | true =>
 have h0 : w4.cell? ⟨q, 0, none⟩ = some (.map (some b)) := H1.out.box.cell 0 _ rfl
 obtain ⟨s0, s1, s2, s3⟩ := HXS.out.four
 have L1 := (H1.out.m.below (aG w4)).look fM ⟨t, HTB.out⟩
 have L2 := fun o => ((H1.out.m.below (aE w4 o)).below (aG _)).look fM ⟨t, HTB.out⟩
 obtain ⟨⟨um, ⟨ua, ub, uc⟩, pr, hb, wb⟩, hE⟩ : ∃ E : E15, E = (gU l p ⟨t, HTB.out⟩).getD zE := ⟨_, rfl⟩
 obtain ⟨B, hB0⟩ : ∃ B, B = (gU l p ⟨t, HTB.out⟩).isSome := ⟨_, rfl⟩
 have hpr : pr = (aT l t).pr := by
  have := (H1.out.read ⟨t, HTB.out⟩).2.2
  rw [← hE] at this
  exact this
 have hBs : B = (cM l t).isSome := by rw [hB0]; simp [gU]
 simp only [← hE, ← hB0] at L1 L2
 have hlt := HXS.out.lt
 have hqt := H1.out.box.lt
 have HYES : Hid (MAY = true → iF l MAY t = if pr = true then 11 else if B = false ∧ 64 ≤ l.length then 5 else 0) := aA (fun e => by
  unfold iF
  rw [if_neg (by rw [e]; simp), ← hpr, hBs]
  cases cM l t <;> simp)
 obtain ⟨LN, hLN⟩ : ∃ LN, LN = l.length := ⟨_, rfl⟩
 have HLE := aA (fun W (hW : Below w4.heap.size w4 W) ty => (H1.out.m.below hW).len fM ty)
 rw [← hLN] at HYES HLE
 have hLf : LN ≤ 64 := by rw [hLN]; exact H1.out.ok.few
 clear hE hB0 hpr hBs hLN
 by_cases hm : m = 1 ∨ m = 2
 case neg =>
  have HE := aA (HNO.out (by rw [HSP.out]; simp; omega))
  have hm1 : ((m : Int) != 1) = true := by simp; omega
  have hm2 : ((m : Int) != 2) = true := by simp; omega
  have hm3 : ¬ m = 1 := by omega
  have hm4 : ¬ m = 2 := by omega
  clear L1 L2 hm
  go_wp2_with fail
  go_ret
  exact ⟨by rw [HE.out]; rfl, HB.out⟩
 case pos =>
 have HE := aA (HYES.out (by rw [HSP.out]; simp; omega))
 rcases hm with rfl | rfl
 all_goals
  go_wp2_with fail
  go_region
  have hA3 := (aE w4 (.cells (usA (um, (ua, ub, uc), pr, hb, wb)) 80)).trans ((aG (w4.alloc (.cells (usA (um, (ua, ub, uc), pr, hb, wb)) 80))).mono (by simp))
  have HX3 := aA ((aN w4 (usA (um, (ua, ub, uc), pr, hb, wb)) 80).belowI (aG _))
  have HB3 := aA (HB.out.trans (hA3.mono HB.out.size))
  have hln := HLE.out _ hA3
  have hq3 : ((w4.alloc (.cells (usA (um, (ua, ub, uc), pr, hb, wb)) 80)).drew).cell? ⟨q, 0, none⟩ = some (.map (some b)) := (H1.out.box.belowI hA3).cell 0 _ rfl
  have z4 := HX3.out.cell 4 _ rfl
  clear L1 L2 h0 s0 s1 s2 s3 hlt hqt hA3 HLE
  generalize (w4.alloc (.cells (usA (um, (ua, ub, uc), pr, hb, wb)) 80)).drew = w6 at *
  cases pr with
  | true =>
   go_wp2_with fail
   go_ret
   exact ⟨by rw [HE.out]; rfl, HB3.out⟩
  | false =>
   cases B with
   | true =>
    go_wp2_with fail
    go_ret
    exact ⟨by rw [HE.out]; rfl, HB3.out⟩
   | false =>
    by_cases h64 : 64 ≤ LN
    ·have d1 : decide ((LN : Int) ≥ 64) = true := decide_eq_true (by omega)
     have HF : Hid (iF l MAY t = 5) := aA (by rw [HE.out]; simp [h64])
     go_wp2_with fail
     go_ret
     exact ⟨by rw [HF.out]; rfl, HB3.out⟩
    ·have d1 : decide ((LN : Int) ≥ 64) = false := decide_eq_false (by omega)
     have HF : Hid (iF l MAY t = 0) := aA (by rw [HE.out]; simp [h64])
     go_wp2_with fail
     go_ret
     exact ⟨by rw [HF.out]; rfl, HB3.out⟩
end
section
open Go.RowKit Go.Maps Classical
abbrev URng (w : World) (b r : Nat) (l : List (aS KeyT)) (p : TxN → Nat × Nat) (ks : List TxT) : Prop := jB 34 (fun t : TxT => cV (txI t.1)) usV w b r (gU l p) (gU l p) ks
theorem kU {l : List (aS KeyT)} (h : dD l) {p : TxN → Nat × Nat} {t : TxT} {e : E15} (he : gU l p t = some e) : ∃ u ∈ l, u.tx = t.1 ∧ e = (u.tm, u.tx, u.pr, some (p t.1).1, some (p t.1).2) := by
 obtain ⟨u, hu, rfl⟩ := Option.map_eq_some_iff.1 he
 obtain ⟨hm, ht⟩ := (bT h).1 hu
 exact ⟨u, hm, ht, rfl⟩
theorem gU_none {l : List (aS KeyT)} {p : TxN → Nat × Nat} {ks : List TxT} (h : ∀ k, k ∉ ks → gU l p k = none) (hb : dD l) : ∀ u ∈ l, ∃ t ∈ ks, t.1 = u.tx := fun u hu => by
 have ht : kJ u.tx := (hb.oks u hu).1
 by_cases hk : (⟨u.tx, ht⟩ : TxT) ∈ ks
 ·exact ⟨_, hk, rfl⟩
 ·have := h _ hk
  have e : cM l u.tx = some u := (bT hb).2 ⟨hu, rfl⟩
  simp [gU, e] at this
set_option maxHeartbeats 3200000 in
theorem isLocked15 (q b C : Nat) (p : TxN → Nat × Nat) (l : List (aS KeyT)) (k : KeyT) (w : World) (h : fJ w q b C p l) :
  Calls Tryz.prog 51 #[.pointer (some ⟨q, 0, none⟩), .agg (aK k.1)] w fun e w' => e = .returned (.bool (decide (∃ u ∈ l, u.h k ≠ 0))) ∧ Below w.heap.size w w' := by
 have hA := aE w (.cells (aK k.1) 38)
 have hX := aN w (aK k.1) 38
 obtain ⟨w1, hw1⟩ : ∃ w1, w1 = w.alloc (.cells (aK k.1) 38) := ⟨_, rfl⟩
 obtain ⟨p1, hp1⟩ : ∃ p1, p1 = w.heap.size := ⟨_, rfl⟩
 rw [← hw1] at hA hX
 rw [← hp1] at hX
 have hW1 := hw1.symm
 have hP1 := hp1.symm
 have H1 := aA (h.below hA)
 have HB := aA hA
 have HX := aA hX
 have h0 : w1.cell? ⟨q, 0, none⟩ = some (.map (some b)) := H1.out.box.cell 0 _ rfl
 obtain ⟨R, hR⟩ : ∃ R, R = decide (∃ u ∈ l, u.h k ≠ 0) := ⟨_, rfl⟩
 have HR := aA hR
 rw [← hR]
 clear h hA hX hw1 hp1 hR
 go_enter Tryz.func51, Tryz.ntmps51
 go_wp2_with (at_range; refine kP fM _ rfl _ rfl rfl H1.out.m ?_; intro w2 hrg hb2 hs2)
 go_frame
 obtain ⟨r, hr⟩ : ∃ r, r = w1.heap.size := ⟨_, rfl⟩
 rw [← hr] at hrg ⊢
 have HRG := aA hrg
 have HB2 := aA hb2
 have HRR := aA hr
 clear hrg hb2 hs2 h0 hr
 go_loopw [6] (fun _ wr => ∃ ks : List TxT, Hid (URng wr b r l p ks) ∧ Hid (∀ t ∈ ks, ∀ u ∈ l, u.tx = t.1 → u.h k = 0) ∧ Hid (Below w1.heap.size w1 wr)) (fun _ wr => wr.rangeLeft b r)
 case atStart => exact ⟨[], HRG, aA (fun t ht => by cases ht), HB2⟩
 case round =>
  obtain ⟨ks, HG, HZ, HBW⟩ := hrel
  go_wp2_with (at_next; refine gN fM _ rfl _ rfl rfl HG.out ?_ ?_)
  ·intro hdone
   have HF : Hid (R = false) := aA (by
    rw [HR.out, decide_eq_false_iff_not]
    rintro ⟨u, hu, h1⟩
    obtain ⟨t, ht, e⟩ := gU_none hdone.all H1.out.ok u hu
    exact h1 (HZ.out t ht u hu e.symm))
   clear hdone
   go_wp2_with fail
   go_ret
   exact ⟨by rw [HF.out]; rfl, HB.out.trans (HBW.out.mono HB.out.size)⟩
  ·rintro ⟨t, e, w3, hk, he, hrg3, hlt, hkb, hsz, hen⟩
   dsimp only at hen ⊢
   obtain ⟨u, hu, hut, rfl⟩ := kU H1.out.ok he
   have hbw3 : Below w1.heap.size w1 w3 := HBW.out.trans (hkb.below HBW.out.size (fun j e => by rw [e, HRR.out]; exact Nat.le_refl _))
   obtain ⟨n, n', hm1, _, _⟩ := (H1.out.below hbw3).maps u hu
   have HZU := aA (aN w3 zU 80)
   have HAU := aA (aE w3 (.cells zU 80))
   have HG3 := aA hrg3
   have HB3 := aA hbw3
   have HLT := aA hlt
   have HUU := aA hut
   rw [hut] at hm1
   have HM1 := aA hm1
   obtain ⟨⟨m1, m2⟩, hmm⟩ : ∃ m, m = p t.1 := ⟨_, rfl⟩
   rw [← hmm] at hen HM1
   clear he hrg3 hkb hsz hut hbw3 hm1 hlt hmm
   have HN : Hid (∀ v ∈ l, v.tx = t.1 → v = u) := aA (fun v hv e => cR H1.out.ok.rise hv hu (e.trans HUU.out.symm))
   by_cases hz : u.h k = 0
   ·have hz0 : ((u.h k : Nat) : Int) = 0 := by omega
    have HZ2 : Hid (∀ t' ∈ ks ++ [t], ∀ u ∈ l, u.tx = t'.1 → u.h k = 0) := aA (fun t' ht' v hv e => by
     rcases List.mem_append.1 ht' with h2 | h2
     ·exact HZ.out t' h2 v hv e
     ·rw [List.mem_singleton] at h2
      subst h2
      rw [HN.out v hv e]
      exact hz)
    go_wp2_with (refine aP rfl rfl _ _ rfl w3.heap.size rfl (cs' := usA (u.tm, u.tx, u.pr, some m1, some m2)) rfl HZU.out rfl gZ (by simp [Value.oneCell']) ?_; intro w4 hb4 hk4; have HX4 := aA hb4; have HB4 : Hid (Below w3.heap.size w3 w4) := aA (HAU.out.trans (hk4.below HAU.out.size (fun j e => by omega))); clear hb4 hk4; have hg4 := HG3.out.below HB4.out; have HG4 := aA hg4.1; have HL4 := aA hg4.2; clear hg4; have y5 := HX4.out.cell 5 _ rfl; have hxk := (HX.out.belowI (HB3.out.trans (HB4.out.mono HB3.out.size))); obtain ⟨x0, x1, x2, x3, x4, x5, x6, x7⟩ := bN hxk; have hlk := (eN.look (.inr ⟨_, _, rfl, HM1.out.below HB4.out⟩) k : (Instr.lookup 78 (.map (some m1)) (kyV k.1) false).run Tryz.prog w4 = _); clear hxk)
    go_roundw
    case rel => exact ⟨ks ++ [t], HG4, HZ2, aA (HB3.out.trans (HB4.out.mono HB3.out.size))⟩
    case measure => rw [HL4.out]; exact HLT.out
   ·have hz0 : (((u.h k : Nat) : Int) != 0) = true := by simp; omega
    have HT : Hid (R = true) := aA (by rw [HR.out, decide_eq_true_eq]; exact ⟨u, hu, hz⟩)
    go_wp2_with (refine aP rfl rfl _ _ rfl w3.heap.size rfl (cs' := usA (u.tm, u.tx, u.pr, some m1, some m2)) rfl HZU.out rfl gZ (by simp [Value.oneCell']) ?_; intro w4 hb4 hk4; have HX4 := aA hb4; have HB4 : Hid (Below w3.heap.size w3 w4) := aA (HAU.out.trans (hk4.below HAU.out.size (fun j e => by omega))); clear hb4 hk4; have hg4 := HG3.out.below HB4.out; have HG4 := aA hg4.1; have HL4 := aA hg4.2; clear hg4; have y5 := HX4.out.cell 5 _ rfl; have hxk := (HX.out.belowI (HB3.out.trans (HB4.out.mono HB3.out.size))); obtain ⟨x0, x1, x2, x3, x4, x5, x6, x7⟩ := bN hxk; have hlk := (eN.look (.inr ⟨_, _, rfl, HM1.out.below HB4.out⟩) k : (Instr.lookup 78 (.map (some m1)) (kyV k.1) false).run Tryz.prog w4 = _); clear hxk)
    go_ret
    have hfin := HB.out.trans ((HB3.out.trans (HB4.out.mono HB3.out.size)).mono HB.out.size)
    rw [hP1] at hfin
    exact ⟨by rw [HT.out]; rfl, hfin⟩
end
section
open Go.RowKit Go.Maps Classical
theorem recTX15 : Rec 42 34 3 txCs := ⟨Tryz.underlying42, jC (z := .agg #[.int .u8 0, .int .u32 0, .int .u32 0]) (K := 3) (B := 12) (by kernel_rfl) rfl (by decide), by decide, fun _ => rfl⟩
theorem tx_one15 (t : TxP) : ∀ u ∈ txCs t, u.oneCell' = true := fun u hu => by
 simp only [List.mem_cons, List.not_mem_nil, or_false] at hu
 rcases hu with rfl | rfl | rfl <;> rfl
theorem txCs_arr15 (t : TxN) : (#[.int .u8 (t.1 : Int), .int .u32 (t.2.1 : Int), .int .u32 (t.2.2 : Int)] : Array Value).toList = txCs (txI t) := rfl
def SortB (N : Nat) : Prop := ∀ (W : World) (q b C : Nat) (p : TxN → Nat × Nat) (l : List (aS KeyT)) (base : Nat) (v : Value) (ss : List TxN), fJ W q b C p l → W.ownsRow base 34 3 v ss.length (bR txCs (ss.map txI)) → (∀ t ∈ ss, ∃ u ∈ l, u.tx = t) → ss.Nodup → ss.length ≤ N → (∀ g, v.ownBlock = some g → ¬ eP q b p l g) →
 Calls Tryz.prog 36 #[v, .func (.func 37) #[.pointer (some ⟨q, 0, none⟩)] #[]] W fun e w' => e = .returned (.tuple #[]) ∧ ∃ ss' : List TxN, (∀ t, t ∈ ss' ↔ t ∈ ss) ∧ ss'.Pairwise (dI l) ∧ w'.ownsRow base 34 3 v ss'.length (bR txCs (ss'.map txI)) ∧ aC (fun j => v.ownBlock = some j) W w'
def whoW (l : List (aS KeyT)) (k : KeyT) (ks : List TxT) : List TxN := (ks.map (·.1)).filter fun t => decide ((aT l t).w k ≠ 0)
theorem whoW_app (l : List (aS KeyT)) (k : KeyT) (ks : List TxT) (t : TxT) : whoW l k (ks ++ [t]) = whoW l k ks ++ (if (aT l t.1).w k ≠ 0 then [t.1] else []) := by
 unfold whoW
 rw [List.map_append, List.filter_append]
 congr 1
 by_cases h : (aT l t.1).w k = 0
 ·simp [h]
 ·simp [h]
theorem whoW_nodup {l : List (aS KeyT)} {k : KeyT} {ks : List TxT} (h : ks.Nodup) : (whoW l k ks).Nodup := by
 unfold whoW
 rw [List.nodup_iff_pairwise_ne]
 refine List.Pairwise.filter _ ?_
 rw [← List.nodup_iff_pairwise_ne]
 have : ∀ {ks : List TxT}, ks.Nodup → (ks.map (·.1)).Nodup := fun {ks} hn => by
  rw [List.nodup_iff_pairwise_ne, List.pairwise_map]
  exact (List.nodup_iff_pairwise_ne.1 hn).imp (fun {a b} hab e => hab (Subtype.ext e))
 exact this h
theorem whoW_all {l : List (aS KeyT)} (hb : dD l) {k : KeyT} {ks : List TxT} (hall : ∀ u ∈ l, ∃ t ∈ ks, t.1 = u.tx) (t : TxN) : t ∈ whoW l k ks ↔ t ∈ cS l k := by
 rw [fC]
 unfold whoW
 rw [List.mem_filter]
 constructor
 ·rintro ⟨_, h2⟩
  have h3 : (aT l t).w k ≠ 0 := by simpa using h2
  cases hu : cM l t with
  | none => rw [dA hu] at h3; exact absurd rfl h3
  | some u =>
   obtain ⟨hm, rfl⟩ := (bT hb).1 hu
   rw [bH hb hm] at h3
   exact ⟨u, hm, h3, rfl⟩
 ·rintro ⟨u, hu, hw, rfl⟩
  obtain ⟨t', ht', e⟩ := hall u hu
  refine ⟨List.mem_map.2 ⟨t', ht', e⟩, ?_⟩
  rw [bH hb hu]
  simpa using hw
theorem que_len {l : List (aS KeyT)} (hb : dD l) (k : KeyT) : (cS l k).length ≤ 64 := by
 unfold cS sortU
 rw [List.length_map, List.length_mergeSort]
 exact Nat.le_trans (List.length_filter_le _ _) hb.few
theorem queU_nd {l : List (aS KeyT)} (hb : dD l) (k : KeyT) : (cS l k).Nodup := (j8 hb k).imp fun {x y} hxy e => by subst e; exact hxy.asymm hxy
theorem kept15 {w w' : World} {v : Value} (h : w.grownBy w' v.ownBlock) : aC (fun g => v.ownBlock = some g) w w' := grown_keep h (fun _ h => h)
theorem dO {w : World} {b b' e size n : Nat} {v : Value} {xs : List Value} (h : w.ownsRow b e size v n xs) (hb : b' ≤ b) : w.ownsRow b' e size v n xs := by
 obtain ⟨hl, h0 | ⟨g, cap, cur, rfl, hg, r⟩⟩ := h
 ·exact ⟨hl, .inl h0⟩
 ·exact ⟨hl, .inr ⟨g, cap, cur, rfl, Nat.le_trans hb hg, r⟩⟩
theorem ks_le {l : List (aS KeyT)} {ks : List TxT} (h : ks.Nodup) (hall : ∀ t ∈ ks, ∃ u ∈ l, u.tx = t.1) : ks.length ≤ l.length := by
 have h2 : (ks.map (·.1)).Nodup := by
  rw [List.nodup_iff_pairwise_ne, List.pairwise_map]
  exact (List.nodup_iff_pairwise_ne.1 h).imp (fun {a b} hab e => hab (Subtype.ext e))
 have h3 : ks.map (·.1) ⊆ l.map (·.tx) := fun t ht => by
  obtain ⟨x, hx, rfl⟩ := List.mem_map.1 ht
  obtain ⟨u, hu, e⟩ := hall x hx
  exact List.mem_map.2 ⟨u, hu, e⟩
 have := nodup_le _ _ h2 h3
 simpa using this
set_option maxHeartbeats 3200000 in
theorem lkQueue_any (N : Nat) (HS : SortB N) (q b C : Nat) (p : TxN → Nat × Nat) (l : List (aS KeyT)) (k : KeyT) (w : World) (h : fJ w q b C p l) (hN : (cS l k).length ≤ N) :
  Calls Tryz.prog 15 #[.pointer (some ⟨q, 0, none⟩), .agg (aK k.1)] w fun e w' => ∃ v, e = .returned v ∧ w'.ownsRow w.heap.size 34 3 v (cS l k).length (bR txCs ((cS l k).map txI)) ∧ Below w.heap.size w w' := by
 have hA := aE w (.cells (aK k.1) 38)
 have hX := aN w (aK k.1) 38
 obtain ⟨w1, hw1⟩ : ∃ w1, w1 = w.alloc (.cells (aK k.1) 38) := ⟨_, rfl⟩
 obtain ⟨p1, hp1⟩ : ∃ p1, p1 = w.heap.size := ⟨_, rfl⟩
 rw [← hw1] at hA hX
 rw [← hp1] at hX
 have HW1 := aA hw1
 have HP1 := aA hp1
 have HFL := aA (fun g hg => h.flt (k := g) hg)
 have H1 := aA (h.below hA)
 have HB := aA hA
 have HX := aA hX
 have CM := aA (made15 q b w1 H1.out.box)
 have HNN := aA hN
 have HSS := aA HS
 clear h hA hX hw1 hp1 hN HS
 go_enter Tryz.func15, Tryz.ntmps15
 go_wp2_with fail
 rw [← HW1.out, ← HP1.out]
 refine CM.out.mono ?_
 rintro e w0 ⟨rfl, hw0⟩
 rw [hw0]
 clear hw0 CM
 have h0 : w1.cell? ⟨q, 0, none⟩ = some (.map (some b)) := H1.out.box.cell 0 _ rfl
 go_wp2_with (at_range; refine kP fM _ rfl _ rfl rfl H1.out.m ?_; intro w2 hrg hb2 hs2)
 go_frame
 obtain ⟨r, hr⟩ : ∃ r, r = w1.heap.size := ⟨_, rfl⟩
 rw [← hr] at hrg ⊢
 have HRG := aA hrg
 have HB2 := aA hb2
 have HRR := aA hr
 have HSZ : Hid (p1 ≤ w1.heap.size) := aA (by have := HB.out.size; rw [HP1.out]; exact this)
 have HPW : Hid (p1 ≤ w.heap.size) := aA (Nat.le_of_eq HP1.out)
 clear hrg hb2 hs2 h0 hr
 go_loopw [5] (fun x wr => ∃ (ks : List TxT) (ss : List TxN) (ax : Option Addr) (cx : Nat), x = .slice ax ss.length cx ∧ Hid (ss = whoW l k ks) ∧ Hid (URng wr b r l p ks) ∧ Hid (wr.ownsRow w1.heap.size 34 3 (.slice ax ss.length cx) ss.length (bR txCs (ss.map txI))) ∧ Hid (Below w1.heap.size w1 wr) ∧ Hid (ks.length ≤ l.length)) (fun _ wr => wr.rangeLeft b r)
 case atStart => exact ⟨[], [], none, 0, rfl, aA rfl, HRG, aA (World.ownsRow_nil _ _ _ _), HB2, aA (Nat.zero_le _)⟩
 case round =>
  obtain ⟨ks, ss, ax, cx, rfl, HSE, HG, HO, HBW, HKL⟩ := hrel
  go_wp2_with (at_next; refine gN fM _ rfl _ rfl rfl HG.out ?_ ?_)
  ·intro hdone
   have HAL := aA (whoW_all H1.out.ok (k := k) (gU_none hdone.all H1.out.ok))
   have HND : Hid ss.Nodup := aA (by rw [HSE.out]; exact whoW_nodup HG.out.nodup)
   have HKO := aA (HO.out)
   have HLE : Hid (ss.length ≤ N) := aA (by
    have e : ss.length = (cS l k).length := ((List.perm_ext_iff_of_nodup HND.out (queU_nd H1.out.ok k)).2 (fun t => by rw [HSE.out]; exact HAL.out t)).length_eq
    rw [e]; exact HNN.out)
   have CS := aA (HSS.out wr q b C p l w1.heap.size (.slice ax ss.length cx) ss (H1.out.below HBW.out) HO.out (fun t ht => by
    rw [HSE.out] at ht
    obtain ⟨u, hu, _, e⟩ := fC.1 ((HAL.out t).1 ht)
    exact ⟨u, hu, e⟩) HND.out HLE.out (fun g hg hF => by
    have h1 := (HO.out.lt g hg).1
    have h2 := HFL.out g hF
    have h3 := HB.out.size
    omega))
   have HIF : Hid (∀ t, t ∈ ss ↔ t ∈ cS l k) := aA (fun t => by rw [HSE.out]; exact HAL.out t)
   have HLTG : Hid (∀ j, (Value.slice ax ss.length cx).ownBlock = some j → w1.heap.size ≤ j) := aA (fun j hj => (HO.out.lt j hj).1)
   clear hdone
   go_wp2_with (go_at_call 36; refine CS.out.mono ?_; rintro e w6 ⟨rfl, ss', hm6, hp6, ho6, hk6⟩; have HQE : Hid (ss' = cS l k) := aA (iQ hp6 (j8 H1.out.ok k) (fun t => (hm6 t).trans (HIF.out t))); have HO6 := aA ho6; have HB6 := aA (HBW.out.trans (hk6.below HBW.out.size HLTG.out)); clear hm6 hp6 ho6 hk6)
   go_ret
   have hfin := HO6.out
   have hlen : ss'.length = (cS l k).length := by rw [HQE.out]
   rw [hlen] at hfin
   rw [HQE.out] at hfin
   exact ⟨_, rfl, dO hfin HB.out.size, HB.out.trans (HB6.out.mono HB.out.size)⟩
  ·rintro ⟨t, e, w3, hk, he, hrg3, hlt, hkb, hsz, hen⟩
   dsimp only at hen ⊢
   obtain ⟨u, hu, hut, rfl⟩ := kU H1.out.ok he
   have hbw3 : Below w1.heap.size w1 w3 := HBW.out.trans (hkb.below HBW.out.size (fun j e => by rw [e, HRR.out]; exact Nat.le_refl _))
   obtain ⟨n, n', _, hm1, _⟩ := (H1.out.below hbw3).maps u hu
   have HZ6 : Hid (bZ ((w3.alloc (.cells #[.int .u8 0, .int .u32 0, .int .u32 0] 34)).alloc (.cells zU 80)) w3.heap.size #[.int .u8 0, .int .u32 0, .int .u32 0] 34) := aA ((aN w3 _ _).belowI (aE _ _))
   have HZ7 : Hid (bZ ((w3.alloc (.cells #[.int .u8 0, .int .u32 0, .int .u32 0] 34)).alloc (.cells zU 80)) (w3.heap.size + 1) zU 80) := aA (by have := aN (w3.alloc (.cells #[.int .u8 0, .int .u32 0, .int .u32 0] 34)) zU 80; simpa using this)
   have HAU : Hid (Below w3.heap.size w3 ((w3.alloc (.cells #[.int .u8 0, .int .u32 0, .int .u32 0] 34)).alloc (.cells zU 80))) := aA ((aE _ _).trans ((aE _ _).mono (by simp)))
   have HNR0 : Hid (∀ g, (Value.slice ax ss.length cx).ownBlock = some g → g ≠ r) := aA (fun g e e2 => by
    obtain ⟨_, ⟨h1, _⟩ | ⟨g', cap, cur, h1, _, hb, _⟩⟩ := HO.out
    ·rw [h1] at e; cases e
    ·rw [h1] at e
     cases e
     obtain ⟨R0, D0, lf, ct, n0, _, ⟨es, clock, since, seen, c0, _, _, _, _, hr0, _⟩, _⟩ := HG.out.own
     subst e2
     rw [hb] at hr0
     cases hr0)
   have HO3 := aA (aJ HO.out hkb HNR0.out)
   have HG3 := aA hrg3
   have HB3 := aA hbw3
   have HLT := aA hlt
   have HUU := aA hut
   rw [hut] at hm1
   have HM1 := aA hm1
   obtain ⟨⟨m1, m2⟩, hmm⟩ : ∃ m, m = p t.1 := ⟨_, rfl⟩
   rw [← hmm] at hen HM1
   have HGU : Hid (aT l t.1 = u) := aA (by rw [← HUU.out]; exact bH H1.out.ok hu)
   have HKL2 : Hid ((ks ++ [t]).length ≤ l.length) := aA (ks_le hrg3.nodup (fun t' ht' => by
    obtain ⟨e', he'⟩ := Option.isSome_iff_exists.1 (hrg3.was t' ht')
    obtain ⟨u', hu', ht2, _⟩ := kU H1.out.ok he'
    exact ⟨u', hu', ht2⟩))
   clear he hrg3 hkb hsz hut hbw3 hm1 hlt hmm hk
   obtain ⟨⟨y1, y2, y3⟩, ht⟩ := t
   dsimp only at *
   have HA5 : Hid (Below w3.heap.size w3 ((w3.alloc (.cells #[.int .u8 (y1 : Int), .int .u32 (y2 : Int), .int .u32 (y3 : Int)] 34)).alloc (.cells #[.int .u32 (u.tm : Int), .int .u8 (u.tx.1 : Int), .int .u32 (u.tx.2.1 : Int), .int .u32 (u.tx.2.2 : Int), .bool u.pr, .map (some m1), .map (some m2)] 80))) := aA ((aE _ _).trans ((aE _ _).mono (by simp)))
   have hx5 := HX.out.belowI (HB3.out.trans (HA5.out.mono HB3.out.size))
   obtain ⟨x0, x1, x2, x3, x4, x5, x6, x7⟩ := bN hx5
   have hlk := (eN.look (.inr ⟨_, _, rfl, HM1.out.below HA5.out⟩) k : (Instr.lookup 78 (.map (some m2)) (kyV k.1) false).run Tryz.prog ((w3.alloc (.cells #[.int .u8 (y1 : Int), .int .u32 (y2 : Int), .int .u32 (y3 : Int)] 34)).alloc (.cells #[.int .u32 (u.tm : Int), .int .u8 (u.tx.1 : Int), .int .u32 (u.tx.2.1 : Int), .int .u32 (u.tx.2.2 : Int), .bool u.pr, .map (some m1), .map (some m2)] 80)) = _)
   have hg5 := HG3.out.below HA5.out
   have HG5 := aA hg5.1
   have HL5 := aA hg5.2
   have HO5 := aA (aJ HO3.out (aC.of_below (fun _ => False) HA5.out) (fun _ _ h => h))
   clear hx5 hg5
   by_cases hz : u.w k = 0
   ·have hz0 : ((u.w k : Nat) : Int) = 0 := by omega
    have HS2 : Hid (ss = whoW l k (ks ++ [⟨(y1, y2, y3), ht⟩])) := aA (by rw [whoW_app, HGU.out, if_neg (fun h => h hz), List.append_nil]; exact HSE.out)
    go_wp2_with fail
    go_roundw
    case rel => exact ⟨ks ++ [⟨(y1, y2, y3), ht⟩], ss, ax, cx, rfl, HS2, HG5, HO5, aA (HB3.out.trans (HA5.out.mono HB3.out.size)), HKL2⟩
    case measure => rw [HL5.out]; exact HLT.out
   ·have hz0 : (((u.w k : Nat) : Int) != 0) = true := by simp; omega
    have HS2 : Hid (ss ++ [(y1, y2, y3)] = whoW l k (ks ++ [⟨(y1, y2, y3), ht⟩])) := aA (by rw [whoW_app, HGU.out, if_pos hz]; rw [← HSE.out])
    have HA6 : Hid (Below w3.heap.size w3 (((w3.alloc (.cells #[.int .u8 (y1 : Int), .int .u32 (y2 : Int), .int .u32 (y3 : Int)] 34)).alloc (.cells #[.int .u32 (u.tm : Int), .int .u8 (u.tx.1 : Int), .int .u32 (u.tx.2.1 : Int), .int .u32 (u.tx.2.2 : Int), .bool u.pr, .map (some m1), .map (some m2)] 80)).alloc (.cells #[.int .u8 (y1 : Int), .int .u32 (y2 : Int), .int .u32 (y3 : Int)] 34))) := aA (HA5.out.trans ((aE _ _).mono HA5.out.size))
    have hg6 := HG3.out.below HA6.out
    have HG6 := aA hg6.1
    have HL6 := aA hg6.2
    have HO6 := aA (aJ HO3.out (aC.of_below (fun _ => False) HA6.out) (fun _ _ h => h))
    have HSRC : Hid (bI txCs (((w3.alloc (.cells #[.int .u8 (y1 : Int), .int .u32 (y2 : Int), .int .u32 (y3 : Int)] 34)).alloc (.cells #[.int .u32 (u.tm : Int), .int .u8 (u.tx.1 : Int), .int .u32 (u.tx.2.1 : Int), .int .u32 (u.tx.2.2 : Int), .bool u.pr, .map (some m1), .map (some m2)] 80)).alloc (.cells #[.int .u8 (y1 : Int), .int .u32 (y2 : Int), .int .u32 (y3 : Int)] 34)) (.slice (some ⟨w3.heap.size + 1 + 1, 0, none⟩) 1 1) [txI (y1, y2, y3)]) := aA (by
     have h1 := dK (enc := txCs) ((w3.alloc (.cells #[.int .u8 (y1 : Int), .int .u32 (y2 : Int), .int .u32 (y3 : Int)] 34)).alloc (.cells #[.int .u32 (u.tm : Int), .int .u8 (u.tx.1 : Int), .int .u32 (u.tx.2.1 : Int), .int .u32 (u.tx.2.2 : Int), .bool u.pr, .map (some m1), .map (some m2)] 80)) (txI (y1, y2, y3)) _ (txCs_arr15 (y1, y2, y3)) 34
     have e : ((w3.alloc (.cells #[.int .u8 (y1 : Int), .int .u32 (y2 : Int), .int .u32 (y3 : Int)] 34)).alloc (.cells #[.int .u32 (u.tm : Int), .int .u8 (u.tx.1 : Int), .int .u32 (u.tx.2.1 : Int), .int .u32 (u.tx.2.2 : Int), .bool u.pr, .map (some m1), .map (some m2)] 80)).heap.size = w3.heap.size + 1 + 1 := by simp
     rw [e] at h1
     exact h1)
    have HTL : Hid ((ss.map txI).length = ss.length) := aA (by rw [List.length_map])
    have HTN : Hid ((ss ++ [(y1, y2, y3)]).length = ss.length + 1) := aA (by rw [List.length_append]; rfl)
    have HTM : Hid (ss.map txI ++ [txI (y1, y2, y3)] = (ss ++ [(y1, y2, y3)]).map txI) := aA (by rw [List.map_append]; rfl)
    have HSL : Hid (ss.length + 1 ≤ 1000000) := aA (by
     have h1 : ss.length ≤ ks.length := by rw [HSE.out]; unfold whoW; exact Nat.le_trans (List.length_filter_le _ _) (by rw [List.length_map]; exact Nat.le_refl _)
     have h2 := HKL.out
     have h3 := H1.out.ok.few
     omega)
    have HNR : Hid (∀ g, (Value.slice ax ss.length cx).ownBlock = some g → g ≠ r ∧ g ≠ b) := aA (fun g hg => ⟨HNR0.out g hg, fun e => by
     have h1 := (HO6.out.lt g hg).1
     have h2 := H1.out.m.lt
     omega⟩)
    have HBS : Hid (w1.heap.size ≤ (((w3.alloc (.cells #[.int .u8 (y1 : Int), .int .u32 (y2 : Int), .int .u32 (y3 : Int)] 34)).alloc (.cells #[.int .u32 (u.tm : Int), .int .u8 (u.tx.1 : Int), .int .u32 (u.tx.2.1 : Int), .int .u32 (u.tx.2.2 : Int), .bool u.pr, .map (some m1), .map (some m2)] 80)).alloc (.cells #[.int .u8 (y1 : Int), .int .u32 (y2 : Int), .int .u32 (y3 : Int)] 34)).heap.size) := aA (Nat.le_trans HB3.out.size HA6.out.size)
    have HB36 := aA (HB3.out.trans (HA6.out.mono HB3.out.size))
    clear hg6
    go_wp2_with (at_builtin; refine dS recTX15 _ rfl _ _ rfl w1.heap.size (.slice ax ss.length cx) (.slice (some ⟨w3.heap.size + 1 + 1, 0, none⟩) 1 1) (ss.map txI) [txI (y1, y2, y3)] rfl ?_ rfl HSRC.out ?_ ?_ HBS.out ?_)
    ·rw [HTL.out]; exact HO6.out
    ·exact (fun z hz => by simp at hz; subst hz; exact tx_one15 _)
    ·rw [HTL.out]; exact HSL.out
    intro v4 w4 ho4 hg4 _
    rw [HTM.out] at ho4
    obtain ⟨a4, c4, hv4, _⟩ := aQ ho4
    subst hv4
    have HB4 : Hid (Below w1.heap.size w1 w4) := aA (HB36.out.grown hg4 HBS.out (fun j hj => (HO6.out.lt j hj).1))
    have HG4 := aA (HG6.out.keep (kept15 hg4) (fun e => (HNR.out _ e).2 rfl) (fun e => (HNR.out _ e).1 rfl))
    have HO4 := aA ho4
    clear ho4 hg4
    go_wp2_with fail
    go_roundw
    case rel => exact ⟨ks ++ [⟨(y1, y2, y3), ht⟩], ss ++ [(y1, y2, y3)], a4, c4, by rw [HTN.out], HS2, aA HG4.out.1, aA (by rw [HTN.out]; exact HO4.out), HB4, HKL2⟩
    case measure => rw [HG4.out.2, HL6.out]; exact HLT.out
end
end Go.Proofs.YtiloagmkkhlfjaaGreat
