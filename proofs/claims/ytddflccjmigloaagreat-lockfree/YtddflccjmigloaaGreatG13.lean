/-
  Own texts put together: LkAge, MgLaw, MgDo, E10One, LkRef, LkLocked. Own work.
-/
import Derived.Test.YtddflccjmigloaaGreatG12
import Derived.Test.YtddflccjmigloaaGreatG09
import Derived.Test.YtddflccjmigloaaGreatG10
import Derived.Test.YtddflccjmigloaaGreatG02
import Derived.BigQuiet
import Derived.Deep.QuietTactic
import Derived.Deep.LoopGhost
namespace Go.Proofs.YtddflccjmigloaaGreat
section
open Go.RowKit Go.Maps Classical

abbrev zU : Array Value := #[.int .u32 0, .int .u8 0, .int .u32 0, .int .u32 0, .bool false, .map none, .map none]
theorem mmap_made (w : World) : MMap (w.alloc (.map #[] 0)) w.heap.size (fun _ => 0) 0 := (gmap_made mmTy w).as (fun _ => rfl)
theorem buildUs (a b c d : Int) (m1 m2 : Nat) (w : World) : (Instr.build 83 #[(0, .agg #[.int .u32 a, .int .u8 b, .int .u32 c, .int .u32 d]), (2, .map (some m1)), (3, .map (some m2))]).run Tryz.prog w = .ok (.agg #[.int .u32 a, .int .u8 b, .int .u32 c, .int .u32 d, .bool false, .map (some m1), .map (some m2)]) w := by kernel_rfl
set_option maxRecDepth 100000 in
set_option maxHeartbeats 1600000 in
theorem newUser15 (tm : Nat) (t : TxN) (w : World) : Calls Tryz.prog 51 #[.agg #[.int .u32 (tm : Int), .int .u8 (t.1 : Int), .int .u32 (t.2.1 : Int), .int .u32 (t.2.2 : Int)]] w fun e w' =>
    ∃ m1 m2, e = .returned (usV (tm, t, false, some m1, some m2)) ∧ MMap w' m1 (fun _ => 0) 0 ∧ MMap w' m2 (fun _ => 0) 0 ∧ m1 ≠ m2 ∧ w.heap.size ≤ m1 ∧ w.heap.size ≤ m2 ∧ Below w.heap.size w w' := by
  have hmm := @run_makeMap Tryz.prog
  have hbu := buildUs (tm : Int) (t.1 : Int) (t.2.1 : Int) (t.2.2 : Int)
  have hA := alloc_below14 w (.cells #[.int .u32 (tm : Int), .int .u8 (t.1 : Int), .int .u32 (t.2.1 : Int), .int .u32 (t.2.2 : Int)] 36)
  have hX := box_new w #[.int .u32 (tm : Int), .int .u8 (t.1 : Int), .int .u32 (t.2.1 : Int), .int .u32 (t.2.2 : Int)] 36
  obtain ⟨w1, hw1⟩ : ∃ w1, w1 = w.alloc (.cells #[.int .u32 (tm : Int), .int .u8 (t.1 : Int), .int .u32 (t.2.1 : Int), .int .u32 (t.2.2 : Int)] 36) := ⟨_, rfl⟩
  rw [← hw1] at hA hX
  have hA2 := alloc_below14 w1 (.cells zU 83)
  have hU := box_new w1 zU 83
  obtain ⟨w2, hw2⟩ : ∃ w2, w2 = w1.alloc (.cells zU 83) := ⟨_, rfl⟩
  rw [← hw2] at hA2 hU
  have hX2 := hX.belowI hA2
  have hA3 := alloc_below14 w2 (.map #[] 0)
  have hM1 := mmap_made w2
  obtain ⟨w3, hw3⟩ : ∃ w3, w3 = w2.alloc (.map #[] 0) := ⟨_, rfl⟩
  rw [← hw3] at hA3 hM1
  have hA4 := alloc_below14 w3 (.map #[] 0)
  have hM2 := mmap_made w3
  obtain ⟨w4, hw4⟩ : ∃ w4, w4 = w3.alloc (.map #[] 0) := ⟨_, rfl⟩
  rw [← hw4] at hA4 hM2
  have hs1 : w1.heap.size = w.heap.size + 1 := by rw [hw1]; simp
  have hs2 : w2.heap.size = w1.heap.size + 1 := by rw [hw2]; simp
  have hs3 : w3.heap.size = w2.heap.size + 1 := by rw [hw3]; simp
  have HU := hide ((hU.belowI hA3).belowI hA4)
  have HM1 := hide (hM1.below hA4)
  have HM2 := hide hM2
  have HX := hide hX2
  have HB := hide (hA.trans ((hA2.trans ((hA3.trans (hA4.mono hA3.size)).mono hA2.size)).mono hA.size))
  have HS := hide (And.intro hs1 (And.intro hs2 hs3))
  obtain ⟨m0, hm0⟩ : ∃ m0, m0 = w1.heap.size := ⟨_, rfl⟩
  obtain ⟨m1, hm1⟩ : ∃ m1, m1 = w2.heap.size := ⟨_, rfl⟩
  obtain ⟨m2, hm2⟩ : ∃ m2, m2 = w3.heap.size := ⟨_, rfl⟩
  rw [← hm0] at HU
  rw [← hm1] at HM1
  rw [← hm2] at HM2
  have HQ : Hid (w.heap.size ≤ m0 ∧ w.heap.size ≤ m1 ∧ w.heap.size ≤ m2 ∧ m1 ≠ m2 ∧ m0 ≠ m1 ∧ m0 ≠ m2) := hide (by omega)
  have e1 := hw1.symm
  have e2 := hw2.symm
  have e3 := hw3.symm
  have e4 := hw4.symm
  have f0 := hm0.symm
  have f1 := hm1.symm
  have f2 := hm2.symm
  clear hA hX hA2 hU hX2 hA3 hM1 hA4 hM2 hs1 hs2 hs3 hw1 hw2 hw3 hw4 hm0 hm1 hm2
  go_enter Tryz.func51, Tryz.ntmps51
  go_wp2_with (first | (refine wp_load_box rfl _ rfl w.heap.size rfl HX.out Tryz.underlying36 rfl infoSt15 ?_) | (refine wp_store_box rfl rfl _ _ rfl m0 rfl (cs' := usA (tm, t, false, some m1, some m2)) rfl HU.out rfl infoUs15 (by simp [Value.oneCell']) ?_; intro w5 hb5 hk5; have HX5 := hide hb5; have HK5 := hide hk5; clear hb5 hk5))
  refine bodyPost_ret (v := usV (tm, t, false, some m1, some m2)) (results_box Tryz.results51 _ _ m0 rfl HX5.out Tryz.underlying83 rfl infoUs15) rfl ⟨m1, m2, rfl, HM1.out.keep HK5.out (fun e => HQ.out.2.2.2.2.1 e.symm), HM2.out.keep HK5.out (fun e => HQ.out.2.2.2.2.2 e.symm), HQ.out.2.2.2.1, HQ.out.2.1, HQ.out.2.2.1, HB.out.trans (HK5.out.below HB.out.size (fun k e => by rw [e]; exact HQ.out.1))⟩
theorem ag_getU (p : TxN → Nat × Nat) (l : List (UsP KeyT)) (t : TxT) : (((((gU l p t).getD zE).1 : Nat) : Int), txI ((gU l p t).getD zE).2.1) = (getU l t.1).ag := by
  cases hu : usL l t.1 with
  | none =>
    have e : gU l p t = none := by show (usL l t.1).map _ = _; rw [hu]; rfl
    rw [e, getU_none hu]
    rfl
  | some u =>
    have e : gU l p t = some (u.tm, u.tx, u.pr, some (p t.1).1, some (p t.1).2) := by show (usL l t.1).map _ = _; rw [hu]; rfl
    have eg : getU l t.1 = u := by unfold getU; rw [hu]; rfl
    rw [e, eg]
    rfl
set_option maxRecDepth 100000 in
set_option maxHeartbeats 1600000 in
theorem byAge15 (q b C : Nat) (p : TxN → Nat × Nat) (l : List (UsP KeyT)) (x y : TxN) (w : World) (h : PLk w q b C p l) (hx : TxB x) (hy : TxB y) :
    Calls Tryz.prog 41 #[.pointer (some ⟨q, 0, none⟩), txVN x, txVN y] w fun e w' => e = .returned (.int .i64 (stsF (getU l x).ag (getU l y).ag)) ∧ Grown w w' := by
  have hA := alloc_below14 w (.cells #[.int .u8 (x.1 : Int), .int .u32 (x.2.1 : Int), .int .u32 (x.2.2 : Int)] 34)
  have hA2 := alloc_below14 (w.alloc (.cells #[.int .u8 (x.1 : Int), .int .u32 (x.2.1 : Int), .int .u32 (x.2.2 : Int)] 34)) (.cells #[.int .u8 (y.1 : Int), .int .u32 (y.2.1 : Int), .int .u32 (y.2.2 : Int)] 34)
  have hB2 := hA.trans (hA2.mono hA.size)
  have HX := hide ((box_new w #[.int .u8 (x.1 : Int), .int .u32 (x.2.1 : Int), .int .u32 (x.2.2 : Int)] 34).belowI hA2)
  have HY : Hid (Box ((w.alloc (.cells #[.int .u8 (x.1 : Int), .int .u32 (x.2.1 : Int), .int .u32 (x.2.2 : Int)] 34)).alloc (.cells #[.int .u8 (y.1 : Int), .int .u32 (y.2.1 : Int), .int .u32 (y.2.2 : Int)] 34)) (w.heap.size + 1) #[.int .u8 (y.1 : Int), .int .u32 (y.2.1 : Int), .int .u32 (y.2.2 : Int)] 34) := hide (by have := box_new (w.alloc (.cells #[.int .u8 (x.1 : Int), .int .u32 (x.2.1 : Int), .int .u32 (x.2.2 : Int)] 34)) #[.int .u8 (y.1 : Int), .int .u32 (y.2.1 : Int), .int .u32 (y.2.2 : Int)] 34; simpa using this)
  obtain ⟨w1, hw1⟩ : ∃ w1, w1 = (w.alloc (.cells #[.int .u8 (x.1 : Int), .int .u32 (x.2.1 : Int), .int .u32 (x.2.2 : Int)] 34)).alloc (.cells #[.int .u8 (y.1 : Int), .int .u32 (y.2.1 : Int), .int .u32 (y.2.2 : Int)] 34) := ⟨_, rfl⟩
  obtain ⟨p1, hp1⟩ : ∃ p1, p1 = w.heap.size := ⟨_, rfl⟩
  obtain ⟨p2, hp2⟩ : ∃ p2, p2 = p1 + 1 := ⟨_, rfl⟩
  have HG : Hid (Grown w w1) := hide (by rw [hw1]; exact ((Grown.refl w).alloc _).alloc _)
  rw [← hw1, ← hp1] at HX
  rw [← hw1, ← hp1, ← hp2] at HY
  rw [← hw1] at hB2
  have HW1 := hide hw1
  have HP1 := hide hp1
  have HP2 := hide hp2
  have h1 := h.below hB2
  obtain ⟨⟨tm, ⟨ta, tb, tc⟩, pr, hb, wb⟩, hE⟩ : ∃ E : E15, E = (gU l p ⟨x, hx⟩).getD zE := ⟨_, rfl⟩
  obtain ⟨⟨um, ⟨ua, ub, uc⟩, ur, ib, vb⟩, hF⟩ : ∃ E : E15, E = (gU l p ⟨y, hy⟩).getD zE := ⟨_, rfl⟩
  have e1 := ag_getU p l ⟨x, hx⟩
  have e2 := ag_getU p l ⟨y, hy⟩
  rw [← hE] at e1
  rw [← hF] at e2
  rw [← e1, ← e2]
  have h0 : w1.cell? ⟨q, 0, none⟩ = some (.map (some b)) := h1.box.cell 0 _ rfl
  obtain ⟨x0, x1, x2⟩ := HX.out.three
  obtain ⟨y0, y1, y2⟩ := HY.out.three
  have L1 := (h1.m.below (below_drew14 w1)).look1 umTy ⟨x, hx⟩
  have L2 := (h1.m.below (below_drew14 w1)).look1 umTy ⟨y, hy⟩
  rw [← hE] at L1
  rw [← hF] at L2
  have f1 := field0_us (tm, (ta, tb, tc), pr, hb, wb)
  have f2 := field0_us (um, (ua, ub, uc), ur, ib, vb)
  have CS := hide (fun W => stamps_any (tm : Int) (ta : Int) (tb : Int) (tc : Int) (um : Int) (ua : Int) (ub : Int) (uc : Int) W)
  obtain ⟨R, hR⟩ : ∃ R, R = stsF ((tm : Int), (ta : Int), (tb : Int), (tc : Int)) ((um : Int), (ua : Int), (ub : Int), (uc : Int)) := ⟨_, rfl⟩
  have HR : Hid (stsF ((((tm, (ta, tb, tc), pr, hb, wb) : E15).1 : Int), txI ((tm, (ta, tb, tc), pr, hb, wb) : E15).2.1) ((((um, (ua, ub, uc), ur, ib, vb) : E15).1 : Int), txI ((um, (ua, ub, uc), ur, ib, vb) : E15).2.1) = R) := hide hR.symm
  rw [← hR] at CS
  rw [HR.out]
  have HCS : Hid (∀ W, Below w1.drew.heap.size w1.drew W → W.cell? ⟨q, 0, none⟩ = some (.map (some b)) ∧ W.cell? ⟨p1, 0, none⟩ = some (.int .u8 (x.1 : Int)) ∧ W.cell? ⟨p1, 1, none⟩ = some (.int .u32 (x.2.1 : Int)) ∧ W.cell? ⟨p1, 2, none⟩ = some (.int .u32 (x.2.2 : Int)) ∧ W.cell? ⟨p2, 0, none⟩ = some (.int .u8 (y.1 : Int)) ∧ W.cell? ⟨p2, 1, none⟩ = some (.int .u32 (y.2.1 : Int)) ∧ W.cell? ⟨p2, 2, none⟩ = some (.int .u32 (y.2.2 : Int))) := hide (fun W hW => by
    have hW1 : Below w1.heap.size w1 W := (below_drew14 w1).trans hW
    obtain ⟨a0, a1, a2⟩ := (HX.out.belowI hW1).three
    obtain ⟨b0, b1, b2⟩ := (HY.out.belowI hW1).three
    exact ⟨(h1.box.belowI hW1).cell 0 _ rfl, a0, a1, a2, b0, b1, b2⟩)
  clear h hA hA2 hB2 hw1 hp1 hp2 hE hF e1 e2 h1 hR HX HY
  go_enter Tryz.func41, Tryz.ntmps41
  go_wp2_with fail
  rw [← HW1.out, ← HP1.out, ← HP2.out]
  go_region_held (fun w' => w'.cell? ⟨q, 0, none⟩ = some (.map (some b)) ∧ w'.cell? ⟨p1, 0, none⟩ = some (.int .u8 (x.1 : Int)) ∧ w'.cell? ⟨p1, 1, none⟩ = some (.int .u32 (x.2.1 : Int)) ∧ w'.cell? ⟨p1, 2, none⟩ = some (.int .u32 (x.2.2 : Int)) ∧ w'.cell? ⟨p2, 0, none⟩ = some (.int .u8 (y.1 : Int)) ∧ w'.cell? ⟨p2, 1, none⟩ = some (.int .u32 (y.2.1 : Int)) ∧ w'.cell? ⟨p2, 2, none⟩ = some (.int .u32 (y.2.2 : Int))) (go_keep) (first
    | (go_at_call 74; refine (CS.out _).mono ?_; rintro e w3 ⟨rfl, hG⟩; have ss := HCS.out _ hG.below; have HG3 : Hid (Grown w w3) := hide (HG.out.drew.trans hG); clear hG))
  all_goals go_wp2_with fail
  all_goals go_ret
  all_goals exact ⟨rfl, HG3.out⟩
/-- What an Ask may name. -/
def mayA15 (tm : Nat) (t : TxN) (k : KeyT) (m : Nat) : Bool := stMayB (agS tm t) && ((nameF k.1).2 && (decide (m = 1) || decide (m = 2)))
def refE15 (l : List (UsP KeyT)) (may : Bool) (t : TxN) : Int := if may = false then 1 else if (getU l t).pr = true then 11 else if (usL l t).isNone = true ∧ 64 ≤ l.length then 5 else 0
end
section
open Go.RowKit Classical

/-- A message as a value: its writes lie there. -/
def MgLies (w : World) (v : Value) (m : MsgP) : Prop := ∃ (ao : Option Addr) (cap : Nat), v = .agg (msgA m (.slice ao m.wr.length cap)) ∧ RSrc wrE w (.slice ao m.wr.length cap) m.wr
theorem MgLies.below {w w' : World} {v : Value} {m : MsgP} (h : MgLies w v m) (hB : Below w.heap.size w w') : MgLies w' v m := by
  obtain ⟨ao, cap, rfl, hs⟩ := h
  exact ⟨ao, cap, rfl, hs.below hB⟩
end
section
open Go.RowKit Classical

/-- A whole variable is loaded, behind a guard that lets it by. -/
theorem wp_load_box_g {ops : Array Oper} {rest : List Oper} {op : Oper} {a : Act} {w : World} {Q : Exit → Act → World → Prop} {t t0 : TypeId} {d : TypeDesc} (hgd : Region.wanted op (yielded ops a.tmps) = true) (x : Operand) (ho : op.op = .load t x)
    (p : Nat) (hx : a.eval x = .pointer (some ⟨p, 0, none⟩)) {cs : Array Value} (hb : Box w p cs t0) (hu : Tryz.prog.underlying t = some d) (hd : d.isRow = true) (hi : (Tryz.prog.info? t).map (·.size) = some cs.size)
    (h : wpList Tryz.prog ops Q rest (a.put op.dst (.agg cs)) w) : wpList Tryz.prog ops Q (op :: rest) a w := by
  have hr : w.rangeAt p 0 cs.toList := fun j v hv => by
    rw [Nat.zero_add]; exact hb.cell j v (by simpa using hv)
  exact wpList_wanted hgd fun _ hK => wp_load_mid t x ho p 0 hx cs.toList d hr hu hd (by simpa using hi) (hK _ _ (by simpa using h))
end
section
open Go.RowKit Go.Maps Classical

theorem may15_split (tm : Nat) (t : TxN) (k : KeyT) (m : Nat) : mayA15 tm t k m = (stMayB ((tm : Int), (t.1 : Int), (t.2.1 : Int), (t.2.2 : Int)) && ((nameF k.1).2 && (decide (m = 1) || decide (m = 2)))) := rfl
set_option maxRecDepth 100000 in
set_option maxHeartbeats 3200000 in
theorem refusal15 (q b C : Nat) (p : TxN → Nat × Nat) (l : List (UsP KeyT)) (tm : Nat) (t : TxN) (k : KeyT) (m : Nat) (w : World) (h : PLk w q b C p l) (ht : TxB t) :
    Calls Tryz.prog 50 #[.pointer (some ⟨q, 0, none⟩), .agg #[.int .u32 (tm : Int), .int .u8 (t.1 : Int), .int .u32 (t.2.1 : Int), .int .u32 (t.2.2 : Int)], .agg (eightA k.1), .int .u8 (m : Int)] w fun e w' => e = .returned (.int .i64 (refE15 l (mayA15 tm t k m) t)) ∧ Below w.heap.size w w' := by
  have hA := alloc_below14 w (.cells #[.int .u32 (tm : Int), .int .u8 (t.1 : Int), .int .u32 (t.2.1 : Int), .int .u32 (t.2.2 : Int)] 36)
  have hA2 := alloc_below14 (w.alloc (.cells #[.int .u32 (tm : Int), .int .u8 (t.1 : Int), .int .u32 (t.2.1 : Int), .int .u32 (t.2.2 : Int)] 36)) (.cells (eightA k.1) 38)
  have hB2 := hA.trans (hA2.mono hA.size)
  have HXS := hide ((box_new w #[.int .u32 (tm : Int), .int .u8 (t.1 : Int), .int .u32 (t.2.1 : Int), .int .u32 (t.2.2 : Int)] 36).belowI hA2)
  have HXK : Hid (Box ((w.alloc (.cells #[.int .u32 (tm : Int), .int .u8 (t.1 : Int), .int .u32 (t.2.1 : Int), .int .u32 (t.2.2 : Int)] 36)).alloc (.cells (eightA k.1) 38)) (w.heap.size + 1) (eightA k.1) 38) := hide (by have := box_new (w.alloc (.cells #[.int .u32 (tm : Int), .int .u8 (t.1 : Int), .int .u32 (t.2.1 : Int), .int .u32 (t.2.2 : Int)] 36)) (eightA k.1) 38; simpa using this)
  obtain ⟨w1, hw1⟩ : ∃ w1, w1 = (w.alloc (.cells #[.int .u32 (tm : Int), .int .u8 (t.1 : Int), .int .u32 (t.2.1 : Int), .int .u32 (t.2.2 : Int)] 36)).alloc (.cells (eightA k.1) 38) := ⟨_, rfl⟩
  obtain ⟨p1, hp1⟩ : ∃ p1, p1 = w.heap.size := ⟨_, rfl⟩
  obtain ⟨p2, hp2⟩ : ∃ p2, p2 = p1 + 1 := ⟨_, rfl⟩
  rw [← hw1, ← hp1] at HXS
  rw [← hw1, ← hp1, ← hp2] at HXK
  rw [← hw1] at hB2
  have HW1 := hide hw1
  have HP1 := hide hp1
  have HP2 := hide hp2
  have H1 := hide (h.below hB2)
  have HB := hide hB2
  have CM := hide (made15 q b w1 H1.out.box)
  have CT := hide (fun W => stMay_any (tm : Int) (t.1 : Int) (t.2.1 : Int) (t.2.2 : Int) W)
  have CK := hide (fun W => keyMay15 k.1 k.2 W)
  obtain ⟨MAY, hMAY⟩ : ∃ MAY, MAY = mayA15 tm t k m := ⟨_, rfl⟩
  have hsp := may15_split tm t k m
  rw [← hMAY] at hsp ⊢
  obtain ⟨N1, hN1⟩ : ∃ N1, N1 = stMayB ((tm : Int), (t.1 : Int), (t.2.1 : Int), (t.2.2 : Int)) := ⟨_, rfl⟩
  obtain ⟨N2, hN2⟩ : ∃ N2, N2 = (nameF k.1).2 := ⟨_, rfl⟩
  rw [← hN1] at CT hsp
  rw [← hN2] at CK hsp
  have HSP := hide hsp
  have HTB := hide ht
  have HNO : Hid (MAY = false → refE15 l MAY t = 1) := hide (fun e => by unfold refE15; rw [if_pos e])
  clear h hA hA2 hB2 hw1 hp1 hp2 hsp hMAY hN1 hN2 ht
  go_enter Tryz.func50, Tryz.ntmps50
  go_wp2_with fail
  rw [← HW1.out, ← HP1.out, ← HP2.out]
  refine CM.out.mono ?_
  rintro e w0 ⟨rfl, hw0⟩
  rw [hw0]
  clear hw0 CM
  go_wp2_with (refine wp_load_box rfl _ rfl p1 rfl HXS.out Tryz.underlying36 rfl infoSt15 ?_)
  refine (CT.out w1).mono ?_
  rintro e w3 ⟨rfl, hB3⟩
  replace HXS := hide (HXS.out.belowI hB3)
  replace HXK := hide (HXK.out.belowI hB3)
  replace H1 := hide (H1.out.below hB3)
  replace HB := hide (HB.out.trans (hB3.mono HB.out.size))
  clear hB3 CT
  cases N1 with
  | false =>
    have HE := hide (HNO.out (by rw [HSP.out]; rfl))
    go_wp2_with fail
    go_ret
    exact ⟨by rw [HE.out]; rfl, HB.out⟩
  | true =>
  go_wp2_with (refine wp_load_box_g rfl _ rfl p2 rfl HXK.out Tryz.underlying38 rfl infoKey15 ?_)
  refine (CK.out w3).mono ?_
  rintro e w4 ⟨rfl, hB3⟩
  replace HXS := hide (HXS.out.belowI hB3)
  replace HXK := hide (HXK.out.belowI hB3)
  replace H1 := hide (H1.out.below hB3)
  replace HB := hide (HB.out.trans (hB3.mono HB.out.size))
  clear hB3 CK
  cases N2 with
  | false =>
    have HE := hide (HNO.out (by rw [HSP.out]; rfl))
    go_wp2_with fail
    go_ret
    exact ⟨by rw [HE.out]; rfl, HB.out⟩
  | true =>
  have h0 : w4.cell? ⟨q, 0, none⟩ = some (.map (some b)) := H1.out.box.cell 0 _ rfl
  obtain ⟨s0, s1, s2, s3⟩ := HXS.out.four
  have L1 := (H1.out.m.below (below_drew14 w4)).look umTy ⟨t, HTB.out⟩
  have L2 := fun o => ((H1.out.m.below (alloc_below14 w4 o)).below (below_drew14 _)).look umTy ⟨t, HTB.out⟩
  obtain ⟨⟨um, ⟨ua, ub, uc⟩, pr, hb, wb⟩, hE⟩ : ∃ E : E15, E = (gU l p ⟨t, HTB.out⟩).getD zE := ⟨_, rfl⟩
  obtain ⟨B, hB0⟩ : ∃ B, B = (gU l p ⟨t, HTB.out⟩).isSome := ⟨_, rfl⟩
  have hpr : pr = (getU l t).pr := by
    have := (H1.out.read ⟨t, HTB.out⟩).2.2
    rw [← hE] at this
    exact this
  have hBs : B = (usL l t).isSome := by rw [hB0]; simp [gU]
  simp only [← hE, ← hB0] at L1 L2
  have hlt := HXS.out.lt
  have hqt := H1.out.box.lt
  have HYES : Hid (MAY = true → refE15 l MAY t = if pr = true then 11 else if B = false ∧ 64 ≤ l.length then 5 else 0) := hide (fun e => by
    unfold refE15
    rw [if_neg (by rw [e]; simp), ← hpr, hBs]
    cases usL l t <;> simp)
  obtain ⟨LN, hLN⟩ : ∃ LN, LN = l.length := ⟨_, rfl⟩
  have HLE := hide (fun W (hW : Below w4.heap.size w4 W) ty => (H1.out.m.below hW).len umTy ty)
  rw [← hLN] at HYES HLE
  have hLf : LN ≤ 64 := by rw [hLN]; exact H1.out.ok.few
  clear hE hB0 hpr hBs hLN
  by_cases hm : m = 1 ∨ m = 2
  case neg =>
    have HE := hide (HNO.out (by rw [HSP.out]; simp; omega))
    have hm1 : ((m : Int) != 1) = true := by simp; omega
    have hm2 : ((m : Int) != 2) = true := by simp; omega
    have hm3 : ¬ m = 1 := by omega
    have hm4 : ¬ m = 2 := by omega
    clear L1 L2 hm
    go_wp2_with fail
    go_ret
    exact ⟨by rw [HE.out]; rfl, HB.out⟩
  case pos =>
  have HE := hide (HYES.out (by rw [HSP.out]; simp; omega))
  rcases hm with rfl | rfl
  all_goals
    go_wp2_with fail
    go_region
    have hA3 := (alloc_below14 w4 (.cells (usA (um, (ua, ub, uc), pr, hb, wb)) 83)).trans ((below_drew14 (w4.alloc (.cells (usA (um, (ua, ub, uc), pr, hb, wb)) 83))).mono (by simp))
    have HX3 := hide ((box_new w4 (usA (um, (ua, ub, uc), pr, hb, wb)) 83).belowI (below_drew14 _))
    have HB3 := hide (HB.out.trans (hA3.mono HB.out.size))
    have hln := HLE.out _ hA3
    have hq3 : ((w4.alloc (.cells (usA (um, (ua, ub, uc), pr, hb, wb)) 83)).drew).cell? ⟨q, 0, none⟩ = some (.map (some b)) := (H1.out.box.belowI hA3).cell 0 _ rfl
    have z4 := HX3.out.cell 4 _ rfl
    clear L1 L2 h0 s0 s1 s2 s3 hlt hqt hA3 HLE
    generalize (w4.alloc (.cells (usA (um, (ua, ub, uc), pr, hb, wb)) 83)).drew = w6 at *
    cases pr with
    | true =>
      go_wp2_with fail
      go_ret
      exact ⟨by rw [HE.out]; rfl, HB3.out⟩
    | false =>
      cases B with
      | true =>
        go_wp2_with fail
        go_ret
        exact ⟨by rw [HE.out]; rfl, HB3.out⟩
      | false =>
        by_cases h64 : 64 ≤ LN
        · have d1 : decide ((LN : Int) ≥ 64) = true := decide_eq_true (by omega)
          have HF : Hid (refE15 l MAY t = 5) := hide (by rw [HE.out]; simp [h64])
          go_wp2_with fail
          go_ret
          exact ⟨by rw [HF.out]; rfl, HB3.out⟩
        · have d1 : decide ((LN : Int) ≥ 64) = false := decide_eq_false (by omega)
          have HF : Hid (refE15 l MAY t = 0) := hide (by rw [HE.out]; simp [h64])
          go_wp2_with fail
          go_ret
          exact ⟨by rw [HF.out]; rfl, HB3.out⟩
end
section
open Go.RowKit Go.Maps Classical

abbrev URng (w : World) (b r : Nat) (l : List (UsP KeyT)) (p : TxN → Nat × Nat) (ks : List TxT) : Prop := GRng 34 (fun t : TxT => txKey (txI t.1)) usV w b r (gU l p) (gU l p) ks
/-- What has come is a user. -/
theorem gU_some {l : List (UsP KeyT)} (h : LkB l) {p : TxN → Nat × Nat} {t : TxT} {e : E15} (he : gU l p t = some e) : ∃ u ∈ l, u.tx = t.1 ∧ e = (u.tm, u.tx, u.pr, some (p t.1).1, some (p t.1).2) := by
  obtain ⟨u, hu, rfl⟩ := Option.map_eq_some_iff.1 he
  obtain ⟨hm, ht⟩ := (usL_some h).1 hu
  exact ⟨u, hm, ht, rfl⟩
theorem gU_none {l : List (UsP KeyT)} {p : TxN → Nat × Nat} {ks : List TxT} (h : ∀ k, k ∉ ks → gU l p k = none) (hb : LkB l) : ∀ u ∈ l, ∃ t ∈ ks, t.1 = u.tx := fun u hu => by
  have ht : TxB u.tx := (hb.oks u hu).1
  by_cases hk : (⟨u.tx, ht⟩ : TxT) ∈ ks
  · exact ⟨_, hk, rfl⟩
  · have := h _ hk
    have e : usL l u.tx = some u := (usL_some hb).2 ⟨hu, rfl⟩
    simp [gU, e] at this
set_option maxRecDepth 100000 in
set_option maxHeartbeats 3200000 in
theorem isLocked15 (q b C : Nat) (p : TxN → Nat × Nat) (l : List (UsP KeyT)) (k : KeyT) (w : World) (h : PLk w q b C p l) :
    Calls Tryz.prog 57 #[.pointer (some ⟨q, 0, none⟩), .agg (eightA k.1)] w fun e w' => e = .returned (.bool (decide (∃ u ∈ l, u.h k ≠ 0))) ∧ Below w.heap.size w w' := by
  have hA := alloc_below14 w (.cells (eightA k.1) 38)
  have hX := box_new w (eightA k.1) 38
  obtain ⟨w1, hw1⟩ : ∃ w1, w1 = w.alloc (.cells (eightA k.1) 38) := ⟨_, rfl⟩
  obtain ⟨p1, hp1⟩ : ∃ p1, p1 = w.heap.size := ⟨_, rfl⟩
  rw [← hw1] at hA hX
  rw [← hp1] at hX
  have hW1 := hw1.symm
  have hP1 := hp1.symm
  have H1 := hide (h.below hA)
  have HB := hide hA
  have HX := hide hX
  have h0 : w1.cell? ⟨q, 0, none⟩ = some (.map (some b)) := H1.out.box.cell 0 _ rfl
  obtain ⟨R, hR⟩ : ∃ R, R = decide (∃ u ∈ l, u.h k ≠ 0) := ⟨_, rfl⟩
  have HR := hide hR
  rw [← hR]
  clear h hA hX hw1 hp1 hR
  go_enter Tryz.func57, Tryz.ntmps57
  go_wp2_with (at_range; refine wp_range_g umTy _ rfl _ rfl rfl H1.out.m ?_; intro w2 hrg hb2 hs2)
  go_frame
  obtain ⟨r, hr⟩ : ∃ r, r = w1.heap.size := ⟨_, rfl⟩
  rw [← hr] at hrg ⊢
  have HRG := hide hrg
  have HB2 := hide hb2
  have HRR := hide hr
  clear hrg hb2 hs2 h0 hr
  go_loopw [6] (fun _ wr => ∃ ks : List TxT, Hid (URng wr b r l p ks) ∧ Hid (∀ t ∈ ks, ∀ u ∈ l, u.tx = t.1 → u.h k = 0) ∧ Hid (Below w1.heap.size w1 wr)) (fun _ wr => wr.rangeLeft b r)
  case atStart => exact ⟨[], HRG, hide (fun t ht => by cases ht), HB2⟩
  case round =>
    obtain ⟨ks, HG, HZ, HBW⟩ := hrel
    go_wp2_with (at_next; refine wp_next_g umTy _ rfl _ rfl rfl HG.out ?_ ?_)
    · intro hdone
      have HF : Hid (R = false) := hide (by
        rw [HR.out, decide_eq_false_iff_not]
        rintro ⟨u, hu, h1⟩
        obtain ⟨t, ht, e⟩ := gU_none hdone.all H1.out.ok u hu
        exact h1 (HZ.out t ht u hu e.symm))
      clear hdone
      go_wp2_with fail
      go_ret
      exact ⟨by rw [HF.out]; rfl, HB.out.trans (HBW.out.mono HB.out.size)⟩
    · rintro ⟨t, e, w3, hk, he, hrg3, hlt, hkb, hsz, hen⟩
      dsimp only at hen ⊢
      obtain ⟨u, hu, hut, rfl⟩ := gU_some H1.out.ok he
      have hbw3 : Below w1.heap.size w1 w3 := HBW.out.trans (hkb.below HBW.out.size (fun j e => by rw [e, HRR.out]; exact Nat.le_refl _))
      obtain ⟨n, n', hm1, _, _⟩ := (H1.out.below hbw3).maps u hu
      have HZU := hide (box_new w3 zU 83)
      have HAU := hide (alloc_below14 w3 (.cells zU 83))
      have HG3 := hide hrg3
      have HB3 := hide hbw3
      have HLT := hide hlt
      have HUU := hide hut
      rw [hut] at hm1
      have HM1 := hide hm1
      obtain ⟨⟨m1, m2⟩, hmm⟩ : ∃ m, m = p t.1 := ⟨_, rfl⟩
      rw [← hmm] at hen HM1
      clear he hrg3 hkb hsz hut hbw3 hm1 hlt hmm
      have HN : Hid (∀ v ∈ l, v.tx = t.1 → v = u) := hide (fun v hv e => rise_eq H1.out.ok.rise hv hu (e.trans HUU.out.symm))
      by_cases hz : u.h k = 0
      · have hz0 : ((u.h k : Nat) : Int) = 0 := by omega
        have HZ2 : Hid (∀ t' ∈ ks ++ [t], ∀ u ∈ l, u.tx = t'.1 → u.h k = 0) := hide (fun t' ht' v hv e => by
          rcases List.mem_append.1 ht' with h2 | h2
          · exact HZ.out t' h2 v hv e
          · rw [List.mem_singleton] at h2
            subst h2
            rw [HN.out v hv e]
            exact hz)
        go_wp2_with (refine wp_store_box rfl rfl _ _ rfl w3.heap.size rfl (cs' := usA (u.tm, u.tx, u.pr, some m1, some m2)) rfl HZU.out rfl infoUs15 (by simp [Value.oneCell']) ?_; intro w4 hb4 hk4; have HX4 := hide hb4; have HB4 : Hid (Below w3.heap.size w3 w4) := hide (HAU.out.trans (hk4.below HAU.out.size (fun j e => by omega))); clear hb4 hk4; have hg4 := HG3.out.below HB4.out; have HG4 := hide hg4.1; have HL4 := hide hg4.2; clear hg4; have y5 := HX4.out.cell 5 _ rfl; have hxk := (HX.out.belowI (HB3.out.trans (HB4.out.mono HB3.out.size))); obtain ⟨x0, x1, x2, x3, x4, x5, x6, x7⟩ := box_eight14 hxk; have hlk := (MRead.look (.inr ⟨_, _, rfl, HM1.out.below HB4.out⟩) k : (Instr.lookup 81 (.map (some m1)) (kyV k.1) false).run Tryz.prog w4 = _); clear hxk)
        go_roundw
        case rel => exact ⟨ks ++ [t], HG4, HZ2, hide (HB3.out.trans (HB4.out.mono HB3.out.size))⟩
        case measure => rw [HL4.out]; exact HLT.out
      · have hz0 : (((u.h k : Nat) : Int) != 0) = true := by simp; omega
        have HT : Hid (R = true) := hide (by rw [HR.out, decide_eq_true_eq]; exact ⟨u, hu, hz⟩)
        go_wp2_with (refine wp_store_box rfl rfl _ _ rfl w3.heap.size rfl (cs' := usA (u.tm, u.tx, u.pr, some m1, some m2)) rfl HZU.out rfl infoUs15 (by simp [Value.oneCell']) ?_; intro w4 hb4 hk4; have HX4 := hide hb4; have HB4 : Hid (Below w3.heap.size w3 w4) := hide (HAU.out.trans (hk4.below HAU.out.size (fun j e => by omega))); clear hb4 hk4; have hg4 := HG3.out.below HB4.out; have HG4 := hide hg4.1; have HL4 := hide hg4.2; clear hg4; have y5 := HX4.out.cell 5 _ rfl; have hxk := (HX.out.belowI (HB3.out.trans (HB4.out.mono HB3.out.size))); obtain ⟨x0, x1, x2, x3, x4, x5, x6, x7⟩ := box_eight14 hxk; have hlk := (MRead.look (.inr ⟨_, _, rfl, HM1.out.below HB4.out⟩) k : (Instr.lookup 81 (.map (some m1)) (kyV k.1) false).run Tryz.prog w4 = _); clear hxk)
        go_ret
        have hfin := HB.out.trans ((HB3.out.trans (HB4.out.mono HB3.out.size)).mono HB.out.size)
        rw [hP1] at hfin
        exact ⟨by rw [HT.out]; rfl, hfin⟩
end
end Go.Proofs.YtddflccjmigloaaGreat
