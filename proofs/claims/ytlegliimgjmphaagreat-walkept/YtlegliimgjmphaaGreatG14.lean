/-
  Own texts put together: WlFar. Own work.
-/
import Derived.Test.YtlegliimgjmphaaGreatG08
namespace Go.Proofs.YtlegliimgjmphaaGreat
section
open Go.RowKit
def recN (r : RecP) : Nat := min r.item.val.length 5000 + 10 + ((r.wr.take 40).map fun x => min x.it.val.length 5000 + 30).sum
def actN (a : WAct) : Nat := a.tail.length + (a.recs.map fun r => recN r.m).sum
def actB (a : WAct) : Bool := decide (8 < a.recs.length) || decide (2000 < a.tail.length)
def farA (l : List WAct) : Bool := (l.take 30).any actB || decide (8000 < ((l.take 30).map actN).sum)
theorem take_sum {α : Type} (f : α → Nat) (l : List α) {k : Nat} (h : k < l.length) : ((l.take (k + 1)).map f).sum = ((l.take k).map f).sum + f l[k] := by
 rw [List.take_succ_eq_append_getElem h, List.map_append, List.sum_append]
 simp only [List.map_cons, List.map_nil, List.sum_cons, List.sum_nil, Nat.add_zero]
theorem take_any {α : Type} (f : α → Bool) (l : List α) {k : Nat} (h : k < l.length) : (l.take (k + 1)).any f = ((l.take k).any f || f l[k]) := by
 rw [List.take_succ_eq_append_getElem h, List.any_append]
 simp only [List.any_cons, List.any_nil, Bool.or_false]
theorem sum_le {α : Type} (f : α → Nat) (B : Nat) : ∀ l : List α, (∀ x ∈ l, f x ≤ B) → (l.map f).sum ≤ l.length * B
 | [], _ => by simp
 | x :: l, h => by
  have h1 := sum_le f B l (fun y hy => h y (List.mem_cons_of_mem _ hy))
  have h2 := h x List.mem_cons_self
  rw [List.map_cons, List.sum_cons, List.length_cons, Nat.succ_mul]
  omega
theorem recN_le (r : RecP) : recN r ≤ 206210 := by
 have h := sum_le (fun x : WrP => min x.it.val.length 5000 + 30) 5030 (r.wr.take 40) (fun x _ => by omega)
 have h2 : (r.wr.take 40).length ≤ 40 := by rw [List.length_take]; omega
 unfold recN
 omega
theorem infoWr12 : (Tryz.prog.info? 91).map (·.size) = some 21 := by kernel_rfl
theorem wrA_one12 (x : WrP) : (wrA x).all (·.oneCell') = true := by simp [Value.oneCell']
theorem infoWA : (Tryz.prog.info? 46).map (·.size) = some 6 := by kernel_rfl
abbrev zeroWA : Array Value := #[.int .u8 0, .slice none 0 0, .int .i64 0, .int .i64 0, .bool false, .slice none 0 0]
abbrev wactA (a : WAct) : Array Value := (wactE a).toArray
set_option maxRecDepth 100000 in
set_option maxHeartbeats 6400000 in
theorem far12_any (v : Value) (fs : List WAct) (w : World) (h : RSrc wactE w v fs) (hok : ∀ a ∈ fs, WaOk w a) :
  Calls Tryz.prog 7 #[v] w fun e w' => e = .returned (.bool (farA fs)) ∧ Below w.heap.size w w' := by
 have HSH := hide (fun W => short_any12 v fs W w h)
 have HOK : Hid (∀ a ∈ fs.take 30, WaOk w a) := hide (fun a ha => hok a (List.mem_of_mem_take ha))
 have hKl : (fs.take 30).length ≤ 30 := by rw [List.length_take]; omega
 obtain ⟨R, hR⟩ : ∃ R, R = farA fs := ⟨_, rfl⟩
 rw [← hR]
 obtain ⟨ts, hts⟩ : ∃ ts, ts = fs.take 30 := ⟨_, rfl⟩
 have HR : Hid (R = (ts.any actB || decide (8000 < (ts.map actN).sum))) := hide (by rw [hR, hts]; rfl)
 rw [← hts] at hKl HOK
 have HTS := hide hts
 obtain ⟨LN, hLN⟩ : ∃ LN, LN = ts.length := ⟨_, rfl⟩
 rw [← hLN] at hKl
 have HLN := hide hLN
 clear hR hts hok h hLN
 go_enter Tryz.func7, Tryz.ntmps7
 go_wp2_with (go_at_call 13; refine (HSH.out _).mono ?_; rintro e Y1 ⟨v1, rfl, rfl, hT⟩; rw [← HTS.out] at hT; obtain ⟨ao, cap, e1, _, _⟩ := hT.shape; rw [← HLN.out] at e1; subst e1; have HT := hide hT; clear hT)
 go_loopg [3, 13] LN (fun g x i wr => ∃ (k S : Nat), k + g = LN ∧ x = .int .i64 (S : Int) ∧ i = .int .i64 k ∧ S ≤ k * 1651680 ∧ Hid (S = ((ts.take k).map actN).sum ∧ (ts.take k).any actB = false) ∧ Hid (Below Y1.heap.size Y1 wr))
 case atStart => exact ⟨0, 0, by omega, rfl, rfl, by omega, hide ⟨by simp, by simp⟩, hide (Below.refl _ _)⟩
 case round =>
  obtain ⟨k, S, hk, rfl, rfl, hS, HS, HB⟩ := hrel
  cases gk with
  | zero =>
   obtain rfl : k = LN := by omega
   have hz : ¬ ((k : Int) < (k : Int)) := by omega
   have HE : Hid (ts.take k = ts) := hide (by rw [HLN.out]; exact List.take_length)
   rw [HE.out] at HS
   have HV : Hid (R = decide (8000 < S)) := hide (by rw [HR.out, HS.out.1, HS.out.2, Bool.false_or])
   by_cases hb : 8000 < S
   ·have d2 : (8000 : Int) < (S : Int) := by omega
    have HW : Hid (R = true) := hide (by rw [HV.out, decide_eq_true hb])
    go_wp2
    go_ret
    exact ⟨by rw [HW.out]; first | rfl | (simp; omega), HB.out⟩
   ·have d2 : ¬ ((8000 : Int) < (S : Int)) := by omega
    have HW : Hid (R = false) := hide (by rw [HV.out, decide_eq_false hb])
    go_wp2
    go_ret
    exact ⟨by rw [HW.out]; first | rfl | (simp; omega), HB.out⟩
  | succ g =>
   have hz : (k : Int) < (LN : Int) := by omega
   have hkn : k < ts.length := by rw [← HLN.out]; omega
   obtain ⟨en, b, off, rfl, hb, hcl⟩ := (HT.out.below HB.out).at recWA.len hkn
   have HRg : Hid (wr.rangeAt b (off + k * 6) (wactE ts[k])) := hide (fun j v hv => hcl j v hv)
   have HOA := hide (HOK.out _ (List.getElem_mem hkn))
   have HSS : Hid (((ts.take (k + 1)).map actN).sum = ((ts.take k).map actN).sum + actN ts[k] ∧ ((ts.take (k + 1)).any actB = ((ts.take k).any actB || actB ts[k])) ∧ (actB ts[k] = true → ts.any actB = true)) := hide ⟨take_sum _ _ hkn, take_any _ _ hkn, fun h => List.any_eq_true.mpr ⟨_, List.getElem_mem hkn, h⟩⟩
   generalize ts[k] = a at *
   obtain ⟨kind, recs, fuse, keep, cut, tail, rv, tv⟩ := a
   obtain ⟨ro, rc, e1, hrc, _⟩ := HOA.out.src.shape
   have hsh2 : ∃ (to : Option Addr) (tc : Nat), tv = .slice to tail.length tc := by
    rcases HOA.out.tl with ⟨h1, ao, c, e, _⟩ | ⟨_, b, off, c, e, _⟩
    ·dsimp only at h1 e; exact ⟨ao, c, by rw [e, h1]; rfl⟩
    ·exact ⟨_, c, e⟩
   obtain ⟨to, tc, e2⟩ := hsh2
   dsimp only at e1 e2
   subst e1; subst e2
   obtain ⟨LR, hLR⟩ : ∃ LR, LR = recs.length := ⟨_, rfl⟩
   obtain ⟨LT, hLT⟩ : ∃ LT, LT = tail.length := ⟨_, rfl⟩
   have HLR := hide hLR
   have HLT := hide hLT
   have HSR : Hid (RSrc recVE Y1 (.slice ro LR rc) recs) := hide (by rw [hLR]; exact HOA.out.src)
   have HRO : Hid (∀ r ∈ recs, RvOk Y1 r) := hide HOA.out.ok
   have HAN : Hid (actN ⟨kind, recs, fuse, keep, cut, tail, .slice ro recs.length rc, .slice to tail.length tc⟩ = LT + (recs.map fun r => recN r.m).sum) := hide (by rw [hLT]; rfl)
   have HAB : Hid (actB ⟨kind, recs, fuse, keep, cut, tail, .slice ro recs.length rc, .slice to tail.length tc⟩ = (decide (8 < LR) || decide (2000 < LT))) := hide (by rw [hLT, hLR]; rfl)
   rw [HAN.out, HAB.out] at HSS
   rw [← hLR, ← hLT] at HRg
   clear HOA HAN HAB hLR hLT hcl en hb hrc
   have HZ := hide (box_new wr zeroWA 46)
   have HZB : Hid (Below Y1.heap.size Y1 (wr.alloc (.cells zeroWA 46))) := hide (HB.out.alloc HB.out.size _)
   have HWS := HB.out.size
   by_cases hc : 8 < LR ∨ 2000 < LT
   ·have HW : Hid (R = true) := hide (by rw [HR.out, HSS.out.2.2 (by rcases hc with h | h <;> simp [h]), Bool.true_or])
    by_cases h8 : 8 < LR
    ·have d8 : (8 : Int) < (LR : Int) := by omega
     go_wp2_with (first | (refine wpList_load_mid rfl 46 _ rfl b (off + k * 6) rfl (wactE ⟨kind, recs, fuse, keep, cut, tail, .slice ro LR rc, .slice to LT tc⟩) _ HRg.out Tryz.underlying46 rfl infoWA ?_) | (refine wp_store_box rfl rfl _ _ rfl wr.heap.size rfl (cs' := wactA ⟨kind, recs, fuse, keep, cut, tail, .slice ro LR rc, .slice to LT tc⟩) rfl HZ.out rfl infoWA (by simp [Value.oneCell']) ?_; intro w3 hb3 hk3; have y1 := hb3.cell 1 (.slice ro LR rc) rfl; have y5 := hb3.cell 5 (.slice to LT tc) rfl; have HK3 : Hid (Below Y1.heap.size Y1 w3) := hide (HZB.out.trans (hk3.below HZB.out.size (fun k hk => by omega))); clear hb3 hk3))
     go_ret
     exact ⟨by rw [HW.out]; rfl, HK3.out⟩
    ·have d8 : ¬ ((8 : Int) < (LR : Int)) := by omega
     have d9 : (2000 : Int) < (LT : Int) := by omega
     go_wp2_with (first | (refine wpList_load_mid rfl 46 _ rfl b (off + k * 6) rfl (wactE ⟨kind, recs, fuse, keep, cut, tail, .slice ro LR rc, .slice to LT tc⟩) _ HRg.out Tryz.underlying46 rfl infoWA ?_) | (refine wp_store_box rfl rfl _ _ rfl wr.heap.size rfl (cs' := wactA ⟨kind, recs, fuse, keep, cut, tail, .slice ro LR rc, .slice to LT tc⟩) rfl HZ.out rfl infoWA (by simp [Value.oneCell']) ?_; intro w3 hb3 hk3; have y1 := hb3.cell 1 (.slice ro LR rc) rfl; have y5 := hb3.cell 5 (.slice to LT tc) rfl; have HK3 : Hid (Below Y1.heap.size Y1 w3) := hide (HZB.out.trans (hk3.below HZB.out.size (fun k hk => by omega))); clear hb3 hk3))
     go_ret
     exact ⟨by rw [HW.out]; rfl, HK3.out⟩
   ·have d8 : ¬ ((8 : Int) < (LR : Int)) := by omega
    have d9 : ¬ ((2000 : Int) < (LT : Int)) := by omega
    have HNB : Hid ((ts.take (k + 1)).any actB = false) := hide (by rw [HSS.out.2.1, HS.out.2, decide_eq_false (by omega : ¬ 8 < LR), decide_eq_false (by omega : ¬ 2000 < LT)]; rfl)
    go_wp2_with (first | (refine wpList_load_mid rfl 46 _ rfl b (off + k * 6) rfl (wactE ⟨kind, recs, fuse, keep, cut, tail, .slice ro LR rc, .slice to LT tc⟩) _ HRg.out Tryz.underlying46 rfl infoWA ?_) | (refine wp_store_box rfl rfl _ _ rfl wr.heap.size rfl (cs' := wactA ⟨kind, recs, fuse, keep, cut, tail, .slice ro LR rc, .slice to LT tc⟩) rfl HZ.out rfl infoWA (by simp [Value.oneCell']) ?_; intro w3 hb3 hk3; have y1 := hb3.cell 1 (.slice ro LR rc) rfl; have y5 := hb3.cell 5 (.slice to LT tc) rfl; have HK3 : Hid (Below Y1.heap.size Y1 w3) := hide (HZB.out.trans (hk3.below HZB.out.size (fun k hk => by omega))); clear hb3 hk3))
    clear y1 y5 HZ HZB HRg
    go_loopg [3, 35] LR (fun g x i wr => ∃ (j C : Nat), j + g = LR ∧ x = .int .i64 (C : Int) ∧ i = .int .i64 j ∧ C ≤ k * 1651680 + 2000 + j * 206210 ∧ Hid (C = S + LT + ((recs.take j).map fun r => recN r.m).sum) ∧ Hid (Below Y1.heap.size Y1 wr))
    case atStart => exact ⟨0, S + LT, by omega, by first | rfl | exact congrArg (Value.int .i64) (by omega), rfl, by omega, hide (by simp), HK3⟩
    case round =>
     obtain ⟨j, C, hj, rfl, rfl, hC, HC, HB2⟩ := hrel
     cases gk with
     | zero =>
      obtain rfl : j = LR := by omega
      have hz2 : ¬ ((j : Int) < (j : Int)) := by omega
      have HE : Hid (recs.take j = recs) := hide (by rw [HLR.out]; exact List.take_length)
      rw [HE.out] at HC
      go_wp2_with fail
      go_roundg g
      case measure => omega
      case rel => exact ⟨k + 1, C, by omega, rfl, by first | rfl | go_num, by omega, hide ⟨by rw [HSS.out.1, HC.out, HS.out.1]; omega, HNB.out⟩, HB2⟩
     | succ g2 =>
      have hz2 : (j : Int) < (LR : Int) := by omega
      have hjn : j < recs.length := by rw [← HLR.out]; omega
      obtain ⟨en2, b2, off2, e2, hb2, hcl2⟩ := (HSR.out.below HB2.out).at recRV.len hjn
      obtain rfl := e2
      have HRg2 : Hid (wr.rangeAt b2 (off2 + j * 31) (recVE recs[j])) := hide (fun j v hv => hcl2 j v hv)
      have HS2 : Hid (((recs.take (j + 1)).map fun r => recN r.m).sum = ((recs.take j).map fun r => recN r.m).sum + recN recs[j].m) := hide (take_sum _ _ hjn)
      have HRV := hide (HRO.out _ (List.getElem_mem hjn))
      generalize recs[j] = r at *
      obtain ⟨m, p, q⟩ := r
      obtain ⟨a1, c1, e1, hc1, _⟩ := HRV.out.src.shape
      obtain ⟨a2, c2, e2⟩ := lies_shape12 HRV.out.lie
      dsimp only at e1 e2 hc1
      subst e1; subst e2
      obtain ⟨LW, hLW⟩ : ∃ LW, LW = m.wr.length := ⟨_, rfl⟩
      obtain ⟨l2, hl2⟩ : ∃ l2, l2 = (misI m.mis).length := ⟨_, rfl⟩
      have HSW : Hid (RSrc wrE Y1 (.slice a1 m.wr.length c1) m.wr) := hide HRV.out.src
      have hv : m.item.val.length ≤ 9223372036854775807 := HRV.out.iv
      have HWV : Hid (∀ x ∈ m.wr.take 40, x.it.val.length ≤ 9223372036854775807) := hide (fun x hx => HRV.out.wv x (List.mem_of_mem_take hx))
      obtain ⟨tw, htw⟩ : ∃ tw, tw = m.wr.take 40 := ⟨_, rfl⟩
      have HTW : Hid (recN m = min m.item.val.length 5000 + 10 + ((tw.map fun x => min x.it.val.length 5000 + 30).sum)) := hide (by rw [htw]; rfl)
      rw [← htw] at HWV
      rw [← hLW, ← hl2] at HRg2
      rw [← hLW] at hc1
      have HZ2 := hide (box_new wr (recA (zeroR 0) (.slice none 0 0) (.slice none 0 0)) 89)
      have HZB2 : Hid (Below Y1.heap.size Y1 (wr.alloc (.cells (recA (zeroR 0) (.slice none 0 0) (.slice none 0 0)) 89))) := hide (HB2.out.alloc HB2.out.size _)
      have HWS2 := HB2.out.size
      have hSx := strOf_size12 m.item.val
      clear hcl2 en2 hb2 HRV
      by_cases h40 : LW ≤ 40
      ·have hto := fun W => run_toR recWR W a1 LW c1 LW hc1
       have HT3 : Hid (RSrc wrE Y1 (.slice a1 LW c1) tw) := hide (by rw [htw, List.take_of_length_le (by omega), hLW]; exact HSW.out)
       have HTL : Hid (tw.length = LW) := hide (by rw [htw, List.length_take]; omega)
       have d40 : ¬ ((40 : Int) < (LW : Int)) := by omega
       clear hLW hl2 htw HSW
       go_wp2_with (first | (refine wpList_load_mid rfl 89 _ rfl b2 (off2 + j * 31) rfl (recE m (.slice a1 LW c1) (.slice a2 l2 c2)) _ HRg2.out Tryz.underlying89 rfl infoRRec ?_) | (refine wp_store_box rfl rfl _ _ rfl wr.heap.size rfl (cs' := recA m (.slice a1 LW c1) (.slice a2 l2 c2)) rfl HZ2.out rfl infoRRec (rec_one _ _ _ _ _ _ _) ?_; intro w3 hb3 hk3; have y8 := hb3.cell 8 (.slice a1 LW c1) rfl; have y19 := hb3.cell 19 (.string (strOfNums m.item.val)) rfl; have HK3 : Hid (Below Y1.heap.size Y1 w3) := hide (HZB2.out.trans (hk3.below HZB2.out.size (fun k hk => by omega))); clear hb3 hk3))
       all_goals
        clear hto y8 y19 hSx hv
        go_loopg [3, 55] LW (fun g x i wr => ∃ (l D : Nat), l + g = LW ∧ x = .int .i64 (D : Int) ∧ i = .int .i64 l ∧ D ≤ C + 5010 + l * 5030 ∧ Hid (D = C + (min m.item.val.length 5000 + 10) + ((tw.take l).map fun x => min x.it.val.length 5000 + 30).sum) ∧ Hid (Below Y1.heap.size Y1 wr))
        case atStart => exact ⟨0, C + (min m.item.val.length 5000 + 10), by omega, by first | rfl | exact congrArg (Value.int .i64) (by omega), rfl, by omega, hide (by simp), HK3⟩
        case round =>
         obtain ⟨l, D, hl, rfl, rfl, hD, HD, HB3⟩ := hrel
         cases gk with
         | zero =>
          obtain rfl : l = LW := by omega
          have hz3 : ¬ ((l : Int) < (l : Int)) := by omega
          have HE : Hid (tw.take l = tw) := hide (by rw [← HTL.out]; exact List.take_length)
          rw [HE.out] at HD
          go_wp2_with fail
          go_roundg g2
          case measure => omega
          case rel => exact ⟨j + 1, D, by omega, rfl, by first | rfl | go_num, by omega, hide (by rw [HS2.out, HD.out, HC.out]; rw [HTW.out]; omega), HB3⟩
         | succ g3 =>
          have hz3 : (l : Int) < (LW : Int) := by omega
          have hln : l < tw.length := by rw [HTL.out]; omega
          obtain ⟨en3, b3, off3, e3, hb3', hcl3⟩ := (HT3.out.below HB3.out).at recWR.len hln
          obtain rfl := e3
          have HRg3 : Hid (wr.rangeAt b3 (off3 + l * 21) (wrE tw[l])) := hide (fun j v hv => hcl3 j v hv)
          have HS3 : Hid (((tw.take (l + 1)).map fun x : WrP => min x.it.val.length 5000 + 30).sum = ((tw.take l).map fun x : WrP => min x.it.val.length 5000 + 30).sum + (min tw[l].it.val.length 5000 + 30)) := hide (take_sum _ _ hln)
          have hv3 : tw[l].it.val.length ≤ 9223372036854775807 := HWV.out _ (List.getElem_mem hln)
          have hSx := strOf_size12 tw[l].it.val
          have HZ3 := hide (box_new wr (wrA zeroWr) 91)
          have HZB3 : Hid (Below Y1.heap.size Y1 (wr.alloc (.cells (wrA zeroWr) 91))) := hide (HB3.out.alloc HB3.out.size _)
          have HWS3 := HB3.out.size
          clear hcl3 en3 hb3'
          generalize tw[l] = x at *
          clear hln
          go_wp2_with (first | (refine wpList_load_mid rfl 91 _ rfl b3 (off3 + l * 21) rfl (wrE x) _ HRg3.out Tryz.underlying91 rfl infoWr12 ?_) | (refine wp_store_box rfl rfl _ _ rfl wr.heap.size rfl (cs' := wrA x) rfl HZ3.out rfl infoWr12 (wrA_one12 _) ?_; intro w5 hb5 hk5; have y9 := hb5.cell 9 (.string (strOfNums x.it.val)) rfl; have HK5 : Hid (Below Y1.heap.size Y1 w5) := hide (HZB3.out.trans (hk5.below HZB3.out.size (fun k hk => by omega))); clear hb5 hk5))
          all_goals
           go_roundg g3
           case measure => omega
           case rel => exact ⟨l + 1, D + (min x.it.val.length 5000 + 30), by omega, by first | rfl | exact congrArg (Value.int .i64) (by omega), by first | rfl | go_num, by omega, hide (by rw [HS3.out, HD.out]; omega), HK5⟩
      ·have hto := fun W => run_toR recWR W a1 LW c1 40 (by omega)
       have HT3 : Hid (RSrc wrE Y1 (.slice a1 40 c1) tw) := hide (by rw [htw]; exact src_takeR HSW.out recWR.len (by omega))
       have HTL : Hid (tw.length = 40) := hide (by rw [htw, List.length_take]; omega)
       have d40 : (40 : Int) < (LW : Int) := by omega
       clear hLW hl2 htw HSW
       go_wp2_with (first | (refine wpList_load_mid rfl 89 _ rfl b2 (off2 + j * 31) rfl (recE m (.slice a1 LW c1) (.slice a2 l2 c2)) _ HRg2.out Tryz.underlying89 rfl infoRRec ?_) | (refine wp_store_box rfl rfl _ _ rfl wr.heap.size rfl (cs' := recA m (.slice a1 LW c1) (.slice a2 l2 c2)) rfl HZ2.out rfl infoRRec (rec_one _ _ _ _ _ _ _) ?_; intro w3 hb3 hk3; have y8 := hb3.cell 8 (.slice a1 LW c1) rfl; have y19 := hb3.cell 19 (.string (strOfNums m.item.val)) rfl; have HK3 : Hid (Below Y1.heap.size Y1 w3) := hide (HZB2.out.trans (hk3.below HZB2.out.size (fun k hk => by omega))); clear hb3 hk3))
       all_goals
        clear hto y8 y19 hSx hv
        go_loopg [3, 55] 40 (fun g x i wr => ∃ (l D : Nat), l + g = 40 ∧ x = .int .i64 (D : Int) ∧ i = .int .i64 l ∧ D ≤ C + 5010 + l * 5030 ∧ Hid (D = C + (min m.item.val.length 5000 + 10) + ((tw.take l).map fun x => min x.it.val.length 5000 + 30).sum) ∧ Hid (Below Y1.heap.size Y1 wr))
        case atStart => exact ⟨0, C + (min m.item.val.length 5000 + 10), by omega, by first | rfl | exact congrArg (Value.int .i64) (by omega), rfl, by omega, hide (by simp), HK3⟩
        case round =>
         obtain ⟨l, D, hl, rfl, rfl, hD, HD, HB3⟩ := hrel
         cases gk with
         | zero =>
          obtain rfl : l = 40 := by omega
          have hz3 : ¬ (((40 : Nat) : Int) < ((40 : Nat) : Int)) := by omega
          have HE : Hid (tw.take 40 = tw) := hide (by rw [← HTL.out]; exact List.take_length)
          rw [HE.out] at HD
          go_wp2_with fail
          go_roundg g2
          case measure => omega
          case rel => exact ⟨j + 1, D, by omega, rfl, by first | rfl | go_num, by omega, hide (by rw [HS2.out, HD.out, HC.out]; rw [HTW.out]; omega), HB3⟩
         | succ g3 =>
          have hz3 : (l : Int) < ((40 : Nat) : Int) := by omega
          have hln : l < tw.length := by rw [HTL.out]; omega
          obtain ⟨en3, b3, off3, e3, hb3', hcl3⟩ := (HT3.out.below HB3.out).at recWR.len hln
          obtain rfl := e3
          have HRg3 : Hid (wr.rangeAt b3 (off3 + l * 21) (wrE tw[l])) := hide (fun j v hv => hcl3 j v hv)
          have HS3 : Hid (((tw.take (l + 1)).map fun x : WrP => min x.it.val.length 5000 + 30).sum = ((tw.take l).map fun x : WrP => min x.it.val.length 5000 + 30).sum + (min tw[l].it.val.length 5000 + 30)) := hide (take_sum _ _ hln)
          have hv3 : tw[l].it.val.length ≤ 9223372036854775807 := HWV.out _ (List.getElem_mem hln)
          have hSx := strOf_size12 tw[l].it.val
          have HZ3 := hide (box_new wr (wrA zeroWr) 91)
          have HZB3 : Hid (Below Y1.heap.size Y1 (wr.alloc (.cells (wrA zeroWr) 91))) := hide (HB3.out.alloc HB3.out.size _)
          have HWS3 := HB3.out.size
          clear hcl3 en3 hb3'
          generalize tw[l] = x at *
          clear hln
          go_wp2_with (first | (refine wpList_load_mid rfl 91 _ rfl b3 (off3 + l * 21) rfl (wrE x) _ HRg3.out Tryz.underlying91 rfl infoWr12 ?_) | (refine wp_store_box rfl rfl _ _ rfl wr.heap.size rfl (cs' := wrA x) rfl HZ3.out rfl infoWr12 (wrA_one12 _) ?_; intro w5 hb5 hk5; have y9 := hb5.cell 9 (.string (strOfNums x.it.val)) rfl; have HK5 : Hid (Below Y1.heap.size Y1 w5) := hide (HZB3.out.trans (hk5.below HZB3.out.size (fun k hk => by omega))); clear hb5 hk5))
          all_goals
           go_roundg g3
           case measure => omega
           case rel => exact ⟨l + 1, D + (min x.it.val.length 5000 + 30), by omega, by first | rfl | exact congrArg (Value.int .i64) (by omega), by first | rfl | go_num, by omega, hide (by rw [HS3.out, HD.out]; omega), HK5⟩
end
end Go.Proofs.YtlegliimgjmphaaGreat
