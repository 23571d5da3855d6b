/-
  Own texts put together: RcLaw. Own work.
-/
import Derived.Test.YtencmgepffdodaaGreatG29
import Derived.Test.YtencmgepffdodaaGreatG11
namespace Go.Proofs.YtencmgepffdodaaGreat
section
open Go.RowKit

def longR (m : RecP) : Bool := decide (10000 < bulkW m.item.val.length (m.wr.take 40)) || decide (40 < m.wr.length) || decide (40 < m.mis.length)
set_option maxRecDepth 100000 in
set_option maxHeartbeats 3200000 in
theorem theirs_any11 (m : RecP) (ao bo : Option Addr) (l c k d : Nat) (w : World) : Calls Tryz.prog 11 #[.agg (recA m (.slice ao l c) (.slice bo k d))] w fun e w' => e = .returned (.agg (recA m (.slice ao l c) (.slice bo k d))) ∧ Below w.heap.size w w' := by
  have hB := box_new (w.alloc (.cells (recA m (.slice ao l c) (.slice bo k d)) 37)) (recA (zeroR 0) (.slice none 0 0) (.slice none 0 0)) 41
  rw [show (w.alloc (Obj.cells (recA m (.slice ao l c) (.slice bo k d)) 37)).heap.size = w.heap.size + 1 by simp] at hB
  have HB := hide hB
  have HS : Hid (Below w.heap.size w ((w.alloc (Obj.cells (recA m (.slice ao l c) (.slice bo k d)) 37)).alloc (.cells (recA (zeroR 0) (.slice none 0 0) (.slice none 0 0)) 41))) := hide (((Below.refl _ _).alloc (Nat.le_refl _) _).alloc (by simp) _)
  clear hB
  go_enter Tryz.func11, Tryz.ntmps11
  go_wp2_with (refine wp_store_box rfl rfl _ _ rfl (w.heap.size + 1) rfl (cs' := recA m (.slice ao l c) (.slice bo k d)) rfl HB.out rfl infoRec (rec_one _ _ _ _ _ _ _) ?_; intro w3 hb3 hk3; replace hb3 := hide hb3; replace hk3 := hide hk3)
  refine bodyPost_ret (results_box rfl _ _ (w.heap.size + 1) rfl hb3.out Tryz.underlying41 rfl infoRec) rfl ?_
  exact ⟨rfl, HS.out.trans (hk3.out.below HS.out.size (fun k hk => by omega))⟩
set_option maxRecDepth 100000 in
set_option maxHeartbeats 3200000 in
theorem long_much11 (m : RecP) (ao bo : Option Addr) (LN cap LM dap : Nat) (w : World) (hn : m.wr.length = LN) (hq : m.mis.length = LM) (h : RSrc wrE w (.slice ao LN cap) m.wr) (hv : m.item.val.length ≤ 140737488355328) (hl : 40 < LN) :
    Calls Tryz.prog 8 #[.agg (recA m (.slice ao LN cap) (.slice bo LM dap))] w fun e w' => e = .returned (.bool (longR m)) ∧ Below w.heap.size w w' := by
  have hc : LN ≤ cap := by obtain ⟨_, _, e0, hc, _⟩ := h.shape; cases e0; rw [← hn]; exact hc
  obtain ⟨ts, hts⟩ : ∃ ts, ts = m.wr.take 40 := ⟨_, rfl⟩
  have hT : RSrc wrE w (.slice ao 40 cap) ts := by rw [hts]; exact src_takeR (by rw [hn]; exact h : RSrc wrE w (.slice ao m.wr.length cap) m.wr) recWR.len (by rw [hn]; omega)
  have hKl : ts.length = 40 := by rw [hts, List.length_take, hn]; omega
  obtain ⟨R, hR⟩ : ∃ R, R = longR m := ⟨_, rfl⟩
  rw [← hR]
  have HR : Hid (R = (decide (10000 < bulkW m.item.val.length ts) || decide (40 < LN) || decide (40 < LM))) := hide (by rw [hR, hts]; unfold longR; rw [hn, hq])
  have hto := fun W => run_toR recWR W ao LN cap 40 (by omega)
  have HT := hide hT
  have HTL := hide hKl
  have hA1 := alloc_below10 w (.cells (recA m (.slice ao LN cap) (.slice bo LM dap)) 37)
  have hX1 := box_new w (recA m (.slice ao LN cap) (.slice bo LM dap)) 37
  obtain ⟨w1, hw1⟩ : ∃ w1, w1 = w.alloc (.cells (recA m (.slice ao LN cap) (.slice bo LM dap)) 37) := ⟨_, rfl⟩
  rw [← hw1] at hA1 hX1
  have hW1 := hw1.symm
  have x19 := hX1.cell 19 (.string (strOfNums m.item.val)) rfl
  have x8 := hX1.cell 8 (.slice ao LN cap) rfl
  have HX := hide hX1
  have HA := hide hA1
  have d1 : (40 : Int) < (LN : Int) := by omega
  clear hX1 hA1 hw1 hR hT hts h hKl hn
  have hS0 := strOf_size10 m.item.val
  go_enter Tryz.func8, Tryz.ntmps8
  go_wp2_with fail
  clear hto x19 x8 hS0 hW1 hc
  go_loopg [3, 18] 40 (fun g x i wr => ∃ k : Nat, k + g = 40 ∧ x = .int .i64 ((bulkW m.item.val.length (ts.take k) : Nat) : Int) ∧ i = .int .i64 k ∧ Hid (Below w1.heap.size w1 wr))
  case atStart => exact ⟨0, by omega, by simp [bulkW], rfl, hide (Below.refl _ _)⟩
  case round =>
    obtain ⟨k, hk, rfl, rfl, HB⟩ := hrel
    cases gk with
    | zero =>
      obtain rfl : k = 40 := by omega
      have hz : ¬ (((40 : Nat) : Int) < ((40 : Nat) : Int)) := by omega
      have HE : Hid (ts.take 40 = ts) := hide (by rw [← HTL.out]; exact List.take_length)
      rw [HE.out]
      have x8 := (HX.out.belowI HB.out).cell 8 (.slice ao LN cap) rfl
      have HF : Hid (Below w.heap.size w wr) := hide (HA.out.trans (HB.out.mono HA.out.size))
      by_cases hb : 10000 < bulkW m.item.val.length ts
      · have HD : Hid (R = true) := hide (by rw [HR.out, decide_eq_true hb, Bool.true_or, Bool.true_or])
        have d2 : (10000 : Int) < ((bulkW m.item.val.length ts : Nat) : Int) := by omega
        generalize bulkW m.item.val.length ts = B at *
        go_wp2
        go_ret
        exact ⟨by rw [HD.out]; first | rfl | (simp; omega), HF.out⟩
      · have HD : Hid (R = true) := hide (by rw [HR.out, decide_eq_false hb, Bool.false_or, decide_eq_true (by omega : 40 < LN), Bool.true_or])
        have d2 : ¬ ((10000 : Int) < ((bulkW m.item.val.length ts : Nat) : Int)) := by omega
        generalize bulkW m.item.val.length ts = B at *
        go_wp2
        go_ret
        exact ⟨by rw [HD.out]; first | rfl | (simp; omega), HF.out⟩
    | succ g =>
      have hz : (k : Int) < ((40 : Nat) : Int) := by omega
      have hkn : k < ts.length := by rw [HTL.out]; omega
      obtain ⟨en, b, off, rfl, hb, hcl⟩ := (HT.out.below (HA.out.trans (HB.out.mono HA.out.size))).at recWR.len hkn
      have HRg : Hid (wr.rangeAt b (off + k * 21) (wrE ts[k])) := hide (fun j v hv => hcl j v hv)
      have HS : Hid (bulkW m.item.val.length (ts.take (k + 1)) = bulkW m.item.val.length (ts.take k) + min ts[k].it.val.length 10000) := hide (by rw [List.take_succ_eq_append_getElem hkn, bulkW_snoc])
      have hbl : bulkW m.item.val.length (ts.take k) ≤ 140737488755328 := by have := bulkW_le m.item.val.length (ts.take k); rw [List.length_take] at this; omega
      have hSx := strOf_size10 ts[k].it.val
      have HZ := hide (box_new wr (wrA zeroWr) 61)
      have HZB : Hid (Below w1.heap.size w1 (wr.alloc (.cells (wrA zeroWr) 61))) := hide (HB.out.alloc HB.out.size _)
      have HWS := HB.out.size
      clear hcl en
      generalize bulkW m.item.val.length (ts.take k) = B at *
      generalize ts[k] = x at *
      clear hkn hb
      go_wp2_with (first | (refine wpList_load_mid rfl 61 _ rfl b (off + k * 21) rfl (wrE x) _ HRg.out Tryz.underlying61 rfl infoWr ?_) | (refine wp_store_box rfl rfl _ _ rfl wr.heap.size rfl (cs' := wrA x) rfl HZ.out rfl infoWr (wrA_one _) ?_; intro w3 hb3 hk3; have y9 := hb3.cell 9 (.string (strOfNums x.it.val)) rfl; have HK3 : Hid (Below w1.heap.size w1 w3) := hide (HZB.out.trans (hk3.below HZB.out.size (fun k hk => by omega))); clear hb3 hk3))
      all_goals
        go_roundg g
        case measure => omega
        case rel => exact ⟨k + 1, by omega, by rw [HS.out]; exact congrArg (Value.int .i64) (by omega), by first | rfl | go_num, HK3⟩
set_option maxRecDepth 100000 in
set_option maxHeartbeats 3200000 in
theorem long_few11 (m : RecP) (ao bo : Option Addr) (LN cap LM dap : Nat) (w : World) (hn : m.wr.length = LN) (hq : m.mis.length = LM) (h : RSrc wrE w (.slice ao LN cap) m.wr) (hv : m.item.val.length ≤ 140737488355328) (hl : LN ≤ 40) :
    Calls Tryz.prog 8 #[.agg (recA m (.slice ao LN cap) (.slice bo LM dap))] w fun e w' => e = .returned (.bool (longR m)) ∧ Below w.heap.size w w' := by
  have hc : LN ≤ cap := by obtain ⟨_, _, e0, hc, _⟩ := h.shape; cases e0; rw [← hn]; exact hc
  obtain ⟨ts, hts⟩ : ∃ ts, ts = m.wr := ⟨_, rfl⟩
  have hT : RSrc wrE w (.slice ao LN cap) ts := by rw [hts]; exact h
  have hKl : ts.length = LN := by rw [hts, hn]
  obtain ⟨R, hR⟩ : ∃ R, R = longR m := ⟨_, rfl⟩
  rw [← hR]
  have HR : Hid (R = (decide (10000 < bulkW m.item.val.length ts) || decide (40 < LN) || decide (40 < LM))) := hide (by rw [hR, hts]; unfold longR; rw [hn, hq, List.take_of_length_le (by rw [hn]; exact hl)])
  have hto := fun W => run_toR recWR W ao LN cap LN (by omega)
  have HT := hide hT
  have HTL := hide hKl
  have hA1 := alloc_below10 w (.cells (recA m (.slice ao LN cap) (.slice bo LM dap)) 37)
  have hX1 := box_new w (recA m (.slice ao LN cap) (.slice bo LM dap)) 37
  obtain ⟨w1, hw1⟩ : ∃ w1, w1 = w.alloc (.cells (recA m (.slice ao LN cap) (.slice bo LM dap)) 37) := ⟨_, rfl⟩
  rw [← hw1] at hA1 hX1
  have hW1 := hw1.symm
  have x19 := hX1.cell 19 (.string (strOfNums m.item.val)) rfl
  have x8 := hX1.cell 8 (.slice ao LN cap) rfl
  have HX := hide hX1
  have HA := hide hA1
  have d1 : ¬ ((40 : Int) < (LN : Int)) := by omega
  clear hX1 hA1 hw1 hR hT hts h hKl hn
  have hS0 := strOf_size10 m.item.val
  go_enter Tryz.func8, Tryz.ntmps8
  go_wp2_with fail
  clear hto x19 x8 hS0 hW1 hc
  go_loopg [3, 18] LN (fun g x i wr => ∃ k : Nat, k + g = LN ∧ x = .int .i64 ((bulkW m.item.val.length (ts.take k) : Nat) : Int) ∧ i = .int .i64 k ∧ Hid (Below w1.heap.size w1 wr))
  case atStart => exact ⟨0, by omega, by simp [bulkW], rfl, hide (Below.refl _ _)⟩
  case round =>
    obtain ⟨k, hk, rfl, rfl, HB⟩ := hrel
    cases gk with
    | zero =>
      obtain rfl : k = LN := by omega
      have hz : ¬ (((k : Nat) : Int) < ((k : Nat) : Int)) := by omega
      have HE : Hid (ts.take k = ts) := hide (by rw [← HTL.out]; exact List.take_length)
      rw [HE.out]
      have x8 := (HX.out.belowI HB.out).cell 8 (.slice ao k cap) rfl
      have HF : Hid (Below w.heap.size w wr) := hide (HA.out.trans (HB.out.mono HA.out.size))
      by_cases hb : 10000 < bulkW m.item.val.length ts
      · have HD : Hid (R = true) := hide (by rw [HR.out, decide_eq_true hb, Bool.true_or, Bool.true_or])
        have d2 : (10000 : Int) < ((bulkW m.item.val.length ts : Nat) : Int) := by omega
        generalize bulkW m.item.val.length ts = B at *
        go_wp2
        go_ret
        exact ⟨by rw [HD.out]; first | rfl | (simp; omega), HF.out⟩
      · have x9 := (HX.out.belowI HB.out).cell 9 (.slice bo LM dap) rfl
        have HD : Hid (R = decide ((40 : Int) < (LM : Int))) := hide (by rw [HR.out, decide_eq_false hb, decide_eq_false (by omega : ¬ 40 < k), Bool.false_or, Bool.false_or]; congr 1; exact propext ⟨fun h => by omega, fun h => by omega⟩)
        have d2 : ¬ ((10000 : Int) < ((bulkW m.item.val.length ts : Nat) : Int)) := by omega
        generalize bulkW m.item.val.length ts = B at *
        go_wp2
        go_ret
        exact ⟨by rw [HD.out]; first | rfl | (simp; omega), HF.out⟩
    | succ g =>
      have hz : (k : Int) < ((LN : Nat) : Int) := by omega
      have hkn : k < ts.length := by rw [HTL.out]; omega
      obtain ⟨en, b, off, rfl, hb, hcl⟩ := (HT.out.below (HA.out.trans (HB.out.mono HA.out.size))).at recWR.len hkn
      have HRg : Hid (wr.rangeAt b (off + k * 21) (wrE ts[k])) := hide (fun j v hv => hcl j v hv)
      have HS : Hid (bulkW m.item.val.length (ts.take (k + 1)) = bulkW m.item.val.length (ts.take k) + min ts[k].it.val.length 10000) := hide (by rw [List.take_succ_eq_append_getElem hkn, bulkW_snoc])
      have hbl : bulkW m.item.val.length (ts.take k) ≤ 140737488755328 := by have := bulkW_le m.item.val.length (ts.take k); rw [List.length_take] at this; omega
      have hSx := strOf_size10 ts[k].it.val
      have HZ := hide (box_new wr (wrA zeroWr) 61)
      have HZB : Hid (Below w1.heap.size w1 (wr.alloc (.cells (wrA zeroWr) 61))) := hide (HB.out.alloc HB.out.size _)
      have HWS := HB.out.size
      clear hcl en
      generalize bulkW m.item.val.length (ts.take k) = B at *
      generalize ts[k] = x at *
      clear hkn hb
      go_wp2_with (first | (refine wpList_load_mid rfl 61 _ rfl b (off + k * 21) rfl (wrE x) _ HRg.out Tryz.underlying61 rfl infoWr ?_) | (refine wp_store_box rfl rfl _ _ rfl wr.heap.size rfl (cs' := wrA x) rfl HZ.out rfl infoWr (wrA_one _) ?_; intro w3 hb3 hk3; have y9 := hb3.cell 9 (.string (strOfNums x.it.val)) rfl; have HK3 : Hid (Below w1.heap.size w1 w3) := hide (HZB.out.trans (hk3.below HZB.out.size (fun k hk => by omega))); clear hb3 hk3))
      all_goals
        go_roundg g
        case measure => omega
        case rel => exact ⟨k + 1, by omega, by rw [HS.out]; exact congrArg (Value.int .i64) (by omega), by first | rfl | go_num, HK3⟩
theorem long_any11 (m : RecP) (ao bo : Option Addr) (cap dap : Nat) (w : World) (h : RSrc wrE w (.slice ao m.wr.length cap) m.wr) (hv : m.item.val.length ≤ 140737488355328) :
    Calls Tryz.prog 8 #[.agg (recA m (.slice ao m.wr.length cap) (.slice bo m.mis.length dap))] w fun e w' => e = .returned (.bool (longR m)) ∧ Below w.heap.size w w' := by
  by_cases hl : 40 < m.wr.length
  · exact long_much11 m ao bo _ cap _ dap w rfl rfl h hv hl
  · exact long_few11 m ao bo _ cap _ dap w rfl rfl h hv (by omega)
end
end Go.Proofs.YtencmgepffdodaaGreat
