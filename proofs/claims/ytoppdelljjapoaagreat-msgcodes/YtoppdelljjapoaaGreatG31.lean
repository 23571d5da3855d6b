/-
  Own texts put together: MgR4. Own work.
-/
import Derived.Test.YtoppdelljjapoaaGreatG23
namespace Go.Proofs.YtoppdelljjapoaaGreat
section
open Go.RowKit Classical

theorem buildReg (w : World) : (Instr.build 26 #[]).run Tryz.prog w = .ok (.agg #[.int .u32 0, .int .u32 0]) w := by kernel_rfl
set_option maxRecDepth 100000 in
set_option maxHeartbeats 3200000 in
theorem rfield0_any (m : MsgP) (ao : Option Addr) (l c : Nat) (w : World) : Calls Tryz.prog 46 #[.agg (msgA m (.slice ao l c)), .int .u8 116] w fun e w' => e = .returned (.bool (mayF m 0)) ∧ Below w.heap.size w w' := by
  have hA := alloc_below10 w (.cells (msgA m (.slice ao l c)) 35)
  have hX := box_new w (msgA m (.slice ao l c)) 35
  obtain ⟨w1, hw1⟩ : ∃ w1, w1 = w.alloc (.cells (msgA m (.slice ao l c)) 35) := ⟨_, rfl⟩
  rw [← hw1] at hA hX
  have hW := hw1.symm
  have HA := hide hA
  have x1 := hX.cell 1 _ rfl
  have x2 := hX.cell 2 _ rfl
  have x3 := hX.cell 3 _ rfl
  have C := hide (rtxMay_any (m.tx.1 : Int) (m.tx.2.1 : Int) (m.tx.2.2 : Int) w1)
  have C : Hid (Calls Tryz.prog 107 #[.agg #[.int .u8 (m.tx.1 : Int), .int .u32 (m.tx.2.1 : Int), .int .u32 (m.tx.2.2 : Int)]] w1 fun e w' => e = .returned (.bool (txMayB (txI m.tx))) ∧ Below w1.heap.size w1 w') := hide C.out
  have HE : Hid (mayF m 0 = txMayB (txI m.tx)) := hide rfl
  rw [HE.out]
  clear hX hA hw1
  generalize txMayB (txI m.tx) = r at *
  go_enter Tryz.func46, Tryz.ntmps46
  go_wp2_with (first | (go_at_call 107; refine C.out.mono ?_; rintro e w2 ⟨rfl, hB2⟩; have HB2 := hide hB2; clear hB2))
  go_ret
  exact ⟨rfl, HA.out.trans (HB2.out.mono HA.out.size)⟩
set_option maxRecDepth 100000 in
set_option maxHeartbeats 3200000 in
theorem rfield1_any (m : MsgP) (ao : Option Addr) (l c : Nat) (w : World) : Calls Tryz.prog 46 #[.agg (msgA m (.slice ao l c)), .int .u8 99] w fun e w' => e = .returned (.bool (mayF m 1)) ∧ Below w.heap.size w w' := by
  have hA := alloc_below10 w (.cells (msgA m (.slice ao l c)) 35)
  have hX := box_new w (msgA m (.slice ao l c)) 35
  obtain ⟨w1, hw1⟩ : ∃ w1, w1 = w.alloc (.cells (msgA m (.slice ao l c)) 35) := ⟨_, rfl⟩
  rw [← hw1] at hA hX
  have hW := hw1.symm
  have HA := hide hA
  have x4 := hX.cell 4 _ rfl
  have HE : Hid (mayF m 1 = decide ((m.time : Int) ≤ 2147483647)) := hide (by show decide (m.time ≤ 2147483647) = _; rw [Bool.eq_iff_iff, decide_eq_true_eq, decide_eq_true_eq]; omega)
  rw [HE.out]
  clear hX hA hw1
  go_enter Tryz.func46, Tryz.ntmps46
  go_wp2_with fail
  go_ret
  exact ⟨rfl, HA.out⟩
set_option maxRecDepth 100000 in
set_option maxHeartbeats 3200000 in
theorem rfield2_any (m : MsgP) (ao : Option Addr) (l c : Nat) (w : World) : Calls Tryz.prog 46 #[.agg (msgA m (.slice ao l c)), .int .u8 103] w fun e w' => e = .returned (.bool (mayF m 2)) ∧ Below w.heap.size w w' := by
  have hA := alloc_below10 w (.cells (msgA m (.slice ao l c)) 35)
  have hX := box_new w (msgA m (.slice ao l c)) 35
  obtain ⟨w1, hw1⟩ : ∃ w1, w1 = w.alloc (.cells (msgA m (.slice ao l c)) 35) := ⟨_, rfl⟩
  rw [← hw1] at hA hX
  have hW := hw1.symm
  have HA := hide hA
  have x0 := hX.cell 0 _ rfl
  have x5 := hX.cell 5 _ rfl
  have x6 := hX.cell 6 _ rfl
  have C := hide (rregMay_any (m.reg.1 : Int) (m.reg.2 : Int) w1)
  have HX := hide hX
  have hbr := fun W => buildReg W
  have heq := fun W => eql_reg (m.reg.1 : Int) (m.reg.2 : Int) 0 0 W
  have HZ : Hid (((m.reg.1 : Int) == 0 && (m.reg.2 : Int) == 0) = (m.reg == (0, 0))) := hide (by
    obtain ⟨a, b⟩ := m.reg
    rw [Bool.eq_iff_iff]
    simp)
  rw [HZ.out] at heq
  obtain ⟨R, hR⟩ : ∃ R, R = mayF m 2 := ⟨_, rfl⟩
  rw [← hR]
  have HR : Hid (R = (regMayB ((m.reg.1 : Int), (m.reg.2 : Int)) || ((m.kind == 1 || m.kind == 5) && m.reg == (0, 0)))) := hide (by rw [hR]; rfl)
  have hk1 : ((m.kind : Int) == 1) = (m.kind == 1) := by rw [Bool.eq_iff_iff]; simp; omega
  have hk5 : ((m.kind : Int) == 5) = (m.kind == 5) := by rw [Bool.eq_iff_iff]; simp; omega
  clear hX hA hw1 hR HZ
  generalize regMayB ((m.reg.1 : Int), (m.reg.2 : Int)) = r1 at *
  generalize (m.reg == (0, 0)) = r2 at *
  generalize (m.kind == 1) = r3 at *
  generalize (m.kind == 5) = r4 at *
  cases r1 <;> cases r3 <;> cases r4 <;> cases r2
  all_goals
    go_enter Tryz.func46, Tryz.ntmps46
    go_wp2_with (first | (go_at_call 108; refine C.out.mono ?_; rintro e w2 ⟨rfl, hB2⟩; have HB2 := hide hB2; have y5 := (HX.out.belowI hB2).cell 5 _ rfl; have y6 := (HX.out.belowI hB2).cell 6 _ rfl; clear hB2))
    go_ret
    exact ⟨by rw [HR.out]; rfl, HA.out.trans (HB2.out.mono HA.out.size)⟩
set_option maxRecDepth 100000 in
set_option maxHeartbeats 3200000 in
theorem rfield3_any (m : MsgP) (ao : Option Addr) (l c : Nat) (w : World) (hm : MsgOk m) : Calls Tryz.prog 46 #[.agg (msgA m (.slice ao l c)), .int .u8 107] w fun e w' => e = .returned (.bool (mayF m 3)) ∧ Below w.heap.size w w' := by
  have hA := alloc_below10 w (.cells (msgA m (.slice ao l c)) 35)
  have hX := box_new w (msgA m (.slice ao l c)) 35
  obtain ⟨w1, hw1⟩ : ∃ w1, w1 = w.alloc (.cells (msgA m (.slice ao l c)) 35) := ⟨_, rfl⟩
  rw [← hw1] at hA hX
  have hW := hw1.symm
  have HA := hide hA
  have x7 := hX.cell 7 _ rfl
  have x8 := hX.cell 8 _ rfl
  have x9 := hX.cell 9 _ rfl
  have x10 := hX.cell 10 _ rfl
  have x11 := hX.cell 11 _ rfl
  have x12 := hX.cell 12 _ rfl
  have x13 := hX.cell 13 _ rfl
  have x14 := hX.cell 14 _ rfl
  have C := hide (rkeyMay_any m.key hm.key w1)
  have HE : Hid (mayF m 3 = (nameF m.key).2) := hide rfl
  rw [HE.out]
  clear hX hA hw1 hm
  generalize (nameF m.key).2 = r at *
  go_enter Tryz.func46, Tryz.ntmps46
  go_wp2_with (first | (go_at_call 52; refine C.out.mono ?_; rintro e w2 ⟨rfl, hB2⟩; have HB2 := hide hB2; clear hB2))
  go_ret
  exact ⟨rfl, HA.out.trans (HB2.out.mono HA.out.size)⟩
set_option maxRecDepth 100000 in
set_option maxHeartbeats 3200000 in
theorem rfield4_any (m : MsgP) (ao : Option Addr) (l c : Nat) (w : World) : Calls Tryz.prog 46 #[.agg (msgA m (.slice ao l c)), .int .u8 109] w fun e w' => e = .returned (.bool (mayF m 4)) ∧ Below w.heap.size w w' := by
  have hA := alloc_below10 w (.cells (msgA m (.slice ao l c)) 35)
  have hX := box_new w (msgA m (.slice ao l c)) 35
  obtain ⟨w1, hw1⟩ : ∃ w1, w1 = w.alloc (.cells (msgA m (.slice ao l c)) 35) := ⟨_, rfl⟩
  rw [← hw1] at hA hX
  have hW := hw1.symm
  have HA := hide hA
  have x15 := hX.cell 15 _ rfl
  have h1 : ((m.mode : Int) == 1) = (m.mode == 1) := by rw [Bool.eq_iff_iff]; simp; omega
  have h2 : ((m.mode : Int) == 2) = (m.mode == 2) := by rw [Bool.eq_iff_iff]; simp; omega
  have HE : Hid (mayF m 4 = (m.mode == 1 || m.mode == 2)) := hide rfl
  rw [HE.out]
  clear hX hA hw1 HE
  generalize (m.mode == 1) = r1 at *
  generalize (m.mode == 2) = r2 at *
  cases r1 <;> cases r2
  all_goals
    go_enter Tryz.func46, Tryz.ntmps46
    go_wp2_with fail
    go_ret
    exact ⟨rfl, HA.out⟩
set_option maxRecDepth 100000 in
set_option maxHeartbeats 3200000 in
theorem rfield5_any (m : MsgP) (ao : Option Addr) (l c : Nat) (w : World) : Calls Tryz.prog 46 #[.agg (msgA m (.slice ao l c)), .int .u8 110] w fun e w' => e = .returned (.bool (mayF m 5)) ∧ Below w.heap.size w w' := by
  have hA := alloc_below10 w (.cells (msgA m (.slice ao l c)) 35)
  have hX := box_new w (msgA m (.slice ao l c)) 35
  obtain ⟨w1, hw1⟩ : ∃ w1, w1 = w.alloc (.cells (msgA m (.slice ao l c)) 35) := ⟨_, rfl⟩
  rw [← hw1] at hA hX
  have hW := hw1.symm
  have HA := hide hA
  have x16 := hX.cell 16 _ rfl
  have HE : Hid (mayF m 5 = decide ((m.no : Int) ≤ 2147483647)) := hide (by show decide (m.no ≤ 2147483647) = _; rw [Bool.eq_iff_iff, decide_eq_true_eq, decide_eq_true_eq]; omega)
  rw [HE.out]
  clear hX hA hw1
  go_enter Tryz.func46, Tryz.ntmps46
  go_wp2_with fail
  go_ret
  exact ⟨rfl, HA.out⟩
set_option maxRecDepth 100000 in
set_option maxHeartbeats 3200000 in
theorem rfield6_any (m : MsgP) (ao : Option Addr) (l c : Nat) (w : World) : Calls Tryz.prog 46 #[.agg (msgA m (.slice ao l c)), .int .u8 119] w fun e w' => e = .returned (.bool (mayF m 6)) ∧ Below w.heap.size w w' := by
  have hA := alloc_below10 w (.cells (msgA m (.slice ao l c)) 35)
  have hX := box_new w (msgA m (.slice ao l c)) 35
  obtain ⟨w1, hw1⟩ : ∃ w1, w1 = w.alloc (.cells (msgA m (.slice ao l c)) 35) := ⟨_, rfl⟩
  rw [← hw1] at hA hX
  have hW := hw1.symm
  have HA := hide hA
  have x17 := hX.cell 17 _ rfl
  have h1 : decide ((m.why : Int) ≥ 1) = decide (1 ≤ m.why) := by rw [Bool.eq_iff_iff, decide_eq_true_eq, decide_eq_true_eq]; omega
  have h2 : decide ((m.why : Int) ≤ 17) = decide (m.why ≤ 17) := by rw [Bool.eq_iff_iff, decide_eq_true_eq, decide_eq_true_eq]; omega
  have HE : Hid (mayF m 6 = (decide (1 ≤ m.why) && decide (m.why ≤ 17))) := hide rfl
  rw [HE.out]
  clear hX hA hw1 HE
  generalize decide (1 ≤ m.why) = r1 at *
  generalize decide (m.why ≤ 17) = r2 at *
  cases r1 <;> cases r2
  all_goals
    go_enter Tryz.func46, Tryz.ntmps46
    go_wp2_with fail
    go_ret
    exact ⟨rfl, HA.out⟩
set_option maxRecDepth 100000 in
set_option maxHeartbeats 3200000 in
theorem rfield7_any (m : MsgP) (ao : Option Addr) (l c : Nat) (w : World) : Calls Tryz.prog 46 #[.agg (msgA m (.slice ao l c)), .int .u8 121] w fun e w' => e = .returned (.bool (mayF m 7)) ∧ Below w.heap.size w w' := by
  have hA := alloc_below10 w (.cells (msgA m (.slice ao l c)) 35)
  have hX := box_new w (msgA m (.slice ao l c)) 35
  obtain ⟨w1, hw1⟩ : ∃ w1, w1 = w.alloc (.cells (msgA m (.slice ao l c)) 35) := ⟨_, rfl⟩
  rw [← hw1] at hA hX
  have hW := hw1.symm
  have HA := hide hA
  have x0 := hX.cell 0 _ rfl
  have x18 := hX.cell 18 _ rfl
  have h1 : ((m.yes : Int) == 1) = (m.yes == 1) := by rw [Bool.eq_iff_iff]; simp; omega
  have h2 : ((m.yes : Int) == 2) = (m.yes == 2) := by rw [Bool.eq_iff_iff]; simp; omega
  have h3 : ((m.yes : Int) == 3) = (m.yes == 3) := by rw [Bool.eq_iff_iff]; simp; omega
  have h6 : ((m.kind : Int) == 6) = (m.kind == 6) := by rw [Bool.eq_iff_iff]; simp; omega
  have HE : Hid (mayF m 7 = (m.yes == 1 || m.yes == 2 || (m.yes == 3 && m.kind == 6))) := hide rfl
  rw [HE.out]
  clear hX hA hw1 HE
  generalize (m.yes == 1) = r1 at *
  generalize (m.yes == 2) = r2 at *
  generalize (m.yes == 3) = r3 at *
  generalize (m.kind == 6) = r4 at *
  cases r1 <;> cases r2 <;> cases r3 <;> cases r4
  all_goals
    go_enter Tryz.func46, Tryz.ntmps46
    go_wp2_with fail
    go_ret
    exact ⟨rfl, HA.out⟩
set_option maxRecDepth 100000 in
set_option maxHeartbeats 3200000 in
theorem rfield8_any (m : MsgP) (ao : Option Addr) (l c : Nat) (w : World) (hm : MsgOk m) (hv : m.item.val.length ≤ 9223372036854775807) : Calls Tryz.prog 46 #[.agg (msgA m (.slice ao l c)), .int .u8 105] w fun e w' => e = .returned (.bool (mayF m 8)) ∧ Below w.heap.size w w' := by
  have hA := alloc_below10 w (.cells (msgA m (.slice ao l c)) 35)
  have hX := box_new w (msgA m (.slice ao l c)) 35
  obtain ⟨w1, hw1⟩ : ∃ w1, w1 = w.alloc (.cells (msgA m (.slice ao l c)) 35) := ⟨_, rfl⟩
  rw [← hw1] at hA hX
  have hW := hw1.symm
  have HA := hide hA
  have x19 := hX.cell 19 _ rfl
  have x20 := hX.cell 20 _ rfl
  have x21 := hX.cell 21 _ rfl
  have x22 := hX.cell 22 _ rfl
  have x23 := hX.cell 23 _ rfl
  have x24 := hX.cell 24 _ rfl
  have x25 := hX.cell 25 _ rfl
  have x26 := hX.cell 26 _ rfl
  have x27 := hX.cell 27 _ rfl
  have x28 := hX.cell 28 _ rfl
  have x29 := hX.cell 29 _ rfl
  have x30 := hX.cell 30 _ rfl
  have x31 := hX.cell 31 _ rfl
  have C := hide (ritem_any m.item hm.item hv w1)
  have HE : Hid (mayF m 8 = itMayB m.item) := hide rfl
  rw [HE.out]
  clear hX hA hw1 hm hv
  generalize itMayB m.item = r at *
  go_enter Tryz.func46, Tryz.ntmps46
  go_wp2_with (first | (go_at_call 15; refine C.out.mono ?_; rintro e w2 ⟨rfl, hB2⟩; have HB2 := hide hB2; clear hB2))
  go_ret
  exact ⟨rfl, HA.out.trans (HB2.out.mono HA.out.size)⟩
set_option maxRecDepth 100000 in
set_option maxHeartbeats 3200000 in
theorem rfield9_any (m : MsgP) (ao : Option Addr) (l c : Nat) (w : World) (hm : MsgOk m) (hs : RSrc wrE w (.slice ao l c) m.wr) (hv : ∀ x ∈ m.wr, x.it.val.length ≤ 9223372036854775807) (hl : m.wr.length ≤ 100000) : Calls Tryz.prog 46 #[.agg (msgA m (.slice ao l c)), .int .u8 108] w fun e w' => e = .returned (.bool (mayF m 9)) ∧ Below w.heap.size w w' := by
  have hA := alloc_below10 w (.cells (msgA m (.slice ao l c)) 35)
  have hX := box_new w (msgA m (.slice ao l c)) 35
  obtain ⟨w1, hw1⟩ : ∃ w1, w1 = w.alloc (.cells (msgA m (.slice ao l c)) 35) := ⟨_, rfl⟩
  rw [← hw1] at hA hX
  have hW := hw1.symm
  have HA := hide hA
  have x32 := hX.cell 32 _ rfl
  have C := hide (rwrites_any _ m.wr w1 (hs.below hA) hm.wr hv hl)
  have HE : Hid (mayF m 9 = wsMayB m.wr) := hide rfl
  rw [HE.out]
  clear hX hA hw1 hm hs hv hl
  generalize wsMayB m.wr = r at *
  go_enter Tryz.func46, Tryz.ntmps46
  go_wp2_with (first | (go_at_call 17; refine C.out.mono ?_; rintro e w2 ⟨rfl, hB2⟩; have HB2 := hide hB2; clear hB2))
  go_ret
  exact ⟨rfl, HA.out.trans (HB2.out.mono HA.out.size)⟩
theorem rfield_any (m : MsgP) (ao : Option Addr) (l c : Nat) (w : World) (hm : MsgOk m) (hs : RSrc wrE w (.slice ao l c) m.wr) (hi : m.item.val.length ≤ 9223372036854775807) (hv : ∀ x ∈ m.wr, x.it.val.length ≤ 9223372036854775807) (hl : m.wr.length ≤ 100000) {f : Nat} (hf : f < 10) : Calls Tryz.prog 46 #[.agg (msgA m (.slice ao l c)), .int .u8 (letterF f)] w fun e w' => e = .returned (.bool (mayF m f)) ∧ Below w.heap.size w w' := by
  refine ten (P := fun f => Calls Tryz.prog 46 #[.agg (msgA m (.slice ao l c)), .int .u8 (letterF f)] w fun e w' => e = .returned (.bool (mayF m f)) ∧ Below w.heap.size w w') hf (rfield0_any m ao l c w) (rfield1_any m ao l c w) (rfield2_any m ao l c w) (rfield3_any m ao l c w hm) (rfield4_any m ao l c w) (rfield5_any m ao l c w) (rfield6_any m ao l c w) (rfield7_any m ao l c w) (rfield8_any m ao l c w hm hi) (rfield9_any m ao l c w hm hs hv hl)
end
end Go.Proofs.YtoppdelljjapoaaGreat
