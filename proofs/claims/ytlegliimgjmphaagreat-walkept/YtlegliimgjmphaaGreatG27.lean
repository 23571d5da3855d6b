/-
  Own texts put together: RcR2. Own work.
-/
import Derived.Test.YtlegliimgjmphaaGreatG26
import Derived.Test.YtlegliimgjmphaaGreatG25
namespace Go.Proofs.YtlegliimgjmphaaGreat
section
open Go.RowKit Classical
section
variable {ρ : Operand → Value} {w : World} {dst : Option Tmp} {ty : TypeId} {pos : String} {aft : Array Edge} {gd : Option (Nat × Bool)}
theorem y_fldS0 (x : Operand) {q : Nat} (hx : ρ x = .pointer (some ⟨q, 0, none⟩)) : (execOp ρ ⟨dst, .fieldAddr 89 x 0, ty, pos, aft, gd⟩).run Tryz.prog w = .ok (.value (.pointer (some ⟨q, 0, none⟩))) w := by simp [go_sem, hx]
theorem y_fldS1 (x : Operand) {q : Nat} (hx : ρ x = .pointer (some ⟨q, 0, none⟩)) : (execOp ρ ⟨dst, .fieldAddr 89 x 1, ty, pos, aft, gd⟩).run Tryz.prog w = .ok (.value (.pointer (some ⟨q, 1, none⟩))) w := by simp [go_sem, hx]
theorem y_fldS2 (x : Operand) {q : Nat} (hx : ρ x = .pointer (some ⟨q, 0, none⟩)) : (execOp ρ ⟨dst, .fieldAddr 89 x 2, ty, pos, aft, gd⟩).run Tryz.prog w = .ok (.value (.pointer (some ⟨q, 2, none⟩))) w := by simp [go_sem, hx]
theorem y_fldS3 (x : Operand) {q : Nat} (hx : ρ x = .pointer (some ⟨q, 0, none⟩)) : (execOp ρ ⟨dst, .fieldAddr 89 x 3, ty, pos, aft, gd⟩).run Tryz.prog w = .ok (.value (.pointer (some ⟨q, 5, none⟩))) w := by simp [go_sem, hx]
theorem y_fldS4 (x : Operand) {q : Nat} (hx : ρ x = .pointer (some ⟨q, 0, none⟩)) : (execOp ρ ⟨dst, .fieldAddr 89 x 4, ty, pos, aft, gd⟩).run Tryz.prog w = .ok (.value (.pointer (some ⟨q, 7, none⟩))) w := by simp [go_sem, hx]
theorem y_fldS5 (x : Operand) {q : Nat} (hx : ρ x = .pointer (some ⟨q, 0, none⟩)) : (execOp ρ ⟨dst, .fieldAddr 89 x 5, ty, pos, aft, gd⟩).run Tryz.prog w = .ok (.value (.pointer (some ⟨q, 8, none⟩))) w := by simp [go_sem, hx]
theorem y_fldS6 (x : Operand) {q : Nat} (hx : ρ x = .pointer (some ⟨q, 0, none⟩)) : (execOp ρ ⟨dst, .fieldAddr 89 x 6, ty, pos, aft, gd⟩).run Tryz.prog w = .ok (.value (.pointer (some ⟨q, 9, none⟩))) w := by simp [go_sem, hx]
theorem y_fldS7 (x : Operand) {q : Nat} (hx : ρ x = .pointer (some ⟨q, 0, none⟩)) : (execOp ρ ⟨dst, .fieldAddr 89 x 7, ty, pos, aft, gd⟩).run Tryz.prog w = .ok (.value (.pointer (some ⟨q, 10, none⟩))) w := by simp [go_sem, hx]
theorem y_fldS8 (x : Operand) {q : Nat} (hx : ρ x = .pointer (some ⟨q, 0, none⟩)) : (execOp ρ ⟨dst, .fieldAddr 89 x 8, ty, pos, aft, gd⟩).run Tryz.prog w = .ok (.value (.pointer (some ⟨q, 18, none⟩))) w := by simp [go_sem, hx]
theorem y_cell_u64s (x : Operand) {q o : Nat} {v : Value} (hx : ρ x = .pointer (some ⟨q, o, none⟩)) (h : w.cell? ⟨q, o, none⟩ = some v) : (execOp ρ ⟨dst, .load 79 x, ty, pos, aft, gd⟩).run Tryz.prog w = .ok (.value v) w := by simp [go_sem, hx, h]
end
theorem rec_tx {w : World} {p : Nat} {m : RecP} {u v : Value} {t : TypeId} (h : Box w p (recA m u v) t) : w.rangeAt p 2 (txE m.tx) := box_range h 2 _ (fun j x hx => by
 match j, hx with
 | 0, hx => exact hx
 | 1, hx => exact hx
 | 2, hx => exact hx
 | j + 3, hx => simp at hx)
theorem rec_reg {w : World} {p : Nat} {m : RecP} {u v : Value} {t : TypeId} (h : Box w p (recA m u v) t) : w.rangeAt p 5 (rgE m.reg) := box_range h 5 _ (fun j x hx => by
 match j, hx with
 | 0, hx => exact hx
 | 1, hx => exact hx
 | j + 2, hx => simp at hx)
theorem rec_key {w : World} {p : Nat} {m : RecP} {u v : Value} {t : TypeId} (h : Box w p (recA m u v) t) : w.rangeAt p 10 (eightE m.key) := box_range h 10 _ (fun j x hx => by
 match j, hx with
 | 0, hx => exact hx
 | 1, hx => exact hx
 | 2, hx => exact hx
 | 3, hx => exact hx
 | 4, hx => exact hx
 | 5, hx => exact hx
 | 6, hx => exact hx
 | 7, hx => exact hx
 | j + 8, hx => simp at hx)
theorem rec_item {w : World} {p : Nat} {m : RecP} {u v : Value} {t : TypeId} (h : Box w p (recA m u v) t) : w.rangeAt p 18 (itE m.item) := box_range h 18 _ (fun j x hx => by
 match j, hx with
 | 0, hx => exact hx
 | 1, hx => exact hx
 | 2, hx => exact hx
 | 3, hx => exact hx
 | 4, hx => exact hx
 | 5, hx => exact hx
 | 6, hx => exact hx
 | 7, hx => exact hx
 | 8, hx => exact hx
 | 9, hx => exact hx
 | 10, hx => exact hx
 | 11, hx => exact hx
 | 12, hx => exact hx
 | j + 13, hx => simp at hx)
theorem eql_u64_11 (a b : Nat) (w : World) : (binOp .eql 77 (.int .u64 (a : Int)) (.int .u64 (b : Int))).run Tryz.prog w = .ok (.bool (decide (a = b))) w := by
 have : ((a : Int) == (b : Int)) = decide (a = b) := by rw [Bool.eq_iff_iff]; simp [Int.ofNat_inj]
 simp [go_sem, this]
theorem rsame_tail {m k : RecP} (h0 : m.kind = k.kind) (h1 : m.n = k.n) (h2 : m.tx = k.tx) (h3 : m.reg = k.reg) (h4 : m.mem = k.mem) (h5 : m.wr = k.wr) (h6 : m.mis = k.mis) (h7 : m.key = k.key) (h8 : m.item = k.item) : m = k := by
 obtain ⟨a0, a1, a2, a3, a4, a5, a6, a7, a8⟩ := m
 obtain ⟨b0, b1, b2, b3, b4, b5, b6, b7, b8⟩ := k
 simp only at h0 h1 h2 h3 h4 h5 h6 h7 h8
 subst h0 h1 h2 h3 h4 h5 h6 h7 h8
 rfl
set_option maxRecDepth 100000 in
set_option maxHeartbeats 12800000 in
theorem rsame11_any (m k : RecP) (a1 a2 b1 b2 : Option Addr) (l1 c1 l2 c2 n1 d1 n2 d2 : Nat) (w : World) (hm : RecOk m) (hk : RecOk k) (h1 : RSrc wrE w (.slice a1 l1 c1) m.wr) (h2 : RSrc wrE w (.slice a2 l2 c2) k.wr) (h3 : Lies .u64 w (.slice b1 n1 d1) (misI m.mis)) (h4 : Lies .u64 w (.slice b2 n2 d2) (misI k.mis)) :
  Calls Tryz.prog 58 #[.agg (recA m (.slice a1 l1 c1) (.slice b1 n1 d1)), .agg (recA k (.slice a2 l2 c2) (.slice b2 n2 d2))] w fun e w' => e = .returned (.bool (decide (m = k))) ∧ Below w.heap.size w w' := by
 have hA := ((Below.refl w.heap.size w).alloc (Nat.le_refl _) (.cells (recA m (.slice a1 l1 c1) (.slice b1 n1 d1)) 89)).alloc (by simp) (.cells (recA k (.slice a2 l2 c2) (.slice b2 n2 d2)) 89)
 have hX := (box_new w (recA m (.slice a1 l1 c1) (.slice b1 n1 d1)) 89).belowI (alloc_below10 _ (.cells (recA k (.slice a2 l2 c2) (.slice b2 n2 d2)) 89))
 have hY := box_new (w.alloc (.cells (recA m (.slice a1 l1 c1) (.slice b1 n1 d1)) 89)) (recA k (.slice a2 l2 c2) (.slice b2 n2 d2)) 89
 rw [World.size_alloc] at hY
 obtain ⟨w2, hw2⟩ : ∃ w2, w2 = (w.alloc (.cells (recA m (.slice a1 l1 c1) (.slice b1 n1 d1)) 89)).alloc (.cells (recA k (.slice a2 l2 c2) (.slice b2 n2 d2)) 89) := ⟨_, rfl⟩
 rw [← hw2] at hA hX hY
 have hW := hw2.symm
 have CW := hide (rsameWrites_any _ _ m.wr k.wr w2 (h1.below hA) (h2.below hA) hm.wr hk.wr)
 have CT := hide (fun W (hB : Below w2.heap.size w2 W) => rsets_any _ _ (misI m.mis) (misI k.mis) W ((h3.below hA).below hB) ((h4.below hA).below hB))
 have HA := hide hA
 have HX := hide hX
 have HY := hide hY
 have HM := hide hm
 have HK := hide hk
 obtain ⟨R, hR⟩ : ∃ R, R = decide (m = k) := ⟨_, rfl⟩
 rw [← hR]
 have HR := hide hR
 clear hR hA hw2 h1 h2 h3 h4 hm hk hX hY
 go_enter Tryz.func58, Tryz.ntmps58
 refine wp_seq_gen fun K1 hK1 => ?_
 replace hK1 := hide hK1
 go_wp2_with fail
 rw [hK1.out]
 clear hK1
 refine wp_seq_gen fun K2 hK2 => ?_
 replace hK2 := hide hK2
 refine wp_region_list ?_
 by_cases h0 : m.kind = k.kind
 rotate_left
 ·have HE : Hid (R = false) := hide (by rw [HR.out]; exact decide_eq_false (fun e => h0 (by rw [e])))
  have E0 : Hid ((binOp .eql 5 (.int .u8 (m.kind : Int)) (.int .u8 (k.kind : Int))).run Tryz.prog w2 = .ok (.bool false) w2) := hide (by rw [eql_u8_10 _ _ w2, decide_eq_false h0])
  refine seq_vals _ _ 0 6 [(5, .pointer (some ⟨w.heap.size, 0, none⟩)), (6, .int .u8 (m.kind : Int)), (7, .pointer (some ⟨w.heap.size + 1, 0, none⟩)), (8, .int .u8 (k.kind : Int)), (9, .bool false), (10, .bool false)] (by kernel_rfl) rfl ?_ ?_
  ·intro i o hi h1 h2 A hold hdeps
   have hc : i = 0 ∨ i = 1 ∨ i = 2 ∨ i = 3 ∨ i = 4 ∨ i = 5 := by omega
   clear h1 h2
   rcases hc with rfl | rfl | rfl | rfl | rfl | rfl
   ·obtain rfl := Option.some.inj hi
    have s2 : A.tmps.getD 2 undef = .pointer (some ⟨w.heap.size, 0, none⟩) := hold 2 (by kernel_rfl)
    exact q_pure hi rfl rfl (y_fldS0 _ s2)
   ·obtain rfl := Option.some.inj hi
    have s5 : A.tmps.getD 5 undef = .pointer (some ⟨w.heap.size, 0, none⟩) := hdeps 0 (by decide) (by decide)
    exact q_pure hi rfl rfl (y_cell_u8 _ s5 (HX.out.cell 0 _ rfl))
   ·obtain rfl := Option.some.inj hi
    have s3 : A.tmps.getD 3 undef = .pointer (some ⟨w.heap.size + 1, 0, none⟩) := hold 3 (by kernel_rfl)
    exact q_pure hi rfl rfl (y_fldS0 _ s3)
   ·obtain rfl := Option.some.inj hi
    have s7 : A.tmps.getD 7 undef = .pointer (some ⟨w.heap.size + 1, 0, none⟩) := hdeps 2 (by decide) (by decide)
    exact q_pure hi rfl rfl (y_cell_u8 _ s7 (HY.out.cell 0 _ rfl))
   ·obtain rfl := Option.some.inj hi
    have s6 : A.tmps.getD 6 undef = .int .u8 (m.kind : Int) := hdeps 1 (by decide) (by decide)
    have s8 : A.tmps.getD 8 undef = .int .u8 (k.kind : Int) := hdeps 3 (by decide) (by decide)
    exact q_pure hi rfl rfl (y_bin _ _ _ _ _ s6 s8 E0.out (by kernel_rfl))
   ·obtain rfl := Option.some.inj hi
    have s9 : A.tmps.getD 9 undef = .bool false := hdeps 4 (by decide) (by decide)
    exact q_pure hi rfl rfl (y_move _ s9)
  ·simp only [putAll, Act.put, List.setIfInBounds_toArray, List.set_cons_succ, List.set_cons_zero]
   clear E0 HX HY HM HK CW CT
   go_wp2_with fail
   rw [hK2.out]
   go_wp2_with fail
   go_ret
   exact ⟨by rw [HE.out]; rfl, HA.out⟩
 have E0 : Hid ((binOp .eql 5 (.int .u8 (m.kind : Int)) (.int .u8 (k.kind : Int))).run Tryz.prog w2 = .ok (.bool true) w2) := hide (by rw [eql_u8_10 _ _ w2, decide_eq_true h0])
 refine seq_vals _ _ 0 6 [(5, .pointer (some ⟨w.heap.size, 0, none⟩)), (6, .int .u8 (m.kind : Int)), (7, .pointer (some ⟨w.heap.size + 1, 0, none⟩)), (8, .int .u8 (k.kind : Int)), (9, .bool true), (10, .bool true)] (by kernel_rfl) rfl ?_ ?_
 ·intro i o hi h1 h2 A hold hdeps
  have hc : i = 0 ∨ i = 1 ∨ i = 2 ∨ i = 3 ∨ i = 4 ∨ i = 5 := by omega
  clear h1 h2
  rcases hc with rfl | rfl | rfl | rfl | rfl | rfl
  ·obtain rfl := Option.some.inj hi
   have s2 : A.tmps.getD 2 undef = .pointer (some ⟨w.heap.size, 0, none⟩) := hold 2 (by kernel_rfl)
   exact q_pure hi rfl rfl (y_fldS0 _ s2)
  ·obtain rfl := Option.some.inj hi
   have s5 : A.tmps.getD 5 undef = .pointer (some ⟨w.heap.size, 0, none⟩) := hdeps 0 (by decide) (by decide)
   exact q_pure hi rfl rfl (y_cell_u8 _ s5 (HX.out.cell 0 _ rfl))
  ·obtain rfl := Option.some.inj hi
   have s3 : A.tmps.getD 3 undef = .pointer (some ⟨w.heap.size + 1, 0, none⟩) := hold 3 (by kernel_rfl)
   exact q_pure hi rfl rfl (y_fldS0 _ s3)
  ·obtain rfl := Option.some.inj hi
   have s7 : A.tmps.getD 7 undef = .pointer (some ⟨w.heap.size + 1, 0, none⟩) := hdeps 2 (by decide) (by decide)
   exact q_pure hi rfl rfl (y_cell_u8 _ s7 (HY.out.cell 0 _ rfl))
  ·obtain rfl := Option.some.inj hi
   have s6 : A.tmps.getD 6 undef = .int .u8 (m.kind : Int) := hdeps 1 (by decide) (by decide)
   have s8 : A.tmps.getD 8 undef = .int .u8 (k.kind : Int) := hdeps 3 (by decide) (by decide)
   exact q_pure hi rfl rfl (y_bin _ _ _ _ _ s6 s8 E0.out (by kernel_rfl))
  ·obtain rfl := Option.some.inj hi
   have s9 : A.tmps.getD 9 undef = .bool true := hdeps 4 (by decide) (by decide)
   exact q_pure hi rfl rfl (y_move _ s9)
 ·simp only [putAll, Act.put, List.setIfInBounds_toArray, List.set_cons_succ, List.set_cons_zero]
  clear E0
  by_cases h1 : m.n = k.n
  rotate_left
  ·have HE : Hid (R = false) := hide (by rw [HR.out]; exact decide_eq_false (fun e => h1 (by rw [e])))
   have E1 : Hid ((binOp .eql 72 (.int .u32 (m.n : Int)) (.int .u32 (k.n : Int))).run Tryz.prog w2 = .ok (.bool false) w2) := hide (by rw [eql_u32_10 _ _ w2, decide_eq_false h1])
   refine seq_vals _ _ 6 7 [(11, .pointer (some ⟨w.heap.size, 1, none⟩)), (12, .int .u32 (m.n : Int)), (13, .pointer (some ⟨w.heap.size + 1, 1, none⟩)), (14, .int .u32 (k.n : Int)), (15, .bool false), (16, .bool false), (17, .bool false)] (by kernel_rfl) rfl ?_ ?_
   ·intro i o hi h1 h2 A hold hdeps
    have hc : i = 6 ∨ i = 7 ∨ i = 8 ∨ i = 9 ∨ i = 10 ∨ i = 11 ∨ i = 12 := by omega
    clear h1 h2
    rcases hc with rfl | rfl | rfl | rfl | rfl | rfl | rfl
    ·obtain rfl := Option.some.inj hi
     have g6 : A.tmps.getD 10 undef = .bool true := hold 10 (by kernel_rfl)
     have s2 : A.tmps.getD 2 undef = .pointer (some ⟨w.heap.size, 0, none⟩) := hold 2 (by kernel_rfl)
     exact q_pure hi (wanted_of rfl rfl g6) rfl (y_fldS1 _ s2)
    ·obtain rfl := Option.some.inj hi
     have g7 : A.tmps.getD 10 undef = .bool true := hold 10 (by kernel_rfl)
     have s11 : A.tmps.getD 11 undef = .pointer (some ⟨w.heap.size, 1, none⟩) := hdeps 6 (by decide) (by decide)
     exact q_pure hi (wanted_of rfl rfl g7) rfl (y_cell_u32 _ s11 (HX.out.cell 1 _ rfl))
    ·obtain rfl := Option.some.inj hi
     have g8 : A.tmps.getD 10 undef = .bool true := hold 10 (by kernel_rfl)
     have s3 : A.tmps.getD 3 undef = .pointer (some ⟨w.heap.size + 1, 0, none⟩) := hold 3 (by kernel_rfl)
     exact q_pure hi (wanted_of rfl rfl g8) rfl (y_fldS1 _ s3)
    ·obtain rfl := Option.some.inj hi
     have g9 : A.tmps.getD 10 undef = .bool true := hold 10 (by kernel_rfl)
     have s13 : A.tmps.getD 13 undef = .pointer (some ⟨w.heap.size + 1, 1, none⟩) := hdeps 8 (by decide) (by decide)
     exact q_pure hi (wanted_of rfl rfl g9) rfl (y_cell_u32 _ s13 (HY.out.cell 1 _ rfl))
    ·obtain rfl := Option.some.inj hi
     have g10 : A.tmps.getD 10 undef = .bool true := hold 10 (by kernel_rfl)
     have s12 : A.tmps.getD 12 undef = .int .u32 (m.n : Int) := hdeps 7 (by decide) (by decide)
     have s14 : A.tmps.getD 14 undef = .int .u32 (k.n : Int) := hdeps 9 (by decide) (by decide)
     exact q_pure hi (wanted_of rfl rfl g10) rfl (y_bin _ _ _ _ _ s12 s14 E1.out (by kernel_rfl))
    ·obtain rfl := Option.some.inj hi
     have s10 : A.tmps.getD 10 undef = .bool true := hold 10 (by kernel_rfl)
     have s15 : A.tmps.getD 15 undef = .bool false := hdeps 10 (by decide) (by decide)
     exact q_pure hi rfl rfl (y_pickT _ _ _ s10 s15)
    ·obtain rfl := Option.some.inj hi
     have s16 : A.tmps.getD 16 undef = .bool false := hdeps 11 (by decide) (by decide)
     exact q_pure hi rfl rfl (y_move _ s16)
   ·simp only [putAll, Act.put, List.setIfInBounds_toArray, List.set_cons_succ, List.set_cons_zero]
    clear E1 HX HY HM HK CW CT
    go_wp2_with fail
    rw [hK2.out]
    go_wp2_with fail
    go_ret
    exact ⟨by rw [HE.out]; rfl, HA.out⟩
  have E1 : Hid ((binOp .eql 72 (.int .u32 (m.n : Int)) (.int .u32 (k.n : Int))).run Tryz.prog w2 = .ok (.bool true) w2) := hide (by rw [eql_u32_10 _ _ w2, decide_eq_true h1])
  refine seq_vals _ _ 6 7 [(11, .pointer (some ⟨w.heap.size, 1, none⟩)), (12, .int .u32 (m.n : Int)), (13, .pointer (some ⟨w.heap.size + 1, 1, none⟩)), (14, .int .u32 (k.n : Int)), (15, .bool true), (16, .bool true), (17, .bool true)] (by kernel_rfl) rfl ?_ ?_
  ·intro i o hi h1 h2 A hold hdeps
   have hc : i = 6 ∨ i = 7 ∨ i = 8 ∨ i = 9 ∨ i = 10 ∨ i = 11 ∨ i = 12 := by omega
   clear h1 h2
   rcases hc with rfl | rfl | rfl | rfl | rfl | rfl | rfl
   ·obtain rfl := Option.some.inj hi
    have g6 : A.tmps.getD 10 undef = .bool true := hold 10 (by kernel_rfl)
    have s2 : A.tmps.getD 2 undef = .pointer (some ⟨w.heap.size, 0, none⟩) := hold 2 (by kernel_rfl)
    exact q_pure hi (wanted_of rfl rfl g6) rfl (y_fldS1 _ s2)
   ·obtain rfl := Option.some.inj hi
    have g7 : A.tmps.getD 10 undef = .bool true := hold 10 (by kernel_rfl)
    have s11 : A.tmps.getD 11 undef = .pointer (some ⟨w.heap.size, 1, none⟩) := hdeps 6 (by decide) (by decide)
    exact q_pure hi (wanted_of rfl rfl g7) rfl (y_cell_u32 _ s11 (HX.out.cell 1 _ rfl))
   ·obtain rfl := Option.some.inj hi
    have g8 : A.tmps.getD 10 undef = .bool true := hold 10 (by kernel_rfl)
    have s3 : A.tmps.getD 3 undef = .pointer (some ⟨w.heap.size + 1, 0, none⟩) := hold 3 (by kernel_rfl)
    exact q_pure hi (wanted_of rfl rfl g8) rfl (y_fldS1 _ s3)
   ·obtain rfl := Option.some.inj hi
    have g9 : A.tmps.getD 10 undef = .bool true := hold 10 (by kernel_rfl)
    have s13 : A.tmps.getD 13 undef = .pointer (some ⟨w.heap.size + 1, 1, none⟩) := hdeps 8 (by decide) (by decide)
    exact q_pure hi (wanted_of rfl rfl g9) rfl (y_cell_u32 _ s13 (HY.out.cell 1 _ rfl))
   ·obtain rfl := Option.some.inj hi
    have g10 : A.tmps.getD 10 undef = .bool true := hold 10 (by kernel_rfl)
    have s12 : A.tmps.getD 12 undef = .int .u32 (m.n : Int) := hdeps 7 (by decide) (by decide)
    have s14 : A.tmps.getD 14 undef = .int .u32 (k.n : Int) := hdeps 9 (by decide) (by decide)
    exact q_pure hi (wanted_of rfl rfl g10) rfl (y_bin _ _ _ _ _ s12 s14 E1.out (by kernel_rfl))
   ·obtain rfl := Option.some.inj hi
    have s10 : A.tmps.getD 10 undef = .bool true := hold 10 (by kernel_rfl)
    have s15 : A.tmps.getD 15 undef = .bool true := hdeps 10 (by decide) (by decide)
    exact q_pure hi rfl rfl (y_pickT _ _ _ s10 s15)
   ·obtain rfl := Option.some.inj hi
    have s16 : A.tmps.getD 16 undef = .bool true := hdeps 11 (by decide) (by decide)
    exact q_pure hi rfl rfl (y_move _ s16)
  ·simp only [putAll, Act.put, List.setIfInBounds_toArray, List.set_cons_succ, List.set_cons_zero]
   clear E1
   by_cases h2 : m.tx = k.tx
   rotate_left
   ·have HE : Hid (R = false) := hide (by rw [HR.out]; exact decide_eq_false (fun e => h2 (by rw [e])))
    have E2 : Hid ((binOp .eql 74 (.agg (txE m.tx).toArray) (.agg (txE k.tx).toArray)).run Tryz.prog w2 = .ok (.bool false) w2) := hide (by rw [eql_tx10 _ _ w2, decide_eq_false h2])
    refine seq_vals _ _ 13 7 [(18, .pointer (some ⟨w.heap.size, 2, none⟩)), (19, .agg (txE m.tx).toArray), (20, .pointer (some ⟨w.heap.size + 1, 2, none⟩)), (21, .agg (txE k.tx).toArray), (22, .bool false), (23, .bool false), (24, .bool false)] (by kernel_rfl) rfl ?_ ?_
    ·intro i o hi h1 h2 A hold hdeps
     have hc : i = 13 ∨ i = 14 ∨ i = 15 ∨ i = 16 ∨ i = 17 ∨ i = 18 ∨ i = 19 := by omega
     clear h1 h2
     rcases hc with rfl | rfl | rfl | rfl | rfl | rfl | rfl
     ·obtain rfl := Option.some.inj hi
      have g13 : A.tmps.getD 17 undef = .bool true := hold 17 (by kernel_rfl)
      have s2 : A.tmps.getD 2 undef = .pointer (some ⟨w.heap.size, 0, none⟩) := hold 2 (by kernel_rfl)
      exact q_pure hi (wanted_of rfl rfl g13) rfl (y_fldS2 _ s2)
     ·obtain rfl := Option.some.inj hi
      have g14 : A.tmps.getD 17 undef = .bool true := hold 17 (by kernel_rfl)
      have s18 : A.tmps.getD 18 undef = .pointer (some ⟨w.heap.size, 2, none⟩) := hdeps 13 (by decide) (by decide)
      exact q_pure hi (wanted_of rfl rfl g14) rfl (y_loadMid _ _ s18 (rec_tx HX.out) Tryz.underlying74 rfl infoTx10)
     ·obtain rfl := Option.some.inj hi
      have g15 : A.tmps.getD 17 undef = .bool true := hold 17 (by kernel_rfl)
      have s3 : A.tmps.getD 3 undef = .pointer (some ⟨w.heap.size + 1, 0, none⟩) := hold 3 (by kernel_rfl)
      exact q_pure hi (wanted_of rfl rfl g15) rfl (y_fldS2 _ s3)
     ·obtain rfl := Option.some.inj hi
      have g16 : A.tmps.getD 17 undef = .bool true := hold 17 (by kernel_rfl)
      have s20 : A.tmps.getD 20 undef = .pointer (some ⟨w.heap.size + 1, 2, none⟩) := hdeps 15 (by decide) (by decide)
      exact q_pure hi (wanted_of rfl rfl g16) rfl (y_loadMid _ _ s20 (rec_tx HY.out) Tryz.underlying74 rfl infoTx10)
     ·obtain rfl := Option.some.inj hi
      have g17 : A.tmps.getD 17 undef = .bool true := hold 17 (by kernel_rfl)
      have s19 : A.tmps.getD 19 undef = .agg (txE m.tx).toArray := hdeps 14 (by decide) (by decide)
      have s21 : A.tmps.getD 21 undef = .agg (txE k.tx).toArray := hdeps 16 (by decide) (by decide)
      exact q_pure hi (wanted_of rfl rfl g17) rfl (y_bin _ _ _ _ _ s19 s21 E2.out (by kernel_rfl))
     ·obtain rfl := Option.some.inj hi
      have s17 : A.tmps.getD 17 undef = .bool true := hold 17 (by kernel_rfl)
      have s22 : A.tmps.getD 22 undef = .bool false := hdeps 17 (by decide) (by decide)
      exact q_pure hi rfl rfl (y_pickT _ _ _ s17 s22)
     ·obtain rfl := Option.some.inj hi
      have s23 : A.tmps.getD 23 undef = .bool false := hdeps 18 (by decide) (by decide)
      exact q_pure hi rfl rfl (y_move _ s23)
    ·simp only [putAll, Act.put, List.setIfInBounds_toArray, List.set_cons_succ, List.set_cons_zero]
     clear E2 HX HY HM HK CW CT
     go_wp2_with fail
     rw [hK2.out]
     go_wp2_with fail
     go_ret
     exact ⟨by rw [HE.out]; rfl, HA.out⟩
   have E2 : Hid ((binOp .eql 74 (.agg (txE m.tx).toArray) (.agg (txE k.tx).toArray)).run Tryz.prog w2 = .ok (.bool true) w2) := hide (by rw [eql_tx10 _ _ w2, decide_eq_true h2])
   refine seq_vals _ _ 13 7 [(18, .pointer (some ⟨w.heap.size, 2, none⟩)), (19, .agg (txE m.tx).toArray), (20, .pointer (some ⟨w.heap.size + 1, 2, none⟩)), (21, .agg (txE k.tx).toArray), (22, .bool true), (23, .bool true), (24, .bool true)] (by kernel_rfl) rfl ?_ ?_
   ·intro i o hi h1 h2 A hold hdeps
    have hc : i = 13 ∨ i = 14 ∨ i = 15 ∨ i = 16 ∨ i = 17 ∨ i = 18 ∨ i = 19 := by omega
    clear h1 h2
    rcases hc with rfl | rfl | rfl | rfl | rfl | rfl | rfl
    ·obtain rfl := Option.some.inj hi
     have g13 : A.tmps.getD 17 undef = .bool true := hold 17 (by kernel_rfl)
     have s2 : A.tmps.getD 2 undef = .pointer (some ⟨w.heap.size, 0, none⟩) := hold 2 (by kernel_rfl)
     exact q_pure hi (wanted_of rfl rfl g13) rfl (y_fldS2 _ s2)
    ·obtain rfl := Option.some.inj hi
     have g14 : A.tmps.getD 17 undef = .bool true := hold 17 (by kernel_rfl)
     have s18 : A.tmps.getD 18 undef = .pointer (some ⟨w.heap.size, 2, none⟩) := hdeps 13 (by decide) (by decide)
     exact q_pure hi (wanted_of rfl rfl g14) rfl (y_loadMid _ _ s18 (rec_tx HX.out) Tryz.underlying74 rfl infoTx10)
    ·obtain rfl := Option.some.inj hi
     have g15 : A.tmps.getD 17 undef = .bool true := hold 17 (by kernel_rfl)
     have s3 : A.tmps.getD 3 undef = .pointer (some ⟨w.heap.size + 1, 0, none⟩) := hold 3 (by kernel_rfl)
     exact q_pure hi (wanted_of rfl rfl g15) rfl (y_fldS2 _ s3)
    ·obtain rfl := Option.some.inj hi
     have g16 : A.tmps.getD 17 undef = .bool true := hold 17 (by kernel_rfl)
     have s20 : A.tmps.getD 20 undef = .pointer (some ⟨w.heap.size + 1, 2, none⟩) := hdeps 15 (by decide) (by decide)
     exact q_pure hi (wanted_of rfl rfl g16) rfl (y_loadMid _ _ s20 (rec_tx HY.out) Tryz.underlying74 rfl infoTx10)
    ·obtain rfl := Option.some.inj hi
     have g17 : A.tmps.getD 17 undef = .bool true := hold 17 (by kernel_rfl)
     have s19 : A.tmps.getD 19 undef = .agg (txE m.tx).toArray := hdeps 14 (by decide) (by decide)
     have s21 : A.tmps.getD 21 undef = .agg (txE k.tx).toArray := hdeps 16 (by decide) (by decide)
     exact q_pure hi (wanted_of rfl rfl g17) rfl (y_bin _ _ _ _ _ s19 s21 E2.out (by kernel_rfl))
    ·obtain rfl := Option.some.inj hi
     have s17 : A.tmps.getD 17 undef = .bool true := hold 17 (by kernel_rfl)
     have s22 : A.tmps.getD 22 undef = .bool true := hdeps 17 (by decide) (by decide)
     exact q_pure hi rfl rfl (y_pickT _ _ _ s17 s22)
    ·obtain rfl := Option.some.inj hi
     have s23 : A.tmps.getD 23 undef = .bool true := hdeps 18 (by decide) (by decide)
     exact q_pure hi rfl rfl (y_move _ s23)
   ·simp only [putAll, Act.put, List.setIfInBounds_toArray, List.set_cons_succ, List.set_cons_zero]
    clear E2
    by_cases h3 : m.reg = k.reg
    rotate_left
    ·have HE : Hid (R = false) := hide (by rw [HR.out]; exact decide_eq_false (fun e => h3 (by rw [e])))
     have E3 : Hid ((binOp .eql 76 (.agg (rgE m.reg).toArray) (.agg (rgE k.reg).toArray)).run Tryz.prog w2 = .ok (.bool false) w2) := hide (by rw [eql_reg10 _ _ w2, decide_eq_false h3])
     refine seq_vals _ _ 20 7 [(25, .pointer (some ⟨w.heap.size, 5, none⟩)), (26, .agg (rgE m.reg).toArray), (27, .pointer (some ⟨w.heap.size + 1, 5, none⟩)), (28, .agg (rgE k.reg).toArray), (29, .bool false), (30, .bool false), (31, .bool false)] (by kernel_rfl) rfl ?_ ?_
     ·intro i o hi h1 h2 A hold hdeps
      have hc : i = 20 ∨ i = 21 ∨ i = 22 ∨ i = 23 ∨ i = 24 ∨ i = 25 ∨ i = 26 := by omega
      clear h1 h2
      rcases hc with rfl | rfl | rfl | rfl | rfl | rfl | rfl
      ·obtain rfl := Option.some.inj hi
       have g20 : A.tmps.getD 24 undef = .bool true := hold 24 (by kernel_rfl)
       have s2 : A.tmps.getD 2 undef = .pointer (some ⟨w.heap.size, 0, none⟩) := hold 2 (by kernel_rfl)
       exact q_pure hi (wanted_of rfl rfl g20) rfl (y_fldS3 _ s2)
      ·obtain rfl := Option.some.inj hi
       have g21 : A.tmps.getD 24 undef = .bool true := hold 24 (by kernel_rfl)
       have s25 : A.tmps.getD 25 undef = .pointer (some ⟨w.heap.size, 5, none⟩) := hdeps 20 (by decide) (by decide)
       exact q_pure hi (wanted_of rfl rfl g21) rfl (y_loadMid _ _ s25 (rec_reg HX.out) Tryz.underlying76 rfl infoReg10)
      ·obtain rfl := Option.some.inj hi
       have g22 : A.tmps.getD 24 undef = .bool true := hold 24 (by kernel_rfl)
       have s3 : A.tmps.getD 3 undef = .pointer (some ⟨w.heap.size + 1, 0, none⟩) := hold 3 (by kernel_rfl)
       exact q_pure hi (wanted_of rfl rfl g22) rfl (y_fldS3 _ s3)
      ·obtain rfl := Option.some.inj hi
       have g23 : A.tmps.getD 24 undef = .bool true := hold 24 (by kernel_rfl)
       have s27 : A.tmps.getD 27 undef = .pointer (some ⟨w.heap.size + 1, 5, none⟩) := hdeps 22 (by decide) (by decide)
       exact q_pure hi (wanted_of rfl rfl g23) rfl (y_loadMid _ _ s27 (rec_reg HY.out) Tryz.underlying76 rfl infoReg10)
      ·obtain rfl := Option.some.inj hi
       have g24 : A.tmps.getD 24 undef = .bool true := hold 24 (by kernel_rfl)
       have s26 : A.tmps.getD 26 undef = .agg (rgE m.reg).toArray := hdeps 21 (by decide) (by decide)
       have s28 : A.tmps.getD 28 undef = .agg (rgE k.reg).toArray := hdeps 23 (by decide) (by decide)
       exact q_pure hi (wanted_of rfl rfl g24) rfl (y_bin _ _ _ _ _ s26 s28 E3.out (by kernel_rfl))
      ·obtain rfl := Option.some.inj hi
       have s24 : A.tmps.getD 24 undef = .bool true := hold 24 (by kernel_rfl)
       have s29 : A.tmps.getD 29 undef = .bool false := hdeps 24 (by decide) (by decide)
       exact q_pure hi rfl rfl (y_pickT _ _ _ s24 s29)
      ·obtain rfl := Option.some.inj hi
       have s30 : A.tmps.getD 30 undef = .bool false := hdeps 25 (by decide) (by decide)
       exact q_pure hi rfl rfl (y_move _ s30)
     ·simp only [putAll, Act.put, List.setIfInBounds_toArray, List.set_cons_succ, List.set_cons_zero]
      clear E3 HX HY HM HK CW CT
      go_wp2_with fail
      rw [hK2.out]
      go_wp2_with fail
      go_ret
      exact ⟨by rw [HE.out]; rfl, HA.out⟩
    have E3 : Hid ((binOp .eql 76 (.agg (rgE m.reg).toArray) (.agg (rgE k.reg).toArray)).run Tryz.prog w2 = .ok (.bool true) w2) := hide (by rw [eql_reg10 _ _ w2, decide_eq_true h3])
    refine seq_vals _ _ 20 7 [(25, .pointer (some ⟨w.heap.size, 5, none⟩)), (26, .agg (rgE m.reg).toArray), (27, .pointer (some ⟨w.heap.size + 1, 5, none⟩)), (28, .agg (rgE k.reg).toArray), (29, .bool true), (30, .bool true), (31, .bool true)] (by kernel_rfl) rfl ?_ ?_
    ·intro i o hi h1 h2 A hold hdeps
     have hc : i = 20 ∨ i = 21 ∨ i = 22 ∨ i = 23 ∨ i = 24 ∨ i = 25 ∨ i = 26 := by omega
     clear h1 h2
     rcases hc with rfl | rfl | rfl | rfl | rfl | rfl | rfl
     ·obtain rfl := Option.some.inj hi
      have g20 : A.tmps.getD 24 undef = .bool true := hold 24 (by kernel_rfl)
      have s2 : A.tmps.getD 2 undef = .pointer (some ⟨w.heap.size, 0, none⟩) := hold 2 (by kernel_rfl)
      exact q_pure hi (wanted_of rfl rfl g20) rfl (y_fldS3 _ s2)
     ·obtain rfl := Option.some.inj hi
      have g21 : A.tmps.getD 24 undef = .bool true := hold 24 (by kernel_rfl)
      have s25 : A.tmps.getD 25 undef = .pointer (some ⟨w.heap.size, 5, none⟩) := hdeps 20 (by decide) (by decide)
      exact q_pure hi (wanted_of rfl rfl g21) rfl (y_loadMid _ _ s25 (rec_reg HX.out) Tryz.underlying76 rfl infoReg10)
     ·obtain rfl := Option.some.inj hi
      have g22 : A.tmps.getD 24 undef = .bool true := hold 24 (by kernel_rfl)
      have s3 : A.tmps.getD 3 undef = .pointer (some ⟨w.heap.size + 1, 0, none⟩) := hold 3 (by kernel_rfl)
      exact q_pure hi (wanted_of rfl rfl g22) rfl (y_fldS3 _ s3)
     ·obtain rfl := Option.some.inj hi
      have g23 : A.tmps.getD 24 undef = .bool true := hold 24 (by kernel_rfl)
      have s27 : A.tmps.getD 27 undef = .pointer (some ⟨w.heap.size + 1, 5, none⟩) := hdeps 22 (by decide) (by decide)
      exact q_pure hi (wanted_of rfl rfl g23) rfl (y_loadMid _ _ s27 (rec_reg HY.out) Tryz.underlying76 rfl infoReg10)
     ·obtain rfl := Option.some.inj hi
      have g24 : A.tmps.getD 24 undef = .bool true := hold 24 (by kernel_rfl)
      have s26 : A.tmps.getD 26 undef = .agg (rgE m.reg).toArray := hdeps 21 (by decide) (by decide)
      have s28 : A.tmps.getD 28 undef = .agg (rgE k.reg).toArray := hdeps 23 (by decide) (by decide)
      exact q_pure hi (wanted_of rfl rfl g24) rfl (y_bin _ _ _ _ _ s26 s28 E3.out (by kernel_rfl))
     ·obtain rfl := Option.some.inj hi
      have s24 : A.tmps.getD 24 undef = .bool true := hold 24 (by kernel_rfl)
      have s29 : A.tmps.getD 29 undef = .bool true := hdeps 24 (by decide) (by decide)
      exact q_pure hi rfl rfl (y_pickT _ _ _ s24 s29)
     ·obtain rfl := Option.some.inj hi
      have s30 : A.tmps.getD 30 undef = .bool true := hdeps 25 (by decide) (by decide)
      exact q_pure hi rfl rfl (y_move _ s30)
    ·simp only [putAll, Act.put, List.setIfInBounds_toArray, List.set_cons_succ, List.set_cons_zero]
     clear E3
     by_cases h4 : m.mem = k.mem
     rotate_left
     ·have HE : Hid (R = false) := hide (by rw [HR.out]; exact decide_eq_false (fun e => h4 (by rw [e])))
      have E4 : Hid ((binOp .eql 77 (.int .u64 (m.mem : Int)) (.int .u64 (k.mem : Int))).run Tryz.prog w2 = .ok (.bool false) w2) := hide (by rw [eql_u64_11 _ _ w2, decide_eq_false h4])
      refine seq_vals _ _ 27 7 [(32, .pointer (some ⟨w.heap.size, 7, none⟩)), (33, .int .u64 (m.mem : Int)), (34, .pointer (some ⟨w.heap.size + 1, 7, none⟩)), (35, .int .u64 (k.mem : Int)), (36, .bool false), (37, .bool false), (38, .bool false)] (by kernel_rfl) rfl ?_ ?_
      ·intro i o hi h1 h2 A hold hdeps
       have hc : i = 27 ∨ i = 28 ∨ i = 29 ∨ i = 30 ∨ i = 31 ∨ i = 32 ∨ i = 33 := by omega
       clear h1 h2
       rcases hc with rfl | rfl | rfl | rfl | rfl | rfl | rfl
       ·obtain rfl := Option.some.inj hi
        have g27 : A.tmps.getD 31 undef = .bool true := hold 31 (by kernel_rfl)
        have s2 : A.tmps.getD 2 undef = .pointer (some ⟨w.heap.size, 0, none⟩) := hold 2 (by kernel_rfl)
        exact q_pure hi (wanted_of rfl rfl g27) rfl (y_fldS4 _ s2)
       ·obtain rfl := Option.some.inj hi
        have g28 : A.tmps.getD 31 undef = .bool true := hold 31 (by kernel_rfl)
        have s32 : A.tmps.getD 32 undef = .pointer (some ⟨w.heap.size, 7, none⟩) := hdeps 27 (by decide) (by decide)
        exact q_pure hi (wanted_of rfl rfl g28) rfl (y_cell_u64 _ s32 (HX.out.cell 7 _ rfl))
       ·obtain rfl := Option.some.inj hi
        have g29 : A.tmps.getD 31 undef = .bool true := hold 31 (by kernel_rfl)
        have s3 : A.tmps.getD 3 undef = .pointer (some ⟨w.heap.size + 1, 0, none⟩) := hold 3 (by kernel_rfl)
        exact q_pure hi (wanted_of rfl rfl g29) rfl (y_fldS4 _ s3)
       ·obtain rfl := Option.some.inj hi
        have g30 : A.tmps.getD 31 undef = .bool true := hold 31 (by kernel_rfl)
        have s34 : A.tmps.getD 34 undef = .pointer (some ⟨w.heap.size + 1, 7, none⟩) := hdeps 29 (by decide) (by decide)
        exact q_pure hi (wanted_of rfl rfl g30) rfl (y_cell_u64 _ s34 (HY.out.cell 7 _ rfl))
       ·obtain rfl := Option.some.inj hi
        have g31 : A.tmps.getD 31 undef = .bool true := hold 31 (by kernel_rfl)
        have s33 : A.tmps.getD 33 undef = .int .u64 (m.mem : Int) := hdeps 28 (by decide) (by decide)
        have s35 : A.tmps.getD 35 undef = .int .u64 (k.mem : Int) := hdeps 30 (by decide) (by decide)
        exact q_pure hi (wanted_of rfl rfl g31) rfl (y_bin _ _ _ _ _ s33 s35 E4.out (by kernel_rfl))
       ·obtain rfl := Option.some.inj hi
        have s31 : A.tmps.getD 31 undef = .bool true := hold 31 (by kernel_rfl)
        have s36 : A.tmps.getD 36 undef = .bool false := hdeps 31 (by decide) (by decide)
        exact q_pure hi rfl rfl (y_pickT _ _ _ s31 s36)
       ·obtain rfl := Option.some.inj hi
        have s37 : A.tmps.getD 37 undef = .bool false := hdeps 32 (by decide) (by decide)
        exact q_pure hi rfl rfl (y_move _ s37)
      ·simp only [putAll, Act.put, List.setIfInBounds_toArray, List.set_cons_succ, List.set_cons_zero]
       clear E4 HX HY HM HK CW CT
       go_wp2_with fail
       rw [hK2.out]
       go_wp2_with fail
       go_ret
       exact ⟨by rw [HE.out]; rfl, HA.out⟩
     have E4 : Hid ((binOp .eql 77 (.int .u64 (m.mem : Int)) (.int .u64 (k.mem : Int))).run Tryz.prog w2 = .ok (.bool true) w2) := hide (by rw [eql_u64_11 _ _ w2, decide_eq_true h4])
     refine seq_vals _ _ 27 7 [(32, .pointer (some ⟨w.heap.size, 7, none⟩)), (33, .int .u64 (m.mem : Int)), (34, .pointer (some ⟨w.heap.size + 1, 7, none⟩)), (35, .int .u64 (k.mem : Int)), (36, .bool true), (37, .bool true), (38, .bool true)] (by kernel_rfl) rfl ?_ ?_
     ·intro i o hi h1 h2 A hold hdeps
      have hc : i = 27 ∨ i = 28 ∨ i = 29 ∨ i = 30 ∨ i = 31 ∨ i = 32 ∨ i = 33 := by omega
      clear h1 h2
      rcases hc with rfl | rfl | rfl | rfl | rfl | rfl | rfl
      ·obtain rfl := Option.some.inj hi
       have g27 : A.tmps.getD 31 undef = .bool true := hold 31 (by kernel_rfl)
       have s2 : A.tmps.getD 2 undef = .pointer (some ⟨w.heap.size, 0, none⟩) := hold 2 (by kernel_rfl)
       exact q_pure hi (wanted_of rfl rfl g27) rfl (y_fldS4 _ s2)
      ·obtain rfl := Option.some.inj hi
       have g28 : A.tmps.getD 31 undef = .bool true := hold 31 (by kernel_rfl)
       have s32 : A.tmps.getD 32 undef = .pointer (some ⟨w.heap.size, 7, none⟩) := hdeps 27 (by decide) (by decide)
       exact q_pure hi (wanted_of rfl rfl g28) rfl (y_cell_u64 _ s32 (HX.out.cell 7 _ rfl))
      ·obtain rfl := Option.some.inj hi
       have g29 : A.tmps.getD 31 undef = .bool true := hold 31 (by kernel_rfl)
       have s3 : A.tmps.getD 3 undef = .pointer (some ⟨w.heap.size + 1, 0, none⟩) := hold 3 (by kernel_rfl)
       exact q_pure hi (wanted_of rfl rfl g29) rfl (y_fldS4 _ s3)
      ·obtain rfl := Option.some.inj hi
       have g30 : A.tmps.getD 31 undef = .bool true := hold 31 (by kernel_rfl)
       have s34 : A.tmps.getD 34 undef = .pointer (some ⟨w.heap.size + 1, 7, none⟩) := hdeps 29 (by decide) (by decide)
       exact q_pure hi (wanted_of rfl rfl g30) rfl (y_cell_u64 _ s34 (HY.out.cell 7 _ rfl))
      ·obtain rfl := Option.some.inj hi
       have g31 : A.tmps.getD 31 undef = .bool true := hold 31 (by kernel_rfl)
       have s33 : A.tmps.getD 33 undef = .int .u64 (m.mem : Int) := hdeps 28 (by decide) (by decide)
       have s35 : A.tmps.getD 35 undef = .int .u64 (k.mem : Int) := hdeps 30 (by decide) (by decide)
       exact q_pure hi (wanted_of rfl rfl g31) rfl (y_bin _ _ _ _ _ s33 s35 E4.out (by kernel_rfl))
      ·obtain rfl := Option.some.inj hi
       have s31 : A.tmps.getD 31 undef = .bool true := hold 31 (by kernel_rfl)
       have s36 : A.tmps.getD 36 undef = .bool true := hdeps 31 (by decide) (by decide)
       exact q_pure hi rfl rfl (y_pickT _ _ _ s31 s36)
      ·obtain rfl := Option.some.inj hi
       have s37 : A.tmps.getD 37 undef = .bool true := hdeps 32 (by decide) (by decide)
       exact q_pure hi rfl rfl (y_move _ s37)
     ·simp only [putAll, Act.put, List.setIfInBounds_toArray, List.set_cons_succ, List.set_cons_zero]
      clear E4
      by_cases h5 : m.wr = k.wr
      rotate_left
      ·have HE : Hid (R = false) := hide (by rw [HR.out]; exact decide_eq_false (fun e => h5 (by rw [e])))
       rw [decide_eq_false h5] at CW
       refine seq_vals _ _ 34 4 [(39, .pointer (some ⟨w.heap.size, 8, none⟩)), (40, .slice a1 l1 c1), (41, .pointer (some ⟨w.heap.size + 1, 8, none⟩)), (42, .slice a2 l2 c2)] (by kernel_rfl) rfl ?_ ?_
       ·intro i o hi h1 h2 A hold hdeps
        have hc : i = 34 ∨ i = 35 ∨ i = 36 ∨ i = 37 := by omega
        clear h1 h2
        rcases hc with rfl | rfl | rfl | rfl
        ·obtain rfl := Option.some.inj hi
         have g34 : A.tmps.getD 38 undef = .bool true := hold 38 (by kernel_rfl)
         have s2 : A.tmps.getD 2 undef = .pointer (some ⟨w.heap.size, 0, none⟩) := hold 2 (by kernel_rfl)
         exact q_pure hi (wanted_of rfl rfl g34) rfl (y_fldS5 _ s2)
        ·obtain rfl := Option.some.inj hi
         have g35 : A.tmps.getD 38 undef = .bool true := hold 38 (by kernel_rfl)
         have s39 : A.tmps.getD 39 undef = .pointer (some ⟨w.heap.size, 8, none⟩) := hdeps 34 (by decide) (by decide)
         exact q_pure hi (wanted_of rfl rfl g35) rfl (y_cell_awrites _ s39 (HX.out.cell 8 _ rfl))
        ·obtain rfl := Option.some.inj hi
         have g36 : A.tmps.getD 38 undef = .bool true := hold 38 (by kernel_rfl)
         have s3 : A.tmps.getD 3 undef = .pointer (some ⟨w.heap.size + 1, 0, none⟩) := hold 3 (by kernel_rfl)
         exact q_pure hi (wanted_of rfl rfl g36) rfl (y_fldS5 _ s3)
        ·obtain rfl := Option.some.inj hi
         have g37 : A.tmps.getD 38 undef = .bool true := hold 38 (by kernel_rfl)
         have s41 : A.tmps.getD 41 undef = .pointer (some ⟨w.heap.size + 1, 8, none⟩) := hdeps 36 (by decide) (by decide)
         exact q_pure hi (wanted_of rfl rfl g37) rfl (y_cell_awrites _ s41 (HY.out.cell 8 _ rfl))
       ·simp only [putAll, Act.put, List.setIfInBounds_toArray, List.set_cons_succ, List.set_cons_zero]
        go_wp2_with fail
        refine CW.out.mono ?_
        rintro e w3 ⟨rfl, hBw3⟩
        have HBw3 : Hid (Below w2.heap.size w2 w3) := hide hBw3
        clear hBw3
        clear HX HY HM HK CW CT
        go_wp2_with fail
        rw [hK2.out]
        go_wp2_with fail
        go_ret
        exact ⟨by rw [HE.out]; rfl, HA.out.trans (HBw3.out.mono HA.out.size)⟩
      rw [decide_eq_true h5] at CW
      refine seq_vals _ _ 34 4 [(39, .pointer (some ⟨w.heap.size, 8, none⟩)), (40, .slice a1 l1 c1), (41, .pointer (some ⟨w.heap.size + 1, 8, none⟩)), (42, .slice a2 l2 c2)] (by kernel_rfl) rfl ?_ ?_
      ·intro i o hi h1 h2 A hold hdeps
       have hc : i = 34 ∨ i = 35 ∨ i = 36 ∨ i = 37 := by omega
       clear h1 h2
       rcases hc with rfl | rfl | rfl | rfl
       ·obtain rfl := Option.some.inj hi
        have g34 : A.tmps.getD 38 undef = .bool true := hold 38 (by kernel_rfl)
        have s2 : A.tmps.getD 2 undef = .pointer (some ⟨w.heap.size, 0, none⟩) := hold 2 (by kernel_rfl)
        exact q_pure hi (wanted_of rfl rfl g34) rfl (y_fldS5 _ s2)
       ·obtain rfl := Option.some.inj hi
        have g35 : A.tmps.getD 38 undef = .bool true := hold 38 (by kernel_rfl)
        have s39 : A.tmps.getD 39 undef = .pointer (some ⟨w.heap.size, 8, none⟩) := hdeps 34 (by decide) (by decide)
        exact q_pure hi (wanted_of rfl rfl g35) rfl (y_cell_awrites _ s39 (HX.out.cell 8 _ rfl))
       ·obtain rfl := Option.some.inj hi
        have g36 : A.tmps.getD 38 undef = .bool true := hold 38 (by kernel_rfl)
        have s3 : A.tmps.getD 3 undef = .pointer (some ⟨w.heap.size + 1, 0, none⟩) := hold 3 (by kernel_rfl)
        exact q_pure hi (wanted_of rfl rfl g36) rfl (y_fldS5 _ s3)
       ·obtain rfl := Option.some.inj hi
        have g37 : A.tmps.getD 38 undef = .bool true := hold 38 (by kernel_rfl)
        have s41 : A.tmps.getD 41 undef = .pointer (some ⟨w.heap.size + 1, 8, none⟩) := hdeps 36 (by decide) (by decide)
        exact q_pure hi (wanted_of rfl rfl g37) rfl (y_cell_awrites _ s41 (HY.out.cell 8 _ rfl))
      ·simp only [putAll, Act.put, List.setIfInBounds_toArray, List.set_cons_succ, List.set_cons_zero]
       go_wp2_with fail
       refine CW.out.mono ?_
       rintro e w3 ⟨rfl, hBw3⟩
       have HBw3 : Hid (Below w2.heap.size w2 w3) := hide hBw3
       clear hBw3
       rename_i XK hXK; refine hXK _ _ ?_; clear hXK XK
       refine seq_vals _ _ 39 2 [(44, .bool true), (45, .bool true)] (by kernel_rfl) rfl ?_ ?_
       ·intro i o hi h1 h2 A hold hdeps
        have hc : i = 39 ∨ i = 40 := by omega
        clear h1 h2
        rcases hc with rfl | rfl
        ·obtain rfl := Option.some.inj hi
         have s38 : A.tmps.getD 38 undef = .bool true := hold 38 (by kernel_rfl)
         have s43 : A.tmps.getD 43 undef = .bool true := hold 43 (by kernel_rfl)
         exact q_pure hi rfl rfl (y_pickT _ _ _ s38 s43)
        ·obtain rfl := Option.some.inj hi
         have s44 : A.tmps.getD 44 undef = .bool true := hdeps 39 (by decide) (by decide)
         exact q_pure hi rfl rfl (y_move _ s44)
       ·simp only [putAll, Act.put, List.setIfInBounds_toArray, List.set_cons_succ, List.set_cons_zero]
        by_cases h6 : m.mis = k.mis
        rotate_left
        ·have HE : Hid (R = false) := hide (by rw [HR.out]; exact decide_eq_false (fun e => h6 (by rw [e])))
         have CTF := CT.out w3 HBw3.out
         rw [decide_eq_false (fun e => h6 (misI_inj e))] at CTF
         refine seq_vals _ _ 41 4 [(46, .pointer (some ⟨w.heap.size, 9, none⟩)), (47, .slice b1 n1 d1), (48, .pointer (some ⟨w.heap.size + 1, 9, none⟩)), (49, .slice b2 n2 d2)] (by kernel_rfl) rfl ?_ ?_
         ·intro i o hi h1 h2 A hold hdeps
          have hc : i = 41 ∨ i = 42 ∨ i = 43 ∨ i = 44 := by omega
          clear h1 h2
          rcases hc with rfl | rfl | rfl | rfl
          ·obtain rfl := Option.some.inj hi
           have g41 : A.tmps.getD 45 undef = .bool true := hold 45 (by kernel_rfl)
           have s2 : A.tmps.getD 2 undef = .pointer (some ⟨w.heap.size, 0, none⟩) := hold 2 (by kernel_rfl)
           exact q_pure hi (wanted_of rfl rfl g41) rfl (y_fldS6 _ s2)
          ·obtain rfl := Option.some.inj hi
           have g42 : A.tmps.getD 45 undef = .bool true := hold 45 (by kernel_rfl)
           have s46 : A.tmps.getD 46 undef = .pointer (some ⟨w.heap.size, 9, none⟩) := hdeps 41 (by decide) (by decide)
           exact q_pure hi (wanted_of rfl rfl g42) rfl (y_cell_u64s _ s46 ((HX.out.belowI HBw3.out).cell 9 _ rfl))
          ·obtain rfl := Option.some.inj hi
           have g43 : A.tmps.getD 45 undef = .bool true := hold 45 (by kernel_rfl)
           have s3 : A.tmps.getD 3 undef = .pointer (some ⟨w.heap.size + 1, 0, none⟩) := hold 3 (by kernel_rfl)
           exact q_pure hi (wanted_of rfl rfl g43) rfl (y_fldS6 _ s3)
          ·obtain rfl := Option.some.inj hi
           have g44 : A.tmps.getD 45 undef = .bool true := hold 45 (by kernel_rfl)
           have s48 : A.tmps.getD 48 undef = .pointer (some ⟨w.heap.size + 1, 9, none⟩) := hdeps 43 (by decide) (by decide)
           exact q_pure hi (wanted_of rfl rfl g44) rfl (y_cell_u64s _ s48 ((HY.out.belowI HBw3.out).cell 9 _ rfl))
         ·simp only [putAll, Act.put, List.setIfInBounds_toArray, List.set_cons_succ, List.set_cons_zero]
          go_wp2_with fail
          refine CTF.mono ?_
          rintro e w4 ⟨rfl, hBw4⟩
          have HBw4 : Hid (Below w2.heap.size w2 w4) := hide (HBw3.out.trans (hBw4.mono HBw3.out.size))
          clear hBw4
          clear HX HY HM HK CW CT
          go_wp2_with fail
          rw [hK2.out]
          go_wp2_with fail
          go_ret
          exact ⟨by rw [HE.out]; rfl, HA.out.trans (HBw4.out.mono HA.out.size)⟩
        have CTF := CT.out w3 HBw3.out
        rw [decide_eq_true (by rw [h6])] at CTF
        refine seq_vals _ _ 41 4 [(46, .pointer (some ⟨w.heap.size, 9, none⟩)), (47, .slice b1 n1 d1), (48, .pointer (some ⟨w.heap.size + 1, 9, none⟩)), (49, .slice b2 n2 d2)] (by kernel_rfl) rfl ?_ ?_
        ·intro i o hi h1 h2 A hold hdeps
         have hc : i = 41 ∨ i = 42 ∨ i = 43 ∨ i = 44 := by omega
         clear h1 h2
         rcases hc with rfl | rfl | rfl | rfl
         ·obtain rfl := Option.some.inj hi
          have g41 : A.tmps.getD 45 undef = .bool true := hold 45 (by kernel_rfl)
          have s2 : A.tmps.getD 2 undef = .pointer (some ⟨w.heap.size, 0, none⟩) := hold 2 (by kernel_rfl)
          exact q_pure hi (wanted_of rfl rfl g41) rfl (y_fldS6 _ s2)
         ·obtain rfl := Option.some.inj hi
          have g42 : A.tmps.getD 45 undef = .bool true := hold 45 (by kernel_rfl)
          have s46 : A.tmps.getD 46 undef = .pointer (some ⟨w.heap.size, 9, none⟩) := hdeps 41 (by decide) (by decide)
          exact q_pure hi (wanted_of rfl rfl g42) rfl (y_cell_u64s _ s46 ((HX.out.belowI HBw3.out).cell 9 _ rfl))
         ·obtain rfl := Option.some.inj hi
          have g43 : A.tmps.getD 45 undef = .bool true := hold 45 (by kernel_rfl)
          have s3 : A.tmps.getD 3 undef = .pointer (some ⟨w.heap.size + 1, 0, none⟩) := hold 3 (by kernel_rfl)
          exact q_pure hi (wanted_of rfl rfl g43) rfl (y_fldS6 _ s3)
         ·obtain rfl := Option.some.inj hi
          have g44 : A.tmps.getD 45 undef = .bool true := hold 45 (by kernel_rfl)
          have s48 : A.tmps.getD 48 undef = .pointer (some ⟨w.heap.size + 1, 9, none⟩) := hdeps 43 (by decide) (by decide)
          exact q_pure hi (wanted_of rfl rfl g44) rfl (y_cell_u64s _ s48 ((HY.out.belowI HBw3.out).cell 9 _ rfl))
        ·simp only [putAll, Act.put, List.setIfInBounds_toArray, List.set_cons_succ, List.set_cons_zero]
         go_wp2_with fail
         refine CTF.mono ?_
         rintro e w4 ⟨rfl, hBw4⟩
         have HBw4 : Hid (Below w2.heap.size w2 w4) := hide (HBw3.out.trans (hBw4.mono HBw3.out.size))
         clear hBw4
         rename_i XK hXK; refine hXK _ _ ?_; clear hXK XK
         refine seq_vals _ _ 46 2 [(51, .bool true), (52, .bool true)] (by kernel_rfl) rfl ?_ ?_
         ·intro i o hi h1 h2 A hold hdeps
          have hc : i = 46 ∨ i = 47 := by omega
          clear h1 h2
          rcases hc with rfl | rfl
          ·obtain rfl := Option.some.inj hi
           have s45 : A.tmps.getD 45 undef = .bool true := hold 45 (by kernel_rfl)
           have s50 : A.tmps.getD 50 undef = .bool true := hold 50 (by kernel_rfl)
           exact q_pure hi rfl rfl (y_pickT _ _ _ s45 s50)
          ·obtain rfl := Option.some.inj hi
           have s51 : A.tmps.getD 51 undef = .bool true := hdeps 46 (by decide) (by decide)
           exact q_pure hi rfl rfl (y_move _ s51)
         ·simp only [putAll, Act.put, List.setIfInBounds_toArray, List.set_cons_succ, List.set_cons_zero]
          by_cases h7 : m.key = k.key
          rotate_left
          ·have HE : Hid (R = false) := hide (by rw [HR.out]; exact decide_eq_false (fun e => h7 (by rw [e])))
           have E7 : Hid ((binOp .eql 81 (.agg (eightA m.key)) (.agg (eightA k.key))).run Tryz.prog w4 = .ok (.bool false) w4) := hide (by rw [eql_key10 HM.out.key.l HK.out.key.l w4, decide_eq_false h7])
           refine seq_vals _ _ 48 7 [(53, .pointer (some ⟨w.heap.size, 10, none⟩)), (54, .agg (eightA m.key)), (55, .pointer (some ⟨w.heap.size + 1, 10, none⟩)), (56, .agg (eightA k.key)), (57, .bool false), (58, .bool false), (59, .bool false)] (by kernel_rfl) rfl ?_ ?_
           ·intro i o hi h1 h2 A hold hdeps
            have hc : i = 48 ∨ i = 49 ∨ i = 50 ∨ i = 51 ∨ i = 52 ∨ i = 53 ∨ i = 54 := by omega
            clear h1 h2
            rcases hc with rfl | rfl | rfl | rfl | rfl | rfl | rfl
            ·obtain rfl := Option.some.inj hi
             have g48 : A.tmps.getD 52 undef = .bool true := hold 52 (by kernel_rfl)
             have s2 : A.tmps.getD 2 undef = .pointer (some ⟨w.heap.size, 0, none⟩) := hold 2 (by kernel_rfl)
             exact q_pure hi (wanted_of rfl rfl g48) rfl (y_fldS7 _ s2)
            ·obtain rfl := Option.some.inj hi
             have g49 : A.tmps.getD 52 undef = .bool true := hold 52 (by kernel_rfl)
             have s53 : A.tmps.getD 53 undef = .pointer (some ⟨w.heap.size, 10, none⟩) := hdeps 48 (by decide) (by decide)
             exact q_pure hi (wanted_of rfl rfl g49) rfl (y_loadMid _ _ s53 (rec_key (HX.out.belowI HBw4.out)) Tryz.underlying81 rfl infoKey10)
            ·obtain rfl := Option.some.inj hi
             have g50 : A.tmps.getD 52 undef = .bool true := hold 52 (by kernel_rfl)
             have s3 : A.tmps.getD 3 undef = .pointer (some ⟨w.heap.size + 1, 0, none⟩) := hold 3 (by kernel_rfl)
             exact q_pure hi (wanted_of rfl rfl g50) rfl (y_fldS7 _ s3)
            ·obtain rfl := Option.some.inj hi
             have g51 : A.tmps.getD 52 undef = .bool true := hold 52 (by kernel_rfl)
             have s55 : A.tmps.getD 55 undef = .pointer (some ⟨w.heap.size + 1, 10, none⟩) := hdeps 50 (by decide) (by decide)
             exact q_pure hi (wanted_of rfl rfl g51) rfl (y_loadMid _ _ s55 (rec_key (HY.out.belowI HBw4.out)) Tryz.underlying81 rfl infoKey10)
            ·obtain rfl := Option.some.inj hi
             have g52 : A.tmps.getD 52 undef = .bool true := hold 52 (by kernel_rfl)
             have s54 : A.tmps.getD 54 undef = .agg (eightA m.key) := hdeps 49 (by decide) (by decide)
             have s56 : A.tmps.getD 56 undef = .agg (eightA k.key) := hdeps 51 (by decide) (by decide)
             exact q_pure hi (wanted_of rfl rfl g52) rfl (y_bin _ _ _ _ _ s54 s56 E7.out (by kernel_rfl))
            ·obtain rfl := Option.some.inj hi
             have s52 : A.tmps.getD 52 undef = .bool true := hold 52 (by kernel_rfl)
             have s57 : A.tmps.getD 57 undef = .bool false := hdeps 52 (by decide) (by decide)
             exact q_pure hi rfl rfl (y_pickT _ _ _ s52 s57)
            ·obtain rfl := Option.some.inj hi
             have s58 : A.tmps.getD 58 undef = .bool false := hdeps 53 (by decide) (by decide)
             exact q_pure hi rfl rfl (y_move _ s58)
           ·simp only [putAll, Act.put, List.setIfInBounds_toArray, List.set_cons_succ, List.set_cons_zero]
            clear E7 HX HY HM HK CW CT
            go_wp2_with fail
            rw [hK2.out]
            go_wp2_with fail
            go_ret
            exact ⟨by rw [HE.out]; rfl, HA.out.trans (HBw4.out.mono HA.out.size)⟩
          have E7 : Hid ((binOp .eql 81 (.agg (eightA m.key)) (.agg (eightA k.key))).run Tryz.prog w4 = .ok (.bool true) w4) := hide (by rw [eql_key10 HM.out.key.l HK.out.key.l w4, decide_eq_true h7])
          refine seq_vals _ _ 48 7 [(53, .pointer (some ⟨w.heap.size, 10, none⟩)), (54, .agg (eightA m.key)), (55, .pointer (some ⟨w.heap.size + 1, 10, none⟩)), (56, .agg (eightA k.key)), (57, .bool true), (58, .bool true), (59, .bool true)] (by kernel_rfl) rfl ?_ ?_
          ·intro i o hi h1 h2 A hold hdeps
           have hc : i = 48 ∨ i = 49 ∨ i = 50 ∨ i = 51 ∨ i = 52 ∨ i = 53 ∨ i = 54 := by omega
           clear h1 h2
           rcases hc with rfl | rfl | rfl | rfl | rfl | rfl | rfl
           ·obtain rfl := Option.some.inj hi
            have g48 : A.tmps.getD 52 undef = .bool true := hold 52 (by kernel_rfl)
            have s2 : A.tmps.getD 2 undef = .pointer (some ⟨w.heap.size, 0, none⟩) := hold 2 (by kernel_rfl)
            exact q_pure hi (wanted_of rfl rfl g48) rfl (y_fldS7 _ s2)
           ·obtain rfl := Option.some.inj hi
            have g49 : A.tmps.getD 52 undef = .bool true := hold 52 (by kernel_rfl)
            have s53 : A.tmps.getD 53 undef = .pointer (some ⟨w.heap.size, 10, none⟩) := hdeps 48 (by decide) (by decide)
            exact q_pure hi (wanted_of rfl rfl g49) rfl (y_loadMid _ _ s53 (rec_key (HX.out.belowI HBw4.out)) Tryz.underlying81 rfl infoKey10)
           ·obtain rfl := Option.some.inj hi
            have g50 : A.tmps.getD 52 undef = .bool true := hold 52 (by kernel_rfl)
            have s3 : A.tmps.getD 3 undef = .pointer (some ⟨w.heap.size + 1, 0, none⟩) := hold 3 (by kernel_rfl)
            exact q_pure hi (wanted_of rfl rfl g50) rfl (y_fldS7 _ s3)
           ·obtain rfl := Option.some.inj hi
            have g51 : A.tmps.getD 52 undef = .bool true := hold 52 (by kernel_rfl)
            have s55 : A.tmps.getD 55 undef = .pointer (some ⟨w.heap.size + 1, 10, none⟩) := hdeps 50 (by decide) (by decide)
            exact q_pure hi (wanted_of rfl rfl g51) rfl (y_loadMid _ _ s55 (rec_key (HY.out.belowI HBw4.out)) Tryz.underlying81 rfl infoKey10)
           ·obtain rfl := Option.some.inj hi
            have g52 : A.tmps.getD 52 undef = .bool true := hold 52 (by kernel_rfl)
            have s54 : A.tmps.getD 54 undef = .agg (eightA m.key) := hdeps 49 (by decide) (by decide)
            have s56 : A.tmps.getD 56 undef = .agg (eightA k.key) := hdeps 51 (by decide) (by decide)
            exact q_pure hi (wanted_of rfl rfl g52) rfl (y_bin _ _ _ _ _ s54 s56 E7.out (by kernel_rfl))
           ·obtain rfl := Option.some.inj hi
            have s52 : A.tmps.getD 52 undef = .bool true := hold 52 (by kernel_rfl)
            have s57 : A.tmps.getD 57 undef = .bool true := hdeps 52 (by decide) (by decide)
            exact q_pure hi rfl rfl (y_pickT _ _ _ s52 s57)
           ·obtain rfl := Option.some.inj hi
            have s58 : A.tmps.getD 58 undef = .bool true := hdeps 53 (by decide) (by decide)
            exact q_pure hi rfl rfl (y_move _ s58)
          ·simp only [putAll, Act.put, List.setIfInBounds_toArray, List.set_cons_succ, List.set_cons_zero]
           clear E7
           by_cases h8 : m.item = k.item
           rotate_left
           ·have HE : Hid (R = false) := hide (by rw [HR.out]; exact decide_eq_false (fun e => h8 (by rw [e])))
            have E8 : Hid ((binOp .eql 85 (.agg (itA m.item)) (.agg (itA k.item))).run Tryz.prog w4 = .ok (.bool false) w4) := hide (by rw [eql_it10 HM.out.item HK.out.item w4, decide_eq_false h8])
            refine seq_vals _ _ 55 6 [(60, .pointer (some ⟨w.heap.size, 18, none⟩)), (61, .agg (itA m.item)), (62, .pointer (some ⟨w.heap.size + 1, 18, none⟩)), (63, .agg (itA k.item)), (64, .bool false), (65, .bool false)] (by kernel_rfl) rfl ?_ ?_
            ·intro i o hi h1 h2 A hold hdeps
             have hc : i = 55 ∨ i = 56 ∨ i = 57 ∨ i = 58 ∨ i = 59 ∨ i = 60 := by omega
             clear h1 h2
             rcases hc with rfl | rfl | rfl | rfl | rfl | rfl
             ·obtain rfl := Option.some.inj hi
              have g55 : A.tmps.getD 59 undef = .bool true := hold 59 (by kernel_rfl)
              have s2 : A.tmps.getD 2 undef = .pointer (some ⟨w.heap.size, 0, none⟩) := hold 2 (by kernel_rfl)
              exact q_pure hi (wanted_of rfl rfl g55) rfl (y_fldS8 _ s2)
             ·obtain rfl := Option.some.inj hi
              have g56 : A.tmps.getD 59 undef = .bool true := hold 59 (by kernel_rfl)
              have s60 : A.tmps.getD 60 undef = .pointer (some ⟨w.heap.size, 18, none⟩) := hdeps 55 (by decide) (by decide)
              exact q_pure hi (wanted_of rfl rfl g56) rfl (y_loadMid _ _ s60 (rec_item (HX.out.belowI HBw4.out)) Tryz.underlying85 rfl infoItem)
             ·obtain rfl := Option.some.inj hi
              have g57 : A.tmps.getD 59 undef = .bool true := hold 59 (by kernel_rfl)
              have s3 : A.tmps.getD 3 undef = .pointer (some ⟨w.heap.size + 1, 0, none⟩) := hold 3 (by kernel_rfl)
              exact q_pure hi (wanted_of rfl rfl g57) rfl (y_fldS8 _ s3)
             ·obtain rfl := Option.some.inj hi
              have g58 : A.tmps.getD 59 undef = .bool true := hold 59 (by kernel_rfl)
              have s62 : A.tmps.getD 62 undef = .pointer (some ⟨w.heap.size + 1, 18, none⟩) := hdeps 57 (by decide) (by decide)
              exact q_pure hi (wanted_of rfl rfl g58) rfl (y_loadMid _ _ s62 (rec_item (HY.out.belowI HBw4.out)) Tryz.underlying85 rfl infoItem)
             ·obtain rfl := Option.some.inj hi
              have g59 : A.tmps.getD 59 undef = .bool true := hold 59 (by kernel_rfl)
              have s61 : A.tmps.getD 61 undef = .agg (itA m.item) := hdeps 56 (by decide) (by decide)
              have s63 : A.tmps.getD 63 undef = .agg (itA k.item) := hdeps 58 (by decide) (by decide)
              exact q_pure hi (wanted_of rfl rfl g59) rfl (y_bin _ _ _ _ _ s61 s63 E8.out (by kernel_rfl))
             ·obtain rfl := Option.some.inj hi
              have s59 : A.tmps.getD 59 undef = .bool true := hold 59 (by kernel_rfl)
              have s64 : A.tmps.getD 64 undef = .bool false := hdeps 59 (by decide) (by decide)
              exact q_pure hi rfl rfl (y_pickT _ _ _ s59 s64)
            ·simp only [putAll, Act.put, List.setIfInBounds_toArray, List.set_cons_succ, List.set_cons_zero]
             clear E8 HX HY HM HK CW CT
             go_wp2_with fail
             rw [hK2.out]
             go_wp2_with fail
             go_ret
             exact ⟨by rw [HE.out]; rfl, HA.out.trans (HBw4.out.mono HA.out.size)⟩
           have E8 : Hid ((binOp .eql 85 (.agg (itA m.item)) (.agg (itA k.item))).run Tryz.prog w4 = .ok (.bool true) w4) := hide (by rw [eql_it10 HM.out.item HK.out.item w4, decide_eq_true h8])
           refine seq_vals _ _ 55 6 [(60, .pointer (some ⟨w.heap.size, 18, none⟩)), (61, .agg (itA m.item)), (62, .pointer (some ⟨w.heap.size + 1, 18, none⟩)), (63, .agg (itA k.item)), (64, .bool true), (65, .bool true)] (by kernel_rfl) rfl ?_ ?_
           ·intro i o hi h1 h2 A hold hdeps
            have hc : i = 55 ∨ i = 56 ∨ i = 57 ∨ i = 58 ∨ i = 59 ∨ i = 60 := by omega
            clear h1 h2
            rcases hc with rfl | rfl | rfl | rfl | rfl | rfl
            ·obtain rfl := Option.some.inj hi
             have g55 : A.tmps.getD 59 undef = .bool true := hold 59 (by kernel_rfl)
             have s2 : A.tmps.getD 2 undef = .pointer (some ⟨w.heap.size, 0, none⟩) := hold 2 (by kernel_rfl)
             exact q_pure hi (wanted_of rfl rfl g55) rfl (y_fldS8 _ s2)
            ·obtain rfl := Option.some.inj hi
             have g56 : A.tmps.getD 59 undef = .bool true := hold 59 (by kernel_rfl)
             have s60 : A.tmps.getD 60 undef = .pointer (some ⟨w.heap.size, 18, none⟩) := hdeps 55 (by decide) (by decide)
             exact q_pure hi (wanted_of rfl rfl g56) rfl (y_loadMid _ _ s60 (rec_item (HX.out.belowI HBw4.out)) Tryz.underlying85 rfl infoItem)
            ·obtain rfl := Option.some.inj hi
             have g57 : A.tmps.getD 59 undef = .bool true := hold 59 (by kernel_rfl)
             have s3 : A.tmps.getD 3 undef = .pointer (some ⟨w.heap.size + 1, 0, none⟩) := hold 3 (by kernel_rfl)
             exact q_pure hi (wanted_of rfl rfl g57) rfl (y_fldS8 _ s3)
            ·obtain rfl := Option.some.inj hi
             have g58 : A.tmps.getD 59 undef = .bool true := hold 59 (by kernel_rfl)
             have s62 : A.tmps.getD 62 undef = .pointer (some ⟨w.heap.size + 1, 18, none⟩) := hdeps 57 (by decide) (by decide)
             exact q_pure hi (wanted_of rfl rfl g58) rfl (y_loadMid _ _ s62 (rec_item (HY.out.belowI HBw4.out)) Tryz.underlying85 rfl infoItem)
            ·obtain rfl := Option.some.inj hi
             have g59 : A.tmps.getD 59 undef = .bool true := hold 59 (by kernel_rfl)
             have s61 : A.tmps.getD 61 undef = .agg (itA m.item) := hdeps 56 (by decide) (by decide)
             have s63 : A.tmps.getD 63 undef = .agg (itA k.item) := hdeps 58 (by decide) (by decide)
             exact q_pure hi (wanted_of rfl rfl g59) rfl (y_bin _ _ _ _ _ s61 s63 E8.out (by kernel_rfl))
            ·obtain rfl := Option.some.inj hi
             have s59 : A.tmps.getD 59 undef = .bool true := hold 59 (by kernel_rfl)
             have s64 : A.tmps.getD 64 undef = .bool true := hdeps 59 (by decide) (by decide)
             exact q_pure hi rfl rfl (y_pickT _ _ _ s59 s64)
           ·simp only [putAll, Act.put, List.setIfInBounds_toArray, List.set_cons_succ, List.set_cons_zero]
            have HE : Hid (R = true) := hide (by rw [HR.out]; exact decide_eq_true (rsame_tail h0 h1 h2 h3 h4 h5 h6 h7 h8))
            clear E8 HX HY HM HK CW CT
            go_wp2_with fail
            rw [hK2.out]
            go_wp2_with fail
            go_ret
            exact ⟨by rw [HE.out]; rfl, HA.out.trans (HBw4.out.mono HA.out.size)⟩
end
end Go.Proofs.YtlegliimgjmphaaGreat
