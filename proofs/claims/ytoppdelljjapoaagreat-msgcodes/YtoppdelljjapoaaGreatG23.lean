/-
  Own texts put together: MgR3. Own work.
-/
import Derived.Test.YtoppdelljjapoaaGreatG21
import Derived.Test.YtoppdelljjapoaaGreatG22
namespace Go.Proofs.YtoppdelljjapoaaGreat
section
open Go.RowKit Classical

section
variable {ρ : Operand → Value} {w : World} {dst : Option Tmp} {ty : TypeId} {pos : String} {aft : Array Edge} {gd : Option (Nat × Bool)}
theorem y_fldM0 (x : Operand) {q : Nat} (hx : ρ x = .pointer (some ⟨q, 0, none⟩)) : (execOp ρ ⟨dst, .fieldAddr 35 x 0, ty, pos, aft, gd⟩).run Tryz.prog w = .ok (.value (.pointer (some ⟨q, 0, none⟩))) w := by simp [go_sem, hx]
theorem y_fldM1 (x : Operand) {q : Nat} (hx : ρ x = .pointer (some ⟨q, 0, none⟩)) : (execOp ρ ⟨dst, .fieldAddr 35 x 1, ty, pos, aft, gd⟩).run Tryz.prog w = .ok (.value (.pointer (some ⟨q, 1, none⟩))) w := by simp [go_sem, hx]
theorem y_fldM2 (x : Operand) {q : Nat} (hx : ρ x = .pointer (some ⟨q, 0, none⟩)) : (execOp ρ ⟨dst, .fieldAddr 35 x 2, ty, pos, aft, gd⟩).run Tryz.prog w = .ok (.value (.pointer (some ⟨q, 4, none⟩))) w := by simp [go_sem, hx]
theorem y_fldM3 (x : Operand) {q : Nat} (hx : ρ x = .pointer (some ⟨q, 0, none⟩)) : (execOp ρ ⟨dst, .fieldAddr 35 x 3, ty, pos, aft, gd⟩).run Tryz.prog w = .ok (.value (.pointer (some ⟨q, 5, none⟩))) w := by simp [go_sem, hx]
theorem y_fldM4 (x : Operand) {q : Nat} (hx : ρ x = .pointer (some ⟨q, 0, none⟩)) : (execOp ρ ⟨dst, .fieldAddr 35 x 4, ty, pos, aft, gd⟩).run Tryz.prog w = .ok (.value (.pointer (some ⟨q, 7, none⟩))) w := by simp [go_sem, hx]
theorem y_fldM5 (x : Operand) {q : Nat} (hx : ρ x = .pointer (some ⟨q, 0, none⟩)) : (execOp ρ ⟨dst, .fieldAddr 35 x 5, ty, pos, aft, gd⟩).run Tryz.prog w = .ok (.value (.pointer (some ⟨q, 15, none⟩))) w := by simp [go_sem, hx]
theorem y_fldM6 (x : Operand) {q : Nat} (hx : ρ x = .pointer (some ⟨q, 0, none⟩)) : (execOp ρ ⟨dst, .fieldAddr 35 x 6, ty, pos, aft, gd⟩).run Tryz.prog w = .ok (.value (.pointer (some ⟨q, 16, none⟩))) w := by simp [go_sem, hx]
theorem y_fldM7 (x : Operand) {q : Nat} (hx : ρ x = .pointer (some ⟨q, 0, none⟩)) : (execOp ρ ⟨dst, .fieldAddr 35 x 7, ty, pos, aft, gd⟩).run Tryz.prog w = .ok (.value (.pointer (some ⟨q, 17, none⟩))) w := by simp [go_sem, hx]
theorem y_fldM8 (x : Operand) {q : Nat} (hx : ρ x = .pointer (some ⟨q, 0, none⟩)) : (execOp ρ ⟨dst, .fieldAddr 35 x 8, ty, pos, aft, gd⟩).run Tryz.prog w = .ok (.value (.pointer (some ⟨q, 18, none⟩))) w := by simp [go_sem, hx]
theorem y_fldM9 (x : Operand) {q : Nat} (hx : ρ x = .pointer (some ⟨q, 0, none⟩)) : (execOp ρ ⟨dst, .fieldAddr 35 x 9, ty, pos, aft, gd⟩).run Tryz.prog w = .ok (.value (.pointer (some ⟨q, 19, none⟩))) w := by simp [go_sem, hx]
theorem y_fldM10 (x : Operand) {q : Nat} (hx : ρ x = .pointer (some ⟨q, 0, none⟩)) : (execOp ρ ⟨dst, .fieldAddr 35 x 10, ty, pos, aft, gd⟩).run Tryz.prog w = .ok (.value (.pointer (some ⟨q, 32, none⟩))) w := by simp [go_sem, hx]
theorem y_cell_u8 (x : Operand) {q o : Nat} {v : Value} (hx : ρ x = .pointer (some ⟨q, o, none⟩)) (h : w.cell? ⟨q, o, none⟩ = some v) : (execOp ρ ⟨dst, .load 5 x, ty, pos, aft, gd⟩).run Tryz.prog w = .ok (.value v) w := by simp [go_sem, hx, h]
theorem y_cell_u32 (x : Operand) {q o : Nat} {v : Value} (hx : ρ x = .pointer (some ⟨q, o, none⟩)) (h : w.cell? ⟨q, o, none⟩ = some v) : (execOp ρ ⟨dst, .load 22 x, ty, pos, aft, gd⟩).run Tryz.prog w = .ok (.value v) w := by simp [go_sem, hx, h]
theorem y_cell_awrites (x : Operand) {q o : Nat} {v : Value} (hx : ρ x = .pointer (some ⟨q, o, none⟩)) (h : w.cell? ⟨q, o, none⟩ = some v) : (execOp ρ ⟨dst, .load 33 x, ty, pos, aft, gd⟩).run Tryz.prog w = .ok (.value v) w := by simp [go_sem, hx, h]
theorem y_cell_string (x : Operand) {q o : Nat} {v : Value} (hx : ρ x = .pointer (some ⟨q, o, none⟩)) (h : w.cell? ⟨q, o, none⟩ = some v) : (execOp ρ ⟨dst, .load 9 x, ty, pos, aft, gd⟩).run Tryz.prog w = .ok (.value v) w := by simp [go_sem, hx, h]
end
theorem infoTx10 : (Tryz.prog.info? 24).map (·.size) = some 3 := by kernel_rfl
theorem infoReg10 : (Tryz.prog.info? 26).map (·.size) = some 2 := by kernel_rfl
theorem box_range {w : World} {p : Nat} {cs : Array Value} {t : TypeId} (h : Box w p cs t) (o : Nat) (xs : List Value) (he : ∀ j v, xs[j]? = some v → cs[o + j]? = some v) : w.rangeAt p o xs := fun j v hv => h.cell _ _ (he j v hv)
theorem msg_tx {w : World} {p : Nat} {m : MsgP} {v : Value} {t : TypeId} (h : Box w p (msgA m v) t) : w.rangeAt p 1 (txE m.tx) := box_range h 1 _ (fun j u hu => by
  match j, hu with
  | 0, hu => exact hu
  | 1, hu => exact hu
  | 2, hu => exact hu
  | j + 3, hu => simp at hu)
theorem msg_reg {w : World} {p : Nat} {m : MsgP} {v : Value} {t : TypeId} (h : Box w p (msgA m v) t) : w.rangeAt p 5 (rgE m.reg) := box_range h 5 _ (fun j u hu => by
  match j, hu with
  | 0, hu => exact hu
  | 1, hu => exact hu
  | j + 2, hu => simp at hu)
theorem msg_key {w : World} {p : Nat} {m : MsgP} {v : Value} {t : TypeId} (h : Box w p (msgA m v) t) : w.rangeAt p 7 (eightE m.key) := box_range h 7 _ (fun j u hu => by
  match j, hu with
  | 0, hu => exact hu
  | 1, hu => exact hu
  | 2, hu => exact hu
  | 3, hu => exact hu
  | 4, hu => exact hu
  | 5, hu => exact hu
  | 6, hu => exact hu
  | 7, hu => exact hu
  | j + 8, hu => simp at hu)
theorem msg_item {w : World} {p : Nat} {m : MsgP} {v : Value} {t : TypeId} (h : Box w p (msgA m v) t) : w.rangeAt p 19 (itE m.item) := box_range h 19 _ (fun j u hu => by
  match j, hu with
  | 0, hu => exact hu
  | 1, hu => exact hu
  | 2, hu => exact hu
  | 3, hu => exact hu
  | 4, hu => exact hu
  | 5, hu => exact hu
  | 6, hu => exact hu
  | 7, hu => exact hu
  | 8, hu => exact hu
  | 9, hu => exact hu
  | 10, hu => exact hu
  | 11, hu => exact hu
  | 12, hu => exact hu
  | j + 13, hu => simp at hu)
theorem eql_it10 {a b : ItP} (ha : ItOk a) (hb : ItOk b) (w : World) : (binOp .eql 32 (.agg (itA a)) (.agg (itA b))).run Tryz.prog w = .ok (.bool (decide (a = b))) w := by
  rw [run_eql_struct, show (10000 : Nat) = 9996 + 4 from rfl, eq_it 9996 ha hb]
  rfl
theorem eql_tx10 (a b : TxN) (w : World) : (binOp .eql 24 (.agg (txE a).toArray) (.agg (txE b).toArray)).run Tryz.prog w = .ok (.bool (decide (a = b))) w := by
  refine (eql_tx _ _ _ _ _ _ w).trans ?_
  congr 2
  obtain ⟨a1, a2, a3⟩ := a
  obtain ⟨b1, b2, b3⟩ := b
  rw [Bool.eq_iff_iff]
  simp [and_assoc, Int.ofNat_inj]
theorem eql_reg10 (a b : Nat × Nat) (w : World) : (binOp .eql 26 (.agg (rgE a).toArray) (.agg (rgE b).toArray)).run Tryz.prog w = .ok (.bool (decide (a = b))) w := by
  refine (eql_reg _ _ _ _ w).trans ?_
  congr 2
  obtain ⟨a1, a2⟩ := a
  obtain ⟨b1, b2⟩ := b
  rw [Bool.eq_iff_iff]
  simp [Int.ofNat_inj]
theorem eight_list {k : List Int} (h : k.length = 8) : [at8 k 0, at8 k 1, at8 k 2, at8 k 3, at8 k 4, at8 k 5, at8 k 6, at8 k 7] = k := by
  match k, h with
  | [_, _, _, _, _, _, _, _], _ => rfl
theorem eql_key10 {a b : List Int} (ha : a.length = 8) (hb : b.length = 8) (w : World) : (binOp .eql 28 (.agg (eightA a)) (.agg (eightA b))).run Tryz.prog w = .ok (.bool (decide (a = b))) w := by
  refine (eqli_key _ _ _ _ _ _ _ _ _ _ _ _ _ _ _ _ w).trans ?_
  rw [eight_list ha, eight_list hb]
theorem eql_u8_10 (a b : Nat) (w : World) : (binOp .eql 5 (.int .u8 (a : Int)) (.int .u8 (b : Int))).run Tryz.prog w = .ok (.bool (decide (a = b))) w := by
  have : ((a : Int) == (b : Int)) = decide (a = b) := by rw [Bool.eq_iff_iff]; simp [Int.ofNat_inj]
  simp [go_sem, this]
theorem eql_u32_10 (a b : Nat) (w : World) : (binOp .eql 22 (.int .u32 (a : Int)) (.int .u32 (b : Int))).run Tryz.prog w = .ok (.bool (decide (a = b))) w := by
  have : ((a : Int) == (b : Int)) = decide (a = b) := by rw [Bool.eq_iff_iff]; simp [Int.ofNat_inj]
  simp [go_sem, this]
theorem same_tail {m k : MsgP} (h0 : m.kind = k.kind) (h1 : m.tx = k.tx) (h2 : m.time = k.time) (h3 : m.reg = k.reg) (h4 : m.key = k.key) (h5 : m.mode = k.mode) (h6 : m.no = k.no) (h7 : m.why = k.why) (h8 : m.yes = k.yes) (h9 : m.item = k.item) : decide (m = k) = decide (m.wr = k.wr) := by
  obtain ⟨a0, a1, a2, a3, a4, a5, a6, a7, a8, a9, a10⟩ := m
  obtain ⟨b0, b1, b2, b3, b4, b5, b6, b7, b8, b9, b10⟩ := k
  simp only at h0 h1 h2 h3 h4 h5 h6 h7 h8 h9
  subst h0 h1 h2 h3 h4 h5 h6 h7 h8 h9
  rw [Bool.eq_iff_iff]
  simp
set_option maxRecDepth 100000 in
set_option maxHeartbeats 12800000 in
theorem rsame_any (m k : MsgP) (a1 a2 : Option Addr) (l1 c1 l2 c2 : Nat) (w : World) (hm : MsgOk m) (hk : MsgOk k) (h1 : RSrc wrE w (.slice a1 l1 c1) m.wr) (h2 : RSrc wrE w (.slice a2 l2 c2) k.wr) :
    Calls Tryz.prog 19 #[.agg (msgA m (.slice a1 l1 c1)), .agg (msgA k (.slice a2 l2 c2))] w fun e w' => e = .returned (.bool (decide (m = k))) ∧ Below w.heap.size w w' := by
  have hA := ((Below.refl w.heap.size w).alloc (Nat.le_refl _) (.cells (msgA m (.slice a1 l1 c1)) 35)).alloc (by simp) (.cells (msgA k (.slice a2 l2 c2)) 35)
  have hX := (box_new w (msgA m (.slice a1 l1 c1)) 35).belowI (alloc_below10 _ (.cells (msgA k (.slice a2 l2 c2)) 35))
  have hY := box_new (w.alloc (.cells (msgA m (.slice a1 l1 c1)) 35)) (msgA k (.slice a2 l2 c2)) 35
  rw [World.size_alloc] at hY
  obtain ⟨w2, hw2⟩ : ∃ w2, w2 = (w.alloc (.cells (msgA m (.slice a1 l1 c1)) 35)).alloc (.cells (msgA k (.slice a2 l2 c2)) 35) := ⟨_, rfl⟩
  rw [← hw2] at hA hX hY
  have hW := hw2.symm
  have CW := hide (rsameWrites_any _ _ m.wr k.wr w2 (h1.below hA) (h2.below hA) hm.wr hk.wr)
  have HA := hide hA
  have HX := hide hX
  have HY := hide hY
  have HM := hide hm
  have HK := hide hk
  obtain ⟨R, hR⟩ : ∃ R, R = decide (m = k) := ⟨_, rfl⟩
  rw [← hR]
  have HR := hide hR
  clear hR hA hw2 h1 h2 hm hk hX hY
  go_enter Tryz.func19, Tryz.ntmps19
  refine wp_seq_gen fun K1 hK1 => ?_
  replace hK1 := hide hK1
  go_wp2_with fail
  rw [hK1.out]
  clear hK1
  refine wp_seq_gen fun K2 hK2 => ?_
  replace hK2 := hide hK2
  refine wp_region_list ?_
  by_cases h0 : m.kind = k.kind
  rotate_left
  · have HE : Hid (R = false) := hide (by rw [HR.out]; exact decide_eq_false (fun e => h0 (by rw [e])))
    have E0 : Hid ((binOp .eql 5 (.int .u8 (m.kind : Int)) (.int .u8 (k.kind : Int))).run Tryz.prog w2 = .ok (.bool false) w2) := hide (by rw [eql_u8_10 _ _ w2, decide_eq_false h0])
    refine seq_vals _ _ 0 6 [(5, .pointer (some ⟨w.heap.size, 0, none⟩)), (6, .int .u8 (m.kind : Int)), (7, .pointer (some ⟨w.heap.size + 1, 0, none⟩)), (8, .int .u8 (k.kind : Int)), (9, .bool false), (10, .bool false)] (by kernel_rfl) rfl ?_ ?_
    · intro i o hi h1 h2 A hold hdeps
      have hc : i = 0 ∨ i = 1 ∨ i = 2 ∨ i = 3 ∨ i = 4 ∨ i = 5 := by omega
      clear h1 h2
      rcases hc with rfl | rfl | rfl | rfl | rfl | rfl
      · obtain rfl := Option.some.inj hi
        have s2 : A.tmps.getD 2 undef = .pointer (some ⟨w.heap.size, 0, none⟩) := hold 2 (by kernel_rfl)
        exact q_pure hi rfl rfl (y_fldM0 _ s2)
      · obtain rfl := Option.some.inj hi
        have s5 : A.tmps.getD 5 undef = .pointer (some ⟨w.heap.size, 0, none⟩) := hdeps 0 (by decide) (by decide)
        exact q_pure hi rfl rfl (y_cell_u8 _ s5 (HX.out.cell 0 _ rfl))
      · obtain rfl := Option.some.inj hi
        have s3 : A.tmps.getD 3 undef = .pointer (some ⟨w.heap.size + 1, 0, none⟩) := hold 3 (by kernel_rfl)
        exact q_pure hi rfl rfl (y_fldM0 _ s3)
      · obtain rfl := Option.some.inj hi
        have s7 : A.tmps.getD 7 undef = .pointer (some ⟨w.heap.size + 1, 0, none⟩) := hdeps 2 (by decide) (by decide)
        exact q_pure hi rfl rfl (y_cell_u8 _ s7 (HY.out.cell 0 _ rfl))
      · obtain rfl := Option.some.inj hi
        have s6 : A.tmps.getD 6 undef = .int .u8 (m.kind : Int) := hdeps 1 (by decide) (by decide)
        have s8 : A.tmps.getD 8 undef = .int .u8 (k.kind : Int) := hdeps 3 (by decide) (by decide)
        exact q_pure hi rfl rfl (y_bin _ _ _ _ _ s6 s8 E0.out (by kernel_rfl))
      · obtain rfl := Option.some.inj hi
        have s9 : A.tmps.getD 9 undef = .bool false := hdeps 4 (by decide) (by decide)
        exact q_pure hi rfl rfl (y_move _ s9)
    · simp only [putAll, Act.put, List.setIfInBounds_toArray, List.set_cons_succ, List.set_cons_zero]
      clear E0 HX HY HM HK CW
      go_wp2_with fail
      rw [hK2.out]
      go_wp2_with fail
      go_ret
      exact ⟨by rw [HE.out]; rfl, HA.out⟩
  have E0 : Hid ((binOp .eql 5 (.int .u8 (m.kind : Int)) (.int .u8 (k.kind : Int))).run Tryz.prog w2 = .ok (.bool true) w2) := hide (by rw [eql_u8_10 _ _ w2, decide_eq_true h0])
  refine seq_vals _ _ 0 6 [(5, .pointer (some ⟨w.heap.size, 0, none⟩)), (6, .int .u8 (m.kind : Int)), (7, .pointer (some ⟨w.heap.size + 1, 0, none⟩)), (8, .int .u8 (k.kind : Int)), (9, .bool true), (10, .bool true)] (by kernel_rfl) rfl ?_ ?_
  · intro i o hi h1 h2 A hold hdeps
    have hc : i = 0 ∨ i = 1 ∨ i = 2 ∨ i = 3 ∨ i = 4 ∨ i = 5 := by omega
    clear h1 h2
    rcases hc with rfl | rfl | rfl | rfl | rfl | rfl
    · obtain rfl := Option.some.inj hi
      have s2 : A.tmps.getD 2 undef = .pointer (some ⟨w.heap.size, 0, none⟩) := hold 2 (by kernel_rfl)
      exact q_pure hi rfl rfl (y_fldM0 _ s2)
    · obtain rfl := Option.some.inj hi
      have s5 : A.tmps.getD 5 undef = .pointer (some ⟨w.heap.size, 0, none⟩) := hdeps 0 (by decide) (by decide)
      exact q_pure hi rfl rfl (y_cell_u8 _ s5 (HX.out.cell 0 _ rfl))
    · obtain rfl := Option.some.inj hi
      have s3 : A.tmps.getD 3 undef = .pointer (some ⟨w.heap.size + 1, 0, none⟩) := hold 3 (by kernel_rfl)
      exact q_pure hi rfl rfl (y_fldM0 _ s3)
    · obtain rfl := Option.some.inj hi
      have s7 : A.tmps.getD 7 undef = .pointer (some ⟨w.heap.size + 1, 0, none⟩) := hdeps 2 (by decide) (by decide)
      exact q_pure hi rfl rfl (y_cell_u8 _ s7 (HY.out.cell 0 _ rfl))
    · obtain rfl := Option.some.inj hi
      have s6 : A.tmps.getD 6 undef = .int .u8 (m.kind : Int) := hdeps 1 (by decide) (by decide)
      have s8 : A.tmps.getD 8 undef = .int .u8 (k.kind : Int) := hdeps 3 (by decide) (by decide)
      exact q_pure hi rfl rfl (y_bin _ _ _ _ _ s6 s8 E0.out (by kernel_rfl))
    · obtain rfl := Option.some.inj hi
      have s9 : A.tmps.getD 9 undef = .bool true := hdeps 4 (by decide) (by decide)
      exact q_pure hi rfl rfl (y_move _ s9)
  · simp only [putAll, Act.put, List.setIfInBounds_toArray, List.set_cons_succ, List.set_cons_zero]
    clear E0
    by_cases h1 : m.tx = k.tx
    rotate_left
    · have HE : Hid (R = false) := hide (by rw [HR.out]; exact decide_eq_false (fun e => h1 (by rw [e])))
      have E1 : Hid ((binOp .eql 24 (.agg (txE m.tx).toArray) (.agg (txE k.tx).toArray)).run Tryz.prog w2 = .ok (.bool false) w2) := hide (by rw [eql_tx10 _ _ w2, decide_eq_false h1])
      refine seq_vals _ _ 6 7 [(11, .pointer (some ⟨w.heap.size, 1, none⟩)), (12, .agg (txE m.tx).toArray), (13, .pointer (some ⟨w.heap.size + 1, 1, none⟩)), (14, .agg (txE k.tx).toArray), (15, .bool false), (16, .bool false), (17, .bool false)] (by kernel_rfl) rfl ?_ ?_
      · intro i o hi h1 h2 A hold hdeps
        have hc : i = 6 ∨ i = 7 ∨ i = 8 ∨ i = 9 ∨ i = 10 ∨ i = 11 ∨ i = 12 := by omega
        clear h1 h2
        rcases hc with rfl | rfl | rfl | rfl | rfl | rfl | rfl
        · obtain rfl := Option.some.inj hi
          have g6 : A.tmps.getD 10 undef = .bool true := hold 10 (by kernel_rfl)
          have s2 : A.tmps.getD 2 undef = .pointer (some ⟨w.heap.size, 0, none⟩) := hold 2 (by kernel_rfl)
          exact q_pure hi (wanted_of rfl rfl g6) rfl (y_fldM1 _ s2)
        · obtain rfl := Option.some.inj hi
          have g7 : A.tmps.getD 10 undef = .bool true := hold 10 (by kernel_rfl)
          have s11 : A.tmps.getD 11 undef = .pointer (some ⟨w.heap.size, 1, none⟩) := hdeps 6 (by decide) (by decide)
          exact q_pure hi (wanted_of rfl rfl g7) rfl (y_loadMid _ _ s11 (msg_tx HX.out) Tryz.underlying24 rfl infoTx10)
        · obtain rfl := Option.some.inj hi
          have g8 : A.tmps.getD 10 undef = .bool true := hold 10 (by kernel_rfl)
          have s3 : A.tmps.getD 3 undef = .pointer (some ⟨w.heap.size + 1, 0, none⟩) := hold 3 (by kernel_rfl)
          exact q_pure hi (wanted_of rfl rfl g8) rfl (y_fldM1 _ s3)
        · obtain rfl := Option.some.inj hi
          have g9 : A.tmps.getD 10 undef = .bool true := hold 10 (by kernel_rfl)
          have s13 : A.tmps.getD 13 undef = .pointer (some ⟨w.heap.size + 1, 1, none⟩) := hdeps 8 (by decide) (by decide)
          exact q_pure hi (wanted_of rfl rfl g9) rfl (y_loadMid _ _ s13 (msg_tx HY.out) Tryz.underlying24 rfl infoTx10)
        · obtain rfl := Option.some.inj hi
          have g10 : A.tmps.getD 10 undef = .bool true := hold 10 (by kernel_rfl)
          have s12 : A.tmps.getD 12 undef = .agg (txE m.tx).toArray := hdeps 7 (by decide) (by decide)
          have s14 : A.tmps.getD 14 undef = .agg (txE k.tx).toArray := hdeps 9 (by decide) (by decide)
          exact q_pure hi (wanted_of rfl rfl g10) rfl (y_bin _ _ _ _ _ s12 s14 E1.out (by kernel_rfl))
        · obtain rfl := Option.some.inj hi
          have s10 : A.tmps.getD 10 undef = .bool true := hold 10 (by kernel_rfl)
          have s15 : A.tmps.getD 15 undef = .bool false := hdeps 10 (by decide) (by decide)
          exact q_pure hi rfl rfl (y_pickT _ _ _ s10 s15)
        · obtain rfl := Option.some.inj hi
          have s16 : A.tmps.getD 16 undef = .bool false := hdeps 11 (by decide) (by decide)
          exact q_pure hi rfl rfl (y_move _ s16)
      · simp only [putAll, Act.put, List.setIfInBounds_toArray, List.set_cons_succ, List.set_cons_zero]
        clear E1 HX HY HM HK CW
        go_wp2_with fail
        rw [hK2.out]
        go_wp2_with fail
        go_ret
        exact ⟨by rw [HE.out]; rfl, HA.out⟩
    have E1 : Hid ((binOp .eql 24 (.agg (txE m.tx).toArray) (.agg (txE k.tx).toArray)).run Tryz.prog w2 = .ok (.bool true) w2) := hide (by rw [eql_tx10 _ _ w2, decide_eq_true h1])
    refine seq_vals _ _ 6 7 [(11, .pointer (some ⟨w.heap.size, 1, none⟩)), (12, .agg (txE m.tx).toArray), (13, .pointer (some ⟨w.heap.size + 1, 1, none⟩)), (14, .agg (txE k.tx).toArray), (15, .bool true), (16, .bool true), (17, .bool true)] (by kernel_rfl) rfl ?_ ?_
    · intro i o hi h1 h2 A hold hdeps
      have hc : i = 6 ∨ i = 7 ∨ i = 8 ∨ i = 9 ∨ i = 10 ∨ i = 11 ∨ i = 12 := by omega
      clear h1 h2
      rcases hc with rfl | rfl | rfl | rfl | rfl | rfl | rfl
      · obtain rfl := Option.some.inj hi
        have g6 : A.tmps.getD 10 undef = .bool true := hold 10 (by kernel_rfl)
        have s2 : A.tmps.getD 2 undef = .pointer (some ⟨w.heap.size, 0, none⟩) := hold 2 (by kernel_rfl)
        exact q_pure hi (wanted_of rfl rfl g6) rfl (y_fldM1 _ s2)
      · obtain rfl := Option.some.inj hi
        have g7 : A.tmps.getD 10 undef = .bool true := hold 10 (by kernel_rfl)
        have s11 : A.tmps.getD 11 undef = .pointer (some ⟨w.heap.size, 1, none⟩) := hdeps 6 (by decide) (by decide)
        exact q_pure hi (wanted_of rfl rfl g7) rfl (y_loadMid _ _ s11 (msg_tx HX.out) Tryz.underlying24 rfl infoTx10)
      · obtain rfl := Option.some.inj hi
        have g8 : A.tmps.getD 10 undef = .bool true := hold 10 (by kernel_rfl)
        have s3 : A.tmps.getD 3 undef = .pointer (some ⟨w.heap.size + 1, 0, none⟩) := hold 3 (by kernel_rfl)
        exact q_pure hi (wanted_of rfl rfl g8) rfl (y_fldM1 _ s3)
      · obtain rfl := Option.some.inj hi
        have g9 : A.tmps.getD 10 undef = .bool true := hold 10 (by kernel_rfl)
        have s13 : A.tmps.getD 13 undef = .pointer (some ⟨w.heap.size + 1, 1, none⟩) := hdeps 8 (by decide) (by decide)
        exact q_pure hi (wanted_of rfl rfl g9) rfl (y_loadMid _ _ s13 (msg_tx HY.out) Tryz.underlying24 rfl infoTx10)
      · obtain rfl := Option.some.inj hi
        have g10 : A.tmps.getD 10 undef = .bool true := hold 10 (by kernel_rfl)
        have s12 : A.tmps.getD 12 undef = .agg (txE m.tx).toArray := hdeps 7 (by decide) (by decide)
        have s14 : A.tmps.getD 14 undef = .agg (txE k.tx).toArray := hdeps 9 (by decide) (by decide)
        exact q_pure hi (wanted_of rfl rfl g10) rfl (y_bin _ _ _ _ _ s12 s14 E1.out (by kernel_rfl))
      · obtain rfl := Option.some.inj hi
        have s10 : A.tmps.getD 10 undef = .bool true := hold 10 (by kernel_rfl)
        have s15 : A.tmps.getD 15 undef = .bool true := hdeps 10 (by decide) (by decide)
        exact q_pure hi rfl rfl (y_pickT _ _ _ s10 s15)
      · obtain rfl := Option.some.inj hi
        have s16 : A.tmps.getD 16 undef = .bool true := hdeps 11 (by decide) (by decide)
        exact q_pure hi rfl rfl (y_move _ s16)
    · simp only [putAll, Act.put, List.setIfInBounds_toArray, List.set_cons_succ, List.set_cons_zero]
      clear E1
      by_cases h2 : m.time = k.time
      rotate_left
      · have HE : Hid (R = false) := hide (by rw [HR.out]; exact decide_eq_false (fun e => h2 (by rw [e])))
        have E2 : Hid ((binOp .eql 22 (.int .u32 (m.time : Int)) (.int .u32 (k.time : Int))).run Tryz.prog w2 = .ok (.bool false) w2) := hide (by rw [eql_u32_10 _ _ w2, decide_eq_false h2])
        refine seq_vals _ _ 13 7 [(18, .pointer (some ⟨w.heap.size, 4, none⟩)), (19, .int .u32 (m.time : Int)), (20, .pointer (some ⟨w.heap.size + 1, 4, none⟩)), (21, .int .u32 (k.time : Int)), (22, .bool false), (23, .bool false), (24, .bool false)] (by kernel_rfl) rfl ?_ ?_
        · intro i o hi h1 h2 A hold hdeps
          have hc : i = 13 ∨ i = 14 ∨ i = 15 ∨ i = 16 ∨ i = 17 ∨ i = 18 ∨ i = 19 := by omega
          clear h1 h2
          rcases hc with rfl | rfl | rfl | rfl | rfl | rfl | rfl
          · obtain rfl := Option.some.inj hi
            have g13 : A.tmps.getD 17 undef = .bool true := hold 17 (by kernel_rfl)
            have s2 : A.tmps.getD 2 undef = .pointer (some ⟨w.heap.size, 0, none⟩) := hold 2 (by kernel_rfl)
            exact q_pure hi (wanted_of rfl rfl g13) rfl (y_fldM2 _ s2)
          · obtain rfl := Option.some.inj hi
            have g14 : A.tmps.getD 17 undef = .bool true := hold 17 (by kernel_rfl)
            have s18 : A.tmps.getD 18 undef = .pointer (some ⟨w.heap.size, 4, none⟩) := hdeps 13 (by decide) (by decide)
            exact q_pure hi (wanted_of rfl rfl g14) rfl (y_cell_u32 _ s18 (HX.out.cell 4 _ rfl))
          · obtain rfl := Option.some.inj hi
            have g15 : A.tmps.getD 17 undef = .bool true := hold 17 (by kernel_rfl)
            have s3 : A.tmps.getD 3 undef = .pointer (some ⟨w.heap.size + 1, 0, none⟩) := hold 3 (by kernel_rfl)
            exact q_pure hi (wanted_of rfl rfl g15) rfl (y_fldM2 _ s3)
          · obtain rfl := Option.some.inj hi
            have g16 : A.tmps.getD 17 undef = .bool true := hold 17 (by kernel_rfl)
            have s20 : A.tmps.getD 20 undef = .pointer (some ⟨w.heap.size + 1, 4, none⟩) := hdeps 15 (by decide) (by decide)
            exact q_pure hi (wanted_of rfl rfl g16) rfl (y_cell_u32 _ s20 (HY.out.cell 4 _ rfl))
          · obtain rfl := Option.some.inj hi
            have g17 : A.tmps.getD 17 undef = .bool true := hold 17 (by kernel_rfl)
            have s19 : A.tmps.getD 19 undef = .int .u32 (m.time : Int) := hdeps 14 (by decide) (by decide)
            have s21 : A.tmps.getD 21 undef = .int .u32 (k.time : Int) := hdeps 16 (by decide) (by decide)
            exact q_pure hi (wanted_of rfl rfl g17) rfl (y_bin _ _ _ _ _ s19 s21 E2.out (by kernel_rfl))
          · obtain rfl := Option.some.inj hi
            have s17 : A.tmps.getD 17 undef = .bool true := hold 17 (by kernel_rfl)
            have s22 : A.tmps.getD 22 undef = .bool false := hdeps 17 (by decide) (by decide)
            exact q_pure hi rfl rfl (y_pickT _ _ _ s17 s22)
          · obtain rfl := Option.some.inj hi
            have s23 : A.tmps.getD 23 undef = .bool false := hdeps 18 (by decide) (by decide)
            exact q_pure hi rfl rfl (y_move _ s23)
        · simp only [putAll, Act.put, List.setIfInBounds_toArray, List.set_cons_succ, List.set_cons_zero]
          clear E2 HX HY HM HK CW
          go_wp2_with fail
          rw [hK2.out]
          go_wp2_with fail
          go_ret
          exact ⟨by rw [HE.out]; rfl, HA.out⟩
      have E2 : Hid ((binOp .eql 22 (.int .u32 (m.time : Int)) (.int .u32 (k.time : Int))).run Tryz.prog w2 = .ok (.bool true) w2) := hide (by rw [eql_u32_10 _ _ w2, decide_eq_true h2])
      refine seq_vals _ _ 13 7 [(18, .pointer (some ⟨w.heap.size, 4, none⟩)), (19, .int .u32 (m.time : Int)), (20, .pointer (some ⟨w.heap.size + 1, 4, none⟩)), (21, .int .u32 (k.time : Int)), (22, .bool true), (23, .bool true), (24, .bool true)] (by kernel_rfl) rfl ?_ ?_
      · intro i o hi h1 h2 A hold hdeps
        have hc : i = 13 ∨ i = 14 ∨ i = 15 ∨ i = 16 ∨ i = 17 ∨ i = 18 ∨ i = 19 := by omega
        clear h1 h2
        rcases hc with rfl | rfl | rfl | rfl | rfl | rfl | rfl
        · obtain rfl := Option.some.inj hi
          have g13 : A.tmps.getD 17 undef = .bool true := hold 17 (by kernel_rfl)
          have s2 : A.tmps.getD 2 undef = .pointer (some ⟨w.heap.size, 0, none⟩) := hold 2 (by kernel_rfl)
          exact q_pure hi (wanted_of rfl rfl g13) rfl (y_fldM2 _ s2)
        · obtain rfl := Option.some.inj hi
          have g14 : A.tmps.getD 17 undef = .bool true := hold 17 (by kernel_rfl)
          have s18 : A.tmps.getD 18 undef = .pointer (some ⟨w.heap.size, 4, none⟩) := hdeps 13 (by decide) (by decide)
          exact q_pure hi (wanted_of rfl rfl g14) rfl (y_cell_u32 _ s18 (HX.out.cell 4 _ rfl))
        · obtain rfl := Option.some.inj hi
          have g15 : A.tmps.getD 17 undef = .bool true := hold 17 (by kernel_rfl)
          have s3 : A.tmps.getD 3 undef = .pointer (some ⟨w.heap.size + 1, 0, none⟩) := hold 3 (by kernel_rfl)
          exact q_pure hi (wanted_of rfl rfl g15) rfl (y_fldM2 _ s3)
        · obtain rfl := Option.some.inj hi
          have g16 : A.tmps.getD 17 undef = .bool true := hold 17 (by kernel_rfl)
          have s20 : A.tmps.getD 20 undef = .pointer (some ⟨w.heap.size + 1, 4, none⟩) := hdeps 15 (by decide) (by decide)
          exact q_pure hi (wanted_of rfl rfl g16) rfl (y_cell_u32 _ s20 (HY.out.cell 4 _ rfl))
        · obtain rfl := Option.some.inj hi
          have g17 : A.tmps.getD 17 undef = .bool true := hold 17 (by kernel_rfl)
          have s19 : A.tmps.getD 19 undef = .int .u32 (m.time : Int) := hdeps 14 (by decide) (by decide)
          have s21 : A.tmps.getD 21 undef = .int .u32 (k.time : Int) := hdeps 16 (by decide) (by decide)
          exact q_pure hi (wanted_of rfl rfl g17) rfl (y_bin _ _ _ _ _ s19 s21 E2.out (by kernel_rfl))
        · obtain rfl := Option.some.inj hi
          have s17 : A.tmps.getD 17 undef = .bool true := hold 17 (by kernel_rfl)
          have s22 : A.tmps.getD 22 undef = .bool true := hdeps 17 (by decide) (by decide)
          exact q_pure hi rfl rfl (y_pickT _ _ _ s17 s22)
        · obtain rfl := Option.some.inj hi
          have s23 : A.tmps.getD 23 undef = .bool true := hdeps 18 (by decide) (by decide)
          exact q_pure hi rfl rfl (y_move _ s23)
      · simp only [putAll, Act.put, List.setIfInBounds_toArray, List.set_cons_succ, List.set_cons_zero]
        clear E2
        by_cases h3 : m.reg = k.reg
        rotate_left
        · have HE : Hid (R = false) := hide (by rw [HR.out]; exact decide_eq_false (fun e => h3 (by rw [e])))
          have E3 : Hid ((binOp .eql 26 (.agg (rgE m.reg).toArray) (.agg (rgE k.reg).toArray)).run Tryz.prog w2 = .ok (.bool false) w2) := hide (by rw [eql_reg10 _ _ w2, decide_eq_false h3])
          refine seq_vals _ _ 20 7 [(25, .pointer (some ⟨w.heap.size, 5, none⟩)), (26, .agg (rgE m.reg).toArray), (27, .pointer (some ⟨w.heap.size + 1, 5, none⟩)), (28, .agg (rgE k.reg).toArray), (29, .bool false), (30, .bool false), (31, .bool false)] (by kernel_rfl) rfl ?_ ?_
          · intro i o hi h1 h2 A hold hdeps
            have hc : i = 20 ∨ i = 21 ∨ i = 22 ∨ i = 23 ∨ i = 24 ∨ i = 25 ∨ i = 26 := by omega
            clear h1 h2
            rcases hc with rfl | rfl | rfl | rfl | rfl | rfl | rfl
            · obtain rfl := Option.some.inj hi
              have g20 : A.tmps.getD 24 undef = .bool true := hold 24 (by kernel_rfl)
              have s2 : A.tmps.getD 2 undef = .pointer (some ⟨w.heap.size, 0, none⟩) := hold 2 (by kernel_rfl)
              exact q_pure hi (wanted_of rfl rfl g20) rfl (y_fldM3 _ s2)
            · obtain rfl := Option.some.inj hi
              have g21 : A.tmps.getD 24 undef = .bool true := hold 24 (by kernel_rfl)
              have s25 : A.tmps.getD 25 undef = .pointer (some ⟨w.heap.size, 5, none⟩) := hdeps 20 (by decide) (by decide)
              exact q_pure hi (wanted_of rfl rfl g21) rfl (y_loadMid _ _ s25 (msg_reg HX.out) Tryz.underlying26 rfl infoReg10)
            · obtain rfl := Option.some.inj hi
              have g22 : A.tmps.getD 24 undef = .bool true := hold 24 (by kernel_rfl)
              have s3 : A.tmps.getD 3 undef = .pointer (some ⟨w.heap.size + 1, 0, none⟩) := hold 3 (by kernel_rfl)
              exact q_pure hi (wanted_of rfl rfl g22) rfl (y_fldM3 _ s3)
            · obtain rfl := Option.some.inj hi
              have g23 : A.tmps.getD 24 undef = .bool true := hold 24 (by kernel_rfl)
              have s27 : A.tmps.getD 27 undef = .pointer (some ⟨w.heap.size + 1, 5, none⟩) := hdeps 22 (by decide) (by decide)
              exact q_pure hi (wanted_of rfl rfl g23) rfl (y_loadMid _ _ s27 (msg_reg HY.out) Tryz.underlying26 rfl infoReg10)
            · obtain rfl := Option.some.inj hi
              have g24 : A.tmps.getD 24 undef = .bool true := hold 24 (by kernel_rfl)
              have s26 : A.tmps.getD 26 undef = .agg (rgE m.reg).toArray := hdeps 21 (by decide) (by decide)
              have s28 : A.tmps.getD 28 undef = .agg (rgE k.reg).toArray := hdeps 23 (by decide) (by decide)
              exact q_pure hi (wanted_of rfl rfl g24) rfl (y_bin _ _ _ _ _ s26 s28 E3.out (by kernel_rfl))
            · obtain rfl := Option.some.inj hi
              have s24 : A.tmps.getD 24 undef = .bool true := hold 24 (by kernel_rfl)
              have s29 : A.tmps.getD 29 undef = .bool false := hdeps 24 (by decide) (by decide)
              exact q_pure hi rfl rfl (y_pickT _ _ _ s24 s29)
            · obtain rfl := Option.some.inj hi
              have s30 : A.tmps.getD 30 undef = .bool false := hdeps 25 (by decide) (by decide)
              exact q_pure hi rfl rfl (y_move _ s30)
          · simp only [putAll, Act.put, List.setIfInBounds_toArray, List.set_cons_succ, List.set_cons_zero]
            clear E3 HX HY HM HK CW
            go_wp2_with fail
            rw [hK2.out]
            go_wp2_with fail
            go_ret
            exact ⟨by rw [HE.out]; rfl, HA.out⟩
        have E3 : Hid ((binOp .eql 26 (.agg (rgE m.reg).toArray) (.agg (rgE k.reg).toArray)).run Tryz.prog w2 = .ok (.bool true) w2) := hide (by rw [eql_reg10 _ _ w2, decide_eq_true h3])
        refine seq_vals _ _ 20 7 [(25, .pointer (some ⟨w.heap.size, 5, none⟩)), (26, .agg (rgE m.reg).toArray), (27, .pointer (some ⟨w.heap.size + 1, 5, none⟩)), (28, .agg (rgE k.reg).toArray), (29, .bool true), (30, .bool true), (31, .bool true)] (by kernel_rfl) rfl ?_ ?_
        · intro i o hi h1 h2 A hold hdeps
          have hc : i = 20 ∨ i = 21 ∨ i = 22 ∨ i = 23 ∨ i = 24 ∨ i = 25 ∨ i = 26 := by omega
          clear h1 h2
          rcases hc with rfl | rfl | rfl | rfl | rfl | rfl | rfl
          · obtain rfl := Option.some.inj hi
            have g20 : A.tmps.getD 24 undef = .bool true := hold 24 (by kernel_rfl)
            have s2 : A.tmps.getD 2 undef = .pointer (some ⟨w.heap.size, 0, none⟩) := hold 2 (by kernel_rfl)
            exact q_pure hi (wanted_of rfl rfl g20) rfl (y_fldM3 _ s2)
          · obtain rfl := Option.some.inj hi
            have g21 : A.tmps.getD 24 undef = .bool true := hold 24 (by kernel_rfl)
            have s25 : A.tmps.getD 25 undef = .pointer (some ⟨w.heap.size, 5, none⟩) := hdeps 20 (by decide) (by decide)
            exact q_pure hi (wanted_of rfl rfl g21) rfl (y_loadMid _ _ s25 (msg_reg HX.out) Tryz.underlying26 rfl infoReg10)
          · obtain rfl := Option.some.inj hi
            have g22 : A.tmps.getD 24 undef = .bool true := hold 24 (by kernel_rfl)
            have s3 : A.tmps.getD 3 undef = .pointer (some ⟨w.heap.size + 1, 0, none⟩) := hold 3 (by kernel_rfl)
            exact q_pure hi (wanted_of rfl rfl g22) rfl (y_fldM3 _ s3)
          · obtain rfl := Option.some.inj hi
            have g23 : A.tmps.getD 24 undef = .bool true := hold 24 (by kernel_rfl)
            have s27 : A.tmps.getD 27 undef = .pointer (some ⟨w.heap.size + 1, 5, none⟩) := hdeps 22 (by decide) (by decide)
            exact q_pure hi (wanted_of rfl rfl g23) rfl (y_loadMid _ _ s27 (msg_reg HY.out) Tryz.underlying26 rfl infoReg10)
          · obtain rfl := Option.some.inj hi
            have g24 : A.tmps.getD 24 undef = .bool true := hold 24 (by kernel_rfl)
            have s26 : A.tmps.getD 26 undef = .agg (rgE m.reg).toArray := hdeps 21 (by decide) (by decide)
            have s28 : A.tmps.getD 28 undef = .agg (rgE k.reg).toArray := hdeps 23 (by decide) (by decide)
            exact q_pure hi (wanted_of rfl rfl g24) rfl (y_bin _ _ _ _ _ s26 s28 E3.out (by kernel_rfl))
          · obtain rfl := Option.some.inj hi
            have s24 : A.tmps.getD 24 undef = .bool true := hold 24 (by kernel_rfl)
            have s29 : A.tmps.getD 29 undef = .bool true := hdeps 24 (by decide) (by decide)
            exact q_pure hi rfl rfl (y_pickT _ _ _ s24 s29)
          · obtain rfl := Option.some.inj hi
            have s30 : A.tmps.getD 30 undef = .bool true := hdeps 25 (by decide) (by decide)
            exact q_pure hi rfl rfl (y_move _ s30)
        · simp only [putAll, Act.put, List.setIfInBounds_toArray, List.set_cons_succ, List.set_cons_zero]
          clear E3
          by_cases h4 : m.key = k.key
          rotate_left
          · have HE : Hid (R = false) := hide (by rw [HR.out]; exact decide_eq_false (fun e => h4 (by rw [e])))
            have E4 : Hid ((binOp .eql 28 (.agg (eightA m.key)) (.agg (eightA k.key))).run Tryz.prog w2 = .ok (.bool false) w2) := hide (by rw [eql_key10 HM.out.key.l HK.out.key.l w2, decide_eq_false h4])
            refine seq_vals _ _ 27 7 [(32, .pointer (some ⟨w.heap.size, 7, none⟩)), (33, .agg (eightA m.key)), (34, .pointer (some ⟨w.heap.size + 1, 7, none⟩)), (35, .agg (eightA k.key)), (36, .bool false), (37, .bool false), (38, .bool false)] (by kernel_rfl) rfl ?_ ?_
            · intro i o hi h1 h2 A hold hdeps
              have hc : i = 27 ∨ i = 28 ∨ i = 29 ∨ i = 30 ∨ i = 31 ∨ i = 32 ∨ i = 33 := by omega
              clear h1 h2
              rcases hc with rfl | rfl | rfl | rfl | rfl | rfl | rfl
              · obtain rfl := Option.some.inj hi
                have g27 : A.tmps.getD 31 undef = .bool true := hold 31 (by kernel_rfl)
                have s2 : A.tmps.getD 2 undef = .pointer (some ⟨w.heap.size, 0, none⟩) := hold 2 (by kernel_rfl)
                exact q_pure hi (wanted_of rfl rfl g27) rfl (y_fldM4 _ s2)
              · obtain rfl := Option.some.inj hi
                have g28 : A.tmps.getD 31 undef = .bool true := hold 31 (by kernel_rfl)
                have s32 : A.tmps.getD 32 undef = .pointer (some ⟨w.heap.size, 7, none⟩) := hdeps 27 (by decide) (by decide)
                exact q_pure hi (wanted_of rfl rfl g28) rfl (y_loadMid _ _ s32 (msg_key HX.out) Tryz.underlying28 rfl infoKey10)
              · obtain rfl := Option.some.inj hi
                have g29 : A.tmps.getD 31 undef = .bool true := hold 31 (by kernel_rfl)
                have s3 : A.tmps.getD 3 undef = .pointer (some ⟨w.heap.size + 1, 0, none⟩) := hold 3 (by kernel_rfl)
                exact q_pure hi (wanted_of rfl rfl g29) rfl (y_fldM4 _ s3)
              · obtain rfl := Option.some.inj hi
                have g30 : A.tmps.getD 31 undef = .bool true := hold 31 (by kernel_rfl)
                have s34 : A.tmps.getD 34 undef = .pointer (some ⟨w.heap.size + 1, 7, none⟩) := hdeps 29 (by decide) (by decide)
                exact q_pure hi (wanted_of rfl rfl g30) rfl (y_loadMid _ _ s34 (msg_key HY.out) Tryz.underlying28 rfl infoKey10)
              · obtain rfl := Option.some.inj hi
                have g31 : A.tmps.getD 31 undef = .bool true := hold 31 (by kernel_rfl)
                have s33 : A.tmps.getD 33 undef = .agg (eightA m.key) := hdeps 28 (by decide) (by decide)
                have s35 : A.tmps.getD 35 undef = .agg (eightA k.key) := hdeps 30 (by decide) (by decide)
                exact q_pure hi (wanted_of rfl rfl g31) rfl (y_bin _ _ _ _ _ s33 s35 E4.out (by kernel_rfl))
              · obtain rfl := Option.some.inj hi
                have s31 : A.tmps.getD 31 undef = .bool true := hold 31 (by kernel_rfl)
                have s36 : A.tmps.getD 36 undef = .bool false := hdeps 31 (by decide) (by decide)
                exact q_pure hi rfl rfl (y_pickT _ _ _ s31 s36)
              · obtain rfl := Option.some.inj hi
                have s37 : A.tmps.getD 37 undef = .bool false := hdeps 32 (by decide) (by decide)
                exact q_pure hi rfl rfl (y_move _ s37)
            · simp only [putAll, Act.put, List.setIfInBounds_toArray, List.set_cons_succ, List.set_cons_zero]
              clear E4 HX HY HM HK CW
              go_wp2_with fail
              rw [hK2.out]
              go_wp2_with fail
              go_ret
              exact ⟨by rw [HE.out]; rfl, HA.out⟩
          have E4 : Hid ((binOp .eql 28 (.agg (eightA m.key)) (.agg (eightA k.key))).run Tryz.prog w2 = .ok (.bool true) w2) := hide (by rw [eql_key10 HM.out.key.l HK.out.key.l w2, decide_eq_true h4])
          refine seq_vals _ _ 27 7 [(32, .pointer (some ⟨w.heap.size, 7, none⟩)), (33, .agg (eightA m.key)), (34, .pointer (some ⟨w.heap.size + 1, 7, none⟩)), (35, .agg (eightA k.key)), (36, .bool true), (37, .bool true), (38, .bool true)] (by kernel_rfl) rfl ?_ ?_
          · intro i o hi h1 h2 A hold hdeps
            have hc : i = 27 ∨ i = 28 ∨ i = 29 ∨ i = 30 ∨ i = 31 ∨ i = 32 ∨ i = 33 := by omega
            clear h1 h2
            rcases hc with rfl | rfl | rfl | rfl | rfl | rfl | rfl
            · obtain rfl := Option.some.inj hi
              have g27 : A.tmps.getD 31 undef = .bool true := hold 31 (by kernel_rfl)
              have s2 : A.tmps.getD 2 undef = .pointer (some ⟨w.heap.size, 0, none⟩) := hold 2 (by kernel_rfl)
              exact q_pure hi (wanted_of rfl rfl g27) rfl (y_fldM4 _ s2)
            · obtain rfl := Option.some.inj hi
              have g28 : A.tmps.getD 31 undef = .bool true := hold 31 (by kernel_rfl)
              have s32 : A.tmps.getD 32 undef = .pointer (some ⟨w.heap.size, 7, none⟩) := hdeps 27 (by decide) (by decide)
              exact q_pure hi (wanted_of rfl rfl g28) rfl (y_loadMid _ _ s32 (msg_key HX.out) Tryz.underlying28 rfl infoKey10)
            · obtain rfl := Option.some.inj hi
              have g29 : A.tmps.getD 31 undef = .bool true := hold 31 (by kernel_rfl)
              have s3 : A.tmps.getD 3 undef = .pointer (some ⟨w.heap.size + 1, 0, none⟩) := hold 3 (by kernel_rfl)
              exact q_pure hi (wanted_of rfl rfl g29) rfl (y_fldM4 _ s3)
            · obtain rfl := Option.some.inj hi
              have g30 : A.tmps.getD 31 undef = .bool true := hold 31 (by kernel_rfl)
              have s34 : A.tmps.getD 34 undef = .pointer (some ⟨w.heap.size + 1, 7, none⟩) := hdeps 29 (by decide) (by decide)
              exact q_pure hi (wanted_of rfl rfl g30) rfl (y_loadMid _ _ s34 (msg_key HY.out) Tryz.underlying28 rfl infoKey10)
            · obtain rfl := Option.some.inj hi
              have g31 : A.tmps.getD 31 undef = .bool true := hold 31 (by kernel_rfl)
              have s33 : A.tmps.getD 33 undef = .agg (eightA m.key) := hdeps 28 (by decide) (by decide)
              have s35 : A.tmps.getD 35 undef = .agg (eightA k.key) := hdeps 30 (by decide) (by decide)
              exact q_pure hi (wanted_of rfl rfl g31) rfl (y_bin _ _ _ _ _ s33 s35 E4.out (by kernel_rfl))
            · obtain rfl := Option.some.inj hi
              have s31 : A.tmps.getD 31 undef = .bool true := hold 31 (by kernel_rfl)
              have s36 : A.tmps.getD 36 undef = .bool true := hdeps 31 (by decide) (by decide)
              exact q_pure hi rfl rfl (y_pickT _ _ _ s31 s36)
            · obtain rfl := Option.some.inj hi
              have s37 : A.tmps.getD 37 undef = .bool true := hdeps 32 (by decide) (by decide)
              exact q_pure hi rfl rfl (y_move _ s37)
          · simp only [putAll, Act.put, List.setIfInBounds_toArray, List.set_cons_succ, List.set_cons_zero]
            clear E4
            by_cases h5 : m.mode = k.mode
            rotate_left
            · have HE : Hid (R = false) := hide (by rw [HR.out]; exact decide_eq_false (fun e => h5 (by rw [e])))
              have E5 : Hid ((binOp .eql 5 (.int .u8 (m.mode : Int)) (.int .u8 (k.mode : Int))).run Tryz.prog w2 = .ok (.bool false) w2) := hide (by rw [eql_u8_10 _ _ w2, decide_eq_false h5])
              refine seq_vals _ _ 34 7 [(39, .pointer (some ⟨w.heap.size, 15, none⟩)), (40, .int .u8 (m.mode : Int)), (41, .pointer (some ⟨w.heap.size + 1, 15, none⟩)), (42, .int .u8 (k.mode : Int)), (43, .bool false), (44, .bool false), (45, .bool false)] (by kernel_rfl) rfl ?_ ?_
              · intro i o hi h1 h2 A hold hdeps
                have hc : i = 34 ∨ i = 35 ∨ i = 36 ∨ i = 37 ∨ i = 38 ∨ i = 39 ∨ i = 40 := by omega
                clear h1 h2
                rcases hc with rfl | rfl | rfl | rfl | rfl | rfl | rfl
                · obtain rfl := Option.some.inj hi
                  have g34 : A.tmps.getD 38 undef = .bool true := hold 38 (by kernel_rfl)
                  have s2 : A.tmps.getD 2 undef = .pointer (some ⟨w.heap.size, 0, none⟩) := hold 2 (by kernel_rfl)
                  exact q_pure hi (wanted_of rfl rfl g34) rfl (y_fldM5 _ s2)
                · obtain rfl := Option.some.inj hi
                  have g35 : A.tmps.getD 38 undef = .bool true := hold 38 (by kernel_rfl)
                  have s39 : A.tmps.getD 39 undef = .pointer (some ⟨w.heap.size, 15, none⟩) := hdeps 34 (by decide) (by decide)
                  exact q_pure hi (wanted_of rfl rfl g35) rfl (y_cell_u8 _ s39 (HX.out.cell 15 _ rfl))
                · obtain rfl := Option.some.inj hi
                  have g36 : A.tmps.getD 38 undef = .bool true := hold 38 (by kernel_rfl)
                  have s3 : A.tmps.getD 3 undef = .pointer (some ⟨w.heap.size + 1, 0, none⟩) := hold 3 (by kernel_rfl)
                  exact q_pure hi (wanted_of rfl rfl g36) rfl (y_fldM5 _ s3)
                · obtain rfl := Option.some.inj hi
                  have g37 : A.tmps.getD 38 undef = .bool true := hold 38 (by kernel_rfl)
                  have s41 : A.tmps.getD 41 undef = .pointer (some ⟨w.heap.size + 1, 15, none⟩) := hdeps 36 (by decide) (by decide)
                  exact q_pure hi (wanted_of rfl rfl g37) rfl (y_cell_u8 _ s41 (HY.out.cell 15 _ rfl))
                · obtain rfl := Option.some.inj hi
                  have g38 : A.tmps.getD 38 undef = .bool true := hold 38 (by kernel_rfl)
                  have s40 : A.tmps.getD 40 undef = .int .u8 (m.mode : Int) := hdeps 35 (by decide) (by decide)
                  have s42 : A.tmps.getD 42 undef = .int .u8 (k.mode : Int) := hdeps 37 (by decide) (by decide)
                  exact q_pure hi (wanted_of rfl rfl g38) rfl (y_bin _ _ _ _ _ s40 s42 E5.out (by kernel_rfl))
                · obtain rfl := Option.some.inj hi
                  have s38 : A.tmps.getD 38 undef = .bool true := hold 38 (by kernel_rfl)
                  have s43 : A.tmps.getD 43 undef = .bool false := hdeps 38 (by decide) (by decide)
                  exact q_pure hi rfl rfl (y_pickT _ _ _ s38 s43)
                · obtain rfl := Option.some.inj hi
                  have s44 : A.tmps.getD 44 undef = .bool false := hdeps 39 (by decide) (by decide)
                  exact q_pure hi rfl rfl (y_move _ s44)
              · simp only [putAll, Act.put, List.setIfInBounds_toArray, List.set_cons_succ, List.set_cons_zero]
                clear E5 HX HY HM HK CW
                go_wp2_with fail
                rw [hK2.out]
                go_wp2_with fail
                go_ret
                exact ⟨by rw [HE.out]; rfl, HA.out⟩
            have E5 : Hid ((binOp .eql 5 (.int .u8 (m.mode : Int)) (.int .u8 (k.mode : Int))).run Tryz.prog w2 = .ok (.bool true) w2) := hide (by rw [eql_u8_10 _ _ w2, decide_eq_true h5])
            refine seq_vals _ _ 34 7 [(39, .pointer (some ⟨w.heap.size, 15, none⟩)), (40, .int .u8 (m.mode : Int)), (41, .pointer (some ⟨w.heap.size + 1, 15, none⟩)), (42, .int .u8 (k.mode : Int)), (43, .bool true), (44, .bool true), (45, .bool true)] (by kernel_rfl) rfl ?_ ?_
            · intro i o hi h1 h2 A hold hdeps
              have hc : i = 34 ∨ i = 35 ∨ i = 36 ∨ i = 37 ∨ i = 38 ∨ i = 39 ∨ i = 40 := by omega
              clear h1 h2
              rcases hc with rfl | rfl | rfl | rfl | rfl | rfl | rfl
              · obtain rfl := Option.some.inj hi
                have g34 : A.tmps.getD 38 undef = .bool true := hold 38 (by kernel_rfl)
                have s2 : A.tmps.getD 2 undef = .pointer (some ⟨w.heap.size, 0, none⟩) := hold 2 (by kernel_rfl)
                exact q_pure hi (wanted_of rfl rfl g34) rfl (y_fldM5 _ s2)
              · obtain rfl := Option.some.inj hi
                have g35 : A.tmps.getD 38 undef = .bool true := hold 38 (by kernel_rfl)
                have s39 : A.tmps.getD 39 undef = .pointer (some ⟨w.heap.size, 15, none⟩) := hdeps 34 (by decide) (by decide)
                exact q_pure hi (wanted_of rfl rfl g35) rfl (y_cell_u8 _ s39 (HX.out.cell 15 _ rfl))
              · obtain rfl := Option.some.inj hi
                have g36 : A.tmps.getD 38 undef = .bool true := hold 38 (by kernel_rfl)
                have s3 : A.tmps.getD 3 undef = .pointer (some ⟨w.heap.size + 1, 0, none⟩) := hold 3 (by kernel_rfl)
                exact q_pure hi (wanted_of rfl rfl g36) rfl (y_fldM5 _ s3)
              · obtain rfl := Option.some.inj hi
                have g37 : A.tmps.getD 38 undef = .bool true := hold 38 (by kernel_rfl)
                have s41 : A.tmps.getD 41 undef = .pointer (some ⟨w.heap.size + 1, 15, none⟩) := hdeps 36 (by decide) (by decide)
                exact q_pure hi (wanted_of rfl rfl g37) rfl (y_cell_u8 _ s41 (HY.out.cell 15 _ rfl))
              · obtain rfl := Option.some.inj hi
                have g38 : A.tmps.getD 38 undef = .bool true := hold 38 (by kernel_rfl)
                have s40 : A.tmps.getD 40 undef = .int .u8 (m.mode : Int) := hdeps 35 (by decide) (by decide)
                have s42 : A.tmps.getD 42 undef = .int .u8 (k.mode : Int) := hdeps 37 (by decide) (by decide)
                exact q_pure hi (wanted_of rfl rfl g38) rfl (y_bin _ _ _ _ _ s40 s42 E5.out (by kernel_rfl))
              · obtain rfl := Option.some.inj hi
                have s38 : A.tmps.getD 38 undef = .bool true := hold 38 (by kernel_rfl)
                have s43 : A.tmps.getD 43 undef = .bool true := hdeps 38 (by decide) (by decide)
                exact q_pure hi rfl rfl (y_pickT _ _ _ s38 s43)
              · obtain rfl := Option.some.inj hi
                have s44 : A.tmps.getD 44 undef = .bool true := hdeps 39 (by decide) (by decide)
                exact q_pure hi rfl rfl (y_move _ s44)
            · simp only [putAll, Act.put, List.setIfInBounds_toArray, List.set_cons_succ, List.set_cons_zero]
              clear E5
              by_cases h6 : m.no = k.no
              rotate_left
              · have HE : Hid (R = false) := hide (by rw [HR.out]; exact decide_eq_false (fun e => h6 (by rw [e])))
                have E6 : Hid ((binOp .eql 22 (.int .u32 (m.no : Int)) (.int .u32 (k.no : Int))).run Tryz.prog w2 = .ok (.bool false) w2) := hide (by rw [eql_u32_10 _ _ w2, decide_eq_false h6])
                refine seq_vals _ _ 41 7 [(46, .pointer (some ⟨w.heap.size, 16, none⟩)), (47, .int .u32 (m.no : Int)), (48, .pointer (some ⟨w.heap.size + 1, 16, none⟩)), (49, .int .u32 (k.no : Int)), (50, .bool false), (51, .bool false), (52, .bool false)] (by kernel_rfl) rfl ?_ ?_
                · intro i o hi h1 h2 A hold hdeps
                  have hc : i = 41 ∨ i = 42 ∨ i = 43 ∨ i = 44 ∨ i = 45 ∨ i = 46 ∨ i = 47 := by omega
                  clear h1 h2
                  rcases hc with rfl | rfl | rfl | rfl | rfl | rfl | rfl
                  · obtain rfl := Option.some.inj hi
                    have g41 : A.tmps.getD 45 undef = .bool true := hold 45 (by kernel_rfl)
                    have s2 : A.tmps.getD 2 undef = .pointer (some ⟨w.heap.size, 0, none⟩) := hold 2 (by kernel_rfl)
                    exact q_pure hi (wanted_of rfl rfl g41) rfl (y_fldM6 _ s2)
                  · obtain rfl := Option.some.inj hi
                    have g42 : A.tmps.getD 45 undef = .bool true := hold 45 (by kernel_rfl)
                    have s46 : A.tmps.getD 46 undef = .pointer (some ⟨w.heap.size, 16, none⟩) := hdeps 41 (by decide) (by decide)
                    exact q_pure hi (wanted_of rfl rfl g42) rfl (y_cell_u32 _ s46 (HX.out.cell 16 _ rfl))
                  · obtain rfl := Option.some.inj hi
                    have g43 : A.tmps.getD 45 undef = .bool true := hold 45 (by kernel_rfl)
                    have s3 : A.tmps.getD 3 undef = .pointer (some ⟨w.heap.size + 1, 0, none⟩) := hold 3 (by kernel_rfl)
                    exact q_pure hi (wanted_of rfl rfl g43) rfl (y_fldM6 _ s3)
                  · obtain rfl := Option.some.inj hi
                    have g44 : A.tmps.getD 45 undef = .bool true := hold 45 (by kernel_rfl)
                    have s48 : A.tmps.getD 48 undef = .pointer (some ⟨w.heap.size + 1, 16, none⟩) := hdeps 43 (by decide) (by decide)
                    exact q_pure hi (wanted_of rfl rfl g44) rfl (y_cell_u32 _ s48 (HY.out.cell 16 _ rfl))
                  · obtain rfl := Option.some.inj hi
                    have g45 : A.tmps.getD 45 undef = .bool true := hold 45 (by kernel_rfl)
                    have s47 : A.tmps.getD 47 undef = .int .u32 (m.no : Int) := hdeps 42 (by decide) (by decide)
                    have s49 : A.tmps.getD 49 undef = .int .u32 (k.no : Int) := hdeps 44 (by decide) (by decide)
                    exact q_pure hi (wanted_of rfl rfl g45) rfl (y_bin _ _ _ _ _ s47 s49 E6.out (by kernel_rfl))
                  · obtain rfl := Option.some.inj hi
                    have s45 : A.tmps.getD 45 undef = .bool true := hold 45 (by kernel_rfl)
                    have s50 : A.tmps.getD 50 undef = .bool false := hdeps 45 (by decide) (by decide)
                    exact q_pure hi rfl rfl (y_pickT _ _ _ s45 s50)
                  · obtain rfl := Option.some.inj hi
                    have s51 : A.tmps.getD 51 undef = .bool false := hdeps 46 (by decide) (by decide)
                    exact q_pure hi rfl rfl (y_move _ s51)
                · simp only [putAll, Act.put, List.setIfInBounds_toArray, List.set_cons_succ, List.set_cons_zero]
                  clear E6 HX HY HM HK CW
                  go_wp2_with fail
                  rw [hK2.out]
                  go_wp2_with fail
                  go_ret
                  exact ⟨by rw [HE.out]; rfl, HA.out⟩
              have E6 : Hid ((binOp .eql 22 (.int .u32 (m.no : Int)) (.int .u32 (k.no : Int))).run Tryz.prog w2 = .ok (.bool true) w2) := hide (by rw [eql_u32_10 _ _ w2, decide_eq_true h6])
              refine seq_vals _ _ 41 7 [(46, .pointer (some ⟨w.heap.size, 16, none⟩)), (47, .int .u32 (m.no : Int)), (48, .pointer (some ⟨w.heap.size + 1, 16, none⟩)), (49, .int .u32 (k.no : Int)), (50, .bool true), (51, .bool true), (52, .bool true)] (by kernel_rfl) rfl ?_ ?_
              · intro i o hi h1 h2 A hold hdeps
                have hc : i = 41 ∨ i = 42 ∨ i = 43 ∨ i = 44 ∨ i = 45 ∨ i = 46 ∨ i = 47 := by omega
                clear h1 h2
                rcases hc with rfl | rfl | rfl | rfl | rfl | rfl | rfl
                · obtain rfl := Option.some.inj hi
                  have g41 : A.tmps.getD 45 undef = .bool true := hold 45 (by kernel_rfl)
                  have s2 : A.tmps.getD 2 undef = .pointer (some ⟨w.heap.size, 0, none⟩) := hold 2 (by kernel_rfl)
                  exact q_pure hi (wanted_of rfl rfl g41) rfl (y_fldM6 _ s2)
                · obtain rfl := Option.some.inj hi
                  have g42 : A.tmps.getD 45 undef = .bool true := hold 45 (by kernel_rfl)
                  have s46 : A.tmps.getD 46 undef = .pointer (some ⟨w.heap.size, 16, none⟩) := hdeps 41 (by decide) (by decide)
                  exact q_pure hi (wanted_of rfl rfl g42) rfl (y_cell_u32 _ s46 (HX.out.cell 16 _ rfl))
                · obtain rfl := Option.some.inj hi
                  have g43 : A.tmps.getD 45 undef = .bool true := hold 45 (by kernel_rfl)
                  have s3 : A.tmps.getD 3 undef = .pointer (some ⟨w.heap.size + 1, 0, none⟩) := hold 3 (by kernel_rfl)
                  exact q_pure hi (wanted_of rfl rfl g43) rfl (y_fldM6 _ s3)
                · obtain rfl := Option.some.inj hi
                  have g44 : A.tmps.getD 45 undef = .bool true := hold 45 (by kernel_rfl)
                  have s48 : A.tmps.getD 48 undef = .pointer (some ⟨w.heap.size + 1, 16, none⟩) := hdeps 43 (by decide) (by decide)
                  exact q_pure hi (wanted_of rfl rfl g44) rfl (y_cell_u32 _ s48 (HY.out.cell 16 _ rfl))
                · obtain rfl := Option.some.inj hi
                  have g45 : A.tmps.getD 45 undef = .bool true := hold 45 (by kernel_rfl)
                  have s47 : A.tmps.getD 47 undef = .int .u32 (m.no : Int) := hdeps 42 (by decide) (by decide)
                  have s49 : A.tmps.getD 49 undef = .int .u32 (k.no : Int) := hdeps 44 (by decide) (by decide)
                  exact q_pure hi (wanted_of rfl rfl g45) rfl (y_bin _ _ _ _ _ s47 s49 E6.out (by kernel_rfl))
                · obtain rfl := Option.some.inj hi
                  have s45 : A.tmps.getD 45 undef = .bool true := hold 45 (by kernel_rfl)
                  have s50 : A.tmps.getD 50 undef = .bool true := hdeps 45 (by decide) (by decide)
                  exact q_pure hi rfl rfl (y_pickT _ _ _ s45 s50)
                · obtain rfl := Option.some.inj hi
                  have s51 : A.tmps.getD 51 undef = .bool true := hdeps 46 (by decide) (by decide)
                  exact q_pure hi rfl rfl (y_move _ s51)
              · simp only [putAll, Act.put, List.setIfInBounds_toArray, List.set_cons_succ, List.set_cons_zero]
                clear E6
                by_cases h7 : m.why = k.why
                rotate_left
                · have HE : Hid (R = false) := hide (by rw [HR.out]; exact decide_eq_false (fun e => h7 (by rw [e])))
                  have E7 : Hid ((binOp .eql 5 (.int .u8 (m.why : Int)) (.int .u8 (k.why : Int))).run Tryz.prog w2 = .ok (.bool false) w2) := hide (by rw [eql_u8_10 _ _ w2, decide_eq_false h7])
                  refine seq_vals _ _ 48 7 [(53, .pointer (some ⟨w.heap.size, 17, none⟩)), (54, .int .u8 (m.why : Int)), (55, .pointer (some ⟨w.heap.size + 1, 17, none⟩)), (56, .int .u8 (k.why : Int)), (57, .bool false), (58, .bool false), (59, .bool false)] (by kernel_rfl) rfl ?_ ?_
                  · intro i o hi h1 h2 A hold hdeps
                    have hc : i = 48 ∨ i = 49 ∨ i = 50 ∨ i = 51 ∨ i = 52 ∨ i = 53 ∨ i = 54 := by omega
                    clear h1 h2
                    rcases hc with rfl | rfl | rfl | rfl | rfl | rfl | rfl
                    · obtain rfl := Option.some.inj hi
                      have g48 : A.tmps.getD 52 undef = .bool true := hold 52 (by kernel_rfl)
                      have s2 : A.tmps.getD 2 undef = .pointer (some ⟨w.heap.size, 0, none⟩) := hold 2 (by kernel_rfl)
                      exact q_pure hi (wanted_of rfl rfl g48) rfl (y_fldM7 _ s2)
                    · obtain rfl := Option.some.inj hi
                      have g49 : A.tmps.getD 52 undef = .bool true := hold 52 (by kernel_rfl)
                      have s53 : A.tmps.getD 53 undef = .pointer (some ⟨w.heap.size, 17, none⟩) := hdeps 48 (by decide) (by decide)
                      exact q_pure hi (wanted_of rfl rfl g49) rfl (y_cell_u8 _ s53 (HX.out.cell 17 _ rfl))
                    · obtain rfl := Option.some.inj hi
                      have g50 : A.tmps.getD 52 undef = .bool true := hold 52 (by kernel_rfl)
                      have s3 : A.tmps.getD 3 undef = .pointer (some ⟨w.heap.size + 1, 0, none⟩) := hold 3 (by kernel_rfl)
                      exact q_pure hi (wanted_of rfl rfl g50) rfl (y_fldM7 _ s3)
                    · obtain rfl := Option.some.inj hi
                      have g51 : A.tmps.getD 52 undef = .bool true := hold 52 (by kernel_rfl)
                      have s55 : A.tmps.getD 55 undef = .pointer (some ⟨w.heap.size + 1, 17, none⟩) := hdeps 50 (by decide) (by decide)
                      exact q_pure hi (wanted_of rfl rfl g51) rfl (y_cell_u8 _ s55 (HY.out.cell 17 _ rfl))
                    · obtain rfl := Option.some.inj hi
                      have g52 : A.tmps.getD 52 undef = .bool true := hold 52 (by kernel_rfl)
                      have s54 : A.tmps.getD 54 undef = .int .u8 (m.why : Int) := hdeps 49 (by decide) (by decide)
                      have s56 : A.tmps.getD 56 undef = .int .u8 (k.why : Int) := hdeps 51 (by decide) (by decide)
                      exact q_pure hi (wanted_of rfl rfl g52) rfl (y_bin _ _ _ _ _ s54 s56 E7.out (by kernel_rfl))
                    · obtain rfl := Option.some.inj hi
                      have s52 : A.tmps.getD 52 undef = .bool true := hold 52 (by kernel_rfl)
                      have s57 : A.tmps.getD 57 undef = .bool false := hdeps 52 (by decide) (by decide)
                      exact q_pure hi rfl rfl (y_pickT _ _ _ s52 s57)
                    · obtain rfl := Option.some.inj hi
                      have s58 : A.tmps.getD 58 undef = .bool false := hdeps 53 (by decide) (by decide)
                      exact q_pure hi rfl rfl (y_move _ s58)
                  · simp only [putAll, Act.put, List.setIfInBounds_toArray, List.set_cons_succ, List.set_cons_zero]
                    clear E7 HX HY HM HK CW
                    go_wp2_with fail
                    rw [hK2.out]
                    go_wp2_with fail
                    go_ret
                    exact ⟨by rw [HE.out]; rfl, HA.out⟩
                have E7 : Hid ((binOp .eql 5 (.int .u8 (m.why : Int)) (.int .u8 (k.why : Int))).run Tryz.prog w2 = .ok (.bool true) w2) := hide (by rw [eql_u8_10 _ _ w2, decide_eq_true h7])
                refine seq_vals _ _ 48 7 [(53, .pointer (some ⟨w.heap.size, 17, none⟩)), (54, .int .u8 (m.why : Int)), (55, .pointer (some ⟨w.heap.size + 1, 17, none⟩)), (56, .int .u8 (k.why : Int)), (57, .bool true), (58, .bool true), (59, .bool true)] (by kernel_rfl) rfl ?_ ?_
                · intro i o hi h1 h2 A hold hdeps
                  have hc : i = 48 ∨ i = 49 ∨ i = 50 ∨ i = 51 ∨ i = 52 ∨ i = 53 ∨ i = 54 := by omega
                  clear h1 h2
                  rcases hc with rfl | rfl | rfl | rfl | rfl | rfl | rfl
                  · obtain rfl := Option.some.inj hi
                    have g48 : A.tmps.getD 52 undef = .bool true := hold 52 (by kernel_rfl)
                    have s2 : A.tmps.getD 2 undef = .pointer (some ⟨w.heap.size, 0, none⟩) := hold 2 (by kernel_rfl)
                    exact q_pure hi (wanted_of rfl rfl g48) rfl (y_fldM7 _ s2)
                  · obtain rfl := Option.some.inj hi
                    have g49 : A.tmps.getD 52 undef = .bool true := hold 52 (by kernel_rfl)
                    have s53 : A.tmps.getD 53 undef = .pointer (some ⟨w.heap.size, 17, none⟩) := hdeps 48 (by decide) (by decide)
                    exact q_pure hi (wanted_of rfl rfl g49) rfl (y_cell_u8 _ s53 (HX.out.cell 17 _ rfl))
                  · obtain rfl := Option.some.inj hi
                    have g50 : A.tmps.getD 52 undef = .bool true := hold 52 (by kernel_rfl)
                    have s3 : A.tmps.getD 3 undef = .pointer (some ⟨w.heap.size + 1, 0, none⟩) := hold 3 (by kernel_rfl)
                    exact q_pure hi (wanted_of rfl rfl g50) rfl (y_fldM7 _ s3)
                  · obtain rfl := Option.some.inj hi
                    have g51 : A.tmps.getD 52 undef = .bool true := hold 52 (by kernel_rfl)
                    have s55 : A.tmps.getD 55 undef = .pointer (some ⟨w.heap.size + 1, 17, none⟩) := hdeps 50 (by decide) (by decide)
                    exact q_pure hi (wanted_of rfl rfl g51) rfl (y_cell_u8 _ s55 (HY.out.cell 17 _ rfl))
                  · obtain rfl := Option.some.inj hi
                    have g52 : A.tmps.getD 52 undef = .bool true := hold 52 (by kernel_rfl)
                    have s54 : A.tmps.getD 54 undef = .int .u8 (m.why : Int) := hdeps 49 (by decide) (by decide)
                    have s56 : A.tmps.getD 56 undef = .int .u8 (k.why : Int) := hdeps 51 (by decide) (by decide)
                    exact q_pure hi (wanted_of rfl rfl g52) rfl (y_bin _ _ _ _ _ s54 s56 E7.out (by kernel_rfl))
                  · obtain rfl := Option.some.inj hi
                    have s52 : A.tmps.getD 52 undef = .bool true := hold 52 (by kernel_rfl)
                    have s57 : A.tmps.getD 57 undef = .bool true := hdeps 52 (by decide) (by decide)
                    exact q_pure hi rfl rfl (y_pickT _ _ _ s52 s57)
                  · obtain rfl := Option.some.inj hi
                    have s58 : A.tmps.getD 58 undef = .bool true := hdeps 53 (by decide) (by decide)
                    exact q_pure hi rfl rfl (y_move _ s58)
                · simp only [putAll, Act.put, List.setIfInBounds_toArray, List.set_cons_succ, List.set_cons_zero]
                  clear E7
                  by_cases h8 : m.yes = k.yes
                  rotate_left
                  · have HE : Hid (R = false) := hide (by rw [HR.out]; exact decide_eq_false (fun e => h8 (by rw [e])))
                    have E8 : Hid ((binOp .eql 5 (.int .u8 (m.yes : Int)) (.int .u8 (k.yes : Int))).run Tryz.prog w2 = .ok (.bool false) w2) := hide (by rw [eql_u8_10 _ _ w2, decide_eq_false h8])
                    refine seq_vals _ _ 55 7 [(60, .pointer (some ⟨w.heap.size, 18, none⟩)), (61, .int .u8 (m.yes : Int)), (62, .pointer (some ⟨w.heap.size + 1, 18, none⟩)), (63, .int .u8 (k.yes : Int)), (64, .bool false), (65, .bool false), (66, .bool false)] (by kernel_rfl) rfl ?_ ?_
                    · intro i o hi h1 h2 A hold hdeps
                      have hc : i = 55 ∨ i = 56 ∨ i = 57 ∨ i = 58 ∨ i = 59 ∨ i = 60 ∨ i = 61 := by omega
                      clear h1 h2
                      rcases hc with rfl | rfl | rfl | rfl | rfl | rfl | rfl
                      · obtain rfl := Option.some.inj hi
                        have g55 : A.tmps.getD 59 undef = .bool true := hold 59 (by kernel_rfl)
                        have s2 : A.tmps.getD 2 undef = .pointer (some ⟨w.heap.size, 0, none⟩) := hold 2 (by kernel_rfl)
                        exact q_pure hi (wanted_of rfl rfl g55) rfl (y_fldM8 _ s2)
                      · obtain rfl := Option.some.inj hi
                        have g56 : A.tmps.getD 59 undef = .bool true := hold 59 (by kernel_rfl)
                        have s60 : A.tmps.getD 60 undef = .pointer (some ⟨w.heap.size, 18, none⟩) := hdeps 55 (by decide) (by decide)
                        exact q_pure hi (wanted_of rfl rfl g56) rfl (y_cell_u8 _ s60 (HX.out.cell 18 _ rfl))
                      · obtain rfl := Option.some.inj hi
                        have g57 : A.tmps.getD 59 undef = .bool true := hold 59 (by kernel_rfl)
                        have s3 : A.tmps.getD 3 undef = .pointer (some ⟨w.heap.size + 1, 0, none⟩) := hold 3 (by kernel_rfl)
                        exact q_pure hi (wanted_of rfl rfl g57) rfl (y_fldM8 _ s3)
                      · obtain rfl := Option.some.inj hi
                        have g58 : A.tmps.getD 59 undef = .bool true := hold 59 (by kernel_rfl)
                        have s62 : A.tmps.getD 62 undef = .pointer (some ⟨w.heap.size + 1, 18, none⟩) := hdeps 57 (by decide) (by decide)
                        exact q_pure hi (wanted_of rfl rfl g58) rfl (y_cell_u8 _ s62 (HY.out.cell 18 _ rfl))
                      · obtain rfl := Option.some.inj hi
                        have g59 : A.tmps.getD 59 undef = .bool true := hold 59 (by kernel_rfl)
                        have s61 : A.tmps.getD 61 undef = .int .u8 (m.yes : Int) := hdeps 56 (by decide) (by decide)
                        have s63 : A.tmps.getD 63 undef = .int .u8 (k.yes : Int) := hdeps 58 (by decide) (by decide)
                        exact q_pure hi (wanted_of rfl rfl g59) rfl (y_bin _ _ _ _ _ s61 s63 E8.out (by kernel_rfl))
                      · obtain rfl := Option.some.inj hi
                        have s59 : A.tmps.getD 59 undef = .bool true := hold 59 (by kernel_rfl)
                        have s64 : A.tmps.getD 64 undef = .bool false := hdeps 59 (by decide) (by decide)
                        exact q_pure hi rfl rfl (y_pickT _ _ _ s59 s64)
                      · obtain rfl := Option.some.inj hi
                        have s65 : A.tmps.getD 65 undef = .bool false := hdeps 60 (by decide) (by decide)
                        exact q_pure hi rfl rfl (y_move _ s65)
                    · simp only [putAll, Act.put, List.setIfInBounds_toArray, List.set_cons_succ, List.set_cons_zero]
                      clear E8 HX HY HM HK CW
                      go_wp2_with fail
                      rw [hK2.out]
                      go_wp2_with fail
                      go_ret
                      exact ⟨by rw [HE.out]; rfl, HA.out⟩
                  have E8 : Hid ((binOp .eql 5 (.int .u8 (m.yes : Int)) (.int .u8 (k.yes : Int))).run Tryz.prog w2 = .ok (.bool true) w2) := hide (by rw [eql_u8_10 _ _ w2, decide_eq_true h8])
                  refine seq_vals _ _ 55 7 [(60, .pointer (some ⟨w.heap.size, 18, none⟩)), (61, .int .u8 (m.yes : Int)), (62, .pointer (some ⟨w.heap.size + 1, 18, none⟩)), (63, .int .u8 (k.yes : Int)), (64, .bool true), (65, .bool true), (66, .bool true)] (by kernel_rfl) rfl ?_ ?_
                  · intro i o hi h1 h2 A hold hdeps
                    have hc : i = 55 ∨ i = 56 ∨ i = 57 ∨ i = 58 ∨ i = 59 ∨ i = 60 ∨ i = 61 := by omega
                    clear h1 h2
                    rcases hc with rfl | rfl | rfl | rfl | rfl | rfl | rfl
                    · obtain rfl := Option.some.inj hi
                      have g55 : A.tmps.getD 59 undef = .bool true := hold 59 (by kernel_rfl)
                      have s2 : A.tmps.getD 2 undef = .pointer (some ⟨w.heap.size, 0, none⟩) := hold 2 (by kernel_rfl)
                      exact q_pure hi (wanted_of rfl rfl g55) rfl (y_fldM8 _ s2)
                    · obtain rfl := Option.some.inj hi
                      have g56 : A.tmps.getD 59 undef = .bool true := hold 59 (by kernel_rfl)
                      have s60 : A.tmps.getD 60 undef = .pointer (some ⟨w.heap.size, 18, none⟩) := hdeps 55 (by decide) (by decide)
                      exact q_pure hi (wanted_of rfl rfl g56) rfl (y_cell_u8 _ s60 (HX.out.cell 18 _ rfl))
                    · obtain rfl := Option.some.inj hi
                      have g57 : A.tmps.getD 59 undef = .bool true := hold 59 (by kernel_rfl)
                      have s3 : A.tmps.getD 3 undef = .pointer (some ⟨w.heap.size + 1, 0, none⟩) := hold 3 (by kernel_rfl)
                      exact q_pure hi (wanted_of rfl rfl g57) rfl (y_fldM8 _ s3)
                    · obtain rfl := Option.some.inj hi
                      have g58 : A.tmps.getD 59 undef = .bool true := hold 59 (by kernel_rfl)
                      have s62 : A.tmps.getD 62 undef = .pointer (some ⟨w.heap.size + 1, 18, none⟩) := hdeps 57 (by decide) (by decide)
                      exact q_pure hi (wanted_of rfl rfl g58) rfl (y_cell_u8 _ s62 (HY.out.cell 18 _ rfl))
                    · obtain rfl := Option.some.inj hi
                      have g59 : A.tmps.getD 59 undef = .bool true := hold 59 (by kernel_rfl)
                      have s61 : A.tmps.getD 61 undef = .int .u8 (m.yes : Int) := hdeps 56 (by decide) (by decide)
                      have s63 : A.tmps.getD 63 undef = .int .u8 (k.yes : Int) := hdeps 58 (by decide) (by decide)
                      exact q_pure hi (wanted_of rfl rfl g59) rfl (y_bin _ _ _ _ _ s61 s63 E8.out (by kernel_rfl))
                    · obtain rfl := Option.some.inj hi
                      have s59 : A.tmps.getD 59 undef = .bool true := hold 59 (by kernel_rfl)
                      have s64 : A.tmps.getD 64 undef = .bool true := hdeps 59 (by decide) (by decide)
                      exact q_pure hi rfl rfl (y_pickT _ _ _ s59 s64)
                    · obtain rfl := Option.some.inj hi
                      have s65 : A.tmps.getD 65 undef = .bool true := hdeps 60 (by decide) (by decide)
                      exact q_pure hi rfl rfl (y_move _ s65)
                  · simp only [putAll, Act.put, List.setIfInBounds_toArray, List.set_cons_succ, List.set_cons_zero]
                    clear E8
                    by_cases h9 : m.item = k.item
                    rotate_left
                    · have HE : Hid (R = false) := hide (by rw [HR.out]; exact decide_eq_false (fun e => h9 (by rw [e])))
                      have E9 : Hid ((binOp .eql 32 (.agg (itA m.item)) (.agg (itA k.item))).run Tryz.prog w2 = .ok (.bool false) w2) := hide (by rw [eql_it10 HM.out.item HK.out.item w2, decide_eq_false h9])
                      refine seq_vals _ _ 62 7 [(67, .pointer (some ⟨w.heap.size, 19, none⟩)), (68, .agg (itA m.item)), (69, .pointer (some ⟨w.heap.size + 1, 19, none⟩)), (70, .agg (itA k.item)), (71, .bool false), (72, .bool false), (73, .bool false)] (by kernel_rfl) rfl ?_ ?_
                      · intro i o hi h1 h2 A hold hdeps
                        have hc : i = 62 ∨ i = 63 ∨ i = 64 ∨ i = 65 ∨ i = 66 ∨ i = 67 ∨ i = 68 := by omega
                        clear h1 h2
                        rcases hc with rfl | rfl | rfl | rfl | rfl | rfl | rfl
                        · obtain rfl := Option.some.inj hi
                          have g62 : A.tmps.getD 66 undef = .bool true := hold 66 (by kernel_rfl)
                          have s2 : A.tmps.getD 2 undef = .pointer (some ⟨w.heap.size, 0, none⟩) := hold 2 (by kernel_rfl)
                          exact q_pure hi (wanted_of rfl rfl g62) rfl (y_fldM9 _ s2)
                        · obtain rfl := Option.some.inj hi
                          have g63 : A.tmps.getD 66 undef = .bool true := hold 66 (by kernel_rfl)
                          have s67 : A.tmps.getD 67 undef = .pointer (some ⟨w.heap.size, 19, none⟩) := hdeps 62 (by decide) (by decide)
                          exact q_pure hi (wanted_of rfl rfl g63) rfl (y_loadMid _ _ s67 (msg_item HX.out) Tryz.underlying32 rfl infoItem)
                        · obtain rfl := Option.some.inj hi
                          have g64 : A.tmps.getD 66 undef = .bool true := hold 66 (by kernel_rfl)
                          have s3 : A.tmps.getD 3 undef = .pointer (some ⟨w.heap.size + 1, 0, none⟩) := hold 3 (by kernel_rfl)
                          exact q_pure hi (wanted_of rfl rfl g64) rfl (y_fldM9 _ s3)
                        · obtain rfl := Option.some.inj hi
                          have g65 : A.tmps.getD 66 undef = .bool true := hold 66 (by kernel_rfl)
                          have s69 : A.tmps.getD 69 undef = .pointer (some ⟨w.heap.size + 1, 19, none⟩) := hdeps 64 (by decide) (by decide)
                          exact q_pure hi (wanted_of rfl rfl g65) rfl (y_loadMid _ _ s69 (msg_item HY.out) Tryz.underlying32 rfl infoItem)
                        · obtain rfl := Option.some.inj hi
                          have g66 : A.tmps.getD 66 undef = .bool true := hold 66 (by kernel_rfl)
                          have s68 : A.tmps.getD 68 undef = .agg (itA m.item) := hdeps 63 (by decide) (by decide)
                          have s70 : A.tmps.getD 70 undef = .agg (itA k.item) := hdeps 65 (by decide) (by decide)
                          exact q_pure hi (wanted_of rfl rfl g66) rfl (y_bin _ _ _ _ _ s68 s70 E9.out (by kernel_rfl))
                        · obtain rfl := Option.some.inj hi
                          have s66 : A.tmps.getD 66 undef = .bool true := hold 66 (by kernel_rfl)
                          have s71 : A.tmps.getD 71 undef = .bool false := hdeps 66 (by decide) (by decide)
                          exact q_pure hi rfl rfl (y_pickT _ _ _ s66 s71)
                        · obtain rfl := Option.some.inj hi
                          have s72 : A.tmps.getD 72 undef = .bool false := hdeps 67 (by decide) (by decide)
                          exact q_pure hi rfl rfl (y_move _ s72)
                      · simp only [putAll, Act.put, List.setIfInBounds_toArray, List.set_cons_succ, List.set_cons_zero]
                        clear E9 HX HY HM HK CW
                        go_wp2_with fail
                        rw [hK2.out]
                        go_wp2_with fail
                        go_ret
                        exact ⟨by rw [HE.out]; rfl, HA.out⟩
                    have E9 : Hid ((binOp .eql 32 (.agg (itA m.item)) (.agg (itA k.item))).run Tryz.prog w2 = .ok (.bool true) w2) := hide (by rw [eql_it10 HM.out.item HK.out.item w2, decide_eq_true h9])
                    refine seq_vals _ _ 62 7 [(67, .pointer (some ⟨w.heap.size, 19, none⟩)), (68, .agg (itA m.item)), (69, .pointer (some ⟨w.heap.size + 1, 19, none⟩)), (70, .agg (itA k.item)), (71, .bool true), (72, .bool true), (73, .bool true)] (by kernel_rfl) rfl ?_ ?_
                    · intro i o hi h1 h2 A hold hdeps
                      have hc : i = 62 ∨ i = 63 ∨ i = 64 ∨ i = 65 ∨ i = 66 ∨ i = 67 ∨ i = 68 := by omega
                      clear h1 h2
                      rcases hc with rfl | rfl | rfl | rfl | rfl | rfl | rfl
                      · obtain rfl := Option.some.inj hi
                        have g62 : A.tmps.getD 66 undef = .bool true := hold 66 (by kernel_rfl)
                        have s2 : A.tmps.getD 2 undef = .pointer (some ⟨w.heap.size, 0, none⟩) := hold 2 (by kernel_rfl)
                        exact q_pure hi (wanted_of rfl rfl g62) rfl (y_fldM9 _ s2)
                      · obtain rfl := Option.some.inj hi
                        have g63 : A.tmps.getD 66 undef = .bool true := hold 66 (by kernel_rfl)
                        have s67 : A.tmps.getD 67 undef = .pointer (some ⟨w.heap.size, 19, none⟩) := hdeps 62 (by decide) (by decide)
                        exact q_pure hi (wanted_of rfl rfl g63) rfl (y_loadMid _ _ s67 (msg_item HX.out) Tryz.underlying32 rfl infoItem)
                      · obtain rfl := Option.some.inj hi
                        have g64 : A.tmps.getD 66 undef = .bool true := hold 66 (by kernel_rfl)
                        have s3 : A.tmps.getD 3 undef = .pointer (some ⟨w.heap.size + 1, 0, none⟩) := hold 3 (by kernel_rfl)
                        exact q_pure hi (wanted_of rfl rfl g64) rfl (y_fldM9 _ s3)
                      · obtain rfl := Option.some.inj hi
                        have g65 : A.tmps.getD 66 undef = .bool true := hold 66 (by kernel_rfl)
                        have s69 : A.tmps.getD 69 undef = .pointer (some ⟨w.heap.size + 1, 19, none⟩) := hdeps 64 (by decide) (by decide)
                        exact q_pure hi (wanted_of rfl rfl g65) rfl (y_loadMid _ _ s69 (msg_item HY.out) Tryz.underlying32 rfl infoItem)
                      · obtain rfl := Option.some.inj hi
                        have g66 : A.tmps.getD 66 undef = .bool true := hold 66 (by kernel_rfl)
                        have s68 : A.tmps.getD 68 undef = .agg (itA m.item) := hdeps 63 (by decide) (by decide)
                        have s70 : A.tmps.getD 70 undef = .agg (itA k.item) := hdeps 65 (by decide) (by decide)
                        exact q_pure hi (wanted_of rfl rfl g66) rfl (y_bin _ _ _ _ _ s68 s70 E9.out (by kernel_rfl))
                      · obtain rfl := Option.some.inj hi
                        have s66 : A.tmps.getD 66 undef = .bool true := hold 66 (by kernel_rfl)
                        have s71 : A.tmps.getD 71 undef = .bool true := hdeps 66 (by decide) (by decide)
                        exact q_pure hi rfl rfl (y_pickT _ _ _ s66 s71)
                      · obtain rfl := Option.some.inj hi
                        have s72 : A.tmps.getD 72 undef = .bool true := hdeps 67 (by decide) (by decide)
                        exact q_pure hi rfl rfl (y_move _ s72)
                    · simp only [putAll, Act.put, List.setIfInBounds_toArray, List.set_cons_succ, List.set_cons_zero]
                      clear E9
                      have HE : Hid (R = decide (m.wr = k.wr)) := hide (by rw [HR.out]; exact same_tail h0 h1 h2 h3 h4 h5 h6 h7 h8 h9)
                      refine seq_vals _ _ 69 4 [(74, .pointer (some ⟨w.heap.size, 32, none⟩)), (75, .slice a1 l1 c1), (76, .pointer (some ⟨w.heap.size + 1, 32, none⟩)), (77, .slice a2 l2 c2)] (by kernel_rfl) rfl ?_ ?_
                      · intro i o hi h1 h2 A hold hdeps
                        have hc : i = 69 ∨ i = 70 ∨ i = 71 ∨ i = 72 := by omega
                        clear h1 h2
                        rcases hc with rfl | rfl | rfl | rfl
                        · obtain rfl := Option.some.inj hi
                          have g69 : A.tmps.getD 73 undef = .bool true := hold 73 (by kernel_rfl)
                          have s2 : A.tmps.getD 2 undef = .pointer (some ⟨w.heap.size, 0, none⟩) := hold 2 (by kernel_rfl)
                          exact q_pure hi (wanted_of rfl rfl g69) rfl (y_fldM10 _ s2)
                        · obtain rfl := Option.some.inj hi
                          have g70 : A.tmps.getD 73 undef = .bool true := hold 73 (by kernel_rfl)
                          have s74 : A.tmps.getD 74 undef = .pointer (some ⟨w.heap.size, 32, none⟩) := hdeps 69 (by decide) (by decide)
                          exact q_pure hi (wanted_of rfl rfl g70) rfl (y_cell_awrites _ s74 (HX.out.cell 32 _ rfl))
                        · obtain rfl := Option.some.inj hi
                          have g71 : A.tmps.getD 73 undef = .bool true := hold 73 (by kernel_rfl)
                          have s3 : A.tmps.getD 3 undef = .pointer (some ⟨w.heap.size + 1, 0, none⟩) := hold 3 (by kernel_rfl)
                          exact q_pure hi (wanted_of rfl rfl g71) rfl (y_fldM10 _ s3)
                        · obtain rfl := Option.some.inj hi
                          have g72 : A.tmps.getD 73 undef = .bool true := hold 73 (by kernel_rfl)
                          have s76 : A.tmps.getD 76 undef = .pointer (some ⟨w.heap.size + 1, 32, none⟩) := hdeps 71 (by decide) (by decide)
                          exact q_pure hi (wanted_of rfl rfl g72) rfl (y_cell_awrites _ s76 (HY.out.cell 32 _ rfl))
                      · simp only [putAll, Act.put, List.setIfInBounds_toArray, List.set_cons_succ, List.set_cons_zero]
                        clear HX HY HM HK
                        generalize decide (m.wr = k.wr) = z at *
                        go_wp2_with (first | (go_at_call 34; refine CW.out.mono ?_; rintro e w3 ⟨rfl, hB3⟩; have HB3 := hide hB3; clear hB3))
                        rw [hK2.out]
                        go_wp2_with fail
                        go_ret
                        exact ⟨by rw [HE.out]; rfl, HA.out.trans (HB3.out.mono HA.out.size)⟩
end
end Go.Proofs.YtoppdelljjapoaaGreat
