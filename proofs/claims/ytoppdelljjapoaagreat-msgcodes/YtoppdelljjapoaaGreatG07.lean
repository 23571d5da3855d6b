/-
  Own texts put together: VtOps, VtMay, RSets, VtRef, VtMay2. Own work.
-/
import Derived.Test.YtoppdelljjapoaaGreatG01
import Derived.Test.YtoppdelljjapoaaGreatG06
import Derived.Shelf.Abstract
import Derived.BigRegion
namespace Go.Proofs.YtoppdelljjapoaaGreat
section
open Go Go.RowKit Go.Shelf

section
variable {ρ : Operand → Value} {dst : Option Tmp} {ty : TypeId} {pos : String} {aft : Array Edge} {gd : Option (Nat × Bool)} {w : World}
theorem x_move (x : Operand) {v : Value} (hx : ρ x = v) : (execOp ρ ⟨dst, .move x, ty, pos, aft, gd⟩).run Tryz.prog w = .ok (.value v) w := by subst hx; simp [go_sem]
theorem x_assign (x : Operand) {v : Value} (hx : ρ x = v) : (execOp ρ ⟨dst, .assign x, ty, pos, aft, gd⟩).run Tryz.prog w = .ok (.value v) w := by subst hx; simp [go_sem]
theorem x_field1 (x : Operand) {q : Nat} (hx : ρ x = .pointer (some ⟨q, 0, none⟩)) : (execOp ρ ⟨dst, .fieldAddr 30 x 1, ty, pos, aft, gd⟩).run Tryz.prog w = .ok (.value (.pointer (some ⟨q, 1, none⟩))) w := by simp [go_sem, hx]
theorem x_field2 (x : Operand) {q : Nat} (hx : ρ x = .pointer (some ⟨q, 0, none⟩)) : (execOp ρ ⟨dst, .fieldAddr 30 x 2, ty, pos, aft, gd⟩).run Tryz.prog w = .ok (.value (.pointer (some ⟨q, 2, none⟩))) w := by simp [go_sem, hx]
theorem x_load8 (x : Operand) {q k : Nat} {s : Int} (hx : ρ x = .pointer (some ⟨q, k, none⟩)) (h : w.cell? ⟨q, k, none⟩ = some (.int .u8 s)) : (execOp ρ ⟨dst, .load 5 x, ty, pos, aft, gd⟩).run Tryz.prog w = .ok (.value (.int .u8 s)) w := by simp [go_sem, hx, h]
theorem x_loadI (x : Operand) {q k : Nat} {s : Int} (hx : ρ x = .pointer (some ⟨q, k, none⟩)) (h : w.cell? ⟨q, k, none⟩ = some (.int .i64 s)) : (execOp ρ ⟨dst, .load 3 x, ty, pos, aft, gd⟩).run Tryz.prog w = .ok (.value (.int .i64 s)) w := by simp [go_sem, hx, h]
theorem x_indexI (x y : Operand) {q n c k : Nat} (hx : ρ x = .slice (some ⟨q, 0, none⟩) n c) (hy : ρ y = .int .i64 (k : Int)) (h : k < n) : (execOp ρ ⟨dst, .indexAddr 87 x y, ty, pos, aft, gd⟩).run Tryz.prog w = .ok (.value (.pointer (some ⟨q, k, none⟩))) w := by
  have h1 : (0 : Int) ≤ (k : Int) := by omega
  have h2 : (k : Int) < (n : Int) := by omega
  simp [go_sem, hx, hy, h1, h2]
theorem x_loadC (x : Operand) {q : Nat} {c : Cf} {t : TypeId} (hok : c.Ok) (hx : ρ x = .pointer (some ⟨q, 0, none⟩)) (hb : Box w q c.arr t) : (execOp ρ ⟨dst, .load 30 x, ty, pos, aft, gd⟩).run Tryz.prog w = .ok (.value (.agg c.arr)) w := by
  have hr : w.rangeAt q 0 c.cells := arr_range hb
  have hs : c.cells.length = 11 := by have := hok.size; simpa [Cf.arr] using this
  have := run_loadAt_mid (P := Tryz.prog) w q 0 30 c.cells _ hr Tryz.underlying30 rfl (by rw [hs]; exact infoCfg)
  unfold execOp
  simp only [hx, Sem.run_bind, this]
  rfl
theorem x_conv (x : Operand) {n : Nat} (hx : ρ x = .int .u8 (n : Int)) (hn : n < 256) : (execOp ρ ⟨dst, .convert 5 3 x, ty, pos, aft, gd⟩).run Tryz.prog w = .ok (.value (.int .i64 (n : Int))) w := by
  have h2 : IntKind.i64.wrap (n : Int) = n := by rw [IntKind.wrap_i64]; omega
  simp [go_sem, hx, h2]
theorem x_eql (x y : Operand) {k : IntKind} {t : TypeId} {a b : Int} (hk : (t = 3 ∧ k = .i64) ∨ (t = 107 ∧ k = .u64)) (hx : ρ x = .int k a) (hy : ρ y = .int k b) : (execOp ρ ⟨dst, .binOp .eql t x y t, ty, pos, aft, gd⟩).run Tryz.prog w = .ok (.value (.bool (a == b))) w := by
  rcases hk with ⟨rfl, rfl⟩ | ⟨rfl, rfl⟩ <;> simp [go_sem, hx, hy]
theorem x_eqlB (x y : Operand) {a b : Bool} (hx : ρ x = .bool a) (hy : ρ y = .bool b) : (execOp ρ ⟨dst, .binOp .eql 4 x y 4, ty, pos, aft, gd⟩).run Tryz.prog w = .ok (.value (.bool (a == b))) w := by simp [go_sem, hx, hy]
theorem x_neq (x y : Operand) {a b : Int} (hx : ρ x = .int .i64 a) (hy : ρ y = .int .i64 b) : (execOp ρ ⟨dst, .binOp .neq 3 x y 3, ty, pos, aft, gd⟩).run Tryz.prog w = .ok (.value (.bool (a != b))) w := by simp [go_sem, hx, hy]
theorem x_geq (x y : Operand) {a b : Int} (hx : ρ x = .int .i64 a) (hy : ρ y = .int .i64 b) : (execOp ρ ⟨dst, .binOp .geq 3 x y 3, ty, pos, aft, gd⟩).run Tryz.prog w = .ok (.value (.bool (decide (b ≤ a)))) w := by simp [go_sem, hx, hy]
theorem x_gtr (x y : Operand) {a b : Int} (hx : ρ x = .int .i64 a) (hy : ρ y = .int .i64 b) : (execOp ρ ⟨dst, .binOp .gtr 3 x y 3, ty, pos, aft, gd⟩).run Tryz.prog w = .ok (.value (.bool (decide (b < a)))) w := by simp [go_sem, hx, hy]
theorem x_add (x y : Operand) {a b : Nat} (hx : ρ x = .int .i64 (a : Int)) (hy : ρ y = .int .i64 (b : Int)) (h : a + b < 1000000) : (execOp ρ ⟨dst, .binOp .add 3 x y 3, ty, pos, aft, gd⟩).run Tryz.prog w = .ok (.value (.int .i64 ((a + b : Nat) : Int))) w := by
  have h2 : IntKind.i64.wrap ((a : Int) + (b : Int)) = ((a + b : Nat) : Int) := by rw [IntKind.wrap_i64]; omega
  simp [go_sem, hx, hy, h2]
theorem x_or (x y : Operand) {a b : Nat} (ha : a < 18446744073709551616) (hb : b < 18446744073709551616) (hx : ρ x = .int .u64 (a : Int)) (hy : ρ y = .int .u64 (b : Int)) : (execOp ρ ⟨dst, .binOp .or 107 x y 107, ty, pos, aft, gd⟩).run Tryz.prog w = .ok (.value (.int .u64 ((a ||| b : Nat) : Int))) w := by
  have h2 := u64_or_nat a b ha hb
  simp [go_sem, hx, hy, h2]
theorem x_and (x y : Operand) {a b : Nat} (ha : a < 18446744073709551616) (hb : b < 18446744073709551616) (hx : ρ x = .int .u64 (a : Int)) (hy : ρ y = .int .u64 (b : Int)) : (execOp ρ ⟨dst, .binOp .and 107 x y 107, ty, pos, aft, gd⟩).run Tryz.prog w = .ok (.value (.int .u64 ((a &&& b : Nat) : Int))) w := by
  have h2 := u64_and_nat a b ha hb
  simp [go_sem, hx, hy, h2]
theorem x_not (x : Operand) {b : Bool} (hx : ρ x = .bool b) : (execOp ρ ⟨dst, .unOp .not 4 x, ty, pos, aft, gd⟩).run Tryz.prog w = .ok (.value (.bool (!b))) w := by simp [go_sem, hx]
theorem x_pickT (x y z : Operand) {v : Value} (hx : ρ x = .bool true) (hy : ρ y = v) : (execOp ρ ⟨dst, .pick x y z, ty, pos, aft, gd⟩).run Tryz.prog w = .ok (.value v) w := by subst hy; simp [go_sem, hx]
theorem x_pickF (x y z : Operand) {v : Value} (hx : ρ x = .bool false) (hz : ρ z = v) : (execOp ρ ⟨dst, .pick x y z, ty, pos, aft, gd⟩).run Tryz.prog w = .ok (.value v) w := by subst hz; simp [go_sem, hx]
theorem x_call (f : FuncId) (xs : Array Operand) (vs : Array Value) (tys : Array TypeId) (hf : ρ (.func f) = .func (.func f) #[] #[]) (hv : xs.map ρ = vs) (he : ∀ args w, (callFunc f args).run Tryz.prog w = .ok (.enter f args) w) : (execOp ρ ⟨dst, .call { callee := .value (.func f), args := xs, argTypes := tys }, ty, pos, aft, gd⟩).run Tryz.prog w = .ok (.enter f vs) w := by
  subst hv
  simp [go_sem, hf, he]
end
theorem en_of : ∀ args w, (callFunc 158 args).run Tryz.prog w = .ok (.enter 158 args) w := enters_of Tryz.func158 (by kernel_rfl) rfl
theorem en_voters : ∀ args w, (callFunc 159 args).run Tryz.prog w = .ok (.enter 159 args) w := enters_of Tryz.func159 (by kernel_rfl) rfl
theorem en_total : ∀ args w, (callFunc 109 args).run Tryz.prog w = .ok (.enter 109 args) w := enters_of Tryz.func109 (by kernel_rfl) rfl
theorem en_may : ∀ args w, (callFunc 48 args).run Tryz.prog w = .ok (.enter 48 args) w := enters_of Tryz.func48 (by kernel_rfl) rfl
theorem en_alive : ∀ args w, (callFunc 10 args).run Tryz.prog w = .ok (.enter 10 args) w := enters_of Tryz.func10 (by kernel_rfl) rfl
theorem en_rtotal : ∀ args w, (callFunc 110 args).run Tryz.prog w = .ok (.enter 110 args) w := enters_of Tryz.func110 (by kernel_rfl) rfl
theorem en_rmay : ∀ args w, (callFunc 49 args).run Tryz.prog w = .ok (.enter 49 args) w := enters_of Tryz.func49 (by kernel_rfl) rfl
theorem wpList_wanted {ops : Array Oper} {rest : List Oper} {o : Oper} {a : Act} {w : World} {Q : Exit → Act → World → Prop} {P : Program} (hg : Region.wanted o (yielded ops a.tmps) = true)
    (h : ∀ K : Act → World → Prop, (∀ a w, wpList P ops Q rest a w → K a w) → o.wp P a w K Q) : wpList P ops Q (o :: rest) a w :=
  wpList_step fun K hK => by simp only [hg, if_true]; exact h K hK
/-- The whole is loaded, behind a guard that lets it by. -/
theorem wp_load_cfg_g {ops : Array Oper} {rest : List Oper} {op : Oper} {a : Act} {w : World} {Q : Exit → Act → World → Prop} (hgd : Region.wanted op (yielded ops a.tmps) = true) (x : Operand) (ho : op.op = .load 30 x)
    (b : Nat) (hx : a.eval x = .pointer (some ⟨b, 0, none⟩)) {c : Cf} {t : TypeId} (hok : c.Ok) (hb : Box w b c.arr t)
    (h : wpList Tryz.prog ops Q rest (a.put op.dst (.agg c.arr)) w) : wpList Tryz.prog ops Q (op :: rest) a w := by
  have hr : w.rangeAt b 0 c.cells := arr_range hb
  have hs : c.cells.length = 11 := by have := hok.size; simpa [Cf.arr] using this
  exact wpList_wanted hgd fun _ hK => wp_load_mid 30 x ho b 0 hx c.cells _ hr Tryz.underlying30 rfl (by rw [hs]; exact infoCfg) (hK _ _ h)
/-- An operation of a region that leaves one value. -/
theorem v_pure {P : Program} {ops : Array Oper} {Q : Exit → Act → World → Prop} {i : Nat} {o : Oper} {a : Act} {w : World} {v : Value} {ps : List (Nat × Value)} (hi : ops[i]? = some o) (hw : Region.wanted o (yielded ops a.tmps) = true)
    (hv : pv ps i = v) (hr : (execOp a.eval o).run P w = .ok (.value v) w) : wpOp P ops Q i (fun a' w' => Below w.heap.size w w' ∧ ∃ v, InvV ps i v w' ∧ a' = a.put o.dst v) a w :=
  each_pure hi hw hr hv.symm
theorem v_enter {P : Program} {ops : Array Oper} {Q : Exit → Act → World → Prop} {i : Nat} {o : Oper} {a : Act} {w : World} {v : Value} {ps : List (Nat × Value)} {f : FuncId} {args : Array Value} (hi : ops[i]? = some o) (hw : Region.wanted o (yielded ops a.tmps) = true)
    (hv : pv ps i = v) (hr : (execOp a.eval o).run P w = .ok (.enter f args) w) (h : Calls P f args w fun e w' => e = .returned v ∧ Below w.heap.size w w') : wpOp P ops Q i (fun a' w' => Below w.heap.size w w' ∧ ∃ v, InvV ps i v w' ∧ a' = a.put o.dst v) a w :=
  each_enter hi hw hr (Calls.mono h fun _ _ ⟨he, hB⟩ => ⟨v, he, hB, hv.symm⟩)
end
section
open Go.RowKit

theorem alloc_below (w : World) (o : Obj) : Below w.heap.size w (w.alloc o) := (Below.refl _ _).alloc (Nat.le_refl _) o
theorem Box.belowV {w w' : World} {p : Nat} {cs : Array Value} {t : TypeId} (h : Box w p cs t) (hB : Below w.heap.size w w') : Box w' p cs t := h.keep (KeepBut.of_below (fun _ => False) hB) id
theorem vot64 (vs : List Nat) : votN vs 8 < 18446744073709551616 := by have := vot256 vs; omega
theorem ofB (c : Cf) (s : Nat) (hok : c.Ok) (hs : s < 18446744073709551616) (w : World) :
    Calls Tryz.prog 158 #[.agg c.arr, .int .u64 ((s : Nat) : Int)] w fun e w' => e = .returned (.int .i64 ((ofN c.vs s 8 : Nat) : Int)) ∧ Below w.heap.size w w' :=
  (of_any c s hok hs w).mono fun _ _ ⟨he, hw⟩ => ⟨he, hw ▸ alloc_below _ _⟩
theorem votersB (c : Cf) (hok : c.Ok) (w : World) :
    Calls Tryz.prog 159 #[.agg c.arr] w fun e w' => e = .returned (.int .u64 ((votN c.vs 8 : Nat) : Int)) ∧ Below w.heap.size w w' :=
  (voters_any c hok w).mono fun _ _ ⟨he, hw⟩ => ⟨he, hw ▸ alloc_below _ _⟩
set_option maxRecDepth 100000 in
theorem total_any (c : Cf) (hok : c.Ok) (w : World) :
    Calls Tryz.prog 109 #[.agg c.arr] w fun e w' => e = .returned (.int .i64 ((totN c.vs 8 : Nat) : Int)) ∧ Below w.heap.size w w' := by
  have hsz := hok.size
  have HO := hide hok
  have HX := hide (box_new w c.arr 30)
  have HB := hide (alloc_below w (.cells c.arr 30))
  have CV := hide (fun W => votersB c hok W)
  have CO := hide (fun W => ofB c (votN c.vs 8) hok (vot64 c.vs) W)
  rw [of_vot c.vs 8 8 (Nat.le_refl _)] at CO
  generalize votN c.vs 8 = V at *
  generalize totN c.vs 8 = T at *
  clear hok
  go_enter Tryz.func109, Tryz.ntmps109
  go_wp2_with fail
  refine wp_region_vals (by kernel_rfl) [(3, .agg c.arr), (4, .agg c.arr), (5, .int .u64 ((V : Nat) : Int)), (6, .int .i64 ((T : Nat) : Int)), (2, .int .i64 ((T : Nat) : Int))] (by kernel_rfl) rfl ?_ ?_
  · intro i o hi A w1 hB hold hdeps
    have hX1 := HX.out.belowV hB
    have hlt : i < 5 := (Array.getElem?_eq_some_iff.1 hi).1
    have hc : i = 0 ∨ i = 1 ∨ i = 2 ∨ i = 3 ∨ i = 4 := by omega
    clear hlt
    rcases hc with rfl | rfl | rfl | rfl | rfl
    · obtain rfl := Option.some.inj hi
      have s1 : A.tmps.getD 1 undef = .pointer (some ⟨w.heap.size, 0, none⟩) := hold 1 (by kernel_rfl)
      exact v_pure hi rfl rfl (x_loadC _ HO.out s1 hX1)
    · obtain rfl := Option.some.inj hi
      have s1 : A.tmps.getD 1 undef = .pointer (some ⟨w.heap.size, 0, none⟩) := hold 1 (by kernel_rfl)
      exact v_pure hi rfl rfl (x_loadC _ HO.out s1 hX1)
    · obtain rfl := Option.some.inj hi
      have s4 : A.tmps.getD 4 undef = .agg c.arr := dep_of hdeps 1 (by kernel_rfl)
      exact v_enter hi rfl rfl (x_call 159 _ #[.agg c.arr] _ rfl (by simp only [List.map_toArray, List.map_cons, List.map_nil, show A.eval (.tmp 4) = .agg c.arr from s4]; try rfl) en_voters) (CV.out w1)
    · obtain rfl := Option.some.inj hi
      have s3 : A.tmps.getD 3 undef = .agg c.arr := dep_of hdeps 0 (by kernel_rfl)
      have s5 : A.tmps.getD 5 undef = .int .u64 ((V : Nat) : Int) := dep_of hdeps 2 (by kernel_rfl)
      exact v_enter hi rfl rfl (x_call 158 _ #[.agg c.arr, .int .u64 ((V : Nat) : Int)] _ rfl (by simp only [List.map_toArray, List.map_cons, List.map_nil, show A.eval (.tmp 3) = .agg c.arr from s3, show A.eval (.tmp 5) = .int .u64 ((V : Nat) : Int) from s5]; try rfl) en_of) (CO.out w1)
    · obtain rfl := Option.some.inj hi
      have s6 : A.tmps.getD 6 undef = .int .i64 ((T : Nat) : Int) := dep_of hdeps 3 (by kernel_rfl)
      exact v_pure hi rfl rfl (x_assign _ s6)
  · intro w1 hB
    simp only [putAll, Act.put, List.setIfInBounds_toArray, List.set_cons_succ, List.set_cons_zero]
    go_wp2_with fail
    go_ret
    exact ⟨rfl, HB.out.trans (hB.mono HB.out.size)⟩
end
section
open Go.RowKit

theorem rbit_form (s p : Nat) (hs : s < 18446744073709551616) : (IntKind.u64.wrap ((s : Int) / (p : Int))).tmod 2 = ((s / p % 2 : Nat) : Int) := by
  have hle : s / p ≤ s := Nat.div_le_self _ _
  have e : (s : Int) / (p : Int) = ((s / p : Nat) : Int) := by simp
  rw [e]
  generalize s / p = q at *
  have e1 : IntKind.u64.wrap ((q : Nat) : Int) = (q : Int) := by rw [IntKind.wrap_u64]; omega
  rw [e1, Int.tmod_eq_emod_of_nonneg (by omega)]
  omega
/-- The list, as far as it has come. -/
def listTo (s k : Nat) : List Int := ((List.range k).filter (fun i => s.testBit i)).map fun (i : Nat) => (i : Int)
theorem listTo_hit (s k : Nat) (h : s.testBit k = true) : listTo s (k + 1) = listTo s k ++ [(k : Int)] := by
  simp [listTo, List.range_succ, h]
theorem listTo_miss (s k : Nat) (h : s.testBit k = false) : listTo s (k + 1) = listTo s k := by
  simp [listTo, List.range_succ, h]
theorem listTo_len (s k : Nat) : (listTo s k).length ≤ k := by
  unfold listTo
  rw [List.length_map]
  exact Nat.le_trans (List.length_filter_le _ _) (by simp)
end
section
open Go.RowKit

theorem arr_at {c : Cf} (h : c.Ok) (k : Nat) (hk : k < 8) : c.arr[3 + k]? = some (.int .u8 ((c.vs.getD k 0 : Nat) : Int)) := by
  have hl : k < c.vs.length := by rw [h.l]; exact hk
  rw [show 3 + k = k + 1 + 1 + 1 by omega]
  simp [Cf.arr, Cf.cells, votL, List.getD, hl]
theorem box_at {w : World} {b : Nat} {c : Cf} {t : TypeId} (h : c.Ok) (hb : Box w b c.arr t) (k : Nat) (hk : k < 8) : w.cell? ⟨b, 3 + k, none⟩ = some (.int .u8 ((c.vs.getD k 0 : Nat) : Int)) := hb.cell (3 + k) _ (arr_at h k hk)
set_option maxHeartbeats 400000 in
theorem rtotal_any (c : Cf) (hok : c.Ok) (w : World) :
    Calls Tryz.prog 110 #[.agg c.arr] w fun e w' => e = .returned (.int .i64 ((totN c.vs 8 : Nat) : Int)) ∧ Below w.heap.size w w' := by
  have hsz := hok.size
  have HO := hide hok
  have HB := hide (alloc_below w (.cells c.arr 30))
  clear hok
  go_enter Tryz.func110, Tryz.ntmps110
  go_wp2
  go_loop [3, 4] (fun x i => ∃ k : Nat, k ≤ 8 ∧ i = .int .i64 k ∧ x = .int .i64 ((totN c.vs k : Nat) : Int)) (fun _ i => 8 - (intOf i).toNat)
  case atStart => exact ⟨0, by omega, rfl, rfl⟩
  case round =>
    obtain ⟨k, hk, rfl, rfl⟩ := hrel
    by_cases hlt : k < 8
    · have hat := arr_at HO.out k hlt
      have hv := HO.out.at k
      have hu := HO.out.tot k
      have hkI : (k : Int) < 8 := by omega
      have HE : Hid (totN c.vs (k + 1) = totN c.vs k + c.vs.getD k 0) := rfl
      generalize c.vs.getD k 0 = x at *
      generalize totN c.vs k = o at *
      go_wp2
      go_round
      case rel => exact ⟨k + 1, by omega, by go_num, by rw [HE.out]; simp⟩
      case measure => simp [intOf]; omega
    · obtain rfl : k = 8 := by omega
      go_wp2
      go_ret
      exact ⟨rfl, HB.out⟩
/-- A part, as far as it has been looked at. -/
def partTo (a b k : Nat) : Bool := (List.range k).all (fun i => !a.testBit i || b.testBit i)
theorem partTo_step (a b k : Nat) : partTo a b (k + 1) = (partTo a b k && (!a.testBit k || b.testBit k)) := by simp [partTo, List.range_succ]
theorem partTo_no (a b k : Nat) (hk : k < 64) (ha : a.testBit k = true) (hb : b.testBit k = false) : partB a b = false := by
  unfold partB
  rw [List.all_eq_false]
  exact ⟨k, by simp [hk], by simp [ha, hb]⟩
end
section
open Go.RowKit

/-- No node below k has more than 15 votes. -/
def fifteen (vs : List Nat) : Nat → Bool
  | 0 => true
  | k + 1 => fifteen vs k && decide (vs.getD k 0 ≤ 15)
theorem fifteen_no (vs : List Nat) (k : Nat) (h : ¬ vs.getD k 0 ≤ 15) : ∀ d, fifteen vs (k + 1 + d) = false
  | 0 => by rw [Nat.add_zero, fifteen, decide_eq_false h, Bool.and_false]
  | d + 1 => by rw [← Nat.add_assoc, fifteen, fifteen_no vs k h d, Bool.false_and]
/-- It may be. -/
def mayB (c : Cf) : Bool := decide (1 ≤ c.e) && decide (c.e ≤ 2147483647) && fifteen c.vs 8 && decide (1 ≤ c.r) && decide (c.r ≤ totN c.vs 8) && decide (1 ≤ c.w) && decide (c.w ≤ totN c.vs 8) && decide (totN c.vs 8 < c.r + c.w) && decide (totN c.vs 8 < 2 * c.w)

set_option maxRecDepth 100000 in
set_option maxHeartbeats 1600000 in
theorem may_any (c : Cf) (hok : c.Ok) (w : World) :
    Calls Tryz.prog 48 #[.agg c.arr] w fun e w' => e = .returned (.bool (mayB c)) ∧ Below w.heap.size w w' := by
  have hsz := hok.size
  have HO := hide hok
  have HX := hide (box_new w c.arr 30)
  have x0 := arr_e HX.out
  have HB := hide (alloc_below w (.cells c.arr 30))
  have CT := hide (fun W => total_any c hok W)
  have he := hok.e
  have hr := hok.r
  have hw := hok.w
  have hT := hok.tot 8
  have HM : Hid (mayB c = (decide (1 ≤ c.e) && decide (c.e ≤ 2147483647) && fifteen c.vs 8 && decide (1 ≤ c.r) && decide (c.r ≤ totN c.vs 8) && decide (1 ≤ c.w) && decide (c.w ≤ totN c.vs 8) && decide (totN c.vs 8 < c.r + c.w) && decide (totN c.vs 8 < 2 * c.w))) := rfl
  generalize totN c.vs 8 = T at *
  clear hok
  by_cases e1 : c.e < 1
  · have d1 : decide ((c.e : Int) < 1) = true := decide_eq_true (by omega)
    have HR : Hid (mayB c = false) := hide (by rw [HM.out, decide_eq_false (show ¬ 1 ≤ c.e by omega)]; simp)
    clear HM
    go_enter Tryz.func48, Tryz.ntmps48
    go_wp2
    go_ret
    exact ⟨ret_bool HR.out.symm, HB.out⟩
  have d1 : decide ((c.e : Int) < 1) = false := decide_eq_false (by omega)
  by_cases e2 : c.e > 2147483647
  · have d2 : decide ((c.e : Int) > 2147483647) = true := decide_eq_true (by omega)
    have HR : Hid (mayB c = false) := hide (by rw [HM.out, decide_eq_false (show ¬ c.e ≤ 2147483647 by omega)]; simp)
    clear HM
    go_enter Tryz.func48, Tryz.ntmps48
    go_wp2
    go_ret
    exact ⟨ret_bool HR.out.symm, HB.out⟩
  have d2 : decide ((c.e : Int) > 2147483647) = false := decide_eq_false (by omega)
  rw [decide_eq_true (show 1 ≤ c.e by omega), decide_eq_true (show c.e ≤ 2147483647 by omega)] at HM
  go_enter Tryz.func48, Tryz.ntmps48
  go_wp2_with (refine wp_load_votes rfl _ rfl _ rfl HO.out HX.out ?_)
  go_loop [18] (fun i => ∃ k : Nat, k ≤ 8 ∧ i = .int .i64 k ∧ Hid (fifteen c.vs k = true)) (fun i => 8 - (intOf i).toNat)
  case atStart => exact ⟨0, by omega, rfl, rfl⟩
  case round =>
    clear x0 d1 d2
    obtain ⟨k, hk, rfl, HF⟩ := hrel
    by_cases hlt : k < 8
    · have hidx := index_votes c.vs k HO.out.l hlt
      have hv := HO.out.at k
      have HN := hide (fifteen_no c.vs k)
      have HS : Hid (fifteen c.vs (k + 1) = (fifteen c.vs k && decide (c.vs.getD k 0 ≤ 15))) := rfl
      generalize c.vs.getD k 0 = x at *
      by_cases hx : x ≤ 15
      · have d3 : decide ((x : Int) > 15) = false := decide_eq_false (by omega)
        have HS2 : Hid (fifteen c.vs (k + 1) = true) := hide (by rw [HS.out, HF.out, decide_eq_true hx]; rfl)
        clear HS HN
        go_wp2
        go_round
        case rel => exact ⟨k + 1, by omega, by go_num, HS2⟩
        case measure => simp [intOf]; omega
      · have d3 : decide ((x : Int) > 15) = true := decide_eq_true (by omega)
        have HR : Hid (mayB c = false) := hide (by
          have := HN.out hx (7 - k)
          rw [show k + 1 + (7 - k) = 8 by omega] at this
          rw [HM.out, this]; simp)
        clear HS HN HM
        go_wp2
        go_ret
        exact ⟨ret_bool HR.out.symm, HB.out⟩
    · obtain rfl : k = 8 := by omega
      rw [HF.out] at HM
      go_wp2_with fail
      refine wp_region_vals (by kernel_rfl) [(24, .agg c.arr), (25, .int .i64 ((T : Nat) : Int)), (26, .pointer (some ⟨w.heap.size, 1, none⟩)), (27, .int .u8 (c.r : Int)), (28, .int .i64 (c.r : Int)), (29, .pointer (some ⟨w.heap.size, 2, none⟩)), (30, .int .u8 (c.w : Int)), (31, .int .i64 (c.w : Int)), (5, .int .i64 ((T : Nat) : Int)), (6, .int .i64 (c.r : Int)), (7, .int .i64 (c.w : Int))] (by kernel_rfl) rfl ?_ ?_
      · intro i o hi A w1 hB hold hdeps
        have hX1 := HX.out.belowV hB
        have hlt : i < 11 := (Array.getElem?_eq_some_iff.1 hi).1
        have hc : i = 0 ∨ i = 1 ∨ i = 2 ∨ i = 3 ∨ i = 4 ∨ i = 5 ∨ i = 6 ∨ i = 7 ∨ i = 8 ∨ i = 9 ∨ i = 10 := by omega
        clear hlt
        rcases hc with rfl | rfl | rfl | rfl | rfl | rfl | rfl | rfl | rfl | rfl | rfl
        · obtain rfl := Option.some.inj hi
          have s1 : A.tmps.getD 1 undef = .pointer (some ⟨w.heap.size, 0, none⟩) := hold 1 (by kernel_rfl)
          exact v_pure hi rfl rfl (x_loadC _ HO.out s1 hX1)
        · obtain rfl := Option.some.inj hi
          have s24 : A.tmps.getD 24 undef = .agg c.arr := dep_of hdeps 0 (by kernel_rfl)
          exact v_enter hi rfl rfl (x_call 109 _ #[.agg c.arr] _ rfl (by simp only [List.map_toArray, List.map_cons, List.map_nil, show A.eval (.tmp 24) = .agg c.arr from s24]; try rfl) en_total) (CT.out w1)
        · obtain rfl := Option.some.inj hi
          have s1 : A.tmps.getD 1 undef = .pointer (some ⟨w.heap.size, 0, none⟩) := hold 1 (by kernel_rfl)
          exact v_pure hi rfl rfl (x_field1 _ s1)
        · obtain rfl := Option.some.inj hi
          have s26 : A.tmps.getD 26 undef = .pointer (some ⟨w.heap.size, 1, none⟩) := dep_of hdeps 2 (by kernel_rfl)
          exact v_pure hi rfl rfl (x_load8 _ s26 (arr_r hX1))
        · obtain rfl := Option.some.inj hi
          have s27 : A.tmps.getD 27 undef = .int .u8 (c.r : Int) := dep_of hdeps 3 (by kernel_rfl)
          exact v_pure hi rfl rfl (x_conv _ s27 HO.out.r)
        · obtain rfl := Option.some.inj hi
          have s1 : A.tmps.getD 1 undef = .pointer (some ⟨w.heap.size, 0, none⟩) := hold 1 (by kernel_rfl)
          exact v_pure hi rfl rfl (x_field2 _ s1)
        · obtain rfl := Option.some.inj hi
          have s29 : A.tmps.getD 29 undef = .pointer (some ⟨w.heap.size, 2, none⟩) := dep_of hdeps 5 (by kernel_rfl)
          exact v_pure hi rfl rfl (x_load8 _ s29 (arr_w hX1))
        · obtain rfl := Option.some.inj hi
          have s30 : A.tmps.getD 30 undef = .int .u8 (c.w : Int) := dep_of hdeps 6 (by kernel_rfl)
          exact v_pure hi rfl rfl (x_conv _ s30 HO.out.w)
        · obtain rfl := Option.some.inj hi
          have s25 : A.tmps.getD 25 undef = .int .i64 ((T : Nat) : Int) := dep_of hdeps 1 (by kernel_rfl)
          exact v_pure hi rfl rfl (x_assign _ s25)
        · obtain rfl := Option.some.inj hi
          have s28 : A.tmps.getD 28 undef = .int .i64 (c.r : Int) := dep_of hdeps 4 (by kernel_rfl)
          exact v_pure hi rfl rfl (x_assign _ s28)
        · obtain rfl := Option.some.inj hi
          have s31 : A.tmps.getD 31 undef = .int .i64 (c.w : Int) := dep_of hdeps 7 (by kernel_rfl)
          exact v_pure hi rfl rfl (x_assign _ s31)
      · intro w1 hB
        have HB1 := hide (HB.out.trans (hB.mono HB.out.size))
        clear hB HB HX CT
        simp only [putAll, Act.put, List.setIfInBounds_toArray, List.set_cons_succ, List.set_cons_zero]
        by_cases a1 : 1 ≤ c.r
        case neg =>
          have HR : Hid (mayB c = false) := hide (by rw [HM.out, decide_eq_false a1]; simp)
          clear HM
          have d0 : decide ((c.r : Int) < 1) = true := decide_eq_true (by omega)
          go_wp2
          go_ret
          exact ⟨ret_bool HR.out.symm, HB1.out⟩
        by_cases a2 : c.r ≤ T
        case neg =>
          have HR : Hid (mayB c = false) := hide (by rw [HM.out, decide_eq_false a2]; simp)
          clear HM
          have d0 : decide ((c.r : Int) < 1) = false := decide_eq_false (by omega)
          have d1 : decide ((c.r : Int) > (T : Int)) = true := decide_eq_true (by omega)
          go_wp2
          go_ret
          exact ⟨ret_bool HR.out.symm, HB1.out⟩
        by_cases a3 : 1 ≤ c.w
        case neg =>
          have HR : Hid (mayB c = false) := hide (by rw [HM.out, decide_eq_false a3]; simp)
          clear HM
          have d0 : decide ((c.r : Int) < 1) = false := decide_eq_false (by omega)
          have d1 : decide ((c.r : Int) > (T : Int)) = false := decide_eq_false (by omega)
          have d2 : decide ((c.w : Int) < 1) = true := decide_eq_true (by omega)
          go_wp2
          go_ret
          exact ⟨ret_bool HR.out.symm, HB1.out⟩
        by_cases a4 : c.w ≤ T
        case neg =>
          have HR : Hid (mayB c = false) := hide (by rw [HM.out, decide_eq_false a4]; simp)
          clear HM
          have d0 : decide ((c.r : Int) < 1) = false := decide_eq_false (by omega)
          have d1 : decide ((c.r : Int) > (T : Int)) = false := decide_eq_false (by omega)
          have d2 : decide ((c.w : Int) < 1) = false := decide_eq_false (by omega)
          have d3 : decide ((c.w : Int) > (T : Int)) = true := decide_eq_true (by omega)
          go_wp2
          go_ret
          exact ⟨ret_bool HR.out.symm, HB1.out⟩
        by_cases a5 : T < c.r + c.w
        case neg =>
          have HR : Hid (mayB c = false) := hide (by rw [HM.out, decide_eq_false a5]; simp)
          clear HM
          have d0 : decide ((c.r : Int) < 1) = false := decide_eq_false (by omega)
          have d1 : decide ((c.r : Int) > (T : Int)) = false := decide_eq_false (by omega)
          have d2 : decide ((c.w : Int) < 1) = false := decide_eq_false (by omega)
          have d3 : decide ((c.w : Int) > (T : Int)) = false := decide_eq_false (by omega)
          have d4 : decide ((c.r : Int) + (c.w : Int) > (T : Int)) = false := decide_eq_false (by omega)
          go_wp2
          go_ret
          exact ⟨ret_bool HR.out.symm, HB1.out⟩
        by_cases a6 : T < 2 * c.w
        · have HR : Hid (mayB c = true) := hide (by rw [HM.out, decide_eq_true a1, decide_eq_true a2, decide_eq_true a3, decide_eq_true a4, decide_eq_true a5, decide_eq_true a6]; rfl)
          clear HM
          have d0 : decide ((c.r : Int) < 1) = false := decide_eq_false (by omega)
          have d1 : decide ((c.r : Int) > (T : Int)) = false := decide_eq_false (by omega)
          have d2 : decide ((c.w : Int) < 1) = false := decide_eq_false (by omega)
          have d3 : decide ((c.w : Int) > (T : Int)) = false := decide_eq_false (by omega)
          have d4 : decide ((c.r : Int) + (c.w : Int) > (T : Int)) = true := decide_eq_true (by omega)
          have d5 : decide (2 * (c.w : Int) > (T : Int)) = true := decide_eq_true (by omega)
          go_wp2
          go_ret
          exact ⟨ret_bool HR.out.symm, HB1.out⟩
        · skip
          have HR : Hid (mayB c = false) := hide (by rw [HM.out, decide_eq_false a6]; simp)
          clear HM
          have d0 : decide ((c.r : Int) < 1) = false := decide_eq_false (by omega)
          have d1 : decide ((c.r : Int) > (T : Int)) = false := decide_eq_false (by omega)
          have d2 : decide ((c.w : Int) < 1) = false := decide_eq_false (by omega)
          have d3 : decide ((c.w : Int) > (T : Int)) = false := decide_eq_false (by omega)
          have d4 : decide ((c.r : Int) + (c.w : Int) > (T : Int)) = true := decide_eq_true (by omega)
          have d5 : decide (2 * (c.w : Int) > (T : Int)) = false := decide_eq_false (by omega)
          go_wp2
          go_ret
          exact ⟨ret_bool HR.out.symm, HB1.out⟩
set_option maxRecDepth 100000 in
set_option maxHeartbeats 3200000 in
theorem rmay_any (c : Cf) (hok : c.Ok) (w : World) :
    Calls Tryz.prog 49 #[.agg c.arr] w fun e w' => e = .returned (.bool (mayB c)) ∧ Below w.heap.size w w' := by
  have hsz := hok.size
  have HO := hide hok
  have HX := hide (box_new w c.arr 30)
  have HB := hide (alloc_below w (.cells c.arr 30))
  have CT := hide (fun W => rtotal_any c hok W)
  have he := hok.e
  have hr := hok.r
  have hw := hok.w
  have hT := hok.tot 8
  have HM : Hid (mayB c = (decide (1 ≤ c.e) && decide (c.e ≤ 2147483647) && fifteen c.vs 8 && decide (1 ≤ c.r) && decide (c.r ≤ totN c.vs 8) && decide (1 ≤ c.w) && decide (c.w ≤ totN c.vs 8) && decide (totN c.vs 8 < c.r + c.w) && decide (totN c.vs 8 < 2 * c.w))) := rfl
  generalize totN c.vs 8 = T at *
  clear hok
  go_enter Tryz.func49, Tryz.ntmps49
  go_wp2_with fail
  refine wp_region_vals (by kernel_rfl) [(7, .agg c.arr), (8, .int .i64 ((T : Nat) : Int)), (9, .pointer (some ⟨w.heap.size, 1, none⟩)), (10, .int .u8 (c.r : Int)), (11, .int .i64 (c.r : Int)), (12, .pointer (some ⟨w.heap.size, 2, none⟩)), (13, .int .u8 (c.w : Int)), (14, .int .i64 (c.w : Int)), (3, .int .i64 ((T : Nat) : Int)), (4, .int .i64 (c.r : Int)), (5, .int .i64 (c.w : Int))] (by kernel_rfl) rfl ?_ ?_
  · intro i o hi A w1 hB hold hdeps
    have hX1 := HX.out.belowV hB
    have hlt : i < 11 := (Array.getElem?_eq_some_iff.1 hi).1
    have hc : i = 0 ∨ i = 1 ∨ i = 2 ∨ i = 3 ∨ i = 4 ∨ i = 5 ∨ i = 6 ∨ i = 7 ∨ i = 8 ∨ i = 9 ∨ i = 10 := by omega
    clear hlt
    rcases hc with rfl | rfl | rfl | rfl | rfl | rfl | rfl | rfl | rfl | rfl | rfl
    · obtain rfl := Option.some.inj hi
      have s1 : A.tmps.getD 1 undef = .pointer (some ⟨w.heap.size, 0, none⟩) := hold 1 (by kernel_rfl)
      exact v_pure hi rfl rfl (x_loadC _ HO.out s1 hX1)
    · obtain rfl := Option.some.inj hi
      have s7 : A.tmps.getD 7 undef = .agg c.arr := dep_of hdeps 0 (by kernel_rfl)
      exact v_enter hi rfl rfl (x_call 110 _ #[.agg c.arr] _ rfl (by simp only [List.map_toArray, List.map_cons, List.map_nil, show A.eval (.tmp 7) = .agg c.arr from s7]; try rfl) en_rtotal) (CT.out w1)
    · obtain rfl := Option.some.inj hi
      have s1 : A.tmps.getD 1 undef = .pointer (some ⟨w.heap.size, 0, none⟩) := hold 1 (by kernel_rfl)
      exact v_pure hi rfl rfl (x_field1 _ s1)
    · obtain rfl := Option.some.inj hi
      have s9 : A.tmps.getD 9 undef = .pointer (some ⟨w.heap.size, 1, none⟩) := dep_of hdeps 2 (by kernel_rfl)
      exact v_pure hi rfl rfl (x_load8 _ s9 (arr_r hX1))
    · obtain rfl := Option.some.inj hi
      have s10 : A.tmps.getD 10 undef = .int .u8 (c.r : Int) := dep_of hdeps 3 (by kernel_rfl)
      exact v_pure hi rfl rfl (x_conv _ s10 HO.out.r)
    · obtain rfl := Option.some.inj hi
      have s1 : A.tmps.getD 1 undef = .pointer (some ⟨w.heap.size, 0, none⟩) := hold 1 (by kernel_rfl)
      exact v_pure hi rfl rfl (x_field2 _ s1)
    · obtain rfl := Option.some.inj hi
      have s12 : A.tmps.getD 12 undef = .pointer (some ⟨w.heap.size, 2, none⟩) := dep_of hdeps 5 (by kernel_rfl)
      exact v_pure hi rfl rfl (x_load8 _ s12 (arr_w hX1))
    · obtain rfl := Option.some.inj hi
      have s13 : A.tmps.getD 13 undef = .int .u8 (c.w : Int) := dep_of hdeps 6 (by kernel_rfl)
      exact v_pure hi rfl rfl (x_conv _ s13 HO.out.w)
    · obtain rfl := Option.some.inj hi
      have s8 : A.tmps.getD 8 undef = .int .i64 ((T : Nat) : Int) := dep_of hdeps 1 (by kernel_rfl)
      exact v_pure hi rfl rfl (x_assign _ s8)
    · obtain rfl := Option.some.inj hi
      have s11 : A.tmps.getD 11 undef = .int .i64 (c.r : Int) := dep_of hdeps 4 (by kernel_rfl)
      exact v_pure hi rfl rfl (x_assign _ s11)
    · obtain rfl := Option.some.inj hi
      have s14 : A.tmps.getD 14 undef = .int .i64 (c.w : Int) := dep_of hdeps 7 (by kernel_rfl)
      exact v_pure hi rfl rfl (x_assign _ s14)
  · intro w1 hB
    have HX1 := hide (HX.out.belowV hB)
    have HB1 := hide (HB.out.trans (hB.mono HB.out.size))
    have x0 := arr_e HX1.out
    have hlt1 := HX1.out.lt
    clear hB HB HX CT
    simp only [putAll, Act.put, List.setIfInBounds_toArray, List.set_cons_succ, List.set_cons_zero]
    go_wp2
    go_loop [6] (fun i => ∃ k : Nat, k ≤ 8 ∧ i = .int .i64 k ∧ Hid (fifteen c.vs k = true)) (fun i => 8 - (intOf i).toNat)
    case atStart => exact ⟨0, by omega, rfl, rfl⟩
    case round =>
      obtain ⟨k, hk, rfl, HF⟩ := hrel
      by_cases hlt : k < 8
      · have hat := box_at HO.out HX1.out k hlt
        have hkI : (k : Int) < 8 := by omega
        have hv := HO.out.at k
        have HN := hide (fifteen_no c.vs k)
        have HS : Hid (fifteen c.vs (k + 1) = (fifteen c.vs k && decide (c.vs.getD k 0 ≤ 15))) := rfl
        generalize c.vs.getD k 0 = x at *
        by_cases hx : x ≤ 15
        · have d3 : decide ((x : Int) > 15) = false := decide_eq_false (by omega)
          have HS2 : Hid (fifteen c.vs (k + 1) = true) := hide (by rw [HS.out, HF.out, decide_eq_true hx]; rfl)
          clear HS HN
          go_wp2
          go_round
          case rel => exact ⟨k + 1, by omega, by go_num, HS2⟩
          case measure => simp [intOf]; omega
        · have d3 : decide ((x : Int) > 15) = true := decide_eq_true (by omega)
          have HR : Hid (mayB c = false) := hide (by
            have := HN.out hx (7 - k)
            rw [show k + 1 + (7 - k) = 8 by omega] at this
            rw [HM.out, this]; simp)
          clear HS HN HM
          go_wp2
          go_ret
          exact ⟨ret_bool HR.out.symm, HB1.out⟩
      · obtain rfl : k = 8 := by omega
        rw [HF.out] at HM
        by_cases b1 : 1 ≤ c.e
        case neg =>
          have HR : Hid (mayB c = false) := hide (by rw [HM.out, decide_eq_false b1]; simp)
          clear HM
          have f0 : decide ((c.e : Int) ≥ 1) = false := decide_eq_false (by omega)
          go_wp2
          go_ret
          exact ⟨ret_bool HR.out.symm, HB1.out⟩
        by_cases b2 : c.e ≤ 2147483647
        case neg =>
          have HR : Hid (mayB c = false) := hide (by rw [HM.out, decide_eq_false b2]; simp)
          clear HM
          have f0 : decide ((c.e : Int) ≥ 1) = true := decide_eq_true (by omega)
          have f1 : decide ((c.e : Int) ≤ 2147483647) = false := decide_eq_false (by omega)
          go_wp2
          go_ret
          exact ⟨ret_bool HR.out.symm, HB1.out⟩
        by_cases a1 : 1 ≤ c.r
        case neg =>
          have HR : Hid (mayB c = false) := hide (by rw [HM.out, decide_eq_false a1]; simp)
          clear HM
          have f0 : decide ((c.e : Int) ≥ 1) = true := decide_eq_true (by omega)
          have f1 : decide ((c.e : Int) ≤ 2147483647) = true := decide_eq_true (by omega)
          have f2 : decide ((c.r : Int) ≥ 1) = false := decide_eq_false (by omega)
          go_wp2
          go_ret
          exact ⟨ret_bool HR.out.symm, HB1.out⟩
        by_cases a3 : 1 ≤ c.w
        case neg =>
          have HR : Hid (mayB c = false) := hide (by rw [HM.out, decide_eq_false a3]; simp)
          clear HM
          have f0 : decide ((c.e : Int) ≥ 1) = true := decide_eq_true (by omega)
          have f1 : decide ((c.e : Int) ≤ 2147483647) = true := decide_eq_true (by omega)
          have f2 : decide ((c.r : Int) ≥ 1) = true := decide_eq_true (by omega)
          have f3 : decide ((c.w : Int) ≥ 1) = false := decide_eq_false (by omega)
          go_wp2
          go_ret
          exact ⟨ret_bool HR.out.symm, HB1.out⟩
        by_cases a2 : c.r ≤ T
        case neg =>
          have HR : Hid (mayB c = false) := hide (by rw [HM.out, decide_eq_false a2]; simp)
          clear HM
          have f0 : decide ((c.e : Int) ≥ 1) = true := decide_eq_true (by omega)
          have f1 : decide ((c.e : Int) ≤ 2147483647) = true := decide_eq_true (by omega)
          have f2 : decide ((c.r : Int) ≥ 1) = true := decide_eq_true (by omega)
          have f3 : decide ((c.w : Int) ≥ 1) = true := decide_eq_true (by omega)
          have f4 : decide ((c.r : Int) ≤ (T : Int)) = false := decide_eq_false (by omega)
          go_wp2
          go_ret
          exact ⟨ret_bool HR.out.symm, HB1.out⟩
        by_cases a4 : c.w ≤ T
        case neg =>
          have HR : Hid (mayB c = false) := hide (by rw [HM.out, decide_eq_false a4]; simp)
          clear HM
          have f0 : decide ((c.e : Int) ≥ 1) = true := decide_eq_true (by omega)
          have f1 : decide ((c.e : Int) ≤ 2147483647) = true := decide_eq_true (by omega)
          have f2 : decide ((c.r : Int) ≥ 1) = true := decide_eq_true (by omega)
          have f3 : decide ((c.w : Int) ≥ 1) = true := decide_eq_true (by omega)
          have f4 : decide ((c.r : Int) ≤ (T : Int)) = true := decide_eq_true (by omega)
          have f5 : decide ((c.w : Int) ≤ (T : Int)) = false := decide_eq_false (by omega)
          go_wp2
          go_ret
          exact ⟨ret_bool HR.out.symm, HB1.out⟩
        by_cases a5 : T < c.r + c.w
        case neg =>
          have HR : Hid (mayB c = false) := hide (by rw [HM.out, decide_eq_false a5]; simp)
          clear HM
          have f0 : decide ((c.e : Int) ≥ 1) = true := decide_eq_true (by omega)
          have f1 : decide ((c.e : Int) ≤ 2147483647) = true := decide_eq_true (by omega)
          have f2 : decide ((c.r : Int) ≥ 1) = true := decide_eq_true (by omega)
          have f3 : decide ((c.w : Int) ≥ 1) = true := decide_eq_true (by omega)
          have f4 : decide ((c.r : Int) ≤ (T : Int)) = true := decide_eq_true (by omega)
          have f5 : decide ((c.w : Int) ≤ (T : Int)) = true := decide_eq_true (by omega)
          have f6 : decide ((c.r : Int) + (c.w : Int) > (T : Int)) = false := decide_eq_false (by omega)
          go_wp2
          go_ret
          exact ⟨ret_bool HR.out.symm, HB1.out⟩
        by_cases a6 : T < 2 * c.w
        · have HR : Hid (mayB c = true) := hide (by rw [HM.out, decide_eq_true b1, decide_eq_true b2, decide_eq_true a1, decide_eq_true a2, decide_eq_true a3, decide_eq_true a4, decide_eq_true a5, decide_eq_true a6]; rfl)
          clear HM
          have f0 : decide ((c.e : Int) ≥ 1) = true := decide_eq_true (by omega)
          have f1 : decide ((c.e : Int) ≤ 2147483647) = true := decide_eq_true (by omega)
          have f2 : decide ((c.r : Int) ≥ 1) = true := decide_eq_true (by omega)
          have f3 : decide ((c.w : Int) ≥ 1) = true := decide_eq_true (by omega)
          have f4 : decide ((c.r : Int) ≤ (T : Int)) = true := decide_eq_true (by omega)
          have f5 : decide ((c.w : Int) ≤ (T : Int)) = true := decide_eq_true (by omega)
          have f6 : decide ((c.r : Int) + (c.w : Int) > (T : Int)) = true := decide_eq_true (by omega)
          have f7 : decide (2 * (c.w : Int) > (T : Int)) = true := decide_eq_true (by omega)
          go_wp2
          go_ret
          exact ⟨ret_bool HR.out.symm, HB1.out⟩
        · skip
          have HR : Hid (mayB c = false) := hide (by rw [HM.out, decide_eq_false a6]; simp)
          clear HM
          have f0 : decide ((c.e : Int) ≥ 1) = true := decide_eq_true (by omega)
          have f1 : decide ((c.e : Int) ≤ 2147483647) = true := decide_eq_true (by omega)
          have f2 : decide ((c.r : Int) ≥ 1) = true := decide_eq_true (by omega)
          have f3 : decide ((c.w : Int) ≥ 1) = true := decide_eq_true (by omega)
          have f4 : decide ((c.r : Int) ≤ (T : Int)) = true := decide_eq_true (by omega)
          have f5 : decide ((c.w : Int) ≤ (T : Int)) = true := decide_eq_true (by omega)
          have f6 : decide ((c.r : Int) + (c.w : Int) > (T : Int)) = true := decide_eq_true (by omega)
          have f7 : decide (2 * (c.w : Int) > (T : Int)) = false := decide_eq_false (by omega)
          go_wp2
          go_ret
          exact ⟨ret_bool HR.out.symm, HB1.out⟩
end
end Go.Proofs.YtoppdelljjapoaaGreat
