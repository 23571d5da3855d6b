/-
  What single operations leave, in whatever frame: for the regions of layer 6 that draw their order; loads that stand behind a guard. Own work.
-/
import Derived.Test.YtnljibmdcknmeabDoorVtRegion
import Derived.Test.YtnljibmdcknmeabDoorVtCfg
import Derived.Shelf.Abstract
import Derived.BigRegion
namespace Go.Proofs.YtnljibmdcknmeabDoor
open Go Go.RowKit Go.Shelf

section
variable {ρ : Operand → Value} {dst : Option Tmp} {ty : TypeId} {pos : String} {aft : Array Edge} {gd : Option (Nat × Bool)} {w : World}
theorem x_move (x : Operand) {v : Value} (hx : ρ x = v) : (execOp ρ ⟨dst, .move x, ty, pos, aft, gd⟩).run Tryd.prog w = .ok (.value v) w := by subst hx; simp [go_sem]
theorem x_assign (x : Operand) {v : Value} (hx : ρ x = v) : (execOp ρ ⟨dst, .assign x, ty, pos, aft, gd⟩).run Tryd.prog w = .ok (.value v) w := by subst hx; simp [go_sem]
theorem x_field1 (x : Operand) {q : Nat} (hx : ρ x = .pointer (some ⟨q, 0, none⟩)) : (execOp ρ ⟨dst, .fieldAddr 25 x 1, ty, pos, aft, gd⟩).run Tryd.prog w = .ok (.value (.pointer (some ⟨q, 1, none⟩))) w := by simp [go_sem, hx]
theorem x_field2 (x : Operand) {q : Nat} (hx : ρ x = .pointer (some ⟨q, 0, none⟩)) : (execOp ρ ⟨dst, .fieldAddr 25 x 2, ty, pos, aft, gd⟩).run Tryd.prog w = .ok (.value (.pointer (some ⟨q, 2, none⟩))) w := by simp [go_sem, hx]
theorem x_load8 (x : Operand) {q k : Nat} {s : Int} (hx : ρ x = .pointer (some ⟨q, k, none⟩)) (h : w.cell? ⟨q, k, none⟩ = some (.int .u8 s)) : (execOp ρ ⟨dst, .load 5 x, ty, pos, aft, gd⟩).run Tryd.prog w = .ok (.value (.int .u8 s)) w := by simp [go_sem, hx, h]
theorem x_loadI (x : Operand) {q k : Nat} {s : Int} (hx : ρ x = .pointer (some ⟨q, k, none⟩)) (h : w.cell? ⟨q, k, none⟩ = some (.int .i64 s)) : (execOp ρ ⟨dst, .load 3 x, ty, pos, aft, gd⟩).run Tryd.prog w = .ok (.value (.int .i64 s)) w := by simp [go_sem, hx, h]
theorem x_indexI (x y : Operand) {q n c k : Nat} (hx : ρ x = .slice (some ⟨q, 0, none⟩) n c) (hy : ρ y = .int .i64 (k : Int)) (h : k < n) : (execOp ρ ⟨dst, .indexAddr 30 x y, ty, pos, aft, gd⟩).run Tryd.prog w = .ok (.value (.pointer (some ⟨q, k, none⟩))) w := by
  have h1 : (0 : Int) ≤ (k : Int) := by omega
  have h2 : (k : Int) < (n : Int) := by omega
  simp [go_sem, hx, hy, h1, h2]
theorem x_loadC (x : Operand) {q : Nat} {c : Cf} {t : TypeId} (hok : c.Ok) (hx : ρ x = .pointer (some ⟨q, 0, none⟩)) (hb : Box w q c.arr t) : (execOp ρ ⟨dst, .load 25 x, ty, pos, aft, gd⟩).run Tryd.prog w = .ok (.value (.agg c.arr)) w := by
  have hr : w.rangeAt q 0 c.cells := arr_range hb
  have hs : c.cells.length = 11 := by have := hok.size; simpa [Cf.arr] using this
  have := run_loadAt_mid (P := Tryd.prog) w q 0 25 c.cells _ hr Tryd.underlying25 rfl (by rw [hs]; exact infoCfg)
  unfold execOp
  simp only [hx, Sem.run_bind, this]
  rfl
theorem x_conv (x : Operand) {n : Nat} (hx : ρ x = .int .u8 (n : Int)) (hn : n < 256) : (execOp ρ ⟨dst, .convert 5 3 x, ty, pos, aft, gd⟩).run Tryd.prog w = .ok (.value (.int .i64 (n : Int))) w := by
  have h2 : IntKind.i64.wrap (n : Int) = n := by rw [IntKind.wrap_i64]; omega
  simp [go_sem, hx, h2]
theorem x_eql (x y : Operand) {k : IntKind} {t : TypeId} {a b : Int} (hk : (t = 3 ∧ k = .i64) ∨ (t = 26 ∧ k = .u64)) (hx : ρ x = .int k a) (hy : ρ y = .int k b) : (execOp ρ ⟨dst, .binOp .eql t x y t, ty, pos, aft, gd⟩).run Tryd.prog w = .ok (.value (.bool (a == b))) w := by
  rcases hk with ⟨rfl, rfl⟩ | ⟨rfl, rfl⟩ <;> simp [go_sem, hx, hy]
theorem x_eqlB (x y : Operand) {a b : Bool} (hx : ρ x = .bool a) (hy : ρ y = .bool b) : (execOp ρ ⟨dst, .binOp .eql 4 x y 4, ty, pos, aft, gd⟩).run Tryd.prog w = .ok (.value (.bool (a == b))) w := by simp [go_sem, hx, hy]
theorem x_neq (x y : Operand) {a b : Int} (hx : ρ x = .int .i64 a) (hy : ρ y = .int .i64 b) : (execOp ρ ⟨dst, .binOp .neq 3 x y 3, ty, pos, aft, gd⟩).run Tryd.prog w = .ok (.value (.bool (a != b))) w := by simp [go_sem, hx, hy]
theorem x_geq (x y : Operand) {a b : Int} (hx : ρ x = .int .i64 a) (hy : ρ y = .int .i64 b) : (execOp ρ ⟨dst, .binOp .geq 3 x y 3, ty, pos, aft, gd⟩).run Tryd.prog w = .ok (.value (.bool (decide (b ≤ a)))) w := by simp [go_sem, hx, hy]
theorem x_gtr (x y : Operand) {a b : Int} (hx : ρ x = .int .i64 a) (hy : ρ y = .int .i64 b) : (execOp ρ ⟨dst, .binOp .gtr 3 x y 3, ty, pos, aft, gd⟩).run Tryd.prog w = .ok (.value (.bool (decide (b < a)))) w := by simp [go_sem, hx, hy]
theorem x_add (x y : Operand) {a b : Nat} (hx : ρ x = .int .i64 (a : Int)) (hy : ρ y = .int .i64 (b : Int)) (h : a + b < 1000000) : (execOp ρ ⟨dst, .binOp .add 3 x y 3, ty, pos, aft, gd⟩).run Tryd.prog w = .ok (.value (.int .i64 ((a + b : Nat) : Int))) w := by
  have h2 : IntKind.i64.wrap ((a : Int) + (b : Int)) = ((a + b : Nat) : Int) := by rw [IntKind.wrap_i64]; omega
  simp [go_sem, hx, hy, h2]
theorem x_or (x y : Operand) {a b : Nat} (ha : a < 18446744073709551616) (hb : b < 18446744073709551616) (hx : ρ x = .int .u64 (a : Int)) (hy : ρ y = .int .u64 (b : Int)) : (execOp ρ ⟨dst, .binOp .or 26 x y 26, ty, pos, aft, gd⟩).run Tryd.prog w = .ok (.value (.int .u64 ((a ||| b : Nat) : Int))) w := by
  have h2 := u64_or_nat a b ha hb
  simp [go_sem, hx, hy, h2]
theorem x_and (x y : Operand) {a b : Nat} (ha : a < 18446744073709551616) (hb : b < 18446744073709551616) (hx : ρ x = .int .u64 (a : Int)) (hy : ρ y = .int .u64 (b : Int)) : (execOp ρ ⟨dst, .binOp .and 26 x y 26, ty, pos, aft, gd⟩).run Tryd.prog w = .ok (.value (.int .u64 ((a &&& b : Nat) : Int))) w := by
  have h2 := u64_and_nat a b ha hb
  simp [go_sem, hx, hy, h2]
theorem x_not (x : Operand) {b : Bool} (hx : ρ x = .bool b) : (execOp ρ ⟨dst, .unOp .not 4 x, ty, pos, aft, gd⟩).run Tryd.prog w = .ok (.value (.bool (!b))) w := by simp [go_sem, hx]
theorem x_pickT (x y z : Operand) {v : Value} (hx : ρ x = .bool true) (hy : ρ y = v) : (execOp ρ ⟨dst, .pick x y z, ty, pos, aft, gd⟩).run Tryd.prog w = .ok (.value v) w := by subst hy; simp [go_sem, hx]
theorem x_pickF (x y z : Operand) {v : Value} (hx : ρ x = .bool false) (hz : ρ z = v) : (execOp ρ ⟨dst, .pick x y z, ty, pos, aft, gd⟩).run Tryd.prog w = .ok (.value v) w := by subst hz; simp [go_sem, hx]
theorem x_call (f : FuncId) (xs : Array Operand) (vs : Array Value) (tys : Array TypeId) (hf : ρ (.func f) = .func (.func f) #[] #[]) (hv : xs.map ρ = vs) (he : ∀ args w, (callFunc f args).run Tryd.prog w = .ok (.enter f args) w) : (execOp ρ ⟨dst, .call { callee := .value (.func f), args := xs, argTypes := tys }, ty, pos, aft, gd⟩).run Tryd.prog w = .ok (.enter f vs) w := by
  subst hv
  simp [go_sem, hf, he]
end
theorem en_of : ∀ args w, (callFunc 10 args).run Tryd.prog w = .ok (.enter 10 args) w := enters_of Tryd.func10 (by kernel_rfl) rfl
theorem en_voters : ∀ args w, (callFunc 7 args).run Tryd.prog w = .ok (.enter 7 args) w := enters_of Tryd.func7 (by kernel_rfl) rfl
theorem en_total : ∀ args w, (callFunc 12 args).run Tryd.prog w = .ok (.enter 12 args) w := enters_of Tryd.func12 (by kernel_rfl) rfl
theorem en_may : ∀ args w, (callFunc 13 args).run Tryd.prog w = .ok (.enter 13 args) w := enters_of Tryd.func13 (by kernel_rfl) rfl
theorem en_reads : ∀ args w, (callFunc 14 args).run Tryd.prog w = .ok (.enter 14 args) w := enters_of Tryd.func14 (by kernel_rfl) rfl
theorem en_writes : ∀ args w, (callFunc 15 args).run Tryd.prog w = .ok (.enter 15 args) w := enters_of Tryd.func15 (by kernel_rfl) rfl
theorem en_without : ∀ args w, (callFunc 22 args).run Tryd.prog w = .ok (.enter 22 args) w := enters_of Tryd.func22 (by kernel_rfl) rfl
theorem en_alive : ∀ args w, (callFunc 11 args).run Tryd.prog w = .ok (.enter 11 args) w := enters_of Tryd.func11 (by kernel_rfl) rfl
theorem en_quorums : ∀ args w, (callFunc 6 args).run Tryd.prog w = .ok (.enter 6 args) w := enters_of Tryd.func6 (by kernel_rfl) rfl
theorem en_rsets : ∀ args w, (callFunc 28 args).run Tryd.prog w = .ok (.enter 28 args) w := enters_of Tryd.func28 (by kernel_rfl) rfl

theorem wpList_wanted {ops : Array Oper} {rest : List Oper} {o : Oper} {a : Act} {w : World} {Q : Exit → Act → World → Prop} {P : Program} (hg : Region.wanted o (yielded ops a.tmps) = true)
    (h : ∀ K : Act → World → Prop, (∀ a w, wpList P ops Q rest a w → K a w) → o.wp P a w K Q) : wpList P ops Q (o :: rest) a w :=
  wpList_step fun K hK => by simp only [hg, if_true]; exact h K hK
/-- The whole is loaded, behind a guard that lets it by. -/
theorem wp_load_cfg_g {ops : Array Oper} {rest : List Oper} {op : Oper} {a : Act} {w : World} {Q : Exit → Act → World → Prop} (hgd : Region.wanted op (yielded ops a.tmps) = true) (x : Operand) (ho : op.op = .load 25 x)
    (b : Nat) (hx : a.eval x = .pointer (some ⟨b, 0, none⟩)) {c : Cf} {t : TypeId} (hok : c.Ok) (hb : Box w b c.arr t)
    (h : wpList Tryd.prog ops Q rest (a.put op.dst (.agg c.arr)) w) : wpList Tryd.prog ops Q (op :: rest) a w := by
  have hr : w.rangeAt b 0 c.cells := arr_range hb
  have hs : c.cells.length = 11 := by have := hok.size; simpa [Cf.arr] using this
  exact wpList_wanted hgd fun _ hK => wp_load_mid 25 x ho b 0 hx c.cells _ hr Tryd.underlying25 rfl (by rw [hs]; exact infoCfg) (hK _ _ h)
/-- An operation of a region that leaves one value. -/
theorem v_pure {P : Program} {ops : Array Oper} {Q : Exit → Act → World → Prop} {i : Nat} {o : Oper} {a : Act} {w : World} {v : Value} {ps : List (Nat × Value)} (hi : ops[i]? = some o) (hw : Region.wanted o (yielded ops a.tmps) = true)
    (hv : pv ps i = v) (hr : (execOp a.eval o).run P w = .ok (.value v) w) : wpOp P ops Q i (fun a' w' => Below w.heap.size w w' ∧ ∃ v, InvV ps i v w' ∧ a' = a.put o.dst v) a w :=
  each_pure hi hw hr hv.symm
theorem v_enter {P : Program} {ops : Array Oper} {Q : Exit → Act → World → Prop} {i : Nat} {o : Oper} {a : Act} {w : World} {v : Value} {ps : List (Nat × Value)} {f : FuncId} {args : Array Value} (hi : ops[i]? = some o) (hw : Region.wanted o (yielded ops a.tmps) = true)
    (hv : pv ps i = v) (hr : (execOp a.eval o).run P w = .ok (.enter f args) w) (h : Calls P f args w fun e w' => e = .returned v ∧ Below w.heap.size w w') : wpOp P ops Q i (fun a' w' => Below w.heap.size w w' ∧ ∃ v, InvV ps i v w' ∧ a' = a.put o.dst v) a w :=
  each_enter hi hw hr (Calls.mono h fun _ _ ⟨he, hB⟩ => ⟨v, he, hB, hv.symm⟩)
end Go.Proofs.YtnljibmdcknmeabDoor
