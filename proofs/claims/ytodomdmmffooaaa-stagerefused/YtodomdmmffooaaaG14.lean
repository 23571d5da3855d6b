/-
  Own texts put together: IdNum, MgR1, RvOps. Own work.
-/
import Derived.Test.YtodomdmmffooaaaG10
import Derived.Test.YtodomdmmffooaaaG01
import Derived.Test.YtodomdmmffooaaaG12
import Derived.Test.YtodomdmmffooaaaG13
import Derived.Test.YtodomdmmffooaaaG03
import Derived.Deep.RegionHeldLaw
import Derived.Deep.QuietTactic
import Derived.BigQuiet
import Derived.Sort.Grow
import Derived.Deep.MidRow
namespace Go.Proofs.Ytodomdmmffooaaa
section
open Go.RowKit

theorem counts_any (n : Int) (w : World) : Calls Try.prog 53 #[.int .u32 n] w fun e w' => e = .returned (.bool (countB n)) ∧ w' = w := by
  unfold countB
  by_cases h : 1 ≤ n
  · have h1 : decide (1 ≤ n) = true := by simpa using h
    rw [h1, Bool.true_and]
    go_enter Try.func53, Try.ntmps53
    go_wp2
    go_ret
    exact ⟨rfl, rfl⟩
  · have h1 : decide (1 ≤ n) = false := by simpa using h
    rw [h1, Bool.false_and]
    go_enter Try.func53, Try.ntmps53
    go_wp2
    go_ret
    exact ⟨rfl, rfl⟩
theorem txMay_any (n b m : Int) (w : World) : Calls Try.prog 32 #[.agg #[.int .u8 n, .int .u32 b, .int .u32 m]] w fun e w' => e = .returned (.bool (txMayB (n, b, m))) ∧ Below w.heap.size w w' := by
  unfold txMayB
  by_cases h : n < 8
  · have h1 : decide (n < 8) = true := by simpa using h
    rw [h1, Bool.true_and]
    cases hb : countB b
    all_goals
      go_enter Try.func32, Try.ntmps32
      go_wp2_with (go_at_call 53; refine (counts_any _ _).mono ?_; rintro e w' ⟨rfl, rfl⟩)
      go_ret
      exact ⟨rfl, (Below.refl _ _).alloc (Nat.le_refl _) _⟩
  · have h1 : decide (n < 8) = false := by simpa using h
    rw [h1, Bool.false_and]
    go_enter Try.func32, Try.ntmps32
    go_wp2
    go_ret
    exact ⟨rfl, (Below.refl _ _).alloc (Nat.le_refl _) _⟩
theorem regMay_any (b m : Int) (w : World) : Calls Try.prog 33 #[.agg #[.int .u32 b, .int .u32 m]] w fun e w' => e = .returned (.bool (regMayB (b, m))) ∧ Below w.heap.size w w' := by
  unfold regMayB
  cases hb : countB b
  all_goals
    go_enter Try.func33, Try.ntmps33
    go_wp2_with (go_at_call 53; refine (counts_any _ _).mono ?_; rintro e w' ⟨rfl, rfl⟩)
    go_ret
    exact ⟨rfl, (Below.refl _ _).alloc (Nat.le_refl _) _⟩
end
section
open Go.RowKit Classical

theorem eight_cells8 {k : List Int} (h : k.length = 8) : cells8 k = eightA k := by
  unfold cells8
  rw [← eightE_map h]
theorem cf_arr {c : Cf} (h : c.Ok) : c.arr = (cfE c).toArray := by unfold Cf.arr; rw [cfE_cells h]
end
section
open Go.RowKit

section
variable {P : Program} {ρ : Operand → Value} {w : World} {dst : Option Tmp} {ty : TypeId} {pos : String} {aft : Array Edge} {gd : Option (Nat × Bool)}
theorem y_move (x : Operand) {v : Value} (hx : ρ x = v) : (execOp ρ ⟨dst, .move x, ty, pos, aft, gd⟩).run P w = .ok (.value v) w := by subst hx; simp [go_sem]
theorem y_pickT (x y z : Operand) {v : Value} (hx : ρ x = .bool true) (hy : ρ y = v) : (execOp ρ ⟨dst, .pick x y z, ty, pos, aft, gd⟩).run P w = .ok (.value v) w := by subst hy; simp [go_sem, hx]
theorem y_pickF (x y z : Operand) {v : Value} (hx : ρ x = .bool false) (hz : ρ z = v) : (execOp ρ ⟨dst, .pick x y z, ty, pos, aft, gd⟩).run P w = .ok (.value v) w := by subst hz; simp [go_sem, hx]
theorem y_bin (o : BinOp) (t t2 : TypeId) (x y : Operand) {a b v : Value} (hx : ρ x = a) (hy : ρ y = b) (hr : (binOp o t a b).run P w = .ok v w) (hg : (eqGuard o t x y a b).run P w = .ok () w) : (execOp ρ ⟨dst, .binOp o t x y t2, ty, pos, aft, gd⟩).run P w = .ok (.value v) w := by
  subst hx
  subst hy
  simp [execOp, hr, hg]
theorem y_loadMid (t : TypeId) (x : Operand) {q o : Nat} {cs : List Value} {d : TypeDesc} (hx : ρ x = .pointer (some ⟨q, o, none⟩)) (hr : w.rangeAt q o cs) (hu : P.underlying t = some d) (hd : d.isRow = true) (hi : (P.info? t).map (·.size) = some cs.length) : (execOp ρ ⟨dst, .load t x, ty, pos, aft, gd⟩).run P w = .ok (.value (.agg cs.toArray)) w := by
  have hl := run_loadVar_mid (P := P) w q o t cs d hr hu hd hi
  unfold execOp
  simp only [hx, Instr.loadAt, Instr.sureAddr, Sem.run_bind, Sem.run_pure, Result.andThen_ok, hl]
theorem y_call (f : FuncId) (xs : Array Operand) (vs : Array Value) (tys : Array TypeId) (hf : ρ (.func f) = .func (.func f) #[] #[]) (hv : xs.map ρ = vs) (he : ∀ args w, (callFunc f args).run P w = .ok (.enter f args) w) : (execOp ρ ⟨dst, .call { callee := .value (.func f), args := xs, argTypes := tys }, ty, pos, aft, gd⟩).run P w = .ok (.enter f vs) w := by
  subst hv
  simp [go_sem, hf, he]
end
section
variable {P : Program} {ops : Array Oper} {Q : Exit → Act → World → Prop}
theorem r_pure {i : Nat} {o : Oper} {a : Act} {w : World} {v : Value} {ps : List (Nat × Value)} (hi : ops[i]? = some o) (hw : Region.wanted o (yielded ops a.tmps) = true)
    (hv : pv ps i = v) (hr : (execOp a.eval o).run P w = .ok (.value v) w) : wpOp P ops Q i (fun a' w' => Below w.heap.size w w' ∧ ∃ v, InvV ps i v w' ∧ a' = a.put o.dst v) a w :=
  each_pure hi hw hr hv.symm
theorem r_enter {i : Nat} {o : Oper} {a : Act} {w : World} {v : Value} {ps : List (Nat × Value)} {f : FuncId} {args : Array Value} (hi : ops[i]? = some o) (hw : Region.wanted o (yielded ops a.tmps) = true)
    (hv : pv ps i = v) (hr : (execOp a.eval o).run P w = .ok (.enter f args) w) (h : Calls P f args w fun e w' => e = .returned v ∧ Below w.heap.size w w') : wpOp P ops Q i (fun a' w' => Below w.heap.size w w' ∧ ∃ v, InvV ps i v w' ∧ a' = a.put o.dst v) a w :=
  each_enter hi hw hr (Calls.mono h fun _ _ ⟨he, hB⟩ => ⟨v, he, hB, hv.symm⟩)
end
end
end Go.Proofs.Ytodomdmmffooaaa
