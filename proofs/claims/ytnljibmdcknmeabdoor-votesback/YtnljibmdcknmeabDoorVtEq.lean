/-
  == of a configuration with itself. Own work.
-/
import Derived.Test.YtnljibmdcknmeabDoorVtMake
import Derived.Laws.StructEq
namespace Go.Proofs.YtnljibmdcknmeabDoor
open Go.RowKit

theorem eq8_self (a0 a1 a2 a3 a4 a5 a6 a7 : Int) (w : World) :
    (Op.equalIn 9999 23 (.agg #[.int .u8 a0, .int .u8 a1, .int .u8 a2, .int .u8 a3, .int .u8 a4, .int .u8 a5, .int .u8 a6, .int .u8 a7]) (.agg #[.int .u8 a0, .int .u8 a1, .int .u8 a2, .int .u8 a3, .int .u8 a4, .int .u8 a5, .int .u8 a6, .int .u8 a7])).run Tryd.prog w = .ok true w := by
  rw [show (9999 : Nat) = 9998 + 1 from rfl, Op.equalIn]
  simp only [Sem.run_bind, run_underlying Tryd.underlying23, Result.andThen_ok]
  simp only [Std.Legacy.Range.forIn_eq_forIn_range', Std.Legacy.Range.size, Nat.sub_zero, Nat.add_sub_cancel, Nat.div_one, List.range'_succ, List.range'_zero, List.forIn_cons, List.forIn_nil]
  go_simp
theorem eqc_self (t a b v0 v1 v2 v3 v4 v5 v6 v7 : Int) (w : World) :
    (Op.equalIn 10000 25 (.agg #[.int .u32 t, .int .u8 a, .int .u8 b, .int .u8 v0, .int .u8 v1, .int .u8 v2, .int .u8 v3, .int .u8 v4, .int .u8 v5, .int .u8 v6, .int .u8 v7]) (.agg #[.int .u32 t, .int .u8 a, .int .u8 b, .int .u8 v0, .int .u8 v1, .int .u8 v2, .int .u8 v3, .int .u8 v4, .int .u8 v5, .int .u8 v6, .int .u8 v7])).run Tryd.prog w = .ok true w := by
  have hS : Tryd.prog.underlying 25 = some (.struct (Tryd.prog.fieldsOf 25)) := by kernel_rfl
  have hin := fun w => eq8_self v0 v1 v2 v3 v4 v5 v6 v7 w
  have hti : ∀ w, (Op.equalIn 9999 22 (.int .u32 t) (.int .u32 t)).run Tryd.prog w = .ok true w := fun w => by
    rw [show (9999 : Nat) = 9998 + 1 from rfl]
    go_simp
  have hta : ∀ w, (Op.equalIn 9999 5 (.int .u8 a) (.int .u8 a)).run Tryd.prog w = .ok true w := fun w => by
    rw [show (9999 : Nat) = 9998 + 1 from rfl]
    go_simp
  have htb : ∀ w, (Op.equalIn 9999 5 (.int .u8 b) (.int .u8 b)).run Tryd.prog w = .ok true w := fun w => by
    rw [show (9999 : Nat) = 9998 + 1 from rfl]
    go_simp
  rw [show (10000 : Nat) = 9999 + 1 from rfl, run_equalIn_agg w 9999 25 _ _ hS (by kernel_rfl)]
  simp only [Program.fieldsOf, Tryd.underlying25]
  generalize 9999 = d0 at *
  go_simp
theorem eqC_self (c : Cf) (hok : c.Ok) (w : World) : (Op.equalIn 10000 25 (.agg c.arr) (.agg c.arr)).run Tryd.prog w = .ok true w := by
  obtain ⟨e, r, w0, vs⟩ := c
  have hl : vs.length = 8 := hok.l
  match vs, hl with
  | [v0, v1, v2, v3, v4, v5, v6, v7], _ => exact eqc_self e r w0 v0 v1 v2 v3 v4 v5 v6 v7 w
theorem gCfg : Tryd.prog.eqGuardType Tryd.prog.depth 25 = false := by kernel_rfl
section
variable {ρ : Operand → Value} {dst : Option Tmp} {ty : TypeId} {pos : String} {aft : Array Edge} {gd : Option (Nat × Bool)} {w : World}
theorem x_eqlC (x y : Operand) {c : Cf} (hok : c.Ok) (hx : ρ x = .agg c.arr) (hy : ρ y = .agg c.arr) : (execOp ρ ⟨dst, .binOp .eql 25 x y 25, ty, pos, aft, gd⟩).run Tryd.prog w = .ok (.value (.bool true)) w := by
  have h := eqC_self c hok w
  unfold execOp
  simp only [hx, hy, Sem.run_bind, run_eqGuard_agg w BinOp.eql 25 x y c.arr c.arr gCfg, Result.andThen_ok, run_eql_struct, h]
  rfl
end
end Go.Proofs.YtnljibmdcknmeabDoor
