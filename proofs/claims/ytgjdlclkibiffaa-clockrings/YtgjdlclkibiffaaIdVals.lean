/-
  Values of names, stamps, regs and keys, and what '==' and '!=' say of two. Own work.
-/
import Derived.Test.YtgjdlclkibiffaaIdPlain
import Derived.Test.YtgjdlclkibiffaaLies
import Derived.Laws.StructEq
namespace Go.Proofs.Ytgjdlclkibiffaa
open Go.RowKit

theorem eq_tx (a b c d e f : Int) (w : World) : (Op.equalIn 10000 32 (.agg #[.int .u8 a, .int .u32 b, .int .u32 c]) (.agg #[.int .u8 d, .int .u32 e, .int .u32 f])).run Try.prog w = .ok (a == d && b == e && c == f) w := by
  have hS : Try.prog.underlying 32 = some (.struct (Try.prog.fieldsOf 32)) := by kernel_rfl
  rw [show (10000 : Nat) = 9999 + 1 from rfl, run_equalIn_agg w 9999 32 _ _ hS (by kernel_rfl)]
  simp only [Program.fieldsOf, Try.underlying32]
  go_simp
  by_cases h1 : a = d <;> by_cases h2 : b = e <;> by_cases h3 : c = f <;> simp [h1, h2, h3]
theorem eql_tx (a b c d e f : Int) (w : World) : (binOp .eql 32 (.agg #[.int .u8 a, .int .u32 b, .int .u32 c]) (.agg #[.int .u8 d, .int .u32 e, .int .u32 f])).run Try.prog w = .ok (.bool (a == d && b == e && c == f)) w := by
  rw [run_eql_struct, eq_tx]; rfl
theorem neq_tx (a b c d e f : Int) (w : World) : (binOp .neq 32 (.agg #[.int .u8 a, .int .u32 b, .int .u32 c]) (.agg #[.int .u8 d, .int .u32 e, .int .u32 f])).run Try.prog w = .ok (.bool (!(a == d && b == e && c == f))) w := by
  rw [run_neq_struct, eq_tx]; rfl
theorem eq_tx9 (a b c d e f : Int) (w : World) : (Op.equalIn 9999 32 (.agg #[.int .u8 a, .int .u32 b, .int .u32 c]) (.agg #[.int .u8 d, .int .u32 e, .int .u32 f])).run Try.prog w = .ok (a == d && b == e && c == f) w := by
  have hS : Try.prog.underlying 32 = some (.struct (Try.prog.fieldsOf 32)) := by kernel_rfl
  rw [show (9999 : Nat) = 9998 + 1 from rfl, run_equalIn_agg w 9998 32 _ _ hS (by kernel_rfl)]
  simp only [Program.fieldsOf, Try.underlying32]
  go_simp
  by_cases h1 : a = d <;> by_cases h2 : b = e <;> by_cases h3 : c = f <;> simp [h1, h2, h3]
end Go.Proofs.Ytgjdlclkibiffaa
