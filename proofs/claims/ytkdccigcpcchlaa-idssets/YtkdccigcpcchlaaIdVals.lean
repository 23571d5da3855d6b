/-
  Values of names, stamps, regs and keys, and what '==' and '!=' say of two. Own work.
-/
import Derived.Test.YtkdccigcpcchlaaIdPlain
import Derived.Test.YtkdccigcpcchlaaLies
import Derived.Laws.StructEq
namespace Go.Proofs.Ytkdccigcpcchlaa
open Go.RowKit

theorem eq_tx (a b c d e f : Int) (w : World) : (Op.equalIn 10000 35 (.agg #[.int .u8 a, .int .u32 b, .int .u32 c]) (.agg #[.int .u8 d, .int .u32 e, .int .u32 f])).run Try.prog w = .ok (a == d && b == e && c == f) w := by
  have hS : Try.prog.underlying 35 = some (.struct (Try.prog.fieldsOf 35)) := by kernel_rfl
  rw [show (10000 : Nat) = 9999 + 1 from rfl, run_equalIn_agg w 9999 35 _ _ hS (by kernel_rfl)]
  simp only [Program.fieldsOf, Try.underlying35]
  go_simp
  by_cases h1 : a = d <;> by_cases h2 : b = e <;> by_cases h3 : c = f <;> simp [h1, h2, h3]
theorem eql_tx (a b c d e f : Int) (w : World) : (binOp .eql 35 (.agg #[.int .u8 a, .int .u32 b, .int .u32 c]) (.agg #[.int .u8 d, .int .u32 e, .int .u32 f])).run Try.prog w = .ok (.bool (a == d && b == e && c == f)) w := by
  rw [run_eql_struct, eq_tx]; rfl
theorem neq_tx (a b c d e f : Int) (w : World) : (binOp .neq 35 (.agg #[.int .u8 a, .int .u32 b, .int .u32 c]) (.agg #[.int .u8 d, .int .u32 e, .int .u32 f])).run Try.prog w = .ok (.bool (!(a == d && b == e && c == f))) w := by
  rw [run_neq_struct, eq_tx]; rfl
theorem eq_reg (a b d e : Int) (w : World) : (Op.equalIn 10000 39 (.agg #[.int .u32 a, .int .u32 b]) (.agg #[.int .u32 d, .int .u32 e])).run Try.prog w = .ok (a == d && b == e) w := by
  have hS : Try.prog.underlying 39 = some (.struct (Try.prog.fieldsOf 39)) := by kernel_rfl
  rw [show (10000 : Nat) = 9999 + 1 from rfl, run_equalIn_agg w 9999 39 _ _ hS (by kernel_rfl)]
  simp only [Program.fieldsOf, Try.underlying39]
  go_simp
  by_cases h1 : a = d <;> by_cases h2 : b = e <;> simp [h1, h2]
theorem eql_reg (a b d e : Int) (w : World) : (binOp .eql 39 (.agg #[.int .u32 a, .int .u32 b]) (.agg #[.int .u32 d, .int .u32 e])).run Try.prog w = .ok (.bool (a == d && b == e)) w := by
  rw [run_eql_struct, eq_reg]; rfl
theorem eq_tx9 (a b c d e f : Int) (w : World) : (Op.equalIn 9999 35 (.agg #[.int .u8 a, .int .u32 b, .int .u32 c]) (.agg #[.int .u8 d, .int .u32 e, .int .u32 f])).run Try.prog w = .ok (a == d && b == e && c == f) w := by
  have hS : Try.prog.underlying 35 = some (.struct (Try.prog.fieldsOf 35)) := by kernel_rfl
  rw [show (9999 : Nat) = 9998 + 1 from rfl, run_equalIn_agg w 9998 35 _ _ hS (by kernel_rfl)]
  simp only [Program.fieldsOf, Try.underlying35]
  go_simp
  by_cases h1 : a = d <;> by_cases h2 : b = e <;> by_cases h3 : c = f <;> simp [h1, h2, h3]
theorem eq_stamp (t a b c u d e f : Int) (w : World) : (Op.equalIn 10000 37 (.agg #[.int .u32 t, .int .u8 a, .int .u32 b, .int .u32 c]) (.agg #[.int .u32 u, .int .u8 d, .int .u32 e, .int .u32 f])).run Try.prog w = .ok (t == u && (a == d && b == e && c == f)) w := by
  have hS : Try.prog.underlying 37 = some (.struct (Try.prog.fieldsOf 37)) := by kernel_rfl
  have hin := fun w => eq_tx9 a b c d e f w
  have hti : ∀ w, (Op.equalIn 9999 33 (.int .u32 t) (.int .u32 u)).run Try.prog w = .ok (t == u) w := fun w => by
    rw [show (9999 : Nat) = 9998 + 1 from rfl]
    go_simp
  generalize (a == d && b == e && c == f) = r at *
  rw [show (10000 : Nat) = 9999 + 1 from rfl, run_equalIn_agg w 9999 37 _ _ hS (by kernel_rfl)]
  simp only [Program.fieldsOf, Try.underlying37]
  generalize 9999 = d0 at *
  go_simp
  cases r <;> by_cases h0 : t = u <;> simp [h0]
theorem eql_stamp (t a b c u d e f : Int) (w : World) : (binOp .eql 37 (.agg #[.int .u32 t, .int .u8 a, .int .u32 b, .int .u32 c]) (.agg #[.int .u32 u, .int .u8 d, .int .u32 e, .int .u32 f])).run Try.prog w = .ok (.bool (t == u && (a == d && b == e && c == f))) w := by
  rw [run_eql_struct, eq_stamp]; rfl
theorem eqi_key (a0 a1 a2 a3 a4 a5 a6 a7 b0 b1 b2 b3 b4 b5 b6 b7 : Int) (w : World) :
    (Op.equalIn 10000 23 (.agg #[.int .u8 a0, .int .u8 a1, .int .u8 a2, .int .u8 a3, .int .u8 a4, .int .u8 a5, .int .u8 a6, .int .u8 a7]) (.agg #[.int .u8 b0, .int .u8 b1, .int .u8 b2, .int .u8 b3, .int .u8 b4, .int .u8 b5, .int .u8 b6, .int .u8 b7])).run Try.prog w
      = .ok (decide ([a0, a1, a2, a3, a4, a5, a6, a7] = [b0, b1, b2, b3, b4, b5, b6, b7])) w := by
  rw [show (10000 : Nat) = 9999 + 1 from rfl, Op.equalIn]
  simp only [Sem.run_bind, run_underlying Try.underlying23, Result.andThen_ok]
  simp only [Std.Legacy.Range.forIn_eq_forIn_range', Std.Legacy.Range.size, Nat.sub_zero, Nat.add_sub_cancel, Nat.div_one, List.range'_succ, List.range'_zero, List.forIn_cons, List.forIn_nil]
  go_simp
  by_cases h0 : a0 = b0
  · by_cases h1 : a1 = b1
    · by_cases h2 : a2 = b2
      · by_cases h3 : a3 = b3
        · by_cases h4 : a4 = b4
          · by_cases h5 : a5 = b5
            · by_cases h6 : a6 = b6
              · by_cases h7 : a7 = b7 <;> simp [h0, h1, h2, h3, h4, h5, h6, h7]
              · simp [h0, h1, h2, h3, h4, h5, h6]
            · simp [h0, h1, h2, h3, h4, h5]
          · simp [h0, h1, h2, h3, h4]
        · simp [h0, h1, h2, h3]
      · simp [h0, h1, h2]
    · simp [h0, h1]
  · simp [h0]
theorem eqli_key (a0 a1 a2 a3 a4 a5 a6 a7 b0 b1 b2 b3 b4 b5 b6 b7 : Int) (w : World) :
    (binOp .eql 23 (.agg #[.int .u8 a0, .int .u8 a1, .int .u8 a2, .int .u8 a3, .int .u8 a4, .int .u8 a5, .int .u8 a6, .int .u8 a7]) (.agg #[.int .u8 b0, .int .u8 b1, .int .u8 b2, .int .u8 b3, .int .u8 b4, .int .u8 b5, .int .u8 b6, .int .u8 b7])).run Try.prog w
      = .ok (.bool (decide ([a0, a1, a2, a3, a4, a5, a6, a7] = [b0, b1, b2, b3, b4, b5, b6, b7]))) w := by
  rw [run_eql_struct, eqi_key]; rfl
theorem neqi_key (a0 a1 a2 a3 a4 a5 a6 a7 b0 b1 b2 b3 b4 b5 b6 b7 : Int) (w : World) :
    (binOp .neq 23 (.agg #[.int .u8 a0, .int .u8 a1, .int .u8 a2, .int .u8 a3, .int .u8 a4, .int .u8 a5, .int .u8 a6, .int .u8 a7]) (.agg #[.int .u8 b0, .int .u8 b1, .int .u8 b2, .int .u8 b3, .int .u8 b4, .int .u8 b5, .int .u8 b6, .int .u8 b7])).run Try.prog w
      = .ok (.bool (!decide ([a0, a1, a2, a3, a4, a5, a6, a7] = [b0, b1, b2, b3, b4, b5, b6, b7]))) w := by
  rw [run_neq_struct, eqi_key]; rfl
end Go.Proofs.Ytkdccigcpcchlaa
