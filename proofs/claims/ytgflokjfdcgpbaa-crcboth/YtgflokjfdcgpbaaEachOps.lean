/-
  What single operations leave, in whatever frame: for regions that draw their order. Own work.
-/
import Derived.Test.YtgflokjfdcgpbaaRegionEach
import Derived.Test.YtgflokjfdcgpbaaCrcTop
import Derived.Shelf.Abstract
namespace Go.Proofs.Ytgflokjfdcgpbaa
open Go Go.RowKit Go.Shelf

section
variable {ρ : Operand → Value} {dst : Option Tmp} {ty : TypeId} {pos : String} {aft : Array Edge} {gd : Option (Nat × Bool)} {w : World}
theorem ex_move (x : Operand) : (execOp ρ ⟨dst, .move x, ty, pos, aft, gd⟩).run Try.prog w = .ok (.value (ρ x)) w := by simp [go_sem]
theorem ex_assign (x : Operand) : (execOp ρ ⟨dst, .assign x, ty, pos, aft, gd⟩).run Try.prog w = .ok (.value (ρ x)) w := by simp [go_sem]
theorem ex_build1 (x : Operand) (ao : Option Addr) (n c : Nat) (hx : ρ x = .slice ao n c) : (execOp ρ ⟨dst, .buildSlice 40 1 #[(0, x)], ty, pos, aft, gd⟩).run Try.prog w = .ok (.value (.slice (some ⟨w.heap.size, 0, none⟩) 1 1)) (w.alloc (.cells #[.slice ao n c] 22)) := by simp [go_sem, hx]
theorem ex_build2 (x y : Operand) (ao : Option Addr) (n c : Nat) (hx : ρ x = .slice ao n c) (ao' : Option Addr) (n' c' : Nat) (hy : ρ y = .slice ao' n' c') : (execOp ρ ⟨dst, .buildSlice 40 2 #[(0, x), (1, y)], ty, pos, aft, gd⟩).run Try.prog w = .ok (.value (.slice (some ⟨w.heap.size, 0, none⟩) 2 2)) (w.alloc (.cells #[.slice ao n c, .slice ao' n' c'] 22)) := by simp [go_sem, hx, hy]
theorem ex_eql (x y : Operand) (a b : Int) (hx : ρ x = .int .u32 a) (hy : ρ y = .int .u32 b) : (execOp ρ ⟨dst, .binOp .eql 23 x y 23, ty, pos, aft, gd⟩).run Try.prog w = .ok (.value (.bool (a == b))) w := by simp [go_sem, hx, hy]
theorem ex_pick (x y : Operand) (hx : ρ x = .bool true) (z : Operand) : (execOp ρ ⟨dst, .pick x y z, ty, pos, aft, gd⟩).run Try.prog w = .ok (.value (ρ y)) w := by simp [go_sem, hx]
theorem ex_len (x : Operand) (ao : Option Addr) (n c : Nat) (hx : ρ x = .slice ao n c) : (execOp ρ ⟨dst, .call { callee := .builtin .len, args := #[x], argTypes := #[22] }, ty, pos, aft, gd⟩).run Try.prog w = .ok (.value (.int .i64 n)) w := by simp [go_sem, hx]
theorem ex_conv (x : Operand) (n : Nat) (hn : n < 4294967296) (hx : ρ x = .int .i64 n) : (execOp ρ ⟨dst, .convert 3 23 x, ty, pos, aft, gd⟩).run Try.prog w = .ok (.value (.int .u32 n)) w := by
  have : IntKind.u32.wrap (n : Int) = n := by rw [IntKind.wrap_u32]; omega
  simp [go_sem, hx, this]
theorem ex_call (f : FuncId) (xs : Array Operand) (vs : Array Value) (tys : Array TypeId) (hf : ρ (.func f) = .func (.func f) #[] #[]) (hv : xs.map ρ = vs) (he : ∀ args w, (callFunc f args).run Try.prog w = .ok (.enter f args) w) : (execOp ρ ⟨dst, .call { callee := .value (.func f), args := xs, argTypes := tys }, ty, pos, aft, gd⟩).run Try.prog w = .ok (.enter f vs) w := by
  subst hv
  simp [go_sem, hf, he]
theorem en_sum : ∀ args w, (callFunc 11 args).run Try.prog w = .ok (.enter 11 args) w := enters_of Try.func11 (by kernel_rfl) rfl
theorem en_zeros : ∀ args w, (callFunc 14 args).run Try.prog w = .ok (.enter 14 args) w := enters_of Try.func14 (by kernel_rfl) rfl
theorem en_join : ∀ args w, (callFunc 16 args).run Try.prog w = .ok (.enter 16 args) w := enters_of Try.func16 (by kernel_rfl) rfl
theorem en_alive : ∀ args w, (callFunc 10 args).run Try.prog w = .ok (.enter 10 args) w := enters_of Try.func10 (by kernel_rfl) rfl
theorem info5 : (Try.prog.info? 5).map (fun i => (i.zero, i.size, i.bytes)) = some (some (.int .u8 0), 1, 1) := by kernel_rfl
theorem ex_make (x : Operand) (n : Nat) (hn : n < 3000) (hx : ρ x = .int .u32 n) : ∃ w', (execOp ρ ⟨dst, .makeSlice 22 x x, ty, pos, aft, gd⟩).run Try.prog w = .ok (.value (.slice (some ⟨w.heap.size, 0, none⟩) n n)) w' ∧ Lies .u8 w' (.slice (some ⟨w.heap.size, 0, none⟩) n n) (List.replicate n 0) ∧ Below w.heap.size w w' := by
  obtain ⟨i0, hi, hz0, hz1, hz2⟩ := info_parts info5
  obtain ⟨w', hrun, r1, r2⟩ := run_make_full (P := Try.prog) w w.heap.size 22 5 i0 (.int .u8 0) 1 Try.underlying22 hi hz0 hz1 .u32 .u32 n (by rw [hz2]; omega) (by unfold maxLen; omega) (Nat.le_refl _)
  refine ⟨w', ?_, ?_, (Below.refl _ _).grown r2 (Nat.le_refl _) (fun k hk => by cases hk)⟩
  · simp [execOp, hx, hrun, Result.andThen]
  · have e : (madeCells (Value.int .u8 0).cells (n * 1)).toList = (List.replicate n (0 : Int)).map (Value.int .u8) := by
      apply List.ext_getElem
      · simp [madeCells]
      · intro k h1 h2
        simp [madeCells, Value.cells, Nat.mod_one]
    rw [e] at r1
    exact Lies.of_own r1
end
end Go.Proofs.Ytgflokjfdcgpbaa
