/-
  The walk of IdsOrders. Own work.
-/
import Derived.Test.YtkdccigcpcchlabIdLawKit
import Derived.Test.YtkdccigcpcchlabIdThree
import Derived.Test.YtkdccigcpcchlabRegionEach
namespace Go.Proofs.Ytkdccigcpcchlab
open Go Go.RowKit Go.Shelf

namespace orders5
section
variable {ρ : Operand → Value} {dst : Option Tmp} {ty : TypeId} {pos : String} {aft : Array Edge} {gd : Option (Nat × Bool)} {w : World}
theorem xo_move (x : Operand) : (execOp ρ ⟨dst, .move x, ty, pos, aft, gd⟩).run Try.prog w = .ok (.value (ρ x)) w := by simp [go_sem]
theorem xo_assign (x : Operand) : (execOp ρ ⟨dst, .assign x, ty, pos, aft, gd⟩).run Try.prog w = .ok (.value (ρ x)) w := by simp [go_sem]
theorem xo_field1 (x : Operand) (q : Nat) (hx : ρ x = .pointer (some ⟨q, 0, none⟩)) : (execOp ρ ⟨dst, .fieldAddr 26 x 1, ty, pos, aft, gd⟩).run Try.prog w = .ok (.value (.pointer (some ⟨q, 1, none⟩))) w := by simp [go_sem, hx]
theorem xo_loadSt (x : Operand) (q : Nat) (s a b c : Int) (hx : ρ x = .pointer (some ⟨q, 0, none⟩)) (h0 : w.cell? ⟨q, 0, none⟩ = some (.int .u32 s)) (h1 : w.cell? ⟨q, 1, none⟩ = some (.int .u8 a)) (h2 : w.cell? ⟨q, 2, none⟩ = some (.int .u32 b)) (h3 : w.cell? ⟨q, 3, none⟩ = some (.int .u32 c)) : (execOp ρ ⟨dst, .load 26 x, ty, pos, aft, gd⟩).run Try.prog w = .ok (.value (.agg #[.int .u32 s, .int .u8 a, .int .u32 b, .int .u32 c])) w := by simp [go_sem, hx, h0, h1, h2, h3]
theorem xo_loadTx (x : Operand) (q : Nat) (a b c : Int) (hx : ρ x = .pointer (some ⟨q, 1, none⟩)) (h1 : w.cell? ⟨q, 1, none⟩ = some (.int .u8 a)) (h2 : w.cell? ⟨q, 2, none⟩ = some (.int .u32 b)) (h3 : w.cell? ⟨q, 3, none⟩ = some (.int .u32 c)) : (execOp ρ ⟨dst, .load 24 x, ty, pos, aft, gd⟩).run Try.prog w = .ok (.value (.agg #[.int .u8 a, .int .u32 b, .int .u32 c])) w := by simp [go_sem, hx, h1, h2, h3]
theorem xo_eql {t : TypeId} {x y : Operand} {xs ys : Array Value} {r : Bool} (hg : Try.prog.eqGuardType Try.prog.depth t = false) (hx : ρ x = .agg xs) (hy : ρ y = .agg ys) (he : ∀ w, (binOp .eql t (.agg xs) (.agg ys)).run Try.prog w = .ok (.bool r) w) : (execOp ρ ⟨dst, .binOp .eql t x y t, ty, pos, aft, gd⟩).run Try.prog w = .ok (.value (.bool r)) w := by
  simp only [execOp, hx, hy, Sem.run_bind, run_eqGuard_agg w .eql t x y xs ys hg, Result.andThen_ok, he]
  rfl
theorem xo_pick (x y : Operand) (hx : ρ x = .bool true) (z : Operand) : (execOp ρ ⟨dst, .pick x y z, ty, pos, aft, gd⟩).run Try.prog w = .ok (.value (ρ y)) w := by simp [go_sem, hx]
theorem xo_call (f : FuncId) (x : Operand) (xs : Array Operand) (vs : Array Value) (tys : Array TypeId) (hf : ρ x = .func (.func f) #[] #[]) (hv : xs.map ρ = vs) (he : ∀ args w, (callFunc f args).run Try.prog w = .ok (.enter f args) w) : (execOp ρ ⟨dst, .call { callee := .value x, args := xs, argTypes := tys }, ty, pos, aft, gd⟩).run Try.prog w = .ok (.enter f vs) w := by
  subst hv
  simp [go_sem, hf, he]
end
theorem en_i_Stamps : ∀ args w, (callFunc 7 args).run Try.prog w = .ok (.enter 7 args) w := enters_of Try.func7 (by kernel_rfl) rfl
theorem en_i_Txs : ∀ args w, (callFunc 8 args).run Try.prog w = .ok (.enter 8 args) w := enters_of Try.func8 (by kernel_rfl) rfl
theorem en_i_Keys : ∀ args w, (callFunc 9 args).run Try.prog w = .ok (.enter 9 args) w := enters_of Try.func9 (by kernel_rfl) rfl
theorem en_alive : ∀ args w, (callFunc 10 args).run Try.prog w = .ok (.enter 10 args) w := enters_of Try.func10 (by kernel_rfl) rfl
theorem en_IdsOrders_1 : ∀ args w, (callFunc 5 args).run Try.prog w = .ok (.enter 5 args) w := enters_of Try.func5 (by kernel_rfl) rfl
theorem en_IdsOrders_2 : ∀ args w, (callFunc 6 args).run Try.prog w = .ok (.enter 6 args) w := enters_of Try.func6 (by kernel_rfl) rfl
/-- What each operation leaves. -/
def VO (q : Nat) (s a b c t d e f u g k l p0 p1 p2 p3 z0 z1 z2 z3 r0 r1 r2 r3 : Int) (m1 m2 m3 : Bool) : Nat → Value
  | 0 => .func (.func 5) #[] #[]
  | 1 => .agg #[.int .u32 s, .int .u8 a, .int .u32 b, .int .u32 c]
  | 2 => .agg #[.int .u32 t, .int .u8 d, .int .u32 e, .int .u32 f]
  | 3 => .int .i64 p0
  | 4 => .agg #[.int .u32 t, .int .u8 d, .int .u32 e, .int .u32 f]
  | 5 => .agg #[.int .u32 u, .int .u8 g, .int .u32 k, .int .u32 l]
  | 6 => .int .i64 p1
  | 7 => .agg #[.int .u32 s, .int .u8 a, .int .u32 b, .int .u32 c]
  | 8 => .agg #[.int .u32 u, .int .u8 g, .int .u32 k, .int .u32 l]
  | 9 => .int .i64 p2
  | 10 => .agg #[.int .u32 t, .int .u8 d, .int .u32 e, .int .u32 f]
  | 11 => .agg #[.int .u32 s, .int .u8 a, .int .u32 b, .int .u32 c]
  | 12 => .int .i64 p3
  | 13 => .agg #[.int .u32 s, .int .u8 a, .int .u32 b, .int .u32 c]
  | 14 => .agg #[.int .u32 t, .int .u8 d, .int .u32 e, .int .u32 f]
  | 15 => .bool m1
  | 16 => .bool true
  | 17 => .bool true
  | 18 => .func (.func 5) #[] #[]
  | 19 => .pointer (some ⟨q, 1, none⟩)
  | 20 => .agg #[.int .u8 a, .int .u32 b, .int .u32 c]
  | 21 => .pointer (some ⟨q + 1, 1, none⟩)
  | 22 => .agg #[.int .u8 d, .int .u32 e, .int .u32 f]
  | 23 => .int .i64 z0
  | 24 => .pointer (some ⟨q + 1, 1, none⟩)
  | 25 => .agg #[.int .u8 d, .int .u32 e, .int .u32 f]
  | 26 => .pointer (some ⟨q + 2, 1, none⟩)
  | 27 => .agg #[.int .u8 g, .int .u32 k, .int .u32 l]
  | 28 => .int .i64 z1
  | 29 => .pointer (some ⟨q, 1, none⟩)
  | 30 => .agg #[.int .u8 a, .int .u32 b, .int .u32 c]
  | 31 => .pointer (some ⟨q + 2, 1, none⟩)
  | 32 => .agg #[.int .u8 g, .int .u32 k, .int .u32 l]
  | 33 => .int .i64 z2
  | 34 => .pointer (some ⟨q + 1, 1, none⟩)
  | 35 => .agg #[.int .u8 d, .int .u32 e, .int .u32 f]
  | 36 => .pointer (some ⟨q, 1, none⟩)
  | 37 => .agg #[.int .u8 a, .int .u32 b, .int .u32 c]
  | 38 => .int .i64 z3
  | 39 => .pointer (some ⟨q, 1, none⟩)
  | 40 => .agg #[.int .u8 a, .int .u32 b, .int .u32 c]
  | 41 => .pointer (some ⟨q + 1, 1, none⟩)
  | 42 => .agg #[.int .u8 d, .int .u32 e, .int .u32 f]
  | 43 => .bool m2
  | 44 => .bool true
  | 45 => .bool true
  | 46 => .bool true
  | 47 => .func (.func 5) #[] #[]
  | 48 => .func (.func 6) #[] #[]
  | 49 => .agg #[.int .u32 s, .int .u8 a, .int .u32 b, .int .u32 c]
  | 50 => .agg #[.int .u8 (s % 256), .int .u8 a, .int .u8 (b % 256), .int .u8 0, .int .u8 0, .int .u8 0, .int .u8 0, .int .u8 0]
  | 51 => .func (.func 6) #[] #[]
  | 52 => .agg #[.int .u32 t, .int .u8 d, .int .u32 e, .int .u32 f]
  | 53 => .agg #[.int .u8 (t % 256), .int .u8 d, .int .u8 (e % 256), .int .u8 0, .int .u8 0, .int .u8 0, .int .u8 0, .int .u8 0]
  | 54 => .int .i64 r0
  | 55 => .func (.func 6) #[] #[]
  | 56 => .agg #[.int .u32 t, .int .u8 d, .int .u32 e, .int .u32 f]
  | 57 => .agg #[.int .u8 (t % 256), .int .u8 d, .int .u8 (e % 256), .int .u8 0, .int .u8 0, .int .u8 0, .int .u8 0, .int .u8 0]
  | 58 => .func (.func 6) #[] #[]
  | 59 => .agg #[.int .u32 u, .int .u8 g, .int .u32 k, .int .u32 l]
  | 60 => .agg #[.int .u8 (u % 256), .int .u8 g, .int .u8 (k % 256), .int .u8 0, .int .u8 0, .int .u8 0, .int .u8 0, .int .u8 0]
  | 61 => .int .i64 r1
  | 62 => .func (.func 6) #[] #[]
  | 63 => .agg #[.int .u32 s, .int .u8 a, .int .u32 b, .int .u32 c]
  | 64 => .agg #[.int .u8 (s % 256), .int .u8 a, .int .u8 (b % 256), .int .u8 0, .int .u8 0, .int .u8 0, .int .u8 0, .int .u8 0]
  | 65 => .func (.func 6) #[] #[]
  | 66 => .agg #[.int .u32 u, .int .u8 g, .int .u32 k, .int .u32 l]
  | 67 => .agg #[.int .u8 (u % 256), .int .u8 g, .int .u8 (k % 256), .int .u8 0, .int .u8 0, .int .u8 0, .int .u8 0, .int .u8 0]
  | 68 => .int .i64 r2
  | 69 => .func (.func 6) #[] #[]
  | 70 => .agg #[.int .u32 t, .int .u8 d, .int .u32 e, .int .u32 f]
  | 71 => .agg #[.int .u8 (t % 256), .int .u8 d, .int .u8 (e % 256), .int .u8 0, .int .u8 0, .int .u8 0, .int .u8 0, .int .u8 0]
  | 72 => .func (.func 6) #[] #[]
  | 73 => .agg #[.int .u32 s, .int .u8 a, .int .u32 b, .int .u32 c]
  | 74 => .agg #[.int .u8 (s % 256), .int .u8 a, .int .u8 (b % 256), .int .u8 0, .int .u8 0, .int .u8 0, .int .u8 0, .int .u8 0]
  | 75 => .int .i64 r3
  | 76 => .func (.func 6) #[] #[]
  | 77 => .agg #[.int .u32 s, .int .u8 a, .int .u32 b, .int .u32 c]
  | 78 => .agg #[.int .u8 (s % 256), .int .u8 a, .int .u8 (b % 256), .int .u8 0, .int .u8 0, .int .u8 0, .int .u8 0, .int .u8 0]
  | 79 => .func (.func 6) #[] #[]
  | 80 => .agg #[.int .u32 t, .int .u8 d, .int .u32 e, .int .u32 f]
  | 81 => .agg #[.int .u8 (t % 256), .int .u8 d, .int .u8 (e % 256), .int .u8 0, .int .u8 0, .int .u8 0, .int .u8 0, .int .u8 0]
  | 82 => .bool m3
  | 83 => .bool true
  | 84 => .bool true
  | 85 => .bool true
  | 86 => .bool true
  | 87 => .bool true
  | _ => .bool true
def InvO (q : Nat) (s a b c t d e f u g k l p0 p1 p2 p3 z0 z1 z2 z3 r0 r1 r2 r3 : Int) (m1 m2 m3 : Bool) (i : Nat) (v : Value) (_ : World) : Prop := v = VO q s a b c t d e f u g k l p0 p1 p2 p3 z0 z1 z2 z3 r0 r1 r2 r3 m1 m2 m3 i
theorem skey_byte (s n b : Int) (h0 : 0 ≤ n) (h1 : n < 256) : ∀ c ∈ skeyF s n b, 0 ≤ c ∧ c < 256 := by
  intro c hc
  simp only [skeyF, List.mem_cons, List.not_mem_nil, or_false] at hc
  omega
theorem guardSt : Try.prog.eqGuardType Try.prog.depth 26 = false := by kernel_rfl
theorem guardTx : Try.prog.eqGuardType Try.prog.depth 24 = false := by kernel_rfl
theorem guardKey : Try.prog.eqGuardType Try.prog.depth 29 = false := by kernel_rfl
set_option maxRecDepth 100000 in
set_option maxHeartbeats 6400000 in
theorem walkN (s a b c t d e f u g k l : Int) (w : World) (ha : 0 ≤ a ∧ a < 256) (hd : 0 ≤ d ∧ d < 256) (hg : 0 ≤ g ∧ g < 256) :
    Calls Try.prog 3 #[.agg #[.int .u32 s, .int .u8 a, .int .u32 b, .int .u32 c], .agg #[.int .u32 t, .int .u8 d, .int .u32 e, .int .u32 f], .agg #[.int .u32 u, .int .u8 g, .int .u32 k, .int .u32 l]] w fun e' w' => e' = .returned (.bool true) ∧ Below w.heap.size w w' := by
  have CS0 := hide (fun w => (stamps_any s a b c t d e f w).mono fun e' w' ⟨h1, h2⟩ => (⟨h1, h2.below⟩ : _ ∧ Below w.heap.size w w'))
  have CT0 := hide (fun w => (txs_any a b c d e f w).mono fun e' w' ⟨h1, h2⟩ => (⟨h1, h2.below⟩ : _ ∧ Below w.heap.size w w'))
  have CK0 : Hid (∀ w, Calls Try.prog 9 #[.agg #[.int .u8 (s % 256), .int .u8 a, .int .u8 (b % 256), .int .u8 0, .int .u8 0, .int .u8 0, .int .u8 0, .int .u8 0], .agg #[.int .u8 (t % 256), .int .u8 d, .int .u8 (e % 256), .int .u8 0, .int .u8 0, .int .u8 0, .int .u8 0, .int .u8 0]] w fun e' w' => e' = .returned (.int .i64 (lexF (skeyF s a b) (skeyF t d e))) ∧ Below w.heap.size w w') := hide (fun w => keys_any (skeyF s a b) (skeyF t d e) w rfl rfl (skey_byte _ _ _ ha.1 ha.2) (skey_byte _ _ _ hd.1 hd.2))
  have CS1 := hide (fun w => (stamps_any t d e f u g k l w).mono fun e' w' ⟨h1, h2⟩ => (⟨h1, h2.below⟩ : _ ∧ Below w.heap.size w w'))
  have CT1 := hide (fun w => (txs_any d e f g k l w).mono fun e' w' ⟨h1, h2⟩ => (⟨h1, h2.below⟩ : _ ∧ Below w.heap.size w w'))
  have CK1 : Hid (∀ w, Calls Try.prog 9 #[.agg #[.int .u8 (t % 256), .int .u8 d, .int .u8 (e % 256), .int .u8 0, .int .u8 0, .int .u8 0, .int .u8 0, .int .u8 0], .agg #[.int .u8 (u % 256), .int .u8 g, .int .u8 (k % 256), .int .u8 0, .int .u8 0, .int .u8 0, .int .u8 0, .int .u8 0]] w fun e' w' => e' = .returned (.int .i64 (lexF (skeyF t d e) (skeyF u g k))) ∧ Below w.heap.size w w') := hide (fun w => keys_any (skeyF t d e) (skeyF u g k) w rfl rfl (skey_byte _ _ _ hd.1 hd.2) (skey_byte _ _ _ hg.1 hg.2))
  have CS2 := hide (fun w => (stamps_any s a b c u g k l w).mono fun e' w' ⟨h1, h2⟩ => (⟨h1, h2.below⟩ : _ ∧ Below w.heap.size w w'))
  have CT2 := hide (fun w => (txs_any a b c g k l w).mono fun e' w' ⟨h1, h2⟩ => (⟨h1, h2.below⟩ : _ ∧ Below w.heap.size w w'))
  have CK2 : Hid (∀ w, Calls Try.prog 9 #[.agg #[.int .u8 (s % 256), .int .u8 a, .int .u8 (b % 256), .int .u8 0, .int .u8 0, .int .u8 0, .int .u8 0, .int .u8 0], .agg #[.int .u8 (u % 256), .int .u8 g, .int .u8 (k % 256), .int .u8 0, .int .u8 0, .int .u8 0, .int .u8 0, .int .u8 0]] w fun e' w' => e' = .returned (.int .i64 (lexF (skeyF s a b) (skeyF u g k))) ∧ Below w.heap.size w w') := hide (fun w => keys_any (skeyF s a b) (skeyF u g k) w rfl rfl (skey_byte _ _ _ ha.1 ha.2) (skey_byte _ _ _ hg.1 hg.2))
  have CS3 := hide (fun w => (stamps_any t d e f s a b c w).mono fun e' w' ⟨h1, h2⟩ => (⟨h1, h2.below⟩ : _ ∧ Below w.heap.size w w'))
  have CT3 := hide (fun w => (txs_any d e f a b c w).mono fun e' w' ⟨h1, h2⟩ => (⟨h1, h2.below⟩ : _ ∧ Below w.heap.size w w'))
  have CK3 : Hid (∀ w, Calls Try.prog 9 #[.agg #[.int .u8 (t % 256), .int .u8 d, .int .u8 (e % 256), .int .u8 0, .int .u8 0, .int .u8 0, .int .u8 0, .int .u8 0], .agg #[.int .u8 (s % 256), .int .u8 a, .int .u8 (b % 256), .int .u8 0, .int .u8 0, .int .u8 0, .int .u8 0, .int .u8 0]] w fun e' w' => e' = .returned (.int .i64 (lexF (skeyF t d e) (skeyF s a b))) ∧ Below w.heap.size w w') := hide (fun w => keys_any (skeyF t d e) (skeyF s a b) w rfl rfl (skey_byte _ _ _ hd.1 hd.2) (skey_byte _ _ _ ha.1 ha.2))
  have CQA := hide (fun w => skey_any s a b c w)
  have CQB := hide (fun w => skey_any t d e f w)
  have CQC := hide (fun w => skey_any u g k l w)
  have CA := hide alive_any
  have es := fun w => eql_stamp s a b c t d e f w
  have et := fun w => eql_tx a b c d e f w
  have ek : ∀ w, (binOp .eql 29 (.agg #[.int .u8 (s % 256), .int .u8 a, .int .u8 (b % 256), .int .u8 0, .int .u8 0, .int .u8 0, .int .u8 0, .int .u8 0]) (.agg #[.int .u8 (t % 256), .int .u8 d, .int .u8 (e % 256), .int .u8 0, .int .u8 0, .int .u8 0, .int .u8 0, .int .u8 0])).run Try.prog w = .ok (.bool (decide ((skeyF s a b) = (skeyF t d e)))) w := fun w => eqli_key _ _ _ _ _ _ _ _ _ _ _ _ _ _ _ _ w
  have hes : (s == t && (a == d && b == e && c == f)) = decide (stL (s, a, b, c) = stL (t, d, e, f)) := by
    rw [Bool.eq_iff_iff]
    simp only [Bool.and_eq_true, beq_iff_eq, decide_eq_true_eq, stL, txL, List.cons.injEq, and_true]
    exact ⟨fun ⟨h1, ⟨h2, h3⟩, h4⟩ => ⟨h1, h2, h3, h4⟩, fun ⟨h1, h2, h3, h4⟩ => ⟨h1, ⟨h2, h3⟩, h4⟩⟩
  have het : (a == d && b == e && c == f) = decide (txL (a, b, c) = txL (d, e, f)) := by
    rw [Bool.eq_iff_iff]
    simp only [Bool.and_eq_true, beq_iff_eq, decide_eq_true_eq, txL, List.cons.injEq, and_true]
    exact ⟨fun ⟨⟨h2, h3⟩, h4⟩ => ⟨h2, h3, h4⟩, fun ⟨h2, h3, h4⟩ => ⟨⟨h2, h3⟩, h4⟩⟩
  have T1 : Hid (∀ w, Calls Try.prog 5 #[.int .i64 (stsF (s, a, b, c) (t, d, e, f)), .int .i64 (stsF (t, d, e, f) (u, g, k, l)), .int .i64 (stsF (s, a, b, c) (u, g, k, l)), .int .i64 (stsF (t, d, e, f) (s, a, b, c)), .bool (s == t && (a == d && b == e && c == f))] w fun e' w' => e' = .returned (.bool true) ∧ w' = w) := hide (fun w => three_any (stL (s, a, b, c)) (stL (t, d, e, f)) (stL (u, g, k, l)) _ w rfl rfl hes)
  have T2 : Hid (∀ w, Calls Try.prog 5 #[.int .i64 (txsF (a, b, c) (d, e, f)), .int .i64 (txsF (d, e, f) (g, k, l)), .int .i64 (txsF (a, b, c) (g, k, l)), .int .i64 (txsF (d, e, f) (a, b, c)), .bool (a == d && b == e && c == f)] w fun e' w' => e' = .returned (.bool true) ∧ w' = w) := hide (fun w => three_any (txL (a, b, c)) (txL (d, e, f)) (txL (g, k, l)) _ w rfl rfl het)
  have T3 : Hid (∀ w, Calls Try.prog 5 #[.int .i64 (lexF (skeyF s a b) (skeyF t d e)), .int .i64 (lexF (skeyF t d e) (skeyF u g k)), .int .i64 (lexF (skeyF s a b) (skeyF u g k)), .int .i64 (lexF (skeyF t d e) (skeyF s a b)), .bool (decide ((skeyF s a b) = (skeyF t d e)))] w fun e' w' => e' = .returned (.bool true) ∧ w' = w) := hide (fun w => three_any (skeyF s a b) (skeyF t d e) (skeyF u g k) _ w rfl rfl rfl)
  generalize (s == t && (a == d && b == e && c == f)) = m1 at *
  generalize (a == d && b == e && c == f) = m2 at *
  generalize decide ((skeyF s a b) = (skeyF t d e)) = m3 at *
  clear hes het
  generalize stsF (s, a, b, c) (t, d, e, f) = p0 at *
  generalize txsF (a, b, c) (d, e, f) = z0 at *
  generalize lexF (skeyF s a b) (skeyF t d e) = r0 at *
  generalize stsF (t, d, e, f) (u, g, k, l) = p1 at *
  generalize txsF (d, e, f) (g, k, l) = z1 at *
  generalize lexF (skeyF t d e) (skeyF u g k) = r1 at *
  generalize stsF (s, a, b, c) (u, g, k, l) = p2 at *
  generalize txsF (a, b, c) (g, k, l) = z2 at *
  generalize lexF (skeyF s a b) (skeyF u g k) = r2 at *
  generalize stsF (t, d, e, f) (s, a, b, c) = p3 at *
  generalize txsF (d, e, f) (a, b, c) = z3 at *
  generalize lexF (skeyF t d e) (skeyF s a b) = r3 at *
  have HB0 := hide ((((Below.refl w.heap.size w).alloc (Nat.le_refl _) (.cells #[.int .u32 s, .int .u8 a, .int .u32 b, .int .u32 c] 26)).alloc (by simp) (.cells #[.int .u32 t, .int .u8 d, .int .u32 e, .int .u32 f] 26)).alloc (by simp; omega) (.cells #[.int .u32 u, .int .u8 g, .int .u32 k, .int .u32 l] 26))
  have HBA : Hid (Box (((w.alloc (.cells #[.int .u32 s, .int .u8 a, .int .u32 b, .int .u32 c] 26)).alloc (.cells #[.int .u32 t, .int .u8 d, .int .u32 e, .int .u32 f] 26)).alloc (.cells #[.int .u32 u, .int .u8 g, .int .u32 k, .int .u32 l] 26)) (w.heap.size) #[.int .u32 s, .int .u8 a, .int .u32 b, .int .u32 c] 26) := hide (by
    exact (box_new w _ _).belowI (((Below.refl _ _).alloc (Nat.le_refl _) _).alloc (by simp) _))
  have HBB : Hid (Box (((w.alloc (.cells #[.int .u32 s, .int .u8 a, .int .u32 b, .int .u32 c] 26)).alloc (.cells #[.int .u32 t, .int .u8 d, .int .u32 e, .int .u32 f] 26)).alloc (.cells #[.int .u32 u, .int .u8 g, .int .u32 k, .int .u32 l] 26)) (w.heap.size + 1) #[.int .u32 t, .int .u8 d, .int .u32 e, .int .u32 f] 26) := hide (by
    have := (box_new (w.alloc (.cells #[.int .u32 s, .int .u8 a, .int .u32 b, .int .u32 c] 26)) #[.int .u32 t, .int .u8 d, .int .u32 e, .int .u32 f] 26).belowI ((Below.refl _ _).alloc (Nat.le_refl _) (.cells #[.int .u32 u, .int .u8 g, .int .u32 k, .int .u32 l] 26))
    rw [World.size_alloc] at this
    exact this)
  have HBC : Hid (Box (((w.alloc (.cells #[.int .u32 s, .int .u8 a, .int .u32 b, .int .u32 c] 26)).alloc (.cells #[.int .u32 t, .int .u8 d, .int .u32 e, .int .u32 f] 26)).alloc (.cells #[.int .u32 u, .int .u8 g, .int .u32 k, .int .u32 l] 26)) (w.heap.size + 2) #[.int .u32 u, .int .u8 g, .int .u32 k, .int .u32 l] 26) := hide (by
    have := box_new ((w.alloc (.cells #[.int .u32 s, .int .u8 a, .int .u32 b, .int .u32 c] 26)).alloc (.cells #[.int .u32 t, .int .u8 d, .int .u32 e, .int .u32 f] 26)) #[.int .u32 u, .int .u8 g, .int .u32 k, .int .u32 l] 26
    rw [World.size_alloc, World.size_alloc] at this
    exact this)
  clear ha hd hg
  go_enter Try.func3, Try.ntmps3
  go_wp2_with fail
  refine wp_region_each2 (by kernel_rfl) (InvO w.heap.size s a b c t d e f u g k l p0 p1 p2 p3 z0 z1 z2 z3 r0 r1 r2 r3 m1 m2 m3) (by kernel_rfl) (fun _ _ _ _ h _ => h) ?_ ?_
  · intro i o hi A w1 hB hold hdeps
    have hold3 : A.tmps.getD 3 undef = .pointer (some ⟨w.heap.size, 0, none⟩) := hold 3 (by kernel_rfl)
    have hold4 : A.tmps.getD 4 undef = .pointer (some ⟨w.heap.size + 1, 0, none⟩) := hold 4 (by kernel_rfl)
    have hold5 : A.tmps.getD 5 undef = .pointer (some ⟨w.heap.size + 2, 0, none⟩) := hold 5 (by kernel_rfl)
    have hold7 : A.tmps.getD 7 undef = .func (.func 5) #[] #[] := hold 7 (by kernel_rfl)
    have hold8 : A.tmps.getD 8 undef = .func (.func 6) #[] #[] := hold 8 (by kernel_rfl)
    have cA := (HBA.out.belowI hB).four
    have cB := (HBB.out.belowI hB).four
    have cC := (HBC.out.belowI hB).four
    have h89 : i < 89 := (Array.getElem?_eq_some_iff.1 hi).1
    have hc : i = 0 ∨ i = 1 ∨ i = 2 ∨ i = 3 ∨ i = 4 ∨ i = 5 ∨ i = 6 ∨ i = 7 ∨ i = 8 ∨ i = 9 ∨ i = 10 ∨ i = 11 ∨ i = 12 ∨ i = 13 ∨ i = 14 ∨ i = 15 ∨ i = 16 ∨ i = 17 ∨ i = 18 ∨ i = 19 ∨ i = 20 ∨ i = 21 ∨ i = 22 ∨ i = 23 ∨ i = 24 ∨ i = 25 ∨ i = 26 ∨ i = 27 ∨ i = 28 ∨ i = 29 ∨ i = 30 ∨ i = 31 ∨ i = 32 ∨ i = 33 ∨ i = 34 ∨ i = 35 ∨ i = 36 ∨ i = 37 ∨ i = 38 ∨ i = 39 ∨ i = 40 ∨ i = 41 ∨ i = 42 ∨ i = 43 ∨ i = 44 ∨ i = 45 ∨ i = 46 ∨ i = 47 ∨ i = 48 ∨ i = 49 ∨ i = 50 ∨ i = 51 ∨ i = 52 ∨ i = 53 ∨ i = 54 ∨ i = 55 ∨ i = 56 ∨ i = 57 ∨ i = 58 ∨ i = 59 ∨ i = 60 ∨ i = 61 ∨ i = 62 ∨ i = 63 ∨ i = 64 ∨ i = 65 ∨ i = 66 ∨ i = 67 ∨ i = 68 ∨ i = 69 ∨ i = 70 ∨ i = 71 ∨ i = 72 ∨ i = 73 ∨ i = 74 ∨ i = 75 ∨ i = 76 ∨ i = 77 ∨ i = 78 ∨ i = 79 ∨ i = 80 ∨ i = 81 ∨ i = 82 ∨ i = 83 ∨ i = 84 ∨ i = 85 ∨ i = 86 ∨ i = 87 ∨ i = 88 := by omega
    clear h89
    rcases hc with rfl | rfl | rfl | rfl | rfl | rfl | rfl | rfl | rfl | rfl | rfl | rfl | rfl | rfl | rfl | rfl | rfl | rfl | rfl | rfl | rfl | rfl | rfl | rfl | rfl | rfl | rfl | rfl | rfl | rfl | rfl | rfl | rfl | rfl | rfl | rfl | rfl | rfl | rfl | rfl | rfl | rfl | rfl | rfl | rfl | rfl | rfl | rfl | rfl | rfl | rfl | rfl | rfl | rfl | rfl | rfl | rfl | rfl | rfl | rfl | rfl | rfl | rfl | rfl | rfl | rfl | rfl | rfl | rfl | rfl | rfl | rfl | rfl | rfl | rfl | rfl | rfl | rfl | rfl | rfl | rfl | rfl | rfl | rfl | rfl | rfl | rfl | rfl | rfl
    · obtain rfl := Option.some.inj hi
      exact each_pure hi rfl (xo_move _) hold7
    · obtain rfl := Option.some.inj hi
      exact each_pure hi rfl (xo_loadSt _ _ _ _ _ _ hold3 cA.1 cA.2.1 cA.2.2.1 cA.2.2.2) rfl
    · obtain rfl := Option.some.inj hi
      exact each_pure hi rfl (xo_loadSt _ _ _ _ _ _ hold4 cB.1 cB.2.1 cB.2.2.1 cB.2.2.2) rfl
    · obtain rfl := Option.some.inj hi
      have d10 : A.tmps.getD 10 undef = .agg #[.int .u32 s, .int .u8 a, .int .u32 b, .int .u32 c] := dep_of hdeps 1 (by kernel_rfl)
      have d11 : A.tmps.getD 11 undef = .agg #[.int .u32 t, .int .u8 d, .int .u32 e, .int .u32 f] := dep_of hdeps 2 (by kernel_rfl)
      have e10 : A.eval (.tmp 10) = .agg #[.int .u32 s, .int .u8 a, .int .u32 b, .int .u32 c] := d10
      have e11 : A.eval (.tmp 11) = .agg #[.int .u32 t, .int .u8 d, .int .u32 e, .int .u32 f] := d11
      exact each_enter hi rfl (xo_call 7 _ _ _ _ rfl (by simp only [List.map_toArray, List.map_cons, List.map_nil, e10, e11]) en_i_Stamps) ((CS0.out w1).mono fun e' w' ⟨he, hb⟩ => ⟨_, he, hb, rfl⟩)
    · obtain rfl := Option.some.inj hi
      exact each_pure hi rfl (xo_loadSt _ _ _ _ _ _ hold4 cB.1 cB.2.1 cB.2.2.1 cB.2.2.2) rfl
    · obtain rfl := Option.some.inj hi
      exact each_pure hi rfl (xo_loadSt _ _ _ _ _ _ hold5 cC.1 cC.2.1 cC.2.2.1 cC.2.2.2) rfl
    · obtain rfl := Option.some.inj hi
      have d13 : A.tmps.getD 13 undef = .agg #[.int .u32 t, .int .u8 d, .int .u32 e, .int .u32 f] := dep_of hdeps 4 (by kernel_rfl)
      have d14 : A.tmps.getD 14 undef = .agg #[.int .u32 u, .int .u8 g, .int .u32 k, .int .u32 l] := dep_of hdeps 5 (by kernel_rfl)
      have e13 : A.eval (.tmp 13) = .agg #[.int .u32 t, .int .u8 d, .int .u32 e, .int .u32 f] := d13
      have e14 : A.eval (.tmp 14) = .agg #[.int .u32 u, .int .u8 g, .int .u32 k, .int .u32 l] := d14
      exact each_enter hi rfl (xo_call 7 _ _ _ _ rfl (by simp only [List.map_toArray, List.map_cons, List.map_nil, e13, e14]) en_i_Stamps) ((CS1.out w1).mono fun e' w' ⟨he, hb⟩ => ⟨_, he, hb, rfl⟩)
    · obtain rfl := Option.some.inj hi
      exact each_pure hi rfl (xo_loadSt _ _ _ _ _ _ hold3 cA.1 cA.2.1 cA.2.2.1 cA.2.2.2) rfl
    · obtain rfl := Option.some.inj hi
      exact each_pure hi rfl (xo_loadSt _ _ _ _ _ _ hold5 cC.1 cC.2.1 cC.2.2.1 cC.2.2.2) rfl
    · obtain rfl := Option.some.inj hi
      have d16 : A.tmps.getD 16 undef = .agg #[.int .u32 s, .int .u8 a, .int .u32 b, .int .u32 c] := dep_of hdeps 7 (by kernel_rfl)
      have d17 : A.tmps.getD 17 undef = .agg #[.int .u32 u, .int .u8 g, .int .u32 k, .int .u32 l] := dep_of hdeps 8 (by kernel_rfl)
      have e16 : A.eval (.tmp 16) = .agg #[.int .u32 s, .int .u8 a, .int .u32 b, .int .u32 c] := d16
      have e17 : A.eval (.tmp 17) = .agg #[.int .u32 u, .int .u8 g, .int .u32 k, .int .u32 l] := d17
      exact each_enter hi rfl (xo_call 7 _ _ _ _ rfl (by simp only [List.map_toArray, List.map_cons, List.map_nil, e16, e17]) en_i_Stamps) ((CS2.out w1).mono fun e' w' ⟨he, hb⟩ => ⟨_, he, hb, rfl⟩)
    · obtain rfl := Option.some.inj hi
      exact each_pure hi rfl (xo_loadSt _ _ _ _ _ _ hold4 cB.1 cB.2.1 cB.2.2.1 cB.2.2.2) rfl
    · obtain rfl := Option.some.inj hi
      exact each_pure hi rfl (xo_loadSt _ _ _ _ _ _ hold3 cA.1 cA.2.1 cA.2.2.1 cA.2.2.2) rfl
    · obtain rfl := Option.some.inj hi
      have d19 : A.tmps.getD 19 undef = .agg #[.int .u32 t, .int .u8 d, .int .u32 e, .int .u32 f] := dep_of hdeps 10 (by kernel_rfl)
      have d20 : A.tmps.getD 20 undef = .agg #[.int .u32 s, .int .u8 a, .int .u32 b, .int .u32 c] := dep_of hdeps 11 (by kernel_rfl)
      have e19 : A.eval (.tmp 19) = .agg #[.int .u32 t, .int .u8 d, .int .u32 e, .int .u32 f] := d19
      have e20 : A.eval (.tmp 20) = .agg #[.int .u32 s, .int .u8 a, .int .u32 b, .int .u32 c] := d20
      exact each_enter hi rfl (xo_call 7 _ _ _ _ rfl (by simp only [List.map_toArray, List.map_cons, List.map_nil, e19, e20]) en_i_Stamps) ((CS3.out w1).mono fun e' w' ⟨he, hb⟩ => ⟨_, he, hb, rfl⟩)
    · obtain rfl := Option.some.inj hi
      exact each_pure hi rfl (xo_loadSt _ _ _ _ _ _ hold3 cA.1 cA.2.1 cA.2.2.1 cA.2.2.2) rfl
    · obtain rfl := Option.some.inj hi
      exact each_pure hi rfl (xo_loadSt _ _ _ _ _ _ hold4 cB.1 cB.2.1 cB.2.2.1 cB.2.2.2) rfl
    · obtain rfl := Option.some.inj hi
      have d22 : A.tmps.getD 22 undef = .agg #[.int .u32 s, .int .u8 a, .int .u32 b, .int .u32 c] := dep_of hdeps 13 (by kernel_rfl)
      have d23 : A.tmps.getD 23 undef = .agg #[.int .u32 t, .int .u8 d, .int .u32 e, .int .u32 f] := dep_of hdeps 14 (by kernel_rfl)
      exact each_pure hi rfl (xo_eql guardSt d22 d23 es) rfl
    · obtain rfl := Option.some.inj hi
      have d9 : A.tmps.getD 9 undef = .func (.func 5) #[] #[] := dep_of hdeps 0 (by kernel_rfl)
      have d12 : A.tmps.getD 12 undef = .int .i64 p0 := dep_of hdeps 3 (by kernel_rfl)
      have d15 : A.tmps.getD 15 undef = .int .i64 p1 := dep_of hdeps 6 (by kernel_rfl)
      have d18 : A.tmps.getD 18 undef = .int .i64 p2 := dep_of hdeps 9 (by kernel_rfl)
      have d21 : A.tmps.getD 21 undef = .int .i64 p3 := dep_of hdeps 12 (by kernel_rfl)
      have d24 : A.tmps.getD 24 undef = .bool m1 := dep_of hdeps 15 (by kernel_rfl)
      have e12 : A.eval (.tmp 12) = .int .i64 p0 := d12
      have e15 : A.eval (.tmp 15) = .int .i64 p1 := d15
      have e18 : A.eval (.tmp 18) = .int .i64 p2 := d18
      have e21 : A.eval (.tmp 21) = .int .i64 p3 := d21
      have e24 : A.eval (.tmp 24) = .bool m1 := d24
      exact each_enter hi rfl (xo_call 5 _ _ _ _ d9 (by simp only [List.map_toArray, List.map_cons, List.map_nil, e12, e15, e18, e21, e24]) en_IdsOrders_1) ((T1.out w1).mono fun e' w' ⟨he, hw⟩ => ⟨_, he, by rw [hw]; exact Below.refl _ _, rfl⟩)
    · obtain rfl := Option.some.inj hi
      have d25 : A.tmps.getD 25 undef = .bool true := dep_of hdeps 16 (by kernel_rfl)
      exact each_pure hi rfl (xo_move _) d25
    · obtain rfl := Option.some.inj hi
      have dg : A.tmps.getD 26 undef = .bool true := dep_of hdeps 17 (by kernel_rfl)
      exact each_pure hi (wanted_of (g := 17) rfl rfl dg) (xo_move _) hold7
    · obtain rfl := Option.some.inj hi
      have dg : A.tmps.getD 26 undef = .bool true := dep_of hdeps 17 (by kernel_rfl)
      exact each_pure hi (wanted_of (g := 17) rfl rfl dg) (xo_field1 _ _ hold3) rfl
    · obtain rfl := Option.some.inj hi
      have d28 : A.tmps.getD 28 undef = .pointer (some ⟨w.heap.size, 1, none⟩) := dep_of hdeps 19 (by kernel_rfl)
      have dg : A.tmps.getD 26 undef = .bool true := dep_of hdeps 17 (by kernel_rfl)
      exact each_pure hi (wanted_of (g := 17) rfl rfl dg) (xo_loadTx _ _ _ _ _ d28 cA.2.1 cA.2.2.1 cA.2.2.2) rfl
    · obtain rfl := Option.some.inj hi
      have dg : A.tmps.getD 26 undef = .bool true := dep_of hdeps 17 (by kernel_rfl)
      exact each_pure hi (wanted_of (g := 17) rfl rfl dg) (xo_field1 _ _ hold4) rfl
    · obtain rfl := Option.some.inj hi
      have d30 : A.tmps.getD 30 undef = .pointer (some ⟨w.heap.size + 1, 1, none⟩) := dep_of hdeps 21 (by kernel_rfl)
      have dg : A.tmps.getD 26 undef = .bool true := dep_of hdeps 17 (by kernel_rfl)
      exact each_pure hi (wanted_of (g := 17) rfl rfl dg) (xo_loadTx _ _ _ _ _ d30 cB.2.1 cB.2.2.1 cB.2.2.2) rfl
    · obtain rfl := Option.some.inj hi
      have d29 : A.tmps.getD 29 undef = .agg #[.int .u8 a, .int .u32 b, .int .u32 c] := dep_of hdeps 20 (by kernel_rfl)
      have d31 : A.tmps.getD 31 undef = .agg #[.int .u8 d, .int .u32 e, .int .u32 f] := dep_of hdeps 22 (by kernel_rfl)
      have dg : A.tmps.getD 26 undef = .bool true := dep_of hdeps 17 (by kernel_rfl)
      have e29 : A.eval (.tmp 29) = .agg #[.int .u8 a, .int .u32 b, .int .u32 c] := d29
      have e31 : A.eval (.tmp 31) = .agg #[.int .u8 d, .int .u32 e, .int .u32 f] := d31
      exact each_enter hi (wanted_of (g := 17) rfl rfl dg) (xo_call 8 _ _ _ _ rfl (by simp only [List.map_toArray, List.map_cons, List.map_nil, e29, e31]) en_i_Txs) ((CT0.out w1).mono fun e' w' ⟨he, hb⟩ => ⟨_, he, hb, rfl⟩)
    · obtain rfl := Option.some.inj hi
      have dg : A.tmps.getD 26 undef = .bool true := dep_of hdeps 17 (by kernel_rfl)
      exact each_pure hi (wanted_of (g := 17) rfl rfl dg) (xo_field1 _ _ hold4) rfl
    · obtain rfl := Option.some.inj hi
      have d33 : A.tmps.getD 33 undef = .pointer (some ⟨w.heap.size + 1, 1, none⟩) := dep_of hdeps 24 (by kernel_rfl)
      have dg : A.tmps.getD 26 undef = .bool true := dep_of hdeps 17 (by kernel_rfl)
      exact each_pure hi (wanted_of (g := 17) rfl rfl dg) (xo_loadTx _ _ _ _ _ d33 cB.2.1 cB.2.2.1 cB.2.2.2) rfl
    · obtain rfl := Option.some.inj hi
      have dg : A.tmps.getD 26 undef = .bool true := dep_of hdeps 17 (by kernel_rfl)
      exact each_pure hi (wanted_of (g := 17) rfl rfl dg) (xo_field1 _ _ hold5) rfl
    · obtain rfl := Option.some.inj hi
      have d35 : A.tmps.getD 35 undef = .pointer (some ⟨w.heap.size + 2, 1, none⟩) := dep_of hdeps 26 (by kernel_rfl)
      have dg : A.tmps.getD 26 undef = .bool true := dep_of hdeps 17 (by kernel_rfl)
      exact each_pure hi (wanted_of (g := 17) rfl rfl dg) (xo_loadTx _ _ _ _ _ d35 cC.2.1 cC.2.2.1 cC.2.2.2) rfl
    · obtain rfl := Option.some.inj hi
      have d34 : A.tmps.getD 34 undef = .agg #[.int .u8 d, .int .u32 e, .int .u32 f] := dep_of hdeps 25 (by kernel_rfl)
      have d36 : A.tmps.getD 36 undef = .agg #[.int .u8 g, .int .u32 k, .int .u32 l] := dep_of hdeps 27 (by kernel_rfl)
      have dg : A.tmps.getD 26 undef = .bool true := dep_of hdeps 17 (by kernel_rfl)
      have e34 : A.eval (.tmp 34) = .agg #[.int .u8 d, .int .u32 e, .int .u32 f] := d34
      have e36 : A.eval (.tmp 36) = .agg #[.int .u8 g, .int .u32 k, .int .u32 l] := d36
      exact each_enter hi (wanted_of (g := 17) rfl rfl dg) (xo_call 8 _ _ _ _ rfl (by simp only [List.map_toArray, List.map_cons, List.map_nil, e34, e36]) en_i_Txs) ((CT1.out w1).mono fun e' w' ⟨he, hb⟩ => ⟨_, he, hb, rfl⟩)
    · obtain rfl := Option.some.inj hi
      have dg : A.tmps.getD 26 undef = .bool true := dep_of hdeps 17 (by kernel_rfl)
      exact each_pure hi (wanted_of (g := 17) rfl rfl dg) (xo_field1 _ _ hold3) rfl
    · obtain rfl := Option.some.inj hi
      have d38 : A.tmps.getD 38 undef = .pointer (some ⟨w.heap.size, 1, none⟩) := dep_of hdeps 29 (by kernel_rfl)
      have dg : A.tmps.getD 26 undef = .bool true := dep_of hdeps 17 (by kernel_rfl)
      exact each_pure hi (wanted_of (g := 17) rfl rfl dg) (xo_loadTx _ _ _ _ _ d38 cA.2.1 cA.2.2.1 cA.2.2.2) rfl
    · obtain rfl := Option.some.inj hi
      have dg : A.tmps.getD 26 undef = .bool true := dep_of hdeps 17 (by kernel_rfl)
      exact each_pure hi (wanted_of (g := 17) rfl rfl dg) (xo_field1 _ _ hold5) rfl
    · obtain rfl := Option.some.inj hi
      have d40 : A.tmps.getD 40 undef = .pointer (some ⟨w.heap.size + 2, 1, none⟩) := dep_of hdeps 31 (by kernel_rfl)
      have dg : A.tmps.getD 26 undef = .bool true := dep_of hdeps 17 (by kernel_rfl)
      exact each_pure hi (wanted_of (g := 17) rfl rfl dg) (xo_loadTx _ _ _ _ _ d40 cC.2.1 cC.2.2.1 cC.2.2.2) rfl
    · obtain rfl := Option.some.inj hi
      have d39 : A.tmps.getD 39 undef = .agg #[.int .u8 a, .int .u32 b, .int .u32 c] := dep_of hdeps 30 (by kernel_rfl)
      have d41 : A.tmps.getD 41 undef = .agg #[.int .u8 g, .int .u32 k, .int .u32 l] := dep_of hdeps 32 (by kernel_rfl)
      have dg : A.tmps.getD 26 undef = .bool true := dep_of hdeps 17 (by kernel_rfl)
      have e39 : A.eval (.tmp 39) = .agg #[.int .u8 a, .int .u32 b, .int .u32 c] := d39
      have e41 : A.eval (.tmp 41) = .agg #[.int .u8 g, .int .u32 k, .int .u32 l] := d41
      exact each_enter hi (wanted_of (g := 17) rfl rfl dg) (xo_call 8 _ _ _ _ rfl (by simp only [List.map_toArray, List.map_cons, List.map_nil, e39, e41]) en_i_Txs) ((CT2.out w1).mono fun e' w' ⟨he, hb⟩ => ⟨_, he, hb, rfl⟩)
    · obtain rfl := Option.some.inj hi
      have dg : A.tmps.getD 26 undef = .bool true := dep_of hdeps 17 (by kernel_rfl)
      exact each_pure hi (wanted_of (g := 17) rfl rfl dg) (xo_field1 _ _ hold4) rfl
    · obtain rfl := Option.some.inj hi
      have d43 : A.tmps.getD 43 undef = .pointer (some ⟨w.heap.size + 1, 1, none⟩) := dep_of hdeps 34 (by kernel_rfl)
      have dg : A.tmps.getD 26 undef = .bool true := dep_of hdeps 17 (by kernel_rfl)
      exact each_pure hi (wanted_of (g := 17) rfl rfl dg) (xo_loadTx _ _ _ _ _ d43 cB.2.1 cB.2.2.1 cB.2.2.2) rfl
    · obtain rfl := Option.some.inj hi
      have dg : A.tmps.getD 26 undef = .bool true := dep_of hdeps 17 (by kernel_rfl)
      exact each_pure hi (wanted_of (g := 17) rfl rfl dg) (xo_field1 _ _ hold3) rfl
    · obtain rfl := Option.some.inj hi
      have d45 : A.tmps.getD 45 undef = .pointer (some ⟨w.heap.size, 1, none⟩) := dep_of hdeps 36 (by kernel_rfl)
      have dg : A.tmps.getD 26 undef = .bool true := dep_of hdeps 17 (by kernel_rfl)
      exact each_pure hi (wanted_of (g := 17) rfl rfl dg) (xo_loadTx _ _ _ _ _ d45 cA.2.1 cA.2.2.1 cA.2.2.2) rfl
    · obtain rfl := Option.some.inj hi
      have d44 : A.tmps.getD 44 undef = .agg #[.int .u8 d, .int .u32 e, .int .u32 f] := dep_of hdeps 35 (by kernel_rfl)
      have d46 : A.tmps.getD 46 undef = .agg #[.int .u8 a, .int .u32 b, .int .u32 c] := dep_of hdeps 37 (by kernel_rfl)
      have dg : A.tmps.getD 26 undef = .bool true := dep_of hdeps 17 (by kernel_rfl)
      have e44 : A.eval (.tmp 44) = .agg #[.int .u8 d, .int .u32 e, .int .u32 f] := d44
      have e46 : A.eval (.tmp 46) = .agg #[.int .u8 a, .int .u32 b, .int .u32 c] := d46
      exact each_enter hi (wanted_of (g := 17) rfl rfl dg) (xo_call 8 _ _ _ _ rfl (by simp only [List.map_toArray, List.map_cons, List.map_nil, e44, e46]) en_i_Txs) ((CT3.out w1).mono fun e' w' ⟨he, hb⟩ => ⟨_, he, hb, rfl⟩)
    · obtain rfl := Option.some.inj hi
      have dg : A.tmps.getD 26 undef = .bool true := dep_of hdeps 17 (by kernel_rfl)
      exact each_pure hi (wanted_of (g := 17) rfl rfl dg) (xo_field1 _ _ hold3) rfl
    · obtain rfl := Option.some.inj hi
      have d48 : A.tmps.getD 48 undef = .pointer (some ⟨w.heap.size, 1, none⟩) := dep_of hdeps 39 (by kernel_rfl)
      have dg : A.tmps.getD 26 undef = .bool true := dep_of hdeps 17 (by kernel_rfl)
      exact each_pure hi (wanted_of (g := 17) rfl rfl dg) (xo_loadTx _ _ _ _ _ d48 cA.2.1 cA.2.2.1 cA.2.2.2) rfl
    · obtain rfl := Option.some.inj hi
      have dg : A.tmps.getD 26 undef = .bool true := dep_of hdeps 17 (by kernel_rfl)
      exact each_pure hi (wanted_of (g := 17) rfl rfl dg) (xo_field1 _ _ hold4) rfl
    · obtain rfl := Option.some.inj hi
      have d50 : A.tmps.getD 50 undef = .pointer (some ⟨w.heap.size + 1, 1, none⟩) := dep_of hdeps 41 (by kernel_rfl)
      have dg : A.tmps.getD 26 undef = .bool true := dep_of hdeps 17 (by kernel_rfl)
      exact each_pure hi (wanted_of (g := 17) rfl rfl dg) (xo_loadTx _ _ _ _ _ d50 cB.2.1 cB.2.2.1 cB.2.2.2) rfl
    · obtain rfl := Option.some.inj hi
      have d49 : A.tmps.getD 49 undef = .agg #[.int .u8 a, .int .u32 b, .int .u32 c] := dep_of hdeps 40 (by kernel_rfl)
      have d51 : A.tmps.getD 51 undef = .agg #[.int .u8 d, .int .u32 e, .int .u32 f] := dep_of hdeps 42 (by kernel_rfl)
      have dg : A.tmps.getD 26 undef = .bool true := dep_of hdeps 17 (by kernel_rfl)
      exact each_pure hi (wanted_of (g := 17) rfl rfl dg) (xo_eql guardTx d49 d51 et) rfl
    · obtain rfl := Option.some.inj hi
      have d27 : A.tmps.getD 27 undef = .func (.func 5) #[] #[] := dep_of hdeps 18 (by kernel_rfl)
      have d32 : A.tmps.getD 32 undef = .int .i64 z0 := dep_of hdeps 23 (by kernel_rfl)
      have d37 : A.tmps.getD 37 undef = .int .i64 z1 := dep_of hdeps 28 (by kernel_rfl)
      have d42 : A.tmps.getD 42 undef = .int .i64 z2 := dep_of hdeps 33 (by kernel_rfl)
      have d47 : A.tmps.getD 47 undef = .int .i64 z3 := dep_of hdeps 38 (by kernel_rfl)
      have d52 : A.tmps.getD 52 undef = .bool m2 := dep_of hdeps 43 (by kernel_rfl)
      have dg : A.tmps.getD 26 undef = .bool true := dep_of hdeps 17 (by kernel_rfl)
      have e32 : A.eval (.tmp 32) = .int .i64 z0 := d32
      have e37 : A.eval (.tmp 37) = .int .i64 z1 := d37
      have e42 : A.eval (.tmp 42) = .int .i64 z2 := d42
      have e47 : A.eval (.tmp 47) = .int .i64 z3 := d47
      have e52 : A.eval (.tmp 52) = .bool m2 := d52
      exact each_enter hi (wanted_of (g := 17) rfl rfl dg) (xo_call 5 _ _ _ _ d27 (by simp only [List.map_toArray, List.map_cons, List.map_nil, e32, e37, e42, e47, e52]) en_IdsOrders_1) ((T2.out w1).mono fun e' w' ⟨he, hw⟩ => ⟨_, he, by rw [hw]; exact Below.refl _ _, rfl⟩)
    · obtain rfl := Option.some.inj hi
      have d26 : A.tmps.getD 26 undef = .bool true := dep_of hdeps 17 (by kernel_rfl)
      have d53 : A.tmps.getD 53 undef = .bool true := dep_of hdeps 44 (by kernel_rfl)
      exact each_pure hi rfl (xo_pick _ _ d26 _) d53
    · obtain rfl := Option.some.inj hi
      have d54 : A.tmps.getD 54 undef = .bool true := dep_of hdeps 45 (by kernel_rfl)
      exact each_pure hi rfl (xo_move _) d54
    · obtain rfl := Option.some.inj hi
      have dg : A.tmps.getD 55 undef = .bool true := dep_of hdeps 46 (by kernel_rfl)
      exact each_pure hi (wanted_of (g := 46) rfl rfl dg) (xo_move _) hold7
    · obtain rfl := Option.some.inj hi
      have dg : A.tmps.getD 55 undef = .bool true := dep_of hdeps 46 (by kernel_rfl)
      exact each_pure hi (wanted_of (g := 46) rfl rfl dg) (xo_move _) hold8
    · obtain rfl := Option.some.inj hi
      have dg : A.tmps.getD 55 undef = .bool true := dep_of hdeps 46 (by kernel_rfl)
      exact each_pure hi (wanted_of (g := 46) rfl rfl dg) (xo_loadSt _ _ _ _ _ _ hold3 cA.1 cA.2.1 cA.2.2.1 cA.2.2.2) rfl
    · obtain rfl := Option.some.inj hi
      have d57 : A.tmps.getD 57 undef = .func (.func 6) #[] #[] := dep_of hdeps 48 (by kernel_rfl)
      have d58 : A.tmps.getD 58 undef = .agg #[.int .u32 s, .int .u8 a, .int .u32 b, .int .u32 c] := dep_of hdeps 49 (by kernel_rfl)
      have dg : A.tmps.getD 55 undef = .bool true := dep_of hdeps 46 (by kernel_rfl)
      have e58 : A.eval (.tmp 58) = .agg #[.int .u32 s, .int .u8 a, .int .u32 b, .int .u32 c] := d58
      exact each_enter hi (wanted_of (g := 46) rfl rfl dg) (xo_call 6 _ _ _ _ d57 (by simp only [List.map_toArray, List.map_cons, List.map_nil, e58]) en_IdsOrders_2) ((CQA.out w1).mono fun e' w' ⟨he, hb⟩ => ⟨_, he, hb, rfl⟩)
    · obtain rfl := Option.some.inj hi
      have dg : A.tmps.getD 55 undef = .bool true := dep_of hdeps 46 (by kernel_rfl)
      exact each_pure hi (wanted_of (g := 46) rfl rfl dg) (xo_move _) hold8
    · obtain rfl := Option.some.inj hi
      have dg : A.tmps.getD 55 undef = .bool true := dep_of hdeps 46 (by kernel_rfl)
      exact each_pure hi (wanted_of (g := 46) rfl rfl dg) (xo_loadSt _ _ _ _ _ _ hold4 cB.1 cB.2.1 cB.2.2.1 cB.2.2.2) rfl
    · obtain rfl := Option.some.inj hi
      have d60 : A.tmps.getD 60 undef = .func (.func 6) #[] #[] := dep_of hdeps 51 (by kernel_rfl)
      have d61 : A.tmps.getD 61 undef = .agg #[.int .u32 t, .int .u8 d, .int .u32 e, .int .u32 f] := dep_of hdeps 52 (by kernel_rfl)
      have dg : A.tmps.getD 55 undef = .bool true := dep_of hdeps 46 (by kernel_rfl)
      have e61 : A.eval (.tmp 61) = .agg #[.int .u32 t, .int .u8 d, .int .u32 e, .int .u32 f] := d61
      exact each_enter hi (wanted_of (g := 46) rfl rfl dg) (xo_call 6 _ _ _ _ d60 (by simp only [List.map_toArray, List.map_cons, List.map_nil, e61]) en_IdsOrders_2) ((CQB.out w1).mono fun e' w' ⟨he, hb⟩ => ⟨_, he, hb, rfl⟩)
    · obtain rfl := Option.some.inj hi
      have d59 : A.tmps.getD 59 undef = .agg #[.int .u8 (s % 256), .int .u8 a, .int .u8 (b % 256), .int .u8 0, .int .u8 0, .int .u8 0, .int .u8 0, .int .u8 0] := dep_of hdeps 50 (by kernel_rfl)
      have d62 : A.tmps.getD 62 undef = .agg #[.int .u8 (t % 256), .int .u8 d, .int .u8 (e % 256), .int .u8 0, .int .u8 0, .int .u8 0, .int .u8 0, .int .u8 0] := dep_of hdeps 53 (by kernel_rfl)
      have dg : A.tmps.getD 55 undef = .bool true := dep_of hdeps 46 (by kernel_rfl)
      have e59 : A.eval (.tmp 59) = .agg #[.int .u8 (s % 256), .int .u8 a, .int .u8 (b % 256), .int .u8 0, .int .u8 0, .int .u8 0, .int .u8 0, .int .u8 0] := d59
      have e62 : A.eval (.tmp 62) = .agg #[.int .u8 (t % 256), .int .u8 d, .int .u8 (e % 256), .int .u8 0, .int .u8 0, .int .u8 0, .int .u8 0, .int .u8 0] := d62
      exact each_enter hi (wanted_of (g := 46) rfl rfl dg) (xo_call 9 _ _ _ _ rfl (by simp only [List.map_toArray, List.map_cons, List.map_nil, e59, e62]) en_i_Keys) ((CK0.out w1).mono fun e' w' ⟨he, hb⟩ => ⟨_, he, hb, rfl⟩)
    · obtain rfl := Option.some.inj hi
      have dg : A.tmps.getD 55 undef = .bool true := dep_of hdeps 46 (by kernel_rfl)
      exact each_pure hi (wanted_of (g := 46) rfl rfl dg) (xo_move _) hold8
    · obtain rfl := Option.some.inj hi
      have dg : A.tmps.getD 55 undef = .bool true := dep_of hdeps 46 (by kernel_rfl)
      exact each_pure hi (wanted_of (g := 46) rfl rfl dg) (xo_loadSt _ _ _ _ _ _ hold4 cB.1 cB.2.1 cB.2.2.1 cB.2.2.2) rfl
    · obtain rfl := Option.some.inj hi
      have d64 : A.tmps.getD 64 undef = .func (.func 6) #[] #[] := dep_of hdeps 55 (by kernel_rfl)
      have d65 : A.tmps.getD 65 undef = .agg #[.int .u32 t, .int .u8 d, .int .u32 e, .int .u32 f] := dep_of hdeps 56 (by kernel_rfl)
      have dg : A.tmps.getD 55 undef = .bool true := dep_of hdeps 46 (by kernel_rfl)
      have e65 : A.eval (.tmp 65) = .agg #[.int .u32 t, .int .u8 d, .int .u32 e, .int .u32 f] := d65
      exact each_enter hi (wanted_of (g := 46) rfl rfl dg) (xo_call 6 _ _ _ _ d64 (by simp only [List.map_toArray, List.map_cons, List.map_nil, e65]) en_IdsOrders_2) ((CQB.out w1).mono fun e' w' ⟨he, hb⟩ => ⟨_, he, hb, rfl⟩)
    · obtain rfl := Option.some.inj hi
      have dg : A.tmps.getD 55 undef = .bool true := dep_of hdeps 46 (by kernel_rfl)
      exact each_pure hi (wanted_of (g := 46) rfl rfl dg) (xo_move _) hold8
    · obtain rfl := Option.some.inj hi
      have dg : A.tmps.getD 55 undef = .bool true := dep_of hdeps 46 (by kernel_rfl)
      exact each_pure hi (wanted_of (g := 46) rfl rfl dg) (xo_loadSt _ _ _ _ _ _ hold5 cC.1 cC.2.1 cC.2.2.1 cC.2.2.2) rfl
    · obtain rfl := Option.some.inj hi
      have d67 : A.tmps.getD 67 undef = .func (.func 6) #[] #[] := dep_of hdeps 58 (by kernel_rfl)
      have d68 : A.tmps.getD 68 undef = .agg #[.int .u32 u, .int .u8 g, .int .u32 k, .int .u32 l] := dep_of hdeps 59 (by kernel_rfl)
      have dg : A.tmps.getD 55 undef = .bool true := dep_of hdeps 46 (by kernel_rfl)
      have e68 : A.eval (.tmp 68) = .agg #[.int .u32 u, .int .u8 g, .int .u32 k, .int .u32 l] := d68
      exact each_enter hi (wanted_of (g := 46) rfl rfl dg) (xo_call 6 _ _ _ _ d67 (by simp only [List.map_toArray, List.map_cons, List.map_nil, e68]) en_IdsOrders_2) ((CQC.out w1).mono fun e' w' ⟨he, hb⟩ => ⟨_, he, hb, rfl⟩)
    · obtain rfl := Option.some.inj hi
      have d66 : A.tmps.getD 66 undef = .agg #[.int .u8 (t % 256), .int .u8 d, .int .u8 (e % 256), .int .u8 0, .int .u8 0, .int .u8 0, .int .u8 0, .int .u8 0] := dep_of hdeps 57 (by kernel_rfl)
      have d69 : A.tmps.getD 69 undef = .agg #[.int .u8 (u % 256), .int .u8 g, .int .u8 (k % 256), .int .u8 0, .int .u8 0, .int .u8 0, .int .u8 0, .int .u8 0] := dep_of hdeps 60 (by kernel_rfl)
      have dg : A.tmps.getD 55 undef = .bool true := dep_of hdeps 46 (by kernel_rfl)
      have e66 : A.eval (.tmp 66) = .agg #[.int .u8 (t % 256), .int .u8 d, .int .u8 (e % 256), .int .u8 0, .int .u8 0, .int .u8 0, .int .u8 0, .int .u8 0] := d66
      have e69 : A.eval (.tmp 69) = .agg #[.int .u8 (u % 256), .int .u8 g, .int .u8 (k % 256), .int .u8 0, .int .u8 0, .int .u8 0, .int .u8 0, .int .u8 0] := d69
      exact each_enter hi (wanted_of (g := 46) rfl rfl dg) (xo_call 9 _ _ _ _ rfl (by simp only [List.map_toArray, List.map_cons, List.map_nil, e66, e69]) en_i_Keys) ((CK1.out w1).mono fun e' w' ⟨he, hb⟩ => ⟨_, he, hb, rfl⟩)
    · obtain rfl := Option.some.inj hi
      have dg : A.tmps.getD 55 undef = .bool true := dep_of hdeps 46 (by kernel_rfl)
      exact each_pure hi (wanted_of (g := 46) rfl rfl dg) (xo_move _) hold8
    · obtain rfl := Option.some.inj hi
      have dg : A.tmps.getD 55 undef = .bool true := dep_of hdeps 46 (by kernel_rfl)
      exact each_pure hi (wanted_of (g := 46) rfl rfl dg) (xo_loadSt _ _ _ _ _ _ hold3 cA.1 cA.2.1 cA.2.2.1 cA.2.2.2) rfl
    · obtain rfl := Option.some.inj hi
      have d71 : A.tmps.getD 71 undef = .func (.func 6) #[] #[] := dep_of hdeps 62 (by kernel_rfl)
      have d72 : A.tmps.getD 72 undef = .agg #[.int .u32 s, .int .u8 a, .int .u32 b, .int .u32 c] := dep_of hdeps 63 (by kernel_rfl)
      have dg : A.tmps.getD 55 undef = .bool true := dep_of hdeps 46 (by kernel_rfl)
      have e72 : A.eval (.tmp 72) = .agg #[.int .u32 s, .int .u8 a, .int .u32 b, .int .u32 c] := d72
      exact each_enter hi (wanted_of (g := 46) rfl rfl dg) (xo_call 6 _ _ _ _ d71 (by simp only [List.map_toArray, List.map_cons, List.map_nil, e72]) en_IdsOrders_2) ((CQA.out w1).mono fun e' w' ⟨he, hb⟩ => ⟨_, he, hb, rfl⟩)
    · obtain rfl := Option.some.inj hi
      have dg : A.tmps.getD 55 undef = .bool true := dep_of hdeps 46 (by kernel_rfl)
      exact each_pure hi (wanted_of (g := 46) rfl rfl dg) (xo_move _) hold8
    · obtain rfl := Option.some.inj hi
      have dg : A.tmps.getD 55 undef = .bool true := dep_of hdeps 46 (by kernel_rfl)
      exact each_pure hi (wanted_of (g := 46) rfl rfl dg) (xo_loadSt _ _ _ _ _ _ hold5 cC.1 cC.2.1 cC.2.2.1 cC.2.2.2) rfl
    · obtain rfl := Option.some.inj hi
      have d74 : A.tmps.getD 74 undef = .func (.func 6) #[] #[] := dep_of hdeps 65 (by kernel_rfl)
      have d75 : A.tmps.getD 75 undef = .agg #[.int .u32 u, .int .u8 g, .int .u32 k, .int .u32 l] := dep_of hdeps 66 (by kernel_rfl)
      have dg : A.tmps.getD 55 undef = .bool true := dep_of hdeps 46 (by kernel_rfl)
      have e75 : A.eval (.tmp 75) = .agg #[.int .u32 u, .int .u8 g, .int .u32 k, .int .u32 l] := d75
      exact each_enter hi (wanted_of (g := 46) rfl rfl dg) (xo_call 6 _ _ _ _ d74 (by simp only [List.map_toArray, List.map_cons, List.map_nil, e75]) en_IdsOrders_2) ((CQC.out w1).mono fun e' w' ⟨he, hb⟩ => ⟨_, he, hb, rfl⟩)
    · obtain rfl := Option.some.inj hi
      have d73 : A.tmps.getD 73 undef = .agg #[.int .u8 (s % 256), .int .u8 a, .int .u8 (b % 256), .int .u8 0, .int .u8 0, .int .u8 0, .int .u8 0, .int .u8 0] := dep_of hdeps 64 (by kernel_rfl)
      have d76 : A.tmps.getD 76 undef = .agg #[.int .u8 (u % 256), .int .u8 g, .int .u8 (k % 256), .int .u8 0, .int .u8 0, .int .u8 0, .int .u8 0, .int .u8 0] := dep_of hdeps 67 (by kernel_rfl)
      have dg : A.tmps.getD 55 undef = .bool true := dep_of hdeps 46 (by kernel_rfl)
      have e73 : A.eval (.tmp 73) = .agg #[.int .u8 (s % 256), .int .u8 a, .int .u8 (b % 256), .int .u8 0, .int .u8 0, .int .u8 0, .int .u8 0, .int .u8 0] := d73
      have e76 : A.eval (.tmp 76) = .agg #[.int .u8 (u % 256), .int .u8 g, .int .u8 (k % 256), .int .u8 0, .int .u8 0, .int .u8 0, .int .u8 0, .int .u8 0] := d76
      exact each_enter hi (wanted_of (g := 46) rfl rfl dg) (xo_call 9 _ _ _ _ rfl (by simp only [List.map_toArray, List.map_cons, List.map_nil, e73, e76]) en_i_Keys) ((CK2.out w1).mono fun e' w' ⟨he, hb⟩ => ⟨_, he, hb, rfl⟩)
    · obtain rfl := Option.some.inj hi
      have dg : A.tmps.getD 55 undef = .bool true := dep_of hdeps 46 (by kernel_rfl)
      exact each_pure hi (wanted_of (g := 46) rfl rfl dg) (xo_move _) hold8
    · obtain rfl := Option.some.inj hi
      have dg : A.tmps.getD 55 undef = .bool true := dep_of hdeps 46 (by kernel_rfl)
      exact each_pure hi (wanted_of (g := 46) rfl rfl dg) (xo_loadSt _ _ _ _ _ _ hold4 cB.1 cB.2.1 cB.2.2.1 cB.2.2.2) rfl
    · obtain rfl := Option.some.inj hi
      have d78 : A.tmps.getD 78 undef = .func (.func 6) #[] #[] := dep_of hdeps 69 (by kernel_rfl)
      have d79 : A.tmps.getD 79 undef = .agg #[.int .u32 t, .int .u8 d, .int .u32 e, .int .u32 f] := dep_of hdeps 70 (by kernel_rfl)
      have dg : A.tmps.getD 55 undef = .bool true := dep_of hdeps 46 (by kernel_rfl)
      have e79 : A.eval (.tmp 79) = .agg #[.int .u32 t, .int .u8 d, .int .u32 e, .int .u32 f] := d79
      exact each_enter hi (wanted_of (g := 46) rfl rfl dg) (xo_call 6 _ _ _ _ d78 (by simp only [List.map_toArray, List.map_cons, List.map_nil, e79]) en_IdsOrders_2) ((CQB.out w1).mono fun e' w' ⟨he, hb⟩ => ⟨_, he, hb, rfl⟩)
    · obtain rfl := Option.some.inj hi
      have dg : A.tmps.getD 55 undef = .bool true := dep_of hdeps 46 (by kernel_rfl)
      exact each_pure hi (wanted_of (g := 46) rfl rfl dg) (xo_move _) hold8
    · obtain rfl := Option.some.inj hi
      have dg : A.tmps.getD 55 undef = .bool true := dep_of hdeps 46 (by kernel_rfl)
      exact each_pure hi (wanted_of (g := 46) rfl rfl dg) (xo_loadSt _ _ _ _ _ _ hold3 cA.1 cA.2.1 cA.2.2.1 cA.2.2.2) rfl
    · obtain rfl := Option.some.inj hi
      have d81 : A.tmps.getD 81 undef = .func (.func 6) #[] #[] := dep_of hdeps 72 (by kernel_rfl)
      have d82 : A.tmps.getD 82 undef = .agg #[.int .u32 s, .int .u8 a, .int .u32 b, .int .u32 c] := dep_of hdeps 73 (by kernel_rfl)
      have dg : A.tmps.getD 55 undef = .bool true := dep_of hdeps 46 (by kernel_rfl)
      have e82 : A.eval (.tmp 82) = .agg #[.int .u32 s, .int .u8 a, .int .u32 b, .int .u32 c] := d82
      exact each_enter hi (wanted_of (g := 46) rfl rfl dg) (xo_call 6 _ _ _ _ d81 (by simp only [List.map_toArray, List.map_cons, List.map_nil, e82]) en_IdsOrders_2) ((CQA.out w1).mono fun e' w' ⟨he, hb⟩ => ⟨_, he, hb, rfl⟩)
    · obtain rfl := Option.some.inj hi
      have d80 : A.tmps.getD 80 undef = .agg #[.int .u8 (t % 256), .int .u8 d, .int .u8 (e % 256), .int .u8 0, .int .u8 0, .int .u8 0, .int .u8 0, .int .u8 0] := dep_of hdeps 71 (by kernel_rfl)
      have d83 : A.tmps.getD 83 undef = .agg #[.int .u8 (s % 256), .int .u8 a, .int .u8 (b % 256), .int .u8 0, .int .u8 0, .int .u8 0, .int .u8 0, .int .u8 0] := dep_of hdeps 74 (by kernel_rfl)
      have dg : A.tmps.getD 55 undef = .bool true := dep_of hdeps 46 (by kernel_rfl)
      have e80 : A.eval (.tmp 80) = .agg #[.int .u8 (t % 256), .int .u8 d, .int .u8 (e % 256), .int .u8 0, .int .u8 0, .int .u8 0, .int .u8 0, .int .u8 0] := d80
      have e83 : A.eval (.tmp 83) = .agg #[.int .u8 (s % 256), .int .u8 a, .int .u8 (b % 256), .int .u8 0, .int .u8 0, .int .u8 0, .int .u8 0, .int .u8 0] := d83
      exact each_enter hi (wanted_of (g := 46) rfl rfl dg) (xo_call 9 _ _ _ _ rfl (by simp only [List.map_toArray, List.map_cons, List.map_nil, e80, e83]) en_i_Keys) ((CK3.out w1).mono fun e' w' ⟨he, hb⟩ => ⟨_, he, hb, rfl⟩)
    · obtain rfl := Option.some.inj hi
      have dg : A.tmps.getD 55 undef = .bool true := dep_of hdeps 46 (by kernel_rfl)
      exact each_pure hi (wanted_of (g := 46) rfl rfl dg) (xo_move _) hold8
    · obtain rfl := Option.some.inj hi
      have dg : A.tmps.getD 55 undef = .bool true := dep_of hdeps 46 (by kernel_rfl)
      exact each_pure hi (wanted_of (g := 46) rfl rfl dg) (xo_loadSt _ _ _ _ _ _ hold3 cA.1 cA.2.1 cA.2.2.1 cA.2.2.2) rfl
    · obtain rfl := Option.some.inj hi
      have d85 : A.tmps.getD 85 undef = .func (.func 6) #[] #[] := dep_of hdeps 76 (by kernel_rfl)
      have d86 : A.tmps.getD 86 undef = .agg #[.int .u32 s, .int .u8 a, .int .u32 b, .int .u32 c] := dep_of hdeps 77 (by kernel_rfl)
      have dg : A.tmps.getD 55 undef = .bool true := dep_of hdeps 46 (by kernel_rfl)
      have e86 : A.eval (.tmp 86) = .agg #[.int .u32 s, .int .u8 a, .int .u32 b, .int .u32 c] := d86
      exact each_enter hi (wanted_of (g := 46) rfl rfl dg) (xo_call 6 _ _ _ _ d85 (by simp only [List.map_toArray, List.map_cons, List.map_nil, e86]) en_IdsOrders_2) ((CQA.out w1).mono fun e' w' ⟨he, hb⟩ => ⟨_, he, hb, rfl⟩)
    · obtain rfl := Option.some.inj hi
      have dg : A.tmps.getD 55 undef = .bool true := dep_of hdeps 46 (by kernel_rfl)
      exact each_pure hi (wanted_of (g := 46) rfl rfl dg) (xo_move _) hold8
    · obtain rfl := Option.some.inj hi
      have dg : A.tmps.getD 55 undef = .bool true := dep_of hdeps 46 (by kernel_rfl)
      exact each_pure hi (wanted_of (g := 46) rfl rfl dg) (xo_loadSt _ _ _ _ _ _ hold4 cB.1 cB.2.1 cB.2.2.1 cB.2.2.2) rfl
    · obtain rfl := Option.some.inj hi
      have d88 : A.tmps.getD 88 undef = .func (.func 6) #[] #[] := dep_of hdeps 79 (by kernel_rfl)
      have d89 : A.tmps.getD 89 undef = .agg #[.int .u32 t, .int .u8 d, .int .u32 e, .int .u32 f] := dep_of hdeps 80 (by kernel_rfl)
      have dg : A.tmps.getD 55 undef = .bool true := dep_of hdeps 46 (by kernel_rfl)
      have e89 : A.eval (.tmp 89) = .agg #[.int .u32 t, .int .u8 d, .int .u32 e, .int .u32 f] := d89
      exact each_enter hi (wanted_of (g := 46) rfl rfl dg) (xo_call 6 _ _ _ _ d88 (by simp only [List.map_toArray, List.map_cons, List.map_nil, e89]) en_IdsOrders_2) ((CQB.out w1).mono fun e' w' ⟨he, hb⟩ => ⟨_, he, hb, rfl⟩)
    · obtain rfl := Option.some.inj hi
      have d87 : A.tmps.getD 87 undef = .agg #[.int .u8 (s % 256), .int .u8 a, .int .u8 (b % 256), .int .u8 0, .int .u8 0, .int .u8 0, .int .u8 0, .int .u8 0] := dep_of hdeps 78 (by kernel_rfl)
      have d90 : A.tmps.getD 90 undef = .agg #[.int .u8 (t % 256), .int .u8 d, .int .u8 (e % 256), .int .u8 0, .int .u8 0, .int .u8 0, .int .u8 0, .int .u8 0] := dep_of hdeps 81 (by kernel_rfl)
      have dg : A.tmps.getD 55 undef = .bool true := dep_of hdeps 46 (by kernel_rfl)
      exact each_pure hi (wanted_of (g := 46) rfl rfl dg) (xo_eql guardKey d87 d90 ek) rfl
    · obtain rfl := Option.some.inj hi
      have d56 : A.tmps.getD 56 undef = .func (.func 5) #[] #[] := dep_of hdeps 47 (by kernel_rfl)
      have d63 : A.tmps.getD 63 undef = .int .i64 r0 := dep_of hdeps 54 (by kernel_rfl)
      have d70 : A.tmps.getD 70 undef = .int .i64 r1 := dep_of hdeps 61 (by kernel_rfl)
      have d77 : A.tmps.getD 77 undef = .int .i64 r2 := dep_of hdeps 68 (by kernel_rfl)
      have d84 : A.tmps.getD 84 undef = .int .i64 r3 := dep_of hdeps 75 (by kernel_rfl)
      have d91 : A.tmps.getD 91 undef = .bool m3 := dep_of hdeps 82 (by kernel_rfl)
      have dg : A.tmps.getD 55 undef = .bool true := dep_of hdeps 46 (by kernel_rfl)
      have e63 : A.eval (.tmp 63) = .int .i64 r0 := d63
      have e70 : A.eval (.tmp 70) = .int .i64 r1 := d70
      have e77 : A.eval (.tmp 77) = .int .i64 r2 := d77
      have e84 : A.eval (.tmp 84) = .int .i64 r3 := d84
      have e91 : A.eval (.tmp 91) = .bool m3 := d91
      exact each_enter hi (wanted_of (g := 46) rfl rfl dg) (xo_call 5 _ _ _ _ d56 (by simp only [List.map_toArray, List.map_cons, List.map_nil, e63, e70, e77, e84, e91]) en_IdsOrders_1) ((T3.out w1).mono fun e' w' ⟨he, hw⟩ => ⟨_, he, by rw [hw]; exact Below.refl _ _, rfl⟩)
    · obtain rfl := Option.some.inj hi
      have d55 : A.tmps.getD 55 undef = .bool true := dep_of hdeps 46 (by kernel_rfl)
      have d92 : A.tmps.getD 92 undef = .bool true := dep_of hdeps 83 (by kernel_rfl)
      exact each_pure hi rfl (xo_pick _ _ d55 _) d92
    · obtain rfl := Option.some.inj hi
      have d93 : A.tmps.getD 93 undef = .bool true := dep_of hdeps 84 (by kernel_rfl)
      exact each_pure hi rfl (xo_move _) d93
    · obtain rfl := Option.some.inj hi
      have dg : A.tmps.getD 94 undef = .bool true := dep_of hdeps 85 (by kernel_rfl)
      exact each_enter hi (wanted_of (g := 85) rfl rfl dg) (xo_call 10 _ _ #[] _ rfl (by simp only [List.map_toArray, List.map_nil]) en_alive) ((CA.out w1).mono fun e' w' ⟨he, hb⟩ => ⟨_, he, hb, rfl⟩)
    · obtain rfl := Option.some.inj hi
      have d94 : A.tmps.getD 94 undef = .bool true := dep_of hdeps 85 (by kernel_rfl)
      have d95 : A.tmps.getD 95 undef = .bool true := dep_of hdeps 86 (by kernel_rfl)
      exact each_pure hi rfl (xo_pick _ _ d94 _) d95
    · obtain rfl := Option.some.inj hi
      have d96 : A.tmps.getD 96 undef = .bool true := dep_of hdeps 87 (by kernel_rfl)
      exact each_pure hi rfl (xo_assign _) d96
  · intro A w1 hB hdf hold hall
    have hr : A.tmps.getD 6 undef = .bool true := hall 88 (by decide)
    have HR := hide hr
    clear hr hold hall
    go_wp2_with fail
    refine bodyPost_ret (results_tmp rfl _ _ _) hdf ?_
    exact ⟨congrArg Ending.returned HR.out, HB0.out.trans (hB.mono HB0.out.size)⟩
end orders5
end Go.Proofs.Ytkdccigcpcchlab
