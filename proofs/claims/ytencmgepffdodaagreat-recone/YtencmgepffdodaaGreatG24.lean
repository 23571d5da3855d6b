/-
  Own texts put together: MgR3. Own work.
-/
import Derived.Test.YtencmgepffdodaaGreatG22
import Derived.Test.YtencmgepffdodaaGreatG23
namespace Go.Proofs.YtencmgepffdodaaGreat
section
open Go.RowKit Classical

section
variable {ρ : Operand → Value} {w : World} {dst : Option Tmp} {ty : TypeId} {pos : String} {aft : Array Edge} {gd : Option (Nat × Bool)}
theorem y_cell_u8 (x : Operand) {q o : Nat} {v : Value} (hx : ρ x = .pointer (some ⟨q, o, none⟩)) (h : w.cell? ⟨q, o, none⟩ = some v) : (execOp ρ ⟨dst, .load 5 x, ty, pos, aft, gd⟩).run Tryz.prog w = .ok (.value v) w := by simp [go_sem, hx, h]
theorem y_cell_u32 (x : Operand) {q o : Nat} {v : Value} (hx : ρ x = .pointer (some ⟨q, o, none⟩)) (h : w.cell? ⟨q, o, none⟩ = some v) : (execOp ρ ⟨dst, .load 22 x, ty, pos, aft, gd⟩).run Tryz.prog w = .ok (.value v) w := by simp [go_sem, hx, h]
theorem y_cell_awrites (x : Operand) {q o : Nat} {v : Value} (hx : ρ x = .pointer (some ⟨q, o, none⟩)) (h : w.cell? ⟨q, o, none⟩ = some v) : (execOp ρ ⟨dst, .load 28 x, ty, pos, aft, gd⟩).run Tryz.prog w = .ok (.value v) w := by simp [go_sem, hx, h]
end
theorem infoTx10 : (Tryz.prog.info? 24).map (·.size) = some 3 := by kernel_rfl
theorem infoReg10 : (Tryz.prog.info? 26).map (·.size) = some 2 := by kernel_rfl
theorem box_range {w : World} {p : Nat} {cs : Array Value} {t : TypeId} (h : Box w p cs t) (o : Nat) (xs : List Value) (he : ∀ j v, xs[j]? = some v → cs[o + j]? = some v) : w.rangeAt p o xs := fun j v hv => h.cell _ _ (he j v hv)
theorem eql_it10 {a b : ItP} (ha : ItOk a) (hb : ItOk b) (w : World) : (binOp .eql 35 (.agg (itA a)) (.agg (itA b))).run Tryz.prog w = .ok (.bool (decide (a = b))) w := by
  rw [run_eql_struct, show (10000 : Nat) = 9996 + 4 from rfl, eq_it 9996 ha hb]
  rfl
theorem eql_tx10 (a b : TxN) (w : World) : (binOp .eql 24 (.agg (txE a).toArray) (.agg (txE b).toArray)).run Tryz.prog w = .ok (.bool (decide (a = b))) w := by
  refine (eql_tx _ _ _ _ _ _ w).trans ?_
  congr 2
  obtain ⟨a1, a2, a3⟩ := a
  obtain ⟨b1, b2, b3⟩ := b
  rw [Bool.eq_iff_iff]
  simp [and_assoc, Int.ofNat_inj]
theorem eql_reg10 (a b : Nat × Nat) (w : World) : (binOp .eql 26 (.agg (rgE a).toArray) (.agg (rgE b).toArray)).run Tryz.prog w = .ok (.bool (decide (a = b))) w := by
  refine (eql_reg _ _ _ _ w).trans ?_
  congr 2
  obtain ⟨a1, a2⟩ := a
  obtain ⟨b1, b2⟩ := b
  rw [Bool.eq_iff_iff]
  simp [Int.ofNat_inj]
theorem eight_list {k : List Int} (h : k.length = 8) : [at8 k 0, at8 k 1, at8 k 2, at8 k 3, at8 k 4, at8 k 5, at8 k 6, at8 k 7] = k := by
  match k, h with
  | [_, _, _, _, _, _, _, _], _ => rfl
theorem eql_key10 {a b : List Int} (ha : a.length = 8) (hb : b.length = 8) (w : World) : (binOp .eql 31 (.agg (eightA a)) (.agg (eightA b))).run Tryz.prog w = .ok (.bool (decide (a = b))) w := by
  refine (eqli_key _ _ _ _ _ _ _ _ _ _ _ _ _ _ _ _ w).trans ?_
  rw [eight_list ha, eight_list hb]
theorem eql_u8_10 (a b : Nat) (w : World) : (binOp .eql 5 (.int .u8 (a : Int)) (.int .u8 (b : Int))).run Tryz.prog w = .ok (.bool (decide (a = b))) w := by
  have : ((a : Int) == (b : Int)) = decide (a = b) := by rw [Bool.eq_iff_iff]; simp [Int.ofNat_inj]
  simp [go_sem, this]
theorem eql_u32_10 (a b : Nat) (w : World) : (binOp .eql 22 (.int .u32 (a : Int)) (.int .u32 (b : Int))).run Tryz.prog w = .ok (.bool (decide (a = b))) w := by
  have : ((a : Int) == (b : Int)) = decide (a = b) := by rw [Bool.eq_iff_iff]; simp [Int.ofNat_inj]
  simp [go_sem, this]
end
end Go.Proofs.YtencmgepffdodaaGreat
