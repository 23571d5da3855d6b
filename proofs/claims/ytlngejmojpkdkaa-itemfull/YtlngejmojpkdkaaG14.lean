/-
  Own texts put together: MgR3. Own work.
-/
import Derived.Test.YtlngejmojpkdkaaG12
import Derived.Test.YtlngejmojpkdkaaG13
namespace Go.Proofs.Ytlngejmojpkdkaa
section
open Go.RowKit Classical

theorem box_range {w : World} {p : Nat} {cs : Array Value} {t : TypeId} (h : Box w p cs t) (o : Nat) (xs : List Value) (he : ∀ j v, xs[j]? = some v → cs[o + j]? = some v) : w.rangeAt p o xs := fun j v hv => h.cell _ _ (he j v hv)
theorem eql_it10 {a b : ItP} (ha : ItOk a) (hb : ItOk b) (w : World) : (binOp .eql 36 (.agg (itA a)) (.agg (itA b))).run Try.prog w = .ok (.bool (decide (a = b))) w := by
  rw [run_eql_struct, show (10000 : Nat) = 9996 + 4 from rfl, eq_it 9996 ha hb]
  rfl
theorem eight_list {k : List Int} (h : k.length = 8) : [at8 k 0, at8 k 1, at8 k 2, at8 k 3, at8 k 4, at8 k 5, at8 k 6, at8 k 7] = k := by
  match k, h with
  | [_, _, _, _, _, _, _, _], _ => rfl
theorem eql_key10 {a b : List Int} (ha : a.length = 8) (hb : b.length = 8) (w : World) : (binOp .eql 31 (.agg (eightA a)) (.agg (eightA b))).run Try.prog w = .ok (.bool (decide (a = b))) w := by
  refine (eqli_key _ _ _ _ _ _ _ _ _ _ _ _ _ _ _ _ w).trans ?_
  rw [eight_list ha, eight_list hb]
end
end Go.Proofs.Ytlngejmojpkdkaa
