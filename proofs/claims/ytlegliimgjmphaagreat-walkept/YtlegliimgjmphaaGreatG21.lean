/-
  Own texts put together: VtMake. Own work.
-/
import Derived.Test.YtlegliimgjmphaaGreatG05
import Derived.Test.YtlegliimgjmphaaGreatG20
import Derived.Test.YtlegliimgjmphaaGreatG16
namespace Go.Proofs.YtlegliimgjmphaaGreat
section
open Go.RowKit
def natI (xs : List Nat) : List Int := xs.map fun (x : Nat) => (x : Int)
theorem natI_len (xs : List Nat) : (natI xs).length = xs.length := by simp [natI]
def zeroCv : Cf := ⟨0, 0, 0, [0, 0, 0, 0, 0, 0, 0, 0]⟩
theorem zeroC_ok : zeroCv.Ok := ⟨by decide, by decide, by decide, rfl, by simp [zeroCv]⟩
def mkTo (e r w : Nat) (xs : List Nat) (k : Nat) : Cf := ⟨e, r, w, xs.take k ++ List.replicate (8 - k) 0⟩
theorem mkTo_ok (e r w : Nat) (xs : List Nat) (k : Nat) (he : e < 4294967296) (hr : r < 256) (hw : w < 256) (hx : ∀ x ∈ xs, x < 256) (hk : k ≤ 8) (hl : k ≤ xs.length) : (mkTo e r w xs k).Ok := by
 refine ⟨he, hr, hw, ?_, fun v hv => ?_⟩
 ·simp [mkTo]; omega
 ·simp only [mkTo, List.mem_append, List.mem_replicate] at hv
  rcases hv with hv | ⟨_, rfl⟩
  ·exact hx v (List.mem_of_mem_take hv)
  ·decide
theorem wp_store_cfg {ops : Array Oper} {rest : List Oper} {op : Oper} {a : Act} {w : World} {Q : Exit → Act → World → Prop} {t0 : TypeId} (hgd : op.guard = none) (hdst : op.dst = none) (x y : Operand) (ho : op.op = .store 83 x y)
  (p : Nat) (hx : a.eval x = .pointer (some ⟨p, 0, none⟩)) {c c' : Cf} (hok : c.Ok) (hok' : c'.Ok) (hy : a.eval y = .agg c'.arr) (hb : Box w p c.arr t0)
  (h : ∀ w', Box w' p c'.arr t0 → KeepBut (fun k => k = p) w w' → wpList Tryz.prog ops Q rest a w') : wpList Tryz.prog ops Q (op :: rest) a w :=
 wp_store_box hgd hdst x y ho p hx hy hb (by rw [hok.size, hok'.size]) (by rw [hok'.size]; exact infoCfg) c'.one h
end
end Go.Proofs.YtlegliimgjmphaaGreat
