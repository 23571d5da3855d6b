/-
  x[s:n] of bytes that lie there, whatever their form. Own work.
-/
import Derived.Test.YtjjmcaamgoffiaaCuts
namespace Go.Proofs.Ytjjmcaamgoffiaa
open Go.RowKit

theorem run_mid (w : World) (k1 k2 : IntKind) (ao : Option Addr) (m cap s n : Nat) (hs : s ≤ n) (hn : n ≤ cap) : (Instr.sliceAt 29 (.slice ao m cap) (some (.int k1 s)) (some (.int k2 n)) none).run Try.prog w = .ok (.slice (if cap = s then ao else ao.map (·.add (s * 1))) (n - s) (cap - s)) w := by
  simp [Instr.sliceAt, Instr.slice, run_underlying Try.underlying29, Instr.sliceBounds, Instr.sliceBound, asIntOf]
  rw [if_pos hn, if_pos hs]
theorem Lies.mid {k : IntKind} {w : World} {ao : Option Addr} {cap s n : Nat} {xs : List Int} (h : Lies k w (.slice ao xs.length cap) xs) (hs : s ≤ n) (hn : n ≤ xs.length) :
    Lies k w (.slice (if cap = s then ao else ao.map (·.add (s * 1))) (n - s) (cap - s)) ((xs.drop s).take (n - s)) := by
  have hl : (xs.take n).length = n := by simp; omega
  have h1 := h.take hn
  have h2 : Lies k w (.slice ao (xs.take n).length cap) (xs.take n) := by rw [hl]; exact h1
  have h3 := h2.drop (s := s) (by omega)
  rw [hl, List.drop_take] at h3
  exact h3
/-- 'x[s:n]' -/
theorem wp_mid {ops : Array Oper} {rest : List Oper} {o : Oper} {a : Act} {Q : Exit → Act → World → Prop} (w : World) (hgd : o.guard = none) (x lo hi : Operand) (ho : o.op = .slice 29 x (some lo) (some hi) none) (v : Value) (xs : List Int) (hx : a.eval x = v) (hL : Lies .u8 w v xs)
    (k1 k2 : IntKind) (s n : Nat) (hlo : a.eval lo = .int k1 s) (hhi : a.eval hi = .int k2 n) (hs : s ≤ n) (hn : n ≤ xs.length)
    (h : ∀ ao' cap', Lies .u8 w (.slice ao' (n - s) cap') ((xs.drop s).take (n - s)) → wpList Try.prog ops Q rest (a.put o.dst (.slice ao' (n - s) cap')) w) : wpList Try.prog ops Q (o :: rest) a w := by
  obtain ⟨ao, cap, rfl⟩ := hL.shape
  refine wpList_plain hgd fun K hK => ?_
  have hr := run_mid w k1 k2 ao xs.length cap s n hs (Nat.le_trans hn hL.cap)
  unfold Oper.wp execOp
  simp only [ho, hx, hlo, hhi, Option.map_some, Option.map_none, Sem.run_bind, hr, Result.andThen_ok]
  exact hK _ _ (h _ _ (hL.mid hs hn))
end Go.Proofs.Ytjjmcaamgoffiaa
