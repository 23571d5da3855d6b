/-
  x[s:] and x[:n] of bytes that lie there, whatever their form; and a string of them. Own work.
-/
import Derived.Test.YteehkjdolmmapaaBytes
namespace Go.Proofs.Yteehkjdolmmapaa
open Go.RowKit

theorem Lies.cap {k : IntKind} {w : World} {ao : Option Addr} {cap : Nat} {xs : List Int} (h : Lies k w (.slice ao xs.length cap) xs) : xs.length ≤ cap := by
  rcases h with ⟨rfl, _⟩ | ⟨_, b, off, cap', e, _, hl, _⟩
  · simp
  · cases e; exact hl
theorem Lies.drop {k : IntKind} {w : World} {ao : Option Addr} {cap s : Nat} {xs : List Int} (h : Lies k w (.slice ao xs.length cap) xs) (hs : s ≤ xs.length) :
    Lies k w (.slice (if cap = s then ao else ao.map (·.add (s * 1))) (xs.length - s) (cap - s)) (xs.drop s) := by
  rcases h with ⟨rfl, ao', cap', e, h0⟩ | ⟨hne, b, off, cap', e, hb, hl, hm, hc⟩
  · cases e
    obtain rfl : s = 0 := by simpa using hs
    refine .inl ⟨by simp, _, cap, rfl, fun hn => ?_⟩
    split at hn
    · assumption
    · cases ao with
      | none => exact h0 rfl
      | some ad => cases hn
  · cases e
    by_cases hlt : s < xs.length
    · rw [if_neg (by omega)]
      have hlen : (xs.drop s).length = xs.length - s := by simp
      refine .inr ⟨fun e => by rw [e] at hlen; simp at hlen; omega, b, off + s, cap - s, by simp [Addr.add_lit], hb, by omega, by omega, fun t ht => ?_⟩
      rw [Nat.add_assoc, hc (s + t) (by omega)]
      simp [List.getD]
    · obtain rfl : s = xs.length := by omega
      refine .inl ⟨by simp, _, _, by rw [Nat.sub_self], fun hn => ?_⟩
      split at hn
      · cases hn
      · cases hn
theorem Lies.take {k : IntKind} {w : World} {ao : Option Addr} {cap n : Nat} {xs : List Int} (h : Lies k w (.slice ao xs.length cap) xs) (hn : n ≤ xs.length) : Lies k w (.slice ao n cap) (xs.take n) := by
  rcases h with ⟨rfl, ao', cap', e, h0⟩ | ⟨hne, b, off, cap', e, hb, hl, hm, hc⟩
  · cases e
    obtain rfl : n = 0 := by simpa using hn
    exact .inl ⟨by simp, ao, cap, rfl, h0⟩
  · cases e
    by_cases h0 : n = 0
    · subst h0
      exact .inl ⟨by simp, _, _, rfl, fun h => by cases h⟩
    · have hlen : (xs.take n).length = n := by simp; omega
      refine .inr ⟨fun e => by rw [e] at hlen; simp at hlen; omega, b, off, cap, by rw [hlen], hb, by omega, hm, fun t ht => ?_⟩
      rw [hc t (by omega)]
      have : t < n := by omega
      simp [List.getD, this]
/-- 'x[s:]' -/
theorem run_from (w : World) (ao : Option Addr) (n cap s : Nat) (hs : s ≤ n) : (Instr.sliceAt 35 (.slice ao n cap) (some (.int .i64 s)) none none).run Try.prog w = .ok (.slice (if cap = s then ao else ao.map (·.add (s * 1))) (n - s) (cap - s)) w := by
  simp [Instr.sliceAt, Instr.slice, run_underlying Try.underlying35, Instr.sliceBounds, Instr.sliceBound, asIntOf]
  omega
theorem wp_from {ops : Array Oper} {rest : List Oper} {o : Oper} {a : Act} {Q : Exit → Act → World → Prop} (w : World) (hgd : o.guard = none) (x lo : Operand) (ho : o.op = .slice 35 x (some lo) none none) (v : Value) (xs : List Int) (hx : a.eval x = v) (hL : Lies .u8 w v xs)
    (s : Nat) (hlo : a.eval lo = .int .i64 s) (hs : s ≤ xs.length) (h : ∀ ao' cap', Lies .u8 w (.slice ao' (xs.length - s) cap') (xs.drop s) → wpList Try.prog ops Q rest (a.put o.dst (.slice ao' (xs.length - s) cap')) w) : wpList Try.prog ops Q (o :: rest) a w := by
  obtain ⟨ao, cap, rfl⟩ := hL.shape
  refine wpList_plain hgd fun K hK => ?_
  have hr := run_from w ao xs.length cap s hs
  unfold Oper.wp execOp
  simp only [ho, hx, hlo, Option.map_some, Option.map_none, Sem.run_bind, hr, Result.andThen_ok]
  exact hK _ _ (h _ _ (hL.drop hs))
/-- 'x[:n]' -/
theorem run_to (w : World) (kd : IntKind) (ao : Option Addr) (m cap n : Nat) (hn : n ≤ cap) : (Instr.sliceAt 35 (.slice ao m cap) none (some (.int kd n)) none).run Try.prog w = .ok (.slice ao n cap) w := by
  have h2 : (if cap = 0 then ao else Option.map (fun x => x.add 0) ao) = ao := by
    split
    · rfl
    · cases ao with
      | none => rfl
      | some ad => simp [Addr.add]
  simp [Instr.sliceAt, Instr.slice, run_underlying Try.underlying35, Instr.sliceBounds, Instr.sliceBound, asIntOf, h2]
  omega
theorem wp_to {ops : Array Oper} {rest : List Oper} {o : Oper} {a : Act} {Q : Exit → Act → World → Prop} (w : World) (hgd : o.guard = none) (x hi : Operand) (ho : o.op = .slice 35 x none (some hi) none) (v : Value) (xs : List Int) (hx : a.eval x = v) (hL : Lies .u8 w v xs)
    (kd : IntKind) (n : Nat) (hhi : a.eval hi = .int kd n) (hn : n ≤ xs.length) (h : ∀ ao' cap', Lies .u8 w (.slice ao' n cap') (xs.take n) → wpList Try.prog ops Q rest (a.put o.dst (.slice ao' n cap')) w) : wpList Try.prog ops Q (o :: rest) a w := by
  obtain ⟨ao, cap, rfl⟩ := hL.shape
  refine wpList_plain hgd fun K hK => ?_
  have hr := run_to w kd ao xs.length cap n (Nat.le_trans hn hL.cap)
  unfold Oper.wp execOp
  simp only [ho, hx, hhi, Option.map_some, Option.map_none, Sem.run_bind, hr, Result.andThen_ok]
  exact hK _ _ (h _ _ (hL.take hn))
/-- 'string(x)' -/
theorem wp_str {ops : Array Oper} {rest : List Oper} {o : Oper} {a : Act} {Q : Exit → Act → World → Prop} (w : World) (hgd : o.guard = none) (x : Operand) (ho : o.op = .convert 35 9 x) (v : Value) (xs : List Int) (hx : a.eval x = v) (hL : Lies .u8 w v xs)
    (h : wpList Try.prog ops Q rest (a.put o.dst (.string (strOfNums xs))) w) : wpList Try.prog ops Q (o :: rest) a w := by
  refine wpList_plain hgd fun K hK => ?_
  unfold Oper.wp execOp
  simp only [ho, hx, Sem.run_bind, hL.convert, Result.andThen_ok]
  exact hK _ _ h
end Go.Proofs.Yteehkjdolmmapaa
