/-
  Own texts put together: IdNum, MgR1, RvOps. Own work.
-/
import Derived.Test.YtodomdmmffooaaaG10
import Derived.Test.YtodomdmmffooaaaG01
import Derived.Test.YtodomdmmffooaaaG12
import Derived.Test.YtodomdmmffooaaaG13
import Derived.Test.YtodomdmmffooaaaG03
import Derived.Deep.RegionHeldLaw
import Derived.Deep.QuietTactic
import Derived.BigQuiet
import Derived.Sort.Grow
import Derived.Deep.MidRow
namespace Go.Proofs.Ytodomdmmffooaaa
section
open Go.RowKit

theorem counts_any (n : Int) (w : World) : Calls Try.prog 53 #[.int .u32 n] w fun e w' => e = .returned (.bool (countB n)) ∧ w' = w := by
  unfold countB
  by_cases h : 1 ≤ n
  · have h1 : decide (1 ≤ n) = true := by simpa using h
    rw [h1, Bool.true_and]
    go_enter Try.func53, Try.ntmps53
    go_wp2
    go_ret
    exact ⟨rfl, rfl⟩
  · have h1 : decide (1 ≤ n) = false := by simpa using h
    rw [h1, Bool.false_and]
    go_enter Try.func53, Try.ntmps53
    go_wp2
    go_ret
    exact ⟨rfl, rfl⟩
theorem rcount_any (n : Int) (w : World) : Calls Try.prog 58 #[.int .u32 n] w fun e w' => e = .returned (.bool (countB n)) ∧ w' = w := by
  unfold countB
  by_cases h : 1 ≤ n
  · have h1 : decide (1 ≤ n) = true := by simpa using h
    rw [h1, Bool.true_and]
    go_enter Try.func58, Try.ntmps58
    go_wp2
    go_ret
    exact ⟨rfl, rfl⟩
  · have h1 : decide (1 ≤ n) = false := by simpa using h
    rw [h1, Bool.false_and]
    go_enter Try.func58, Try.ntmps58
    go_wp2
    go_ret
    exact ⟨rfl, rfl⟩
theorem txMay_any (n b m : Int) (w : World) : Calls Try.prog 32 #[.agg #[.int .u8 n, .int .u32 b, .int .u32 m]] w fun e w' => e = .returned (.bool (txMayB (n, b, m))) ∧ Below w.heap.size w w' := by
  unfold txMayB
  by_cases h : n < 8
  · have h1 : decide (n < 8) = true := by simpa using h
    rw [h1, Bool.true_and]
    cases hb : countB b
    all_goals
      go_enter Try.func32, Try.ntmps32
      go_wp2_with (go_at_call 53; refine (counts_any _ _).mono ?_; rintro e w' ⟨rfl, rfl⟩)
      go_ret
      exact ⟨rfl, (Below.refl _ _).alloc (Nat.le_refl _) _⟩
  · have h1 : decide (n < 8) = false := by simpa using h
    rw [h1, Bool.false_and]
    go_enter Try.func32, Try.ntmps32
    go_wp2
    go_ret
    exact ⟨rfl, (Below.refl _ _).alloc (Nat.le_refl _) _⟩
theorem rtxMay_any (n b m : Int) (w : World) : Calls Try.prog 38 #[.agg #[.int .u8 n, .int .u32 b, .int .u32 m]] w fun e w' => e = .returned (.bool (txMayB (n, b, m))) ∧ Below w.heap.size w w' := by
  unfold txMayB
  by_cases h : n < 8
  · have h1 : decide (n < 8) = true := by simpa using h
    rw [h1, Bool.true_and]
    cases hb : countB b
    all_goals
      go_enter Try.func38, Try.ntmps38
      go_wp2_with (go_at_call 58; refine (rcount_any _ _).mono ?_; rintro e w' ⟨rfl, rfl⟩)
      go_ret
      exact ⟨rfl, (Below.refl _ _).alloc (Nat.le_refl _) _⟩
  · have h1 : decide (n < 8) = false := by simpa using h
    rw [h1, Bool.false_and]
    go_enter Try.func38, Try.ntmps38
    go_wp2
    go_ret
    exact ⟨rfl, (Below.refl _ _).alloc (Nat.le_refl _) _⟩
theorem regMay_any (b m : Int) (w : World) : Calls Try.prog 33 #[.agg #[.int .u32 b, .int .u32 m]] w fun e w' => e = .returned (.bool (regMayB (b, m))) ∧ Below w.heap.size w w' := by
  unfold regMayB
  cases hb : countB b
  all_goals
    go_enter Try.func33, Try.ntmps33
    go_wp2_with (go_at_call 53; refine (counts_any _ _).mono ?_; rintro e w' ⟨rfl, rfl⟩)
    go_ret
    exact ⟨rfl, (Below.refl _ _).alloc (Nat.le_refl _) _⟩
theorem rregMay_any (b m : Int) (w : World) : Calls Try.prog 39 #[.agg #[.int .u32 b, .int .u32 m]] w fun e w' => e = .returned (.bool (regMayB (b, m))) ∧ Below w.heap.size w w' := by
  unfold regMayB
  cases hb : countB b
  all_goals
    go_enter Try.func39, Try.ntmps39
    go_wp2_with (go_at_call 58; refine (rcount_any _ _).mono ?_; rintro e w' ⟨rfl, rfl⟩)
    go_ret
    exact ⟨rfl, (Below.refl _ _).alloc (Nat.le_refl _) _⟩
end
section
open Go.RowKit Classical

theorem eight_cells8 {k : List Int} (h : k.length = 8) : cells8 k = eightA k := by
  unfold cells8
  rw [← eightE_map h]
set_option maxRecDepth 100000 in
theorem rkeyMay_any (k : List Int) (hk : KeyOk k) (w : World) : Calls Try.prog 59 #[.agg (eightA k)] w fun e w' => e = .returned (.bool (nameF k).2) ∧ Below w.heap.size w w' := by
  have hA := alloc_below10 w (.cells (eightA k) 53)
  have hX := box_new w (eightA k) 53
  obtain ⟨w1, hw1⟩ : ∃ w1, w1 = w.alloc (.cells (eightA k) 53) := ⟨_, rfl⟩
  rw [← hw1] at hA hX
  have C := rname_any k hk.l w1
  rw [eight_cells8 hk.l] at C
  have HC := hide C
  have HA := hide hA
  have HX := hide hX
  have hW := hw1.symm
  obtain ⟨x0, x1, x2, x3, x4, x5, x6, x7⟩ := hX.eight
  generalize (nameF k).1 = nm at *
  generalize (nameF k).2 = r at *
  clear hA hX hw1 C
  go_enter Try.func59, Try.ntmps59
  go_wp2_with (first | (go_at_call 84; refine HC.out.mono ?_; rintro e w2 ⟨rfl, hB2⟩; have HB2 := hide hB2; clear hB2))
  go_ret
  exact ⟨rfl, HA.out.trans (HB2.out.mono HA.out.size)⟩
theorem cf_arr {c : Cf} (h : c.Ok) : c.arr = (cfE c).toArray := by unfold Cf.arr; rw [cfE_cells h]
set_option maxRecDepth 100000 in
set_option maxHeartbeats 1600000 in
theorem ritem_any (i : ItP) (hi : ItOk i) (hl : i.val.length ≤ 9223372036854775807) (w : World) : Calls Try.prog 60 #[.agg (itA i)] w fun e w' => e = .returned (.bool (itMayB i)) ∧ Below w.heap.size w w' := by
  have hA := alloc_below10 w (.cells (itA i) 57)
  have hX := box_new w (itA i) 57
  obtain ⟨w1, hw1⟩ : ∃ w1, w1 = w.alloc (.cells (itA i) 57) := ⟨_, rfl⟩
  rw [← hw1] at hA hX
  have C := rmay_any i.cf hi.c w1
  rw [cf_arr hi.c] at C
  have HC := hide C
  have HA := hide hA
  have hW := hw1.symm
  have x0 := hX.cell 0 _ rfl
  have x1 := hX.cell 1 _ rfl
  have x2 := hX.cell 2 _ rfl
  have x3 := hX.cell 3 _ rfl
  have x4 := hX.cell 4 _ rfl
  have x5 := hX.cell 5 _ rfl
  have x6 := hX.cell 6 _ rfl
  have x7 := hX.cell 7 _ rfl
  have x8 := hX.cell 8 _ rfl
  have x9 := hX.cell 9 _ rfl
  have x10 := hX.cell 10 _ rfl
  have x11 := hX.cell 11 _ rfl
  have x12 := hX.cell 12 _ rfl
  have hS := strOf_size10 i.val
  obtain ⟨R, hR⟩ : ∃ R, R = itMayB i := ⟨_, rfl⟩
  rw [← hR]
  by_cases h1 : i.ver ≤ mxN
  · have h1' : i.ver ≤ 2147483647 := h1
    have d1 : decide ((i.ver : Int) ≤ 2147483647) = true := decide_eq_true (by omega)
    by_cases h2 : i.val.length ≤ 64
    · have d2 : decide ((i.val.length : Int) ≤ 64) = true := decide_eq_true (by omega)
      have HR : Hid (R = mayB i.cf) := hide (by rw [hR]; unfold itMayB; rw [decide_eq_true h1, decide_eq_true h2]; rfl)
      clear hA hX hw1 C hR h1 h2
      generalize mayB i.cf = q at *
      go_enter Try.func60, Try.ntmps60
      go_wp2_with (first | (go_at_call 85; refine HC.out.mono ?_; rintro e w2 ⟨rfl, hB2⟩; have HB2 := hide hB2; clear hB2))
      go_ret
      exact ⟨by rw [HR.out]; rfl, HA.out.trans (HB2.out.mono HA.out.size)⟩
    · have d2 : decide ((i.val.length : Int) ≤ 64) = false := decide_eq_false (by omega)
      have HR : Hid (R = false) := hide (by rw [hR]; unfold itMayB; rw [decide_eq_false h2, Bool.and_false]; rfl)
      clear hA hX hw1 C hR h1 h2
      go_enter Try.func60, Try.ntmps60
      go_wp2_with fail
      go_ret
      exact ⟨by rw [HR.out]; rfl, HA.out⟩
  · have h1' : ¬ i.ver ≤ 2147483647 := h1
    have d1 : decide ((i.ver : Int) ≤ 2147483647) = false := decide_eq_false (by omega)
    have HR : Hid (R = false) := hide (by rw [hR]; unfold itMayB; rw [decide_eq_false h1]; rfl)
    clear hA hX hw1 C hR h1
    go_enter Try.func60, Try.ntmps60
    go_wp2_with fail
    go_ret
    exact ⟨by rw [HR.out]; rfl, HA.out⟩
end
section
open Go.RowKit

section
variable {P : Program} {ρ : Operand → Value} {w : World} {dst : Option Tmp} {ty : TypeId} {pos : String} {aft : Array Edge} {gd : Option (Nat × Bool)}
theorem y_move (x : Operand) {v : Value} (hx : ρ x = v) : (execOp ρ ⟨dst, .move x, ty, pos, aft, gd⟩).run P w = .ok (.value v) w := by subst hx; simp [go_sem]
theorem y_pickT (x y z : Operand) {v : Value} (hx : ρ x = .bool true) (hy : ρ y = v) : (execOp ρ ⟨dst, .pick x y z, ty, pos, aft, gd⟩).run P w = .ok (.value v) w := by subst hy; simp [go_sem, hx]
theorem y_pickF (x y z : Operand) {v : Value} (hx : ρ x = .bool false) (hz : ρ z = v) : (execOp ρ ⟨dst, .pick x y z, ty, pos, aft, gd⟩).run P w = .ok (.value v) w := by subst hz; simp [go_sem, hx]
theorem y_bin (o : BinOp) (t t2 : TypeId) (x y : Operand) {a b v : Value} (hx : ρ x = a) (hy : ρ y = b) (hr : (binOp o t a b).run P w = .ok v w) (hg : (eqGuard o t x y a b).run P w = .ok () w) : (execOp ρ ⟨dst, .binOp o t x y t2, ty, pos, aft, gd⟩).run P w = .ok (.value v) w := by
  subst hx
  subst hy
  simp [execOp, hr, hg]
theorem y_not (t : TypeId) (x : Operand) {a : Bool} (hx : ρ x = .bool a) : (execOp ρ ⟨dst, .unOp .not t x, ty, pos, aft, gd⟩).run P w = .ok (.value (.bool (!a))) w := by
  simp [go_sem, hx]
theorem y_loadMid (t : TypeId) (x : Operand) {q o : Nat} {cs : List Value} {d : TypeDesc} (hx : ρ x = .pointer (some ⟨q, o, none⟩)) (hr : w.rangeAt q o cs) (hu : P.underlying t = some d) (hd : d.isRow = true) (hi : (P.info? t).map (·.size) = some cs.length) : (execOp ρ ⟨dst, .load t x, ty, pos, aft, gd⟩).run P w = .ok (.value (.agg cs.toArray)) w := by
  have hl := run_loadVar_mid (P := P) w q o t cs d hr hu hd hi
  unfold execOp
  simp only [hx, Instr.loadAt, Instr.sureAddr, Sem.run_bind, Sem.run_pure, Result.andThen_ok, hl]
theorem y_call (f : FuncId) (xs : Array Operand) (vs : Array Value) (tys : Array TypeId) (hf : ρ (.func f) = .func (.func f) #[] #[]) (hv : xs.map ρ = vs) (he : ∀ args w, (callFunc f args).run P w = .ok (.enter f args) w) : (execOp ρ ⟨dst, .call { callee := .value (.func f), args := xs, argTypes := tys }, ty, pos, aft, gd⟩).run P w = .ok (.enter f vs) w := by
  subst hv
  simp [go_sem, hf, he]
end
section
variable {P : Program} {ops : Array Oper} {Q : Exit → Act → World → Prop}
theorem r_pure {i : Nat} {o : Oper} {a : Act} {w : World} {v : Value} {ps : List (Nat × Value)} (hi : ops[i]? = some o) (hw : Region.wanted o (yielded ops a.tmps) = true)
    (hv : pv ps i = v) (hr : (execOp a.eval o).run P w = .ok (.value v) w) : wpOp P ops Q i (fun a' w' => Below w.heap.size w w' ∧ ∃ v, InvV ps i v w' ∧ a' = a.put o.dst v) a w :=
  each_pure hi hw hr hv.symm
theorem r_enter {i : Nat} {o : Oper} {a : Act} {w : World} {v : Value} {ps : List (Nat × Value)} {f : FuncId} {args : Array Value} (hi : ops[i]? = some o) (hw : Region.wanted o (yielded ops a.tmps) = true)
    (hv : pv ps i = v) (hr : (execOp a.eval o).run P w = .ok (.enter f args) w) (h : Calls P f args w fun e w' => e = .returned v ∧ Below w.heap.size w w') : wpOp P ops Q i (fun a' w' => Below w.heap.size w w' ∧ ∃ v, InvV ps i v w' ∧ a' = a.put o.dst v) a w :=
  each_enter hi hw hr (Calls.mono h fun _ _ ⟨he, hB⟩ => ⟨v, he, hB, hv.symm⟩)
end
end
end Go.Proofs.Ytodomdmmffooaaa
