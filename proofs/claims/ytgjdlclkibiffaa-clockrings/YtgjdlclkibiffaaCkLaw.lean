/-
  What a program's clock must do, as one bundle: for the laws of layer 9; the probe 'alive'. Own work.
-/
import Derived.Test.YtgjdlclkibiffaaCkKit
namespace Go.Proofs.Ytgjdlclkibiffaa
open Go.RowKit

/-- What a call leaves of a clock: F, F' are the blocks that it uses. -/
def CDid (D : World → Nat → (Nat → Prop) → Ck → Prop) (w w' : World) (q : Nat) (F : Nat → Prop) (c' : Ck) : Prop :=
  ∃ F', D w' q F' c' ∧ KeepBut F w w' ∧ ∀ k, F' k → F k ∨ w.heap.size ≤ k
/-- What a program's clock must do. -/
structure ClockDo (D : World → Nat → (Nat → Prop) → Ck → Prop) : Prop where
  keep : ∀ {w w' : World} {q : Nat} {F S : Nat → Prop} {c : Ck}, D w q F c → KeepBut S w w' → (∀ k, F k → ¬ S k) → D w' q F c
  lt : ∀ {w : World} {q : Nat} {F : Nat → Prop} {c : Ck}, D w q F c → ∀ k, F k → k < w.heap.size
  ok : ∀ {w : World} {q : Nat} {F : Nat → Prop} {c : Ck}, D w q F c → c.Ok
  new : ∀ (w : World), Calls Try.prog 8 #[] w fun e w' => ∃ q F, e = .returned (.pointer (some ⟨q, 0, none⟩)) ∧ D w' q F newC ∧ (∀ k, F k → w.heap.size ≤ k) ∧ Below w.heap.size w w'
  set : ∀ {w : World} {q : Nat} {F : Nat → Prop} {c : Ck} (n : NmP) (after : Int), D w q F c → nmOk n → 0 ≤ after → after < 4294967296 →
    Calls Try.prog 18 #[.pointer (some ⟨q, 0, none⟩), .agg (nmA n), .int .u32 after] w fun e w' => e = .returned (.int .i64 (setA c n after)) ∧ CDid D w w' q F (setD c n after)
  stop : ∀ {w : World} {q : Nat} {F : Nat → Prop} {c : Ck} (n : NmP), D w q F c → nmOk n → Calls Try.prog 15 #[.pointer (some ⟨q, 0, none⟩), .agg (nmA n)] w fun e w' => e = .returned (.bool (c.has n)) ∧ CDid D w w' q F (stopD c n)
  unt : ∀ {w : World} {q : Nat} {F : Nat → Prop} {c : Ck} (n : NmP), D w q F c → nmOk n → Calls Try.prog 20 #[.pointer (some ⟨q, 0, none⟩), .agg (nmA n)] w fun e w' => e = .returned (.tuple #[.int .u32 (c.atOf n), .bool (c.has n)]) ∧ Below w.heap.size w w'
  tick : ∀ {w : World} {q : Nat} {F : Nat → Prop} {c : Ck}, D w q F c → Calls Try.prog 11 #[.pointer (some ⟨q, 0, none⟩)] w fun e w' => ∃ v, e = .returned (.tuple #[v, .int .i64 (tickA c)]) ∧ CDid D w w' q F (tickD c) ∧ RSrc nmE w' v (tickL c) ∧ ∀ g, v.ownBlock = some g → F g ∨ w.heap.size ≤ g
  next : ∀ {w : World} {q : Nat} {F : Nat → Prop} {c : Ck}, D w q F c → Calls Try.prog 22 #[.pointer (some ⟨q, 0, none⟩)] w fun e w' => e = .returned (.tuple #[.agg (nmA c.nextN), .int .u32 c.nextT, .bool c.any]) ∧ Below w.heap.size w w'
  now : ∀ {w : World} {q : Nat} {F : Nat → Prop} {c : Ck}, D w q F c → Calls Try.prog 24 #[.pointer (some ⟨q, 0, none⟩)] w fun e w' => e = .returned (.int .u32 (c.now : Int)) ∧ ∃ m, w' = w.drewN m
  len : ∀ {w : World} {q : Nat} {F : Nat → Prop} {c : Ck}, D w q F c → Calls Try.prog 25 #[.pointer (some ⟨q, 0, none⟩)] w fun e w' => e = .returned (.int .i64 (c.l.length : Int)) ∧ ∃ m, w' = w.drewN m
section
variable {D : World → Nat → (Nat → Prop) → Ck → Prop}
theorem ClockDo.below (H : ClockDo D) {w w' : World} {q : Nat} {F : Nat → Prop} {c : Ck} (h : D w q F c) (hB : Below w.heap.size w w') : D w' q F c := H.keep h (KeepBut.of_below (fun _ => False) hB) (fun _ _ h => h)
/-- A clock, and nothing below w turned since. -/
structure Since9 (D : World → Nat → (Nat → Prop) → Ck → Prop) (w : World) (q : Nat) (c : Ck) (w' : World) (F : Nat → Prop) : Prop where
  dd : D w' q F c
  ff : ∀ k, F k → w.heap.size ≤ k
  bb : Below w.heap.size w w'
theorem Since9.below (H : ClockDo D) {w w1 w2 : World} {q : Nat} {c : Ck} {F : Nat → Prop} (h : Since9 D w q c w1 F) (hB : Below w1.heap.size w1 w2) : Since9 D w q c w2 F := ⟨H.below h.dd hB, h.ff, h.bb.trans (hB.mono h.bb.size)⟩
theorem Since9.did {w w1 w2 : World} {q : Nat} {c c' : Ck} {F : Nat → Prop} (h : Since9 D w q c w1 F) (h2 : CDid D w1 w2 q F c') : ∃ F', Since9 D w q c' w2 F' := by
  obtain ⟨F', h1, hk, hu⟩ := h2
  refine ⟨F', h1, fun k hk' => ?_, h.bb.trans (hk.below h.bb.size h.ff)⟩
  rcases hu k hk' with e | e
  · exact h.ff k e
  · exact Nat.le_trans h.bb.size e
theorem eq_ptr9 (w : World) (a : Addr) : (binOp .eql 23 (.pointer (some a)) (.pointer none)).run Try.prog w = .ok (.bool false) w := by
  have h1 : ∀ d, (Op.equalIn (d + 1) 23 (.pointer (some a)) (.pointer none)).run Try.prog w = .ok false w := by
    intro d; simp [Op.equalIn, run_underlying Try.underlying23]
  have h2 : (Op.equal 23 (.pointer (some a)) (.pointer none)).run Try.prog w = .ok false w := h1 9999
  simp [binOp, h2]
def al1 : Ck := setD newC (1, 0, 0, 0) 2
def al2 : Ck := tickD al1
def al3 : Ck := tickD al2
theorem al_facts : setA newC (1, 0, 0, 0) 2 = 0 ∧ al1.l.length = 1 ∧ tickA al1 = 0 ∧ tickL al1 = [] ∧ tickA al2 = 0 ∧ tickL al2 = [(1, 0, 0, 0)] ∧ al3.now = 2 ∧ al3.l.length = 0 := by decide
set_option maxRecDepth 100000 in
set_option maxHeartbeats 3200000 in
theorem alive_by9 (H : ClockDo D) (w : World) :
    Calls Try.prog 9 #[] w fun e w' => e = .returned (.bool true) ∧ Below w.heap.size w w' := by
  have HF0 := hide al_facts
  go_enter Try.func9, Try.ntmps9
  go_wp2_with fail
  refine (H.new w).mono ?_
  rintro e w1 ⟨q, F, rfl, hD1, hF1, hB1⟩
  have HS : Hid (Since9 D w q newC w1 F) := hide ⟨hD1, hF1, hB1⟩
  have heq := fun W => eq_ptr9 W ⟨q, 0, none⟩
  clear hD1 hF1 hB1
  have C := H.set (1, 0, 0, 0) 2 HS.out.dd (by unfold nmOk txOk; simp) (by decide) (by decide)
  rw [HF0.out.1] at C
  have HC := hide C
  clear C
  go_wp2_with fail
  refine HC.out.mono ?_
  rintro e w2 ⟨rfl, h2⟩
  obtain ⟨F2, hS2⟩ := HS.out.did (show CDid D w1 w2 q F al1 from h2)
  replace HS := hide hS2
  have C := H.len HS.out.dd
  rw [HF0.out.2.1] at C
  replace HC := hide C
  clear C h2 hS2
  go_wp2_with fail
  refine HC.out.mono ?_
  rintro e w3 ⟨rfl, m, hw⟩
  have hB3 := hw ▸ below_drewN9 _ m
  clear hw
  replace HS := hide (HS.out.below H hB3)
  have C := H.tick HS.out.dd
  rw [HF0.out.2.2.1, HF0.out.2.2.2.1] at C
  replace HC := hide C
  clear C hB3
  go_wp2_with fail
  refine HC.out.mono ?_
  rintro e w4 ⟨v4, rfl, h4, hL4, _⟩
  obtain ⟨F4, hS4⟩ := HS.out.did (show CDid D w3 w4 q F2 al2 from h4)
  replace HS := hide hS4
  obtain ⟨a4, c4, hv4, _⟩ := hL4.shape
  subst hv4
  have C := H.tick HS.out.dd
  rw [HF0.out.2.2.2.2.1, HF0.out.2.2.2.2.2.1] at C
  replace HC := hide C
  clear C h4 hS4 hL4
  go_wp2_with fail
  refine HC.out.mono ?_
  rintro e w5 ⟨v5, rfl, h5, hL5, _⟩
  obtain ⟨F5, hS5⟩ := HS.out.did (show CDid D w4 w5 q F4 al3 from h5)
  replace HS := hide hS5
  obtain ⟨a5, c5, hv5, _⟩ := hL5.shape
  subst hv5
  obtain ⟨_, b5, o5, rfl, _, hc5⟩ := hL5.at recCN.len (i := 0) (by simp)
  have r0 := hc5 0 _ rfl
  simp only [Nat.zero_mul, Nat.add_zero, List.getElem_cons_zero] at r0
  have C := H.now HS.out.dd
  rw [HF0.out.2.2.2.2.2.2.1] at C
  replace HC := hide C
  clear C h5 hS5 hL5 hc5
  go_wp2_with fail
  refine HC.out.mono ?_
  rintro e w6 ⟨rfl, m, hw⟩
  have hB6 := hw ▸ below_drewN9 _ m
  clear hw
  replace HS := hide (HS.out.below H hB6)
  have C := H.len HS.out.dd
  rw [HF0.out.2.2.2.2.2.2.2] at C
  replace HC := hide C
  clear C hB6 r0
  go_wp2_with fail
  refine HC.out.mono ?_
  rintro e w7 ⟨rfl, m, hw⟩
  have hB7 := hw ▸ below_drewN9 _ m
  clear hw
  replace HS := hide (HS.out.below H hB7)
  clear hB7
  go_wp2_with fail
  go_ret
  exact ⟨rfl, HS.out.bb⟩
end
end Go.Proofs.Ytgjdlclkibiffaa
