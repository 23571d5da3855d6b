/-
  Maps keyed by bytes that a call made itself: to bools, to counts. Own work.
-/
import Derived.Test.YteehkjdolmmapaaNtOnceP
import Derived.Test.YteehkjdolmmapaaBoxes
import Derived.Maps.OwnSet
namespace Go.Proofs.Yteehkjdolmmapaa
open Go Go.Maps Go.RowKit

theorem byKeyed : Keyed Try.prog 5 := int_keyed Try.underlying5
theorem zeroBoolB (w : World) : (zeroValue 4).run Try.prog w = .ok (.bool false) w := by kernel_rfl
theorem zeroIntB (w : World) : (zeroValue 3).run Try.prog w = .ok (.int .i64 0) w := by kernel_rfl
abbrev kB (y : Nat) : Lit := .int .u8 (y : Int)
theorem wfB {y : Nat} (h : y < 256) : (Lit.int .u8 (y : Int)).wf = true := by
  simp [Lit.wf, IntKind.min, IntKind.max, IntKind.signed, IntKind.bits]; omega
theorem wfT {c : Nat} (h : c ≤ 1000000) : (Lit.int .i64 (c : Int)).wf = true := by
  simp [Lit.wf, IntKind.min, IntKind.max, IntKind.signed, IntKind.bits]; omega
theorem keyB {y : Nat} (h : y < 256) : keyOf Try.prog 5 (.int .u8 (y : Int)) = some (kB y) := keyOf_int_mk Try.underlying5 (wfB h)
theorem kB_ne {y z : Nat} (h : z ≠ y) : kB z ≠ kB y := by
  intro e
  injection e with _ e2
  omega
/-- Block b is a map to bools that reads as f. -/
def MapB (w : World) (b n : Nat) (f : Nat → Bool) : Prop :=
  ∃ D : DataW Unit, w.ownsMap Try.prog 5 (plainElem Try.prog 4) b n D ∧ ∀ y, y < 256 → D.atKey (kB y) (.lit (.bool false)) = .lit (.bool (f y))
def MapT (w : World) (b n : Nat) (f : Nat → Nat) : Prop :=
  ∃ D : DataW Unit, w.ownsMap Try.prog 5 (plainElem Try.prog 3) b n D ∧ ∀ y, y < 256 → D.atKey (kB y) (.lit (.int .i64 0)) = .lit (.int .i64 (f y : Int))
theorem mapB_made (w : World) : MapB (w.alloc (.map #[] 0)) w.heap.size 0 (fun _ => false) := ⟨_, World.ownsMap_made _ _ _ _, fun _ _ => rfl⟩
theorem mapT_made (w : World) : MapT (w.alloc (.map #[] 0)) w.heap.size 0 (fun _ => 0) := ⟨_, World.ownsMap_made _ _ _ _, fun _ _ => rfl⟩
section
variable {w w' : World} {b n : Nat}
theorem MapB.lt {f : Nat → Bool} (h : MapB w b n f) : b < w.heap.size := by obtain ⟨D, h, _⟩ := h; exact h.lt
theorem MapT.lt {f : Nat → Nat} (h : MapT w b n f) : b < w.heap.size := by obtain ⟨D, h, _⟩ := h; exact h.lt
theorem owns_map_keep {P : Program} {k : TypeId} {R : Value → Option (DataW Unit × List MemPlace)} {D : DataW Unit} {S : Nat → Prop} (h : w.ownsMap P k R b n D) (hk : KeepBut S w w') (hS : ¬ S b) : w'.ownsMap P k R b n D := by
  have hlt := h.lt
  obtain ⟨es, clock, hb, F, hs, hD⟩ := h
  exact ⟨es, clock, (hk.block b hlt hS).trans hb, F, hs, hD⟩
theorem MapB.keep {f : Nat → Bool} {S : Nat → Prop} (h : MapB w b n f) (hk : KeepBut S w w') (hS : ¬ S b) : MapB w' b n f := by
  obtain ⟨D, h, h2⟩ := h
  exact ⟨D, owns_map_keep h hk hS, h2⟩
theorem MapT.keep {f : Nat → Nat} {S : Nat → Prop} (h : MapT w b n f) (hk : KeepBut S w w') (hS : ¬ S b) : MapT w' b n f := by
  obtain ⟨D, h, h2⟩ := h
  exact ⟨D, owns_map_keep h hk hS, h2⟩
theorem MapB.below {f : Nat → Bool} (h : MapB w b n f) (hB : Below w.heap.size w w') : MapB w' b n f := h.keep (KeepBut.of_below (fun _ => False) hB) (fun h => h)
theorem MapT.below {f : Nat → Nat} (h : MapT w b n f) (hB : Below w.heap.size w w') : MapT w' b n f := h.keep (KeepBut.of_below (fun _ => False) hB) (fun h => h)
theorem grown_keep {c : Nat} (h : w.grownBy w' (some c)) : KeepBut (fun k => k = c) w w' := by
  obtain ⟨a1, a2, a3, a4, a5⟩ := h
  exact ⟨a1, a2, a3, a4, fun k hk hn => a5 k hk (fun e => hn (Option.some.inj e))⟩
/-- m[y] -/
theorem MapB.look {f : Nat → Bool} (h : MapB w b n f) {y : Nat} (hy : y < 256) : (Instr.lookup 55 (.map (some b)) (.int .u8 (y : Int)) false).run Try.prog w = .ok (.bool (f y)) w := by
  obtain ⟨D, h, h2⟩ := h
  obtain ⟨v, ps, hrun, hv⟩ := h.lookup byKeyed Try.underlying55 (zeroBoolB w) (plainElem_bool Try.underlying4 false) (keyB hy)
  rw [h2 y hy] at hv
  rw [hrun]
  unfold plainElem at hv
  rw [Try.underlying4] at hv
  cases v <;> simp at hv
  rw [hv.1]
theorem MapT.look {f : Nat → Nat} (h : MapT w b n f) {y : Nat} (hy : y < 256) : (Instr.lookup 56 (.map (some b)) (.int .u8 (y : Int)) false).run Try.prog w = .ok (.int .i64 (f y : Int)) w := by
  obtain ⟨D, h, h2⟩ := h
  obtain ⟨c, hrun, hat, _⟩ := h.lookup_int byKeyed Try.underlying56 Try.underlying3 (zeroIntB w) (keyB hy)
  rw [h2 y hy] at hat
  injection hat with e
  injection e with _ e2
  rw [hrun, e2]
/-- m[y] = true -/
theorem MapB.put {f : Nat → Bool} (h : MapB w b n f) (hn : n ≤ 1000000) {y : Nat} (hy : y < 256) : ∃ w', (Instr.mapUpdate 55 (.map (some b)) (.int .u8 (y : Int)) (.bool true)).run Try.prog w = .ok () w' ∧ MapB w' b (n + 1) (updB f y) ∧ KeepBut (fun k => k = b) w w' := by
  obtain ⟨D, h, h2⟩ := h
  obtain ⟨w', hrun, ho, hg⟩ := h.update byKeyed Try.underlying55 (by unfold maxLen; omega) (keyB hy) (plainElem_bool Try.underlying4 true)
  refine ⟨w', hrun, ⟨_, ho, fun z hz => ?_⟩, grown_keep hg⟩
  unfold updB
  by_cases e : z = y
  · subst e
    rw [if_pos rfl]
    exact atKey_put_same h.isMap (byKeyed.key (keyB hz)) _ _
  · rw [if_neg e, atKey_put_other (kB_ne e)]
    exact h2 z hz
/-- m[y] = m[y] + 1 -/
theorem MapT.put {f : Nat → Nat} (h : MapT w b n f) (hn : n ≤ 1000000) {y : Nat} (hy : y < 256) (hf : f y < 1000000) : ∃ w', (Instr.mapUpdate 56 (.map (some b)) (.int .u8 (y : Int)) (.int .i64 ((f y : Int) + 1))).run Try.prog w = .ok () w' ∧ MapT w' b (n + 1) (updT f y) ∧ KeepBut (fun k => k = b) w w' := by
  obtain ⟨D, h, h2⟩ := h
  have hw : (Lit.int .i64 ((f y : Int) + 1)).wf = true := by
    have := wfT (c := f y + 1) (by omega)
    rwa [Int.natCast_add] at this
  obtain ⟨w', hrun, ho, hg⟩ := h.update byKeyed Try.underlying56 (by unfold maxLen; omega) (keyB hy) (plainElem_int Try.underlying3 hw)
  refine ⟨w', hrun, ⟨_, ho, fun z hz => ?_⟩, grown_keep hg⟩
  unfold updT
  by_cases e : z = y
  · subst e
    rw [if_pos rfl, Int.natCast_add]
    exact atKey_put_same h.isMap (byKeyed.key (keyB hz)) _ _
  · rw [if_neg e, atKey_put_other (kB_ne e)]
    exact h2 z hz
end
end Go.Proofs.Yteehkjdolmmapaa
