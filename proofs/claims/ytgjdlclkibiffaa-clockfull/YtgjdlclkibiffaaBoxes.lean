/-
  Variables in blocks of their own ('Box'), and what a call leaves alone ('KeepBut'): for calls that write through pointers. Own work.
-/
import Derived.Test.YtgjdlclkibiffaaAppLies
import Derived.Below
import Derived.Deep.WholeRow
import Derived.Deep.MidRow
namespace Go.Proofs.Ytgjdlclkibiffaa
open Go.RowKit

/-- Block p is a variable: these cells, of this type; none of them frozen. -/
def Box (w : World) (p : Nat) (cs : Array Value) (t : TypeId) : Prop := w.heap[p]? = some (.cells cs t (0, 0))
theorem Box.cell {w : World} {p : Nat} {cs : Array Value} {t : TypeId} (h : Box w p cs t) (i : Nat) (v : Value) (hv : cs[i]? = some v) : w.cell? ⟨p, i, none⟩ = some v := by
  rw [cell_of_row w p i cs t (0, 0) h]; exact hv
theorem Box.frozen {w : World} {p : Nat} {cs : Array Value} {t : TypeId} (h : Box w p cs t) (i : Nat) : w.frozen? ⟨p, i, none⟩ = false := by
  unfold World.frozen?
  rw [h]; simp
theorem Box.lt {w : World} {p : Nat} {cs : Array Value} {t : TypeId} (h : Box w p cs t) : p < w.heap.size := (Array.getElem?_eq_some_iff.1 h).1
/-- Nothing but the blocks of S (and new ones) is touched. -/
structure KeepBut (S : Nat → Prop) (w w' : World) : Prop where
  os : w'.os = w.os
  tape : w'.tape = w.tape
  output : w'.output = w.output
  size : w.heap.size ≤ w'.heap.size
  block : ∀ k, k < w.heap.size → ¬ S k → w'.heap[k]? = w.heap[k]?
theorem KeepBut.refl (S : Nat → Prop) (w : World) : KeepBut S w w := ⟨rfl, rfl, rfl, Nat.le_refl _, fun _ _ _ => rfl⟩
theorem KeepBut.trans {S S' : Nat → Prop} {a b c : World} (h : KeepBut S a b) (h' : KeepBut S' b c) (hs : ∀ k, k < a.heap.size → S' k → S k) : KeepBut S a c :=
  ⟨h'.os.trans h.os, h'.tape.trans h.tape, h'.output.trans h.output, Nat.le_trans h.size h'.size,
    fun k hk hS => (h'.block k (Nat.lt_of_lt_of_le hk h.size) (fun h2 => hS (hs k hk h2))).trans (h.block k hk hS)⟩
theorem KeepBut.mono {S S' : Nat → Prop} {w w' : World} (h : KeepBut S w w') (hs : ∀ k, S k → S' k) : KeepBut S' w w' :=
  ⟨h.os, h.tape, h.output, h.size, fun k hk hS => h.block k hk (fun h2 => hS (hs k h2))⟩
theorem KeepBut.of_below {w w' : World} (S : Nat → Prop) (h : Below w.heap.size w w') : KeepBut S w w' := ⟨h.os, h.tape, h.output, h.size, fun k hk _ => h.block k hk⟩
theorem KeepBut.below {S : Nat → Prop} {w w' : World} {B : Nat} (h : KeepBut S w w') (hB : B ≤ w.heap.size) (hs : ∀ k, S k → B ≤ k) : Below B w w' :=
  ⟨h.os, h.tape, h.output, h.size, fun k hk => h.block k (Nat.lt_of_lt_of_le hk hB) (fun h2 => Nat.lt_irrefl _ (Nat.lt_of_lt_of_le hk (hs k h2)))⟩
theorem KeepBut.setCell {S : Nat → Prop} {a w : World} (h : KeepBut S a w) {p : Addr} (hp : S p.block ∨ a.heap.size ≤ p.block) (u : Value) : KeepBut S a (w.setCell p u) := by
  refine ⟨h.os, h.tape, h.output, by simpa using h.size, fun k hk hS => ?_⟩
  have hne : k ≠ p.block := by
    intro e; subst e
    rcases hp with hp | hp
    · exact hS hp
    · omega
  rw [Below.heap_setCell w p u k hne]
  exact h.block k hk hS
theorem KeepBut.alloc {S : Nat → Prop} {a w : World} (h : KeepBut S a w) (o : Obj) : KeepBut S a (w.alloc o) :=
  ⟨h.os, h.tape, h.output, Nat.le_trans h.size (by simp), fun k hk hS => (Below.heap_alloc w o k (Nat.lt_of_lt_of_le hk h.size)).trans (h.block k hk hS)⟩
theorem KeepBut.drew {S : Nat → Prop} {a w : World} (h : KeepBut S a w) : KeepBut S a w.drew := ⟨h.os, h.tape, h.output, h.size, h.block⟩
theorem Box.keep {S : Nat → Prop} {w w' : World} {p : Nat} {cs : Array Value} {t : TypeId} (h : Box w p cs t) (hk : KeepBut S w w') (hS : ¬ S p) : Box w' p cs t :=
  (hk.block p h.lt hS).trans h
theorem Box.set {w : World} {p i : Nat} {cs : Array Value} {t : TypeId} {v : Value} (h : Box w p cs t) : Box (w.setCell ⟨p, i, none⟩ v) p (cs.setIfInBounds i v) t := by
  unfold Box at h ⊢
  simp [World.setCell, Array.getElem?_modify, h]
/-- An owned row lies in one block alone: so it is kept where that block is. -/
theorem owns_keep {S : Nat → Prop} {w w' : World} {base e size n : Nat} {v : Value} {xs : List Value} (h : w.ownsRow base e size v n xs) (hk : KeepBut S w w') (hS : ∀ g, v.ownBlock = some g → ¬ S g) : w'.ownsRow base e size v n xs := by
  obtain ⟨hl, h0 | ⟨g, cap, cur, rfl, hb, hh, h1, h2, h3, h4⟩⟩ := h
  · exact ⟨hl, .inl h0⟩
  · refine ⟨hl, .inr ⟨g, cap, cur, rfl, hb, ?_, h1, h2, h3, h4⟩⟩
    exact (hk.block g (Array.getElem?_eq_some_iff.1 hh).1 (hS g rfl)).trans hh
/-- A whole variable is loaded. -/
theorem wp_load_box {P : Program} {ops : Array Oper} {rest : List Oper} {op : Oper} {a : Act} {w : World} {Q : Exit → Act → World → Prop} {t t0 : TypeId} {d : TypeDesc} (hgd : op.guard = none) (x : Operand) (ho : op.op = .load t x)
    (p : Nat) (hx : a.eval x = .pointer (some ⟨p, 0, none⟩)) {cs : Array Value} (hb : Box w p cs t0) (hu : P.underlying t = some d) (hd : d.isRow = true) (hi : (P.info? t).map (·.size) = some cs.size)
    (h : wpList P ops Q rest (a.put op.dst (.agg cs)) w) : wpList P ops Q (op :: rest) a w := by
  have hr : w.rangeAt p 0 cs.toList := fun j v hv => by
    rw [Nat.zero_add]; exact hb.cell j v (by simpa using hv)
  exact wpList_load_mid hgd t x ho p 0 hx cs.toList d hr hu hd (by simpa using hi) (by simpa using h)
/-- A whole variable is stored. -/
theorem wp_store_box {P : Program} {ops : Array Oper} {rest : List Oper} {op : Oper} {a : Act} {w : World} {Q : Exit → Act → World → Prop} {t t0 : TypeId} (hgd : op.guard = none) (hdst : op.dst = none) (x y : Operand) (ho : op.op = .store t x y)
    (p : Nat) (hx : a.eval x = .pointer (some ⟨p, 0, none⟩)) {cs cs' : Array Value} (hy : a.eval y = .agg cs') (hb : Box w p cs t0) (hsz : cs.size = cs'.size) (hi : (P.info? t).map (·.size) = some cs'.size) (h1 : cs'.all (·.oneCell') = true)
    (h : ∀ w', Box w' p cs' t0 → KeepBut (fun k => k = p) w w' → wpList P ops Q rest a w') : wpList P ops Q (op :: rest) a w := by
  refine wpList_plain hgd fun K hK => ?_
  have hr := run_storeVar_row (P := P) w p t0 t cs cs' hb hi hsz h1
  unfold Oper.wp execOp
  simp only [ho, hx, hy, Instr.storeAt, Instr.sureAddr, Sem.run_bind, Sem.run_pure, Result.andThen_ok, hr]
  show K (a.put op.dst undef) _
  rw [hdst]
  refine hK _ _ (h _ ?_ ?_)
  · exact setRow_heap w p cs cs' t0 (0, 0) hb
  · exact ⟨rfl, rfl, rfl, by simp [World.setRow], fun k _ hS => setRow_other w p k cs' hS⟩
theorem box_new (w : World) (cs : Array Value) (t : TypeId) : Box (w.alloc (.cells cs t)) w.heap.size cs t := heap_alloc_last w _
/-- The result lies in a variable of its own. -/
theorem results_box {P : Program} {fn : Func} {q : Tmp} {t t0 : TypeId} {d : TypeDesc} (h : fn.results = #[.cell q t]) (tmps : Array Value) (w : World) (p : Nat) (hq : tmps.getD q undef = .pointer (some ⟨p, 0, none⟩)) {cs : Array Value} (hb : Box w p cs t0)
    (hu : P.underlying t = some d) (hd : d.isRow = true) (hi : (P.info? t).map (·.size) = some cs.size) : (results fn tmps).run P w = .ok (.agg cs) w := by
  have hr : w.rangeAt p 0 cs.toList := fun j v hv => by
    rw [Nat.zero_add]; exact hb.cell j v (by simpa using hv)
  have hl := run_loadVar_mid (P := P) w p 0 t cs.toList d hr hu hd (by simpa using hi)
  have hq' : tmps[q]?.getD undef = .pointer (some ⟨p, 0, none⟩) := by rw [← Array.getD_eq_getD_getElem?]; exact hq
  simp only [results, h]
  simp [hq', asAddr, hl]
end Go.Proofs.Ytgjdlclkibiffaa
