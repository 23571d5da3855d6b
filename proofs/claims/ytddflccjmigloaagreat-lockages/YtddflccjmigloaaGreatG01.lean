/-
  Own texts put together: Lies, AppLies, Boxes, AppStr, Plain, Num, Texts. Own work.
-/
import Derived.Test.YtddflccjmigloaaGreatProg
import Derived.WalkKit
import Derived.WalkSpells
import Derived.WalkLawsBesides
import Derived.Handy
import Derived.OwnWalk
import Derived.Laws.BytesArg
import Derived.Maps.AppendAt
import Derived.Laws.AppendOwnNone
import Derived.Deep.DeepAppendWide
import Derived.Below
import Derived.Deep.WholeRow
import Derived.Deep.MidRow
import Derived.Lib.AppendStr
import Derived.Laws.BitsAllLaws
import Derived.Laws.Bits64
import Derived.Lib.TrailingZeros
namespace Go.Proofs.YtddflccjmigloaaGreat
section
open Go.RowKit
theorem hide {p : Prop} (h : p) : Hid p := h
theorem ret_int {k : IntKind} {a b : Int} (h : a = b) : Ending.returned (.int k a) = .returned (.int k b) := by rw [h]
/-- A slice reads as these numbers. -/
def Lies (k : IntKind) (w : World) (v : Value) (xs : List Int) : Prop :=
  (xs = [] ∧ ∃ (ao : Option Addr) (cap : Nat), v = .slice ao 0 cap ∧ (ao = none → cap = 0)) ∨
  (xs ≠ [] ∧ ∃ b off cap : Nat, v = .slice (some ⟨b, off, none⟩) xs.length cap ∧ b < w.heap.size ∧ xs.length ≤ cap ∧ cap ≤ maxLen ∧
    ∀ t, t < xs.length → w.cell? ⟨b, off + t, none⟩ = some (.int k (xs.getD t 0)))
theorem Lies.below {k : IntKind} {w w' : World} {v : Value} {xs : List Int} (hB : Below w.heap.size w w') (h : Lies k w v xs) : Lies k w' v xs := by
  rcases h with h | ⟨hx, b, off, cap, rfl, hb, hl, hm, hc⟩
  · exact .inl h
  · exact .inr ⟨hx, b, off, cap, rfl, Nat.lt_of_lt_of_le hb hB.size, hl, hm, fun t ht => (hB.cell (p := ⟨b, off + t, none⟩) hb).trans (hc t ht)⟩
theorem Lies.nil (k : IntKind) (w : World) : Lies k w (.slice none 0 0) [] := .inl ⟨rfl, none, 0, rfl, fun _ => rfl⟩
theorem Lies.len {k : IntKind} {w : World} {v : Value} {xs : List Int} (h : Lies k w v xs) : xs.length ≤ maxLen := by
  rcases h with ⟨rfl, _⟩ | ⟨_, b, off, cap, _, _, hl, hm, _⟩
  · simp
  · omega
theorem Lies.of_own {k : IntKind} {w : World} {base e : Nat} {v : Value} {n : Nat} {xs : List Int} (h : w.ownsRow base e 1 v n (xs.map (Value.int k))) : Lies k w v xs := by
  have hl : xs.length = n := by simpa using h.1
  have h0 := h
  obtain ⟨_, ⟨rfl, rfl⟩ | ⟨g, cap, cur, rfl, hg, hh, hn, hcap, hsz, htake⟩⟩ := h
  · obtain rfl : xs = [] := List.eq_nil_of_length_eq_zero hl
    exact Lies.nil _ _
  · by_cases hx : xs = []
    · subst hx
      obtain rfl : n = 0 := hl.symm
      exact .inl ⟨rfl, _, _, rfl, fun h => by cases h⟩
    · refine .inr ⟨hx, g, 0, cap, by rw [hl], (h0.lt g rfl).2, by omega, hcap, fun t ht => ?_⟩
      rw [Nat.zero_add, h0.cellAt t (by omega)]
      simp [ht]

theorem Lies.appendable {k : IntKind} {w : World} {v : Value} {xs : List Int} (h : Lies k w v xs) :
    ∃ (ao : Option Addr) (cap : Nat), v = .slice ao xs.length cap ∧ (ao = none → xs.length = 0 ∧ cap = 0) ∧ (∀ ad, ao = some ad → ∀ j u, (xs.map (Value.int k))[j]? = some u → w.cell? (ad.add j) = some u) := by
  rcases h with ⟨rfl, ao, cap, rfl, h0⟩ | ⟨_, b, off, cap, rfl, _, _, _, hc⟩
  · exact ⟨ao, cap, rfl, fun h => ⟨rfl, h0 h⟩, fun ad _ j u hu => by simp at hu⟩
  · refine ⟨_, cap, rfl, (fun h => by cases h), fun ad had j u hu => ?_⟩
    obtain rfl := Option.some.inj had
    have hj : j < xs.length := by
      have := (List.getElem?_eq_some_iff.1 hu).1
      simpa using this
    rw [Addr.add_lit, hc j hj]
    simp [hj] at hu ⊢
    exact hu

theorem Lies.shape {k : IntKind} {w : World} {v : Value} {xs : List Int} (h : Lies k w v xs) : ∃ (ao : Option Addr) (cap : Nat), v = .slice ao xs.length cap := by
  obtain ⟨ao, cap, e, _⟩ := h.appendable
  exact ⟨ao, cap, e⟩
end
section
open Go.RowKit

theorem info5 : (Tryz.prog.info? 5).map (fun i => (i.zero, i.size, i.bytes)) = some (some (.int .u8 0), 1, 1) := by kernel_rfl
end
section
open Go.RowKit

/-- Block p is a variable: these cells, of this type; none of them frozen. -/
def Box (w : World) (p : Nat) (cs : Array Value) (t : TypeId) : Prop := w.heap[p]? = some (.cells cs t (0, 0))
theorem Box.cell {w : World} {p : Nat} {cs : Array Value} {t : TypeId} (h : Box w p cs t) (i : Nat) (v : Value) (hv : cs[i]? = some v) : w.cell? ⟨p, i, none⟩ = some v := by
  rw [cell_of_row w p i cs t (0, 0) h]; exact hv
theorem Box.frozen {w : World} {p : Nat} {cs : Array Value} {t : TypeId} (h : Box w p cs t) (i : Nat) : w.frozen? ⟨p, i, none⟩ = false := by
  unfold World.frozen?
  rw [h]; simp
theorem Box.lt {w : World} {p : Nat} {cs : Array Value} {t : TypeId} (h : Box w p cs t) : p < w.heap.size := (Array.getElem?_eq_some_iff.1 h).1
/-- Nothing but the blocks of S (and new ones) is touched. -/
structure KeepBut (S : Nat → Prop) (w w' : World) : Prop where
  os : w'.os = w.os
  tape : w'.tape = w.tape
  output : w'.output = w.output
  size : w.heap.size ≤ w'.heap.size
  block : ∀ k, k < w.heap.size → ¬ S k → w'.heap[k]? = w.heap[k]?
theorem KeepBut.refl (S : Nat → Prop) (w : World) : KeepBut S w w := ⟨rfl, rfl, rfl, Nat.le_refl _, fun _ _ _ => rfl⟩
theorem KeepBut.trans {S S' : Nat → Prop} {a b c : World} (h : KeepBut S a b) (h' : KeepBut S' b c) (hs : ∀ k, k < a.heap.size → S' k → S k) : KeepBut S a c :=
  ⟨h'.os.trans h.os, h'.tape.trans h.tape, h'.output.trans h.output, Nat.le_trans h.size h'.size,
    fun k hk hS => (h'.block k (Nat.lt_of_lt_of_le hk h.size) (fun h2 => hS (hs k hk h2))).trans (h.block k hk hS)⟩
theorem KeepBut.mono {S S' : Nat → Prop} {w w' : World} (h : KeepBut S w w') (hs : ∀ k, S k → S' k) : KeepBut S' w w' :=
  ⟨h.os, h.tape, h.output, h.size, fun k hk hS => h.block k hk (fun h2 => hS (hs k h2))⟩
theorem KeepBut.of_below {w w' : World} (S : Nat → Prop) (h : Below w.heap.size w w') : KeepBut S w w' := ⟨h.os, h.tape, h.output, h.size, fun k hk _ => h.block k hk⟩
theorem KeepBut.below {S : Nat → Prop} {w w' : World} {B : Nat} (h : KeepBut S w w') (hB : B ≤ w.heap.size) (hs : ∀ k, S k → B ≤ k) : Below B w w' :=
  ⟨h.os, h.tape, h.output, h.size, fun k hk => h.block k (Nat.lt_of_lt_of_le hk hB) (fun h2 => Nat.lt_irrefl _ (Nat.lt_of_lt_of_le hk (hs k h2)))⟩
theorem KeepBut.setCell {S : Nat → Prop} {a w : World} (h : KeepBut S a w) {p : Addr} (hp : S p.block ∨ a.heap.size ≤ p.block) (u : Value) : KeepBut S a (w.setCell p u) := by
  refine ⟨h.os, h.tape, h.output, by simpa using h.size, fun k hk hS => ?_⟩
  have hne : k ≠ p.block := by
    intro e; subst e
    rcases hp with hp | hp
    · exact hS hp
    · omega
  rw [Below.heap_setCell w p u k hne]
  exact h.block k hk hS
theorem KeepBut.alloc {S : Nat → Prop} {a w : World} (h : KeepBut S a w) (o : Obj) : KeepBut S a (w.alloc o) :=
  ⟨h.os, h.tape, h.output, Nat.le_trans h.size (by simp), fun k hk hS => (Below.heap_alloc w o k (Nat.lt_of_lt_of_le hk h.size)).trans (h.block k hk hS)⟩
theorem KeepBut.drew {S : Nat → Prop} {a w : World} (h : KeepBut S a w) : KeepBut S a w.drew := ⟨h.os, h.tape, h.output, h.size, h.block⟩
theorem Box.keep {S : Nat → Prop} {w w' : World} {p : Nat} {cs : Array Value} {t : TypeId} (h : Box w p cs t) (hk : KeepBut S w w') (hS : ¬ S p) : Box w' p cs t :=
  (hk.block p h.lt hS).trans h
theorem Box.set {w : World} {p i : Nat} {cs : Array Value} {t : TypeId} {v : Value} (h : Box w p cs t) : Box (w.setCell ⟨p, i, none⟩ v) p (cs.setIfInBounds i v) t := by
  unfold Box at h ⊢
  simp [World.setCell, Array.getElem?_modify, h]
/-- An owned row lies in one block alone: so it is kept where that block is. -/
theorem owns_keep {S : Nat → Prop} {w w' : World} {base e size n : Nat} {v : Value} {xs : List Value} (h : w.ownsRow base e size v n xs) (hk : KeepBut S w w') (hS : ∀ g, v.ownBlock = some g → ¬ S g) : w'.ownsRow base e size v n xs := by
  obtain ⟨hl, h0 | ⟨g, cap, cur, rfl, hb, hh, h1, h2, h3, h4⟩⟩ := h
  · exact ⟨hl, .inl h0⟩
  · refine ⟨hl, .inr ⟨g, cap, cur, rfl, hb, ?_, h1, h2, h3, h4⟩⟩
    exact (hk.block g (Array.getElem?_eq_some_iff.1 hh).1 (hS g rfl)).trans hh
/-- A whole variable is loaded. -/
theorem wp_load_box {P : Program} {ops : Array Oper} {rest : List Oper} {op : Oper} {a : Act} {w : World} {Q : Exit → Act → World → Prop} {t t0 : TypeId} {d : TypeDesc} (hgd : op.guard = none) (x : Operand) (ho : op.op = .load t x)
    (p : Nat) (hx : a.eval x = .pointer (some ⟨p, 0, none⟩)) {cs : Array Value} (hb : Box w p cs t0) (hu : P.underlying t = some d) (hd : d.isRow = true) (hi : (P.info? t).map (·.size) = some cs.size)
    (h : wpList P ops Q rest (a.put op.dst (.agg cs)) w) : wpList P ops Q (op :: rest) a w := by
  have hr : w.rangeAt p 0 cs.toList := fun j v hv => by
    rw [Nat.zero_add]; exact hb.cell j v (by simpa using hv)
  exact wpList_load_mid hgd t x ho p 0 hx cs.toList d hr hu hd (by simpa using hi) (by simpa using h)
/-- A whole variable is stored. -/
theorem wp_store_box {P : Program} {ops : Array Oper} {rest : List Oper} {op : Oper} {a : Act} {w : World} {Q : Exit → Act → World → Prop} {t t0 : TypeId} (hgd : op.guard = none) (hdst : op.dst = none) (x y : Operand) (ho : op.op = .store t x y)
    (p : Nat) (hx : a.eval x = .pointer (some ⟨p, 0, none⟩)) {cs cs' : Array Value} (hy : a.eval y = .agg cs') (hb : Box w p cs t0) (hsz : cs.size = cs'.size) (hi : (P.info? t).map (·.size) = some cs'.size) (h1 : cs'.all (·.oneCell') = true)
    (h : ∀ w', Box w' p cs' t0 → KeepBut (fun k => k = p) w w' → wpList P ops Q rest a w') : wpList P ops Q (op :: rest) a w := by
  refine wpList_plain hgd fun K hK => ?_
  have hr := run_storeVar_row (P := P) w p t0 t cs cs' hb hi hsz h1
  unfold Oper.wp execOp
  simp only [ho, hx, hy, Instr.storeAt, Instr.sureAddr, Sem.run_bind, Sem.run_pure, Result.andThen_ok, hr]
  show K (a.put op.dst undef) _
  rw [hdst]
  refine hK _ _ (h _ ?_ ?_)
  · exact setRow_heap w p cs cs' t0 (0, 0) hb
  · exact ⟨rfl, rfl, rfl, by simp [World.setRow], fun k _ hS => setRow_other w p k cs' hS⟩
theorem box_new (w : World) (cs : Array Value) (t : TypeId) : Box (w.alloc (.cells cs t)) w.heap.size cs t := heap_alloc_last w _
/-- The result lies in a variable of its own. -/
theorem results_box {P : Program} {fn : Func} {q : Tmp} {t t0 : TypeId} {d : TypeDesc} (h : fn.results = #[.cell q t]) (tmps : Array Value) (w : World) (p : Nat) (hq : tmps.getD q undef = .pointer (some ⟨p, 0, none⟩)) {cs : Array Value} (hb : Box w p cs t0)
    (hu : P.underlying t = some d) (hd : d.isRow = true) (hi : (P.info? t).map (·.size) = some cs.size) : (results fn tmps).run P w = .ok (.agg cs) w := by
  have hr : w.rangeAt p 0 cs.toList := fun j v hv => by
    rw [Nat.zero_add]; exact hb.cell j v (by simpa using hv)
  have hl := run_loadVar_mid (P := P) w p 0 t cs.toList d hr hu hd (by simpa using hi)
  have hq' : tmps[q]?.getD undef = .pointer (some ⟨p, 0, none⟩) := by rw [← Array.getD_eq_getD_getElem?]; exact hq
  simp only [results, h]
  simp [hq', asAddr, hl]
end
section
open Go.RowKit

/-- 'append(v, c)', c one byte that lies in a new block. -/
theorem grown_keep {w w' : World} {v : Value} {S : Nat → Prop} (hg : w.grownBy w' v.ownBlock) (hS : ∀ g, v.ownBlock = some g → S g) : KeepBut S w w' :=
  ⟨hg.os, hg.tape, hg.output, hg.size, fun k hk hn => hg.block k hk (fun e => hn (hS k e.symm))⟩
end
end Go.Proofs.YtddflccjmigloaaGreat
