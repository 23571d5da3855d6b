/-
  Own texts put together: Lies, AppLies, Boxes, AppStr, Plain, Num, Texts, Bytes, RWriter, Fields, Write. Own work.
-/
import Derived.Test.YtiloagmkkhlfjaaGreatProg
import Derived.WalkKit
import Derived.WalkSpells
import Derived.WalkLawsBesides
import Derived.Handy
import Derived.OwnWalk
import Derived.Laws.BytesArg
import Derived.Maps.AppendAt
import Derived.Laws.AppendOwnNone
import Derived.Deep.DeepAppendWide
import Derived.Below
import Derived.Deep.WholeRow
import Derived.Deep.MidRow
import Derived.Lib.AppendStr
import Derived.Laws.BitsAllLaws
import Derived.Laws.Bits64
import Derived.Lib.TrailingZeros
import Derived.Lib.IndexBytes
namespace Go.Proofs.YtiloagmkkhlfjaaGreat
section
open Go.RowKit
theorem aA {p : Prop} (h : p) : Hid p := h
theorem jM {k : IntKind} {a b : Int} (h : a = b) : Ending.returned (.int k a) = .returned (.int k b) := by rw [h]
def cX (k : IntKind) (w : World) (v : Value) (xs : List Int) : Prop :=
 (xs = [] ∧ ∃ (ao : Option Addr) (cap : Nat), v = .slice ao 0 cap ∧ (ao = none → cap = 0)) ∨
 (xs ≠ [] ∧ ∃ b off cap : Nat, v = .slice (some ⟨b, off, none⟩) xs.length cap ∧ b < w.heap.size ∧ xs.length ≤ cap ∧ cap ≤ maxLen ∧
  ∀ t, t < xs.length → w.cell? ⟨b, off + t, none⟩ = some (.int k (xs.getD t 0)))
theorem cX.below {k : IntKind} {w w' : World} {v : Value} {xs : List Int} (hB : Below w.heap.size w w') (h : cX k w v xs) : cX k w' v xs := by
 rcases h with h | ⟨hx, b, off, cap, rfl, hb, hl, hm, hc⟩
 ·exact .inl h
 ·exact .inr ⟨hx, b, off, cap, rfl, Nat.lt_of_lt_of_le hb hB.size, hl, hm, fun t ht => (hB.cell (p := ⟨b, off + t, none⟩) hb).trans (hc t ht)⟩
theorem cX.nil (k : IntKind) (w : World) : cX k w (.slice none 0 0) [] := .inl ⟨rfl, none, 0, rfl, fun _ => rfl⟩
theorem cX.len {k : IntKind} {w : World} {v : Value} {xs : List Int} (h : cX k w v xs) : xs.length ≤ maxLen := by
 rcases h with ⟨rfl, _⟩ | ⟨_, b, off, cap, _, _, hl, hm, _⟩
 ·simp
 ·omega
theorem cX.of_own {k : IntKind} {w : World} {base e : Nat} {v : Value} {n : Nat} {xs : List Int} (h : w.ownsRow base e 1 v n (xs.map (Value.int k))) : cX k w v xs := by
 have hl : xs.length = n := by simpa using h.1
 have h0 := h
 obtain ⟨_, ⟨rfl, rfl⟩ | ⟨g, cap, cur, rfl, hg, hh, hn, hcap, hsz, htake⟩⟩ := h
 ·obtain rfl : xs = [] := List.eq_nil_of_length_eq_zero hl
  exact cX.nil _ _
 ·by_cases hx : xs = []
  ·subst hx
   obtain rfl : n = 0 := hl.symm
   exact .inl ⟨rfl, _, _, rfl, fun h => by cases h⟩
  ·refine .inr ⟨hx, g, 0, cap, by rw [hl], (h0.lt g rfl).2, by omega, hcap, fun t ht => ?_⟩
   rw [Nat.zero_add, h0.cellAt t (by omega)]
   simp [ht]
theorem cX.appendable {k : IntKind} {w : World} {v : Value} {xs : List Int} (h : cX k w v xs) :
  ∃ (ao : Option Addr) (cap : Nat), v = .slice ao xs.length cap ∧ (ao = none → xs.length = 0 ∧ cap = 0) ∧ (∀ ad, ao = some ad → ∀ j u, (xs.map (Value.int k))[j]? = some u → w.cell? (ad.add j) = some u) := by
 rcases h with ⟨rfl, ao, cap, rfl, h0⟩ | ⟨_, b, off, cap, rfl, _, _, _, hc⟩
 ·exact ⟨ao, cap, rfl, fun h => ⟨rfl, h0 h⟩, fun ad _ j u hu => by simp at hu⟩
 ·refine ⟨_, cap, rfl, (fun h => by cases h), fun ad had j u hu => ?_⟩
  obtain rfl := Option.some.inj had
  have hj : j < xs.length := by
   have := (List.getElem?_eq_some_iff.1 hu).1
   simpa using this
  rw [Addr.add_lit, hc j hj]
  simp [hj] at hu ⊢
  exact hu
theorem cX.shape {k : IntKind} {w : World} {v : Value} {xs : List Int} (h : cX k w v xs) : ∃ (ao : Option Addr) (cap : Nat), v = .slice ao xs.length cap := by
 obtain ⟨ao, cap, e, _⟩ := h.appendable
 exact ⟨ao, cap, e⟩
end
section
open Go.RowKit
theorem info5 : (Tryz.prog.info? 5).map (fun i => (i.zero, i.size, i.bytes)) = some (some (.int .u8 0), 1, 1) := by kernel_rfl
end
section
open Go.RowKit
def bZ (w : World) (p : Nat) (cs : Array Value) (t : TypeId) : Prop := w.heap[p]? = some (.cells cs t (0, 0))
theorem bZ.cell {w : World} {p : Nat} {cs : Array Value} {t : TypeId} (h : bZ w p cs t) (i : Nat) (v : Value) (hv : cs[i]? = some v) : w.cell? ⟨p, i, none⟩ = some v := by
 rw [cell_of_row w p i cs t (0, 0) h]; exact hv
theorem bZ.frozen {w : World} {p : Nat} {cs : Array Value} {t : TypeId} (h : bZ w p cs t) (i : Nat) : w.frozen? ⟨p, i, none⟩ = false := by
 unfold World.frozen?
 rw [h]; simp
theorem bZ.lt {w : World} {p : Nat} {cs : Array Value} {t : TypeId} (h : bZ w p cs t) : p < w.heap.size := (Array.getElem?_eq_some_iff.1 h).1
structure aC (S : Nat → Prop) (w w' : World) : Prop where
 os : w'.os = w.os
 tape : w'.tape = w.tape
 output : w'.output = w.output
 size : w.heap.size ≤ w'.heap.size
 block : ∀ k, k < w.heap.size → ¬ S k → w'.heap[k]? = w.heap[k]?
theorem aC.refl (S : Nat → Prop) (w : World) : aC S w w := ⟨rfl, rfl, rfl, Nat.le_refl _, fun _ _ _ => rfl⟩
theorem aC.trans {S S' : Nat → Prop} {a b c : World} (h : aC S a b) (h' : aC S' b c) (hs : ∀ k, k < a.heap.size → S' k → S k) : aC S a c :=
 ⟨h'.os.trans h.os, h'.tape.trans h.tape, h'.output.trans h.output, Nat.le_trans h.size h'.size,
  fun k hk hS => (h'.block k (Nat.lt_of_lt_of_le hk h.size) (fun h2 => hS (hs k hk h2))).trans (h.block k hk hS)⟩
theorem aC.mono {S S' : Nat → Prop} {w w' : World} (h : aC S w w') (hs : ∀ k, S k → S' k) : aC S' w w' :=
 ⟨h.os, h.tape, h.output, h.size, fun k hk hS => h.block k hk (fun h2 => hS (hs k h2))⟩
theorem aC.of_below {w w' : World} (S : Nat → Prop) (h : Below w.heap.size w w') : aC S w w' := ⟨h.os, h.tape, h.output, h.size, fun k hk _ => h.block k hk⟩
theorem aC.below {S : Nat → Prop} {w w' : World} {B : Nat} (h : aC S w w') (hB : B ≤ w.heap.size) (hs : ∀ k, S k → B ≤ k) : Below B w w' :=
 ⟨h.os, h.tape, h.output, h.size, fun k hk => h.block k (Nat.lt_of_lt_of_le hk hB) (fun h2 => Nat.lt_irrefl _ (Nat.lt_of_lt_of_le hk (hs k h2)))⟩
theorem aC.setCell {S : Nat → Prop} {a w : World} (h : aC S a w) {p : Addr} (hp : S p.block ∨ a.heap.size ≤ p.block) (u : Value) : aC S a (w.setCell p u) := by
 refine ⟨h.os, h.tape, h.output, by simpa using h.size, fun k hk hS => ?_⟩
 have hne : k ≠ p.block := by
  intro e; subst e
  rcases hp with hp | hp
  ·exact hS hp
  ·omega
 rw [Below.heap_setCell w p u k hne]
 exact h.block k hk hS
theorem aC.alloc {S : Nat → Prop} {a w : World} (h : aC S a w) (o : Obj) : aC S a (w.alloc o) :=
 ⟨h.os, h.tape, h.output, Nat.le_trans h.size (by simp), fun k hk hS => (Below.heap_alloc w o k (Nat.lt_of_lt_of_le hk h.size)).trans (h.block k hk hS)⟩
theorem aC.drew {S : Nat → Prop} {a w : World} (h : aC S a w) : aC S a w.drew := ⟨h.os, h.tape, h.output, h.size, h.block⟩
theorem bZ.keep {S : Nat → Prop} {w w' : World} {p : Nat} {cs : Array Value} {t : TypeId} (h : bZ w p cs t) (hk : aC S w w') (hS : ¬ S p) : bZ w' p cs t :=
 (hk.block p h.lt hS).trans h
theorem bZ.set {w : World} {p i : Nat} {cs : Array Value} {t : TypeId} {v : Value} (h : bZ w p cs t) : bZ (w.setCell ⟨p, i, none⟩ v) p (cs.setIfInBounds i v) t := by
 unfold bZ at h ⊢
 simp [World.setCell, Array.getElem?_modify, h]
theorem aJ {S : Nat → Prop} {w w' : World} {base e size n : Nat} {v : Value} {xs : List Value} (h : w.ownsRow base e size v n xs) (hk : aC S w w') (hS : ∀ g, v.ownBlock = some g → ¬ S g) : w'.ownsRow base e size v n xs := by
 obtain ⟨hl, h0 | ⟨g, cap, cur, rfl, hb, hh, h1, h2, h3, h4⟩⟩ := h
 ·exact ⟨hl, .inl h0⟩
 ·refine ⟨hl, .inr ⟨g, cap, cur, rfl, hb, ?_, h1, h2, h3, h4⟩⟩
  exact (hk.block g (Array.getElem?_eq_some_iff.1 hh).1 (hS g rfl)).trans hh
theorem dM {P : Program} {ops : Array Oper} {rest : List Oper} {op : Oper} {a : Act} {w : World} {Q : Exit → Act → World → Prop} {t t0 : TypeId} {d : TypeDesc} (hgd : op.guard = none) (x : Operand) (ho : op.op = .load t x)
  (p : Nat) (hx : a.eval x = .pointer (some ⟨p, 0, none⟩)) {cs : Array Value} (hb : bZ w p cs t0) (hu : P.underlying t = some d) (hd : d.isRow = true) (hi : (P.info? t).map (·.size) = some cs.size)
  (h : wpList P ops Q rest (a.put op.dst (.agg cs)) w) : wpList P ops Q (op :: rest) a w := by
 have hr : w.rangeAt p 0 cs.toList := fun j v hv => by
  rw [Nat.zero_add]; exact hb.cell j v (by simpa using hv)
 exact wpList_load_mid hgd t x ho p 0 hx cs.toList d hr hu hd (by simpa using hi) (by simpa using h)
theorem aP {P : Program} {ops : Array Oper} {rest : List Oper} {op : Oper} {a : Act} {w : World} {Q : Exit → Act → World → Prop} {t t0 : TypeId} (hgd : op.guard = none) (hdst : op.dst = none) (x y : Operand) (ho : op.op = .store t x y)
  (p : Nat) (hx : a.eval x = .pointer (some ⟨p, 0, none⟩)) {cs cs' : Array Value} (hy : a.eval y = .agg cs') (hb : bZ w p cs t0) (hsz : cs.size = cs'.size) (hi : (P.info? t).map (·.size) = some cs'.size) (h1 : cs'.all (·.oneCell') = true)
  (h : ∀ w', bZ w' p cs' t0 → aC (fun k => k = p) w w' → wpList P ops Q rest a w') : wpList P ops Q (op :: rest) a w := by
 refine wpList_plain hgd fun K hK => ?_
 have hr := run_storeVar_row (P := P) w p t0 t cs cs' hb hi hsz h1
 unfold Oper.wp execOp
 simp only [ho, hx, hy, Instr.storeAt, Instr.sureAddr, Sem.run_bind, Sem.run_pure, Result.andThen_ok, hr]
 show K (a.put op.dst undef) _
 rw [hdst]
 refine hK _ _ (h _ ?_ ?_)
 ·exact setRow_heap w p cs cs' t0 (0, 0) hb
 ·exact ⟨rfl, rfl, rfl, by simp [World.setRow], fun k _ hS => setRow_other w p k cs' hS⟩
theorem aN (w : World) (cs : Array Value) (t : TypeId) : bZ (w.alloc (.cells cs t)) w.heap.size cs t := heap_alloc_last w _
theorem eL {P : Program} {fn : Func} {q : Tmp} {t t0 : TypeId} {d : TypeDesc} (h : fn.results = #[.cell q t]) (tmps : Array Value) (w : World) (p : Nat) (hq : tmps.getD q undef = .pointer (some ⟨p, 0, none⟩)) {cs : Array Value} (hb : bZ w p cs t0)
  (hu : P.underlying t = some d) (hd : d.isRow = true) (hi : (P.info? t).map (·.size) = some cs.size) : (results fn tmps).run P w = .ok (.agg cs) w := by
 have hr : w.rangeAt p 0 cs.toList := fun j v hv => by
  rw [Nat.zero_add]; exact hb.cell j v (by simpa using hv)
 have hl := run_loadVar_mid (P := P) w p 0 t cs.toList d hr hu hd (by simpa using hi)
 have hq' : tmps[q]?.getD undef = .pointer (some ⟨p, 0, none⟩) := by rw [← Array.getD_eq_getD_getElem?]; exact hq
 simp only [results, h]
 simp [hq', asAddr, hl]
end
section
open Go.RowKit
theorem grown_keep {w w' : World} {v : Value} {S : Nat → Prop} (hg : w.grownBy w' v.ownBlock) (hS : ∀ g, v.ownBlock = some g → S g) : aC S w w' :=
 ⟨hg.os, hg.tape, hg.output, hg.size, fun k hk hn => hg.block k hk (fun e => hn (hS k e.symm))⟩
end
section
open Go.RowKit
theorem convert_empty (ao : Option Addr) (cap : Nat) (w : World) : (convert 144 9 (.slice ao 0 cap)).run Tryz.prog w = .ok (.string (strOfNums [])) w := by
 cases ao with
 | none => exact run_convert_bytes_nil (P := Tryz.prog) w 144 5 Tryz.underlying144 Tryz.underlying5 0 cap 9 Tryz.underlying9
 | some ad =>
  have hl : (loadCells ad 0).run Tryz.prog w = .ok (([] : List Int).map (Value.int .u8)).toArray w := by
   have := run_loadCells_list (P := Tryz.prog) w ad [] (fun j v hj => by simp at hj)
   simpa using this
  rw [run_convert_bytes_string w 144 9 5 _ 0 cap Tryz.underlying144 Tryz.underlying5 Tryz.underlying9, run_bytesToString w _ 0 cap [] hl]
  rfl
theorem cX.convert {w : World} {v : Value} {xs : List Int} (h : cX .u8 w v xs) : (convert 144 9 v).run Tryz.prog w = .ok (.string (strOfNums xs)) w := by
 rcases h with ⟨rfl, ao, cap, rfl, _⟩ | ⟨_, b, off, cap, rfl, _, _, _, hc⟩
 ·exact convert_empty ao cap w
 ·exact run_convert_bytes_arg w 144 5 Tryz.underlying144 Tryz.underlying5 b off xs.length cap xs rfl hc 9 Tryz.underlying9
end
section
open Go.RowKit
structure Fld where
 kind : Nat
 n : Nat
 s : ByteArray
 most : Int
def fld0 : Fld := ⟨0, 0, ⟨#[]⟩, 0⟩
def fcells (f : Fld) : Array Value := #[.int .u8 (f.kind : Nat), .int .u64 (f.n : Nat), .string f.s, .int .i64 f.most]
structure Fld.ok (f : Fld) : Prop where
 kind : f.kind < 256
 n : f.n < 18446744073709551616
 lo : -9223372036854775808 ≤ f.most
 hi : f.most ≤ 9223372036854775807
 s : f.s.size ≤ 9223372036854775807
def FLies (w : World) (v : Value) (fs : List Fld) : Prop :=
 (fs = [] ∧ ∃ (ao : Option Addr) (cap : Nat), v = .slice ao 0 cap ∧ (ao = none → cap = 0)) ∨
 (fs ≠ [] ∧ ∃ b off cap : Nat, v = .slice (some ⟨b, off, none⟩) fs.length cap ∧ b < w.heap.size ∧ fs.length ≤ cap ∧ cap ≤ maxLen ∧
  ∀ t, t < fs.length → ∀ j, j < 4 → w.cell? ⟨b, off + t * 4 + j, none⟩ = (fcells (fs.getD t fld0))[j]?)
theorem FLies.below {w w' : World} {v : Value} {fs : List Fld} {B : Nat} (hB : Below B w w') (hs : w.heap.size ≤ B) (h : FLies w v fs) : FLies w' v fs := by
 rcases h with h | ⟨hx, b, off, cap, rfl, hb, hl, hm, hc⟩
 ·exact .inl h
 ·exact .inr ⟨hx, b, off, cap, rfl, Nat.lt_of_lt_of_le hb hB.size, hl, hm, fun t ht j hj => (hB.cell (p := ⟨b, off + t * 4 + j, none⟩) (Nat.lt_of_lt_of_le hb hs)).trans (hc t ht j hj)⟩
theorem FLies.shape {w : World} {v : Value} {fs : List Fld} (h : FLies w v fs) : ∃ (ao : Option Addr) (cap : Nat), v = .slice ao fs.length cap ∧ fs.length ≤ cap ∧ fs.length ≤ maxLen := by
 rcases h with ⟨rfl, ao, cap, rfl, _⟩ | ⟨_, b, off, cap, rfl, _, hl, hm, _⟩
 ·exact ⟨ao, cap, rfl, by simp, by simp⟩
 ·exact ⟨_, cap, rfl, hl, Nat.le_trans hl hm⟩
theorem FLies.take {w : World} {ao : Option Addr} {cap k : Nat} {fs : List Fld} (h : FLies w (.slice ao fs.length cap) fs) (hk : k ≤ fs.length) : FLies w (.slice ao k cap) (fs.take k) := by
 rcases h with ⟨rfl, ao', cap', e, hn⟩ | ⟨hne, b, off, cap', e, hb, hl, hm, hc⟩
 ·cases e
  obtain rfl : k = 0 := by simpa using hk
  exact .inl ⟨by simp, ao, cap, rfl, hn⟩
 ·cases e
  by_cases h0 : k = 0
  ·subst h0
   exact .inl ⟨by simp, _, _, rfl, fun h => by cases h⟩
  ·have hlen : (fs.take k).length = k := by simp; omega
   refine .inr ⟨?_, b, off, cap, by rw [hlen], hb, by omega, hm, fun t ht j hj => ?_⟩
   ·intro e; rw [e] at hlen; simp at hlen; omega
   ·rw [hc t (by omega) j hj]
    have : t < k := by omega
    simp [List.getD, this]
end
end Go.Proofs.YtiloagmkkhlfjaaGreat
