/-
  Own texts put together: DkRow, DkOps, DkInner, DkProg. Own work.
-/
import Derived.Test.YtlegliimgjmphaaGreatG12
import Derived.ArgAppend
import Derived.Deep.QuietTactic
import Derived.BigQuiet
import Derived.Deep.RegionHeldLaw
namespace Go.Proofs.YtlegliimgjmphaaGreat
section
open Go.RowKit
theorem Lies.keep {k : IntKind} {S : Nat → Prop} {w w' : World} {v : Value} {xs : List Int} (h : Lies k w v xs) (hk : KeepBut S w w') (hS : ∀ g, v.ownBlock = some g → ¬ S g) : Lies k w' v xs := by
 rcases h with h | ⟨hx, b, off, cap, rfl, hb, hl, hm, hc⟩
 ·exact .inl h
 ·refine .inr ⟨hx, b, off, cap, rfl, Nat.lt_of_lt_of_le hb hk.size, hl, hm, fun t ht => ?_⟩
  rw [← hc t ht]
  exact World.cell?_of_block (hk.block b hb (hS b rfl))
theorem grown_keep7 {S : Nat → Prop} {w w' : World} {r : Option Nat} (hg : w.grownBy w' r) (h : ∀ k, r = some k → S k) : KeepBut S w w' :=
 ⟨hg.os, hg.tape, hg.output, hg.size, fun k hk hS => hg.block k hk (fun e => hS (h k e.symm))⟩
theorem owns_base7 {w : World} {b b' e size n : Nat} {v : Value} {xs : List Value} (h : w.ownsRow b e size v n xs) (hb : b' ≤ b) : w.ownsRow b' e size v n xs := by
 obtain ⟨hl, h0 | ⟨g, cap, cur, rfl, hg, r⟩⟩ := h
 ·exact ⟨hl, .inl h0⟩
 ·exact ⟨hl, .inr ⟨g, cap, cur, rfl, Nat.le_trans hb hg, r⟩⟩
def PRow (w : World) (v : Value) (rs : List Int) : Prop :=
 w.ownsRow 0 5 1 v rs.length (rs.map (Value.int .u8)) ∨ (Lies .u8 w v rs ∧ ∃ ao, v = .slice ao rs.length rs.length ∧ (ao = none → rs = []) ∧ ∀ a : Addr, ao = some a → a.block < w.heap.size)
theorem PRow.lies {w : World} {v : Value} {rs : List Int} (h : PRow w v rs) : Lies .u8 w v rs := by
 rcases h with h | h
 ·exact Lies.of_own h
 ·exact h.1
theorem PRow.nil (w : World) : PRow w (.slice none 0 0) [] := .inl (World.ownsRow_nil _ _ _ _)
theorem PRow.lt {w : World} {v : Value} {rs : List Int} (h : PRow w v rs) {g : Nat} (hg : v.ownBlock = some g) : g < w.heap.size := by
 rcases h with h | ⟨_, ao, rfl, _, h2⟩
 ·exact (h.lt g hg).2
 ·cases ao with
  | none => cases hg
  | some a => cases hg; exact h2 a rfl
theorem PRow.keep {S : Nat → Prop} {w w' : World} {v : Value} {rs : List Int} (h : PRow w v rs) (hk : KeepBut S w w') (hS : ∀ g, v.ownBlock = some g → ¬ S g) : PRow w' v rs := by
 rcases h with h | ⟨h1, ao, e, h2, h3⟩
 ·exact .inl (owns_keep h hk hS)
 ·exact .inr ⟨h1.keep hk hS, ao, e, h2, fun a ha => Nat.lt_of_lt_of_le (h3 a ha) hk.size⟩
theorem PRow.below {w w' : World} {v : Value} {rs : List Int} (h : PRow w v rs) (hB : Below w.heap.size w w') : PRow w' v rs := h.keep (KeepBut.of_below (fun _ => False) hB) (fun _ _ h => h)
theorem run_append_none7 (w : World) (ty : TypeId) (ao ao2 : Option Addr) (n cap cap2 : Nat) (hn : n ≤ cap) (h2 : ao2 = none → cap2 = 0) : (Builtin.append_ #[29, 29] ty #[.slice ao n cap, .slice ao2 0 cap2]).run Tryz.prog w = .ok (.slice ao n cap) w := by
 obtain ⟨i0, hi, hz0, hz1, hz2⟩ := info_parts info5
 have hf : (Builtin.firstCells i0.size 0 (.slice ao2 0 cap2)).run Tryz.prog w = .ok #[] w := by
  cases ao2 with
  | none => simp [Builtin.firstCells]
  | some a => exact run_firstCells_some (P := Tryz.prog) w i0.size 0 a 0 cap2 [] (by simp) (fun j u hj => by simp at hj)
 cases ao with
 | none => simp [Builtin.append_, run_underlying Tryz.underlying29, sizeOf, typeInfo, hi, Builtin.lenOf, hn, hf]
 | some a => simp [Builtin.append_, run_underlying Tryz.underlying29, sizeOf, typeInfo, hi, Builtin.lenOf, hn, hf, storeCells]
theorem append_prow {ops : Array Oper} {rest : List Oper} {o : Oper} {a : Act} {Q : Exit → Act → World → Prop} (w : World) (hgd : o.guard = none) (s x : Operand)
  (ho : o.op = .call { callee := .builtin .append, args := #[s, x], argTypes := #[29, 29] })
  (v vx : Value) (ys xs : List Int) (hs : a.eval s = v) (hrow : PRow w v ys) (hx : a.eval x = vx) (hL : Lies .u8 w vx xs)
  (hb : ys.length + xs.length ≤ 140737488355328)
  (h : ∀ v' w', PRow w' v' (ys ++ xs) → w.grownBy w' v.ownBlock → (v'.ownBlock = v.ownBlock ∨ ∀ g, v'.ownBlock = some g → w.heap.size ≤ g) → wpList Tryz.prog ops Q rest (a.put o.dst v') w') :
  wpList Tryz.prog ops Q (o :: rest) a w := by
 obtain ⟨i0, hi, hz0, hz1, hz2⟩ := info_parts info5
 by_cases hx0 : xs = []
 ·subst hx0
  obtain ⟨ao2, cap2, rfl, hn2, _⟩ := hL.appendable
  obtain ⟨ao, cap, hv⟩ := hrow.lies.shape
  subst hv
  have hcap := hrow.lies.cap
  have hrun := run_append_none7 w o.type ao ao2 ys.length cap cap2 hcap (fun h => (hn2 h).2)
  refine wpList_plain hgd fun K hK => ?_
  unfold Oper.wp
  simp [execOp, ho, resolve, invoke, builtin, hs, hx, hrun, Result.andThen]
  exact hK _ _ (h _ _ (by simpa using hrow) (World.grownBy.refl _ _) (.inl rfl))
 ·rcases hL with ⟨e, _⟩ | ⟨_, b, off, cap, rfl, _, _, _, hc⟩
  ·exact absurd e hx0
  have hnews : ∀ j u, (xs.map (Value.int .u8))[j]? = some u → w.cell? ((⟨b, off, none⟩ : Addr).add j) = some u := fun j u hu => by
   have hj : j < xs.length := by
    have := (List.getElem?_eq_some_iff.1 hu).1
    simpa using this
   rw [Addr.add_lit, hc j hj]
   simp [hj] at hu ⊢
   exact hu
  have hpos : 0 < xs.length := List.length_pos_iff.2 hx0
  rcases hrow with hown | ⟨hLy, ao, rfl, hne, hlt⟩
  ·exact wpList_append_own_at w hgd s x 29 ho 0 5 i0 (.int .u8 0) 1 1 Tryz.underlying29 hi hz0 hz1 hz2 rfl (by decide) v ys.length _ hs hown ⟨b, off, none⟩ xs.length cap (xs.map (Value.int .u8)) hx (by simp) hnews (ints_oneCell _ _)
    (by unfold maxLen; omega) (by omega) (Nat.zero_le _) (fun v' w' h1 h2 _ h4 => h v' w' (.inl (by simpa using h1)) h2 (h4.imp id (fun e g hg => by rw [e] at hg; cases hg; exact Nat.le_refl _)))
  ·obtain ⟨ao', cap', e, hnone, hcells⟩ := hLy.appendable
   cases e
   exact wpList_append_grows w hgd s x 29 ho 5 i0 (.int .u8 0) 1 1 Tryz.underlying29 hi hz0 hz1 hz2 rfl (by decide) ao ys.length ys.length (ys.map (Value.int .u8)) hs (fun h => hnone h) (by simp) (fun b' hb' j u hj => hcells b' hb' j u hj)
    ⟨b, off, none⟩ xs.length cap (xs.map (Value.int .u8)) hx (by simp) hnews (ints_oneCell _ _) (by omega) (by unfold maxLen; omega) (by omega)
    (fun v' w' h1 h2 => h v' w' (.inl (owns_any7 (by simpa using h1))) ⟨h2.os, h2.tape, h2.output, h2.size, fun k hk _ => h2.block k hk (by simp)⟩ (.inr fun g hg => (h1.lt g hg).1))
theorem run_three (w : World) (ao : Option Addr) (m cap s n : Nat) (hs : s ≤ n) (hn : n ≤ cap) : (Instr.sliceAt 29 (.slice ao m cap) (some (.int .i64 s)) (some (.int .i64 n)) (some (.int .i64 n))).run Tryz.prog w = .ok (.slice (if n = s then ao else ao.map (·.add (s * 1))) (n - s) (n - s)) w := by
 simp [Instr.sliceAt, Instr.slice, run_underlying Tryz.underlying29, Instr.sliceBounds, Instr.sliceBound, asIntOf]
 rw [if_pos hn, if_pos hs]
theorem PRow.three {w : World} {ao : Option Addr} {cap s n : Nat} {rs : List Int} (h : PRow w (.slice ao rs.length cap) rs) (hs : s ≤ n) (hn : n ≤ rs.length) :
  PRow w (.slice (if n = s then ao else ao.map (·.add (s * 1))) (n - s) (n - s)) ((rs.drop s).take (n - s)) ∧ (Value.slice (if n = s then ao else ao.map (·.add (s * 1))) (n - s) (n - s)).ownBlock = (Value.slice ao rs.length cap).ownBlock := by
 have hlen : ((rs.drop s).take (n - s)).length = n - s := by simp; omega
 have hadd : ∀ a : Addr, (a.add (s * 1)).block = a.block := fun a => by obtain ⟨b, o, sp⟩ := a; unfold Addr.add; split <;> rfl
 have hown : (Value.slice (if n = s then ao else ao.map (·.add (s * 1))) (n - s) (n - s)).ownBlock = (Value.slice ao rs.length cap).ownBlock := by
  cases ao with
  | none => split <;> rfl
  | some a =>
   split
   ·rfl
   ·exact congrArg some (hadd a)
 refine ⟨.inr ⟨?_, _, by rw [hlen], ?_, ?_⟩, hown⟩
 ·by_cases e : n = s
  ·subst e
   rw [if_pos rfl]
   refine .inl ⟨by simp, ao, 0, by simp, fun _ => rfl⟩
  ·rw [if_neg e]
   rcases h.lies with ⟨h0, _⟩ | ⟨_, b, off, cap', e2, hb, hl, hm, hc⟩
   ·subst h0; simp at hn; omega
   ·cases e2
    refine .inr ⟨fun e => by rw [e] at hlen; simp at hlen; omega, b, off + s, n - s, by rw [hlen]; simp [Addr.add_lit], hb, by omega, by omega, fun t ht => ?_⟩
    rw [Nat.add_assoc, hc (s + t) (by omega)]
    have h1 : t < n - s := by omega
    simp [List.getD, h1]
 ·intro hz
  by_cases e : n = s
  ·subst e; simp
  ·rw [if_neg e] at hz
   cases ao with
   | none =>
    obtain ⟨_, _, e2, h3, _⟩ := h.lies.appendable
    cases e2
    have := (h3 rfl).1
    omega
   | some a => cases hz
 ·intro a ha
  have : (Value.slice ao rs.length cap).ownBlock = some a.block := by rw [← hown, ha]; rfl
  exact h.lt this
structure Pd where
 f : Nat
 rs : List Int
 room : Nat
 base : Nat
 sure : Nat
 fuse : Int
 on : Bool
def pc (x : Pd) (vb : Value) : Array Value := #[.int .i64 (x.f : Int), vb, .bool true, .int .i64 (x.room : Int), .int .i64 (x.base : Int), .int .i64 (x.sure : Int), .int .i64 x.fuse, .bool x.on]
structure RB (w : World) (q : Nat) (vb : Value) (x : Pd) : Prop where
 box : Box w q (pc x vb) 95
 row : PRow w vb x.rs
 apart : vb.ownBlock ≠ some q
def usesB (q : Nat) (vb : Value) (k : Nat) : Prop := k = q ∨ vb.ownBlock = some k
theorem RB.keep {S : Nat → Prop} {w w' : World} {q : Nat} {vb : Value} {x : Pd} (h : RB w q vb x) (hk : KeepBut S w w') (hS : ∀ k, usesB q vb k → ¬ S k) : RB w' q vb x :=
 ⟨h.box.keep hk (hS q (.inl rfl)), h.row.keep hk (fun g hg => hS g (.inr hg)), h.apart⟩
theorem RB.below {w w' : World} {q : Nat} {vb : Value} {x : Pd} (h : RB w q vb x) (hB : Below w.heap.size w w') : RB w' q vb x := h.keep (KeepBut.of_below (fun _ => False) hB) (fun _ _ h => h)
theorem RB.drewN {w : World} {q n : Nat} {vb : Value} {x : Pd} (h : RB w q vb x) : RB (w.drewN n) q vb x := h.below (below_drewN7 w n)
theorem RB.at {w : World} {q : Nat} {vb : Value} {x : Pd} (h : RB w q vb x) : w.cell? ⟨q, 0, none⟩ = some (.int .i64 (x.f : Int)) ∧ w.cell? ⟨q, 1, none⟩ = some vb ∧ w.cell? ⟨q, 2, none⟩ = some (.bool true) ∧ w.cell? ⟨q, 3, none⟩ = some (.int .i64 (x.room : Int)) ∧ w.cell? ⟨q, 4, none⟩ = some (.int .i64 (x.base : Int)) ∧ w.cell? ⟨q, 5, none⟩ = some (.int .i64 (x.sure : Int)) ∧ w.cell? ⟨q, 6, none⟩ = some (.int .i64 x.fuse) ∧ w.cell? ⟨q, 7, none⟩ = some (.bool x.on) :=
 ⟨h.box.cell 0 _ rfl, h.box.cell 1 _ rfl, h.box.cell 2 _ rfl, h.box.cell 3 _ rfl, h.box.cell 4 _ rfl, h.box.cell 5 _ rfl, h.box.cell 6 _ rfl, h.box.cell 7 _ rfl⟩
theorem RB.put {w : World} {q i : Nat} {vb v : Value} {x x' : Pd} (h : RB w q vb x) (he : (pc x vb).setIfInBounds i v = pc x' vb) (hb : x'.rs = x.rs) : RB (w.setCell ⟨q, i, none⟩ v) q vb x' ∧ KeepBut (usesB q vb) w (w.setCell ⟨q, i, none⟩ v) := by
 have hk : KeepBut (fun k => k = q) w (w.setCell ⟨q, i, none⟩ v) := (KeepBut.refl (fun k => k = q) w).setCell (p := ⟨q, i, none⟩) (.inl rfl) _
 refine ⟨⟨?_, ?_, h.apart⟩, hk.mono (fun k e => .inl e)⟩
 ·have := h.box.set (i := i) (v := v)
  rw [he] at this
  exact this
 ·rw [hb]
  exact h.row.keep hk (fun g hg e => h.apart (by rw [hg, e]))
theorem RB.bytes {w : World} {q : Nat} {vb vb' : Value} {x : Pd} {ys : List Int} (hx : Box w q (pc x vb) 95) (ho : PRow w vb' ys) (hn : vb'.ownBlock ≠ some q) : RB (w.setCell ⟨q, 1, none⟩ vb') q vb' { x with rs := ys } ∧ KeepBut (usesB q vb) w (w.setCell ⟨q, 1, none⟩ vb') := by
 have hk : KeepBut (fun k => k = q) w (w.setCell ⟨q, 1, none⟩ vb') := (KeepBut.refl (fun k => k = q) w).setCell (p := ⟨q, 1, none⟩) (.inl rfl) _
 refine ⟨⟨hx.set (i := 1) (v := vb'), ?_, hn⟩, hk.mono (fun k e => .inl e)⟩
 exact ho.keep hk (fun g hg e => hn (by rw [hg, e]))
structure RBid (w w' : World) (q : Nat) (vb : Value) (x' : Pd) : Prop where
 st : ∃ vb', RB w' q vb' x' ∧ (vb'.ownBlock = vb.ownBlock ∨ ∀ g, vb'.ownBlock = some g → w.heap.size ≤ g)
 keep : KeepBut (usesB q vb) w w'
theorem RBid.same {w : World} {q : Nat} {vb : Value} {x : Pd} (h : RB w q vb x) : RBid w w q vb x := ⟨⟨vb, h, .inl rfl⟩, KeepBut.refl _ _⟩
theorem RBid.of_below {w w' : World} {q : Nat} {vb : Value} {x : Pd} (h : RB w q vb x) (hB : Below w.heap.size w w') : RBid w w' q vb x := ⟨⟨vb, h.below hB, .inl rfl⟩, KeepBut.of_below _ hB⟩
theorem RBid.before {w w1 w2 : World} {q : Nat} {vb : Value} {x : Pd} (hB : Below w.heap.size w w1) (h : RBid w1 w2 q vb x) : RBid w w2 q vb x := by
 obtain ⟨⟨vb', h1, h2⟩, hk⟩ := h
 exact ⟨⟨vb', h1, h2.imp id (fun h g hg => Nat.le_trans hB.size (h g hg))⟩, (KeepBut.of_below (usesB q vb) hB).trans hk (fun _ _ h => h)⟩
theorem usesB_new {w : World} {q : Nat} {vb vb' : Value} (h : vb'.ownBlock = vb.ownBlock ∨ ∀ g, vb'.ownBlock = some g → w.heap.size ≤ g) : ∀ k, k < w.heap.size → usesB q vb' k → usesB q vb k := by
 intro k hk hu
 rcases hu with hu | hu
 ·exact .inl hu
 ·rcases h with h | h
  ·exact .inr (by rw [← h]; exact hu)
  ·have := h k hu; omega
theorem RBid.then {w w1 w2 : World} {q : Nat} {vb : Value} {x x' : Pd} (h : RBid w w1 q vb x) (h2 : ∀ vb1, RB w1 q vb1 x → RBid w1 w2 q vb1 x') : RBid w w2 q vb x' := by
 obtain ⟨⟨v1, h1, hp⟩, hk⟩ := h
 obtain ⟨⟨v2, h3, hp2⟩, hk2⟩ := h2 v1 h1
 refine ⟨⟨v2, h3, ?_⟩, hk.trans hk2 (usesB_new hp)⟩
 rcases hp2 with e | e
 ·rw [e]; exact hp
 ·exact .inr fun g hg => Nat.le_trans hk.size (e g hg)
theorem RB.val {w : World} {q : Nat} {v v' : Value} {x x' : Pd} (h : RB w q v x) (h' : RB w q v' x') : v = v' := by
 have a1 := h.at.2.1
 have a2 := h'.at.2.1
 rw [a1] at a2
 exact Option.some.inj a2
theorem RBid.after {w w1 w2 : World} {q : Nat} {vb v1 : Value} {x x1 x' : Pd} (h : RBid w w1 q vb x) (r1 : RB w1 q v1 x1) (h2 : RBid w1 w2 q v1 x') : RBid w w2 q vb x' :=
 h.then fun vb1 r => by rw [r.val r1]; exact h2
theorem lies_far {w : World} {q : Nat} {vb v : Value} {x : Pd} {xs : List Int} (h : RB w q vb x) (hL : Lies .u8 w v xs) (hx : xs ≠ []) : v.ownBlock ≠ some q := by
 rcases hL with ⟨e, _⟩ | ⟨_, b, off, cap, rfl, _, _, _, hc⟩
 ·exact absurd e hx
 ·intro e
  obtain rfl : b = q := by simpa [Value.ownBlock] using e
  have h0 := hc 0 (List.length_pos_iff.2 hx)
  rw [Nat.add_zero, cell_of_row w b off _ _ (0, 0) h.box] at h0
  obtain ⟨ao, cp, hv⟩ := h.row.lies.shape
  subst hv
  unfold pc at h0
  match off, h0 with
  | 0, h0 => simp at h0
  | 1, h0 => simp at h0
  | 2, h0 => simp at h0
  | 3, h0 => simp at h0
  | 4, h0 => simp at h0
  | 5, h0 => simp at h0
  | 6, h0 => simp at h0
  | 7, h0 => simp at h0
  | n + 8, h0 => simp at h0
theorem lies_held {w w' : World} {q : Nat} {vb v : Value} {x : Pd} {xs : List Int} (h : RB w q vb x) (hL : Lies .u8 w v xs) (hk : KeepBut (fun k => k = q) w w') : Lies .u8 w' v xs := by
 by_cases hx : xs = []
 ·rcases hL with h | ⟨e, _⟩
  ·exact .inl h
  ·exact absurd hx e
 ·exact hL.keep hk (fun g hg e => lies_far h hL hx (by rw [hg, e]))
theorem RB.putid {w : World} {q i : Nat} {vb v : Value} {x x' : Pd} (h : RB w q vb x) (he : (pc x vb).setIfInBounds i v = pc x' vb) (hb : x'.rs = x.rs) : RBid w (w.setCell ⟨q, i, none⟩ v) q vb x' :=
 ⟨⟨vb, (h.put he hb).1, .inl rfl⟩, (h.put he hb).2⟩
end
section
open Go.RowKit
set_option maxRecDepth 100000 in
theorem dend_any (q : Nat) (vb : Value) (x : Pd) (w : World) (h : RB w q vb x) (hb : x.f + x.rs.length ≤ 200000000) :
  Calls Tryz.prog 54 #[.pointer (some ⟨q, 0, none⟩)] w fun e w' => e = .returned (.int .i64 ((x.f + x.rs.length : Nat) : Int)) ∧ ∃ m, w' = w.drewN m := by
 obtain ⟨m0, m1, m2, m3, m4, m5, m6, m7⟩ := h.at
 obtain ⟨ao, cap, hv⟩ := h.row.lies.shape
 subst hv
 clear h
 go_enter Tryz.func54, Tryz.ntmps54
 go_wp2
 go_quiet (fail)
 go_wp2
 go_ret
 exact ⟨ret_int (by omega), _, rfl⟩
set_option maxRecDepth 100000 in
theorem dspan_any (q : Nat) (vb : Value) (x : Pd) (s n : Nat) (w : World) (h : RB w q vb x) (hb : x.f + x.rs.length ≤ 200000000) (h1 : x.f ≤ s) (h2 : s ≤ n) (h3 : n ≤ x.f + x.rs.length) :
  Calls Tryz.prog 61 #[.pointer (some ⟨q, 0, none⟩), .int .i64 (s : Int), .int .i64 (n : Int)] w fun e w' => ∃ v', e = .returned v' ∧ PRow w' v' ((x.rs.drop (s - x.f)).take (n - s)) ∧ v'.ownBlock = vb.ownBlock ∧ ∃ m, w' = w.drewN m := by
 obtain ⟨m0, m1, m2, m3, m4, m5, m6, m7⟩ := h.at
 obtain ⟨ao, cap, hv⟩ := h.row.lies.shape
 subst hv
 have HR := hide h.row
 have hcap := h.row.lies.cap
 clear h
 obtain ⟨s', hs'⟩ : ∃ s', s' = s - x.f := ⟨_, rfl⟩
 obtain ⟨n', hn'⟩ : ∃ n', n' = n - x.f := ⟨_, rfl⟩
 have e1 : (s : Int) - (x.f : Int) = (s' : Int) := by omega
 have e2 : (n : Int) - (x.f : Int) = (n' : Int) := by omega
 obtain ⟨ao', hao⟩ : ∃ ao', ao' = if n' = s' then ao else ao.map (·.add (s' * 1)) := ⟨_, rfl⟩
 obtain ⟨k', hk'⟩ : ∃ k', k' = n' - s' := ⟨_, rfl⟩
 have HT : Hid (PRow w (.slice ao' k' k') ((x.rs.drop s').take k') ∧ (Value.slice ao' k' k').ownBlock = (Value.slice ao x.rs.length cap).ownBlock) := hide (by rw [hao, hk']; exact HR.out.three (s := s') (n := n') (by omega) (by omega))
 have hto : ∀ W, (Instr.sliceAt 29 (.slice ao x.rs.length cap) (some (.int .i64 s')) (some (.int .i64 n')) (some (.int .i64 n'))).run Tryz.prog W = .ok (.slice ao' k' k') W := fun W => by rw [hao, hk']; exact run_three W ao x.rs.length cap s' n' (by omega) (by omega)
 have HN : Hid (k' = n - s) := hide (by omega)
 have HS := hide hs'
 clear hs' hn' hao hk'
 go_enter Tryz.func61, Tryz.ntmps61
 go_wp2
 go_quiet (fail)
 go_wp2
 go_ret
 rw [← HS.out, ← HN.out]
 exact ⟨_, rfl, HT.out.1.below (below_drewN7 _ _), HT.out.2, _, rfl⟩
set_option maxRecDepth 100000 in
theorem dadd_any (q : Nat) (vb : Value) (x : Pd) (vx : Value) (xs : List Int) (w : World) (h : RB w q vb x) (hL : Lies .u8 w vx xs) (hb : x.rs.length + xs.length ≤ 100000000000000) :
  Calls Tryz.prog 56 #[.pointer (some ⟨q, 0, none⟩), vx] w fun e w' => e = .returned (.tuple #[]) ∧ RBid w w' q vb { x with rs := x.rs ++ xs } := by
 obtain ⟨m0, m1, m2, m3, m4, m5, m6, m7⟩ := h.at
 obtain ⟨ao, cap, hv⟩ := h.row.lies.shape
 obtain ⟨ao2, cap2, hvx⟩ := hL.shape
 subst hv
 subst hvx
 have HL := hide hL
 have HH := hide h
 have HR := hide h.row
 obtain ⟨rs, hrs⟩ : ∃ rs, rs = x.rs := ⟨_, rfl⟩
 obtain ⟨ys, hys⟩ : ∃ ys, ys = x.rs ++ xs := ⟨_, rfl⟩
 rw [← hys]
 have HYS := hide hys
 clear h hL hys
 go_enter Tryz.func56, Tryz.ntmps56
 go_wp2_with (at_builtin; refine append_prow _ rfl _ _ rfl _ _ x.rs xs rfl HR.out rfl HL.out (by omega) ?_; intro v1 w1 hr1 hg1 hp1; rw [← HYS.out] at hr1; have hk1 : KeepBut (fun k => (Value.slice ao x.rs.length cap).ownBlock = some k) w w1 := grown_keep7 hg1 (fun _ e => e); have hbx := HH.out.box.keep hk1 HH.out.apart; have hc1 := hbx.cell 1 _ rfl; have hfz := hbx.frozen 1; obtain ⟨ao1, cap1, hv1⟩ := hr1.lies.shape; subst hv1; have HR1 := hide hr1; have HK1 := hide hk1; have HP1 := hide hp1; have HX1 := hide hbx; clear hr1 hg1 hk1 hp1 hbx)
 go_end0
 have hne : (Value.slice ao1 ys.length cap1).ownBlock ≠ some q := by
  rcases HP1.out with e | e
  ·rw [e]; exact HH.out.apart
  ·intro e2
   have := e q e2
   have := HH.out.box.lt
   omega
 obtain ⟨q1, q2⟩ := RB.bytes HX1.out HR1.out hne
 refine ⟨rfl, ⟨_, q1, HP1.out⟩, ?_⟩
 exact (HK1.out.mono (fun k e => .inr e)).trans q2 (fun _ _ h => h)
set_option maxRecDepth 100000 in
set_option maxHeartbeats 800000 in
theorem dhold_keep (q : Nat) (vb : Value) (x : Pd) (s n : Nat) (w : World) (h : RB w q vb x) (hb : x.f + x.rs.length ≤ 200000000) (h1 : x.f ≤ s) (h2 : s ≤ n) (h3 : n ≤ x.f + x.rs.length) :
  Calls Tryz.prog 55 #[.pointer (some ⟨q, 0, none⟩), .int .i64 (s : Int), .int .i64 (n : Int)] w fun e w' => e = .returned (.tuple #[]) ∧ RBid w w' q vb { x with f := s, rs := (x.rs.drop (s - x.f)).take (n - s) } ∧ KeepBut (fun k => k = q) w w' := by
 obtain ⟨m0, m1, m2, m3, m4, m5, m6, m7⟩ := h.at
 have HH := hide h
 have CE := hide (dend_any q vb x w h hb)
 obtain ⟨ao, cap, hv⟩ := h.row.lies.shape
 subst hv
 obtain ⟨ys, hys⟩ : ∃ ys, ys = (x.rs.drop (s - x.f)).take (n - s) := ⟨_, rfl⟩
 rw [← hys]
 have CS := fun (W : World) (hW : RB W q (.slice ao x.rs.length cap) x) => dspan_any q _ x s n W hW hb h1 h2 h3
 rw [← hys] at CS
 have HS := hide CS
 have HYS := hide hys
 clear h CS hys
 obtain ⟨en, hen⟩ : ∃ en, en = x.f + x.rs.length := ⟨_, rfl⟩
 rw [← hen] at CE
 by_cases hs : s = x.f
 ·subst hs
  have d1 : ((x.f : Int) == (x.f : Int)) = true := by simp
  go_enter Tryz.func55, Tryz.ntmps55
  go_wp2_with fail
  refine CE.out.mono ?_
  rintro e w1 ⟨rfl, m, hw1⟩
  have hB1 : Below w.heap.size w w1 := hw1 ▸ below_drewN7 w m
  have HR1 := hide (HH.out.below hB1)
  have HB1 := hide hB1
  clear hw1 hB1 CE m0 m1 m2 m3 m4 m5 m6 m7
  obtain ⟨m0, m1, m2, m3, m4, m5, m6, m7⟩ := HR1.out.at
  by_cases hn : n = en
  ·have d2 : ((n : Int) == (en : Int)) = true := by simp [hn]
   have HE : Hid (ys = x.rs) := hide (by rw [HYS.out, Nat.sub_self, List.drop_zero, List.take_of_length_le (by omega)])
   go_wp2_with fail
   (try simp only [Exit.inBlock, Exit.then]); refine bodyPost_ret (results_none rfl _ _ _) rfl ?_
   rw [HE.out]
   exact ⟨rfl, RBid.of_below HH.out HB1.out, KeepBut.of_below _ HB1.out⟩
  ·have d2 : ((n : Int) == (en : Int)) = false := by simp; omega
   have C2 := hide (HS.out _ HR1.out)
   go_wp2_with fail
   refine C2.out.mono ?_
   rintro e w2 ⟨v2, rfl, hr2, ho2, m2, hw2⟩
   have hB2 : Below w1.heap.size w1 w2 := hw2 ▸ below_drewN7 w1 m2
   have HR2 := hide (HR1.out.below hB2)
   obtain ⟨ao2, cap2, hv2⟩ := hr2.lies.shape
   subst hv2
   have HP2 := hide hr2
   have HO2 := hide ho2
   have HB2 := hide (HB1.out.trans (hB2.mono HB1.out.size))
   clear hr2 ho2 hw2 hB2 C2 m0 m1 m2 m3 m4 m5 m6 m7
   obtain ⟨m0, m1, m2, m3, m4, m5, m6, m7⟩ := HR2.out.at
   have z0 := HR2.out.box.frozen 0
   have z1 := HR2.out.box.frozen 1
   go_wp2_with fail
   go_end0
   obtain ⟨q1, k1⟩ := RB.bytes HR2.out.box HP2.out (by rw [HO2.out]; exact HH.out.apart)
   obtain ⟨q2, k2⟩ := q1.put (i := 0) (v := .int .i64 (x.f : Int)) (x' := { x with rs := ys }) rfl rfl
   refine ⟨rfl, ⟨⟨_, q2, .inl HO2.out⟩, ?_⟩, ((KeepBut.of_below (fun k => k = q) HB2.out).setCell (p := ⟨q, 1, none⟩) (.inl rfl) _).setCell (p := ⟨q, 0, none⟩) (.inl rfl) _⟩
   exact ((KeepBut.of_below _ HB2.out).trans k1 (fun _ _ h => h)).trans k2 (fun k _ h => h.imp id (fun e => by rw [← HO2.out]; exact e))
 ·have d1 : ((s : Int) == (x.f : Int)) = false := by simp; omega
  have C2 := hide (HS.out _ HH.out)
  go_enter Tryz.func55, Tryz.ntmps55
  go_wp2_with fail
  refine C2.out.mono ?_
  rintro e w2 ⟨v2, rfl, hr2, ho2, m2, hw2⟩
  have hB2 : Below w.heap.size w w2 := hw2 ▸ below_drewN7 w m2
  have HR2 := hide (HH.out.below hB2)
  obtain ⟨ao2, cap2, hv2⟩ := hr2.lies.shape
  subst hv2
  have HP2 := hide hr2
  have HO2 := hide ho2
  have HB2 := hide hB2
  clear hr2 ho2 hw2 hB2 C2 CE m0 m1 m2 m3 m4 m5 m6 m7
  obtain ⟨m0, m1, m2, m3, m4, m5, m6, m7⟩ := HR2.out.at
  have z0 := HR2.out.box.frozen 0
  have z1 := HR2.out.box.frozen 1
  go_wp2_with fail
  go_end0
  obtain ⟨q1, k1⟩ := RB.bytes HR2.out.box HP2.out (by rw [HO2.out]; exact HH.out.apart)
  obtain ⟨q2, k2⟩ := q1.put (i := 0) (v := .int .i64 (s : Int)) (x' := { x with f := s, rs := ys }) rfl rfl
  refine ⟨rfl, ⟨⟨_, q2, .inl HO2.out⟩, ?_⟩, ((KeepBut.of_below (fun k => k = q) HB2.out).setCell (p := ⟨q, 1, none⟩) (.inl rfl) _).setCell (p := ⟨q, 0, none⟩) (.inl rfl) _⟩
  exact ((KeepBut.of_below _ HB2.out).trans k1 (fun _ _ h => h)).trans k2 (fun k _ h => h.imp id (fun e => by rw [← HO2.out]; exact e))
theorem dhold_any (q : Nat) (vb : Value) (x : Pd) (s n : Nat) (w : World) (h : RB w q vb x) (hb : x.f + x.rs.length ≤ 200000000) (h1 : x.f ≤ s) (h2 : s ≤ n) (h3 : n ≤ x.f + x.rs.length) :
  Calls Tryz.prog 55 #[.pointer (some ⟨q, 0, none⟩), .int .i64 (s : Int), .int .i64 (n : Int)] w fun e w' => e = .returned (.tuple #[]) ∧ RBid w w' q vb { x with f := s, rs := (x.rs.drop (s - x.f)).take (n - s) } :=
 (dhold_keep q vb x s n w h hb h1 h2 h3).mono fun _ _ h => ⟨h.1, h.2.1⟩
end
section
open Go.RowKit
def fuseI (d : Dk) : Int := if d.armed then (d.fuse : Int) else -1
def pdOf (d : Dk) : Pd := ⟨d.fbase, d.bs.drop d.fbase, d.room, d.base, d.fend, fuseI d, !d.off⟩
structure PB (w : World) (q : Nat) (vb : Value) (d : Dk) : Prop where
 rb : RB w q vb (pdOf d)
 ok : d.Ok
 le : d.bs.length ≤ 100100000
def PD (w : World) (q : Nat) (F : Nat → Prop) (d : Dk) : Prop := ∃ vb, PB w q vb d ∧ ∀ k, F k ↔ usesB q vb k
theorem pd_len {d : Dk} (h : d.Ok) : d.fbase + (d.bs.drop d.fbase).length = d.bs.length := by
 have := h.b1
 have := h.b2
 simp; omega
theorem did_of {w w' : World} {q : Nat} {F : Nat → Prop} {vb : Value} {d' : Dk} (hF : ∀ k, F k ↔ usesB q vb k) (h : RBid w w' q vb (pdOf d')) (hok : d'.Ok) (hl : d'.bs.length ≤ 100100000) : Did PD w w' q F d' := by
 obtain ⟨⟨vb', h1, hp⟩, hk⟩ := h
 refine ⟨usesB q vb', ⟨vb', ⟨h1, hok, hl⟩, fun k => Iff.rfl⟩, hk.mono (fun k => (hF k).2), fun k hu => ?_⟩
 rcases Nat.lt_or_ge k w.heap.size with hlt | hge
 ·exact .inl ((hF k).2 (usesB_new hp k hlt hu))
 ·exact .inr hge
theorem given_any (q : Nat) (vb : Value) (x : Pd) (w : World) (h : RB w q vb x) :
  Calls Tryz.prog 44 #[.pointer (some ⟨q, 0, none⟩)] w fun e w' => e = .returned (.bool true) ∧ w' = w := by
 obtain ⟨m0, m1, m2, m3, m4, m5, m6, m7⟩ := h.at
 clear h
 go_enter Tryz.func44, Tryz.ntmps44
 go_wp2
 go_ret
 exact ⟨rfl, rfl⟩
theorem ready_any (q : Nat) (vb : Value) (x : Pd) (w : World) (h : RB w q vb x) :
  Calls Tryz.prog 59 #[.pointer (some ⟨q, 0, none⟩)] w fun e w' => e = .returned (.int .i64 (if x.on then 0 else 10)) ∧ w' = w := by
 obtain ⟨m0, m1, m2, m3, m4, m5, m6, m7⟩ := h.at
 have C := hide (given_any q vb x w h)
 clear h
 cases ho : x.on
 ·rw [ho] at m7
  go_enter Tryz.func59, Tryz.ntmps59
  go_wp2_with fail
  refine C.out.mono ?_
  rintro e w1 ⟨rfl, rfl⟩
  go_wp2_with fail
  go_ret
  exact ⟨rfl, rfl⟩
 ·rw [ho] at m7
  go_enter Tryz.func59, Tryz.ntmps59
  go_wp2_with fail
  refine C.out.mono ?_
  rintro e w1 ⟨rfl, rfl⟩
  go_wp2_with fail
  go_ret
  exact ⟨rfl, rfl⟩
theorem dbase_any (q : Nat) (vb : Value) (x : Pd) (w : World) (h : RB w q vb x) :
  Calls Tryz.prog 35 #[.pointer (some ⟨q, 0, none⟩)] w fun e w' => e = .returned (.int .i64 (x.base : Int)) ∧ w' = w := by
 obtain ⟨m0, m1, m2, m3, m4, m5, m6, m7⟩ := h.at
 have C := hide (given_any q vb x w h)
 clear h
 go_enter Tryz.func35, Tryz.ntmps35
 go_wp2_with fail
 refine C.out.mono ?_
 rintro e w1 ⟨rfl, rfl⟩
 go_wp2_with fail
 go_ret
 exact ⟨rfl, rfl⟩
theorem droom_any (q : Nat) (vb : Value) (x : Pd) (w : World) (h : RB w q vb x) :
  Calls Tryz.prog 65 #[.pointer (some ⟨q, 0, none⟩)] w fun e w' => e = .returned (.int .i64 (x.room : Int)) ∧ w' = w := by
 obtain ⟨m0, m1, m2, m3, m4, m5, m6, m7⟩ := h.at
 have C := hide (given_any q vb x w h)
 clear h
 go_enter Tryz.func65, Tryz.ntmps65
 go_wp2_with fail
 refine C.out.mono ?_
 rintro e w1 ⟨rfl, rfl⟩
 go_wp2_with fail
 go_ret
 exact ⟨rfl, rfl⟩
theorem don_any (q : Nat) (vb : Value) (x : Pd) (w : World) (h : RB w q vb x) :
  Calls Tryz.prog 23 #[.pointer (some ⟨q, 0, none⟩)] w fun e w' => e = .returned (.bool x.on) ∧ w' = w := by
 obtain ⟨m0, m1, m2, m3, m4, m5, m6, m7⟩ := h.at
 have C := hide (given_any q vb x w h)
 clear h
 go_enter Tryz.func23, Tryz.ntmps23
 go_wp2_with fail
 refine C.out.mono ?_
 rintro e w1 ⟨rfl, rfl⟩
 go_wp2_with fail
 go_ret
 exact ⟨rfl, rfl⟩
theorem dforced_any (q : Nat) (vb : Value) (x : Pd) (w : World) (h : RB w q vb x) :
  Calls Tryz.prog 63 #[.pointer (some ⟨q, 0, none⟩)] w fun e w' => e = .returned (.tuple #[.int .i64 (x.f : Int), .int .i64 (x.sure : Int)]) ∧ ∃ m, w' = w.drewN m := by
 obtain ⟨m0, m1, m2, m3, m4, m5, m6, m7⟩ := h.at
 have C := hide (given_any q vb x w h)
 clear h
 go_enter Tryz.func63, Tryz.ntmps63
 go_wp2_with fail
 refine C.out.mono ?_
 rintro e w1 ⟨rfl, rfl⟩
 go_wp2_with fail
 go_quiet (fail)
 go_wp2_with fail
 go_ret2
 exact ⟨rfl, _, rfl⟩
theorem dEnd_any (q : Nat) (vb : Value) (x : Pd) (w : World) (h : RB w q vb x) (hb : x.f + x.rs.length ≤ 200000000) :
  Calls Tryz.prog 64 #[.pointer (some ⟨q, 0, none⟩)] w fun e w' => e = .returned (.int .i64 ((x.f + x.rs.length : Nat) : Int)) ∧ ∃ m, w' = w.drewN m := by
 have C := hide (given_any q vb x w h)
 have C2 := hide (dend_any q vb x w h hb)
 clear h
 obtain ⟨en, hen⟩ : ∃ en, en = x.f + x.rs.length := ⟨_, rfl⟩
 rw [← hen] at C2 ⊢
 go_enter Tryz.func64, Tryz.ntmps64
 go_wp2_with fail
 refine C.out.mono ?_
 rintro e w1 ⟨rfl, rfl⟩
 go_wp2_with fail
 refine C2.out.mono ?_
 rintro e w2 ⟨rfl, hw2⟩
 have HW := hide hw2
 clear hw2
 go_wp2_with fail
 go_ret
 exact ⟨ret_int (by omega), HW.out⟩
set_option maxRecDepth 100000 in
theorem dleft_any (q : Nat) (vb : Value) (x : Pd) (w : World) (h : RB w q vb x) (hb : x.f + x.rs.length ≤ 200000000) (hr : x.room ≤ 65536) :
  Calls Tryz.prog 62 #[.pointer (some ⟨q, 0, none⟩)] w fun e w' => e = .returned (.int .i64 ((x.room : Int) - (x.rs.length : Int))) ∧ ∃ m, w' = w.drewN m := by
 obtain ⟨m0, m1, m2, m3, m4, m5, m6, m7⟩ := h.at
 have C := hide (given_any q vb x w h)
 have C2 : Hid (∀ n, Calls Tryz.prog 54 #[.pointer (some ⟨q, 0, none⟩)] (w.drewN n) fun e w' => e = .returned (.int .i64 ((x.f + x.rs.length : Nat) : Int)) ∧ ∃ m, w' = (w.drewN n).drewN m) := hide (fun n => dend_any q vb x (w.drewN n) h.drewN hb)
 clear h
 obtain ⟨en, hen⟩ : ∃ en, en = x.f + x.rs.length := ⟨_, rfl⟩
 rw [← hen] at C2
 go_enter Tryz.func62, Tryz.ntmps62
 go_wp2_with fail
 refine C.out.mono ?_
 rintro e w1 ⟨rfl, rfl⟩
 go_wp2_with fail
 go_quiet ((go_at_call 54; exact Calls.quiet_of (C2.out _)))
 go_wp2_with fail
 go_ret
 exact ⟨ret_int (by omega), _, rfl⟩
set_option maxRecDepth 100000 in
set_option maxHeartbeats 800000 in
theorem within_any (q : Nat) (vb : Value) (d : Dk) (to : Int) (w : World) (h : PB w q vb d) :
  Calls Tryz.prog 88 #[.pointer (some ⟨q, 0, none⟩), .int .i64 to] w fun e w' => e = .returned (.int .i64 (cutA d to)) ∧ ∃ m, w' = w.drewN m := by
 have hpl := pd_len h.ok
 have hle := h.le
 obtain ⟨m0, m1, m2, m3, m4, m5, m6, m7⟩ := h.rb.at
 have C := hide (ready_any q vb _ w h.rb)
 have C2 := hide (dend_any q vb _ w h.rb (by show d.fbase + (d.bs.drop d.fbase).length ≤ _; omega))
 have e2 : (pdOf d).f + (pdOf d).rs.length = d.bs.length := hpl
 rw [e2] at C2
 have m4' : w.cell? ⟨q, 4, none⟩ = some (.int .i64 (d.base : Int)) := m4
 clear h e2 hpl m0 m1 m2 m3 m4 m5 m6 m7
 cases ho : d.off
 ·have hon : (if (pdOf d).on then (0 : Int) else 10) = 0 := by show (if !d.off then (0 : Int) else 10) = 0; rw [ho]; rfl
  rw [hon] at C
  by_cases h1 : to < (d.base : Int)
  ·have HI : Hid (d.inB to = false) := hide (by unfold Dk.inB; rw [decide_eq_false (by omega)]; rfl)
   have HE : Hid (cutA d to = 1) := hide (by unfold cutA; rw [ho, HI.out]; rfl)
   have d1 : decide (to < (d.base : Int)) = true := decide_eq_true h1
   clear h1
   go_enter Tryz.func88, Tryz.ntmps88
   go_wp2_with fail
   refine C.out.mono ?_
   rintro e w1 ⟨rfl, rfl⟩
   go_wp2_with fail
   go_ret
   exact ⟨ret_int HE.out.symm, 0, rfl⟩
  ·have d1 : decide (to < (d.base : Int)) = false := decide_eq_false h1
   go_enter Tryz.func88, Tryz.ntmps88
   go_wp2_with fail
   refine C.out.mono ?_
   rintro e w1 ⟨rfl, rfl⟩
   go_wp2_with fail
   refine C2.out.mono ?_
   rintro e w2 ⟨rfl, hw2⟩
   have HW := hide hw2
   clear hw2 C2 C
   by_cases h2 : to > (d.bs.length : Int)
   ·have HI : Hid (d.inB to = false) := hide (by unfold Dk.inB; rw [decide_eq_false (show ¬ to ≤ (d.bs.length : Int) by omega), Bool.and_false])
    have HE : Hid (cutA d to = 1) := hide (by unfold cutA; rw [ho, HI.out]; rfl)
    have d2 : decide (to > (d.bs.length : Int)) = true := decide_eq_true h2
    clear h1 h2
    go_wp2_with fail
    go_ret
    exact ⟨ret_int HE.out.symm, HW.out⟩
   ·have d2 : decide (to > (d.bs.length : Int)) = false := decide_eq_false h2
    have HI : Hid (d.inB to = true) := hide (by unfold Dk.inB; rw [decide_eq_true (show (d.base : Int) ≤ to by omega), decide_eq_true (show to ≤ (d.bs.length : Int) by omega)]; rfl)
    have HE : Hid (cutA d to = 0) := hide (by unfold cutA; rw [ho, HI.out]; rfl)
    clear h1 h2
    go_wp2_with fail
    go_ret
    exact ⟨ret_int HE.out.symm, HW.out⟩
 ·have hon : (if (pdOf d).on then (0 : Int) else 10) = 10 := by show (if !d.off then (0 : Int) else 10) = 10; rw [ho]; rfl
  rw [hon] at C
  have HE : Hid (cutA d to = 10) := hide (by unfold cutA; rw [ho]; rfl)
  go_enter Tryz.func88, Tryz.ntmps88
  go_wp2_with fail
  refine C.out.mono ?_
  rintro e w1 ⟨rfl, rfl⟩
  go_wp2_with fail
  go_ret
  exact ⟨ret_int HE.out.symm, 0, rfl⟩
set_option maxRecDepth 100000 in
set_option maxHeartbeats 800000 in
theorem dforce_any (q : Nat) (vb : Value) (x : Pd) (w : World) (h : RB w q vb x) (hb : x.f + x.rs.length ≤ 200000000) (h1 : x.f ≤ x.base) (h2 : x.base ≤ x.f + x.rs.length) :
  Calls Tryz.prog 57 #[.pointer (some ⟨q, 0, none⟩)] w fun e w' => e = .returned (.tuple #[]) ∧ RBid w w' q vb { x with f := x.base, rs := x.rs.drop (x.base - x.f), sure := x.f + x.rs.length } := by
 obtain ⟨m0, m1, m2, m3, m4, m5, m6, m7⟩ := h.at
 have HH := hide h
 have HBd : Hid (Below w.heap.size w w.drew) := hide (Below.refl _ _).drew
 have HRd := hide (h.below HBd.out)
 have C1 := hide (dend_any q vb x _ HRd.out hb)
 have C2 : Hid (∀ W, RB W q vb x → Calls Tryz.prog 55 #[.pointer (some ⟨q, 0, none⟩), .int .i64 (x.base : Int), .int .i64 ((x.f + x.rs.length : Nat) : Int)] W fun e w' => e = .returned (.tuple #[]) ∧ RBid W w' q vb { x with f := x.base, rs := (x.rs.drop (x.base - x.f)).take (x.f + x.rs.length - x.base) }) := hide (fun W hW => dhold_any q vb x x.base (x.f + x.rs.length) W hW hb h1 h2 (Nat.le_refl _))
 have ht : (x.rs.drop (x.base - x.f)).take (x.f + x.rs.length - x.base) = x.rs.drop (x.base - x.f) := List.take_of_length_le (by simp; omega)
 rw [ht] at C2
 have hlen : x.base + (x.rs.drop (x.base - x.f)).length = x.f + x.rs.length := by simp; omega
 obtain ⟨ys, hys⟩ : ∃ ys, ys = x.rs.drop (x.base - x.f) := ⟨_, rfl⟩
 rw [← hys] at C2 hlen ⊢
 obtain ⟨en, hen⟩ : ∃ en, en = x.f + x.rs.length := ⟨_, rfl⟩
 rw [← hen] at C1 C2 hlen ⊢
 have HLE := hide hlen
 have hen2 : en ≤ 200000000 := by omega
 clear h ht hys hen hlen hb h1 h2
 go_enter Tryz.func57, Tryz.ntmps57
 go_wp2_with fail
 go_region_held (fun w' => w'.cell? ⟨q, 4, none⟩ = some (.int .i64 (x.base : Int))) (go_keep) (first
  | (go_at_call 54; refine C1.out.mono ?_; rintro e w1 ⟨rfl, m, hw1⟩; have hB1 : Below w.heap.size w w1 := HBd.out.trans (hw1 ▸ below_drewN7 w.drew m); have n4 := (HH.out.below hB1).at.2.2.2.2.1; have C3 := hide (C2.out w1 (HH.out.below hB1)); have HB1 := hide hB1; clear hw1 hB1)
  | (go_at_call 55; refine C3.out.mono ?_; rintro e w2 ⟨rfl, h2⟩; have H2 := hide (RBid.before HB1.out h2); have o4 : w2.cell? ⟨q, 4, none⟩ = some (.int .i64 (x.base : Int)) := (by obtain ⟨⟨v2, r2, _⟩, _⟩ := h2; exact r2.at.2.2.2.2.1); clear h2))
 obtain ⟨⟨v2, r2, p2⟩, k2⟩ := H2.out
 have HR2 := hide r2
 have C4 := hide (dend_any q v2 _ w2 r2 (by show x.base + ys.length ≤ _; rw [HLE.out]; exact hen2))
 have e4 : ({ x with f := x.base, rs := ys } : Pd).f + ({ x with f := x.base, rs := ys } : Pd).rs.length = en := HLE.out
 rw [e4] at C4
 clear r2 p2 k2 e4
 go_wp2_with fail
 refine C4.out.mono ?_
 rintro e w3 ⟨rfl, m, hw3⟩
 have hB3 : Below w2.heap.size w2 w3 := hw3 ▸ below_drewN7 w2 m
 have HR3 := hide (HR2.out.below hB3)
 have HB3 := hide hB3
 have z5 := HR3.out.box.frozen 5
 obtain ⟨n0, n1, n2, n3, n4, n5, n6, n7⟩ := HR3.out.at
 clear hw3 hB3 C4
 go_wp2_with fail
 go_end0
 refine ⟨rfl, H2.out.then fun vb1 r1 => ?_⟩
 refine RBid.before HB3.out ?_
 exact (r1.below HB3.out).putid (i := 5) (v := .int .i64 (en : Int)) rfl rfl
end
section
open Go.RowKit
set_option maxRecDepth 100000 in
theorem dnew_ok (room : Int) (w : World) (h : newOk room = true) :
  Calls Tryz.prog 9 #[.int .i64 room] w fun e w' => ∃ q F, e = .returned (.tuple #[.pointer (some ⟨q, 0, none⟩), .int .i64 0]) ∧ PD w' q F (newD room.toNat) ∧ (∀ k, F k → w.heap.size ≤ k) ∧ Below w.heap.size w w' := by
 have hr : 1 ≤ room ∧ room ≤ 65536 := by unfold newOk at h; simpa using h
 have d1 : decide (room < 1) = false := decide_eq_false (by omega)
 have d2 : decide (room > 65536) = false := decide_eq_false (by omega)
 have HR := hide hr
 clear h hr
 go_enter Tryz.func9, Tryz.ntmps9
 go_wp2
 go_ret2
 have hr := HR.out
 have hc : pc (pdOf (newD room.toNat)) (.slice none 0 0) = #[.int .i64 0, .slice none 0 0, .bool true, .int .i64 room, .int .i64 0, .int .i64 0, .int .i64 (-1), .bool true] := by
  have : ((room.toNat : Nat) : Int) = room := by omega
  simp [pc, pdOf, newD, fuseI, this]
 refine ⟨w.heap.size, usesB w.heap.size (.slice none 0 0), rfl, ⟨.slice none 0 0, ⟨⟨?_, PRow.nil _, fun e => by cases e⟩, newD_ok _ (by omega) (by omega), Nat.zero_le _⟩, fun k => Iff.rfl⟩, fun k hk => ?_, (Below.refl _ _).alloc (Nat.le_refl _) _⟩
 ·rw [hc]; exact box_new w _ _
 ·rcases hk with hk | hk
  ·exact Nat.le_of_eq hk.symm
  ·cases hk
theorem dnew_no (room : Int) (w : World) (h : newOk room = false) :
  Calls Tryz.prog 9 #[.int .i64 room] w fun e w' => e = .returned (.tuple #[.pointer none, .int .i64 1]) ∧ Below w.heap.size w w' := by
 by_cases h1 : room < 1
 ·have d1 : decide (room < 1) = true := decide_eq_true h1
  clear h h1
  go_enter Tryz.func9, Tryz.ntmps9
  go_wp2
  go_ret2
  exact ⟨rfl, Below.refl _ _⟩
 ·have d1 : decide (room < 1) = false := decide_eq_false h1
  have d2 : decide (room > 65536) = true := decide_eq_true (by unfold newOk at h; simp at h; omega)
  clear h h1
  go_enter Tryz.func9, Tryz.ntmps9
  go_wp2
  go_ret2
  exact ⟨rfl, Below.refl _ _⟩
theorem on_of {d : Dk} {b : Bool} (h : d.off = b) : (if (pdOf d).on then (0 : Int) else 10) = if b then 10 else 0 := by
 show (if !d.off then (0 : Int) else 10) = _
 rw [h]
 cases b <;> rfl
set_option maxRecDepth 100000 in
set_option maxHeartbeats 1600000 in
theorem dappend_any {F : Nat → Prop} (q : Nat) (vb : Value) (d : Dk) (vx : Value) (xs : List Int) (w : World) (h : PB w q vb d) (hF : ∀ k, F k ↔ usesB q vb k) (hL : Lies .u8 w vx xs) (h8 : ∀ c ∈ xs, 0 ≤ c ∧ c < 256) (hd : d.bs.length ≤ 100000000) :
  Calls Tryz.prog 87 #[.pointer (some ⟨q, 0, none⟩), vx] w fun e w' => e = .returned (.tuple #[.int .i64 (appA d xs).1, .int .i64 (appA d xs).2]) ∧ Did PD w w' q F (appD d xs) := by
 have hpl := pd_len h.ok
 have hful := h.ok.full
 have hok := h.ok
 have hr2 := hok.r2
 have HH := hide h.rb
 have C := hide (ready_any q vb _ w h.rb)
 have hbn : (pdOf d).f + (pdOf d).rs.length ≤ 200000000 := by show d.fbase + (d.bs.drop d.fbase).length ≤ _; omega
 have CL := hide (dleft_any q vb _ w h.rb hbn hr2)
 have el : ((pdOf d).room : Int) - ((pdOf d).rs.length : Int) = ((d.left : Nat) : Int) := by
  show (d.room : Int) - ((d.bs.drop d.fbase).length : Int) = _
  unfold Dk.left
  omega
 rw [el] at CL
 have HOK := hide hok
 have hfl : d.fbase ≤ d.bs.length := Nat.le_trans hok.b1 hok.b2
 have HL := hide hL
 obtain ⟨ao2, cap2, hvx⟩ := hL.shape
 subst hvx
 clear h hL el hok
 cases ho : d.off
 ·rw [on_of ho] at C
  by_cases hl : d.left < xs.length
  ·have HE : Hid (appA d xs = (0, 9)) := hide (by unfold appA; rw [ho, if_neg (by simp), if_pos hl])
   have HD : Hid (appD d xs = d) := hide (by unfold appD; rw [ho, if_neg (by simp), if_pos hl])
   have d1 : decide ((xs.length : Int) > ((d.left : Nat) : Int)) = true := decide_eq_true (by omega)
   generalize d.left = lf at *
   go_enter Tryz.func87, Tryz.ntmps87
   go_wp2_with fail
   refine C.out.mono ?_
   rintro e w1 ⟨rfl, rfl⟩
   go_wp2_with fail
   refine CL.out.mono ?_
   rintro e w2 ⟨rfl, m, hw2⟩
   have HB2 : Hid (Below w1.heap.size w1 w2) := hide (hw2 ▸ below_drewN7 w1 m)
   clear hw2
   go_wp2_with fail
   go_ret2
   rw [HE.out, HD.out]
   exact ⟨rfl, did_of hF (RBid.of_below HH.out HB2.out) HOK.out (by omega)⟩
  ·have HE : Hid (appA d xs = ((d.bs.length : Int), 0)) := hide (by unfold appA; rw [ho, if_neg (by simp), if_neg hl])
   have HD : Hid (appD d xs = { d with bs := d.bs ++ xs }) := hide (by unfold appD; rw [ho, if_neg (by simp), if_neg hl])
   have hok2 := appD_ok HOK.out xs h8
   rw [HD.out] at hok2
   have HO2 := hide hok2
   have HP : Hid (({ pdOf d with rs := (pdOf d).rs ++ xs } : Pd) = pdOf { d with bs := d.bs ++ xs }) := hide (by
    show ({ pdOf d with rs := d.bs.drop d.fbase ++ xs } : Pd) = _
    unfold pdOf fuseI
    simp only
    rw [List.drop_append_of_le_length hfl])
   have hlx : d.bs.length + xs.length ≤ 100100000 := by have hl' := hl; unfold Dk.left at hl'; omega
   have d1 : decide ((xs.length : Int) > ((d.left : Nat) : Int)) = false := decide_eq_false (by omega)
   generalize d.left = lf at *
   clear hok2
   go_enter Tryz.func87, Tryz.ntmps87
   go_wp2_with fail
   refine C.out.mono ?_
   rintro e w1 ⟨rfl, rfl⟩
   go_wp2_with fail
   refine CL.out.mono ?_
   rintro e w2 ⟨rfl, m, hw2⟩
   have hB2 : Below w1.heap.size w1 w2 := hw2 ▸ below_drewN7 w1 m
   have HR2 := hide (HH.out.below hB2)
   have HB2 := hide hB2
   have C2 := hide (dend_any q vb _ w2 HR2.out hbn)
   have e2 : (pdOf d).f + (pdOf d).rs.length = d.bs.length := hpl
   rw [e2] at C2
   clear hw2 hB2 CL C e2
   go_wp2_with fail
   refine C2.out.mono ?_
   rintro e w3 ⟨rfl, m3, hw3⟩
   have hB3 : Below w2.heap.size w2 w3 := hw3 ▸ below_drewN7 w2 m3
   have HB3 := hide (HB2.out.trans (hB3.mono HB2.out.size))
   have C3 := hide (dadd_any q vb _ _ xs w3 (HR2.out.below hB3) (HL.out.below (HB2.out.trans (hB3.mono HB2.out.size))) (by show (d.bs.drop d.fbase).length + xs.length ≤ _; omega))
   clear hw3 hB3 C2 HB2 HR2
   go_wp2_with fail
   refine C3.out.mono ?_
   rintro e w4 ⟨rfl, h4⟩
   rw [HP.out] at h4
   have H4 := hide (RBid.before HB3.out h4)
   clear h4 C3
   go_wp2_with fail
   go_ret2
   rw [HE.out, HD.out]
   exact ⟨rfl, did_of hF H4.out HO2.out (by simpa using hlx)⟩
 ·rw [on_of ho] at C
  have HE : Hid (appA d xs = (0, 10)) := hide (by unfold appA; rw [ho]; rfl)
  have HD : Hid (appD d xs = d) := hide (by unfold appD; rw [ho]; rfl)
  clear CL
  go_enter Tryz.func87, Tryz.ntmps87
  go_wp2_with fail
  refine C.out.mono ?_
  rintro e w1 ⟨rfl, rfl⟩
  go_wp2_with fail
  go_ret2
  rw [HE.out, HD.out]
  exact ⟨rfl, did_of hF (RBid.same HH.out) HOK.out (by omega)⟩
set_option maxRecDepth 100000 in
set_option maxHeartbeats 1600000 in
theorem dForce_any {F : Nat → Prop} (q : Nat) (vb : Value) (d : Dk) (w : World) (h : PB w q vb d) (hF : ∀ k, F k ↔ usesB q vb k) :
  Calls Tryz.prog 67 #[.pointer (some ⟨q, 0, none⟩)] w fun e w' => e = .returned (.int .i64 (forA d)) ∧ Did PD w w' q F (forD d) := by
 have hpl := pd_len h.ok
 have hle := h.le
 have hok := h.ok
 have hfu := hok.fu
 have HH := hide h.rb
 have HOK := hide hok
 have hb1 := hok.b1
 have hb2 := hok.b2
 have C := hide (ready_any q vb _ w h.rb)
 have HOF := hide (forD_ok hok)
 obtain ⟨m0, m1, m2, m3, m4, m5, m6, m7⟩ := h.rb.at
 have m6' : w.cell? ⟨q, 6, none⟩ = some (.int .i64 (fuseI d)) := m6
 have z6 := h.rb.box.frozen 6
 have z7 := h.rb.box.frozen 7
 clear h hok m0 m1 m2 m3 m4 m5 m6
 have HF0 : Hid (∀ fu : Int, ∀ W v, RB W q v { pdOf d with fuse := fu } → Calls Tryz.prog 57 #[.pointer (some ⟨q, 0, none⟩)] W fun e w' => e = .returned (.tuple #[]) ∧ RBid W w' q v { pdOf d with fuse := fu, f := d.base, rs := d.bs.drop d.base, sure := d.bs.length }) := hide (fun fu W v hW => by
  have := dforce_any q v _ W hW (by show d.fbase + (d.bs.drop d.fbase).length ≤ _; omega) hb1 (by show d.base ≤ d.fbase + (d.bs.drop d.fbase).length; omega)
  refine this.mono fun e w' ⟨he, hr⟩ => ⟨he, ?_⟩
  have e1 : (d.bs.drop d.fbase).drop (d.base - d.fbase) = d.bs.drop d.base := by rw [List.drop_drop]; congr 1; omega
  have e2 : ({ ({ pdOf d with fuse := fu } : Pd) with f := d.base, rs := (d.bs.drop d.fbase).drop (d.base - d.fbase), sure := d.fbase + (d.bs.drop d.fbase).length } : Pd) = { pdOf d with fuse := fu, f := d.base, rs := d.bs.drop d.base, sure := d.bs.length } := by rw [e1, hpl]
  rw [← e2]
  exact hr)
 cases ho : d.off
 ·rw [on_of ho] at C
  cases ha : d.armed
  ·have HE : Hid (forA d = 0) := hide (by unfold forA; rw [ho, ha]; rfl)
   have hfi : fuseI d = -1 := by unfold fuseI; rw [ha]; rfl
   have HD : Hid (({ pdOf d with fuse := fuseI d, f := d.base, rs := d.bs.drop d.base, sure := d.bs.length } : Pd) = pdOf (forD d)) := hide (by unfold forD; rw [ho, ha]; simp [pdOf, fuseI, ho, ha])
   have HLL : Hid ((forD d).bs.length ≤ 100100000) := hide (by unfold forD; rw [ho, ha]; simpa using hle)
   rw [hfi] at m6'
   have C1 := hide (HF0.out (fuseI d) w vb HH.out)
   go_enter Tryz.func67, Tryz.ntmps67
   go_wp2_with fail
   refine C.out.mono ?_
   rintro e w1 ⟨rfl, rfl⟩
   go_wp2_with fail
   refine C1.out.mono ?_
   rintro e w2 ⟨rfl, h2⟩
   rw [HD.out] at h2
   have H2 := hide h2
   clear h2 C1
   go_wp2_with fail
   go_ret
   exact ⟨ret_int HE.out.symm, did_of hF H2.out HOF.out HLL.out⟩
  ·have hfi : fuseI d = (d.fuse : Int) := by unfold fuseI; rw [ha]; rfl
   by_cases hz : d.fuse = 0
   ·have HE : Hid (forA d = 10) := hide (by unfold forA; rw [ho, ha, hz]; rfl)
    have HD : Hid (({ pdOf d with on := false } : Pd) = pdOf (forD d)) := hide (by unfold forD; rw [ho, ha, hz]; simp [pdOf, fuseI, ha, hz])
    have HLL : Hid ((forD d).bs.length ≤ 100100000) := hide (by unfold forD; rw [ho, ha, hz]; simpa using hle)
    rw [hfi, hz] at m6'
    clear hz
    go_enter Tryz.func67, Tryz.ntmps67
    go_wp2_with fail
    refine C.out.mono ?_
    rintro e w1 ⟨rfl, rfl⟩
    go_wp2_with fail
    go_ret
    refine ⟨ret_int HE.out.symm, did_of hF ?_ HOF.out HLL.out⟩
    rw [← HD.out]
    exact HH.out.putid (i := 7) (v := .bool false) rfl rfl
   ·have HE : Hid (forA d = 0) := hide (by unfold forA; rw [ho, ha]; simp [hz])
    have HD : Hid (({ pdOf d with fuse := (d.fuse : Int) - 1, f := d.base, rs := d.bs.drop d.base, sure := d.bs.length } : Pd) = pdOf (forD d)) := hide (by unfold forD; rw [ho, ha]; simp [pdOf, fuseI, ho, ha, hz]; omega)
    have HLL : Hid ((forD d).bs.length ≤ 100100000) := hide (by unfold forD; rw [ho, ha]; simpa [hz] using hle)
    rw [hfi] at m6'
    have hn : ((d.fuse : Int) == 0) = false := by simp; omega
    have hn1 : ((d.fuse : Int) == -1) = false := by simp
    obtain ⟨fm, hfm⟩ : ∃ fm : Int, fm = (d.fuse : Int) - 1 := ⟨_, rfl⟩
    have HFM := hide hfm
    go_enter Tryz.func67, Tryz.ntmps67
    go_wp2_with fail
    refine C.out.mono ?_
    rintro e w1 ⟨rfl, rfl⟩
    go_wp2_with fail
    obtain ⟨q1, k1⟩ := HH.out.put (i := 6) (v := .int .i64 ((d.fuse : Int) - 1)) (x' := { pdOf d with fuse := (d.fuse : Int) - 1 }) rfl rfl
    have HQ1 := hide q1
    have HK1 := hide k1
    refine (HF0.out _ _ _ q1).mono ?_
    rintro e w2 ⟨rfl, h2⟩
    rw [HD.out] at h2
    have H2 : Hid (RBid w1 w2 q vb (pdOf (forD d))) := hide (RBid.then (x := { pdOf d with fuse := (d.fuse : Int) - 1 }) ⟨⟨vb, HQ1.out, .inl rfl⟩, HK1.out⟩ (fun vb1 r1 => by
     obtain ⟨⟨v2, r2, p2⟩, kk⟩ := h2
     have e1 : vb1 = vb := by
      have a1 := r1.at.2.1
      have a2 := HQ1.out.at.2.1
      rw [a1] at a2
      exact Option.some.inj a2
     subst e1
     exact ⟨⟨v2, r2, p2⟩, kk⟩))
    clear h2 q1 k1
    go_wp2_with fail
    go_ret
    exact ⟨ret_int HE.out.symm, did_of hF H2.out HOF.out HLL.out⟩
 ·rw [on_of ho] at C
  have HE : Hid (forA d = 10) := hide (by unfold forA; rw [ho]; rfl)
  have HD : Hid (forD d = d) := hide (by unfold forD; rw [ho]; rfl)
  go_enter Tryz.func67, Tryz.ntmps67
  go_wp2_with fail
  refine C.out.mono ?_
  rintro e w1 ⟨rfl, rfl⟩
  go_wp2_with fail
  go_ret
  rw [HD.out]
  exact ⟨ret_int HE.out.symm, did_of hF (RBid.same HH.out) HOK.out hle⟩
set_option maxRecDepth 100000 in
set_option maxHeartbeats 1600000 in
theorem dCut_any {F : Nat → Prop} (q : Nat) (vb : Value) (d : Dk) (to : Int) (w : World) (h : PB w q vb d) (hF : ∀ k, F k ↔ usesB q vb k) :
  Calls Tryz.prog 68 #[.pointer (some ⟨q, 0, none⟩), .int .i64 to] w fun e w' => e = .returned (.int .i64 (cutA d to)) ∧ Did PD w w' q F (cutD d to) := by
 have hle := h.le
 have HH := hide h.rb
 have HOK := hide h.ok
 have C := hide (within_any q vb d to w h)
 have HOF := hide (cutD_ok h.ok to)
 clear h
 obtain ⟨ca, hca⟩ : ∃ ca, ca = cutA d to := ⟨_, rfl⟩
 rw [← hca] at C ⊢
 go_enter Tryz.func68, Tryz.ntmps68
 go_wp2_with fail
 refine C.out.mono ?_
 rintro e w1 ⟨rfl, m, hw1⟩
 have hB1 : Below w.heap.size w w1 := hw1 ▸ below_drewN7 w m
 have HB1 := hide hB1
 have z4 := (HH.out.below hB1).box.frozen 4
 obtain ⟨m0, m1, m2, m3, m4, m5, m6, m7⟩ := (HH.out.below hB1).at
 clear hw1 hB1 C m0 m1 m2 m3 m5 m6 m7
 by_cases hz' : ca = 0
 ·have hz : cutA d to = 0 := by rw [← hca, hz']
  have hi : d.off = false ∧ d.inB to = true := by
   unfold cutA at hz
   cases ho : d.off
   ·rw [ho] at hz
    cases hb : d.inB to
    ·rw [hb] at hz; simp at hz
    ·exact ⟨rfl, rfl⟩
   ·rw [ho] at hz; simp at hz
  obtain ⟨n, hn, _, _⟩ := inB_nat hi.2
  have HD : Hid (({ pdOf d with base := n } : Pd) = pdOf (cutD d to)) := hide (by unfold cutD; rw [hi.1, hi.2, hn]; simp [pdOf, fuseI, hi.1])
  have HLL : Hid ((cutD d to).bs.length ≤ 100100000) := hide (by unfold cutD; rw [hi.1, hi.2]; simpa using hle)
  subst hz'
  subst hn
  clear hi hz hca
  go_wp2_with fail
  go_ret
  refine ⟨rfl, did_of hF ?_ HOF.out HLL.out⟩
  rw [← HD.out]
  exact RBid.before HB1.out ((HH.out.below HB1.out).putid (i := 4) (v := .int .i64 (n : Int)) rfl rfl)
 ·have HD : Hid (cutD d to = d) := hide (by
   have hz : cutA d to ≠ 0 := by rw [← hca]; exact hz'
   unfold cutA at hz
   unfold cutD
   cases ho : d.off
   ·rw [ho] at hz
    cases hb : d.inB to
    ·rfl
    ·rw [hb] at hz; simp at hz
   ·rfl)
  have hn : (ca == 0) = false := by simpa using hz'
  clear hca hz'
  go_wp2_with fail
  go_ret
  rw [HD.out]
  exact ⟨rfl, did_of hF (RBid.of_below HH.out HB1.out) HOK.out hle⟩
set_option maxRecDepth 100000 in
set_option maxHeartbeats 1600000 in
theorem dTrim_any {F : Nat → Prop} (q : Nat) (vb : Value) (d : Dk) (to : Int) (w : World) (h : PB w q vb d) (hF : ∀ k, F k ↔ usesB q vb k) :
  Calls Tryz.prog 70 #[.pointer (some ⟨q, 0, none⟩), .int .i64 to] w fun e w' => e = .returned (.int .i64 (cutA d to)) ∧ Did PD w w' q F (triD d to) := by
 have hle := h.le
 have hpl := pd_len h.ok
 have HH := hide h.rb
 have HOK := hide h.ok
 have hb1 := h.ok.b1
 have C := hide (within_any q vb d to w h)
 have HOF := hide (triD_ok h.ok to)
 clear h
 obtain ⟨ca, hca⟩ : ∃ ca, ca = cutA d to := ⟨_, rfl⟩
 rw [← hca] at C ⊢
 go_enter Tryz.func70, Tryz.ntmps70
 go_wp2_with fail
 refine C.out.mono ?_
 rintro e w1 ⟨rfl, m, hw1⟩
 have hB1 : Below w.heap.size w w1 := hw1 ▸ below_drewN7 w m
 have HB1 := hide hB1
 obtain ⟨m0, m1, m2, m3, m4, m5, m6, m7⟩ := (HH.out.below hB1).at
 clear hw1 hB1 C m1 m2 m3 m4 m6 m7
 by_cases hz' : ca = 0
 ·have hz : cutA d to = 0 := by rw [← hca, hz']
  have hi : d.off = false ∧ d.inB to = true := by
   unfold cutA at hz
   cases ho : d.off
   ·rw [ho] at hz
    cases hb : d.inB to
    ·rw [hb] at hz; simp at hz
    ·exact ⟨rfl, rfl⟩
   ·rw [ho] at hz; simp at hz
  obtain ⟨n, hn, hn1, hn2⟩ := inB_nat hi.2
  have HD : Hid (({ pdOf d with rs := (d.bs.drop d.fbase).take (n - d.fbase), sure := min d.fend n } : Pd) = pdOf (triD d to)) := hide (by
   unfold triD; rw [hi.1, hi.2, hn]
   simp only [Bool.false_eq_true, if_false, if_true, Int.toNat_natCast]
   simp only [pdOf, fuseI, hi.1]
   rw [← List.drop_take])
  have HLL : Hid ((triD d to).bs.length ≤ 100100000) := hide (by unfold triD; rw [hi.1, hi.2]; simp; omega)
  subst hz'
  subst hn
  have HBd : Hid (Below w.heap.size w w1.drew) := hide HB1.out.drew
  have C1 := hide (dhold_any q vb (pdOf d) d.fbase n w1.drew (HH.out.below HBd.out) (by show d.fbase + (d.bs.drop d.fbase).length ≤ _; omega) (Nat.le_refl _) (by omega) (by show n ≤ d.fbase + (d.bs.drop d.fbase).length; omega))
  have e1 : ({ pdOf d with f := d.fbase, rs := ((pdOf d).rs.drop (d.fbase - (pdOf d).f)).take (n - d.fbase) } : Pd) = { pdOf d with rs := (d.bs.drop d.fbase).take (n - d.fbase) } := by
   show ({ pdOf d with f := d.fbase, rs := ((d.bs.drop d.fbase).drop (d.fbase - d.fbase)).take (n - d.fbase) } : Pd) = _
   rw [Nat.sub_self, List.drop_zero]
   rfl
  rw [e1] at C1
  obtain ⟨ys, hys⟩ : ∃ ys, ys = (d.bs.drop d.fbase).take (n - d.fbase) := ⟨_, rfl⟩
  rw [← hys] at C1 HD
  clear hi hz e1 hys hca
  have m0' : w1.cell? ⟨q, 0, none⟩ = some (.int .i64 (d.fbase : Int)) := m0
  clear m0
  go_wp2_with fail
  go_region_held (fun w' => w'.cell? ⟨q, 0, none⟩ = some (.int .i64 (d.fbase : Int))) (go_keep) (first
   | (go_at_call 55; refine C1.out.mono ?_; rintro e w2 ⟨rfl, h2⟩; have H2 := hide (RBid.before HBd.out h2); have o0 : w2.cell? ⟨q, 0, none⟩ = some (.int .i64 (d.fbase : Int)) := (by obtain ⟨⟨v2, r2, _⟩, _⟩ := h2; exact r2.at.1); have o5 : w2.cell? ⟨q, 5, none⟩ = some (.int .i64 (d.fend : Int)) := (by obtain ⟨⟨v2, r2, _⟩, _⟩ := h2; exact r2.at.2.2.2.2.2.1); have y5 : w2.frozen? ⟨q, 5, none⟩ = false := (by obtain ⟨⟨v2, r2, _⟩, _⟩ := h2; exact r2.box.frozen 5); clear h2))
  go_wp2_with fail
  all_goals go_ret
  all_goals
   refine ⟨rfl, did_of hF ?_ HOF.out HLL.out⟩
   rw [← HD.out]
   refine H2.out.then fun vb1 r1 => ?_
   first
    | exact r1.putid (i := 5) (v := .int .i64 (n : Int)) (by rw [show min d.fend n = n by omega]; rfl) rfl
    | exact r1.putid (i := 5) (v := .int .i64 (d.fend : Int)) (by rw [show min d.fend n = d.fend by omega]; rfl) rfl
 ·have HD : Hid (triD d to = d) := hide (by
   have hz : cutA d to ≠ 0 := by rw [← hca]; exact hz'
   unfold cutA at hz
   unfold triD
   cases ho : d.off
   ·rw [ho] at hz
    cases hb : d.inB to
    ·rfl
    ·rw [hb] at hz; simp at hz
   ·rfl)
  have hn : (ca == 0) = false := by simpa using hz'
  clear hca hz'
  go_wp2_with fail
  go_ret
  rw [HD.out]
  exact ⟨rfl, did_of hF (RBid.of_below HH.out HB1.out) HOK.out hle⟩
end
end Go.Proofs.YtlegliimgjmphaaGreat
