/-
  The program's disk, beneath: a row of bytes of its own (a whole block, or the midst of one with no room behind it), append to it, the disk's cells. Own work.
-/
import Derived.Test.YtjjmcaamgoffiaaDkLaw
import Derived.ArgAppend
import Derived.Deep.QuietTactic
import Derived.BigQuiet
namespace Go.Proofs.Ytjjmcaamgoffiaa
open Go.RowKit

theorem Lies.keep {k : IntKind} {S : Nat → Prop} {w w' : World} {v : Value} {xs : List Int} (h : Lies k w v xs) (hk : KeepBut S w w') (hS : ∀ g, v.ownBlock = some g → ¬ S g) : Lies k w' v xs := by
  rcases h with h | ⟨hx, b, off, cap, rfl, hb, hl, hm, hc⟩
  · exact .inl h
  · refine .inr ⟨hx, b, off, cap, rfl, Nat.lt_of_lt_of_le hb hk.size, hl, hm, fun t ht => ?_⟩
    rw [← hc t ht]
    exact World.cell?_of_block (hk.block b hb (hS b rfl))
theorem grown_keep7 {S : Nat → Prop} {w w' : World} {r : Option Nat} (hg : w.grownBy w' r) (h : ∀ k, r = some k → S k) : KeepBut S w w' :=
  ⟨hg.os, hg.tape, hg.output, hg.size, fun k hk hS => hg.block k hk (fun e => hS (h k e.symm))⟩
theorem owns_base7 {w : World} {b b' e size n : Nat} {v : Value} {xs : List Value} (h : w.ownsRow b e size v n xs) (hb : b' ≤ b) : w.ownsRow b' e size v n xs := by
  obtain ⟨hl, h0 | ⟨g, cap, cur, rfl, hg, r⟩⟩ := h
  · exact ⟨hl, .inl h0⟩
  · exact ⟨hl, .inr ⟨g, cap, cur, rfl, Nat.le_trans hb hg, r⟩⟩
/-- A row of bytes of its own: a whole block, or the midst of one with no room behind it. -/
def PRow (w : World) (v : Value) (rs : List Int) : Prop :=
  w.ownsRow 0 5 1 v rs.length (rs.map (Value.int .u8)) ∨ (Lies .u8 w v rs ∧ ∃ ao, v = .slice ao rs.length rs.length ∧ (ao = none → rs = []) ∧ ∀ a : Addr, ao = some a → a.block < w.heap.size)
theorem PRow.lies {w : World} {v : Value} {rs : List Int} (h : PRow w v rs) : Lies .u8 w v rs := by
  rcases h with h | h
  · exact Lies.of_own h
  · exact h.1
theorem PRow.nil (w : World) : PRow w (.slice none 0 0) [] := .inl (World.ownsRow_nil _ _ _ _)
theorem PRow.lt {w : World} {v : Value} {rs : List Int} (h : PRow w v rs) {g : Nat} (hg : v.ownBlock = some g) : g < w.heap.size := by
  rcases h with h | ⟨_, ao, rfl, _, h2⟩
  · exact (h.lt g hg).2
  · cases ao with
    | none => cases hg
    | some a => cases hg; exact h2 a rfl
theorem PRow.keep {S : Nat → Prop} {w w' : World} {v : Value} {rs : List Int} (h : PRow w v rs) (hk : KeepBut S w w') (hS : ∀ g, v.ownBlock = some g → ¬ S g) : PRow w' v rs := by
  rcases h with h | ⟨h1, ao, e, h2, h3⟩
  · exact .inl (owns_keep h hk hS)
  · exact .inr ⟨h1.keep hk hS, ao, e, h2, fun a ha => Nat.lt_of_lt_of_le (h3 a ha) hk.size⟩
theorem PRow.below {w w' : World} {v : Value} {rs : List Int} (h : PRow w v rs) (hB : Below w.heap.size w w') : PRow w' v rs := h.keep (KeepBut.of_below (fun _ => False) hB) (fun _ _ h => h)
/-- 'append(v, x...)' of such a row. -/
theorem run_append_none7 (w : World) (ty : TypeId) (ao ao2 : Option Addr) (n cap cap2 : Nat) (hn : n ≤ cap) (h2 : ao2 = none → cap2 = 0) : (Builtin.append_ #[29, 29] ty #[.slice ao n cap, .slice ao2 0 cap2]).run Try.prog w = .ok (.slice ao n cap) w := by
  obtain ⟨i0, hi, hz0, hz1, hz2⟩ := info_parts info5
  have hf : (Builtin.firstCells i0.size 0 (.slice ao2 0 cap2)).run Try.prog w = .ok #[] w := by
    cases ao2 with
    | none => simp [Builtin.firstCells]
    | some a => exact run_firstCells_some (P := Try.prog) w i0.size 0 a 0 cap2 [] (by simp) (fun j u hj => by simp at hj)
  cases ao with
  | none => simp [Builtin.append_, run_underlying Try.underlying29, sizeOf, typeInfo, hi, Builtin.lenOf, hn, hf]
  | some a => simp [Builtin.append_, run_underlying Try.underlying29, sizeOf, typeInfo, hi, Builtin.lenOf, hn, hf, storeCells]
theorem append_prow {ops : Array Oper} {rest : List Oper} {o : Oper} {a : Act} {Q : Exit → Act → World → Prop} (w : World) (hgd : o.guard = none) (s x : Operand)
    (ho : o.op = .call { callee := .builtin .append, args := #[s, x], argTypes := #[29, 29] })
    (v vx : Value) (ys xs : List Int) (hs : a.eval s = v) (hrow : PRow w v ys) (hx : a.eval x = vx) (hL : Lies .u8 w vx xs)
    (hb : ys.length + xs.length ≤ 140737488355328)
    (h : ∀ v' w', PRow w' v' (ys ++ xs) → w.grownBy w' v.ownBlock → (v'.ownBlock = v.ownBlock ∨ ∀ g, v'.ownBlock = some g → w.heap.size ≤ g) → wpList Try.prog ops Q rest (a.put o.dst v') w') :
    wpList Try.prog ops Q (o :: rest) a w := by
  obtain ⟨i0, hi, hz0, hz1, hz2⟩ := info_parts info5
  by_cases hx0 : xs = []
  · subst hx0
    obtain ⟨ao2, cap2, rfl, hn2, _⟩ := hL.appendable
    obtain ⟨ao, cap, hv⟩ := hrow.lies.shape
    subst hv
    have hcap := hrow.lies.cap
    have hrun := run_append_none7 w o.type ao ao2 ys.length cap cap2 hcap (fun h => (hn2 h).2)
    refine wpList_plain hgd fun K hK => ?_
    unfold Oper.wp
    simp [execOp, ho, resolve, invoke, builtin, hs, hx, hrun, Result.andThen]
    exact hK _ _ (h _ _ (by simpa using hrow) (World.grownBy.refl _ _) (.inl rfl))
  · rcases hL with ⟨e, _⟩ | ⟨_, b, off, cap, rfl, _, _, _, hc⟩
    · exact absurd e hx0
    have hnews : ∀ j u, (xs.map (Value.int .u8))[j]? = some u → w.cell? ((⟨b, off, none⟩ : Addr).add j) = some u := fun j u hu => by
      have hj : j < xs.length := by
        have := (List.getElem?_eq_some_iff.1 hu).1
        simpa using this
      rw [Addr.add_lit, hc j hj]
      simp [hj] at hu ⊢
      exact hu
    have hpos : 0 < xs.length := List.length_pos_iff.2 hx0
    rcases hrow with hown | ⟨hLy, ao, rfl, hne, hlt⟩
    · exact wpList_append_own_at w hgd s x 29 ho 0 5 i0 (.int .u8 0) 1 1 Try.underlying29 hi hz0 hz1 hz2 rfl (by decide) v ys.length _ hs hown ⟨b, off, none⟩ xs.length cap (xs.map (Value.int .u8)) hx (by simp) hnews (ints_oneCell _ _)
        (by unfold maxLen; omega) (by omega) (Nat.zero_le _) (fun v' w' h1 h2 _ h4 => h v' w' (.inl (by simpa using h1)) h2 (h4.imp id (fun e g hg => by rw [e] at hg; cases hg; exact Nat.le_refl _)))
    · obtain ⟨ao', cap', e, hnone, hcells⟩ := hLy.appendable
      cases e
      exact wpList_append_grows w hgd s x 29 ho 5 i0 (.int .u8 0) 1 1 Try.underlying29 hi hz0 hz1 hz2 rfl (by decide) ao ys.length ys.length (ys.map (Value.int .u8)) hs (fun h => hnone h) (by simp) (fun b' hb' j u hj => hcells b' hb' j u hj)
        ⟨b, off, none⟩ xs.length cap (xs.map (Value.int .u8)) hx (by simp) hnews (ints_oneCell _ _) (by omega) (by unfold maxLen; omega) (by omega)
        (fun v' w' h1 h2 => h v' w' (.inl (owns_any7 (by simpa using h1))) ⟨h2.os, h2.tape, h2.output, h2.size, fun k hk _ => h2.block k hk (by simp)⟩ (.inr fun g hg => (h1.lt g hg).1))
/-- 'x[s:n:n]' -/
theorem run_three (w : World) (ao : Option Addr) (m cap s n : Nat) (hs : s ≤ n) (hn : n ≤ cap) : (Instr.sliceAt 29 (.slice ao m cap) (some (.int .i64 s)) (some (.int .i64 n)) (some (.int .i64 n))).run Try.prog w = .ok (.slice (if n = s then ao else ao.map (·.add (s * 1))) (n - s) (n - s)) w := by
  simp [Instr.sliceAt, Instr.slice, run_underlying Try.underlying29, Instr.sliceBounds, Instr.sliceBound, asIntOf]
  rw [if_pos hn, if_pos hs]
theorem PRow.three {w : World} {ao : Option Addr} {cap s n : Nat} {rs : List Int} (h : PRow w (.slice ao rs.length cap) rs) (hs : s ≤ n) (hn : n ≤ rs.length) :
    PRow w (.slice (if n = s then ao else ao.map (·.add (s * 1))) (n - s) (n - s)) ((rs.drop s).take (n - s)) ∧ (Value.slice (if n = s then ao else ao.map (·.add (s * 1))) (n - s) (n - s)).ownBlock = (Value.slice ao rs.length cap).ownBlock := by
  have hlen : ((rs.drop s).take (n - s)).length = n - s := by simp; omega
  have hadd : ∀ a : Addr, (a.add (s * 1)).block = a.block := fun a => by obtain ⟨b, o, sp⟩ := a; unfold Addr.add; split <;> rfl
  have hown : (Value.slice (if n = s then ao else ao.map (·.add (s * 1))) (n - s) (n - s)).ownBlock = (Value.slice ao rs.length cap).ownBlock := by
    cases ao with
    | none => split <;> rfl
    | some a =>
      split
      · rfl
      · exact congrArg some (hadd a)
  refine ⟨.inr ⟨?_, _, by rw [hlen], ?_, ?_⟩, hown⟩
  · by_cases e : n = s
    · subst e
      rw [if_pos rfl]
      refine .inl ⟨by simp, ao, 0, by simp, fun _ => rfl⟩
    · rw [if_neg e]
      rcases h.lies with ⟨h0, _⟩ | ⟨_, b, off, cap', e2, hb, hl, hm, hc⟩
      · subst h0; simp at hn; omega
      · cases e2
        refine .inr ⟨fun e => by rw [e] at hlen; simp at hlen; omega, b, off + s, n - s, by rw [hlen]; simp [Addr.add_lit], hb, by omega, by omega, fun t ht => ?_⟩
        rw [Nat.add_assoc, hc (s + t) (by omega)]
        have h1 : t < n - s := by omega
        simp [List.getD, h1]
  · intro hz
    by_cases e : n = s
    · subst e; simp
    · rw [if_neg e] at hz
      cases ao with
      | none =>
        obtain ⟨_, _, e2, h3, _⟩ := h.lies.appendable
        cases e2
        have := (h3 rfl).1
        omega
      | some a => cases hz
  · intro a ha
    have : (Value.slice ao rs.length cap).ownBlock = some a.block := by rw [← hown, ha]; rfl
    exact h.lt this
/-- The program's disk as numbers: the row's first place, its bytes, the other fields. -/
structure Pd where
  f : Nat
  rs : List Int
  room : Nat
  base : Nat
  sure : Nat
  fuse : Int
  on : Bool
def pc (x : Pd) (vb : Value) : Array Value := #[.int .i64 (x.f : Int), vb, .bool true, .int .i64 (x.room : Int), .int .i64 (x.base : Int), .int .i64 (x.sure : Int), .int .i64 x.fuse, .bool x.on]
structure RB (w : World) (q : Nat) (vb : Value) (x : Pd) : Prop where
  box : Box w q (pc x vb) 62
  row : PRow w vb x.rs
  apart : vb.ownBlock ≠ some q
/-- The blocks that it uses. -/
def usesB (q : Nat) (vb : Value) (k : Nat) : Prop := k = q ∨ vb.ownBlock = some k
theorem RB.keep {S : Nat → Prop} {w w' : World} {q : Nat} {vb : Value} {x : Pd} (h : RB w q vb x) (hk : KeepBut S w w') (hS : ∀ k, usesB q vb k → ¬ S k) : RB w' q vb x :=
  ⟨h.box.keep hk (hS q (.inl rfl)), h.row.keep hk (fun g hg => hS g (.inr hg)), h.apart⟩
theorem RB.below {w w' : World} {q : Nat} {vb : Value} {x : Pd} (h : RB w q vb x) (hB : Below w.heap.size w w') : RB w' q vb x := h.keep (KeepBut.of_below (fun _ => False) hB) (fun _ _ h => h)
theorem RB.drewN {w : World} {q n : Nat} {vb : Value} {x : Pd} (h : RB w q vb x) : RB (w.drewN n) q vb x := h.below (below_drewN7 w n)
theorem RB.at {w : World} {q : Nat} {vb : Value} {x : Pd} (h : RB w q vb x) : w.cell? ⟨q, 0, none⟩ = some (.int .i64 (x.f : Int)) ∧ w.cell? ⟨q, 1, none⟩ = some vb ∧ w.cell? ⟨q, 2, none⟩ = some (.bool true) ∧ w.cell? ⟨q, 3, none⟩ = some (.int .i64 (x.room : Int)) ∧ w.cell? ⟨q, 4, none⟩ = some (.int .i64 (x.base : Int)) ∧ w.cell? ⟨q, 5, none⟩ = some (.int .i64 (x.sure : Int)) ∧ w.cell? ⟨q, 6, none⟩ = some (.int .i64 x.fuse) ∧ w.cell? ⟨q, 7, none⟩ = some (.bool x.on) :=
  ⟨h.box.cell 0 _ rfl, h.box.cell 1 _ rfl, h.box.cell 2 _ rfl, h.box.cell 3 _ rfl, h.box.cell 4 _ rfl, h.box.cell 5 _ rfl, h.box.cell 6 _ rfl, h.box.cell 7 _ rfl⟩
/-- One of its numbers is written. -/
theorem RB.put {w : World} {q i : Nat} {vb v : Value} {x x' : Pd} (h : RB w q vb x) (he : (pc x vb).setIfInBounds i v = pc x' vb) (hb : x'.rs = x.rs) : RB (w.setCell ⟨q, i, none⟩ v) q vb x' ∧ KeepBut (usesB q vb) w (w.setCell ⟨q, i, none⟩ v) := by
  have hk : KeepBut (fun k => k = q) w (w.setCell ⟨q, i, none⟩ v) := (KeepBut.refl (fun k => k = q) w).setCell (p := ⟨q, i, none⟩) (.inl rfl) _
  refine ⟨⟨?_, ?_, h.apart⟩, hk.mono (fun k e => .inl e)⟩
  · have := h.box.set (i := i) (v := v)
    rw [he] at this
    exact this
  · rw [hb]
    exact h.row.keep hk (fun g hg e => h.apart (by rw [hg, e]))
/-- Its bytes are written anew. -/
theorem RB.bytes {w : World} {q : Nat} {vb vb' : Value} {x : Pd} {ys : List Int} (hx : Box w q (pc x vb) 62) (ho : PRow w vb' ys) (hn : vb'.ownBlock ≠ some q) : RB (w.setCell ⟨q, 1, none⟩ vb') q vb' { x with rs := ys } ∧ KeepBut (usesB q vb) w (w.setCell ⟨q, 1, none⟩ vb') := by
  have hk : KeepBut (fun k => k = q) w (w.setCell ⟨q, 1, none⟩ vb') := (KeepBut.refl (fun k => k = q) w).setCell (p := ⟨q, 1, none⟩) (.inl rfl) _
  refine ⟨⟨hx.set (i := 1) (v := vb'), ?_, hn⟩, hk.mono (fun k e => .inl e)⟩
  exact ho.keep hk (fun g hg e => hn (by rw [hg, e]))
/-- What a call leaves of it. -/
structure RBid (w w' : World) (q : Nat) (vb : Value) (x' : Pd) : Prop where
  st : ∃ vb', RB w' q vb' x' ∧ (vb'.ownBlock = vb.ownBlock ∨ ∀ g, vb'.ownBlock = some g → w.heap.size ≤ g)
  keep : KeepBut (usesB q vb) w w'
theorem RBid.same {w : World} {q : Nat} {vb : Value} {x : Pd} (h : RB w q vb x) : RBid w w q vb x := ⟨⟨vb, h, .inl rfl⟩, KeepBut.refl _ _⟩
theorem RBid.of_below {w w' : World} {q : Nat} {vb : Value} {x : Pd} (h : RB w q vb x) (hB : Below w.heap.size w w') : RBid w w' q vb x := ⟨⟨vb, h.below hB, .inl rfl⟩, KeepBut.of_below _ hB⟩
theorem RBid.before {w w1 w2 : World} {q : Nat} {vb : Value} {x : Pd} (hB : Below w.heap.size w w1) (h : RBid w1 w2 q vb x) : RBid w w2 q vb x := by
  obtain ⟨⟨vb', h1, h2⟩, hk⟩ := h
  exact ⟨⟨vb', h1, h2.imp id (fun h g hg => Nat.le_trans hB.size (h g hg))⟩, (KeepBut.of_below (usesB q vb) hB).trans hk (fun _ _ h => h)⟩
theorem usesB_new {w : World} {q : Nat} {vb vb' : Value} (h : vb'.ownBlock = vb.ownBlock ∨ ∀ g, vb'.ownBlock = some g → w.heap.size ≤ g) : ∀ k, k < w.heap.size → usesB q vb' k → usesB q vb k := by
  intro k hk hu
  rcases hu with hu | hu
  · exact .inl hu
  · rcases h with h | h
    · exact .inr (by rw [← h]; exact hu)
    · have := h k hu; omega
theorem RBid.then {w w1 w2 : World} {q : Nat} {vb : Value} {x x' : Pd} (h : RBid w w1 q vb x) (h2 : ∀ vb1, RB w1 q vb1 x → RBid w1 w2 q vb1 x') : RBid w w2 q vb x' := by
  obtain ⟨⟨v1, h1, hp⟩, hk⟩ := h
  obtain ⟨⟨v2, h3, hp2⟩, hk2⟩ := h2 v1 h1
  refine ⟨⟨v2, h3, ?_⟩, hk.trans hk2 (usesB_new hp)⟩
  rcases hp2 with e | e
  · rw [e]; exact hp
  · exact .inr fun g hg => Nat.le_trans hk.size (e g hg)
theorem RB.val {w : World} {q : Nat} {v v' : Value} {x x' : Pd} (h : RB w q v x) (h' : RB w q v' x') : v = v' := by
  have a1 := h.at.2.1
  have a2 := h'.at.2.1
  rw [a1] at a2
  exact Option.some.inj a2
theorem RBid.after {w w1 w2 : World} {q : Nat} {vb v1 : Value} {x x1 x' : Pd} (h : RBid w w1 q vb x) (r1 : RB w1 q v1 x1) (h2 : RBid w1 w2 q v1 x') : RBid w w2 q vb x' :=
  h.then fun vb1 r => by rw [r.val r1]; exact h2
/-- Bytes that lie there lie not in the disk's variable. -/
theorem lies_far {w : World} {q : Nat} {vb v : Value} {x : Pd} {xs : List Int} (h : RB w q vb x) (hL : Lies .u8 w v xs) (hx : xs ≠ []) : v.ownBlock ≠ some q := by
  rcases hL with ⟨e, _⟩ | ⟨_, b, off, cap, rfl, _, _, _, hc⟩
  · exact absurd e hx
  · intro e
    obtain rfl : b = q := by simpa [Value.ownBlock] using e
    have h0 := hc 0 (List.length_pos_iff.2 hx)
    rw [Nat.add_zero, cell_of_row w b off _ _ (0, 0) h.box] at h0
    obtain ⟨ao, cp, hv⟩ := h.row.lies.shape
    subst hv
    unfold pc at h0
    match off, h0 with
    | 0, h0 => simp at h0
    | 1, h0 => simp at h0
    | 2, h0 => simp at h0
    | 3, h0 => simp at h0
    | 4, h0 => simp at h0
    | 5, h0 => simp at h0
    | 6, h0 => simp at h0
    | 7, h0 => simp at h0
    | n + 8, h0 => simp at h0
theorem lies_held {w w' : World} {q : Nat} {vb v : Value} {x : Pd} {xs : List Int} (h : RB w q vb x) (hL : Lies .u8 w v xs) (hk : KeepBut (fun k => k = q) w w') : Lies .u8 w' v xs := by
  by_cases hx : xs = []
  · rcases hL with h | ⟨e, _⟩
    · exact .inl h
    · exact absurd hx e
  · exact hL.keep hk (fun g hg e => lies_far h hL hx (by rw [hg, e]))
theorem RB.putid {w : World} {q i : Nat} {vb v : Value} {x x' : Pd} (h : RB w q vb x) (he : (pc x vb).setIfInBounds i v = pc x' vb) (hb : x'.rs = x.rs) : RBid w (w.setCell ⟨q, i, none⟩ v) q vb x' :=
  ⟨⟨vb, (h.put he hb).1, .inl rfl⟩, (h.put he hb).2⟩
end Go.Proofs.Ytjjmcaamgoffiaa
