/-
  Own texts put together: LkTog, RvOps, RvMore, LkRp, IdRef, IdRef2, IdEachV. Own work.
-/
import Derived.Test.YtiloagmkkhlfjaaGreatG28
import Derived.Test.YtiloagmkkhlfjaaGreatG02
import Derived.Test.YtiloagmkkhlfjaaGreatG01
import Derived.Test.YtiloagmkkhlfjaaGreatG06
import Derived.Test.YtiloagmkkhlfjaaGreatG04
import Derived.Test.YtiloagmkkhlfjaaGreatG08
import Derived.Deep.MidRow
import Derived.Deep.RegionHeldLaw
import Derived.Deep.QuietTactic
import Derived.BigQuiet
import Derived.Maps.AppendAt
import Derived.ArgAppend
import Derived.Shelf.Abstract
namespace Go.Proofs.YtiloagmkkhlfjaaGreat
set_option maxRecDepth 100000
section
open Go.RowKit Go.Maps Classical
theorem does_ok {a : LAct} {l l' : List (aS KeyT)} {er : Int} {wn : List TxN} {gr : List (cD KeyT)} (h : LkI l) (ht : kJ a.t) (htm : a.tm < 4294967296) (hR : DoesR a l er l' wn gr) : LkI l' := by
 rcases hR with ⟨_, h1, _⟩ | ⟨_, h1, _⟩ | ⟨_, h1, _⟩ | ⟨_, h1⟩
 ·exact prepR_ok h h1
 ·exact relR_ok h h1
 ·exact restR_ok h ht h1
 ·exact ask_ok h ht htm (fun e => kE e) h1
theorem jI {w w' : World} {x : LActV} (h : LvOk w x) {B : Nat} (hB : Below B w w') (hBs : w.heap.size ≤ B := by exact Nat.le_refl _) : LvOk w' x := ⟨h.kd, h.tm, h.tx, h.m, h.src.below (hB.mono hBs)⟩
theorem far_ks {fs : List LActV} (h : farL fs = false) : ∀ a ∈ fs.take 60, a.a.ks.length ≤ 30 := fun a ha => by
 unfold farL at h
 have := List.any_eq_false.1 h a ha
 unfold jH at this
 simpa using this
theorem act_key {w : World} {p : Nat} {a : LAct} {u : Value} (h : bZ w p (eO a u) 41) : w.rangeAt p 5 (bP a.k.1) := fun j v hv => by
 have hj : j < 8 := (List.getElem?_eq_some_iff.1 hv).1
 refine h.cell (5 + j) v ?_
 match j, hj with
 | 0, _ => exact hv
 | 1, _ => exact hv
 | 2, _ => exact hv
 | 3, _ => exact hv
 | 4, _ => exact hv
 | 5, _ => exact hv
 | 6, _ => exact hv
 | 7, _ => exact hv
theorem cgrow {C C' k : Nat} (h : C ≤ 30 + k) (h2 : C' ≤ max (C + 1) 30) : C' ≤ 30 + (k + 1) := by omega
end
section
open Go.RowKit
section
variable {P : Program} {ρ : Operand → Value} {w : World} {dst : Option Tmp} {ty : TypeId} {pos : String} {aft : Array Edge} {gd : Option (Nat × Bool)}
theorem aR (x : Operand) {v : Value} (hx : ρ x = v) : (execOp ρ ⟨dst, .move x, ty, pos, aft, gd⟩).run P w = .ok (.value v) w := by subst hx; simp [go_sem]
theorem y_assign (x : Operand) {v : Value} (hx : ρ x = v) : (execOp ρ ⟨dst, .assign x, ty, pos, aft, gd⟩).run P w = .ok (.value v) w := by subst hx; simp [go_sem]
theorem dT (x y z : Operand) {v : Value} (hx : ρ x = .bool true) (hy : ρ y = v) : (execOp ρ ⟨dst, .pick x y z, ty, pos, aft, gd⟩).run P w = .ok (.value v) w := by subst hy; simp [go_sem, hx]
theorem dB (x y z : Operand) {v : Value} (hx : ρ x = .bool false) (hz : ρ z = v) : (execOp ρ ⟨dst, .pick x y z, ty, pos, aft, gd⟩).run P w = .ok (.value v) w := by subst hz; simp [go_sem, hx]
theorem eE (o : BinOp) (t t2 : TypeId) (x y : Operand) {a b v : Value} (hx : ρ x = a) (hy : ρ y = b) (hr : (binOp o t a b).run P w = .ok v w) (hg : (eqGuard o t x y a b).run P w = .ok () w) : (execOp ρ ⟨dst, .binOp o t x y t2, ty, pos, aft, gd⟩).run P w = .ok (.value v) w := by
 subst hx
 subst hy
 simp [execOp, hr, hg]
theorem y_not (t : TypeId) (x : Operand) {a : Bool} (hx : ρ x = .bool a) : (execOp ρ ⟨dst, .unOp .not t x, ty, pos, aft, gd⟩).run P w = .ok (.value (.bool (!a))) w := by
 simp [go_sem, hx]
theorem iI (t : TypeId) (x : Operand) {q : Nat} {cs : Array Value} {t0 : TypeId} {d : TypeDesc} (hx : ρ x = .pointer (some ⟨q, 0, none⟩)) (hb : bZ w q cs t0) (hu : P.underlying t = some d) (hd : d.isRow = true) (hi : (P.info? t).map (·.size) = some cs.size) : (execOp ρ ⟨dst, .load t x, ty, pos, aft, gd⟩).run P w = .ok (.value (.agg cs)) w := by
 have hr : w.rangeAt q 0 cs.toList := fun j v hv => by
  rw [Nat.zero_add]; exact hb.cell j v (by simpa using hv)
 have hl := run_loadVar_mid (P := P) w q 0 t cs.toList d hr hu hd (by simpa using hi)
 unfold execOp
 simp only [hx, Instr.loadAt, Instr.sureAddr, Sem.run_bind, Sem.run_pure, Result.andThen_ok, hl]
theorem eI (t : TypeId) (x : Operand) {q o : Nat} {cs : List Value} {d : TypeDesc} (hx : ρ x = .pointer (some ⟨q, o, none⟩)) (hr : w.rangeAt q o cs) (hu : P.underlying t = some d) (hd : d.isRow = true) (hi : (P.info? t).map (·.size) = some cs.length) : (execOp ρ ⟨dst, .load t x, ty, pos, aft, gd⟩).run P w = .ok (.value (.agg cs.toArray)) w := by
 have hl := run_loadVar_mid (P := P) w q o t cs d hr hu hd hi
 unfold execOp
 simp only [hx, Instr.loadAt, Instr.sureAddr, Sem.run_bind, Sem.run_pure, Result.andThen_ok, hl]
theorem cC (f : FuncId) (xs : Array Operand) (vs : Array Value) (tys : Array TypeId) (hf : ρ (.func f) = .func (.func f) #[] #[]) (hv : xs.map ρ = vs) (he : ∀ args w, (callFunc f args).run P w = .ok (.enter f args) w) : (execOp ρ ⟨dst, .call { callee := .value (.func f), args := xs, argTypes := tys }, ty, pos, aft, gd⟩).run P w = .ok (.enter f vs) w := by
 subst hv
 simp [go_sem, hf, he]
theorem y_len (x : Operand) (t : TypeId) {ao : Option Addr} {n c : Nat} {e : TypeId} (hx : ρ x = .slice ao n c) (hu : P.underlying t = some (.slice e)) : (execOp ρ ⟨dst, .call { callee := .builtin .len, args := #[x], argTypes := #[t] }, ty, pos, aft, gd⟩).run P w = .ok (.value (.int .i64 (n : Int))) w := by
 have hb : (Builtin.len_ #[t] ty #[.slice ao n c]).run P w = .ok (.int .i64 (n : Int)) w := by
  have := run_underlying (P := P) hu
  simp [Builtin.len_, this, goInt, Result.andThen]
 simp [go_sem, hx, hb]
end
section
variable {P : Program} {ops : Array Oper} {Q : Exit → Act → World → Prop}
theorem aD {i : Nat} {o : Oper} {a : Act} {w : World} {v : Value} {ps : List (Nat × Value)} (hi : ops[i]? = some o) (hw : Region.wanted o (yielded ops a.tmps) = true)
  (hv : pv ps i = v) (hr : (execOp a.eval o).run P w = .ok (.value v) w) : wpOp P ops Q i (fun a' w' => Below w.heap.size w w' ∧ ∃ v, InvV ps i v w' ∧ a' = a.put o.dst v) a w :=
 eW hi hw hr hv.symm
theorem cF {i : Nat} {o : Oper} {a : Act} {w : World} {v : Value} {ps : List (Nat × Value)} {f : FuncId} {args : Array Value} (hi : ops[i]? = some o) (hw : Region.wanted o (yielded ops a.tmps) = true)
  (hv : pv ps i = v) (hr : (execOp a.eval o).run P w = .ok (.enter f args) w) (h : Calls P f args w fun e w' => e = .returned v ∧ Below w.heap.size w w') : wpOp P ops Q i (fun a' w' => Below w.heap.size w w' ∧ ∃ v, InvV ps i v w' ∧ a' = a.put o.dst v) a w :=
 kM hi hw hr (Calls.mono h fun _ _ ⟨he, hB⟩ => ⟨v, he, hB, hv.symm⟩)
end
end
section
open Go.RowKit
section
variable {P : Program} {ρ : Operand → Value} {w : World} {dst : Option Tmp} {ty : TypeId} {pos : String} {aft : Array Edge} {gd : Option (Nat × Bool)}
theorem dY (x : Operand) {a : Addr} (hx : ρ x = .pointer (some a)) : (execOp ρ ⟨dst, .nilCheck x, ty, pos, aft, gd⟩).run P w = .ok (.value (.pointer (some a))) w := by simp [go_sem, hx]
end
end
section
structure UsR where
 tx : TxN
 tm : Nat
 pr : Bool
section
variable {K : Type}
abbrev usR (u : aS K) : UsR := ⟨u.tx, u.tm, u.pr⟩
structure LsR (l : List (aS K)) (f : aS K → K → Nat) (H : List (cD K)) : Prop where
 u : H.Pairwise fun a b => ¬ (a.tx = b.tx ∧ a.key = b.key)
 m : ∀ t k n, (⟨t, k, n⟩ : cD K) ∈ H ↔ n ≠ 0 ∧ ∃ x ∈ l, x.tx = t ∧ f x k = n
structure eF (l : List (aS K)) (L : List UsR) (H W : List (cD K)) : Prop where
 us : L = l.map usR
 h : LsR l aS.h H
 w : LsR l aS.w W
theorem rep_nil : eF ([] : List (aS K)) [] [] [] := ⟨rfl, ⟨List.Pairwise.nil, fun t k n => ⟨fun h => (by cases h), fun ⟨_, x, hx, _⟩ => (by cases hx)⟩⟩, ⟨List.Pairwise.nil, fun t k n => ⟨fun h => (by cases h), fun ⟨_, x, hx, _⟩ => (by cases hx)⟩⟩⟩
section
variable {l : List (aS K)} {f : aS K → K → Nat} {H : List (cD K)}
theorem LsR.mem (h : LsR l f H) {g : cD K} (hg : g ∈ H) : g.mode ≠ 0 ∧ ∃ x ∈ l, x.tx = g.tx ∧ f x g.key = g.mode := (h.m g.tx g.key g.mode).1 hg
theorem LsR.got (h : LsR l f H) (hb : dD l) {g : cD K} (hg : g ∈ H) : aT l g.tx ∈ l ∧ (aT l g.tx).tx = g.tx ∧ f (aT l g.tx) g.key = g.mode ∧ g.mode ≠ 0 := by
 obtain ⟨h1, x, hx, e1, e2⟩ := h.mem hg
 have := bH hb hx
 rw [e1] at this
 rw [this]
 exact ⟨hx, e1, e2, h1⟩
theorem LsR.none (h : LsR l f H) (hb : dD l) {t : TxN} {k : K} (hf : f zeroU k = 0) (hn : ∀ g ∈ H, ¬ (g.tx = t ∧ g.key = k)) : f (aT l t) k = 0 := by
 cases hu : cM l t with
 | none => rw [dA hu]; exact hf
 | some x =>
  obtain ⟨hx, e⟩ := (bT hb).1 hu
  have e2 : aT l t = x := by unfold aT; rw [hu]; rfl
  rw [e2]
  by_cases h0 : f x k = 0
  ·exact h0
  ·exact absurd ⟨rfl, rfl⟩ (hn ⟨t, k, f x k⟩ ((h.m t k (f x k)).2 ⟨h0, x, hx, e, rfl⟩))
theorem LsR.drop (h : LsR l f H) (t : TxN) : LsR (cN l t) f (H.filter fun g => decide (g.tx ≠ t)) :=
 ⟨h.u.filter _, fun t' k n => by
  rw [List.mem_filter, h.m]
  unfold cN
  constructor
  ·rintro ⟨⟨h1, x, hx, e1, e2⟩, h3⟩
   have h3 : t' ≠ t := by simpa using h3
   exact ⟨h1, x, List.mem_filter.2 ⟨hx, by simpa [e1] using h3⟩, e1, e2⟩
  ·rintro ⟨h1, x, hx, e1, e2⟩
   obtain ⟨hx, h3⟩ := List.mem_filter.1 hx
   have h3 : x.tx ≠ t := by simpa using h3
   exact ⟨⟨h1, x, hx, e1, e2⟩, by simpa [← e1] using h3⟩⟩
theorem LsR.upd (h : LsR l f H) (t : TxN) {φ : aS K → aS K} (h1 : ∀ u, (φ u).tx = u.tx) (h2 : ∀ u k, f (φ u) k = f u k) : LsR (bG l t φ) f H :=
 ⟨h.u, fun t' k n => by
  rw [h.m]
  refine and_congr_right fun _ => ⟨?_, ?_⟩
  ·rintro ⟨x, hx, e1, e2⟩
   refine ⟨_, dE.2 ⟨x, hx, rfl⟩, ?_, ?_⟩
   ·split
    ·rw [h1, e1]
    ·exact e1
   ·split
    ·rw [h2, e2]
    ·exact e2
  ·rintro ⟨y, hy, e1, e2⟩
   obtain ⟨x, hx, rfl⟩ := dE.1 hy
   refine ⟨x, hx, ?_, ?_⟩
   ·split at e1
    ·rw [h1] at e1; exact e1
    ·exact e1
   ·split at e2
    ·rw [h2] at e2; exact e2
    ·exact e2⟩
theorem LsR.ins (h : LsR l f H) {x : aS K} (hx : ∀ k, f x k = 0) : LsR (dH l x) f H :=
 ⟨h.u, fun t' k n => by
  rw [h.m]
  refine and_congr_right fun hn => ⟨?_, ?_⟩
  ·rintro ⟨y, hy, e⟩
   exact ⟨y, (bU l x y).2 (.inr hy), e⟩
  ·rintro ⟨y, hy, e1, e2⟩
   rcases (bU l x y).1 hy with rfl | hy
   ·rw [hx] at e2
    exact absurd e2.symm hn
   ·exact ⟨y, hy, e1, e2⟩⟩
theorem LsR.put [DecidableEq K] (h : LsR l f H) {g : cD K} (hg : g.mode ≠ 0) (hi : ∃ x ∈ l, x.tx = g.tx) {φ : aS K → aS K} (h1 : ∀ u, (φ u).tx = u.tx) (h2 : ∀ u ∈ l, u.tx = g.tx → f (φ u) g.key = g.mode) (h3 : ∀ u k, k ≠ g.key → f (φ u) k = f u k) {H' : List (cD K)}
  (hu : H'.Pairwise fun a b => ¬ (a.tx = b.tx ∧ a.key = b.key)) (hm : ∀ x, x ∈ H' ↔ (x ∈ H ∧ ¬ (x.tx = g.tx ∧ x.key = g.key)) ∨ x = g) : LsR (bG l g.tx φ) f H' :=
 ⟨hu, fun t' k n => by
  rw [hm, h.m]
  constructor
  ·rintro (⟨⟨hn, x, hx, e1, e2⟩, hne⟩ | e)
   ·refine ⟨hn, _, dE.2 ⟨x, hx, rfl⟩, ?_, ?_⟩
    ·split
     ·rw [h1, e1]
     ·exact e1
    ·split
     ·rename_i e
      rw [h3 x k (fun ek => hne ⟨by rw [← e1, e], ek⟩)]
      exact e2
     ·exact e2
   ·obtain ⟨gt, gk, gm⟩ := g
    cases e
    obtain ⟨x, hx, e1⟩ := hi
    dsimp only at e1 hg h2 h3
    refine ⟨hg, φ x, dE.2 ⟨x, hx, by rw [if_pos e1]⟩, by rw [h1, e1], h2 x hx e1⟩
  ·rintro ⟨hn, y, hy, e1, e2⟩
   obtain ⟨x, hx, rfl⟩ := dE.1 hy
   by_cases e : x.tx = g.tx
   ·rw [if_pos e] at e1 e2
    rw [h1] at e1
    by_cases ek : k = g.key
    ·right
     subst ek
     rw [h2 x hx e] at e2
     obtain ⟨gt, gk, gm⟩ := g
     dsimp only at e1 e2 e ⊢
     rw [← e1, e, e2]
    ·left
     rw [h3 x k ek] at e2
     exact ⟨⟨hn, x, hx, e1, e2⟩, fun h => ek h.2⟩
   ·rw [if_neg e] at e1 e2
    left
    exact ⟨⟨hn, x, hx, e1, e2⟩, fun h => e (by rw [e1]; exact h.1)⟩⟩
theorem LsR.less [DecidableEq K] (h : LsR l f H) {g : cD K} {φ : aS K → aS K} (h1 : ∀ u, (φ u).tx = u.tx) (h2 : ∀ u, f (φ u) g.key = 0) (h3 : ∀ u k, k ≠ g.key → f (φ u) k = f u k) {H' : List (cD K)}
  (hu : H'.Pairwise fun a b => ¬ (a.tx = b.tx ∧ a.key = b.key)) (hm : ∀ x, x ∈ H' ↔ x ∈ H ∧ ¬ (x.tx = g.tx ∧ x.key = g.key)) : LsR (bG l g.tx φ) f H' :=
 ⟨hu, fun t' k n => by
  rw [hm, h.m]
  constructor
  ·rintro ⟨⟨hn, x, hx, e1, e2⟩, hne⟩
   refine ⟨hn, _, dE.2 ⟨x, hx, rfl⟩, ?_, ?_⟩
   ·split
    ·rw [h1, e1]
    ·exact e1
   ·split
    ·rename_i e
     rw [h3 x k (fun ek => hne ⟨by rw [← e1, e], ek⟩)]
     exact e2
    ·exact e2
  ·rintro ⟨hn, y, hy, e1, e2⟩
   obtain ⟨x, hx, rfl⟩ := dE.1 hy
   by_cases e : x.tx = g.tx
   ·rw [if_pos e] at e1 e2
    rw [h1] at e1
    by_cases ek : k = g.key
    ·subst ek
     rw [h2] at e2
     exact absurd e2.symm hn
    ·rw [h3 x k ek] at e2
     exact ⟨⟨hn, x, hx, e1, e2⟩, fun h => ek h.2⟩
   ·rw [if_neg e] at e1 e2
    exact ⟨⟨hn, x, hx, e1, e2⟩, fun h => e (by rw [e1]; exact h.1)⟩⟩
end
def togB (a b : cD K) : Bool := decide (a.tx = b.tx) || (decide (a.mode = 1) && decide (b.mode = 1))
theorem iY {a b : cD K} (ha : a.mode ≠ 0 ∧ a.mode ≤ 2) (hb : b.mode ≠ 0 ∧ b.mode ≤ 2) : togB a b = false ↔ a.tx ≠ b.tx ∧ cI b.mode a.mode := by
 unfold togB
 rw [Bool.or_eq_false_iff, Bool.and_eq_false_iff, decide_eq_false_iff_not, decide_eq_false_iff_not, decide_eq_false_iff_not]
 constructor
 ·rintro ⟨h1, h2⟩
  exact ⟨h1, hb.1, ha.1, by omega⟩
 ·rintro ⟨h1, _, _, h2⟩
  exact ⟨h1, by omega⟩
theorem ls_mode {l : List (aS K)} {f : aS K → K → Nat} {H : List (cD K)} (h : LsR l f H) (hf : ∀ u ∈ l, ∀ k, f u k ≤ 2) {g : cD K} (hg : g ∈ H) : g.mode ≠ 0 ∧ g.mode ≤ 2 := by
 obtain ⟨h1, x, hx, _, e⟩ := h.mem hg
 exact ⟨h1, by rw [← e]; exact hf x hx _⟩
theorem eF.hm {l : List (aS K)} {L : List UsR} {H W : List (cD K)} (h : eF l L H W) (hb : dD l) {g : cD K} (hg : g ∈ H) : g.mode ≠ 0 ∧ g.mode ≤ 2 := ls_mode h.h (fun u hu => (hb.oks u hu).2.2.1) hg
theorem eF.wm {l : List (aS K)} {L : List UsR} {H W : List (cD K)} (h : eF l L H W) (hb : dD l) {g : cD K} (hg : g ∈ W) : g.mode ≠ 0 ∧ g.mode ≤ 2 := ls_mode h.w (fun u hu => (hb.oks u hu).2.2.2) hg
theorem free_nf {l : List (aS K)} {L : List UsR} {H W : List (cD K)} (h : eF l L H W) (hb : dD l) {g : cD K} (hg : g ∈ W) :
  NF l (aT l g.tx) g.key ↔ (∃ x ∈ H, x.key = g.key ∧ togB x g = false) ∨ ∃ x ∈ W, x.key = g.key ∧ togB x g = false ∧ Old (aT l x.tx) (aT l g.tx) := by
 obtain ⟨hu, et, ew, en⟩ := h.w.got hb hg
 constructor
 ·rintro ⟨v, hv, hne, ha⟩
  rw [et] at hne
  rw [ew] at ha
  rcases ha with ha | ⟨ho, ha⟩
  ·left
   refine ⟨⟨v.tx, g.key, v.h g.key⟩, (h.h.m _ _ _).2 ⟨ha.2.1, v, hv, rfl, rfl⟩, rfl, ?_⟩
   rw [iY ⟨ha.2.1, (hb.oks v hv).2.2.1 _⟩ (h.wm hb hg)]
   exact ⟨hne, ha⟩
  ·right
   refine ⟨⟨v.tx, g.key, v.w g.key⟩, (h.w.m _ _ _).2 ⟨ha.2.1, v, hv, rfl, rfl⟩, rfl, ?_, ?_⟩
   ·rw [iY ⟨ha.2.1, (hb.oks v hv).2.2.2 _⟩ (h.wm hb hg)]
    exact ⟨hne, ha⟩
   ·show Old (aT l v.tx) _
    rw [bH hb hv]
    exact ho
 ·rintro (⟨x, hx, ek, ht⟩ | ⟨x, hx, ek, ht, ho⟩)
  ·obtain ⟨hv, e1, e2, e3⟩ := h.h.got hb hx
   rw [iY (h.hm hb hx) (h.wm hb hg)] at ht
   rw [ek] at e2
   exact ⟨_, hv, by rw [e1, et]; exact ht.1, .inl (by rw [ew, e2]; exact ht.2)⟩
  ·obtain ⟨hv, e1, e2, e3⟩ := h.w.got hb hx
   rw [iY (h.wm hb hx) (h.wm hb hg)] at ht
   rw [ek] at e2
   exact ⟨_, hv, by rw [e1, et]; exact ht.1, .inr ⟨ho, by rw [ew, e2]; exact ht.2⟩⟩
end
section
variable {K : Type} [DecidableEq K]
def Pick (ko : K → K → Int) (l : List (aS K)) (t : TxN) (k : K) : Prop :=
 ∃ u ∈ l, u.tx = t ∧ u.w k ≠ 0 ∧ ¬ NF l u k ∧ ∀ v ∈ l, ∀ k', v.w k' ≠ 0 → ¬ NF l v k' → (v.tx = t ∧ k' = k) ∨ ko k k' < 0 ∨ (k' = k ∧ Old u v)
def OnR (ko : K → K → Int) : List (aS K) → List (cD K) → List (aS K) → Prop
 | l, [], l' => l' = l ∧ ∀ u ∈ l, ∀ k, u.w k ≠ 0 → NF l u k
 | l, g :: gr, l' => Pick ko l g.tx g.key ∧ g.mode = max ((aT l g.tx).h g.key) ((aT l g.tx).w g.key) ∧ OnR ko (bG l g.tx (iL g.key)) gr l'
theorem OnR.stop {ko : K → K → Int} {l : List (aS K)} (h : ∀ u ∈ l, ∀ k, u.w k ≠ 0 → NF l u k) : OnR ko l [] l := ⟨rfl, h⟩
theorem OnR.step {ko : K → K → Int} {l : List (aS K)} {t : TxN} {k : K} {gr : List (cD K)} {l' : List (aS K)} (h1 : Pick ko l t k) (h2 : OnR ko (bG l t (iL k)) gr l') : OnR ko l (⟨t, k, max ((aT l t).h k) ((aT l t).w k)⟩ :: gr) l' := ⟨h1, rfl, h2⟩
theorem OnR.inv {ko : K → K → Int} {l : List (aS K)} {gr : List (cD K)} {l' : List (aS K)} (h : OnR ko l gr l') : (gr = [] ∧ l' = l ∧ ∀ u ∈ l, ∀ k, u.w k ≠ 0 → NF l u k) ∨ ∃ t k gr', gr = ⟨t, k, max ((aT l t).h k) ((aT l t).w k)⟩ :: gr' ∧ Pick ko l t k ∧ OnR ko (bG l t (iL k)) gr' l' := by
 cases gr with
 | nil => exact .inl ⟨rfl, h⟩
 | cons g gr =>
  obtain ⟨t, k, m⟩ := g
  obtain ⟨h1, h2, h3⟩ := h
  have h2 : m = max ((aT l t).h k) ((aT l t).w k) := h2
  subst h2
  exact .inr ⟨t, k, gr, rfl, h1, h3⟩
structure QInv (k : K) (q : List TxN) (l : List (aS K)) : Prop where
 b : dD l
 m : LkM l
 inn : ∀ t ∈ q, ∃ u ∈ l, u.tx = t ∧ u.w k ≠ 0
 old : q.Pairwise (dI l)
 dn : ∀ u ∈ l, u.w k ≠ 0 → u.tx ∉ q → NF l u k ∧ ∀ t ∈ q, dI l u.tx t
theorem qinv_step {k : K} {t : TxN} {q : List TxN} {l : List (aS K)} (hQ : QInv k (t :: q) l) : QInv k q (cJ l t k) := by
 obtain ⟨h, hm, hq, hp, hd⟩ := hQ
 obtain ⟨x, hx, rfl, hw⟩ := hq t List.mem_cons_self
 obtain ⟨hp1, hp2⟩ := List.pairwise_cons.1 hp
 have hb' := step_b h x.tx k
 have hm' := step_m h hm hx hw
 have hne : ∀ t ∈ q, t ≠ x.tx := fun t ht e => by
  have := hp1 t ht
  rw [e] at this
  exact this.asymm this
 have hin : ∀ t ∈ q, ∃ u ∈ l, u.tx = t ∧ u.w k ≠ 0 := fun t ht => hq t (List.mem_cons_of_mem _ ht)
 have hin' : ∀ t ∈ q, ∃ u ∈ cJ l x.tx k, u.tx = t ∧ u.w k ≠ 0 := fun t ht => by
  obtain ⟨u, hu, e, hw'⟩ := hin t ht
  exact ⟨u, step_get h hx k hu (by rw [e]; exact hne t ht), e, hw'⟩
 have hag : ∀ u ∈ l, (aT (cJ l x.tx k) u.tx).ag = u.ag := fun u hu => by
  by_cases hf : NF l x k
  ·rw [gL h hx hf, bH h hu]
  ·by_cases e : u.tx = x.tx
   ·have := cR h.rise hu hx e
    subst this
    have := bH hb' ((cO h hu hf).2 (.inr rfl))
    have e2 : (iL k u).tx = u.tx := rfl
    rw [e2] at this
    rw [this]
    rfl
   ·rw [bH hb' ((cO h hx hf).2 (.inl ⟨hu, e⟩))]
 have hagg : ∀ t t', (∃ u ∈ l, u.tx = t) → (∃ u ∈ l, u.tx = t') → dI l t t' → dI (cJ l x.tx k) t t' := fun t t' ⟨u, hu, e⟩ ⟨v, hv, e'⟩ ho => by
  subst e e'
  unfold dI Old at ho ⊢
  rw [hag u hu, hag v hv]
  rw [bH h hu, bH h hv] at ho
  exact ho
 refine ⟨hb', hm', hin', hp2.imp_of_mem fun {a b} ha hb hab => hagg a b (by obtain ⟨u, hu, e, _⟩ := hin a ha; exact ⟨u, hu, e⟩) (by obtain ⟨u, hu, e, _⟩ := hin b hb; exact ⟨u, hu, e⟩) hab, fun u hu hwu hnq => ?_⟩
 by_cases hf : NF l x k
 ·rw [gL h hx hf] at hu ⊢
  by_cases e : u.tx = x.tx
  ·have := cR h.rise hu hx e
   subst this
   exact ⟨hf, fun t ht => hp1 t ht⟩
  ·obtain ⟨h1, h2⟩ := hd u hu hwu (fun hi => (List.mem_cons.1 hi).elim e hnq)
   exact ⟨h1, fun t ht => h2 t (List.mem_cons_of_mem _ ht)⟩
 ·rcases (cO h hx hf).1 hu with ⟨hu0, e⟩ | rfl
  ·obtain ⟨⟨v, hv, hvn, hv2⟩, h2⟩ := hd u hu0 hwu (fun hi => (List.mem_cons.1 hi).elim e hnq)
   have hux := h2 x.tx List.mem_cons_self
   unfold dI at hux
   rw [bH h hu0, bH h hx] at hux
   refine ⟨?_, fun t ht => hagg _ _ ⟨u, hu0, rfl⟩ (by obtain ⟨u', hu', e', _⟩ := hin t ht; exact ⟨u', hu', e'⟩) (h2 t (List.mem_cons_of_mem _ ht))⟩
   by_cases ev : v.tx = x.tx
   ·have := cR h.rise hv hx ev
    subst this
    rcases hv2 with ha | ⟨ho, _⟩
    ·refine ⟨iL k v, (cO h hv hf).2 (.inr rfl), hvn, .inl ?_⟩
     rw [gr_h]
     have h0 := h.oks v hv
     have := h0.2.2.1 k
     have := h0.2.2.2 k
     exact ha.grow (by omega) (by omega)
    ·exact absurd ho hux.asymm
   ·exact ⟨v, (cO h hx hf).2 (.inl ⟨hv, ev⟩), hvn, hv2⟩
  ·exact absurd gr_w hwu
theorem on_q {ko : K → K → Int} (hko : ∀ a b, ko a b < 0 → ¬ ko b a < 0) {k : K} {ks : List K} (hk : ∀ k' ∈ ks, ko k k' < 0)
  (IH : ∀ {l : List (aS K)} {gr : List (cD K)} {l' : List (aS K)}, dD l → LkM l → (∀ k', k' ∉ ks → eZ l k') → OnR ko l gr l' → gr = fX l ks ∧ l' = gA l ks) :
  ∀ (q : List TxN) {l : List (aS K)} {gr : List (cD K)} {l' : List (aS K)}, QInv k q l → (∀ k', k' ∉ ks → k' ≠ k → eZ l k') → OnR ko l gr l' → gr = onQG k l q ++ fX (j9 k l q) ks ∧ l' = gA (j9 k l q) ks
 | [], l, gr, l', hQ, hw, hR => by
  have := IH hQ.b hQ.m (fun k' hk' => by
   by_cases e : k' = k
   ·subst e
    exact fun u hu h0 => (hQ.dn u hu h0 (by simp)).1
   ·exact hw k' hk' e) hR
  exact this
 | t :: q, l, gr, l', hQ, hw, hR => by
  obtain ⟨x, hx, ext, hwx⟩ := hQ.inn t List.mem_cons_self
  have hst := qinv_step hQ
  have hgx : aT l t = x := by rw [← ext]; exact bH hQ.b hx
  have hkk : ¬ ko k k < 0 := fun h => hko k k h h
  have hother : ∀ k', k' ∉ ks → k' ≠ k → eZ (cJ l t k) k' := fun k' h1 h2 => by
   have := (step_other (k := k) (k' := k') hQ.b hx h2).2 (hw k' h1 h2)
   rw [ext] at this
   exact this
  by_cases hf : NF l x k
  ·have e1 : cJ l t k = l := by unfold cJ; rw [hgx, if_pos hf]
   have e2 : fN l t k = [] := by unfold fN; rw [hgx, if_pos hf]
   rw [e1] at hst
   have := on_q hko hk IH q hst hw hR
   show gr = (fN l t k ++ onQG k (cJ l t k) q) ++ fX (j9 k (cJ l t k) q) ks ∧ l' = gA (j9 k (cJ l t k) q) ks
   rw [e1, e2, List.nil_append]
   exact this
  ·rcases hR.inv with ⟨rfl, _, h⟩ | ⟨t0, k0, gr0, rfl, hP, hR0⟩
   ·exact absurd (h x hx k hwx) hf
   ·obtain ⟨u0, hu0, eu0, hw0, hf0, hmin⟩ := hP
    have hmx := hmin x hx k hwx hf
    have ek : k0 = k := by
     by_cases e : k0 = k
     ·exact e
     by_cases hi : k0 ∈ ks
     ·have h1 := hk k0 hi
      rcases hmx with ⟨_, h2⟩ | h2 | ⟨h2, _⟩
      ·exact absurd h2.symm e
      ·exact absurd h2 (hko _ _ h1)
      ·exact absurd h2.symm e
     ·exact absurd (hw k0 hi e u0 hu0 hw0) hf0
    subst ek
    have et : t0 = t := by
     rcases hmx with ⟨h2, _⟩ | h2 | ⟨_, h2⟩
     ·rw [← h2, ext]
     ·exact absurd h2 hkk
     ·by_cases hi : u0.tx ∈ t :: q
      ·rcases List.mem_cons.1 hi with e | hi
       ·rw [← eu0, e]
       ·have h3 := (List.pairwise_cons.1 hQ.old).1 _ hi
        unfold dI at h3
        rw [hgx, bH hQ.b hu0] at h3
        exact absurd h2 h3.asymm
      ·exact absurd (hQ.dn u0 hu0 hw0 hi).1 hf0
    subst et
    have e1 : cJ l t0 k0 = bG l t0 (iL k0) := by unfold cJ; rw [hgx, if_neg hf]
    have e2 : fN l t0 k0 = [⟨t0, k0, max ((aT l t0).h k0) ((aT l t0).w k0)⟩] := by unfold fN; rw [hgx, if_neg hf]
    rw [← e1] at hR0
    have := on_q hko hk IH q hst hother hR0
    refine ⟨?_, this.2⟩
    show _ = (fN l t0 k0 ++ onQG k0 (cJ l t0 k0) q) ++ fX (j9 k0 (cJ l t0 k0) q) ks
    rw [this.1, e2]
    simp
theorem on_eq {ko : K → K → Int} (hko : ∀ a b, ko a b < 0 → ¬ ko b a < 0) : ∀ (ks : List K) {l : List (aS K)} {gr : List (cD K)} {l' : List (aS K)}, (ks.Pairwise fun a b => ko a b < 0) → dD l → LkM l → (∀ k', k' ∉ ks → eZ l k') → OnR ko l gr l' → gr = fX l ks ∧ l' = gA l ks
 | [], l, gr, l', _, hb, hm, hw, hR => by
  rcases hR.inv with ⟨rfl, e9, _⟩ | ⟨_, _, _, rfl, hP, _⟩
  ·exact ⟨rfl, e9⟩
  ·obtain ⟨u, hu, _, h0, hf, _⟩ := hP
   exact absurd (hw _ (by simp) u hu h0) hf
 | k :: ks, l, gr, l', hp, hb, hm, hw, hR => by
  obtain ⟨h1, h2⟩ := List.pairwise_cons.1 hp
  have := on_q hko h1 (fun hb hm hw hR => on_eq hko ks h2 hb hm hw hR) (cS l k) (l := l) (gr := gr) (l' := l') ⟨hb, hm, fun t ht => by obtain ⟨u, hu, hw, e⟩ := fC.1 ht; exact ⟨u, hu, e, hw⟩, j8 hb k, fun u hu hw hn => absurd (fC.2 ⟨u, hu, hw, rfl⟩) hn⟩ (fun k' h3 h4 => hw k' (fun hi => (List.mem_cons.1 hi).elim h4 h3)) hR
  exact this
end
end
section
open Go.RowKit
theorem info32 : (Tryz.prog.info? 32).map (fun i => (i.zero, i.size, i.bytes)) = some (some (.int .u32 0), 1, 4) := by kernel_rfl
theorem drop_two (xs : List Int) (k : Nat) (h : k < xs.length) : xs.drop k = xs.getD k 0 :: xs.drop (k + 1) := by
 rw [List.drop_eq_getElem_cons h]; simp [List.getD, h]
set_option maxHeartbeats 800000 in
theorem first_any (xs ys : List Int) (v1 v2 : Value) (w : World) (h1 : cX .u32 w v1 xs) (h2 : cX .u32 w v2 ys) (hl : xs.length = ys.length) (hn : xs.length ≤ 100) :
  Calls Tryz.prog 99 #[v1, v2] w fun e w' => e = .returned (.int .i64 (dW xs ys)) ∧ ∃ n, w' = w.drewN n := by
 rcases h1 with ⟨rfl, ao, cap, rfl, _⟩ | ⟨hx, b1, o1, c1, rfl, hb1, hl1, hm1, hc1⟩
 ·clear h2
  go_enter Tryz.func99, Tryz.ntmps99
  go_wp2
  refine wp_loop_rounds 1 ?_
  rw [rounds_succ]
  go_wp2
  go_ret
  exact ⟨jM (by unfold dW; rfl), 0, rfl⟩
 ·rcases h2 with ⟨rfl, _⟩ | ⟨hy, b2, o2, c2, rfl, hb2, hl2, hm2, hc2⟩
  ·exact absurd (List.eq_nil_of_length_eq_zero hl) hx
  ·have HC1 := aA hc1
   have HC2 := aA hc2
   have HO : Hid (dW xs ys = dW (xs.drop 0) (ys.drop 0)) := aA rfl
   have HL := aA hl
   unfold maxLen at hm1 hm2
   clear hc1 hc2 hl
   generalize hn1 : xs.length = n1 at *
   generalize hn2 : ys.length = n2 at *
   have HN1 := aA hn1
   have HN2 := aA hn2
   clear hn1 hn2
   go_enter Tryz.func99, Tryz.ntmps99
   go_wp2
   go_loopw [5] (fun i wr => ∃ k n : Nat, k ≤ n1 ∧ i = .int .i64 k ∧ wr = w.drewN n ∧ Hid (dW xs ys = dW (xs.drop k) (ys.drop k))) (fun i _ => n1 - (intOf i).toNat)
   case atStart => exact ⟨0, 0, Nat.zero_le _, rfl, rfl, HO⟩
   case round =>
    obtain ⟨k, n, hk, rfl, hwr, HK⟩ := hrel
    have HW := aA hwr
    have hbk1 : b1 < wr.heap.size := by rw [hwr]; exact hb1
    by_cases hlt : k < n1
    ·have hlt2 : k < n2 := by have := HL.out; omega
     have hcell1 : ∀ m, (wr.drewN m).cell? ⟨b1, o1 + k, none⟩ = some (.int .u32 (xs.getD k 0)) := fun m => by rw [hwr]; exact HC1.out k (by omega)
     have hcell2 : ∀ m, (wr.drewN m).cell? ⟨b2, o2 + k, none⟩ = some (.int .u32 (ys.getD k 0)) := fun m => by rw [hwr]; exact HC2.out k (by omega)
     have hcell3 := hcell1 0
     have hcell4 := hcell2 0
     have HD1 := aA (drop_two xs k (by rw [HN1.out]; exact hlt))
     have HD2 := aA (drop_two ys k (by rw [HN2.out]; exact hlt2))
     clear hwr
     generalize xs.getD k 0 = x at *
     generalize ys.getD k 0 = y at *
     rcases i7 x y with ⟨h, h2⟩ | ⟨h, h2⟩ | ⟨h, h2⟩
     ·have HR : Hid (dW xs ys = -1) := aA (by rw [HK.out, HD1.out, HD2.out]; unfold dW orF; rw [h]; rfl)
      clear h
      go_wp2
      go_quiet (fail)
      go_wp2
      go_ret
      exact ⟨jM HR.out.symm, n + nq, by rw [HW.out, drewN2]⟩
     ·have HR : Hid (dW xs ys = dW (xs.drop (k + 1)) (ys.drop (k + 1))) := aA (by rw [HK.out, HD1.out, HD2.out]; show orF (gJ x y) _ = _; unfold orF; rw [if_pos h])
      clear h
      subst h2
      go_wp2
      go_quiet (fail)
      go_wp2
      go_quiet (fail)
      go_wp2
      go_roundw
      case rel => exact ⟨k + 1, _, by omega, by go_num, by rw [HW.out, drewN2], HR⟩
      case measure => simp [intOf]; omega
     ·have HR : Hid (dW xs ys = 1) := aA (by rw [HK.out, HD1.out, HD2.out]; unfold dW orF; rw [h]; rfl)
      have h3 : ¬ x < y := by omega
      clear h
      go_wp2
      go_quiet (fail)
      go_wp2
      go_quiet (fail)
      go_wp2
      go_ret
      exact ⟨jM HR.out.symm, _, by rw [HW.out]; first | exact drewN3 _ _ _ _ | exact drewN2 _ _ _⟩
    ·have hge : decide ((k : Int) < (n1 : Int)) = false := decide_eq_false (by omega)
     go_wp2
     go_ret
     exact ⟨jM (by rw [HK.out, List.drop_eq_nil_of_le (by have := HN1.out; omega)]; unfold dW; rfl), n, rfl⟩
end
section
open Go.RowKit
theorem wrap32_u8 {a : Int} (h0 : 0 ≤ a) (h1 : a < 256) : IntKind.u32.wrap a = a := by rw [IntKind.wrap_u32]; omega
theorem bQ {w : World} {base base' e size n : Nat} {v : Value} {xs : List Value} (h : w.ownsRow base e size v n xs) (hle : base' ≤ base) : w.ownsRow base' e size v n xs := by
 obtain ⟨hl, h0 | ⟨g, cap, cur, rfl, hb, r⟩⟩ := h
 ·exact ⟨hl, .inl h0⟩
 ·exact ⟨hl, .inr ⟨g, cap, cur, rfl, Nat.le_trans hle hb, r⟩⟩
theorem owns_new32 (w : World) (xs : List Int) (hl : xs.length ≤ 1000000) : (w.alloc (.cells (xs.map (Value.int .u32)).toArray 32)).ownsRow w.heap.size 32 1 (.slice (some ⟨w.heap.size, 0, none⟩) xs.length xs.length) xs.length (xs.map (Value.int .u32)) := by
 refine ⟨by simp, .inr ⟨w.heap.size, xs.length, (xs.map (Value.int .u32)).toArray, rfl, Nat.le_refl _, aN w _ _, Nat.le_refl _, by unfold maxLen; omega, by simp, ?_⟩⟩
 simp only [Nat.mul_one]
 exact List.take_of_length_le (by simp)
theorem jS (a b c : Int) (w : World) (h0 : 0 ≤ a) (h1 : a < 256) : Calls Tryz.prog 100 #[.agg #[.int .u8 a, .int .u32 b, .int .u32 c]] w fun e w' => ∃ v, e = .returned v ∧ w'.ownsRow w.heap.size 32 1 v 3 ([a, b, c].map (Value.int .u32)) ∧ Below w.heap.size w w' := by
 have hcv := wrap32_u8 h0 h1
 go_enter Tryz.func100, Tryz.ntmps100
 go_wp2
 go_ret
 refine ⟨_, rfl, ?_, ((Below.refl _ _).alloc (Nat.le_refl _) _).alloc (by simp) _⟩
 have := bQ (owns_new32 (w.alloc (.cells #[.int .u8 a, .int .u32 b, .int .u32 c] 34)) [a, b, c] (by simp)) (show w.heap.size ≤ _ by simp)
 rw [World.size_alloc] at this
 exact this
set_option maxHeartbeats 1600000 in
theorem rtxs_any (a b c d e f : Int) (w : World) (h0 : 0 ≤ a) (h1 : a < 256) (h2 : 0 ≤ d) (h3 : d < 256) : Calls Tryz.prog 84 #[.agg #[.int .u8 a, .int .u32 b, .int .u32 c], .agg #[.int .u8 d, .int .u32 e, .int .u32 f]] w fun e' w' => e' = .returned (.int .i64 (fV (a, b, c) (d, e, f))) ∧ Below w.heap.size w w' := by
 have C1 := aA (fun w => jS a b c w h0 h1)
 have C2 := aA (fun w => jS d e f w h2 h3)
 have CF : Hid (∀ v1 v2 w, cX .u32 w v1 [a, b, c] → cX .u32 w v2 [d, e, f] → Calls Tryz.prog 99 #[v1, v2] w fun e' w' => e' = .returned (.int .i64 (fV (a, b, c) (d, e, f))) ∧ ∃ n, w' = w.drewN n) := aA (fun v1 v2 w h1 h2 => first_any [a, b, c] [d, e, f] v1 v2 w h1 h2 rfl (by simp))
 have HS0 : Hid (bZ ((w.alloc (.cells #[.int .u8 a, .int .u32 b, .int .u32 c] 34)).alloc (.cells #[.int .u8 d, .int .u32 e, .int .u32 f] 34)).drew w.heap.size #[.int .u8 a, .int .u32 b, .int .u32 c] 34) := aA ((aN w _ _).belowI (((Below.refl _ _).alloc (Nat.le_refl _) _).drew))
 have HT0 : Hid (bZ ((w.alloc (.cells #[.int .u8 a, .int .u32 b, .int .u32 c] 34)).alloc (.cells #[.int .u8 d, .int .u32 e, .int .u32 f] 34)).drew (w.heap.size + 1) #[.int .u8 d, .int .u32 e, .int .u32 f] 34) := aA (by
  have := aN (w.alloc (.cells #[.int .u8 a, .int .u32 b, .int .u32 c] 34)) #[.int .u8 d, .int .u32 e, .int .u32 f] 34
  rw [World.size_alloc] at this
  exact this)
 have HB0 := aA (((Below.refl w.heap.size w).alloc (Nat.le_refl _) (.cells #[.int .u8 a, .int .u32 b, .int .u32 c] 34)).alloc (by simp) (.cells #[.int .u8 d, .int .u32 e, .int .u32 f] 34)).drew
 generalize fV (a, b, c) (d, e, f) = r at *
 go_enter Tryz.func84, Tryz.ntmps84
 go_wp2_with fail
 go_region_held (fun w' => w'.cell? ⟨w.heap.size, 0, none⟩ = some (.int .u8 a) ∧ w'.cell? ⟨w.heap.size, 1, none⟩ = some (.int .u32 b) ∧ w'.cell? ⟨w.heap.size, 2, none⟩ = some (.int .u32 c) ∧ w'.cell? ⟨w.heap.size + 1, 0, none⟩ = some (.int .u8 d) ∧ w'.cell? ⟨w.heap.size + 1, 1, none⟩ = some (.int .u32 e) ∧ w'.cell? ⟨w.heap.size + 1, 2, none⟩ = some (.int .u32 f)) (go_keep) (first
  | (go_at_call 100; refine (C1.out _).mono ?_; rintro e' w1 ⟨v1, rfl, ho, hB⟩; have HL1 := aA (cX.of_own ho); have HS1 := aA (HS0.out.belowI hB); have HT1 := aA (HT0.out.belowI hB); have HB1 := aA (HB0.out.trans (hB.mono HB0.out.size)); obtain ⟨a0, a1, a2⟩ := HS1.out.three; obtain ⟨b0, b1, b2⟩ := HT1.out.three; clear hB ho C1)
  | (go_at_call 100; refine (C2.out _).mono ?_; rintro e' w2 ⟨v2, rfl, ho, hB⟩; have HL2 := aA (cX.of_own ho); have HL3 := aA (HL1.out.below hB); have HS2 := aA (HS1.out.belowI hB); have HT2 := aA (HT1.out.belowI hB); have HB2 := aA (HB1.out.trans (hB.mono HB1.out.size)); obtain ⟨c0, c1, c2⟩ := HS2.out.three; obtain ⟨d0, d1, d2⟩ := HT2.out.three; clear hB ho)
  | (go_at_call 99; refine (CF.out _ _ _ HL3.out HL2.out).mono ?_; rintro e' w3 ⟨rfl, n3, rfl⟩))
 go_wp2_with fail
 go_ret
 exact ⟨rfl, jP HB2.out⟩
end
section
open Go Go.RowKit Go.Shelf
section
variable {ρ : Operand → Value} {dst : Option Tmp} {ty : TypeId} {pos : String} {aft : Array Edge} {gd : Option (Nat × Bool)} {w : World}
theorem xi_assign (x : Operand) : (execOp ρ ⟨dst, .assign x, ty, pos, aft, gd⟩).run Tryz.prog w = .ok (.value (ρ x)) w := by simp [go_sem]
theorem xi_field0 (x : Operand) (q : Nat) (hx : ρ x = .pointer (some ⟨q, 0, none⟩)) : (execOp ρ ⟨dst, .fieldAddr 36 x 0, ty, pos, aft, gd⟩).run Tryz.prog w = .ok (.value (.pointer (some ⟨q, 0, none⟩))) w := by simp [go_sem, hx]
theorem xi_field1 (x : Operand) (q : Nat) (hx : ρ x = .pointer (some ⟨q, 0, none⟩)) : (execOp ρ ⟨dst, .fieldAddr 36 x 1, ty, pos, aft, gd⟩).run Tryz.prog w = .ok (.value (.pointer (some ⟨q, 1, none⟩))) w := by simp [go_sem, hx]
theorem xi_load32 (x : Operand) (q : Nat) (s : Int) (hx : ρ x = .pointer (some ⟨q, 0, none⟩)) (h : w.cell? ⟨q, 0, none⟩ = some (.int .u32 s)) : (execOp ρ ⟨dst, .load 32 x, ty, pos, aft, gd⟩).run Tryz.prog w = .ok (.value (.int .u32 s)) w := by simp [go_sem, hx, h]
theorem xi_loadTx (x : Operand) (q : Nat) (a b c : Int) (hx : ρ x = .pointer (some ⟨q, 1, none⟩)) (h1 : w.cell? ⟨q, 1, none⟩ = some (.int .u8 a)) (h2 : w.cell? ⟨q, 2, none⟩ = some (.int .u32 b)) (h3 : w.cell? ⟨q, 3, none⟩ = some (.int .u32 c)) : (execOp ρ ⟨dst, .load 34 x, ty, pos, aft, gd⟩).run Tryz.prog w = .ok (.value (.agg #[.int .u8 a, .int .u32 b, .int .u32 c])) w := by simp [go_sem, hx, h1, h2, h3]
theorem xi_build (x : Operand) (s : Int) (hx : ρ x = .int .u32 s) : (execOp ρ ⟨dst, .buildSlice 140 1 #[(0, x)], ty, pos, aft, gd⟩).run Tryz.prog w = .ok (.value (.slice (some ⟨w.heap.size, 0, none⟩) 1 1)) (w.alloc (.cells #[.int .u32 s] 32)) := by simp [go_sem, hx]
theorem xi_call (f : FuncId) (xs : Array Operand) (vs : Array Value) (tys : Array TypeId) (hf : ρ (.func f) = .func (.func f) #[] #[]) (hv : xs.map ρ = vs) (he : ∀ args w, (callFunc f args).run Tryz.prog w = .ok (.enter f args) w) : (execOp ρ ⟨dst, .call { callee := .value (.func f), args := xs, argTypes := tys }, ty, pos, aft, gd⟩).run Tryz.prog w = .ok (.enter f vs) w := by
 subst hv
 simp [go_sem, hf, he]
theorem en_numbers : ∀ args w, (callFunc 100 args).run Tryz.prog w = .ok (.enter 100 args) w := enters_of Tryz.func100 (by kernel_rfl) rfl
theorem en_first : ∀ args w, (callFunc 99 args).run Tryz.prog w = .ok (.enter 99 args) w := enters_of Tryz.func99 (by kernel_rfl) rfl
def One (s : Int) (w : World) (v : Value) : Prop := ∃ b, v = .slice (some ⟨b, 0, none⟩) 1 1 ∧ b < w.heap.size ∧ w.cell? ⟨b, 0, none⟩ = some (.int .u32 s)
theorem One.below {s : Int} {w w' : World} {v : Value} (h : One s w v) (hB : Below w.heap.size w w') : One s w' v := by
 obtain ⟨b, rfl, hb, hc⟩ := h
 exact ⟨b, rfl, Nat.lt_of_lt_of_le hb hB.size, (hB.cell (p := ⟨b, 0, none⟩) hb).trans hc⟩
theorem xi_append (x y : Operand) (s : Int) (xs : List Int) (v1 v2 : Value) (hx : ρ x = v1) (hy : ρ y = v2) (h1 : One s w v1) (h2 : cX .u32 w v2 xs) (hn : xs ≠ []) (hl : xs.length ≤ 100) :
  ∃ v' w', (execOp ρ ⟨dst, .call { callee := .builtin .append, args := #[x, y], argTypes := #[140, 140] }, ty, pos, aft, gd⟩).run Tryz.prog w = .ok (.value v') w' ∧ cX .u32 w' v' (s :: xs) ∧ Below w.heap.size w w' := by
 obtain ⟨i0, hi, hz0, hz1, hz2⟩ := info_parts info32
 obtain ⟨b, rfl, hb, hc⟩ := h1
 rcases h2 with ⟨e, _⟩ | ⟨_, b2, off, cap, rfl, _, _, _, hc2⟩
 ·exact absurd e hn
 have hpos : 0 < xs.length := List.length_pos_iff.2 hn
 obtain ⟨v', w', hrun, r1, r2⟩ := run_append_arg_grows (P := Tryz.prog) w 140 ty 32 i0 (.int .u32 0) 1 4 Tryz.underlying140 hi hz0 hz1 hz2 rfl (by decide) ⟨b, 0, none⟩ 1 1 [.int .u32 s] rfl
  (fun j u hj => by
   match j, hj with
   | 0, hj => rw [Addr.add_lit]; simp at hj; rw [← hj]; exact hc)
  ⟨b2, off, none⟩ xs.length cap (xs.map (Value.int .u32)) (by simp)
  (fun j u hu => by
   have hj : j < xs.length := by
    have := (List.getElem?_eq_some_iff.1 hu).1
    simpa using this
   rw [Addr.add_lit, hc2 j hj]
   simp [hj] at hu ⊢
   exact hu)
  (by omega) (by unfold maxLen; omega) (by omega)
 refine ⟨v', w', ?_, ?_, (Below.refl _ _).grown r2 (Nat.le_refl _) (fun k hk => by cases hk)⟩
 ·simp [execOp, resolve, invoke, builtin, hx, hy, hrun, Result.andThen]
 ·have : ([Value.int .u32 s] ++ xs.map (Value.int .u32)) = (s :: xs).map (Value.int .u32) := rfl
  rw [this] at r1
  exact cX.of_own r1
def IS (q0 q1 : Nat) (s a b c t d e f r : Int) : Nat → Value → World → Prop
 | 0, v, _ => v = .pointer (some ⟨q0, 0, none⟩)
 | 1, v, _ => v = .int .u32 s
 | 2, v, w => One s w v
 | 3, v, _ => v = .pointer (some ⟨q0, 1, none⟩)
 | 4, v, _ => v = .agg #[.int .u8 a, .int .u32 b, .int .u32 c]
 | 5, v, w => cX .u32 w v [a, b, c]
 | 6, v, w => cX .u32 w v [s, a, b, c]
 | 7, v, _ => v = .pointer (some ⟨q1, 0, none⟩)
 | 8, v, _ => v = .int .u32 t
 | 9, v, w => One t w v
 | 10, v, _ => v = .pointer (some ⟨q1, 1, none⟩)
 | 11, v, _ => v = .agg #[.int .u8 d, .int .u32 e, .int .u32 f]
 | 12, v, w => cX .u32 w v [d, e, f]
 | 13, v, w => cX .u32 w v [t, d, e, f]
 | _, v, _ => v = .int .i64 r
theorem IS_below (q0 q1 : Nat) (s a b c t d e f r : Int) (i : Nat) (v : Value) (w w' : World) (h : IS q0 q1 s a b c t d e f r i v w) (hB : Below w.heap.size w w') : IS q0 q1 s a b c t d e f r i v w' := by
 match i with
 | 0 | 1 | 3 | 4 | 7 | 8 | 10 | 11 | 14 => exact h
 | 2 => exact One.below h hB
 | 9 => exact One.below h hB
 | 5 => exact cX.below hB h
 | 6 => exact cX.below hB h
 | 12 => exact cX.below hB h
 | 13 => exact cX.below hB h
 | n + 15 => exact h
end
set_option maxHeartbeats 1600000 in
theorem rstamps_any (s a b c t d e f : Int) (w : World) (h0 : 0 ≤ a) (h1 : a < 256) (h2 : 0 ≤ d) (h3 : d < 256) : Calls Tryz.prog 69 #[.agg #[.int .u32 s, .int .u8 a, .int .u32 b, .int .u32 c], .agg #[.int .u32 t, .int .u8 d, .int .u32 e, .int .u32 f]] w fun e' w' => e' = .returned (.int .i64 (fO (s, a, b, c) (t, d, e, f))) ∧ Below w.heap.size w w' := by
 have C1 := aA (fun w => jS a b c w h0 h1)
 have C2 := aA (fun w => jS d e f w h2 h3)
 have CF : Hid (∀ v1 v2 w, cX .u32 w v1 [s, a, b, c] → cX .u32 w v2 [t, d, e, f] → Calls Tryz.prog 99 #[v1, v2] w fun e' w' => e' = .returned (.int .i64 (fO (s, a, b, c) (t, d, e, f))) ∧ ∃ n, w' = w.drewN n) := aA (fun v1 v2 w h1 h2 => first_any [s, a, b, c] [t, d, e, f] v1 v2 w h1 h2 rfl (by simp))
 have HS0 : Hid (bZ ((w.alloc (.cells #[.int .u32 s, .int .u8 a, .int .u32 b, .int .u32 c] 36)).alloc (.cells #[.int .u32 t, .int .u8 d, .int .u32 e, .int .u32 f] 36)) w.heap.size #[.int .u32 s, .int .u8 a, .int .u32 b, .int .u32 c] 36) := aA ((aN w _ _).belowI ((Below.refl _ _).alloc (Nat.le_refl _) _))
 have HT0 : Hid (bZ ((w.alloc (.cells #[.int .u32 s, .int .u8 a, .int .u32 b, .int .u32 c] 36)).alloc (.cells #[.int .u32 t, .int .u8 d, .int .u32 e, .int .u32 f] 36)) (w.heap.size + 1) #[.int .u32 t, .int .u8 d, .int .u32 e, .int .u32 f] 36) := aA (by
  have := aN (w.alloc (.cells #[.int .u32 s, .int .u8 a, .int .u32 b, .int .u32 c] 36)) #[.int .u32 t, .int .u8 d, .int .u32 e, .int .u32 f] 36
  rw [World.size_alloc] at this
  exact this)
 have HB0 := aA (((Below.refl w.heap.size w).alloc (Nat.le_refl _) (.cells #[.int .u32 s, .int .u8 a, .int .u32 b, .int .u32 c] 36)).alloc (by simp) (.cells #[.int .u32 t, .int .u8 d, .int .u32 e, .int .u32 f] 36))
 generalize fO (s, a, b, c) (t, d, e, f) = r at *
 go_enter Tryz.func69, Tryz.ntmps69
 go_wp2_with fail
 refine wp_region_each2 (by kernel_rfl) (IS w.heap.size (w.heap.size + 1) s a b c t d e f r) (by kernel_rfl) (IS_below _ _ _ _ _ _ _ _ _ _ _) ?_ ?_
 ·intro i o hi A w1 hB hold hdeps
  have hold2 : A.tmps.getD 2 undef = .pointer (some ⟨w.heap.size, 0, none⟩) := hold 2 (by kernel_rfl)
  have hold3 : A.tmps.getD 3 undef = .pointer (some ⟨w.heap.size + 1, 0, none⟩) := hold 3 (by kernel_rfl)
  obtain ⟨x0, x1, x2, x3⟩ := (HS0.out.belowI hB).four
  obtain ⟨y0, y1, y2, y3⟩ := (HT0.out.belowI hB).four
  have h16 : i < 16 := (Array.getElem?_eq_some_iff.1 hi).1
  have hc : i = 0 ∨ i = 1 ∨ i = 2 ∨ i = 3 ∨ i = 4 ∨ i = 5 ∨ i = 6 ∨ i = 7 ∨ i = 8 ∨ i = 9 ∨ i = 10 ∨ i = 11 ∨ i = 12 ∨ i = 13 ∨ i = 14 ∨ i = 15 := by omega
  clear h16
  rcases hc with rfl|rfl|rfl|rfl|rfl|rfl|rfl|rfl|rfl|rfl|rfl|rfl|rfl|rfl|rfl|rfl <;> obtain rfl := Option.some.inj hi
  ·exact eW hi rfl (xi_field0 _ _ hold2) rfl
  ·have d0 : A.tmps.getD 5 undef = .pointer (some ⟨w.heap.size, 0, none⟩) := aB hdeps 0 (by kernel_rfl)
   exact eW hi rfl (xi_load32 _ _ _ d0 x0) rfl
  ·have d1 : A.tmps.getD 6 undef = .int .u32 s := aB hdeps 1 (by kernel_rfl)
   exact kK hi rfl (xi_build _ _ d1) ((Below.refl _ _).alloc (Nat.le_refl _) _) ⟨_, rfl, by simp, new_at _ _ _ _ _ _ rfl rfl⟩
  ·exact eW hi rfl (xi_field1 _ _ hold2) rfl
  ·have d3 : A.tmps.getD 8 undef = .pointer (some ⟨w.heap.size, 1, none⟩) := aB hdeps 3 (by kernel_rfl)
   exact eW hi rfl (xi_loadTx _ _ _ _ _ d3 x1 x2 x3) rfl
  ·have d4 : A.tmps.getD 9 undef = .agg #[.int .u8 a, .int .u32 b, .int .u32 c] := aB hdeps 4 (by kernel_rfl)
   have e1 : A.eval (.tmp 9) = .agg #[.int .u8 a, .int .u32 b, .int .u32 c] := d4
   exact kM hi rfl (xi_call 100 _ _ _ rfl (by simp only [List.map_toArray, List.map_cons, List.map_nil, e1]) en_numbers) ((C1.out w1).mono fun e' w' ⟨v, he, ho, hb⟩ => ⟨v, he, hb, cX.of_own ho⟩)
  ·have d2 : One s w1 (A.tmps.getD 7 undef) := aB hdeps 2 (by kernel_rfl)
   have d5 : cX .u32 w1 (A.tmps.getD 10 undef) [a, b, c] := aB hdeps 5 (by kernel_rfl)
   obtain ⟨v', w', hrun, hL, hb⟩ := xi_append (ρ := A.eval) (dst := some 11) (ty := 140) (pos := "ref.go:87") (aft := _) (gd := none) (.tmp 7) (.tmp 10) s [a, b, c] _ _ rfl rfl d2 d5 (by simp) (by simp)
   exact kK hi rfl hrun hb hL
  ·exact eW hi rfl (xi_field0 _ _ hold3) rfl
  ·have d7 : A.tmps.getD 12 undef = .pointer (some ⟨w.heap.size + 1, 0, none⟩) := aB hdeps 7 (by kernel_rfl)
   exact eW hi rfl (xi_load32 _ _ _ d7 y0) rfl
  ·have d8 : A.tmps.getD 13 undef = .int .u32 t := aB hdeps 8 (by kernel_rfl)
   exact kK hi rfl (xi_build _ _ d8) ((Below.refl _ _).alloc (Nat.le_refl _) _) ⟨_, rfl, by simp, new_at _ _ _ _ _ _ rfl rfl⟩
  ·exact eW hi rfl (xi_field1 _ _ hold3) rfl
  ·have d10 : A.tmps.getD 15 undef = .pointer (some ⟨w.heap.size + 1, 1, none⟩) := aB hdeps 10 (by kernel_rfl)
   exact eW hi rfl (xi_loadTx _ _ _ _ _ d10 y1 y2 y3) rfl
  ·have d11 : A.tmps.getD 16 undef = .agg #[.int .u8 d, .int .u32 e, .int .u32 f] := aB hdeps 11 (by kernel_rfl)
   have e1 : A.eval (.tmp 16) = .agg #[.int .u8 d, .int .u32 e, .int .u32 f] := d11
   exact kM hi rfl (xi_call 100 _ _ _ rfl (by simp only [List.map_toArray, List.map_cons, List.map_nil, e1]) en_numbers) ((C2.out w1).mono fun e' w' ⟨v, he, ho, hb⟩ => ⟨v, he, hb, cX.of_own ho⟩)
  ·have d9 : One t w1 (A.tmps.getD 14 undef) := aB hdeps 9 (by kernel_rfl)
   have d12 : cX .u32 w1 (A.tmps.getD 17 undef) [d, e, f] := aB hdeps 12 (by kernel_rfl)
   obtain ⟨v', w', hrun, hL, hb⟩ := xi_append (ρ := A.eval) (dst := some 18) (ty := 140) (pos := "ref.go:87") (aft := _) (gd := none) (.tmp 14) (.tmp 17) t [d, e, f] _ _ rfl rfl d9 d12 (by simp) (by simp)
   exact kK hi rfl hrun hb hL
  ·have d6 : cX .u32 w1 (A.tmps.getD 11 undef) [s, a, b, c] := aB hdeps 6 (by kernel_rfl)
   have d13 : cX .u32 w1 (A.tmps.getD 18 undef) [t, d, e, f] := aB hdeps 13 (by kernel_rfl)
   exact kM hi rfl (xi_call 99 _ #[A.tmps.getD 11 undef, A.tmps.getD 18 undef] _ rfl (by simp only [List.map_toArray, List.map_cons, List.map_nil]; rfl) en_first) ((CF.out _ _ w1 d6 d13).mono fun e' w' ⟨he, n, hw⟩ => ⟨_, he, by rw [hw]; exact jP (Below.refl _ _), rfl⟩)
  ·have d14 : A.tmps.getD 19 undef = .int .i64 r := aB hdeps 14 (by kernel_rfl)
   exact eW hi rfl (xi_assign _) d14
 ·intro A w1 hB _ hd hold hall
  have hr : A.tmps.getD 4 undef = .int .i64 r := hall 15 (by decide)
  have HR := aA hr
  clear hr hold hall
  go_wp2_with fail
  refine bodyPost_ret (results_tmp rfl _ _ _) hd ?_
  exact ⟨congrArg Ending.returned HR.out, HB0.out.trans (hB.mono HB0.out.size)⟩
end
end Go.Proofs.YtiloagmkkhlfjaaGreat
