/-
  Own texts put together: FrRef, FrCuts, FrNext, FrRows, FrScanRef, FrLists, FrSpec, AppStep, DkRef, DkRef2, DkRef3. Own work.
-/
import Derived.Test.YtlegliimgjmphaaGreatG10
import Derived.Test.YtlegliimgjmphaaGreatG01
import Derived.Test.YtlegliimgjmphaaGreatG09
import Derived.Test.YtlegliimgjmphaaGreatG03
import Derived.Deep.QuietTactic
import Derived.BigQuiet
import Derived.BigRegion
import Derived.Deep.RegionHeldLaw
namespace Go.Proofs.YtlegliimgjmphaaGreat
section
open Go.RowKit
theorem owns_base {w : World} {b b' e size n : Nat} {v : Value} {xs : List Value} (h : w.ownsRow b e size v n xs) (hb : b' ≤ b) : w.ownsRow b' e size v n xs := by
 obtain ⟨hl, h0 | ⟨g, cap, cur, rfl, hg, r⟩⟩ := h
 ·exact ⟨hl, .inl h0⟩
 ·exact ⟨hl, .inr ⟨g, cap, cur, rfl, Nat.le_trans hb hg, r⟩⟩
def sizeF (n : Int) : Int := if n < 0 ∨ 4096 < n then 0 else 8 + n
theorem owns_as {w : World} {b n : Nat} {v : Value} {ys zs : List Int} (h : w.ownsRow b 5 1 v n (ys.map (Value.int .u8))) (hz : zs = ys) : w.ownsRow b 5 1 v zs.length (zs.map (Value.int .u8)) := by
 subst hz
 have h1 : n = zs.length := by have := h.1; simpa using this.symm
 rw [← h1]
 exact h
end
section
open Go.RowKit
theorem below_two (w : World) (o : Obj) : Below w.heap.size w (w.alloc o) := (Below.refl w.heap.size w).alloc (Nat.le_refl _) o
end
section
open Go.RowKit
theorem owns_belowF {w w' : World} {b e size n : Nat} {v : Value} {xs : List Value} (h : w.ownsRow b e size v n xs) (hB : Below w.heap.size w w') : w'.ownsRow b e size v n xs := by
 refine ⟨h.1, ?_⟩
 rcases h.2 with hn | ⟨g, cap, cur, rfl, hb, hgg, r⟩
 ·exact .inl hn
 ·exact .inr ⟨g, cap, cur, rfl, hb, by rw [hB.block g (h.lt g rfl).2]; exact hgg, r⟩
theorem owns_apart {w : World} {b b' e e' s s' n n' : Nat} {v v' : Value} {xs xs' : List Value} (h : w.ownsRow b e s v n xs) (h' : w.ownsRow b' e' s' v' n' xs') (he : e ≠ e') : v.ownBlock = none ∨ v.ownBlock ≠ v'.ownBlock := by
 rcases h.2 with ⟨rfl, _⟩ | ⟨g, cap, cur, rfl, _, hg, _⟩
 ·exact .inl rfl
 ·refine .inr fun e => ?_
  rcases h'.2 with ⟨rfl, _⟩ | ⟨g', cap', cur', rfl, _, hg', _⟩
  ·simp [Value.ownBlock] at e
  ·simp [Value.ownBlock] at e
   subst e
   rw [hg] at hg'
   simp at hg'
   exact he hg'.2
def Rows (w : World) (base : Nat) (v : Value) (xss : List (List Int)) : Prop :=
 ∃ vs : List Value, vs.length = xss.length ∧ w.ownsRow base 29 1 v vs.length vs ∧
  ∀ t, t < xss.length → ∃ u, vs[t]? = some u ∧ w.ownsRow base 5 1 u (xss.getD t []).length ((xss.getD t []).map (Value.int .u8))
theorem Rows.nil (w : World) (base : Nat) : Rows w base (.slice Option.none 0 0) [] := ⟨[], rfl, World.ownsRow_nil _ _ _ _, fun _ ht => absurd ht (Nat.not_lt_zero _)⟩
theorem Rows.below {w w' : World} {base : Nat} {v : Value} {xss : List (List Int)} (h : Rows w base v xss) (hB : Below w.heap.size w w') : Rows w' base v xss := by
 obtain ⟨vs, hl, ho, he⟩ := h
 exact ⟨vs, hl, owns_belowF ho hB, fun t ht => let ⟨u, h1, h2⟩ := he t ht; ⟨u, h1, owns_belowF h2 hB⟩⟩
theorem Rows.base {w : World} {b b' : Nat} {v : Value} {xss : List (List Int)} (h : Rows w b v xss) (hb : b' ≤ b) : Rows w b' v xss := by
 obtain ⟨vs, hl, ho, he⟩ := h
 exact ⟨vs, hl, owns_base ho hb, fun t ht => let ⟨u, h1, h2⟩ := he t ht; ⟨u, h1, owns_base h2 hb⟩⟩
theorem Rows.shape {w : World} {b : Nat} {v : Value} {xss : List (List Int)} (h : Rows w b v xss) : ∃ (ao : Option Addr) (cap : Nat), v = .slice ao xss.length cap := by
 obtain ⟨vs, hl, ho, he⟩ := h
 rcases ho.2 with ⟨rfl, hn⟩ | ⟨g, cap, cur, rfl, _⟩
 ·exact ⟨Option.none, 0, by rw [← hl, hn]⟩
 ·exact ⟨_, cap, by rw [hl]⟩
theorem Rows.lt {w : World} {b : Nat} {v : Value} {xss : List (List Int)} (h : Rows w b v xss) : ∀ k, v.ownBlock = some k → b ≤ k ∧ k < w.heap.size := by
 obtain ⟨vs, hl, ho, he⟩ := h
 exact ho.lt
theorem info22 : (Tryz.prog.info? 29).map (fun i => (i.zero, i.size, i.bytes)) = some (some (.slice none 0 0), 1, 24) := by kernel_rfl
theorem append_row {ops : Array Oper} {rest : List Oper} {o : Oper} {a : Act} {Q : Exit → Act → World → Prop} (w : World) (hgd : o.guard = none) (s x : Operand)
  (ho : o.op = .call { callee := .builtin .append, args := #[s, x], argTypes := #[114, 114] })
  (base : Nat) (v : Value) (xss : List (List Int)) (hs : a.eval s = v) (hR : Rows w base v xss) (g : Nat) (u : Value) (ys : List Int) (hx : a.eval x = .slice (some ⟨g, 0, none⟩) 1 1) (hcell : w.cell? ⟨g, 0, none⟩ = some u)
  (hu : w.ownsRow base 5 1 u ys.length (ys.map (Value.int .u8))) (hb : xss.length ≤ 1000000000) (hbase : base ≤ w.heap.size)
  (h : ∀ v' w', Rows w' base v' (xss ++ [ys]) → w.grownBy w' v.ownBlock → wpList Tryz.prog ops Q rest (a.put o.dst v') w') :
  wpList Tryz.prog ops Q (o :: rest) a w := by
 obtain ⟨i0, hi, hz0, hz1, hz2⟩ := info_parts info22
 obtain ⟨vs, hl, hown, he⟩ := hR
 obtain ⟨au, cu, hsh⟩ := (Lies.of_own hu).shape
 refine wpList_append_own_wide w hgd s x 114 ho base 29 i0 (.slice none 0 0) 1 24 Tryz.underlying114 hi hz0 hz1 hz2 rfl (by decide) v vs.length vs hs hown ⟨g, 0, none⟩ 1 1 [u] hx rfl
  (fun j y hj => ?_) (fun y hy => ?_) (by unfold maxLen; omega) (by omega) hbase (fun v' w' h1 h2 _ => ?_)
 ·cases j with
  | zero => simp at hj; subst hj; rw [Addr.add_lit]; exact hcell
  | succ j => simp at hj
 ·simp at hy; subst hy; rw [hsh]; rfl
 ·refine h v' w' ⟨vs ++ [u], by simp [hl], by simpa using h1, fun t ht => ?_⟩ h2
  by_cases hlt : t < xss.length
  ·obtain ⟨y, hy1, hy2⟩ := he t hlt
   refine ⟨y, ?_, ?_⟩
   ·rw [List.getElem?_append_left (by omega)]; exact hy1
   ·have : (xss ++ [ys]).getD t [] = xss.getD t [] := by simp [List.getD, List.getElem?_append_left hlt]
    rw [this]
    exact hy2.kept h2 (owns_apart hy2 hown (by decide))
  ·obtain rfl : t = xss.length := by simp at ht; omega
   refine ⟨u, ?_, ?_⟩
   ·rw [List.getElem?_append_right (by omega), hl]; simp
   ·have : (xss ++ [ys]).getD xss.length [] = ys := by simp [List.getD]
    rw [this]
    exact hu.kept h2 (owns_apart hu hown (by decide))
end
section
open Go.RowKit
def LiesL (w : World) (v : Value) (xss : List (List Int)) : Prop :=
 (xss = [] ∧ ∃ (ao : Option Addr) (cap : Nat), v = .slice ao 0 cap) ∨
 (xss ≠ [] ∧ ∃ b off cap : Nat, v = .slice (some ⟨b, off, none⟩) xss.length cap ∧ b < w.heap.size ∧ xss.length ≤ maxLen ∧
  ∀ t, t < xss.length → ∃ u, w.cell? ⟨b, off + t, none⟩ = some u ∧ Lies .u8 w u (xss.getD t []))
theorem LiesL.below {w w' : World} {v : Value} {xss : List (List Int)} (h : LiesL w v xss) (hB : Below w.heap.size w w') : LiesL w' v xss := by
 rcases h with h | ⟨hne, b, off, cap, rfl, hb, hm, hc⟩
 ·exact .inl h
 ·exact .inr ⟨hne, b, off, cap, rfl, Nat.lt_of_lt_of_le hb hB.size, hm, fun t ht => let ⟨u, h1, h2⟩ := hc t ht; ⟨u, (hB.cell (p := ⟨b, off + t, none⟩) hb).trans h1, h2.below hB⟩⟩
theorem Rows.lies {w : World} {base : Nat} {v : Value} {xss : List (List Int)} (h : Rows w base v xss) : LiesL w v xss := by
 have h0 := h
 obtain ⟨ao, cap, rfl⟩ := h0.shape
 obtain ⟨vs, hl, ho, he⟩ := h
 by_cases hne : xss = []
 ·subst hne
  exact .inl ⟨rfl, ao, cap, rfl⟩
 ·rcases ho.2 with ⟨e, hn⟩ | ⟨g, cap', cur, e, hb, hg, hnc, hcm, _⟩
  ·cases xss with
   | nil => exact absurd rfl hne
   | cons _ _ => simp at hl; omega
  ·rw [hl] at e
   cases e
   refine .inr ⟨hne, g, 0, cap, rfl, (ho.lt g rfl).2, by omega, fun t ht => ?_⟩
   obtain ⟨u, h1, h2⟩ := he t ht
   refine ⟨u, ?_, Lies.of_own h2⟩
   have := ho.cells (g := g) rfl t u h1
   rw [Addr.add_lit] at this
   exact this
end
section
open Go.RowKit
def putFr (bs load : List Int) : List Int × Int := if load.length ≤ 4096 then (bs ++ frameF load, 0) else ([], 5)
def SizeOK : Prop := ∀ (n : Int) (w : World), -9223372036854775808 ≤ n → n ≤ 9223372036854775807 → Calls Tryz.prog 52 #[.int .i64 n] w fun e w' => e = .returned (.int .i64 (sizeF n)) ∧ Below w.heap.size w w'
def PutOK : Prop := ∀ (vb vl : Value) (bs load : List Int) (w : World), Lies .u8 w vb bs → Lies .u8 w vl load → (∀ c ∈ load, 0 ≤ c ∧ c < 256) → bs.length ≤ 100000 →
  Calls Tryz.prog 146 #[vb, vl] w fun e w' => ∃ v', e = .returned (.tuple #[v', .int .i64 (putFr bs load).2]) ∧ w'.ownsRow w.heap.size 5 1 v' (putFr bs load).1.length ((putFr bs load).1.map (Value.int .u8)) ∧ Below w.heap.size w w'
def ScanOK : Prop := ∀ (v : Value) (bs : List Int) (w : World), Lies .u8 w v bs → (∀ c ∈ bs, 0 ≤ c ∧ c < 256) → bs.length ≤ 1000000 →
  Calls Tryz.prog 71 #[v] w fun e w' => ∃ v', e = .returned (.tuple #[v', .int .i64 (scanF bs).2]) ∧ LiesL w' v' (scanF bs).1 ∧ Below w.heap.size w w'
end
section
open Go.RowKit
theorem owns_any7 {w : World} {base e size n : Nat} {v : Value} {xs : List Value} (h : w.ownsRow base e size v n xs) : w.ownsRow 0 e size v n xs := by
 obtain ⟨hl, h0 | ⟨g, cap, cur, rfl, _, r⟩⟩ := h
 ·exact ⟨hl, .inl h0⟩
 ·exact ⟨hl, .inr ⟨g, cap, cur, rfl, Nat.zero_le _, r⟩⟩
def rcells (d : Dk) (vb : Value) : Array Value := #[.int .i64 (d.room : Int), vb, .int .i64 (d.base : Int), .int .i64 (d.fbase : Int), .int .i64 (d.fend : Int), .bool d.off, .bool d.armed, .int .i64 (d.fuse : Int)]
structure RD (w : World) (p : Nat) (vb : Value) (d : Dk) : Prop where
 box : Box w p (rcells d vb) 31
 own : w.ownsRow 0 5 1 vb d.bs.length (d.bs.map (Value.int .u8))
theorem RD.apart {w : World} {p : Nat} {vb : Value} {d : Dk} (h : RD w p vb d) : vb.ownBlock ≠ some p := by
 intro e
 obtain ⟨_, ⟨rfl, _⟩ | ⟨g, cap, cur, rfl, _, hh, _⟩⟩ := h.own
 ·cases e
 ·cases e
  have := h.box
  unfold Box at this
  rw [hh] at this
  cases this
theorem RD.keep {S : Nat → Prop} {w w' : World} {p : Nat} {vb : Value} {d : Dk} (h : RD w p vb d) (hk : KeepBut S w w') (hp : ¬ S p) (hg : ∀ g, vb.ownBlock = some g → ¬ S g) : RD w' p vb d :=
 ⟨h.box.keep hk hp, owns_keep h.own hk hg⟩
theorem RD.below {w w' : World} {p : Nat} {vb : Value} {d : Dk} (h : RD w p vb d) (hB : Below w.heap.size w w') : RD w' p vb d :=
 h.keep (KeepBut.of_below (fun _ => False) hB) (fun h => h) (fun _ _ h => h)
theorem RD.at {w : World} {p : Nat} {vb : Value} {d : Dk} (h : RD w p vb d) : w.cell? ⟨p, 0, none⟩ = some (.int .i64 (d.room : Int)) ∧ w.cell? ⟨p, 1, none⟩ = some vb ∧ w.cell? ⟨p, 2, none⟩ = some (.int .i64 (d.base : Int)) ∧ w.cell? ⟨p, 3, none⟩ = some (.int .i64 (d.fbase : Int)) ∧ w.cell? ⟨p, 4, none⟩ = some (.int .i64 (d.fend : Int)) ∧ w.cell? ⟨p, 5, none⟩ = some (.bool d.off) ∧ w.cell? ⟨p, 6, none⟩ = some (.bool d.armed) ∧ w.cell? ⟨p, 7, none⟩ = some (.int .i64 (d.fuse : Int)) :=
 ⟨h.box.cell 0 _ rfl, h.box.cell 1 _ rfl, h.box.cell 2 _ rfl, h.box.cell 3 _ rfl, h.box.cell 4 _ rfl, h.box.cell 5 _ rfl, h.box.cell 6 _ rfl, h.box.cell 7 _ rfl⟩
theorem RD.put {w : World} {p i : Nat} {vb v : Value} {d d' : Dk} (h : RD w p vb d) (he : (rcells d vb).setIfInBounds i v = rcells d' vb) (hb : d'.bs = d.bs) : RD (w.setCell ⟨p, i, none⟩ v) p vb d' ∧ KeepBut (fun k => k = p) w (w.setCell ⟨p, i, none⟩ v) := by
 have hk : KeepBut (fun k => k = p) w (w.setCell ⟨p, i, none⟩ v) := (KeepBut.refl (fun k => k = p) w).setCell (p := ⟨p, i, none⟩) (.inl rfl) _
 refine ⟨⟨?_, ?_⟩, hk⟩
 ·have := h.box.set (i := i) (v := v)
  rw [he] at this
  exact this
 ·rw [hb]
  exact owns_keep h.own hk (fun g hg e => h.apart (by rw [hg, e]))
theorem RD.bytes {w : World} {p : Nat} {vb vb' : Value} {d : Dk} {ys : List Int} (h : RD w p vb d) (ho : w.ownsRow 0 5 1 vb' ys.length (ys.map (Value.int .u8))) (hn : vb'.ownBlock ≠ some p) : RD (w.setCell ⟨p, 1, none⟩ vb') p vb' { d with bs := ys } ∧ KeepBut (fun k => k = p) w (w.setCell ⟨p, 1, none⟩ vb') := by
 have hk : KeepBut (fun k => k = p) w (w.setCell ⟨p, 1, none⟩ vb') := (KeepBut.refl (fun k => k = p) w).setCell (p := ⟨p, 1, none⟩) (.inl rfl) _
 refine ⟨⟨h.box.set (i := 1) (v := vb'), ?_⟩, hk⟩
 exact owns_keep ho hk (fun g hg e => hn (by rw [hg, e]))
theorem RD.len {w : World} {p : Nat} {vb : Value} {d : Dk} (h : RD w p vb d) : ∃ (ao : Option Addr) (cap : Nat), vb = .slice ao d.bs.length cap := (Lies.of_own h.own).shape
structure RDid (w w' : World) (p : Nat) (vb : Value) (d' : Dk) : Prop where
 st : ∃ vb', RD w' p vb' d' ∧ (vb'.ownBlock = vb.ownBlock ∨ ∀ g, vb'.ownBlock = some g → w.heap.size ≤ g)
 keep : KeepBut (fun k => k = p) w w'
theorem RDid.same {w : World} {p : Nat} {vb : Value} {d : Dk} (h : RD w p vb d) : RDid w w p vb d := ⟨⟨vb, h, .inl rfl⟩, KeepBut.refl _ _⟩
end
end Go.Proofs.YtlegliimgjmphaaGreat
