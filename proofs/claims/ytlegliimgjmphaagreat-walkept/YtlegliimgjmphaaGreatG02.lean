/-
  Own texts put together: RWriter, Fields, Write, RSpec, Codec. Own work.
-/
import Derived.Test.YtlegliimgjmphaaGreatG01
import Derived.Lib.IndexBytes
namespace Go.Proofs.YtlegliimgjmphaaGreat
section
open Go.RowKit
structure RWr (w : World) (p : Nat) (v : Value) (xs : List Int) : Prop where
 box : Box w p #[v] 207
 own : w.ownsRow 0 5 1 v xs.length (xs.map (Value.int .u8))
theorem RWr.apart {w : World} {p : Nat} {v : Value} {xs : List Int} (h : RWr w p v xs) : v.ownBlock ≠ some p := by
 intro e
 obtain ⟨_, ⟨rfl, _⟩ | ⟨g, cap, cur, rfl, _, hh, _⟩⟩ := h.own
 ·cases e
 ·cases e
  have := h.box
  unfold Box at this
  rw [hh] at this
  cases this
structure RWrote (w w' : World) (p : Nat) (v v' : Value) (ys : List Int) : Prop where
 wr : RWr w' p v' ys
 keep : KeepBut (fun k => k = p ∨ v.ownBlock = some k) w w'
 place : v'.ownBlock = v.ownBlock ∨ ∃ g, v'.ownBlock = some g ∧ w.heap.size ≤ g
theorem owns_any {w : World} {base e size n : Nat} {v : Value} {xs : List Value} (h : w.ownsRow base e size v n xs) : w.ownsRow 0 e size v n xs := by
 obtain ⟨hl, h0 | ⟨g, cap, cur, rfl, _, r⟩⟩ := h
 ·exact ⟨hl, .inl h0⟩
 ·exact ⟨hl, .inr ⟨g, cap, cur, rfl, Nat.zero_le _, r⟩⟩
theorem owns_lt {w : World} {base e size n g : Nat} {v : Value} {xs : List Value} (h : w.ownsRow base e size v n xs) (hg : v.ownBlock = some g) : g < w.heap.size := by
 obtain ⟨_, ⟨rfl, _⟩ | ⟨g2, cap, cur, rfl, _, hh, _⟩⟩ := h
 ·cases hg
 ·cases hg
  exact (Array.getElem?_eq_some_iff.1 hh).1
theorem RWr.put {w w1 : World} {p : Nat} {v v' : Value} {xs ys : List Int} (h : RWr w p v xs) (hB : Below w.heap.size w w1) (ho : w1.ownsRow w.heap.size 5 1 v' ys.length (ys.map (Value.int .u8))) (hne : ys ≠ []) :
  RWrote w (w1.setCell ⟨p, 0, none⟩ v') p v v' ys := by
 have hb1 : Box w1 p #[v] 207 := (hB.block p h.box.lt).trans h.box
 have hpl : ∃ g, v'.ownBlock = some g ∧ w.heap.size ≤ g := by
  obtain ⟨hl, ⟨rfl, h0⟩ | ⟨g, cap, cur, rfl, hb, _⟩⟩ := ho
  ·exact absurd (List.eq_nil_of_length_eq_zero h0) hne
  ·exact ⟨g, rfl, hb⟩
 refine ⟨⟨?_, ?_⟩, ((KeepBut.of_below _ hB).setCell (.inl (.inl rfl)) _), .inr hpl⟩
 ·have := hb1.set (i := 0) (v := v')
  simpa using this
 ·refine owns_keep (owns_any ho) ((KeepBut.refl (fun k => k = p) w1).setCell (.inl rfl) _) ?_
  intro g hg e
  obtain ⟨g2, h1, h2⟩ := hpl
  rw [h1] at hg
  cases hg
  have := h.box.lt
  omega
theorem RWrote.trans {w w1 w2 : World} {p : Nat} {v v1 v2 : Value} {ys zs : List Int} (h : RWrote w w1 p v v1 ys) (h' : RWrote w1 w2 p v1 v2 zs) : RWrote w w2 p v v2 zs := by
 refine ⟨h'.wr, h.keep.trans h'.keep ?_, ?_⟩
 ·intro k hk hS
  rcases hS with hS | hS
  ·exact .inl hS
  ·rcases h.place with e | ⟨g, e, hg⟩
   ·exact .inr (e ▸ hS)
   ·rw [e] at hS; cases hS; omega
 ·rcases h'.place with e | ⟨g, e, hg⟩
  ·rcases h.place with e2 | ⟨g, e2, hg⟩
   ·exact .inl (e.trans e2)
   ·exact .inr ⟨g, e.trans e2, hg⟩
  ·exact .inr ⟨g, e, Nat.le_trans h.keep.size hg⟩
theorem RWr.same {w : World} {p : Nat} {v : Value} {xs : List Int} (h : RWr w p v xs) : RWrote w w p v v xs := ⟨h, KeepBut.refl _ _, .inl rfl⟩
theorem RWr.keep {S : Nat → Prop} {w w' : World} {p : Nat} {v : Value} {xs : List Int} (h : RWr w p v xs) (hk : KeepBut S w w') (hp : ¬ S p) (hg : ∀ g, v.ownBlock = some g → ¬ S g) : RWr w' p v xs :=
 ⟨h.box.keep hk hp, owns_keep h.own hk hg⟩
theorem RWr.put_at {w w1 : World} {p : Nat} {v v' : Value} {xs ys : List Int} (h : RWr w p v xs) (hg : w.grownBy w1 v.ownBlock) (ho : w1.ownsRow 0 5 1 v' ys.length (ys.map (Value.int .u8))) (hpl : v'.ownBlock = v.ownBlock ∨ v'.ownBlock = some w.heap.size) :
  Box w1 p #[v] 207 ∧ RWrote w (w1.setCell ⟨p, 0, none⟩ v') p v v' ys := by
 have hk : KeepBut (fun k => v.ownBlock = some k) w w1 := grown_keep hg (fun g e => e)
 have hb1 : Box w1 p #[v] 207 := h.box.keep hk h.apart
 refine ⟨hb1, ⟨?_, ?_⟩, ?_, ?_⟩
 ·have := hb1.set (i := 0) (v := v')
  simpa using this
 ·refine owns_keep ho ((KeepBut.refl (fun k => k = p) w1).setCell (.inl rfl) _) ?_
  intro g e hgp
  subst hgp
  rcases hpl with e2 | e2
  ·rw [e2] at e; exact h.apart e
  ·rw [e2] at e; cases e; exact Nat.lt_irrefl _ h.box.lt
 ·exact (hk.mono (fun k hk => .inr hk)).setCell (.inl (.inl rfl)) _
 ·rcases hpl with e | e
  ·exact .inl e
  ·exact .inr ⟨_, e, Nat.le_refl _⟩
end
section
open Go.RowKit
structure Fld where
 kind : Nat
 n : Nat
 s : ByteArray
 most : Int
def fld0 : Fld := ⟨0, 0, ⟨#[]⟩, 0⟩
def fcells (f : Fld) : Array Value := #[.int .u8 (f.kind : Nat), .int .u64 (f.n : Nat), .string f.s, .int .i64 f.most]
structure Fld.ok (f : Fld) : Prop where
 kind : f.kind < 256
 n : f.n < 18446744073709551616
 lo : -9223372036854775808 ≤ f.most
 hi : f.most ≤ 9223372036854775807
 s : f.s.size ≤ 9223372036854775807
def FLies (w : World) (v : Value) (fs : List Fld) : Prop :=
 (fs = [] ∧ ∃ (ao : Option Addr) (cap : Nat), v = .slice ao 0 cap ∧ (ao = none → cap = 0)) ∨
 (fs ≠ [] ∧ ∃ b off cap : Nat, v = .slice (some ⟨b, off, none⟩) fs.length cap ∧ b < w.heap.size ∧ fs.length ≤ cap ∧ cap ≤ maxLen ∧
  ∀ t, t < fs.length → ∀ j, j < 4 → w.cell? ⟨b, off + t * 4 + j, none⟩ = (fcells (fs.getD t fld0))[j]?)
theorem FLies.below {w w' : World} {v : Value} {fs : List Fld} {B : Nat} (hB : Below B w w') (hs : w.heap.size ≤ B) (h : FLies w v fs) : FLies w' v fs := by
 rcases h with h | ⟨hx, b, off, cap, rfl, hb, hl, hm, hc⟩
 ·exact .inl h
 ·exact .inr ⟨hx, b, off, cap, rfl, Nat.lt_of_lt_of_le hb hB.size, hl, hm, fun t ht j hj => (hB.cell (p := ⟨b, off + t * 4 + j, none⟩) (Nat.lt_of_lt_of_le hb hs)).trans (hc t ht j hj)⟩
theorem FLies.shape {w : World} {v : Value} {fs : List Fld} (h : FLies w v fs) : ∃ (ao : Option Addr) (cap : Nat), v = .slice ao fs.length cap ∧ fs.length ≤ cap ∧ fs.length ≤ maxLen := by
 rcases h with ⟨rfl, ao, cap, rfl, _⟩ | ⟨_, b, off, cap, rfl, _, hl, hm, _⟩
 ·exact ⟨ao, cap, rfl, by simp, by simp⟩
 ·exact ⟨_, cap, rfl, hl, Nat.le_trans hl hm⟩
theorem FLies.take {w : World} {ao : Option Addr} {cap k : Nat} {fs : List Fld} (h : FLies w (.slice ao fs.length cap) fs) (hk : k ≤ fs.length) : FLies w (.slice ao k cap) (fs.take k) := by
 rcases h with ⟨rfl, ao', cap', e, hn⟩ | ⟨hne, b, off, cap', e, hb, hl, hm, hc⟩
 ·cases e
  obtain rfl : k = 0 := by simpa using hk
  exact .inl ⟨by simp, ao, cap, rfl, hn⟩
 ·cases e
  by_cases h0 : k = 0
  ·subst h0
   exact .inl ⟨by simp, _, _, rfl, fun h => by cases h⟩
  ·have hlen : (fs.take k).length = k := by simp; omega
   refine .inr ⟨?_, b, off, cap, by rw [hlen], hb, by omega, hm, fun t ht j hj => ?_⟩
   ·intro e; rw [e] at hlen; simp at hlen; omega
   ·rw [hc t (by omega) j hj]
    have : t < k := by omega
    simp [List.getD, this]
theorem infoKey : (Tryz.prog.info? 81).map (fun i => (i.zero, i.size)) = some (some (.agg (Array.replicate 8 (.int .u8 0))), 8) := by kernel_rfl
end
section
open Go.RowKit
def roomFor (n : Nat) : Prop := n + 40 ≤ 140737488355328
end
section
open Go
structure RS where
 bs : List Int
 went : Nat
 why : Int
 fat : Nat
def RS.fail (r : RS) (e : Int) : RS := { r with why := e, fat := r.went }
def RS.go (r : RS) (k : Nat) : RS := { r with bs := r.bs.drop k, went := r.went + k }
def numS (most : Nat) (r : RS) : Int × RS :=
 if r.why ≠ 0 then (0, r)
 else if (longS r.bs).2.2 ≠ 0 then (0, r.fail (longS r.bs).2.2)
 else if (most : Int) < (longS r.bs).1 then (0, r.fail 5)
 else ((longS r.bs).1, r.go (longS r.bs).2.1.toNat)
def byteS (r : RS) : Int × RS := if r.why ≠ 0 then (0, r) else if r.bs = [] then (0, r.fail 4) else (r.bs.getD 0 0, r.go 1)
def textS (most : Int) (r : RS) : List Int × RS :=
 if r.why ≠ 0 then ([], r)
 else if (longS r.bs).2.2 ≠ 0 then ([], r.fail (longS r.bs).2.2)
 else if 0 ≤ most ∧ most < (longS r.bs).1 then ([], r.fail 5)
 else if (r.bs.length : Int) - (longS r.bs).2.1 < (longS r.bs).1 then ([], r.fail 4)
 else ((r.bs.drop (longS r.bs).2.1.toNat).take (longS r.bs).1.toNat, r.go ((longS r.bs).2.1.toNat + (longS r.bs).1.toNat))
def keyS (r : RS) : List Int × RS := if r.why ≠ 0 then (List.replicate 8 0, r) else if r.bs.length < 8 then (List.replicate 8 0, r.fail 4) else (r.bs.take 8, r.go 8)
def leftS (r : RS) : Nat := if r.why ≠ 0 then 0 else r.bs.length
def endS (r : RS) : RS := if r.why ≠ 0 then r else if r.bs = [] then r else r.fail 3
theorem num_stays {r : RS} (h : r.why ≠ 0) (m : Nat) : numS m r = (0, r) := by unfold numS; rw [if_pos h]
theorem byte_stays {r : RS} (h : r.why ≠ 0) : byteS r = (0, r) := by unfold byteS; rw [if_pos h]
theorem text_stays {r : RS} (h : r.why ≠ 0) (m : Int) : textS m r = ([], r) := by unfold textS; rw [if_pos h]
theorem key_stays {r : RS} (h : r.why ≠ 0) : keyS r = (List.replicate 8 0, r) := by unfold keyS; rw [if_pos h]
theorem long_back' (n : Nat) (xs : List Int) (hn : n < 18446744073709551616) : longS (shortS n ++ xs) = ((n : Int), ((shortS n).length : Int), 0) := by
 have hs := size_short n xs
 have hl10 := shortS_len10 hn
 have hl0 : (shortS n).length ≠ 0 := by rw [shortS_eq]; split <;> simp
 have hg : ∀ i, i < (shortS n).length → (shortS n ++ xs).getD i 0 = (shortS n).getD i 0 := by
  intro i hi; simp [List.getD, List.getElem?_append_left hi]
 unfold longS
 rw [hs, if_neg hl0, if_neg, if_neg]
 ·rw [List.take_left, val_short]
 ·rintro (h | ⟨h, h'⟩)
  ·omega
  ·rw [hg _ (by omega)] at h'
   have := short_tenth n hn h
   rw [h] at h'
   simp only [Nat.add_one_sub_one] at h'
   omega
 ·rintro ⟨h, h'⟩
  rw [hg _ (by omega)] at h'
  refine short_last n ?_ h'
  intro e
  subst e
  rw [shortS_lt (by decide)] at h
  simp at h
theorem go_append (ys zs : List Int) (w : Nat) (e : Int) (f : Nat) : RS.go ⟨ys ++ zs, w, e, f⟩ ys.length = ⟨zs, w + ys.length, e, f⟩ := by
 unfold RS.go; simp
theorem num_back (n : Nat) (hn : n < 18446744073709551616) (ys : List Int) (w : Nat) (m : Nat) (hm : n ≤ m) (f : Nat) : numS m ⟨shortS n ++ ys, w, 0, f⟩ = ((n : Int), ⟨ys, w + (shortS n).length, 0, f⟩) := by
 unfold numS
 rw [if_neg (by simp), long_back' n ys hn]
 simp only
 rw [if_neg (by simp), if_neg (by omega), Int.toNat_natCast, go_append]
theorem byte_back (c : Int) (ys : List Int) (w : Nat) (f : Nat) : byteS ⟨[c] ++ ys, w, 0, f⟩ = (c, ⟨ys, w + 1, 0, f⟩) := by
 unfold byteS
 rw [if_neg (by simp), if_neg (by simp)]
 simp [RS.go]
theorem key_back (k : List Int) (hk : k.length = 8) (ys : List Int) (w : Nat) (f : Nat) : keyS ⟨k ++ ys, w, 0, f⟩ = (k, ⟨ys, w + 8, 0, f⟩) := by
 unfold keyS
 rw [if_neg (by simp), if_neg (by simp; omega)]
 have h1 : (k ++ ys).take 8 = k := by rw [← hk]; simp
 have h2 : (k ++ ys).drop 8 = ys := by rw [← hk]; simp
 simp [RS.go, h1, h2]
theorem long_cases' (xs : List Int) (hx : ∀ c ∈ xs, 0 ≤ c ∧ c < 256) :
  (∃ e : Int, longS xs = (0, 0, e) ∧ e ≠ 0) ∨ (∃ N s : Nat, longS xs = ((N : Int), (s : Int), 0) ∧ 1 ≤ s ∧ s ≤ xs.length ∧ N < 18446744073709551616 ∧ shortS N = xs.take s) := by
 unfold longS
 by_cases h0 : sizeS xs = 0
 ·rw [if_pos h0]; exact .inl ⟨4, rfl, by decide⟩
 ·rw [if_neg h0]
  by_cases hA : 1 < sizeS xs ∧ xs.getD (sizeS xs - 1) 0 = 0
  ·rw [if_pos hA]; exact .inl ⟨3, rfl, by decide⟩
  ·rw [if_neg hA]
   by_cases hB : 10 < sizeS xs ∨ sizeS xs = 10 ∧ 1 < xs.getD (sizeS xs - 1) 0
   ·rw [if_pos hB]; exact .inl ⟨3, rfl, by decide⟩
   ·rw [if_neg hB]
    refine .inr ⟨_, _, rfl, by omega, sizeS_le xs, ?_, ?_⟩
    ·have hl := sizeS_le xs
     have hlt := valS_lt (xs.take (sizeS xs))
     have hlen : (xs.take (sizeS xs)).length = sizeS xs := by simp; omega
     rw [hlen] at hlt
     by_cases h10 : sizeS xs = 10
     ·have hlast : xs.getD 9 0 ≤ 1 := by
       have : ¬ 1 < xs.getD (sizeS xs - 1) 0 := fun h' => hB (.inr ⟨h10, h'⟩)
       rw [h10] at this
       simpa using this
      have hb := hx (xs.getD 9 0) (by simp [List.getD, show 9 < xs.length by omega])
      rw [h10, take_snoc xs 9 (by omega), valS_snoc]
      have h9 := valS_lt (xs.take 9)
      have hl9 : (xs.take 9).length = 9 := by simp; omega
      rw [hl9] at h9 ⊢
      have e63 : (2 : Nat) ^ (7 * 9) = 9223372036854775808 := by decide
      rw [e63] at h9 ⊢
      have : (xs.getD 9 0 % 128).toNat ≤ 1 := by omega
      have := Nat.mul_le_mul_right 9223372036854775808 this
      omega
     ·have : (2 : Nat) ^ (7 * sizeS xs) ≤ 2 ^ 63 := Nat.pow_le_pow_right (by decide) (by omega)
      have e63 : (2 : Nat) ^ 63 = 9223372036854775808 := by decide
      omega
    ·exact shortS_val xs hx h0 (fun h => fun h' => hA ⟨h, h'⟩)
def ReadAs (r r' : RS) (ys : List Int) : Prop :=
 (r'.why = 0 ∧ r.bs = ys ++ r'.bs ∧ r'.went = r.went + ys.length ∧ r'.fat = r.fat) ∨ (r'.why ≠ 0 ∧ r'.bs = r.bs ∧ r'.went = r.went ∧ r'.fat = r.went)
theorem fail_as (r : RS) (e : Int) (he : e ≠ 0) (ys : List Int) : ReadAs r (r.fail e) ys := .inr ⟨he, rfl, rfl, rfl⟩
theorem go_as (r : RS) (h : r.why = 0) (k : Nat) (hk : k ≤ r.bs.length) : ReadAs r (r.go k) (r.bs.take k) :=
 .inl ⟨h, by simp [RS.go], by simp [RS.go]; omega, rfl⟩
theorem num_one (m : Nat) (r : RS) (h : r.why = 0) (hx : ∀ c ∈ r.bs, 0 ≤ c ∧ c < 256) : ∃ n : Nat, (numS m r).1 = (n : Int) ∧ n < 18446744073709551616 ∧ ReadAs r (numS m r).2 (shortS n) := by
 unfold numS
 rw [if_neg (by simp [h])]
 rcases long_cases' r.bs hx with ⟨e, hl, he⟩ | ⟨N, s, hl, h1, hs, hN, hS⟩
 ·rw [hl]
  simp only
  rw [if_pos he]
  exact ⟨0, rfl, by decide, fail_as r e he _⟩
 ·rw [hl]
  simp only
  rw [if_neg (by simp)]
  split
  ·exact ⟨0, rfl, by decide, fail_as r 5 (by decide) _⟩
  ·refine ⟨N, rfl, hN, ?_⟩
   rw [Int.toNat_natCast, hS]
   exact go_as r h s hs
theorem byte_one (r : RS) (h : r.why = 0) : ReadAs r (byteS r).2 [(byteS r).1] := by
 unfold byteS
 rw [if_neg (by simp [h])]
 by_cases h0 : r.bs = []
 ·rw [if_pos h0]; exact fail_as r 4 (by decide) _
 ·rw [if_neg h0]
  have := go_as r h 1 (by cases hb : r.bs with | nil => exact absurd hb h0 | cons => simp)
  cases hb : r.bs with
  | nil => exact absurd hb h0
  | cons c t => rw [hb] at this; simpa using this
theorem key_one (r : RS) (h : r.why = 0) : ReadAs r (keyS r).2 (keyS r).1 := by
 unfold keyS
 rw [if_neg (by simp [h])]
 split
 ·exact fail_as r 4 (by decide) _
 ·exact go_as r h 8 (by omega)
theorem text_one (m : Int) (r : RS) (h : r.why = 0) (hx : ∀ c ∈ r.bs, 0 ≤ c ∧ c < 256) : ReadAs r (textS m r).2 (shortS (textS m r).1.length ++ (textS m r).1) := by
 unfold textS
 rw [if_neg (by simp [h])]
 rcases long_cases' r.bs hx with ⟨e, hl, he⟩ | ⟨N, s, hl, h1, hs, hN, hS⟩
 ·rw [hl]
  simp only
  rw [if_pos he]
  exact fail_as r e he _
 ·rw [hl]
  simp only
  rw [if_neg (by simp)]
  split
  ·exact fail_as r 5 (by decide) _
  ·split
   ·exact fail_as r 4 (by decide) _
   ·rename_i hle
    simp only [Int.toNat_natCast]
    have hlen : ((r.bs.drop s).take N).length = N := by rw [List.length_take, List.length_drop]; omega
    rw [hlen, hS]
    have := go_as r h (s + N) (by omega)
    rw [List.take_add] at this
    exact this
end
section
open Go
def ReadsTo (r r' : RS) (ys : List Int) : Prop :=
 (r'.why = 0 ∧ r.bs = ys ++ r'.bs ∧ r'.went = r.went + ys.length ∧ r'.fat = r.fat) ∨
 (r'.why ≠ 0 ∧ ∃ k, k ≤ r.bs.length ∧ r'.bs = r.bs.drop k ∧ r'.went = r.went + k ∧ r'.fat = r.went + k)
theorem ReadAs.to {r r' : RS} {ys : List Int} (h : ReadAs r r' ys) : ReadsTo r r' ys := by
 rcases h with h | ⟨h1, h2, h3, h4⟩
 ·exact .inl h
 ·exact .inr ⟨h1, 0, Nat.zero_le _, by simpa using h2, by simpa using h3, by simpa using h4⟩
theorem ReadsTo.bytes {r r' : RS} {ys : List Int} (h : ReadsTo r r' ys) (hx : ∀ c ∈ r.bs, 0 ≤ c ∧ c < 256) : ∀ c ∈ r'.bs, 0 ≤ c ∧ c < 256 := by
 rcases h with ⟨_, h, _⟩ | ⟨_, k, _, h, _⟩
 ·intro c hc; exact hx c (by rw [h]; exact List.mem_append_right _ hc)
 ·intro c hc; rw [h] at hc; exact hx c (List.mem_of_mem_drop hc)
theorem ReadsTo.nil {r : RS} (h : r.why = 0) : ReadsTo r r [] := .inl ⟨h, rfl, rfl, rfl⟩
theorem ReadsTo.trans {r r1 r2 : RS} {ys zs : List Int} (h : ReadsTo r r1 ys) (h1 : r1.why = 0) (h2 : ReadsTo r1 r2 zs) : ReadsTo r r2 (ys ++ zs) := by
 rcases h with ⟨_, e1, e2, e3⟩ | ⟨hn, _⟩
 ·rcases h2 with ⟨g0, g1, g2, g3⟩ | ⟨g0, k, gk, g1, g2, g3⟩
  ·exact .inl ⟨g0, by rw [e1, g1, List.append_assoc], by rw [g2, e2, List.length_append]; omega, by rw [g3, e3]⟩
  ·exact .inr ⟨g0, ys.length + k, by rw [e1, List.length_append]; omega, by rw [g1, e1, ← List.drop_drop, List.drop_left], by rw [g2, e2]; omega, by rw [g3, e2]; omega⟩
 ·exact absurd h1 hn
theorem ReadsTo.stuck {r r1 : RS} {ys zs : List Int} (h : ReadsTo r r1 ys) (h1 : r1.why ≠ 0) : ReadsTo r r1 zs := by
 rcases h with ⟨h0, _⟩ | h
 ·exact absurd h0 h1
 ·exact .inr h
structure Codec (α : Type) where
 enc : α → List Int
 dec : RS → α × RS
structure Codec.Good {α : Type} (C : Codec α) (ok rng : α → Prop) : Prop where
 stays : ∀ r, r.why ≠ 0 → (C.dec r).2 = r
 back : ∀ a, ok a → ∀ ys w f, C.dec ⟨C.enc a ++ ys, w, 0, f⟩ = (a, ⟨ys, w + (C.enc a).length, 0, f⟩)
 one : ∀ r, r.why = 0 → (∀ c ∈ r.bs, 0 ≤ c ∧ c < 256) → ReadsTo r (C.dec r).2 (C.enc (C.dec r).1) ∧ ((C.dec r).2.why = 0 → rng (C.dec r).1)
def numC (most : Nat) : Codec Nat := ⟨shortS, fun r => ((numS most r).1.toNat, (numS most r).2)⟩
theorem num_le (m : Nat) (r : RS) (h : r.why = 0) (hx : ∀ c ∈ r.bs, 0 ≤ c ∧ c < 256) : ∃ n : Nat, (numS m r).1 = (n : Int) ∧ n ≤ m := by
 unfold numS
 rw [if_neg (by simp [h])]
 rcases long_cases' r.bs hx with ⟨e, hl, he⟩ | ⟨N, s, hl, h1, hs, hN, hS⟩
 ·rw [hl]
  simp only
  rw [if_pos he]
  exact ⟨0, rfl, Nat.zero_le _⟩
 ·rw [hl]
  simp only
  rw [if_neg (by simp)]
  split
  ·exact ⟨0, rfl, Nat.zero_le _⟩
  ·exact ⟨N, rfl, by omega⟩
theorem numC_good (most : Nat) (hm : most < 18446744073709551616) : (numC most).Good (fun n => n ≤ most) (fun n => n ≤ most) where
 stays := fun r h => by show (numS most r).2 = r; rw [num_stays h]
 back := fun n hn ys w f => by
  show (((numS most ⟨shortS n ++ ys, w, 0, f⟩).1.toNat, (numS most ⟨shortS n ++ ys, w, 0, f⟩).2) : Nat × RS) = _
  rw [num_back n (by omega) ys w most hn f]
  rfl
 one := fun r h hx => by
  obtain ⟨n, e, _, hr⟩ := num_one most r h hx
  obtain ⟨n2, e2, hle⟩ := num_le most r h hx
  have he : n2 = n := by omega
  subst he
  refine ⟨?_, fun _ => ?_⟩
  ·show ReadsTo r (numS most r).2 (shortS (numS most r).1.toNat)
   rw [e]
   exact hr.to
  ·show (numS most r).1.toNat ≤ most
   rw [e]
   simpa using hle
def byteC : Codec Int := ⟨fun c => [c], byteS⟩
theorem byteC_good : byteC.Good (fun _ => True) (fun c => 0 ≤ c ∧ c < 256) where
 stays := fun r h => by show (byteS r).2 = r; rw [byte_stays h]
 back := fun c _ ys w f => byte_back c ys w f
 one := fun r h hx => ⟨(byte_one r h).to, fun hw => by
  show 0 ≤ (byteS r).1 ∧ (byteS r).1 < 256
  have hw2 : (byteS r).2.why = 0 := hw
  unfold byteS at hw2 ⊢
  rw [if_neg (by simp [h])] at hw2 ⊢
  split
  ·show (0 : Int) ≤ 0 ∧ (0 : Int) < 256
   exact ⟨by decide, by decide⟩
  ·rename_i h0
   cases hb : r.bs with
   | nil => exact absurd hb h0
   | cons c t => exact hx c (by rw [hb]; simp)⟩
def keyC : Codec (List Int) := ⟨fun k => k, keyS⟩
theorem keyC_good : keyC.Good (fun k => k.length = 8) (fun k => k.length = 8 ∧ ∀ c ∈ k, 0 ≤ c ∧ c < 256) where
 stays := fun r h => by show (keyS r).2 = r; rw [key_stays h]
 back := fun k hk ys w f => by
  show keyS ⟨k ++ ys, w, 0, f⟩ = _
  rw [key_back k hk ys w f]
  show _ = (k, (⟨ys, w + k.length, 0, f⟩ : RS))
  rw [hk]
 one := fun r h hx => ⟨(key_one r h).to, fun hw => by
  have hw2 : (keyS r).2.why = 0 := hw
  show (keyS r).1.length = 8 ∧ ∀ c ∈ (keyS r).1, 0 ≤ c ∧ c < 256
  unfold keyS at hw2 ⊢
  rw [if_neg (by simp [h])] at hw2 ⊢
  split at hw2
  ·simp [RS.fail] at hw2
  ·rename_i h8
   rw [if_neg h8]
   exact ⟨by simp; omega, fun c hc => hx c (List.mem_of_mem_take hc)⟩⟩
def textC (most : Nat) : Codec (List Int) := ⟨fun s => shortS s.length ++ s, textS most⟩
theorem text_back2 (most : Nat) (s : List Int) (hs : s.length ≤ most) (hm : most < 18446744073709551616) (ys : List Int) (w : Nat) (f : Nat) : textS (most : Int) ⟨shortS s.length ++ s ++ ys, w, 0, f⟩ = (s, ⟨ys, w + (shortS s.length ++ s).length, 0, f⟩) := by
 unfold textS
 rw [if_neg (by simp), List.append_assoc, long_back' s.length _ (by omega)]
 simp only
 rw [if_neg (by simp), if_neg (by omega), if_neg (by simp; omega)]
 simp [RS.go]
theorem text_len (most : Nat) (r : RS) (h : r.why = 0) (hx : ∀ c ∈ r.bs, 0 ≤ c ∧ c < 256) : (textS (most : Int) r).1.length ≤ most ∧ ∀ c ∈ (textS (most : Int) r).1, 0 ≤ c ∧ c < 256 := by
 unfold textS
 rw [if_neg (by simp [h])]
 rcases long_cases' r.bs hx with ⟨e, hl, he⟩ | ⟨N, s, hl, h1, hs, hN, hS⟩
 ·rw [hl]
  simp only
  rw [if_pos he]
  exact ⟨Nat.zero_le _, fun c hc => by cases hc⟩
 ·rw [hl]
  simp only
  rw [if_neg (by simp)]
  split
  ·exact ⟨Nat.zero_le _, fun c hc => by cases hc⟩
  ·rename_i hle
   split
   ·exact ⟨Nat.zero_le _, fun c hc => by cases hc⟩
   ·simp only [Int.toNat_natCast]
    refine ⟨by rw [List.length_take]; omega, fun c hc => hx c (List.mem_of_mem_drop (List.mem_of_mem_take hc))⟩
theorem textC_good (most : Nat) (hm : most < 18446744073709551616) : (textC most).Good (fun s => s.length ≤ most) (fun s => s.length ≤ most ∧ ∀ c ∈ s, 0 ≤ c ∧ c < 256) where
 stays := fun r h => by show (textS most r).2 = r; rw [text_stays h]
 back := fun s hs ys w f => text_back2 most s hs hm ys w f
 one := fun r h hx => ⟨(text_one most r h hx).to, fun _ => text_len most r h hx⟩
section
variable {α β : Type}
def pairC (A : Codec α) (B : Codec β) : Codec (α × β) := ⟨fun x => A.enc x.1 ++ B.enc x.2, fun r => (((A.dec r).1, (B.dec (A.dec r).2).1), (B.dec (A.dec r).2).2)⟩
theorem pairC_good {A : Codec α} {B : Codec β} {okA rngA : α → Prop} {okB rngB : β → Prop} (hA : A.Good okA rngA) (hB : B.Good okB rngB) : (pairC A B).Good (fun x => okA x.1 ∧ okB x.2) (fun x => rngA x.1 ∧ rngB x.2) where
 stays := fun r h => by show (B.dec (A.dec r).2).2 = r; rw [hA.stays r h, hB.stays r h]
 back := fun x hx ys w f => by
  show ((((A.dec ⟨A.enc x.1 ++ B.enc x.2 ++ ys, w, 0, f⟩).1, (B.dec (A.dec ⟨A.enc x.1 ++ B.enc x.2 ++ ys, w, 0, f⟩).2).1), (B.dec (A.dec ⟨A.enc x.1 ++ B.enc x.2 ++ ys, w, 0, f⟩).2).2) : (α × β) × RS) = _
  rw [List.append_assoc, hA.back x.1 hx.1]
  simp only
  rw [hB.back x.2 hx.2]
  simp only [pairC, List.length_append, Nat.add_assoc]
 one := fun r h hx => by
  obtain ⟨r1, g1⟩ := hA.one r h hx
  by_cases hw : (A.dec r).2.why = 0
  ·obtain ⟨r2, g2⟩ := hB.one (A.dec r).2 hw (r1.bytes hx)
   exact ⟨r1.trans hw r2, fun hz => ⟨g1 hw, g2 hz⟩⟩
  ·have hs := hB.stays (A.dec r).2 hw
   refine ⟨?_, fun hz => ?_⟩
   ·show ReadsTo r (B.dec (A.dec r).2).2 _
    rw [hs]
    exact r1.stuck hw
   ·have hz2 : (B.dec (A.dec r).2).2.why = 0 := hz
    rw [hs] at hz2
    exact absurd hz2 hw
def isoC (A : Codec α) (f : α → β) (g : β → α) : Codec β := ⟨fun b => A.enc (g b), fun r => (f (A.dec r).1, (A.dec r).2)⟩
theorem isoC_good {A : Codec α} {okA rngA : α → Prop} {f : α → β} {g : β → α} (hA : A.Good okA rngA) (hgf : ∀ a, g (f a) = a) (hfg : ∀ b, f (g b) = b) : (isoC A f g).Good (fun b => okA (g b)) (fun b => rngA (g b)) where
 stays := fun r h => hA.stays r h
 back := fun b hb ys w e => by
  show ((f (A.dec ⟨A.enc (g b) ++ ys, w, 0, e⟩).1, (A.dec ⟨A.enc (g b) ++ ys, w, 0, e⟩).2) : β × RS) = _
  rw [hA.back (g b) hb, hfg]
  rfl
 one := fun r h hx => by
  obtain ⟨r1, g1⟩ := hA.one r h hx
  refine ⟨?_, fun hz => ?_⟩
  ·show ReadsTo r (A.dec r).2 (A.enc (g (f (A.dec r).1)))
   rw [hgf]; exact r1
  ·show rngA (g (f (A.dec r).1))
   rw [hgf]; exact g1 hz
def repEnc (A : Codec α) (l : List α) : List Int := l.flatMap A.enc
def repDec (A : Codec α) : Nat → RS → List α × RS
 | 0, r => ([], r)
 | n + 1, r => ((A.dec r).1 :: (repDec A n (A.dec r).2).1, (repDec A n (A.dec r).2).2)
theorem rep_len (A : Codec α) : ∀ (n : Nat) (r : RS), (repDec A n r).1.length = n
 | 0, _ => rfl
 | n + 1, r => by simp [repDec, rep_len A n]
theorem rep_stays {A : Codec α} {ok rng : α → Prop} (hA : A.Good ok rng) : ∀ (n : Nat) (r : RS), r.why ≠ 0 → (repDec A n r).2 = r
 | 0, _, _ => rfl
 | n + 1, r, h => by
  show (repDec A n (A.dec r).2).2 = r
  rw [hA.stays r h]
  exact rep_stays hA n r h
theorem rep_back {A : Codec α} {ok rng : α → Prop} (hA : A.Good ok rng) : ∀ (l : List α), (∀ x ∈ l, ok x) → ∀ ys w f, repDec A l.length ⟨repEnc A l ++ ys, w, 0, f⟩ = (l, ⟨ys, w + (repEnc A l).length, 0, f⟩)
 | [], _, ys, w, f => by simp [repDec, repEnc]
 | x :: l, h, ys, w, f => by
  have e : repEnc A (x :: l) = A.enc x ++ repEnc A l := by simp [repEnc]
  show (((A.dec ⟨repEnc A (x :: l) ++ ys, w, 0, f⟩).1 :: (repDec A l.length (A.dec ⟨repEnc A (x :: l) ++ ys, w, 0, f⟩).2).1, (repDec A l.length (A.dec ⟨repEnc A (x :: l) ++ ys, w, 0, f⟩).2).2) : List α × RS) = _
  rw [e, List.append_assoc, hA.back x (h x List.mem_cons_self)]
  simp only
  rw [rep_back hA l (fun y hy => h y (List.mem_cons_of_mem _ hy))]
  simp only [List.length_append, Nat.add_assoc]
theorem rep_one {A : Codec α} {ok rng : α → Prop} (hA : A.Good ok rng) : ∀ (n : Nat) (r : RS), r.why = 0 → (∀ c ∈ r.bs, 0 ≤ c ∧ c < 256) → ReadsTo r (repDec A n r).2 (repEnc A (repDec A n r).1) ∧ ((repDec A n r).2.why = 0 → ∀ x ∈ (repDec A n r).1, rng x)
 | 0, r, h, _ => ⟨ReadsTo.nil h, fun _ x hx => by cases hx⟩
 | n + 1, r, h, hx => by
  obtain ⟨r1, g1⟩ := hA.one r h hx
  have e : repEnc A (repDec A (n + 1) r).1 = A.enc (A.dec r).1 ++ repEnc A (repDec A n (A.dec r).2).1 := by simp [repDec, repEnc]
  rw [e]
  by_cases hw : (A.dec r).2.why = 0
  ·obtain ⟨r2, g2⟩ := rep_one hA n (A.dec r).2 hw (r1.bytes hx)
   refine ⟨r1.trans hw r2, fun hz x hxm => ?_⟩
   rcases List.mem_cons.1 hxm with rfl | hxm
   ·exact g1 hw
   ·exact g2 hz x hxm
  ·have hs := rep_stays hA n (A.dec r).2 hw
   refine ⟨?_, fun hz => ?_⟩
   ·show ReadsTo r (repDec A n (A.dec r).2).2 _
    rw [hs]
    exact r1.stuck hw
   ·have hz2 : (repDec A n (A.dec r).2).2.why = 0 := hz
    rw [hs] at hz2
    exact absurd hz2 hw
def repC (A : Codec α) (n : Nat) : Codec (List α) := ⟨repEnc A, repDec A n⟩
theorem repC_good {A : Codec α} {ok rng : α → Prop} (hA : A.Good ok rng) (n : Nat) : (repC A n).Good (fun l => l.length = n ∧ ∀ x ∈ l, ok x) (fun l => l.length = n ∧ ∀ x ∈ l, rng x) where
 stays := rep_stays hA n
 back := fun l hl ys w f => by
  show repDec A n _ = _
  rw [← hl.1]
  exact rep_back hA l hl.2 ys w f
 one := fun r h hx => by
  obtain ⟨r1, g1⟩ := rep_one hA n r h hx
  exact ⟨r1, fun hz => ⟨rep_len A n r, g1 hz⟩⟩
def listC (A : Codec α) (most : Nat) : Codec (List α) := ⟨fun l => shortS l.length ++ repEnc A l, fun r => repDec A (numS most r).1.toNat (numS most r).2⟩
theorem listC_good {A : Codec α} {ok rng : α → Prop} (hA : A.Good ok rng) (most : Nat) (hm : most < 18446744073709551616) : (listC A most).Good (fun l => l.length ≤ most ∧ ∀ x ∈ l, ok x) (fun l => l.length ≤ most ∧ ∀ x ∈ l, rng x) where
 stays := fun r h => by
  show (repDec A (numS most r).1.toNat (numS most r).2).2 = r
  rw [num_stays h]
  rfl
 back := fun l hl ys w f => by
  show repDec A (numS most ⟨shortS l.length ++ repEnc A l ++ ys, w, 0, f⟩).1.toNat (numS most ⟨shortS l.length ++ repEnc A l ++ ys, w, 0, f⟩).2 = _
  rw [List.append_assoc, num_back l.length (by omega) _ w most hl.1 f]
  simp only [Int.toNat_natCast]
  rw [rep_back hA l hl.2]
  simp only [listC, List.length_append, Nat.add_assoc]
 one := fun r h hx => by
  obtain ⟨n, e, _, hr⟩ := num_one most r h hx
  obtain ⟨n2, e2, hle⟩ := num_le most r h hx
  have he : n2 = n := by omega
  subst he
  have hd : (listC A most).dec r = repDec A n2 (numS most r).2 := by show repDec A (numS most r).1.toNat _ = _; rw [e, Int.toNat_natCast]
  have hl : (repDec A n2 (numS most r).2).1.length = n2 := rep_len A n2 _
  rw [hd]
  show ReadsTo r (repDec A n2 (numS most r).2).2 (shortS (repDec A n2 (numS most r).2).1.length ++ repEnc A (repDec A n2 (numS most r).2).1) ∧ _
  rw [hl]
  by_cases hw : (numS most r).2.why = 0
  ·obtain ⟨r2, g2⟩ := rep_one hA n2 (numS most r).2 hw (hr.to.bytes hx)
   exact ⟨hr.to.trans hw r2, fun hz => ⟨hle, g2 hz⟩⟩
  ·have hs := rep_stays hA n2 (numS most r).2 hw
   refine ⟨?_, fun hz => ?_⟩
   ·rw [hs]
    exact hr.to.stuck hw
   ·rw [hs] at hz
    exact absurd hz hw
end
end
end Go.Proofs.YtlegliimgjmphaaGreat
