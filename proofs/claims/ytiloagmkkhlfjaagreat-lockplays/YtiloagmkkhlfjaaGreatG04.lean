/-
  Own texts put together: VtOps, VtMay, RSets, VtRef, VtMay2, IdPlain, IdKeyP, MgPlain. Own work.
-/
import Derived.Test.YtiloagmkkhlfjaaGreatG02
import Derived.Test.YtiloagmkkhlfjaaGreatG03
import Derived.Shelf.Abstract
import Derived.BigRegion
import Derived.WalkKit
import Derived.Lib.Bytealg
import Derived.Lib.Bytes
namespace Go.Proofs.YtiloagmkkhlfjaaGreat
section
open Go Go.RowKit Go.Shelf
theorem wpList_wanted {ops : Array Oper} {rest : List Oper} {o : Oper} {a : Act} {w : World} {Q : Exit → Act → World → Prop} {P : Program} (hg : Region.wanted o (yielded ops a.tmps) = true)
  (h : ∀ K : Act → World → Prop, (∀ a w, wpList P ops Q rest a w → K a w) → o.wp P a w K Q) : wpList P ops Q (o :: rest) a w :=
 wpList_step fun K hK => by simp only [hg, if_true]; exact h K hK
end
section
abbrev TxP := Int × Int × Int
abbrev StP := Int × TxP
def jY (t : TxP) : Prop := (0 ≤ t.1 ∧ t.1 < 256) ∧ (0 ≤ t.2.1 ∧ t.2.1 < 4294967296) ∧ (0 ≤ t.2.2 ∧ t.2.2 < 4294967296)
def countB (n : Int) : Bool := decide (1 ≤ n) && decide (n ≤ 2147483647)
def kO (t : TxP) : Bool := decide (t.1 < 8) && (countB t.2.1 && countB t.2.2)
def stMayB (s : StP) : Bool := decide (s.1 ≤ 2147483647) && kO s.2
def gJ (a b : Int) : Int := if a < b then -1 else if b < a then 1 else 0
def orF (a b : Int) : Int := if a = 0 then b else a
def dW : List Int → List Int → Int
 | x :: xs, y :: ys => orF (gJ x y) (dW xs ys)
 | _, _ => 0
def txL (t : TxP) : List Int := [t.1, t.2.1, t.2.2]
def stL (s : StP) : List Int := s.1 :: txL s.2
def fV (a b : TxP) : Int := dW (txL a) (txL b)
def fO (a b : StP) : Int := dW (stL a) (stL b)
theorem cmpF_neg (a b : Int) : gJ b a = - gJ a b := by unfold gJ; split <;> split <;> omega
theorem cmpF_zero (a b : Int) : gJ a b = 0 ↔ a = b := by unfold gJ; split <;> (try split) <;> omega
theorem i7 (a b : Int) : gJ a b = -1 ∧ a < b ∨ gJ a b = 0 ∧ a = b ∨ gJ a b = 1 ∧ b < a := by unfold gJ; split <;> (try split) <;> omega
theorem lexF_neg : ∀ a b : List Int, dW b a = - dW a b
 | [], [] => by simp [dW]
 | [], _ :: _ => by simp [dW]
 | _ :: _, [] => by simp [dW]
 | x :: xs, y :: ys => by
  have h := lexF_neg xs ys
  have h2 := cmpF_neg x y
  unfold dW orF
  split <;> split <;> omega
theorem gK : ∀ a b : List Int, a.length = b.length → (dW a b = 0 ↔ a = b)
 | [], [], _ => by simp [dW]
 | [], _ :: _, h => by simp at h
 | _ :: _, [], h => by simp at h
 | x :: xs, y :: ys, h => by
  have h1 := gK xs ys (by simpa using h)
  have h2 := cmpF_zero x y
  unfold dW orF
  split
  ·rw [h1]; simp; intro _; omega
  ·simp; constructor
   ·intro h3; omega
   ·intro h3; omega
theorem fW : ∀ a b c : List Int, a.length = b.length → b.length = c.length → dW a b ≤ 0 → dW b c ≤ 0 → dW a c ≤ 0
 | [], _, _, _, _, _, _ => by simp [dW]
 | _ :: _, [], _, h, _, _, _ => by simp at h
 | _ :: _, _ :: _, [], _, h, _, _ => by simp at h
 | x :: xs, y :: ys, z :: zs, h1, h2, h3, h4 => by
  have h := fW xs ys zs (by simpa using h1) (by simpa using h2)
  have a := i7 x y
  have b := i7 y z
  have c := i7 x z
  unfold dW orF at h3 h4 ⊢
  split at h3 <;> split at h4 <;> split <;> first | omega | (apply h <;> omega)
theorem txL_inj {a b : TxP} (h : txL a = txL b) : a = b := by
 obtain ⟨a1, a2, a3⟩ := a
 obtain ⟨b1, b2, b3⟩ := b
 simp [txL] at h
 obtain ⟨rfl, rfl, rfl⟩ := h
 rfl
theorem stL_inj {a b : StP} (h : stL a = stL b) : a = b := by
 obtain ⟨a0, a⟩ := a
 obtain ⟨b0, b⟩ := b
 simp only [stL, List.cons.injEq] at h
 rw [h.1, txL_inj h.2]
theorem txsF_zero (a b : TxP) : fV a b = 0 ↔ a = b := by
 unfold fV
 rw [gK (txL a) (txL b) rfl]
 exact ⟨txL_inj, fun h => by rw [h]⟩
theorem stsF_zero (a b : StP) : fO a b = 0 ↔ a = b := by
 unfold fO
 rw [gK (stL a) (stL b) rfl]
 exact ⟨stL_inj, fun h => by rw [h]⟩
end
section
def i8 : List Int := [0, 0, 0, 0, 0, 0, 0, 0]
def aX : List Int → List Int
 | [] => []
 | x :: r => if x = 0 then [] else x :: aX r
def gB (xs : List Int) : List Int × Int := if xs.length = 0 ∨ 8 < xs.length ∨ 0 ∈ xs then (i8, 1) else (xs ++ List.replicate (8 - xs.length) 0, 0)
def cU (k : List Int) : List Int × Bool := if aX k = [] ∨ k ≠ aX k ++ List.replicate (8 - (aX k).length) 0 then ([], false) else (aX k, true)
theorem fZ : ∀ k : List Int, (aX k).length ≤ k.length
 | [] => by simp [aX]
 | x :: r => by
  have := fZ r
  unfold aX
  split <;> simp; omega
theorem aheadF_no : ∀ k : List Int, 0 ∉ aX k
 | [] => by simp [aX]
 | x :: r => by
  have := aheadF_no r
  unfold aX
  split
  ·simp
  ·simp only [List.mem_cons, not_or]
   exact ⟨fun h => by omega, this⟩
theorem fB : ∀ k : List Int, aX k = k.take (aX k).length
 | [] => by simp [aX]
 | x :: r => by
  have := fB r
  unfold aX
  split
  ·simp
  ·simp only [List.length_cons, List.take_succ_cons]
   rw [← this]
theorem aheadF_sub (k : List Int) : ∀ c ∈ aX k, c ∈ k := by
 intro c hc
 rw [fB k] at hc
 exact List.mem_of_mem_take hc
theorem aheadF_all : ∀ k : List Int, 0 ∉ k → aX k = k
 | [], _ => by simp [aX]
 | x :: r, h => by
  simp only [List.mem_cons, not_or] at h
  unfold aX
  rw [if_neg (fun e => h.1 e.symm), aheadF_all r h.2]
theorem keyOfF_fst (xs : List Int) : (gB xs).1.length = 8 := by
 unfold gB
 split
 ·rfl
 ·simp; omega
theorem nameF_by_key (k : List Int) (hl : k.length = 8) : cU k = if (gB (aX k)).2 ≠ 0 ∨ (gB (aX k)).1 ≠ k then ([], false) else (aX k, true) := by
 have h2 := fZ k
 have h3 := aheadF_no k
 unfold cU gB
 by_cases h : aX k = []
 ·simp [h]
 ·have h1 : (aX k).length ≠ 0 := fun e => h (List.eq_nil_of_length_eq_zero e)
  have hn : ¬ ((aX k).length = 0 ∨ 8 < (aX k).length ∨ 0 ∈ aX k) := by
   simp only [not_or]; exact ⟨h1, by omega, h3⟩
  rw [if_neg hn]
  by_cases h4 : k = aX k ++ List.replicate (8 - (aX k).length) 0
  ·rw [if_neg (by simp only [not_or, Classical.not_not]; exact ⟨h, h4⟩), if_neg (by simp only [not_or, Classical.not_not]; exact ⟨by trivial, h4.symm⟩)]
  ·rw [if_pos (.inr h4), if_pos (.inr (fun e => h4 e.symm))]
theorem index_zero : ∀ xs : List Int, (∀ c ∈ xs, 0 ≤ c ∧ c < 256) → Lib.indexByte (Lib.bytesOf xs) 0 = if 0 ∈ xs then ((aX xs).length : Int) else -1
 | [], _ => by simp [Lib.bytesOf, Lib.indexByte]
 | x :: r, h => by
  have ih := index_zero r (fun c hc => h c (List.mem_cons_of_mem _ hc))
  have hx := h x (List.mem_cons_self ..)
  have e : Lib.bytesOf (x :: r) = UInt8.ofNat x.toNat :: Lib.bytesOf r := rfl
  rw [e]
  unfold Lib.indexByte aX
  by_cases h0 : x = 0
  ·subst h0; simp
  ·have hne : (UInt8.ofNat x.toNat == 0) = false := by
    rw [beq_eq_false_iff_ne]
    intro e2
    have := congrArg UInt8.toNat e2
    rw [UInt8.toNat_ofNat'] at this
    simp at this
    omega
   rw [hne, ih]
   have h0' : ¬ (0 : Int) = x := fun e => h0 e.symm
   by_cases hm : (0 : Int) ∈ r
   ·have : ((((aX r).length : Int)) == -1) = false := by rw [beq_eq_false_iff_ne]; omega
    simp [hm, h0, this]
   ·simp [hm, h0']
theorem compare_lex : ∀ a b : List Int, a.length = b.length → (∀ c ∈ a, 0 ≤ c ∧ c < 256) → (∀ c ∈ b, 0 ≤ c ∧ c < 256) → Lib.compareBytes (Lib.bytesOf a) (Lib.bytesOf b) = dW a b
 | [], [], _, _, _ => by simp [Lib.bytesOf, Lib.compareBytes, dW]
 | [], _ :: _, h, _, _ => by simp at h
 | _ :: _, [], h, _, _ => by simp at h
 | x :: xs, y :: ys, h, ha, hb => by
  have ih := compare_lex xs ys (by simpa using h) (fun c hc => ha c (List.mem_cons_of_mem _ hc)) (fun c hc => hb c (List.mem_cons_of_mem _ hc))
  have hx := ha x (List.mem_cons_self ..)
  have hy := hb y (List.mem_cons_self ..)
  have e1 : Lib.bytesOf (x :: xs) = UInt8.ofNat x.toNat :: Lib.bytesOf xs := rfl
  have e2 : Lib.bytesOf (y :: ys) = UInt8.ofNat y.toNat :: Lib.bytesOf ys := rfl
  have hlt : ∀ p q : Int, 0 ≤ p → p < 256 → 0 ≤ q → q < 256 → (UInt8.ofNat p.toNat < UInt8.ofNat q.toNat ↔ p < q) := by
   intro p q p0 p1 q0 q1
   rw [UInt8.lt_iff_toNat_lt, UInt8.toNat_ofNat', UInt8.toNat_ofNat']
   omega
  have c := i7 x y
  rw [e1, e2]
  unfold Lib.compareBytes dW orF
  rw [ih]
  have l1 := hlt x y hx.1 hx.2 hy.1 hy.2
  have l2 := hlt y x hy.1 hy.2 hx.1 hx.2
  rcases c with ⟨c1, c2⟩ | ⟨c1, c2⟩ | ⟨c1, c2⟩
  ·simp [l1, c1, c2]
  ·subst c2; simp [c1]
  ·have c3 : ¬ x < y := by omega
   simp [l1, l2, c1, c2, c3]
end
section
open Go
structure ItP where
 ver : Nat
 val : List Int
 cf : Cf
structure WrP where
 key : List Int
 it : ItP
abbrev TxN := Nat × Nat × Nat
structure MsgP where
 kind : Nat
 tx : TxN
 time : Nat
 reg : Nat × Nat
 key : List Int
 mode : Nat
 no : Nat
 why : Nat
 yes : Nat
 item : ItP
 wr : List WrP
end
end Go.Proofs.YtiloagmkkhlfjaaGreat
