/-
  Own texts put together: VtOps, VtMay, RSets, VtRef, VtMay2, IdPlain, IdKeyP, MgPlain. Own work.
-/
import Derived.Test.YtddflccjmigloaaGreatG03
import Derived.Test.YtddflccjmigloaaGreatG04
import Derived.Test.YtddflccjmigloaaGreatG02
import Derived.Shelf.Abstract
import Derived.BigRegion
import Derived.WalkKit
import Derived.Lib.Bytealg
import Derived.Lib.Bytes
namespace Go.Proofs.YtddflccjmigloaaGreat
section
open Go Go.RowKit Go.Shelf

theorem wpList_wanted {ops : Array Oper} {rest : List Oper} {o : Oper} {a : Act} {w : World} {Q : Exit → Act → World → Prop} {P : Program} (hg : Region.wanted o (yielded ops a.tmps) = true)
    (h : ∀ K : Act → World → Prop, (∀ a w, wpList P ops Q rest a w → K a w) → o.wp P a w K Q) : wpList P ops Q (o :: rest) a w :=
  wpList_step fun K hK => by simp only [hg, if_true]; exact h K hK
end
section
/-- A name: node, boot, number. -/
abbrev TxP := Int × Int × Int
/-- A stamp: time, name. -/
abbrev StP := Int × TxP
/-- A name whose numbers fit their types. -/
def txOk (t : TxP) : Prop := (0 ≤ t.1 ∧ t.1 < 256) ∧ (0 ≤ t.2.1 ∧ t.2.1 < 4294967296) ∧ (0 ≤ t.2.2 ∧ t.2.2 < 4294967296)
/-- May a number from 1 on be? -/
def countB (n : Int) : Bool := decide (1 ≤ n) && decide (n ≤ 2147483647)
def txMayB (t : TxP) : Bool := decide (t.1 < 8) && (countB t.2.1 && countB t.2.2)
def stMayB (s : StP) : Bool := decide (s.1 ≤ 2147483647) && txMayB s.2
/-- The order of two numbers. -/
def cmpF (a b : Int) : Int := if a < b then -1 else if b < a then 1 else 0
/-- The first that is not 0. -/
def orF (a b : Int) : Int := if a = 0 then b else a
/-- The order of lists of numbers: the first unlike ones count. -/
def lexF : List Int → List Int → Int
  | x :: xs, y :: ys => orF (cmpF x y) (lexF xs ys)
  | _, _ => 0
def txL (t : TxP) : List Int := [t.1, t.2.1, t.2.2]
def stL (s : StP) : List Int := s.1 :: txL s.2
def txsF (a b : TxP) : Int := lexF (txL a) (txL b)
def stsF (a b : StP) : Int := lexF (stL a) (stL b)

theorem cmpF_neg (a b : Int) : cmpF b a = - cmpF a b := by unfold cmpF; split <;> split <;> omega
theorem cmpF_zero (a b : Int) : cmpF a b = 0 ↔ a = b := by unfold cmpF; split <;> (try split) <;> omega
theorem cmpF_rng (a b : Int) : cmpF a b = -1 ∧ a < b ∨ cmpF a b = 0 ∧ a = b ∨ cmpF a b = 1 ∧ b < a := by unfold cmpF; split <;> (try split) <;> omega
theorem lexF_neg : ∀ a b : List Int, lexF b a = - lexF a b
  | [], [] => by simp [lexF]
  | [], _ :: _ => by simp [lexF]
  | _ :: _, [] => by simp [lexF]
  | x :: xs, y :: ys => by
    have h := lexF_neg xs ys
    have h2 := cmpF_neg x y
    unfold lexF orF
    split <;> split <;> omega
theorem lexF_zero : ∀ a b : List Int, a.length = b.length → (lexF a b = 0 ↔ a = b)
  | [], [], _ => by simp [lexF]
  | [], _ :: _, h => by simp at h
  | _ :: _, [], h => by simp at h
  | x :: xs, y :: ys, h => by
    have h1 := lexF_zero xs ys (by simpa using h)
    have h2 := cmpF_zero x y
    unfold lexF orF
    split
    · rw [h1]; simp; intro _; omega
    · simp; constructor
      · intro h3; omega
      · intro h3; omega
theorem lexF_trans : ∀ a b c : List Int, a.length = b.length → b.length = c.length → lexF a b ≤ 0 → lexF b c ≤ 0 → lexF a c ≤ 0
  | [], _, _, _, _, _, _ => by simp [lexF]
  | _ :: _, [], _, h, _, _, _ => by simp at h
  | _ :: _, _ :: _, [], _, h, _, _ => by simp at h
  | x :: xs, y :: ys, z :: zs, h1, h2, h3, h4 => by
    have h := lexF_trans xs ys zs (by simpa using h1) (by simpa using h2)
    have a := cmpF_rng x y
    have b := cmpF_rng y z
    have c := cmpF_rng x z
    unfold lexF orF at h3 h4 ⊢
    split at h3 <;> split at h4 <;> split <;> first | omega | (apply h <;> omega)
theorem txL_inj {a b : TxP} (h : txL a = txL b) : a = b := by
  obtain ⟨a1, a2, a3⟩ := a
  obtain ⟨b1, b2, b3⟩ := b
  simp [txL] at h
  obtain ⟨rfl, rfl, rfl⟩ := h
  rfl
theorem stL_inj {a b : StP} (h : stL a = stL b) : a = b := by
  obtain ⟨a0, a⟩ := a
  obtain ⟨b0, b⟩ := b
  simp only [stL, List.cons.injEq] at h
  rw [h.1, txL_inj h.2]
theorem txsF_zero (a b : TxP) : txsF a b = 0 ↔ a = b := by
  unfold txsF
  rw [lexF_zero (txL a) (txL b) rfl]
  exact ⟨txL_inj, fun h => by rw [h]⟩
theorem stsF_zero (a b : StP) : stsF a b = 0 ↔ a = b := by
  unfold stsF
  rw [lexF_zero (stL a) (stL b) rfl]
  exact ⟨stL_inj, fun h => by rw [h]⟩
end
section
def zero8i : List Int := [0, 0, 0, 0, 0, 0, 0, 0]
/-- The bytes ahead of the first 0. -/
def aheadF : List Int → List Int
  | [] => []
  | x :: r => if x = 0 then [] else x :: aheadF r
/-- KeyOf. -/
def keyOfF (xs : List Int) : List Int × Int := if xs.length = 0 ∨ 8 < xs.length ∨ 0 ∈ xs then (zero8i, 1) else (xs ++ List.replicate (8 - xs.length) 0, 0)
/-- Name. -/
def nameF (k : List Int) : List Int × Bool := if aheadF k = [] ∨ k ≠ aheadF k ++ List.replicate (8 - (aheadF k).length) 0 then ([], false) else (aheadF k, true)

theorem aheadF_le : ∀ k : List Int, (aheadF k).length ≤ k.length
  | [] => by simp [aheadF]
  | x :: r => by
    have := aheadF_le r
    unfold aheadF
    split <;> simp; omega
theorem aheadF_no : ∀ k : List Int, 0 ∉ aheadF k
  | [] => by simp [aheadF]
  | x :: r => by
    have := aheadF_no r
    unfold aheadF
    split
    · simp
    · simp only [List.mem_cons, not_or]
      exact ⟨fun h => by omega, this⟩
theorem aheadF_take : ∀ k : List Int, aheadF k = k.take (aheadF k).length
  | [] => by simp [aheadF]
  | x :: r => by
    have := aheadF_take r
    unfold aheadF
    split
    · simp
    · simp only [List.length_cons, List.take_succ_cons]
      rw [← this]
theorem aheadF_sub (k : List Int) : ∀ c ∈ aheadF k, c ∈ k := by
  intro c hc
  rw [aheadF_take k] at hc
  exact List.mem_of_mem_take hc
/-- No 0 stands there: all are ahead. -/
theorem aheadF_all : ∀ k : List Int, 0 ∉ k → aheadF k = k
  | [], _ => by simp [aheadF]
  | x :: r, h => by
    simp only [List.mem_cons, not_or] at h
    unfold aheadF
    rw [if_neg (fun e => h.1 e.symm), aheadF_all r h.2]
theorem keyOfF_fst (xs : List Int) : (keyOfF xs).1.length = 8 := by
  unfold keyOfF
  split
  · rfl
  · simp; omega
/-- The program's way to Name: by the key of the bytes ahead. -/
theorem nameF_by_key (k : List Int) (hl : k.length = 8) : nameF k = if (keyOfF (aheadF k)).2 ≠ 0 ∨ (keyOfF (aheadF k)).1 ≠ k then ([], false) else (aheadF k, true) := by
  have h2 := aheadF_le k
  have h3 := aheadF_no k
  unfold nameF keyOfF
  by_cases h : aheadF k = []
  · simp [h]
  · have h1 : (aheadF k).length ≠ 0 := fun e => h (List.eq_nil_of_length_eq_zero e)
    have hn : ¬ ((aheadF k).length = 0 ∨ 8 < (aheadF k).length ∨ 0 ∈ aheadF k) := by
      simp only [not_or]; exact ⟨h1, by omega, h3⟩
    rw [if_neg hn]
    by_cases h4 : k = aheadF k ++ List.replicate (8 - (aheadF k).length) 0
    · rw [if_neg (by simp only [not_or, Classical.not_not]; exact ⟨h, h4⟩), if_neg (by simp only [not_or, Classical.not_not]; exact ⟨by trivial, h4.symm⟩)]
    · rw [if_pos (.inr h4), if_pos (.inr (fun e => h4 e.symm))]

/-- What a search of the byte 0 gives. -/
theorem index_zero : ∀ xs : List Int, (∀ c ∈ xs, 0 ≤ c ∧ c < 256) → Lib.indexByte (Lib.bytesOf xs) 0 = if 0 ∈ xs then ((aheadF xs).length : Int) else -1
  | [], _ => by simp [Lib.bytesOf, Lib.indexByte]
  | x :: r, h => by
    have ih := index_zero r (fun c hc => h c (List.mem_cons_of_mem _ hc))
    have hx := h x (List.mem_cons_self ..)
    have e : Lib.bytesOf (x :: r) = UInt8.ofNat x.toNat :: Lib.bytesOf r := rfl
    rw [e]
    unfold Lib.indexByte aheadF
    by_cases h0 : x = 0
    · subst h0; simp
    · have hne : (UInt8.ofNat x.toNat == 0) = false := by
        rw [beq_eq_false_iff_ne]
        intro e2
        have := congrArg UInt8.toNat e2
        rw [UInt8.toNat_ofNat'] at this
        simp at this
        omega
      rw [hne, ih]
      have h0' : ¬ (0 : Int) = x := fun e => h0 e.symm
      by_cases hm : (0 : Int) ∈ r
      · have : ((((aheadF r).length : Int)) == -1) = false := by rw [beq_eq_false_iff_ne]; omega
        simp [hm, h0, this]
      · simp [hm, h0']
/-- What comparing bytes gives. -/
theorem compare_lex : ∀ a b : List Int, a.length = b.length → (∀ c ∈ a, 0 ≤ c ∧ c < 256) → (∀ c ∈ b, 0 ≤ c ∧ c < 256) → Lib.compareBytes (Lib.bytesOf a) (Lib.bytesOf b) = lexF a b
  | [], [], _, _, _ => by simp [Lib.bytesOf, Lib.compareBytes, lexF]
  | [], _ :: _, h, _, _ => by simp at h
  | _ :: _, [], h, _, _ => by simp at h
  | x :: xs, y :: ys, h, ha, hb => by
    have ih := compare_lex xs ys (by simpa using h) (fun c hc => ha c (List.mem_cons_of_mem _ hc)) (fun c hc => hb c (List.mem_cons_of_mem _ hc))
    have hx := ha x (List.mem_cons_self ..)
    have hy := hb y (List.mem_cons_self ..)
    have e1 : Lib.bytesOf (x :: xs) = UInt8.ofNat x.toNat :: Lib.bytesOf xs := rfl
    have e2 : Lib.bytesOf (y :: ys) = UInt8.ofNat y.toNat :: Lib.bytesOf ys := rfl
    have hlt : ∀ p q : Int, 0 ≤ p → p < 256 → 0 ≤ q → q < 256 → (UInt8.ofNat p.toNat < UInt8.ofNat q.toNat ↔ p < q) := by
      intro p q p0 p1 q0 q1
      rw [UInt8.lt_iff_toNat_lt, UInt8.toNat_ofNat', UInt8.toNat_ofNat']
      omega
    have c := cmpF_rng x y
    rw [e1, e2]
    unfold Lib.compareBytes lexF orF
    rw [ih]
    have l1 := hlt x y hx.1 hx.2 hy.1 hy.2
    have l2 := hlt y x hy.1 hy.2 hx.1 hx.2
    rcases c with ⟨c1, c2⟩ | ⟨c1, c2⟩ | ⟨c1, c2⟩
    · simp [l1, c1, c2]
    · subst c2; simp [c1]
    · have c3 : ¬ x < y := by omega
      simp [l1, l2, c1, c2, c3]
end
section
open Go

/-- An item, a write, a message. -/
structure ItP where
  ver : Nat
  val : List Int
  cf : Cf
structure WrP where
  key : List Int
  it : ItP
abbrev TxN := Nat × Nat × Nat
structure MsgP where
  kind : Nat
  tx : TxN
  time : Nat
  reg : Nat × Nat
  key : List Int
  mode : Nat
  no : Nat
  why : Nat
  yes : Nat
  item : ItP
  wr : List WrP
end
end Go.Proofs.YtddflccjmigloaaGreat
