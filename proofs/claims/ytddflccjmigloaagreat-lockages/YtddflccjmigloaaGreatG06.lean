/-
  Own texts put together: MgFacts, TbPlain, SgPlain. Own work.
-/
import Derived.Test.YtddflccjmigloaaGreatG05
namespace Go.Proofs.YtddflccjmigloaaGreat
section
open Go

def txI (t : TxN) : TxP := ((t.1 : Int), (t.2.1 : Int), (t.2.2 : Int))
/-- Its numbers fit their types. -/
structure ItOk (i : ItP) : Prop where
  v : i.ver < 4294967296
  s : ∀ c ∈ i.val, 0 ≤ c ∧ c < 256
  c : i.cf.Ok
structure KeyOk (k : List Int) : Prop where
  l : k.length = 8
  b : ∀ c ∈ k, 0 ≤ c ∧ c < 256
end
section
open Go

def dnT (t : List WrP) (k : List Int) : List WrP := t.dropWhile fun x => decide (lexF x.key k < 0)
def getT (t : List WrP) (k : List Int) : Option ItP := match dnT t k with
  | [] => none
  | x :: _ => if x.key = k then some x.it else none
/-- It rises, its keys are keys, and there are not too many. -/
structure TbOk (t : List WrP) : Prop where
  rise : t.Pairwise fun a b => lexF a.key b.key < 0
  key : ∀ x ∈ t, x.key.length = 8
  few : t.length ≤ 64
end
section
open Go

/-- The order of names. -/
def txO (a b : TxN) : Int := lexF [(a.1 : Int), (a.2.1 : Int), (a.2.2 : Int)] [(b.1 : Int), (b.2.1 : Int), (b.2.2 : Int)]
theorem txO_neg (a b : TxN) : txO b a = - txO a b := lexF_neg _ _
theorem txO_zero (a b : TxN) : txO a b = 0 ↔ a = b := by
  constructor
  · intro h
    have h2 := (lexF_zero [(a.1 : Int), (a.2.1 : Int), (a.2.2 : Int)] [(b.1 : Int), (b.2.1 : Int), (b.2.2 : Int)] rfl).1 h
    simp only [List.cons.injEq, and_true] at h2
    obtain ⟨a1, a2, a3⟩ := a
    obtain ⟨b1, b2, b3⟩ := b
    simp only at h2
    have e1 : a1 = b1 := by omega
    have e2 : a2 = b2 := by omega
    have e3 : a3 = b3 := by omega
    rw [e1, e2, e3]
  · intro h
    subst h
    exact (lexF_zero _ _ rfl).2 rfl
theorem txO_trans {a b c : TxN} (h1 : txO a b < 0) (h2 : txO b c < 0) : txO a c < 0 := by
  have h := lexF_trans [(a.1 : Int), (a.2.1 : Int), (a.2.2 : Int)] [(b.1 : Int), (b.2.1 : Int), (b.2.2 : Int)] [(c.1 : Int), (c.2.1 : Int), (c.2.2 : Int)] rfl rfl (Int.le_of_lt h1) (Int.le_of_lt h2)
  rcases Int.lt_or_eq_of_le h with h | h
  · exact h
  · have e := (txO_zero a c).1 h
    subst e
    have := txO_neg a b
    omega
end
end Go.Proofs.YtddflccjmigloaaGreat
