/-
  Names, stamps and keys as plain functions: the order of numbers, first unlike ones first. Own work.
-/
import Derived.WalkKit
namespace Go.Proofs.Ytgjdlclkibiffaa

/-- A name: node, boot, number. -/
abbrev TxP := Int × Int × Int
/-- A stamp: time, name. -/
abbrev StP := Int × TxP
/-- A name whose numbers fit their types. -/
def txOk (t : TxP) : Prop := (0 ≤ t.1 ∧ t.1 < 256) ∧ (0 ≤ t.2.1 ∧ t.2.1 < 4294967296) ∧ (0 ≤ t.2.2 ∧ t.2.2 < 4294967296)
def stOk (s : StP) : Prop := (0 ≤ s.1 ∧ s.1 < 4294967296) ∧ txOk s.2
def regOk (g : Int × Int) : Prop := (0 ≤ g.1 ∧ g.1 < 4294967296) ∧ (0 ≤ g.2 ∧ g.2 < 4294967296)
/-- May a number from 1 on be? -/
def countB (n : Int) : Bool := decide (1 ≤ n) && decide (n ≤ 2147483647)
def txMayB (t : TxP) : Bool := decide (t.1 < 8) && (countB t.2.1 && countB t.2.2)
def stMayB (s : StP) : Bool := decide (s.1 ≤ 2147483647) && txMayB s.2
def regMayB (g : Int × Int) : Bool := countB g.1 && countB g.2

/-- The order of two numbers. -/
def cmpF (a b : Int) : Int := if a < b then -1 else if b < a then 1 else 0
/-- The first that is not 0. -/
def orF (a b : Int) : Int := if a = 0 then b else a
/-- The order of lists of numbers: the first unlike ones count. -/
def lexF : List Int → List Int → Int
  | x :: xs, y :: ys => orF (cmpF x y) (lexF xs ys)
  | _, _ => 0
def txL (t : TxP) : List Int := [t.1, t.2.1, t.2.2]
def stL (s : StP) : List Int := s.1 :: txL s.2
def txsF (a b : TxP) : Int := lexF (txL a) (txL b)
def stsF (a b : StP) : Int := lexF (stL a) (stL b)

theorem cmpF_neg (a b : Int) : cmpF b a = - cmpF a b := by unfold cmpF; split <;> split <;> omega
theorem cmpF_zero (a b : Int) : cmpF a b = 0 ↔ a = b := by unfold cmpF; split <;> (try split) <;> omega
theorem cmpF_rng (a b : Int) : cmpF a b = -1 ∧ a < b ∨ cmpF a b = 0 ∧ a = b ∨ cmpF a b = 1 ∧ b < a := by unfold cmpF; split <;> (try split) <;> omega
theorem lexF_rng : ∀ a b : List Int, -1 ≤ lexF a b ∧ lexF a b ≤ 1
  | [], _ => by simp [lexF]
  | _ :: _, [] => by simp [lexF]
  | x :: xs, y :: ys => by
    have h := lexF_rng xs ys
    have h2 := cmpF_rng x y
    unfold lexF orF
    split <;> omega
theorem lexF_neg : ∀ a b : List Int, lexF b a = - lexF a b
  | [], [] => by simp [lexF]
  | [], _ :: _ => by simp [lexF]
  | _ :: _, [] => by simp [lexF]
  | x :: xs, y :: ys => by
    have h := lexF_neg xs ys
    have h2 := cmpF_neg x y
    unfold lexF orF
    split <;> split <;> omega
theorem lexF_zero : ∀ a b : List Int, a.length = b.length → (lexF a b = 0 ↔ a = b)
  | [], [], _ => by simp [lexF]
  | [], _ :: _, h => by simp at h
  | _ :: _, [], h => by simp at h
  | x :: xs, y :: ys, h => by
    have h1 := lexF_zero xs ys (by simpa using h)
    have h2 := cmpF_zero x y
    unfold lexF orF
    split
    · rw [h1]; simp; intro _; omega
    · simp; constructor
      · intro h3; omega
      · intro h3; omega
theorem lexF_trans : ∀ a b c : List Int, a.length = b.length → b.length = c.length → lexF a b ≤ 0 → lexF b c ≤ 0 → lexF a c ≤ 0
  | [], _, _, _, _, _, _ => by simp [lexF]
  | _ :: _, [], _, h, _, _, _ => by simp at h
  | _ :: _, _ :: _, [], _, h, _, _ => by simp at h
  | x :: xs, y :: ys, z :: zs, h1, h2, h3, h4 => by
    have h := lexF_trans xs ys zs (by simpa using h1) (by simpa using h2)
    have a := cmpF_rng x y
    have b := cmpF_rng y z
    have c := cmpF_rng x z
    unfold lexF orF at h3 h4 ⊢
    split at h3 <;> split at h4 <;> split <;> first | omega | (apply h <;> omega)
theorem txL_inj {a b : TxP} (h : txL a = txL b) : a = b := by
  obtain ⟨a1, a2, a3⟩ := a
  obtain ⟨b1, b2, b3⟩ := b
  simp [txL] at h
  obtain ⟨rfl, rfl, rfl⟩ := h
  rfl
theorem stL_inj {a b : StP} (h : stL a = stL b) : a = b := by
  obtain ⟨a0, a⟩ := a
  obtain ⟨b0, b⟩ := b
  simp only [stL, List.cons.injEq] at h
  rw [h.1, txL_inj h.2]
theorem txsF_zero (a b : TxP) : txsF a b = 0 ↔ a = b := by
  unfold txsF
  rw [lexF_zero (txL a) (txL b) rfl]
  exact ⟨txL_inj, fun h => by rw [h]⟩
theorem stsF_zero (a b : StP) : stsF a b = 0 ↔ a = b := by
  unfold stsF
  rw [lexF_zero (stL a) (stL b) rfl]
  exact ⟨stL_inj, fun h => by rw [h]⟩
/-- What 'three' of the law asks of an order. -/
def threeB (x y z back : Int) (same : Bool) : Bool := decide (x = -back) && ((decide (x = 0) == same) && ((decide (0 < x) || (decide (0 < y) || decide (z ≤ 0))) && (decide (x < 0) || (decide (y < 0) || decide (0 ≤ z)))))
theorem three_lex (a b c : List Int) (h1 : a.length = b.length) (h2 : b.length = c.length) : threeB (lexF a b) (lexF b c) (lexF a c) (lexF b a) (decide (a = b)) = true := by
  have n1 := lexF_neg a b
  have n2 := lexF_neg b c
  have n3 := lexF_neg a c
  have z := lexF_zero a b h1
  have t1 := lexF_trans a b c h1 h2
  have t2 := lexF_trans c b a h2.symm h1.symm
  unfold threeB
  simp only [Bool.and_eq_true, Bool.or_eq_true, decide_eq_true_eq, beq_iff_eq]
  refine ⟨by omega, ?_, ?_, ?_⟩
  · rw [decide_eq_decide]; exact z
  · by_cases h3 : 0 < lexF a b
    · exact .inl h3
    · by_cases h4 : 0 < lexF b c
      · exact .inr (.inl h4)
      · exact .inr (.inr (t1 (by omega) (by omega)))
  · by_cases h3 : lexF a b < 0
    · exact .inl h3
    · by_cases h4 : lexF b c < 0
      · exact .inr (.inl h4)
      · exact .inr (.inr (by have := t2 (by omega) (by omega); omega))
end Go.Proofs.Ytgjdlclkibiffaa
