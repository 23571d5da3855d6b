/-
  Plain facts on short numbers (their texts, how long one is, what it is worth) for layer 1 (bits). Of no program. Own work.
-/
import Derived.Test.YteehkjdolmmapaaPlain
namespace Go.Proofs.Yteehkjdolmmapaa
open Go

/-- The text of a number: seven bits a byte, the lowest first; the first argument bounds how many. -/
def shortF : Nat → Nat → List Int
  | 0, n => [(n : Int)]
  | f + 1, n => if n < 128 then [(n : Int)] else ((n % 128 + 128 : Nat) : Int) :: shortF f (n / 128)
theorem shortF_same : ∀ (f g n : Nat), n ≤ f → n ≤ g → shortF f n = shortF g n
  | 0, 0, _, _, _ => rfl
  | 0, g + 1, n, h, _ => by
    obtain rfl : n = 0 := by omega
    simp [shortF]
  | f + 1, 0, n, _, h => by
    obtain rfl : n = 0 := by omega
    simp [shortF]
  | f + 1, g + 1, n, hf, hg => by
    unfold shortF
    split
    · rfl
    · rw [shortF_same f g (n / 128) (by omega) (by omega)]
/-- The text of a number. -/
def shortS (n : Nat) : List Int := shortF n n
theorem shortS_eq (n : Nat) : shortS n = if n < 128 then [(n : Int)] else ((n % 128 + 128 : Nat) : Int) :: shortS (n / 128) := by
  unfold shortS
  cases n with
  | zero => simp [shortF]
  | succ n =>
    rw [shortF]
    split
    · rfl
    · rw [shortF_same n ((n + 1) / 128) ((n + 1) / 128) (by omega) (by omega)]
theorem shortS_lt {n : Nat} (h : n < 128) : shortS n = [(n : Int)] := by rw [shortS_eq, if_pos h]
theorem shortS_ge {n : Nat} (h : ¬ n < 128) : shortS n = ((n % 128 + 128 : Nat) : Int) :: shortS (n / 128) := by rw [shortS_eq, if_neg h]
theorem shortS_300 : shortS 300 = [172, 2] := by rw [shortS_ge (by decide), shortS_lt (by decide)]; rfl
theorem shortS_len : ∀ (k n : Nat), n < 128 ^ (k + 1) → (shortS n).length ≤ k + 1
  | 0, n, h => by rw [shortS_lt (by simpa using h)]; simp
  | k + 1, n, h => by
    by_cases hn : n < 128
    · rw [shortS_lt hn]; simp
    · rw [shortS_ge hn]
      have := shortS_len k (n / 128) (by rw [Nat.div_lt_iff_lt_mul (by decide)]; rw [Nat.pow_succ] at h; exact h)
      simp; omega
theorem shortS_len10 {n : Nat} (h : n < 18446744073709551616) : (shortS n).length ≤ 10 :=
  shortS_len 9 n (Nat.lt_trans h (by decide))
theorem shortS_bytes (n : Nat) : ∀ c ∈ shortS n, 0 ≤ c ∧ c < 256 := by
  induction n using Nat.strongRecOn with
  | ind n ih =>
    by_cases hn : n < 128
    · rw [shortS_lt hn]; intro c hc; simp at hc; omega
    · rw [shortS_ge hn]
      intro c hc
      rcases List.mem_cons.1 hc with rfl | hc
      · omega
      · exact ih (n / 128) (by omega) c hc

/-- How many bytes the short number has that a text begins with; 0 where it does not end. -/
def sizeS : List Int → Nat
  | [] => 0
  | c :: cs => if c < 128 then 1 else if sizeS cs = 0 then 0 else sizeS cs + 1
theorem sizeS_le : ∀ xs : List Int, sizeS xs ≤ xs.length
  | [] => by simp [sizeS]
  | c :: cs => by
    have := sizeS_le cs
    unfold sizeS
    split
    · simp
    · split <;> simp <;> omega
/-- From a place on, none ahead of it being a last byte. -/
def sizeFrom (xs : List Int) (k : Nat) : Nat := if sizeS (xs.drop k) = 0 then 0 else k + sizeS (xs.drop k)
theorem sizeFrom_zero (xs : List Int) : sizeFrom xs 0 = sizeS xs := by
  unfold sizeFrom
  rw [List.drop_zero]
  split <;> omega
theorem sizeFrom_end (xs : List Int) (k : Nat) (h : xs.length ≤ k) : sizeFrom xs k = 0 := by simp [sizeFrom, List.drop_of_length_le h, sizeS]
theorem drop_cons (xs : List Int) (k : Nat) (h : k < xs.length) : xs.drop k = xs.getD k 0 :: xs.drop (k + 1) := by
  rw [List.drop_eq_getElem_cons h]; simp [h]
theorem sizeFrom_hit (xs : List Int) (k : Nat) (h : k < xs.length) (hc : xs.getD k 0 < 128) : sizeFrom xs k = k + 1 := by
  have e : sizeS (xs.drop k) = 1 := by rw [drop_cons xs k h]; unfold sizeS; rw [if_pos hc]
  unfold sizeFrom; rw [e]; simp
theorem sizeFrom_miss (xs : List Int) (k : Nat) (h : k < xs.length) (hc : ¬ xs.getD k 0 < 128) : sizeFrom xs k = sizeFrom xs (k + 1) := by
  by_cases h0 : sizeS (xs.drop (k + 1)) = 0
  · have e : sizeS (xs.drop k) = 0 := by rw [drop_cons xs k h]; unfold sizeS; rw [if_neg hc, if_pos h0]
    unfold sizeFrom; rw [e, h0]; simp
  · have e : sizeS (xs.drop k) = sizeS (xs.drop (k + 1)) + 1 := by rw [drop_cons xs k h, sizeS, if_neg hc, if_neg h0]
    unfold sizeFrom; rw [e, if_neg h0, if_neg (by omega)]; omega
/-- The short number's own last byte, and those ahead of it. -/
theorem sizeS_last : ∀ (xs : List Int), sizeS xs ≠ 0 → xs.getD (sizeS xs - 1) 0 < 128 ∧ ∀ i, i < sizeS xs - 1 → 128 ≤ xs.getD i 0
  | [], h => absurd rfl h
  | c :: cs, h => by
    unfold sizeS at h ⊢
    split
    · rename_i hc
      simp [hc]
    · rename_i hc
      rw [if_neg hc] at h
      split at h
      · exact absurd rfl h
      · rename_i h0
        have ih := sizeS_last cs h0
        rw [if_neg h0]
        obtain ⟨m, hm⟩ : ∃ m, sizeS cs = m + 1 := ⟨sizeS cs - 1, by omega⟩
        rw [hm] at ih ⊢
        refine ⟨by simpa using ih.1, fun i hi => ?_⟩
        cases i with
        | zero => simp; omega
        | succ i => simpa using ih.2 i (by omega)

/-- What bytes are worth, seven bits each. -/
def valS : List Int → Nat
  | [] => 0
  | c :: cs => (c % 128).toNat + 128 * valS cs
theorem valS_lt : ∀ xs : List Int, valS xs < 2 ^ (7 * xs.length)
  | [] => by simp [valS]
  | c :: cs => by
    have := valS_lt cs
    unfold valS
    have e : 2 ^ (7 * (c :: cs).length) = 128 * 2 ^ (7 * cs.length) := by
      rw [List.length_cons, Nat.mul_add, Nat.pow_add, Nat.mul_comm]
    rw [e]
    have : (c % 128).toNat < 128 := by omega
    omega
theorem valS_snoc : ∀ (xs : List Int) (c : Int), valS (xs ++ [c]) = valS xs + (c % 128).toNat * 2 ^ (7 * xs.length)
  | [], c => by simp [valS]
  | x :: xs, c => by
    have := valS_snoc xs c
    simp only [List.cons_append, valS, this, List.length_cons]
    have e : 2 ^ (7 * (xs.length + 1)) = 128 * 2 ^ (7 * xs.length) := by rw [Nat.mul_add, Nat.pow_add, Nat.mul_comm]
    rw [e, Nat.mul_add, Nat.mul_left_comm]
    omega
theorem take_snoc (xs : List Int) (k : Nat) (h : k < xs.length) : xs.take (k + 1) = xs.take k ++ [xs.getD k 0] := by
  rw [List.take_succ_eq_append_getElem h]; simp [h]

/-- A text that ends, of one byte or with a last byte that is not 0, is the short one of what it is worth. -/
theorem shortS_val : ∀ (xs : List Int), (∀ c ∈ xs, 0 ≤ c ∧ c < 256) → sizeS xs ≠ 0 → (sizeS xs > 1 → xs.getD (sizeS xs - 1) 0 ≠ 0) → shortS (valS (xs.take (sizeS xs))) = xs.take (sizeS xs)
  | [], _, h, _ => absurd rfl h
  | c :: cs, hb, h, hl => by
    have hc := hb c (by simp)
    have hbs : ∀ x ∈ cs, 0 ≤ x ∧ x < 256 := fun x hx => hb x (by simp [hx])
    by_cases h1 : c < 128
    · have e : sizeS (c :: cs) = 1 := by simp [sizeS, h1]
      rw [e]
      simp only [List.take_succ_cons, List.take_zero, valS]
      rw [shortS_lt (by omega)]
      simp; omega
    · have h0 : sizeS cs ≠ 0 := by
        intro e; apply h; simp [sizeS, h1, e]
      have e : sizeS (c :: cs) = sizeS cs + 1 := by simp [sizeS, h1, h0]
      rw [e] at hl ⊢
      obtain ⟨m, hm⟩ : ∃ m, sizeS cs = m + 1 := ⟨sizeS cs - 1, by omega⟩
      have hlast : cs.getD m 0 ≠ 0 := by have := hl (by omega); simpa [hm] using this
      have ih := shortS_val cs hbs h0 (fun _ => by rw [hm]; exact hlast)
      simp only [List.take_succ_cons, valS]
      have hpos : 0 < valS (cs.take (sizeS cs)) := by
        have hml : m < cs.length := by have := sizeS_le cs; omega
        rw [hm, take_snoc cs m hml, valS_snoc]
        have h3 := (sizeS_last cs h0).1
        rw [hm] at h3
        simp only [Nat.add_sub_cancel] at h3
        have h2 : 0 ≤ cs.getD m 0 := by
          have := hbs (cs.getD m 0) (by simp [List.getD, hml])
          exact this.1
        have : 0 < (cs.getD m 0 % 128).toNat := by omega
        have : 0 < (cs.getD m 0 % 128).toNat * 2 ^ (7 * (cs.take m).length) := Nat.mul_pos this (Nat.two_pow_pos _)
        omega
      generalize valS (cs.take (sizeS cs)) = V at *
      rw [shortS_ge (by omega)]
      have e1 : ((c % 128).toNat + 128 * V) / 128 = V := by omega
      have e2 : (((c % 128).toNat + 128 * V) % 128 + 128 : Nat) = c.toNat := by omega
      rw [e1, ih]
      congr 1
      have : ((((c % 128).toNat + 128 * V) % 128 + 128 : Nat) : Int) = (c.toNat : Int) := by rw [e2]
      rw [this]; omega

/-- What was made short is made long, whatever stands behind. -/
theorem size_short : ∀ (n : Nat) (ys : List Int), sizeS (shortS n ++ ys) = (shortS n).length := by
  intro n
  induction n using Nat.strongRecOn with
  | ind n ih =>
    intro ys
    by_cases hn : n < 128
    · rw [shortS_lt hn]; simp [sizeS]; omega
    · rw [shortS_ge hn]
      have := ih (n / 128) (by omega) ys
      have hl : (shortS (n / 128)).length ≠ 0 := by
        rw [shortS_eq]; split <;> simp
      simp only [List.cons_append, sizeS, this, List.length_cons]
      rw [if_neg (by omega), if_neg hl]
theorem val_short (n : Nat) : valS (shortS n) = n := by
  induction n using Nat.strongRecOn with
  | ind n ih =>
    by_cases hn : n < 128
    · rw [shortS_lt hn]; simp [valS]; omega
    · rw [shortS_ge hn]
      have := ih (n / 128) (by omega)
      simp only [valS, this]
      omega
theorem short_last (n : Nat) : n ≠ 0 → (shortS n).getD ((shortS n).length - 1) 0 ≠ 0 := by
  induction n using Nat.strongRecOn with
  | ind n ih =>
    intro h0
    by_cases hn : n < 128
    · rw [shortS_lt hn]; simp; omega
    · rw [shortS_ge hn]
      have := ih (n / 128) (by omega) (by omega)
      have hl : (shortS (n / 128)).length ≠ 0 := by rw [shortS_eq]; split <;> simp
      obtain ⟨m, hm⟩ : ∃ m, (shortS (n / 128)).length = m + 1 := ⟨(shortS (n / 128)).length - 1, by omega⟩
      rw [hm] at this
      simp only [List.length_cons, hm]
      simpa using this
/-- The tenth byte of a number below 2^64 is at most 1. -/
theorem short_tenth (n : Nat) (h : n < 18446744073709551616) (hl : (shortS n).length = 10) : (shortS n).getD 9 0 ≤ 1 := by
  have step : ∀ (k m : Nat), (shortS m).length = k + 2 → ¬ m < 128 ∧ (shortS (m / 128)).length = k + 1 ∧ (shortS m).getD (k + 1) 0 = (shortS (m / 128)).getD k 0 := by
    intro k m hm
    by_cases hn : m < 128
    · rw [shortS_lt hn] at hm; simp at hm
    · rw [shortS_ge hn] at hm ⊢
      refine ⟨hn, by simpa using hm, by simp⟩
  obtain ⟨_, l9, e9⟩ := step 8 n hl
  obtain ⟨_, l8, e8⟩ := step 7 _ l9
  obtain ⟨_, l7, e7⟩ := step 6 _ l8
  obtain ⟨_, l6, e6⟩ := step 5 _ l7
  obtain ⟨_, l5, e5⟩ := step 4 _ l6
  obtain ⟨_, l4, e4⟩ := step 3 _ l5
  obtain ⟨_, l3, e3⟩ := step 2 _ l4
  obtain ⟨_, l2, e2⟩ := step 1 _ l3
  obtain ⟨_, l1, e1⟩ := step 0 _ l2
  rw [e9, e8, e7, e6, e5, e4, e3, e2, e1]
  have hd : n / 128 / 128 / 128 / 128 / 128 / 128 / 128 / 128 / 128 ≤ 1 := by omega
  rw [shortS_lt (by omega)]
  simp; omega
end Go.Proofs.Yteehkjdolmmapaa
