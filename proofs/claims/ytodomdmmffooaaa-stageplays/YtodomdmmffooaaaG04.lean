/-
  Own texts put together: Bit, SetWalks, Withs, ListFacts, VtPlain. Own work.
-/
import Derived.Test.YtodomdmmffooaaaG03
import Derived.Laws.Bits128
namespace Go.Proofs.Ytodomdmmffooaaa
section
open Go

theorem pow_lt64 {n : Nat} (h : n < 64) : (2 : Nat) ^ n < 18446744073709551616 := Nat.lt_of_lt_of_eq (Nat.pow_lt_pow_right (by decide) h) (by decide)
theorem bit_div (s n : Nat) : s.testBit n = decide (s / 2 ^ n % 2 = 1) := Nat.testBit_eq_decide_div_mod_eq
theorem and_bit (s n : Nat) : (s &&& 2 ^ n) ≠ 0 ↔ s.testBit n = true := by
  rw [nat_bit n s, bit_div]
  have hp : 0 < 2 ^ n := Nat.two_pow_pos n
  have h2 : s / 2 ^ n % 2 < 2 := Nat.mod_lt _ (by decide)
  generalize s / 2 ^ n % 2 = b at *
  obtain rfl | rfl : b = 0 ∨ b = 1 := by omega
  · simp
  · simp
theorem or_clear (s n : Nat) (h : s.testBit n = false) : s ||| 2 ^ n = s + 2 ^ n := by
  have hp : 0 < 2 ^ n := Nat.two_pow_pos n
  have hp1 : 0 < 2 ^ (n + 1) := Nat.two_pow_pos _
  have hd := Nat.div_add_mod s (2 ^ (n + 1))
  have hr := Nat.mod_lt s hp1
  have hb : s % 2 ^ (n + 1) < 2 ^ n := by
    rw [bit_div] at h
    have h' : s / 2 ^ n % 2 = 0 := by have := of_decide_eq_false h; omega
    have e : s % 2 ^ (n + 1) / 2 ^ n = s / 2 ^ n % 2 := by
      rw [Nat.pow_succ, Nat.mod_mul_right_div_self]
    rw [h'] at e
    rcases Nat.lt_or_ge (s % 2 ^ (n + 1)) (2 ^ n) with h1 | h1
    · exact h1
    · have := Nat.div_pos h1 hp; omega
  generalize s / 2 ^ (n + 1) = q at *
  generalize s % 2 ^ (n + 1) = r at *
  rw [← hd]
  have e1 : 2 ^ (n + 1) * q + r = 2 ^ (n + 1) * q ||| r := Nat.two_pow_add_eq_or_of_lt hr q
  have e2 : 2 ^ n * 1 + r = 2 ^ n * 1 ||| r := Nat.two_pow_add_eq_or_of_lt hb 1
  have hlt : r + 2 ^ n < 2 ^ (n + 1) := by rw [Nat.pow_succ]; omega
  have e3 : 2 ^ (n + 1) * q + (r + 2 ^ n) = 2 ^ (n + 1) * q ||| (r + 2 ^ n) := Nat.two_pow_add_eq_or_of_lt hlt q
  rw [Nat.add_assoc, e3, e1, Nat.or_assoc]
  congr 1
  rw [Nat.mul_one] at e2
  rw [Nat.or_comm, ← e2, Nat.add_comm]
theorem or_set (s n : Nat) (h : s.testBit n = true) : s ||| 2 ^ n = s := by
  apply Nat.eq_of_testBit_eq
  intro i
  rw [Nat.testBit_or, Nat.testBit_two_pow]
  by_cases hi : n = i
  · subst hi; simp [h]
  · simp [hi]
/-- A set and a node; a set but a node. -/
def withN (s n : Nat) : Nat := if s.testBit n then s else s + 2 ^ n
theorem or_with (s n : Nat) : s ||| 2 ^ n = withN s n := by
  unfold withN
  cases h : s.testBit n
  · simp [or_clear s n h]
  · simp [or_set s n h]
theorem with_bit (s n : Nat) : (withN s n).testBit n = true := by rw [← or_with, Nat.testBit_or, Nat.testBit_two_pow]; simp
end
section
open Go.RowKit

theorem has_in (s n : Nat) (hs : s < 18446744073709551616) (hn : n < 64) (w : World) :
    Calls Try.prog 140 #[.int .u64 s, .int .i64 n] w fun e w' => e = .returned (.bool (s.testBit n)) ∧ w' = w := by
  have ho := only_in n hn w
  have hp := pow_lt64 hn
  have hb := and_bit s n
  have ha := u64_and_nat s (2 ^ n) hs hp
  generalize (2 : Nat) ^ n = p at *
  have H : Hid ((((s &&& p : Nat) : Int) != 0) = s.testBit n) := by
    refine hide ?_
    rw [Bool.eq_iff_iff, ← hb]
    simp
  generalize s &&& p = r at *
  clear hb
  go_enter Try.func140, Try.ntmps140
  go_wp2_with (go_at_call 149; refine ho.mono ?_; rintro e w' ⟨rfl, rfl⟩)
  go_ret
  exact ⟨ret_bool H.out, rfl⟩
end
section
open Go.RowKit

theorem with_in (s n : Nat) (hs : s < 18446744073709551616) (hn : n < 64) (w : World) :
    Calls Try.prog 141 #[.int .u64 s, .int .i64 n] w fun e w' => e = .returned (.int .u64 ((withN s n : Nat) : Int)) ∧ w' = w := by
  have ho := only_in n hn w
  have hp := pow_lt64 hn
  have ha := u64_or_nat s (2 ^ n) hs hp
  rw [or_with] at ha
  generalize (2 : Nat) ^ n = p at *
  generalize withN s n = r at *
  go_enter Try.func141, Try.ntmps141
  go_wp2_with (go_at_call 149; refine ho.mono ?_; rintro e w' ⟨rfl, rfl⟩)
  go_ret
  exact ⟨rfl, rfl⟩
end
section
open Go

/-- The votes of a set's nodes below k. -/
def ofN (vs : List Nat) (s : Nat) : Nat → Nat
  | 0 => 0
  | k + 1 => ofN vs s k + (if s.testBit k then vs.getD k 0 else 0)
/-- The voters below k. -/
def votN (vs : List Nat) : Nat → Nat
  | 0 => 0
  | k + 1 => if 0 < vs.getD k 0 then withN (votN vs k) k else votN vs k
/-- All votes of the nodes below k. -/
def totN (vs : List Nat) : Nat → Nat
  | 0 => 0
  | k + 1 => totN vs k + vs.getD k 0
/-- A part, bit by bit. -/
def Part (a b : Nat) : Prop := ∀ i, a.testBit i = true → b.testBit i = true
theorem with_other (s n i : Nat) (h : i ≠ n) : (withN s n).testBit i = s.testBit i := by
  rw [← or_with, Nat.testBit_or, Nat.testBit_two_pow]
  have e : ¬ n = i := fun e => h e.symm
  simp [e]
theorem vot_bit (vs : List Nat) (i : Nat) : ∀ k, (votN vs k).testBit i = (decide (i < k) && decide (0 < vs.getD i 0))
  | 0 => by simp [votN]
  | k + 1 => by
    rw [votN]
    split
    · rename_i h
      by_cases e : i = k
      · subst e; rw [with_bit]; simp only [Nat.lt_succ_self, decide_true, Bool.true_and]; exact (decide_eq_true h).symm
      · rw [with_other _ _ _ e, vot_bit vs i k]
        have : (i < k + 1) ↔ (i < k) := by omega
        simp [this]
    · rename_i h
      rw [vot_bit vs i k]
      by_cases e : i = k
      · subst e; simp only [Nat.lt_irrefl, decide_false, Bool.false_and]; rw [decide_eq_false h]; simp
      · have : (i < k + 1) ↔ (i < k) := by omega
        simp [this]
theorem lt_of_bits (x m : Nat) (h : ∀ i, x.testBit i = true → i < m) : x < 2 ^ m := by
  refine Nat.lt_pow_two_of_testBit x (fun i hi => ?_)
  cases hb : x.testBit i
  · rfl
  · have := h i hb; omega
theorem vot_lt (vs : List Nat) (k : Nat) : votN vs k < 2 ^ k := by
  refine lt_of_bits _ _ (fun i h => ?_)
  rw [vot_bit] at h
  simp at h
  exact h.1
theorem Part.trans {a b c : Nat} (h : Part a b) (h' : Part b c) : Part a c := fun i hi => h' i (h i hi)
theorem of_vot (vs : List Nat) (K : Nat) : ∀ k, k ≤ K → ofN vs (votN vs K) k = totN vs k
  | 0, _ => rfl
  | k + 1, h => by
    rw [ofN, totN, of_vot vs K k (by omega), vot_bit]
    have hk : decide (k < K) = true := decide_eq_true (by omega)
    rw [hk, Bool.true_and]
    by_cases h0 : 0 < vs.getD k 0
    · rw [decide_eq_true h0, if_pos rfl]
    · rw [decide_eq_false h0, if_neg (by decide)]; omega
theorem of_le (vs : List Nat) (a : Nat) : ∀ k, ofN vs a k ≤ totN vs k
  | 0 => Nat.le_refl _
  | k + 1 => by
    have := of_le vs a k
    rw [ofN, totN]
    split <;> omega
theorem tot_le (vs : List Nat) (m : Nat) (h : ∀ v ∈ vs, v ≤ m) : ∀ k, totN vs k ≤ m * k
  | 0 => Nat.le_refl _
  | k + 1 => by
    have := tot_le vs m h k
    have h1 : vs.getD k 0 ≤ m := by
      rw [List.getD_eq_getElem?_getD]
      cases hx : vs[k]? with
      | none => simp
      | some x => exact h x (List.mem_of_getElem? hx)
    rw [totN, Nat.mul_succ]
    omega
theorem vot256 (vs : List Nat) : votN vs 8 < 256 := vot_lt vs 8
end
end Go.Proofs.Ytodomdmmffooaaa
