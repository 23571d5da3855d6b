/-
  A reader of layer 3 as a plain function of what is left: what is written is read; what is read without a fault is written as the same bytes; behind a fault nothing is read. Of no program. Own work.
-/
import Derived.Test.YtnljibmdcknmeabDoorWrite
namespace Go.Proofs.YtnljibmdcknmeabDoor
open Go

/-- What is left, how many bytes went, the first fault. -/
structure RS where
  bs : List Int
  went : Nat
  why : Int
  fat : Nat
def RS.fail (r : RS) (e : Int) : RS := { r with why := e, fat := r.went }
def RS.go (r : RS) (k : Nat) : RS := { r with bs := r.bs.drop k, went := r.went + k }
def numS (most : Nat) (r : RS) : Int × RS :=
  if r.why ≠ 0 then (0, r)
  else if (longS r.bs).2.2 ≠ 0 then (0, r.fail (longS r.bs).2.2)
  else if (most : Int) < (longS r.bs).1 then (0, r.fail 5)
  else ((longS r.bs).1, r.go (longS r.bs).2.1.toNat)
def byteS (r : RS) : Int × RS := if r.why ≠ 0 then (0, r) else if r.bs = [] then (0, r.fail 4) else (r.bs.getD 0 0, r.go 1)
def boolS (r : RS) : Bool × RS :=
  if r.why ≠ 0 then (false, r) else if r.bs = [] then (false, r.fail 4) else if 1 < r.bs.getD 0 0 then (false, r.fail 3) else (r.bs.getD 0 0 == 1, r.go 1)
def textS (most : Int) (r : RS) : List Int × RS :=
  if r.why ≠ 0 then ([], r)
  else if (longS r.bs).2.2 ≠ 0 then ([], r.fail (longS r.bs).2.2)
  else if 0 ≤ most ∧ most < (longS r.bs).1 then ([], r.fail 5)
  else if (r.bs.length : Int) - (longS r.bs).2.1 < (longS r.bs).1 then ([], r.fail 4)
  else ((r.bs.drop (longS r.bs).2.1.toNat).take (longS r.bs).1.toNat, r.go ((longS r.bs).2.1.toNat + (longS r.bs).1.toNat))
def keyS (r : RS) : List Int × RS := if r.why ≠ 0 then (List.replicate 8 0, r) else if r.bs.length < 8 then (List.replicate 8 0, r.fail 4) else (r.bs.take 8, r.go 8)
def leftS (r : RS) : Nat := if r.why ≠ 0 then 0 else r.bs.length
def endS (r : RS) : RS := if r.why ≠ 0 then r else if r.bs = [] then r else r.fail 3

/-! Behind a fault nothing is read, and the fault stays. -/
theorem num_stays {r : RS} (h : r.why ≠ 0) (m : Nat) : numS m r = (0, r) := by unfold numS; rw [if_pos h]
theorem byte_stays {r : RS} (h : r.why ≠ 0) : byteS r = (0, r) := by unfold byteS; rw [if_pos h]
theorem bool_stays {r : RS} (h : r.why ≠ 0) : boolS r = (false, r) := by unfold boolS; rw [if_pos h]
theorem text_stays {r : RS} (h : r.why ≠ 0) (m : Int) : textS m r = ([], r) := by unfold textS; rw [if_pos h]
theorem key_stays {r : RS} (h : r.why ≠ 0) : keyS r = (List.replicate 8 0, r) := by unfold keyS; rw [if_pos h]
theorem left_stays {r : RS} (h : r.why ≠ 0) : leftS r = 0 := by unfold leftS; rw [if_pos h]
theorem end_stays {r : RS} (h : r.why ≠ 0) : endS r = r := by unfold endS; rw [if_pos h]

/-! What is written is read. -/
theorem long_back' (n : Nat) (xs : List Int) (hn : n < 18446744073709551616) : longS (shortS n ++ xs) = ((n : Int), ((shortS n).length : Int), 0) := by
  have hs := size_short n xs
  have hl10 := shortS_len10 hn
  have hl0 : (shortS n).length ≠ 0 := by rw [shortS_eq]; split <;> simp
  have hg : ∀ i, i < (shortS n).length → (shortS n ++ xs).getD i 0 = (shortS n).getD i 0 := by
    intro i hi; simp [List.getD, List.getElem?_append_left hi]
  unfold longS
  rw [hs, if_neg hl0, if_neg, if_neg]
  · rw [List.take_left, val_short]
  · rintro (h | ⟨h, h'⟩)
    · omega
    · rw [hg _ (by omega)] at h'
      have := short_tenth n hn h
      rw [h] at h'
      simp only [Nat.add_one_sub_one] at h'
      omega
  · rintro ⟨h, h'⟩
    rw [hg _ (by omega)] at h'
    refine short_last n ?_ h'
    intro e
    subst e
    rw [shortS_lt (by decide)] at h
    simp at h
theorem go_append (ys zs : List Int) (w : Nat) (e : Int) (f : Nat) : RS.go ⟨ys ++ zs, w, e, f⟩ ys.length = ⟨zs, w + ys.length, e, f⟩ := by
  unfold RS.go; simp
theorem num_back (n : Nat) (hn : n < 18446744073709551616) (ys : List Int) (w : Nat) (m : Nat) (hm : n ≤ m) (f : Nat) : numS m ⟨shortS n ++ ys, w, 0, f⟩ = ((n : Int), ⟨ys, w + (shortS n).length, 0, f⟩) := by
  unfold numS
  rw [if_neg (by simp), long_back' n ys hn]
  simp only
  rw [if_neg (by simp), if_neg (by omega), Int.toNat_natCast, go_append]
theorem byte_back (c : Int) (ys : List Int) (w : Nat) (f : Nat) : byteS ⟨[c] ++ ys, w, 0, f⟩ = (c, ⟨ys, w + 1, 0, f⟩) := by
  unfold byteS
  rw [if_neg (by simp), if_neg (by simp)]
  simp [RS.go]
theorem bool_back (b : Bool) (ys : List Int) (w : Nat) (f : Nat) : boolS ⟨[if b then 1 else 0] ++ ys, w, 0, f⟩ = (b, ⟨ys, w + 1, 0, f⟩) := by
  unfold boolS
  rw [if_neg (by simp), if_neg (by simp)]
  cases b <;> simp [RS.go]
theorem text_back (s : List Int) (hs : s.length < 18446744073709551616) (ys : List Int) (w : Nat) (f : Nat) : textS (s.length : Int) ⟨shortS s.length ++ s ++ ys, w, 0, f⟩ = (s, ⟨ys, w + (shortS s.length).length + s.length, 0, f⟩) := by
  unfold textS
  rw [if_neg (by simp), List.append_assoc, long_back' s.length _ hs]
  simp only
  rw [if_neg (by simp), if_neg (by omega), if_neg (by simp; omega)]
  simp [RS.go, Nat.add_assoc]
theorem key_back (k : List Int) (hk : k.length = 8) (ys : List Int) (w : Nat) (f : Nat) : keyS ⟨k ++ ys, w, 0, f⟩ = (k, ⟨ys, w + 8, 0, f⟩) := by
  unfold keyS
  rw [if_neg (by simp), if_neg (by simp; omega)]
  have h1 : (k ++ ys).take 8 = k := by rw [← hk]; simp
  have h2 : (k ++ ys).drop 8 = ys := by rw [← hk]; simp
  simp [RS.go, h1, h2]

/-! What is read without a fault is written as the same bytes. -/
theorem long_cases' (xs : List Int) (hx : ∀ c ∈ xs, 0 ≤ c ∧ c < 256) :
    (∃ e : Int, longS xs = (0, 0, e) ∧ e ≠ 0) ∨ (∃ N s : Nat, longS xs = ((N : Int), (s : Int), 0) ∧ 1 ≤ s ∧ s ≤ xs.length ∧ N < 18446744073709551616 ∧ shortS N = xs.take s) := by
  unfold longS
  by_cases h0 : sizeS xs = 0
  · rw [if_pos h0]; exact .inl ⟨4, rfl, by decide⟩
  · rw [if_neg h0]
    by_cases hA : 1 < sizeS xs ∧ xs.getD (sizeS xs - 1) 0 = 0
    · rw [if_pos hA]; exact .inl ⟨3, rfl, by decide⟩
    · rw [if_neg hA]
      by_cases hB : 10 < sizeS xs ∨ sizeS xs = 10 ∧ 1 < xs.getD (sizeS xs - 1) 0
      · rw [if_pos hB]; exact .inl ⟨3, rfl, by decide⟩
      · rw [if_neg hB]
        refine .inr ⟨_, _, rfl, by omega, sizeS_le xs, ?_, ?_⟩
        · have hl := sizeS_le xs
          have hlt := valS_lt (xs.take (sizeS xs))
          have hlen : (xs.take (sizeS xs)).length = sizeS xs := by simp; omega
          rw [hlen] at hlt
          by_cases h10 : sizeS xs = 10
          · have hlast : xs.getD 9 0 ≤ 1 := by
              have : ¬ 1 < xs.getD (sizeS xs - 1) 0 := fun h' => hB (.inr ⟨h10, h'⟩)
              rw [h10] at this
              simpa using this
            have hb := hx (xs.getD 9 0) (by simp [List.getD, show 9 < xs.length by omega])
            rw [h10, take_snoc xs 9 (by omega), valS_snoc]
            have h9 := valS_lt (xs.take 9)
            have hl9 : (xs.take 9).length = 9 := by simp; omega
            rw [hl9] at h9 ⊢
            have e63 : (2 : Nat) ^ (7 * 9) = 9223372036854775808 := by decide
            rw [e63] at h9 ⊢
            have : (xs.getD 9 0 % 128).toNat ≤ 1 := by omega
            have := Nat.mul_le_mul_right 9223372036854775808 this
            omega
          · have : (2 : Nat) ^ (7 * sizeS xs) ≤ 2 ^ 63 := Nat.pow_le_pow_right (by decide) (by omega)
            have e63 : (2 : Nat) ^ 63 = 9223372036854775808 := by decide
            omega
        · exact shortS_val xs hx h0 (fun h => fun h' => hA ⟨h, h'⟩)
/-- What reading a field leaves: its bytes went, or nothing did and the fault tells where. -/
def ReadAs (r r' : RS) (ys : List Int) : Prop :=
  (r'.why = 0 ∧ r.bs = ys ++ r'.bs ∧ r'.went = r.went + ys.length ∧ r'.fat = r.fat) ∨ (r'.why ≠ 0 ∧ r'.bs = r.bs ∧ r'.went = r.went ∧ r'.fat = r.went)
theorem fail_as (r : RS) (e : Int) (he : e ≠ 0) (ys : List Int) : ReadAs r (r.fail e) ys := .inr ⟨he, rfl, rfl, rfl⟩
theorem go_as (r : RS) (h : r.why = 0) (k : Nat) (hk : k ≤ r.bs.length) : ReadAs r (r.go k) (r.bs.take k) :=
  .inl ⟨h, by simp [RS.go], by simp [RS.go]; omega, rfl⟩
theorem num_one (m : Nat) (r : RS) (h : r.why = 0) (hx : ∀ c ∈ r.bs, 0 ≤ c ∧ c < 256) : ∃ n : Nat, (numS m r).1 = (n : Int) ∧ n < 18446744073709551616 ∧ ReadAs r (numS m r).2 (shortS n) := by
  unfold numS
  rw [if_neg (by simp [h])]
  rcases long_cases' r.bs hx with ⟨e, hl, he⟩ | ⟨N, s, hl, h1, hs, hN, hS⟩
  · rw [hl]
    simp only
    rw [if_pos he]
    exact ⟨0, rfl, by decide, fail_as r e he _⟩
  · rw [hl]
    simp only
    rw [if_neg (by simp)]
    split
    · exact ⟨0, rfl, by decide, fail_as r 5 (by decide) _⟩
    · refine ⟨N, rfl, hN, ?_⟩
      rw [Int.toNat_natCast, hS]
      exact go_as r h s hs
theorem byte_one (r : RS) (h : r.why = 0) : ReadAs r (byteS r).2 [(byteS r).1] := by
  unfold byteS
  rw [if_neg (by simp [h])]
  by_cases h0 : r.bs = []
  · rw [if_pos h0]; exact fail_as r 4 (by decide) _
  · rw [if_neg h0]
    have := go_as r h 1 (by cases hb : r.bs with | nil => exact absurd hb h0 | cons => simp)
    cases hb : r.bs with
    | nil => exact absurd hb h0
    | cons c t => rw [hb] at this; simpa using this
theorem bool_one (r : RS) (h : r.why = 0) (hx : ∀ c ∈ r.bs, 0 ≤ c ∧ c < 256) : ReadAs r (boolS r).2 [if (boolS r).1 then 1 else 0] := by
  unfold boolS
  rw [if_neg (by simp [h])]
  by_cases h0 : r.bs = []
  · rw [if_pos h0]; exact fail_as r 4 (by decide) _
  · rw [if_neg h0]
    split
    · exact fail_as r 3 (by decide) _
    · rename_i hle
      have := go_as r h 1 (by cases hb : r.bs with | nil => exact absurd hb h0 | cons => simp)
      cases hb : r.bs with
      | nil => exact absurd hb h0
      | cons c t =>
        rw [hb] at this hle hx
        have hc := hx c (by simp)
        simp at hle
        have hc2 : c = 0 ∨ c = 1 := by omega
        rcases hc2 with rfl | rfl <;> simpa using this
theorem key_one (r : RS) (h : r.why = 0) : ReadAs r (keyS r).2 (keyS r).1 := by
  unfold keyS
  rw [if_neg (by simp [h])]
  split
  · exact fail_as r 4 (by decide) _
  · exact go_as r h 8 (by omega)
theorem text_one (m : Int) (r : RS) (h : r.why = 0) (hx : ∀ c ∈ r.bs, 0 ≤ c ∧ c < 256) : ReadAs r (textS m r).2 (shortS (textS m r).1.length ++ (textS m r).1) := by
  unfold textS
  rw [if_neg (by simp [h])]
  rcases long_cases' r.bs hx with ⟨e, hl, he⟩ | ⟨N, s, hl, h1, hs, hN, hS⟩
  · rw [hl]
    simp only
    rw [if_pos he]
    exact fail_as r e he _
  · rw [hl]
    simp only
    rw [if_neg (by simp)]
    split
    · exact fail_as r 5 (by decide) _
    · split
      · exact fail_as r 4 (by decide) _
      · rename_i hle
        simp only [Int.toNat_natCast]
        have hlen : ((r.bs.drop s).take N).length = N := by rw [List.length_take, List.length_drop]; omega
        rw [hlen, hS]
        have := go_as r h (s + N) (by omega)
        rw [List.take_add] at this
        exact this
end Go.Proofs.YtnljibmdcknmeabDoor
