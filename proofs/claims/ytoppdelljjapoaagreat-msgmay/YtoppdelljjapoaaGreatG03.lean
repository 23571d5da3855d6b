/-
  Own texts put together: Num, Texts, Bytes. Own work.
-/
import Derived.Test.YtoppdelljjapoaaGreatG01
import Derived.Test.YtoppdelljjapoaaGreatG02
import Derived.Test.YtoppdelljjapoaaGreatProg
import Derived.WalkKit
import Derived.WalkSpells
import Derived.WalkLawsBesides
import Derived.Handy
import Derived.OwnWalk
import Derived.Laws.BytesArg
import Derived.Maps.AppendAt
namespace Go.Proofs.YtoppdelljjapoaaGreat
section
open Go.RowKit

theorem power_any (n : Int) (h1 : n ≤ 9223372036854775807) (w : World) :
    Calls Tryz.prog 163 #[.int .i64 n] w fun e w' => e = .returned (.int .u64 (pw n.toNat)) ∧ w' = w := by
  go_enter Tryz.func163, Tryz.ntmps163
  go_wp2
  go_loop [3, 4] (fun p i => ∃ k : Nat, (k ≤ n ∨ k = 0) ∧ i = .int .i64 k ∧ p = .int .u64 (pw k)) (fun _ i => n.toNat - (intOf i).toNat)
  case atStart => exact ⟨0, Or.inr rfl, rfl, rfl⟩
  case round =>
    obtain ⟨k, hk, rfl, rfl⟩ := hrel
    by_cases hlt : (k : Int) < n
    · go_wp2
      go_round
      case rel => exact ⟨k + 1, by omega, by go_num, by rw [pw_succ]⟩
      case measure => simp [intOf]; omega
    · go_wp2
      go_ret
      exact ⟨ret_int (by rw [show n.toNat = k by omega]), rfl⟩

theorem only_in (n : Nat) (h1 : n < 64) (w : World) :
    Calls Tryz.prog 171 #[.int .i64 n] w fun e w' => e = .returned (.int .u64 (((2 ^ n : Nat) : Int))) ∧ w' = w := by
  have H : Hid (IntKind.u64.wrap ((2 : Int) ^ n) = ((2 ^ n : Nat) : Int)) := by
    refine hide ?_
    rw [IntKind.wrap_u64]
    exact pw_lt n h1
  go_enter Tryz.func171, Tryz.ntmps171
  go_wp2
  go_ret
  exact ⟨ret_int H.out, rfl⟩
theorem only_out (n : Int) (h1 : n < 0 ∨ 64 ≤ n) (w : World) :
    Calls Tryz.prog 171 #[.int .i64 n] w fun e w' => e = .returned (.int .u64 0) ∧ w' = w := by
  rcases h1 with h | h
  all_goals
    go_enter Tryz.func171, Tryz.ntmps171
    go_wp2
    go_ret
    exact ⟨rfl, rfl⟩

theorem unfold_bits64 (n : Int) (h1 : 0 ≤ n) (h2 : n ≤ 18446744073709551615) : wrap64 (bits BinOp.xor IntKind.u64 (n / 2) (IntKind.u64.wrap (-bits BinOp.and IntKind.u64 n 1))) = unfoldS n := by
  unfold wrap64; exact unfold_bits n h1 h2
/-- By how many places: from 0 to 63. -/
def places (b : Int) : Nat := (b % 64).toNat
theorem places_lt (b : Int) : places b < 64 := by unfold places; omega
theorem places_bits (b : Int) : bits BinOp.and IntKind.u64 (IntKind.u64.wrap b) 63 = ((places b : Nat) : Int) := by
  rw [u64_and _ _ (by rw [IntKind.wrap_u64]; omega) (by rw [IntKind.wrap_u64]; omega) (by decide) (by decide), IntKind.wrap_u64]
  have := nat_mask6 (b % 18446744073709551616).toNat
  show (((b % 18446744073709551616).toNat &&& 63 : Nat) : Int) = _
  rw [this]
  unfold places
  omega
theorem rturn_places (b : Int) : (wrap64 (b.tmod 64 + 64)).tmod 64 = ((places b : Nat) : Int) := by
  have hw : wrap64 (b.tmod 64 + 64) = b.tmod 64 + 64 := by
    have := Int.tmod_lt_of_pos b (show (0 : Int) < 64 by decide)
    have := Int.lt_tmod_of_pos b (show (0 : Int) < 64 by decide)
    unfold wrap64; omega
  rw [hw]
  unfold places
  by_cases h : 0 ≤ b
  · rw [Int.tmod_eq_emod_of_nonneg h, Int.tmod_eq_emod_of_nonneg (by omega)]; omega
  · have e : b.tmod 64 = -((-b) % 64) := by
      rw [← Int.tmod_eq_emod_of_nonneg (by omega), Int.neg_tmod]; omega
    rw [e, Int.tmod_eq_emod_of_nonneg (by omega)]; omega
theorem rotl_step_int (n k : Nat) (h : n < 18446744073709551616) (hk : k < 64) :
    IntKind.u64.wrap (IntKind.u64.wrap (((rotl n k : Nat) : Int) * 2) + ((rotl n k : Nat) : Int) / 9223372036854775808) = ((rotl n (k + 1) : Nat) : Int) := by
  rw [IntKind.wrap_u64, IntKind.wrap_u64, ← rotl_succ n k h hk]
  simp
end
section
open Go

/-- The text of a number: seven bits a byte, the lowest first; the first argument bounds how many. -/
def shortF : Nat → Nat → List Int
  | 0, n => [(n : Int)]
  | f + 1, n => if n < 128 then [(n : Int)] else ((n % 128 + 128 : Nat) : Int) :: shortF f (n / 128)
theorem shortF_same : ∀ (f g n : Nat), n ≤ f → n ≤ g → shortF f n = shortF g n
  | 0, 0, _, _, _ => rfl
  | 0, g + 1, n, h, _ => by
    obtain rfl : n = 0 := by omega
    simp [shortF]
  | f + 1, 0, n, _, h => by
    obtain rfl : n = 0 := by omega
    simp [shortF]
  | f + 1, g + 1, n, hf, hg => by
    unfold shortF
    split
    · rfl
    · rw [shortF_same f g (n / 128) (by omega) (by omega)]
/-- The text of a number. -/
def shortS (n : Nat) : List Int := shortF n n
theorem shortS_eq (n : Nat) : shortS n = if n < 128 then [(n : Int)] else ((n % 128 + 128 : Nat) : Int) :: shortS (n / 128) := by
  unfold shortS
  cases n with
  | zero => simp [shortF]
  | succ n =>
    rw [shortF]
    split
    · rfl
    · rw [shortF_same n ((n + 1) / 128) ((n + 1) / 128) (by omega) (by omega)]
theorem shortS_lt {n : Nat} (h : n < 128) : shortS n = [(n : Int)] := by rw [shortS_eq, if_pos h]
theorem shortS_ge {n : Nat} (h : ¬ n < 128) : shortS n = ((n % 128 + 128 : Nat) : Int) :: shortS (n / 128) := by rw [shortS_eq, if_neg h]
theorem shortS_300 : shortS 300 = [172, 2] := by rw [shortS_ge (by decide), shortS_lt (by decide)]; rfl
theorem shortS_len : ∀ (k n : Nat), n < 128 ^ (k + 1) → (shortS n).length ≤ k + 1
  | 0, n, h => by rw [shortS_lt (by simpa using h)]; simp
  | k + 1, n, h => by
    by_cases hn : n < 128
    · rw [shortS_lt hn]; simp
    · rw [shortS_ge hn]
      have := shortS_len k (n / 128) (by rw [Nat.div_lt_iff_lt_mul (by decide)]; rw [Nat.pow_succ] at h; exact h)
      simp; omega
theorem shortS_len10 {n : Nat} (h : n < 18446744073709551616) : (shortS n).length ≤ 10 :=
  shortS_len 9 n (Nat.lt_trans h (by decide))
theorem shortS_bytes (n : Nat) : ∀ c ∈ shortS n, 0 ≤ c ∧ c < 256 := by
  induction n using Nat.strongRecOn with
  | ind n ih =>
    by_cases hn : n < 128
    · rw [shortS_lt hn]; intro c hc; simp at hc; omega
    · rw [shortS_ge hn]
      intro c hc
      rcases List.mem_cons.1 hc with rfl | hc
      · omega
      · exact ih (n / 128) (by omega) c hc

/-- How many bytes the short number has that a text begins with; 0 where it does not end. -/
def sizeS : List Int → Nat
  | [] => 0
  | c :: cs => if c < 128 then 1 else if sizeS cs = 0 then 0 else sizeS cs + 1
theorem sizeS_le : ∀ xs : List Int, sizeS xs ≤ xs.length
  | [] => by simp [sizeS]
  | c :: cs => by
    have := sizeS_le cs
    unfold sizeS
    split
    · simp
    · split <;> simp <;> omega
/-- From a place on, none ahead of it being a last byte. -/
def sizeFrom (xs : List Int) (k : Nat) : Nat := if sizeS (xs.drop k) = 0 then 0 else k + sizeS (xs.drop k)
theorem sizeFrom_zero (xs : List Int) : sizeFrom xs 0 = sizeS xs := by
  unfold sizeFrom
  rw [List.drop_zero]
  split <;> omega
theorem sizeFrom_end (xs : List Int) (k : Nat) (h : xs.length ≤ k) : sizeFrom xs k = 0 := by simp [sizeFrom, List.drop_of_length_le h, sizeS]
theorem drop_cons (xs : List Int) (k : Nat) (h : k < xs.length) : xs.drop k = xs.getD k 0 :: xs.drop (k + 1) := by
  rw [List.drop_eq_getElem_cons h]; simp [h]
theorem sizeFrom_hit (xs : List Int) (k : Nat) (h : k < xs.length) (hc : xs.getD k 0 < 128) : sizeFrom xs k = k + 1 := by
  have e : sizeS (xs.drop k) = 1 := by rw [drop_cons xs k h]; unfold sizeS; rw [if_pos hc]
  unfold sizeFrom; rw [e]; simp
theorem sizeFrom_miss (xs : List Int) (k : Nat) (h : k < xs.length) (hc : ¬ xs.getD k 0 < 128) : sizeFrom xs k = sizeFrom xs (k + 1) := by
  by_cases h0 : sizeS (xs.drop (k + 1)) = 0
  · have e : sizeS (xs.drop k) = 0 := by rw [drop_cons xs k h]; unfold sizeS; rw [if_neg hc, if_pos h0]
    unfold sizeFrom; rw [e, h0]; simp
  · have e : sizeS (xs.drop k) = sizeS (xs.drop (k + 1)) + 1 := by rw [drop_cons xs k h, sizeS, if_neg hc, if_neg h0]
    unfold sizeFrom; rw [e, if_neg h0, if_neg (by omega)]; omega
/-- The short number's own last byte, and those ahead of it. -/
theorem sizeS_last : ∀ (xs : List Int), sizeS xs ≠ 0 → xs.getD (sizeS xs - 1) 0 < 128 ∧ ∀ i, i < sizeS xs - 1 → 128 ≤ xs.getD i 0
  | [], h => absurd rfl h
  | c :: cs, h => by
    unfold sizeS at h ⊢
    split
    · rename_i hc
      simp [hc]
    · rename_i hc
      rw [if_neg hc] at h
      split at h
      · exact absurd rfl h
      · rename_i h0
        have ih := sizeS_last cs h0
        rw [if_neg h0]
        obtain ⟨m, hm⟩ : ∃ m, sizeS cs = m + 1 := ⟨sizeS cs - 1, by omega⟩
        rw [hm] at ih ⊢
        refine ⟨by simpa using ih.1, fun i hi => ?_⟩
        cases i with
        | zero => simp; omega
        | succ i => simpa using ih.2 i (by omega)

/-- What bytes are worth, seven bits each. -/
def valS : List Int → Nat
  | [] => 0
  | c :: cs => (c % 128).toNat + 128 * valS cs
theorem valS_lt : ∀ xs : List Int, valS xs < 2 ^ (7 * xs.length)
  | [] => by simp [valS]
  | c :: cs => by
    have := valS_lt cs
    unfold valS
    have e : 2 ^ (7 * (c :: cs).length) = 128 * 2 ^ (7 * cs.length) := by
      rw [List.length_cons, Nat.mul_add, Nat.pow_add, Nat.mul_comm]
    rw [e]
    have : (c % 128).toNat < 128 := by omega
    omega
theorem valS_snoc : ∀ (xs : List Int) (c : Int), valS (xs ++ [c]) = valS xs + (c % 128).toNat * 2 ^ (7 * xs.length)
  | [], c => by simp [valS]
  | x :: xs, c => by
    have := valS_snoc xs c
    simp only [List.cons_append, valS, this, List.length_cons]
    have e : 2 ^ (7 * (xs.length + 1)) = 128 * 2 ^ (7 * xs.length) := by rw [Nat.mul_add, Nat.pow_add, Nat.mul_comm]
    rw [e, Nat.mul_add, Nat.mul_left_comm]
    omega
theorem take_snoc (xs : List Int) (k : Nat) (h : k < xs.length) : xs.take (k + 1) = xs.take k ++ [xs.getD k 0] := by
  rw [List.take_succ_eq_append_getElem h]; simp [h]

/-- A text that ends, of one byte or with a last byte that is not 0, is the short one of what it is worth. -/
theorem shortS_val : ∀ (xs : List Int), (∀ c ∈ xs, 0 ≤ c ∧ c < 256) → sizeS xs ≠ 0 → (sizeS xs > 1 → xs.getD (sizeS xs - 1) 0 ≠ 0) → shortS (valS (xs.take (sizeS xs))) = xs.take (sizeS xs)
  | [], _, h, _ => absurd rfl h
  | c :: cs, hb, h, hl => by
    have hc := hb c (by simp)
    have hbs : ∀ x ∈ cs, 0 ≤ x ∧ x < 256 := fun x hx => hb x (by simp [hx])
    by_cases h1 : c < 128
    · have e : sizeS (c :: cs) = 1 := by simp [sizeS, h1]
      rw [e]
      simp only [List.take_succ_cons, List.take_zero, valS]
      rw [shortS_lt (by omega)]
      simp; omega
    · have h0 : sizeS cs ≠ 0 := by
        intro e; apply h; simp [sizeS, h1, e]
      have e : sizeS (c :: cs) = sizeS cs + 1 := by simp [sizeS, h1, h0]
      rw [e] at hl ⊢
      obtain ⟨m, hm⟩ : ∃ m, sizeS cs = m + 1 := ⟨sizeS cs - 1, by omega⟩
      have hlast : cs.getD m 0 ≠ 0 := by have := hl (by omega); simpa [hm] using this
      have ih := shortS_val cs hbs h0 (fun _ => by rw [hm]; exact hlast)
      simp only [List.take_succ_cons, valS]
      have hpos : 0 < valS (cs.take (sizeS cs)) := by
        have hml : m < cs.length := by have := sizeS_le cs; omega
        rw [hm, take_snoc cs m hml, valS_snoc]
        have h3 := (sizeS_last cs h0).1
        rw [hm] at h3
        simp only [Nat.add_sub_cancel] at h3
        have h2 : 0 ≤ cs.getD m 0 := by
          have := hbs (cs.getD m 0) (by simp [List.getD, hml])
          exact this.1
        have : 0 < (cs.getD m 0 % 128).toNat := by omega
        have : 0 < (cs.getD m 0 % 128).toNat * 2 ^ (7 * (cs.take m).length) := Nat.mul_pos this (Nat.two_pow_pos _)
        omega
      generalize valS (cs.take (sizeS cs)) = V at *
      rw [shortS_ge (by omega)]
      have e1 : ((c % 128).toNat + 128 * V) / 128 = V := by omega
      have e2 : (((c % 128).toNat + 128 * V) % 128 + 128 : Nat) = c.toNat := by omega
      rw [e1, ih]
      congr 1
      have : ((((c % 128).toNat + 128 * V) % 128 + 128 : Nat) : Int) = (c.toNat : Int) := by rw [e2]
      rw [this]; omega

/-- What was made short is made long, whatever stands behind. -/
theorem size_short : ∀ (n : Nat) (ys : List Int), sizeS (shortS n ++ ys) = (shortS n).length := by
  intro n
  induction n using Nat.strongRecOn with
  | ind n ih =>
    intro ys
    by_cases hn : n < 128
    · rw [shortS_lt hn]; simp [sizeS]; omega
    · rw [shortS_ge hn]
      have := ih (n / 128) (by omega) ys
      have hl : (shortS (n / 128)).length ≠ 0 := by
        rw [shortS_eq]; split <;> simp
      simp only [List.cons_append, sizeS, this, List.length_cons]
      rw [if_neg (by omega), if_neg hl]
theorem val_short (n : Nat) : valS (shortS n) = n := by
  induction n using Nat.strongRecOn with
  | ind n ih =>
    by_cases hn : n < 128
    · rw [shortS_lt hn]; simp [valS]; omega
    · rw [shortS_ge hn]
      have := ih (n / 128) (by omega)
      simp only [valS, this]
      omega
theorem short_last (n : Nat) : n ≠ 0 → (shortS n).getD ((shortS n).length - 1) 0 ≠ 0 := by
  induction n using Nat.strongRecOn with
  | ind n ih =>
    intro h0
    by_cases hn : n < 128
    · rw [shortS_lt hn]; simp; omega
    · rw [shortS_ge hn]
      have := ih (n / 128) (by omega) (by omega)
      have hl : (shortS (n / 128)).length ≠ 0 := by rw [shortS_eq]; split <;> simp
      obtain ⟨m, hm⟩ : ∃ m, (shortS (n / 128)).length = m + 1 := ⟨(shortS (n / 128)).length - 1, by omega⟩
      rw [hm] at this
      simp only [List.length_cons, hm]
      simpa using this
/-- The tenth byte of a number below 2^64 is at most 1. -/
theorem short_tenth (n : Nat) (h : n < 18446744073709551616) (hl : (shortS n).length = 10) : (shortS n).getD 9 0 ≤ 1 := by
  have step : ∀ (k m : Nat), (shortS m).length = k + 2 → ¬ m < 128 ∧ (shortS (m / 128)).length = k + 1 ∧ (shortS m).getD (k + 1) 0 = (shortS (m / 128)).getD k 0 := by
    intro k m hm
    by_cases hn : m < 128
    · rw [shortS_lt hn] at hm; simp at hm
    · rw [shortS_ge hn] at hm ⊢
      refine ⟨hn, by simpa using hm, by simp⟩
  obtain ⟨_, l9, e9⟩ := step 8 n hl
  obtain ⟨_, l8, e8⟩ := step 7 _ l9
  obtain ⟨_, l7, e7⟩ := step 6 _ l8
  obtain ⟨_, l6, e6⟩ := step 5 _ l7
  obtain ⟨_, l5, e5⟩ := step 4 _ l6
  obtain ⟨_, l4, e4⟩ := step 3 _ l5
  obtain ⟨_, l3, e3⟩ := step 2 _ l4
  obtain ⟨_, l2, e2⟩ := step 1 _ l3
  obtain ⟨_, l1, e1⟩ := step 0 _ l2
  rw [e9, e8, e7, e6, e5, e4, e3, e2, e1]
  have hd : n / 128 / 128 / 128 / 128 / 128 / 128 / 128 / 128 / 128 ≤ 1 := by omega
  rw [shortS_lt (by omega)]
  simp; omega
end
section
open Go.RowKit

set_option maxHeartbeats 400000 in
theorem size_any (v : Value) (xs : List Int) (w : World) (h : Lies .u8 w v xs) :
    Calls Tryz.prog 170 #[v] w fun e w' => e = .returned (.int .i64 (sizeS xs)) ∧ w' = w := by
  have hlen := h.len
  unfold maxLen at hlen
  rcases h with ⟨rfl, ao, cap, rfl, _⟩ | ⟨_, b, off, cap, rfl, _, _, _, hc⟩
  · go_enter Tryz.func170, Tryz.ntmps170
    go_wp2
    go_rounds 1
    go_ret
    exact ⟨rfl, rfl⟩
  · have H0 : Hid (sizeFrom xs 0 = sizeS xs) := hide (sizeFrom_zero xs)
    go_enter Tryz.func170, Tryz.ntmps170
    go_wp2
    go_loop [3, 4, 7] (fun _ _ i => ∃ k : Nat, k ≤ xs.length ∧ i = .int .i64 k ∧ Hid (sizeFrom xs k = sizeS xs)) (fun _ _ i => xs.length - (intOf i).toNat)
    case atStart => exact ⟨0, Nat.zero_le _, rfl, H0⟩
    case round =>
      obtain ⟨k, hk, rfl, HK⟩ := hrel
      by_cases hlt : k < xs.length
      · have hcell := hc k hlt
        by_cases hs : xs.getD k 0 < 128
        · have HE : Hid (sizeS xs = k + 1) := hide (by rw [← HK.out, sizeFrom_hit xs k hlt hs])
          generalize xs.getD k 0 = c at *
          clear hc
          go_wp2
          go_ret
          exact ⟨ret_int (by rw [HE.out]; simp), rfl⟩
        · have HE : Hid (sizeFrom xs (k + 1) = sizeS xs) := hide (by rw [← HK.out, sizeFrom_miss xs k hlt hs])
          generalize xs.getD k 0 = c at *
          clear hc
          go_wp2
          go_round
          case rel => exact ⟨k + 1, by omega, by go_num, HE⟩
          case measure => simp [intOf]; omega
      · have HE : Hid (sizeS xs = 0) := hide (by rw [← HK.out, sizeFrom_end xs k (by omega)])
        clear hc
        go_wp2
        go_ret
        exact ⟨ret_int (by rw [HE.out]; rfl), rfl⟩


set_option maxHeartbeats 400000 in
theorem copy_any (v : Value) (xs : List Int) (room : Nat) (w : World) (h : Lies .u8 w v xs) (hr : xs.length + room ≤ 140737488355328) :
    Calls Tryz.prog 164 #[v, .int .i64 room] w fun e w' => e = .returned (.slice (some ⟨w.heap.size, 0, none⟩) xs.length (xs.length + room)) ∧
      w'.ownsRow w.heap.size 5 1 (.slice (some ⟨w.heap.size, 0, none⟩) xs.length (xs.length + room)) xs.length (xs.map (Value.int .u8)) ∧ Below w.heap.size w w' := by
  obtain ⟨ao, cap, rfl, hnone, hcells⟩ := h.appendable
  obtain ⟨i0, hi, hz0, hz1, hz2⟩ := info_parts info5
  clear h
  generalize hn : xs.length = n at *
  have hcap : (xs.map (Value.int .u8)).length = n * 1 := by simp [hn]
  clear hn
  generalize hy : xs.map (Value.int .u8) = ys at *
  have h1c : ∀ u ∈ ys, u.oneCell' = true := by rw [← hy]; exact ints_oneCell _ _
  clear hy
  go_enter Tryz.func164, Tryz.ntmps164
  go_wp2_with (at_make; refine wpList_make_own _ rfl _ _ 45 rfl w.heap.size 5 i0 (.int .u8 0) 1 Tryz.underlying45 hi hz0 hz1 _ _ _ (n + room) rfl rfl (by omega) ?b2 ?b3 (Nat.le_refl _) ?_)
  case b2 => rw [hz2]; omega
  case b3 => unfold maxLen; omega
  intro w0 hown0 hgrow0
  have hc0 : ∀ ad, ao = some ad → ∀ j u, ys[j]? = some u → w0.cell? (ad.add j) = some u := fun ad had j u hu => hgrow0.cell (hcells ad had j u hu) (by simp)
  have hB0 : Below w.heap.size w w0 := (Below.refl _ _).grown hgrow0 (Nat.le_refl _) (fun k h => by cases h)
  clear hcells hgrow0
  have HC := hide hc0
  clear hc0
  go_wp2_with (at_builtin; refine wpList_append_fits_any _ rfl _ _ 45 rfl w.heap.size 5 i0 1 Tryz.underlying45 hi hz1 w.heap.size 0 (n + room) _ rfl hown0 ao n cap ys rfl hcap hnone HC.out h1c (by omega) ?_; intro w1 hown1 hgrow1)
  simp only [Nat.zero_add, List.nil_append] at hown1
  go_ret
  exact ⟨by simp, hown1, hB0.grown hgrow1 hB0.size (fun k hk => by cases hk; exact Nat.le_refl _)⟩

theorem or128 (m : Nat) : bits BinOp.or IntKind.u8 ((m : Int) % 256) 128 = ((m % 128 + 128 : Nat) : Int) := by
  rw [u8_or _ _ (by omega) (by omega) (by decide) (by decide)]
  have key : ∀ x : Fin 256, (x.val ||| 128) = x.val % 128 + 128 := by decide +kernel
  have := key ⟨((m : Int) % 256).toNat, by omega⟩
  simp only at this
  show ((((m : Int) % 256).toNat ||| 128 : Nat) : Int) = _
  rw [this]
  omega
set_option maxRecDepth 100000 in
set_option maxHeartbeats 400000 in
theorem short_any (v : Value) (xs : List Int) (n : Nat) (w : World) (h : Lies .u8 w v xs) (hr : xs.length + 10 ≤ 140737488355328) (hn : n < 18446744073709551616) :
    Calls Tryz.prog 121 #[v, .int .u64 n] w fun e w' => ∃ v', e = .returned v' ∧
      w'.ownsRow w.heap.size 5 1 v' (xs ++ shortS n).length ((xs ++ shortS n).map (Value.int .u8)) ∧ Below w.heap.size w w' := by
  obtain ⟨i0, hi, hz0, hz1, hz2⟩ := info_parts info5
  have hl10 := shortS_len10 hn
  go_enter Tryz.func121, Tryz.ntmps121
  go_wp2_with (go_at_call 164; refine (copy_any v xs 10 w h hr).mono ?_; rintro e w0 ⟨rfl, hown0, hB0⟩)
  go_loopw [1, 5] (fun m' o wr => ∃ (m : Nat) (zs : List Int), m' = .int .u64 m ∧ m < 18446744073709551616 ∧ Hid (zs ++ shortS m = xs ++ shortS n) ∧ wr.ownsRow w.heap.size 5 1 o zs.length (zs.map (Value.int .u8)) ∧ Below w.heap.size w wr) (fun m' _ _ => (intOf m').toNat)
  case atStart => exact ⟨n, xs, rfl, hn, rfl, hown0, hB0⟩
  case round =>
    obtain ⟨m, zs, rfl, hm, HZ, hown, hB⟩ := hrel
    have hzl : zs.length + (shortS m).length = xs.length + (shortS n).length := by rw [← List.length_append, HZ.out, List.length_append]
    have hbase := hB.size
    by_cases hlt : m < 128
    · have hsl : (shortS m).length = 1 := by rw [shortS_lt hlt]; rfl
      have HL : Hid ((zs ++ [(m : Int)]) = xs ++ shortS n) := by rw [← HZ.out, shortS_lt hlt]; rfl
      have hz64 : zs.length + 1 ≤ 140737488355328 := by omega
      clear hzl
      go_wp2_with (at_builtin; refine wpList_append_own _ rfl _ _ 45 rfl w.heap.size 5 i0 (.int .u8 0) 1 1 Tryz.underlying45 hi hz0 hz1 hz2 rfl (by decide) _ _ _ rfl (hown.alloc _) ⟨wr.heap.size, 0, none⟩ 1 1 [.int .u8 m] rfl rfl (cell_one_new _ _ _) (by simp [Value.oneCell']) (by unfold maxLen; omega) (by omega) (by simp; omega) ?_; intro v' w1 hown1 hgrow1 _)
      go_ret
      refine ⟨v', rfl, ?_, (hB.alloc hbase _).grown hgrow1 (by simp; omega) (fun k hk => (hown.lt k hk).1)⟩
      rw [← HL.out]
      simpa using hown1
    · have HL : Hid ((zs ++ [((m % 128 + 128 : Nat) : Int)]) ++ shortS (m / 128) = xs ++ shortS n) := by rw [← HZ.out, shortS_ge hlt]; simp [Hid]
      have hsl : (shortS (m / 128)).length + 1 = (shortS m).length := by rw [shortS_ge hlt]; simp
      have hz64 : zs.length + 1 ≤ 140737488355328 := by omega
      have ho := or128 m
      generalize hcc : ((m % 128 + 128 : Nat) : Int) = c at *
      clear hcc hzl hsl
      go_wp2_with (at_builtin; refine wpList_append_own _ rfl _ _ 45 rfl w.heap.size 5 i0 (.int .u8 0) 1 1 Tryz.underlying45 hi hz0 hz1 hz2 rfl (by decide) _ _ _ rfl (hown.alloc _) ⟨wr.heap.size, 0, none⟩ 1 1 [.int .u8 c] rfl rfl (cell_one_new _ _ _) (by simp [Value.oneCell']) (by unfold maxLen; omega) (by omega) (by simp; omega) ?_; intro v' w1 hown1 hgrow1 _)
      go_roundw
      case rel => exact ⟨m / 128, zs ++ [c], by go_num, by omega, HL, by simpa using hown1, (hB.alloc hbase _).grown hgrow1 (by simp; omega) (fun k hk => (hown.lt k hk).1)⟩
      case measure => simp [intOf]; omega

theorem and127 (c : Int) (h0 : 0 ≤ c) (h1 : c < 256) : bits BinOp.and IntKind.u8 c 127 = (((c % 128).toNat : Nat) : Int) := by
  rw [u8_and _ _ h0 h1 (by decide) (by decide)]
  have := nat_mask7 c.toNat
  show ((c.toNat &&& 127 : Nat) : Int) = _
  rw [this]; omega
theorem val_fit (c : Int) (k : Nat) (hk : k < 10) (h9 : k = 9 → c ≤ 1) (h0 : 0 ≤ c) : (c % 128).toNat * 2 ^ (7 * k) < 18446744073709551616 := by
  by_cases h : k = 9
  · subst h
    have := h9 rfl
    have : (c % 128).toNat ≤ 1 := by omega
    have : (c % 128).toNat * 2 ^ (7 * 9) ≤ 1 * 2 ^ (7 * 9) := Nat.mul_le_mul_right _ this
    exact Nat.lt_of_le_of_lt this (by decide)
  · have h1 : (c % 128).toNat ≤ 127 := by omega
    have h2 : 2 ^ (7 * k) ≤ 2 ^ 56 := Nat.pow_le_pow_right (by decide) (by omega)
    have := Nat.mul_le_mul h1 h2
    exact Nat.lt_of_le_of_lt this (by decide)
theorem val_step (xs : List Int) (k : Nat) (hk : k < xs.length) (c : Int) (hc : xs.getD k 0 = c) (h0 : 0 ≤ c) (h1 : c < 256) (hf : (c % 128).toNat * 2 ^ (7 * k) < 18446744073709551616) (hv : valS (xs.take k) < 18446744073709551616) :
    bits BinOp.or IntKind.u64 ((valS (xs.take k) : Nat) : Int) (IntKind.u64.wrap (IntKind.u64.wrap (bits BinOp.and IntKind.u8 c 127) * 2 ^ (7 * k))) = ((valS (xs.take (k + 1)) : Nat) : Int) := by
  have hl : (xs.take k).length = k := by simp; omega
  have hlt := valS_lt (xs.take k)
  rw [hl] at hlt
  rw [and127 c h0 h1]
  have e1 : IntKind.u64.wrap (((c % 128).toNat : Nat) : Int) = (((c % 128).toNat : Nat) : Int) := by rw [IntKind.wrap_u64]; omega
  rw [e1]
  have e2 : IntKind.u64.wrap ((((c % 128).toNat : Nat) : Int) * 2 ^ (7 * k)) = (((c % 128).toNat * 2 ^ (7 * k) : Nat) : Int) := by
    rw [IntKind.wrap_u64]
    have : ((((c % 128).toNat : Nat) : Int) * 2 ^ (7 * k)) = (((c % 128).toNat * 2 ^ (7 * k) : Nat) : Int) := by simp
    rw [this]; omega
  rw [e2, u64_or_nat _ _ hv hf, Nat.or_comm, nat_join (7 * k) _ _ (Nat.mul_mod_left _ _) hlt, take_snoc xs k hk, valS_snoc, hl, hc, Nat.add_comm]

set_option maxHeartbeats 1600000 in
theorem long_ok (b off cap s : Nat) (xs : List Int) (w : World) (hb : b < w.heap.size) (hxs : xs ≠ []) (hl : xs.length ≤ cap) (hm : cap ≤ maxLen)
    (hc : ∀ t, t < xs.length → w.cell? ⟨b, off + t, none⟩ = some (.int .u8 (xs.getD t 0)))
    (hs : Hid (sizeS xs = s)) (h1 : 1 ≤ s) (hz : 1 < s → xs.getD (s - 1) 0 ≠ 0) (h10 : s ≤ 10) (hten : s = 10 → xs.getD 9 0 ≤ 1)
    (hx : ∀ c ∈ xs, 0 ≤ c ∧ c < 256) :
    Calls Tryz.prog 165 #[.slice (some ⟨b, off, none⟩) xs.length cap] w fun e w' => e = .returned (.tuple #[.int .u64 ((valS (xs.take s) : Nat) : Int), .int .i64 s, .int .i64 0]) ∧ w' = w := by
  have hszc : Calls Tryz.prog 170 #[.slice (some ⟨b, off, none⟩) xs.length cap] w fun e w' => e = .returned (.int .i64 s) ∧ w' = w := by
    have := size_any (.slice (some ⟨b, off, none⟩) xs.length cap) xs w (.inr ⟨hxs, b, off, cap, rfl, hb, hl, hm, hc⟩)
    rw [hs.out] at this
    exact this
  have hsl : s ≤ xs.length := by rw [← hs.out]; exact sizeS_le xs
  have hla := hc (s - 1) (by omega)
  unfold maxLen at hm
  have e0 : ((s : Int) == 0) = false := by simp; omega
  have e1 : (s : Int) - 1 = ((s - 1 : Nat) : Int) := by omega
  have hfit : Hid (∀ k, k < s → (xs.getD k 0 % 128).toNat * 2 ^ (7 * k) < 18446744073709551616 ∧ 0 ≤ xs.getD k 0 ∧ xs.getD k 0 < 256) := by
    intro k hk
    have hcb : 0 ≤ xs.getD k 0 ∧ xs.getD k 0 < 256 := hx _ (by simp [List.getD, show k < xs.length by omega])
    refine ⟨val_fit _ k (by omega) (fun h9 => ?_) hcb.1, hcb⟩
    subst h9
    exact hten (by omega)
  have hval : Hid (∀ k, k ≤ s → valS (xs.take k) < 18446744073709551616) := by
    intro k
    induction k with
    | zero => intro _; simp [valS]
    | succ k ih =>
      intro hk
      have h1 := ih (by omega)
      have h2 := (hfit.out k (by omega)).1
      have hl' : (xs.take k).length = k := by simp; omega
      have h3 := valS_lt (xs.take k)
      rw [hl'] at h3
      rw [take_snoc xs k (by omega), valS_snoc, hl']
      by_cases h9 : k = 9
      · subst h9
        have := hten (by omega)
        have : (xs.getD 9 0 % 128).toNat ≤ 1 := by have := (hfit.out 9 (by omega)).2; omega
        have : (xs.getD 9 0 % 128).toNat * 2 ^ (7 * 9) ≤ 1 * 2 ^ (7 * 9) := Nat.mul_le_mul_right _ this
        have e63 : (2 : Nat) ^ (7 * 9) = 9223372036854775808 := by decide
        rw [e63] at h3 this ⊢
        omega
      · have h4 : (2 : Nat) ^ (7 * k) ≤ 2 ^ 56 := Nat.pow_le_pow_right (by decide) (by omega)
        have h5 : (xs.getD k 0 % 128).toNat ≤ 127 := by have := (hfit.out k (by omega)).2; omega
        have h6 := Nat.mul_le_mul h5 h4
        have e56 : (2 : Nat) ^ 56 = 72057594037927936 := by decide
        rw [e56] at h4 h6
        omega
  clear hx
  have cases3 : (s ≤ 1) ∨ (1 < s ∧ s < 10) ∨ s = 10 := by omega
  generalize hlg : xs.getD (s - 1) 0 = last at *
  have hlg' := hide hlg
  clear hlg
  have e2 : 1 < s → (last == 0) = false := fun h => by simpa using hz h
  have e4 : s = 10 → last ≤ 1 := fun h => by have := hten h; rw [← hlg'.out, h]; exact this
  clear hz hten hlg'
  rcases cases3 with hs0 | ⟨h1s, hs10⟩ | rfl
  · have hs1 : (s : Int) ≤ 1 := by omega
    have hla0 : w.cell? ⟨b, off, none⟩ = some (.int .u8 last) := by simpa [show s - 1 = 0 by omega] using hla
    have e3 : ((s : Int) == 10) = false := by simp; omega
    clear e4 e2
    go_enter Tryz.func165, Tryz.ntmps165
    go_wp2_with (go_at_call 170; refine hszc.mono ?_; rintro e w' ⟨rfl, rfl⟩)
    go_loop [7, 8, 9, 39] (fun n _ _ i => ∃ k : Nat, k ≤ s ∧ i = .int .i64 k ∧ n = .int .u64 ((valS (xs.take k) : Nat) : Int)) (fun _ _ _ i => s - (intOf i).toNat)
    case atStart => exact ⟨0, Nat.zero_le _, rfl, rfl⟩
    case round =>
      obtain ⟨k, hk, rfl, rfl⟩ := hrel
      by_cases hlt : k < s
      · have hcell := hc k (by omega)
        obtain ⟨hf, hcb0, hcb1⟩ := hfit.out k hlt
        have HS := hide (val_step xs k (by omega) _ rfl hcb0 hcb1 hf (hval.out k hk))
        generalize xs.getD k 0 = c at *
        clear hf hc hszc hla
        go_wp2
        go_round
        case rel => exact ⟨k + 1, by omega, by go_num, by rw [← HS.out]⟩
        case measure => simp [intOf]; omega
      · obtain rfl : k = s := by omega
        go_wp2
        go_ret3
        exact ⟨rfl, rfl⟩
  · have e2' := e2 h1s
    have e3 : ((s : Int) == 10) = false := by simp; omega
    clear e4 e2
    go_enter Tryz.func165, Tryz.ntmps165
    go_wp2_with (go_at_call 170; refine hszc.mono ?_; rintro e w' ⟨rfl, rfl⟩)
    go_loop [7, 8, 9, 39] (fun n _ _ i => ∃ k : Nat, k ≤ s ∧ i = .int .i64 k ∧ n = .int .u64 ((valS (xs.take k) : Nat) : Int)) (fun _ _ _ i => s - (intOf i).toNat)
    case atStart => exact ⟨0, Nat.zero_le _, rfl, rfl⟩
    case round =>
      obtain ⟨k, hk, rfl, rfl⟩ := hrel
      by_cases hlt : k < s
      · have hcell := hc k (by omega)
        obtain ⟨hf, hcb0, hcb1⟩ := hfit.out k hlt
        have HS := hide (val_step xs k (by omega) _ rfl hcb0 hcb1 hf (hval.out k hk))
        generalize xs.getD k 0 = c at *
        clear hf hc hszc hla
        go_wp2
        go_round
        case rel => exact ⟨k + 1, by omega, by go_num, by rw [← HS.out]⟩
        case measure => simp [intOf]; omega
      · obtain rfl : k = s := by omega
        go_wp2
        go_ret3
        exact ⟨rfl, rfl⟩
  · have e2' := e2 (by decide)
    have e4' := e4 rfl
    clear e4 e2
    go_enter Tryz.func165, Tryz.ntmps165
    go_wp2_with (go_at_call 170; refine hszc.mono ?_; rintro e w' ⟨rfl, rfl⟩)
    go_loop [7, 8, 9, 39] (fun n _ _ i => ∃ k : Nat, k ≤ 10 ∧ i = .int .i64 k ∧ n = .int .u64 ((valS (xs.take k) : Nat) : Int)) (fun _ _ _ i => 10 - (intOf i).toNat)
    case atStart => exact ⟨0, Nat.zero_le _, rfl, rfl⟩
    case round =>
      obtain ⟨k, hk, rfl, rfl⟩ := hrel
      by_cases hlt : k < 10
      · have hcell := hc k (by omega)
        obtain ⟨hf, hcb0, hcb1⟩ := hfit.out k hlt
        have HS := hide (val_step xs k (by omega) _ rfl hcb0 hcb1 hf (hval.out k hk))
        generalize xs.getD k 0 = c at *
        clear hf hc hszc hla
        go_wp2
        go_round
        case rel => exact ⟨k + 1, by omega, by go_num, by rw [← HS.out]⟩
        case measure => simp [intOf]; omega
      · obtain rfl : k = 10 := by omega
        go_wp2
        go_ret3
        exact ⟨rfl, rfl⟩

theorem convert_empty (ao : Option Addr) (cap : Nat) (w : World) : (convert 45 9 (.slice ao 0 cap)).run Tryz.prog w = .ok (.string (strOfNums [])) w := by
  cases ao with
  | none => exact run_convert_bytes_nil (P := Tryz.prog) w 45 5 Tryz.underlying45 Tryz.underlying5 0 cap 9 Tryz.underlying9
  | some ad =>
    have hl : (loadCells ad 0).run Tryz.prog w = .ok (([] : List Int).map (Value.int .u8)).toArray w := by
      have := run_loadCells_list (P := Tryz.prog) w ad [] (fun j v hj => by simp at hj)
      simpa using this
    rw [run_convert_bytes_string w 45 9 5 _ 0 cap Tryz.underlying45 Tryz.underlying5 Tryz.underlying9, run_bytesToString w _ 0 cap [] hl]
    rfl
theorem Lies.convert {w : World} {v : Value} {xs : List Int} (h : Lies .u8 w v xs) : (convert 45 9 v).run Tryz.prog w = .ok (.string (strOfNums xs)) w := by
  rcases h with ⟨rfl, ao, cap, rfl, _⟩ | ⟨_, b, off, cap, rfl, _, _, _, hc⟩
  · exact convert_empty ao cap w
  · exact run_convert_bytes_arg w 45 5 Tryz.underlying45 Tryz.underlying5 b off xs.length cap xs rfl hc 9 Tryz.underlying9
theorem same_any (v1 v2 : Value) (xs : List Int) (w : World) (h1 : Lies .u8 w v1 xs) (h2 : Lies .u8 w v2 xs) :
    Calls Tryz.prog 22 #[v1, v2] w fun e w' => e = .returned (.bool true) ∧ w' = w := by
  have c1 := h1.convert
  have c2 := h2.convert
  clear h1 h2
  generalize strOfNums xs = s at *
  go_enter Tryz.func22, Tryz.ntmps22
  go_wp2
  go_ret
  exact ⟨ret_bool (by simp), rfl⟩

/-- What Long answers. -/
def longS (xs : List Int) : Int × Int × Int :=
  if sizeS xs = 0 then (0, 0, 4)
  else if 1 < sizeS xs ∧ xs.getD (sizeS xs - 1) 0 = 0 then (0, 0, 3)
  else if 10 < sizeS xs ∨ sizeS xs = 10 ∧ 1 < xs.getD (sizeS xs - 1) 0 then (0, 0, 3)
  else (((valS (xs.take (sizeS xs)) : Nat) : Int), (sizeS xs : Int), 0)

set_option maxHeartbeats 800000 in
theorem long_any (v : Value) (xs : List Int) (w : World) (h : Lies .u8 w v xs) (hx : ∀ c ∈ xs, 0 ≤ c ∧ c < 256) :
    Calls Tryz.prog 165 #[v] w fun e w' => e = .returned (.tuple #[.int .u64 (longS xs).1, .int .i64 (longS xs).2.1, .int .i64 (longS xs).2.2]) ∧ w' = w := by
  have hszc := size_any v xs w h
  have hlen := h.len
  unfold maxLen at hlen
  have hsl := sizeS_le xs
  unfold longS
  by_cases h0 : sizeS xs = 0
  · rw [if_pos h0]
    rw [h0] at hszc
    clear hsl h0 h hx
    go_enter Tryz.func165, Tryz.ntmps165
    go_wp2_with (go_at_call 170; refine hszc.mono ?_; rintro e w' ⟨rfl, rfl⟩)
    go_ret3
    exact ⟨rfl, rfl⟩
  · rw [if_neg h0]
    rcases h with ⟨rfl, _⟩ | ⟨hxs, b, off, cap, rfl, hb, hl, hm, hc⟩
    · exact absurd rfl h0
    · by_cases hA : 1 < sizeS xs ∧ xs.getD (sizeS xs - 1) 0 = 0
      · rw [if_pos hA]
        obtain ⟨h1, h2⟩ := hA
        have hla := hc (sizeS xs - 1) (by omega)
        rw [h2] at hla
        clear hc h2 hx
        unfold maxLen at hm
        generalize sizeS xs = s at *
        have e0 : ((s : Int) == 0) = false := by simp; omega
        have e1 : (s : Int) - 1 = ((s - 1 : Nat) : Int) := by omega
        go_enter Tryz.func165, Tryz.ntmps165
        go_wp2_with (go_at_call 170; refine hszc.mono ?_; rintro e w' ⟨rfl, rfl⟩)
        go_ret3
        exact ⟨rfl, rfl⟩
      · rw [if_neg hA]
        by_cases hB : 10 < sizeS xs ∨ sizeS xs = 10 ∧ 1 < xs.getD (sizeS xs - 1) 0
        · rw [if_pos hB]
          have hla := hc (sizeS xs - 1) (by omega)
          clear hc hx
          unfold maxLen at hm
          generalize xs.getD (sizeS xs - 1) 0 = last at *
          generalize sizeS xs = s at *
          have e0 : ((s : Int) == 0) = false := by simp; omega
          have e1 : (s : Int) - 1 = ((s - 1 : Nat) : Int) := by omega
          have e2 : (last == 0) = false := by simp; omega
          rcases hB with hB | ⟨hB1, hB2⟩
          · clear hA
            go_enter Tryz.func165, Tryz.ntmps165
            go_wp2_with (go_at_call 170; refine hszc.mono ?_; rintro e w' ⟨rfl, rfl⟩)
            go_ret3
            exact ⟨rfl, rfl⟩
          · clear hA
            have e3 : ((s : Int) == 10) = true := by simp; omega
            have hs1 : (1 : Int) < s := by omega
            have hs2 : (s : Int) ≤ 10 := by omega
            clear hB1
            go_enter Tryz.func165, Tryz.ntmps165
            go_wp2_with (go_at_call 170; refine hszc.mono ?_; rintro e w' ⟨rfl, rfl⟩)
            go_ret3
            exact ⟨rfl, rfl⟩
        · rw [if_neg hB]
          refine long_ok b off cap (sizeS xs) xs w hb hxs hl hm hc rfl (by omega) (fun h h' => hA ⟨h, h'⟩) (by omega) (fun h => ?_) hx
          have : ¬ 1 < xs.getD (sizeS xs - 1) 0 := fun h' => hB (.inr ⟨h, h'⟩)
          rw [h] at this
          simpa using this
end
end Go.Proofs.YtoppdelljjapoaaGreat
