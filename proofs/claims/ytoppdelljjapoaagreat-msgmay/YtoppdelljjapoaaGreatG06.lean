/-
  Own texts put together: SetWalks, Withs, ListFacts, VtPlain, VtCfg. Own work.
-/
import Derived.Test.YtoppdelljjapoaaGreatG05
import Derived.Test.YtoppdelljjapoaaGreatG01
import Derived.Deep.MidRow
namespace Go.Proofs.YtoppdelljjapoaaGreat
section
open Go.RowKit

theorem has_in (s n : Nat) (hs : s < 18446744073709551616) (hn : n < 64) (w : World) :
    Calls Tryz.prog 166 #[.int .u64 s, .int .i64 n] w fun e w' => e = .returned (.bool (s.testBit n)) ∧ w' = w := by
  have ho := only_in n hn w
  have hp := pow_lt64 hn
  have hb := and_bit s n
  have ha := u64_and_nat s (2 ^ n) hs hp
  generalize (2 : Nat) ^ n = p at *
  have H : Hid ((((s &&& p : Nat) : Int) != 0) = s.testBit n) := by
    refine hide ?_
    rw [Bool.eq_iff_iff, ← hb]
    simp
  generalize s &&& p = r at *
  clear hb
  go_enter Tryz.func166, Tryz.ntmps166
  go_wp2_with (go_at_call 171; refine ho.mono ?_; rintro e w' ⟨rfl, rfl⟩)
  go_ret
  exact ⟨ret_bool H.out, rfl⟩
theorem has_out (s : Nat) (n : Int) (hs : s < 18446744073709551616) (hn : n < 0 ∨ 64 ≤ n) (w : World) :
    Calls Tryz.prog 166 #[.int .u64 s, .int .i64 n] w fun e w' => e = .returned (.bool false) ∧ w' = w := by
  have ho := only_out n hn w
  have ha := u64_and_nat s 0 hs (by decide)
  simp only [Nat.and_zero] at ha
  have hz : bits BinOp.and IntKind.u64 (s : Int) 0 = 0 := ha
  clear ha
  go_enter Tryz.func166, Tryz.ntmps166
  go_wp2_with (go_at_call 171; refine ho.mono ?_; rintro e w' ⟨rfl, rfl⟩)
  go_ret
  exact ⟨rfl, rfl⟩
theorem build2 {k : IntKind} {t : TypeId} (w : World) (a b : Int) : Lies k (w.alloc (.cells #[.int k a, .int k b] t)) (.slice (some ⟨w.heap.size, 0, none⟩) 2 2) [a, b] := by
  refine .inr ⟨by simp, w.heap.size, 0, 2, rfl, by simp, by simp, by decide, fun t ht => ?_⟩
  have ht2 : t < 2 := by simpa using ht
  match t, ht2 with
  | 0, _ => simp [World.cell?_alloc_at]
  | 1, _ => simp [World.cell?_alloc_at]

theorem longS_300 : longS [172, 2] = (300, 2, 0) := by decide +kernel
end
section
open Go.RowKit

theorem with_in (s n : Nat) (hs : s < 18446744073709551616) (hn : n < 64) (w : World) :
    Calls Tryz.prog 167 #[.int .u64 s, .int .i64 n] w fun e w' => e = .returned (.int .u64 ((withN s n : Nat) : Int)) ∧ w' = w := by
  have ho := only_in n hn w
  have hp := pow_lt64 hn
  have ha := u64_or_nat s (2 ^ n) hs hp
  rw [or_with] at ha
  generalize (2 : Nat) ^ n = p at *
  generalize withN s n = r at *
  go_enter Tryz.func167, Tryz.ntmps167
  go_wp2_with (go_at_call 171; refine ho.mono ?_; rintro e w' ⟨rfl, rfl⟩)
  go_ret
  exact ⟨rfl, rfl⟩
theorem with_out (s : Nat) (n : Int) (hs : s < 18446744073709551616) (hn : n < 0 ∨ 64 ≤ n) (w : World) :
    Calls Tryz.prog 167 #[.int .u64 s, .int .i64 n] w fun e w' => e = .returned (.int .u64 s) ∧ w' = w := by
  have ho := only_out n hn w
  have ha := u64_or_nat s 0 hs (by decide)
  simp only [Nat.or_zero] at ha
  have hz : bits BinOp.or IntKind.u64 (s : Int) 0 = (s : Int) := ha
  clear ha
  go_enter Tryz.func167, Tryz.ntmps167
  go_wp2_with (go_at_call 171; refine ho.mono ?_; rintro e w' ⟨rfl, rfl⟩)
  go_ret
  exact ⟨rfl, rfl⟩
end
section
open Go

/-- What is with the first k of a list. -/
def withAll (l : List Nat) : Nat := l.foldl withN 0
theorem withAll_snoc (l : List Nat) (a : Nat) : withAll (l ++ [a]) = withN (withAll l) a := by simp [withAll, List.foldl_append]
theorem foldl_bit (i : Nat) : ∀ (l : List Nat) (z : Nat), (l.foldl withN z).testBit i = (z.testBit i || decide (i ∈ l))
  | [], z => by simp
  | a :: l, z => by
    rw [List.foldl_cons, foldl_bit i l, ← or_with, Nat.testBit_or, Nat.testBit_two_pow]
    by_cases h : a = i
    · subst h; simp
    · have h' : i ≠ a := fun e => h e.symm
      simp [h, h']
theorem withAll_bit (l : List Nat) (i : Nat) : (withAll l).testBit i = decide (i ∈ l) := by
  unfold withAll; rw [foldl_bit]; simp
theorem mem_listN (s i : Nat) : i ∈ listN s ↔ i < 64 ∧ s.testBit i = true := by simp [listN]
theorem withAll_list (s : Nat) (hs : s < 18446744073709551616) : withAll (listN s) = s := by
  apply Nat.eq_of_testBit_eq
  intro i
  rw [withAll_bit]
  by_cases hi : i < 64
  · cases h : s.testBit i
    · rw [decide_eq_false_iff_not, mem_listN]; simp [h]
    · rw [decide_eq_true_iff, mem_listN]; exact ⟨hi, h⟩
  · have : s.testBit i = false := Nat.testBit_lt_two_pow (Nat.lt_of_lt_of_le (show s < 2 ^ 64 from hs) (Nat.pow_le_pow_right (by decide) (by omega)))
    rw [this, decide_eq_false_iff_not, mem_listN]
    exact fun h => hi h.1
theorem withAll_lt (l : List Nat) (h : ∀ a ∈ l, a < 64) : withAll l < 18446744073709551616 := by
  apply Nat.lt_of_not_le
  intro hle
  obtain ⟨i, hi, hb⟩ := Nat.exists_ge_and_testBit_of_ge_two_pow (show 2 ^ 64 ≤ withAll l from hle)
  rw [withAll_bit] at hb
  have := h i (of_decide_eq_true hb)
  omega
theorem take_snocN (l : List Nat) (k : Nat) (h : k < l.length) : l.take (k + 1) = l.take k ++ [l.getD k 0] := by
  rw [List.take_succ_eq_append_getElem h]; simp [h]
theorem listN_at (s k : Nat) (h : k < (listN s).length) : (listN s).getD k 0 < 64 ∧ s.testBit ((listN s).getD k 0) = true := by
  have : (listN s).getD k 0 ∈ listN s := by simp [List.getD, h]
  exact (mem_listN s _).1 this
theorem listN_rise (s k : Nat) (h0 : 0 < k) (h : k < (listN s).length) : (listN s).getD (k - 1) 0 < (listN s).getD k 0 := by
  have hp : (listN s).Pairwise (· < ·) := List.Pairwise.filter _ List.pairwise_lt_range
  have := List.pairwise_iff_getElem.1 hp (k - 1) k (by omega) h (by omega)
  simpa [List.getD, h, show k - 1 < (listN s).length by omega] using this
theorem listS_at (s k : Nat) (h : k < (listN s).length) : (listS s).getD k 0 = (((listN s).getD k 0 : Nat) : Int) := by
  simp [listS, List.getD, h]
theorem listS_length (s : Nat) : (listS s).length = (listN s).length := by simp [listS]
/-- With and without turn just one node. -/
theorem without_with (s n : Nat) : withoutN (withN s n) n = withoutN s n := by
  have hb := with_bit s n
  unfold withoutN
  rw [hb]
  simp only [if_true]
  unfold withN
  cases h : s.testBit n
  · simp
  · simp
theorem with_without (s n : Nat) : withN (withoutN s n) n = withN s n := by
  have hb := without_bit s n
  unfold withN
  rw [hb]
  simp only [Bool.false_eq_true, if_false]
  unfold withoutN
  cases h : s.testBit n
  · simp
  · have := pow_le s n h
    simp; omega
theorem just_one (s n : Nat) : (((withN s n : Nat) : Int) == (s : Int)) = s.testBit n ∧ (((withoutN s n : Nat) : Int) == (s : Int)) = !s.testBit n := by
  have hp : 0 < 2 ^ n := Nat.two_pow_pos n
  unfold withN withoutN
  cases h : s.testBit n
  · simp only [Bool.false_eq_true, if_false]
    generalize (2 : Nat) ^ n = p at *
    refine ⟨beq_eq_false_iff_ne.2 (by omega), by simp⟩
  · have hle := pow_le s n h
    simp only [if_true]
    generalize (2 : Nat) ^ n = p at *
    refine ⟨by simp, beq_eq_false_iff_ne.2 (by omega)⟩
end
section
open Go

/-- The votes of a set's nodes below k. -/
def ofN (vs : List Nat) (s : Nat) : Nat → Nat
  | 0 => 0
  | k + 1 => ofN vs s k + (if s.testBit k then vs.getD k 0 else 0)
/-- The voters below k. -/
def votN (vs : List Nat) : Nat → Nat
  | 0 => 0
  | k + 1 => if 0 < vs.getD k 0 then withN (votN vs k) k else votN vs k
/-- All votes of the nodes below k. -/
def totN (vs : List Nat) : Nat → Nat
  | 0 => 0
  | k + 1 => totN vs k + vs.getD k 0
/-- A part, bit by bit. -/
def Part (a b : Nat) : Prop := ∀ i, a.testBit i = true → b.testBit i = true
theorem with_other (s n i : Nat) (h : i ≠ n) : (withN s n).testBit i = s.testBit i := by
  rw [← or_with, Nat.testBit_or, Nat.testBit_two_pow]
  have e : ¬ n = i := fun e => h e.symm
  simp [e]
theorem without_other (s n i : Nat) (h : i ≠ n) : (withoutN s n).testBit i = s.testBit i := by
  unfold withoutN
  cases hb : s.testBit n
  · rfl
  · exact clear_other s n i hb h
theorem without_le (s n : Nat) : withoutN s n ≤ s := by
  unfold withoutN
  split
  · exact Nat.sub_le _ _
  · exact Nat.le_refl _
theorem without_part (s n : Nat) : Part (withoutN s n) s := by
  intro i h
  by_cases e : i = n
  · subst e; rw [without_bit] at h; cases h
  · rwa [without_other s n i e] at h
theorem without_lt_self (s n : Nat) (h : s.testBit n = true) : withoutN s n < s := by
  have := pow_le s n h
  have := Nat.two_pow_pos n
  unfold withoutN
  rw [if_pos h]
  omega
theorem vot_bit (vs : List Nat) (i : Nat) : ∀ k, (votN vs k).testBit i = (decide (i < k) && decide (0 < vs.getD i 0))
  | 0 => by simp [votN]
  | k + 1 => by
    rw [votN]
    split
    · rename_i h
      by_cases e : i = k
      · subst e; rw [with_bit]; simp only [Nat.lt_succ_self, decide_true, Bool.true_and]; exact (decide_eq_true h).symm
      · rw [with_other _ _ _ e, vot_bit vs i k]
        have : (i < k + 1) ↔ (i < k) := by omega
        simp [this]
    · rename_i h
      rw [vot_bit vs i k]
      by_cases e : i = k
      · subst e; simp only [Nat.lt_irrefl, decide_false, Bool.false_and]; rw [decide_eq_false h]; simp
      · have : (i < k + 1) ↔ (i < k) := by omega
        simp [this]
theorem lt_of_bits (x m : Nat) (h : ∀ i, x.testBit i = true → i < m) : x < 2 ^ m := by
  refine Nat.lt_pow_two_of_testBit x (fun i hi => ?_)
  cases hb : x.testBit i
  · rfl
  · have := h i hb; omega
theorem vot_lt (vs : List Nat) (k : Nat) : votN vs k < 2 ^ k := by
  refine lt_of_bits _ _ (fun i h => ?_)
  rw [vot_bit] at h
  simp at h
  exact h.1
theorem part_le {a b : Nat} (h : Part a b) : a ≤ b := by
  have e : a &&& b = a := by
    apply Nat.eq_of_testBit_eq
    intro i
    rw [Nat.testBit_and]
    cases ha : a.testBit i
    · rfl
    · rw [h i ha]; rfl
  rw [← e]
  exact Nat.and_le_right
theorem part_refl (a : Nat) : Part a a := fun _ h => h
theorem Part.trans {a b c : Nat} (h : Part a b) (h' : Part b c) : Part a c := fun i hi => h' i (h i hi)
theorem part_and {a b c : Nat} : Part a (b &&& c) ↔ Part a b ∧ Part a c := by
  refine ⟨fun h => ⟨fun i hi => ?_, fun i hi => ?_⟩, fun h i hi => ?_⟩
  · have := h i hi; rw [Nat.testBit_and] at this; simp at this; exact this.1
  · have := h i hi; rw [Nat.testBit_and] at this; simp at this; exact this.2
  · rw [Nat.testBit_and, h.1 i hi, h.2 i hi]; rfl
theorem of_vot (vs : List Nat) (K : Nat) : ∀ k, k ≤ K → ofN vs (votN vs K) k = totN vs k
  | 0, _ => rfl
  | k + 1, h => by
    rw [ofN, totN, of_vot vs K k (by omega), vot_bit]
    have hk : decide (k < K) = true := decide_eq_true (by omega)
    rw [hk, Bool.true_and]
    by_cases h0 : 0 < vs.getD k 0
    · rw [decide_eq_true h0, if_pos rfl]
    · rw [decide_eq_false h0, if_neg (by decide)]; omega
theorem of_mono (vs : List Nat) (a b : Nat) : ∀ k, (∀ i, i < k → a.testBit i = true → b.testBit i = true ∨ vs.getD i 0 = 0) → ofN vs a k ≤ ofN vs b k
  | 0, _ => Nat.le_refl _
  | k + 1, h => by
    rw [ofN, ofN]
    have h1 := of_mono vs a b k (fun i hi => h i (by omega))
    have h2 := h k (by omega)
    cases ha : a.testBit k
    · simp; omega
    · rcases h2 ha with hb | hz
      · rw [hb]; simp; omega
      · rw [hz]; simp; exact h1
theorem of_part (vs : List Nat) {a b : Nat} (h : Part a b) (k : Nat) : ofN vs a k ≤ ofN vs b k := of_mono vs a b k (fun i _ hi => .inl (h i hi))
theorem of_and_vot (vs : List Nat) (a : Nat) (K : Nat) : ofN vs (a &&& votN vs K) K = ofN vs a K := by
  refine Nat.le_antisymm (of_part vs (fun i hi => ?_) K) (of_mono vs _ _ K (fun i hi ha => ?_))
  · rw [Nat.testBit_and] at hi; simp at hi; exact hi.1
  · by_cases hz : vs.getD i 0 = 0
    · exact .inr hz
    · refine .inl ?_
      rw [Nat.testBit_and, ha, vot_bit, decide_eq_true hi, decide_eq_true (show 0 < vs.getD i 0 by omega)]
      rfl
theorem of_le (vs : List Nat) (a : Nat) : ∀ k, ofN vs a k ≤ totN vs k
  | 0 => Nat.le_refl _
  | k + 1 => by
    have := of_le vs a k
    rw [ofN, totN]
    split <;> omega
theorem of_both (vs : List Nat) (a b : Nat) : ∀ k, ofN vs a k + ofN vs b k = ofN vs (a ||| b) k + ofN vs (a &&& b) k
  | 0 => rfl
  | k + 1 => by
    have := of_both vs a b k
    simp only [ofN, Nat.testBit_or, Nat.testBit_and]
    cases a.testBit k <;> cases b.testBit k <;> simp <;> omega
theorem tot_le (vs : List Nat) (m : Nat) (h : ∀ v ∈ vs, v ≤ m) : ∀ k, totN vs k ≤ m * k
  | 0 => Nat.le_refl _
  | k + 1 => by
    have := tot_le vs m h k
    have h1 : vs.getD k 0 ≤ m := by
      rw [List.getD_eq_getElem?_getD]
      cases hx : vs[k]? with
      | none => simp
      | some x => exact h x (List.mem_of_getElem? hx)
    rw [totN, Nat.mul_succ]
    omega
theorem of_zero (vs : List Nat) : ∀ k, ofN vs 0 k = 0
  | 0 => rfl
  | k + 1 => by simp [ofN, of_zero vs k]
theorem of_without_out (vs : List Nat) (s n K : Nat) (h : K ≤ n ∨ vs.getD n 0 = 0) : ofN vs (withoutN s n) K = ofN vs s K := by
  refine Nat.le_antisymm (of_part vs (without_part s n) K) (of_mono vs _ _ K (fun i hi ha => ?_))
  by_cases e : i = n
  · subst e
    rcases h with h | h
    · omega
    · exact .inr h
  · exact .inl (by rw [without_other _ _ _ e]; exact ha)

/-- The sets that have so many votes, and no part of them has: by the nodes that may be left out one by one. -/
def minB (vs : List Nat) (want : Int) (s : Nat) : Bool := decide (want ≤ (ofN vs s 8 : Int)) && (listN s).all (fun n => !decide (want ≤ (ofN vs (withoutN s n) 8 : Int)))
def partB (a b : Nat) : Bool := (List.range 64).all (fun i => !a.testBit i || b.testBit i)
def quoB (vs : List Nat) (want : Int) (s : Nat) : Bool := partB s (votN vs 8) && minB vs want s
theorem partB_iff (a b : Nat) (ha : a < 18446744073709551616) : partB a b = true ↔ Part a b := by
  unfold partB
  rw [List.all_eq_true]
  refine ⟨fun h i hi => ?_, fun h i _ => ?_⟩
  · have hl : i < 64 := by
      rcases Nat.lt_or_ge i 64 with h1 | h1
      · exact h1
      · have := Nat.testBit_lt_two_pow (x := a) (i := i) (Nat.lt_of_lt_of_le ha (by have := Nat.pow_le_pow_right (n := 2) (by decide) h1; simpa using this))
        rw [this] at hi; cases hi
    have := h i (by simp [hl])
    rw [hi] at this
    simpa using this
  · cases hi : a.testBit i
    · rfl
    · simp [h i hi]
theorem min_part (vs : List Nat) (want : Int) (s : Nat) (hs : s < 18446744073709551616) (h : minB vs want s = true) : Part s (votN vs 8) := by
  intro i hi
  unfold minB at h
  simp only [Bool.and_eq_true, decide_eq_true_eq, List.all_eq_true] at h
  obtain ⟨h1, h2⟩ := h
  have hm : i ∈ listN s := by
    rw [mem_listN]
    refine ⟨?_, hi⟩
    rcases Nat.lt_or_ge i 64 with h1 | h1
    · exact h1
    · have := Nat.testBit_lt_two_pow (x := s) (i := i) (Nat.lt_of_lt_of_le hs (by have := Nat.pow_le_pow_right (n := 2) (by decide) h1; simpa using this))
      rw [this] at hi; cases hi
  have h3 := h2 i hm
  rw [vot_bit]
  by_cases h8 : i < 8
  · by_cases hv : 0 < vs.getD i 0
    · simp only [h8, hv, decide_true, Bool.and_self]
    · rw [of_without_out vs s i 8 (.inr (by omega))] at h3
      simp [h1] at h3
  · rw [of_without_out vs s i 8 (.inl (by omega))] at h3
    simp [h1] at h3
theorem quo_min (vs : List Nat) (want : Int) (s : Nat) (hs : s < 18446744073709551616) : quoB vs want s = minB vs want s := by
  unfold quoB
  cases h : minB vs want s
  · simp
  · rw [(partB_iff s _ hs).2 (min_part vs want s hs h)]; rfl
/-- All quorums, rising. -/
def quoL (vs : List Nat) (want : Int) : List Nat := (List.range 256).filter (quoB vs want)
theorem filter_to (p q : Nat → Bool) (m n : Nat) (h : m ≤ n) (h1 : ∀ s, s < m → p s = q s) (h2 : ∀ s, m ≤ s → s < n → q s = false) : (List.range m).filter p = (List.range n).filter q := by
  obtain ⟨d, rfl⟩ : ∃ d, n = m + d := ⟨n - m, by omega⟩
  rw [List.range_add, List.filter_append]
  have e : ((List.range d).map (m + ·)).filter q = [] := by
    rw [List.filter_eq_nil_iff]
    intro a ha
    obtain ⟨x, hx, rfl⟩ := List.mem_map.1 ha
    rw [h2 (m + x) (by omega) (by have := List.mem_range.1 hx; omega)]
    decide
  rw [e, List.append_nil]
  exact List.filter_congr (fun a ha => h1 a (by simpa using ha))
theorem vot256 (vs : List Nat) : votN vs 8 < 256 := vot_lt vs 8
theorem quoL_min (vs : List Nat) (want : Int) : quoL vs want = (List.range (votN vs 8 + 1)).filter (minB vs want) := by
  have hv := vot256 vs
  symm
  refine filter_to _ _ _ 256 (by omega) (fun s hs => (quo_min vs want s (by omega)).symm) (fun s hs hl => ?_)
  cases h : quoB vs want s
  · rfl
  · unfold quoB at h
    simp only [Bool.and_eq_true] at h
    have := part_le ((partB_iff s _ (by omega)).1 h.1)
    omega
theorem quoL_mem (vs : List Nat) (want : Int) (q : Nat) : q ∈ quoL vs want ↔ q < 256 ∧ minB vs want q = true := by
  unfold quoL
  rw [List.mem_filter, List.mem_range]
  refine ⟨fun h => ⟨h.1, ?_⟩, fun h => ⟨h.1, ?_⟩⟩
  · rw [← quo_min vs want q (by omega)]; exact h.2
  · rw [quo_min vs want q (by omega)]; exact h.2
theorem quoL_part (vs : List Nat) (want : Int) (q : Nat) (h : q ∈ quoL vs want) : Part q (votN vs 8) := by
  rw [quoL_mem] at h
  exact min_part vs want q (by omega) h.2
theorem quoL_of (vs : List Nat) (want : Int) (q : Nat) (h : q ∈ quoL vs want) : want ≤ (ofN vs q 8 : Int) := by
  rw [quoL_mem] at h
  have := h.2
  unfold minB at this
  simp only [Bool.and_eq_true, decide_eq_true_eq] at this
  exact this.1
theorem quoL_rise (vs : List Nat) (want : Int) : (quoL vs want).Pairwise (· < ·) := (List.pairwise_lt_range (n := 256)).filter _
/-- Of a set that has so many votes a part is a quorum for them. -/
theorem quo_in (vs : List Nat) (want : Int) : ∀ (n s : Nat), s ≤ n → s < 256 → want ≤ (ofN vs s 8 : Int) → ∃ q, q ∈ quoL vs want ∧ Part q s
  | n, s, hn, hs, hw => by
    cases hm : minB vs want s
    · unfold minB at hm
      rw [decide_eq_true hw, Bool.true_and, List.all_eq_false] at hm
      obtain ⟨i, hi, h2⟩ := hm
      have hb := ((mem_listN s i).1 hi).2
      have hlt := without_lt_self s i hb
      have hw2 : want ≤ (ofN vs (withoutN s i) 8 : Int) := by simpa using h2
      obtain ⟨m, rfl⟩ : ∃ m, n = m + 1 := ⟨n - 1, by omega⟩
      obtain ⟨q, hq, hp⟩ := quo_in vs want m (withoutN s i) (by omega) (by omega) hw2
      exact ⟨q, hq, hp.trans (without_part s i)⟩
    · exact ⟨s, (quoL_mem vs want s).2 ⟨hs, hm⟩, part_refl s⟩

/-- The smallest: the fewest nodes, of these the first. -/
def leastStep (acc : Nat × Bool) (s : Nat) : Nat × Bool := if !acc.2 || decide ((listS s).length < (listS acc.1).length) then (s, true) else acc
def candB (vs : List Nat) (want : Int) (f s : Nat) : Bool := partB s f && decide (want ≤ (ofN vs s 8 : Int))
def leastTo (vs : List Nat) (want : Int) (f k : Nat) : Nat × Bool := ((List.range k).filter (candB vs want f)).foldl leastStep (0, false)
theorem leastTo_miss (vs : List Nat) (want : Int) (f k : Nat) (h : candB vs want f k = false) : leastTo vs want f (k + 1) = leastTo vs want f k := by
  simp [leastTo, List.range_succ, h]
theorem leastTo_hit (vs : List Nat) (want : Int) (f k : Nat) (h : candB vs want f k = true) : leastTo vs want f (k + 1) = leastStep (leastTo vs want f k) k := by
  simp [leastTo, List.range_succ, h, List.foldl_append]
def leastF (vs : List Nat) (want : Int) (fr : Nat) : Nat × Bool := leastTo vs want (fr &&& votN vs 8) ((fr &&& votN vs 8) + 1)
theorem partB_big (a b : Nat) (ha : a < 18446744073709551616) (h : b < a) : partB a b = false := by
  cases hp : partB a b
  · rfl
  · have := part_le ((partB_iff a b ha).1 hp); omega
theorem partB_and (a b c : Nat) : partB a (b &&& c) = (partB a c && partB a b) := by
  unfold partB
  rw [Bool.eq_iff_iff]
  simp only [Bool.and_eq_true, List.all_eq_true, Nat.testBit_and]
  refine ⟨fun h => ⟨fun i hi => ?_, fun i hi => ?_⟩, fun h i hi => ?_⟩
  · have := h i hi; revert this; cases a.testBit i <;> cases b.testBit i <;> cases c.testBit i <;> simp
  · have := h i hi; revert this; cases a.testBit i <;> cases b.testBit i <;> cases c.testBit i <;> simp
  · have h1 := h.1 i hi; have h2 := h.2 i hi; revert h1 h2; cases a.testBit i <;> cases b.testBit i <;> cases c.testBit i <;> simp
/-- The same, told by all sets below 256. -/
theorem least_all (vs : List Nat) (want : Int) (fr : Nat) : leastF vs want fr = leastTo vs want (fr &&& votN vs 8) 256 := by
  have hv := vot256 vs
  have hf : fr &&& votN vs 8 ≤ votN vs 8 := Nat.and_le_right
  unfold leastF leastTo
  congr 1
  refine filter_to _ _ _ 256 (by omega) (fun s _ => rfl) (fun s hs hl => ?_)
  unfold candB
  rw [partB_big s _ (by omega) (by omega)]
  rfl
theorem least_fold : ∀ (l : List Nat) (acc : Nat × Bool), (l.foldl leastStep acc = acc ∨ ((l.foldl leastStep acc).2 = true ∧ (l.foldl leastStep acc).1 ∈ l)) ∧
    (acc.2 = true → (l.foldl leastStep acc).2 = true ∧ (listS (l.foldl leastStep acc).1).length ≤ (listS acc.1).length) ∧
    ∀ y ∈ l, (l.foldl leastStep acc).2 = true ∧ (listS (l.foldl leastStep acc).1).length ≤ (listS y).length
  | [], acc => ⟨.inl rfl, fun h => ⟨h, Nat.le_refl _⟩, fun y hy => by cases hy⟩
  | a :: l, acc => by
    obtain ⟨h1, h2, h3⟩ := least_fold l (leastStep acc a)
    rw [List.foldl_cons]
    have hs : (leastStep acc a = acc ∧ acc.2 = true ∧ (listS acc.1).length ≤ (listS a).length) ∨ (leastStep acc a = (a, true) ∧ (acc.2 = true → (listS a).length ≤ (listS acc.1).length)) := by
      unfold leastStep
      cases hb : acc.2
      · right; simp
      · by_cases hl : (listS a).length < (listS acc.1).length
        · right; simp [hl]; omega
        · left; simp [hl]; omega
    rcases hs with ⟨e, e2, e3⟩ | ⟨e, e2⟩
    · rw [e] at h1 h2 h3 ⊢
      refine ⟨?_, h2, fun y hy => ?_⟩
      · rcases h1 with h1 | ⟨h1, h1'⟩
        · exact .inl h1
        · exact .inr ⟨h1, List.mem_cons_of_mem _ h1'⟩
      · rcases List.mem_cons.1 hy with rfl | hy
        · obtain ⟨q1, q2⟩ := h2 e2
          exact ⟨q1, by omega⟩
        · exact h3 y hy
    · rw [e] at h1 h2 h3 ⊢
      obtain ⟨q1, q2⟩ := h2 rfl
      refine ⟨.inr ⟨q1, ?_⟩, fun ha => ⟨q1, ?_⟩, fun y hy => ?_⟩
      · rcases h1 with h1 | ⟨h1, h1'⟩
        · rw [h1]; simp
        · exact List.mem_cons_of_mem _ h1'
      · have := e2 ha; simp only at q2; omega
      · rcases List.mem_cons.1 hy with rfl | hy
        · exact ⟨q1, q2⟩
        · exact h3 y hy
theorem least_spec (vs : List Nat) (want : Int) (fr : Nat) :
    (leastF vs want fr = (0, false) ∧ ∀ s, s < 256 → candB vs want (fr &&& votN vs 8) s = false) ∨
    ∃ x, leastF vs want fr = (x, true) ∧ x < 256 ∧ candB vs want (fr &&& votN vs 8) x = true ∧ ∀ s, s < 256 → candB vs want (fr &&& votN vs 8) s = true → (listS x).length ≤ (listS s).length := by
  rw [least_all]
  unfold leastTo
  obtain ⟨h1, _, h3⟩ := least_fold ((List.range 256).filter (candB vs want (fr &&& votN vs 8))) (0, false)
  generalize hL : (List.range 256).filter (candB vs want (fr &&& votN vs 8)) = L at *
  have hmem : ∀ s, s ∈ L ↔ s < 256 ∧ candB vs want (fr &&& votN vs 8) s = true := by
    intro s; rw [← hL, List.mem_filter, List.mem_range]
  rcases h1 with h1 | ⟨h1, h1'⟩
  · left
    refine ⟨h1, fun s hs => ?_⟩
    cases hc : candB vs want (fr &&& votN vs 8) s
    · rfl
    · have := (h3 s ((hmem s).2 ⟨hs, hc⟩)).1
      rw [h1] at this
      cases this
  · right
    obtain ⟨q1, q2⟩ := (hmem _).1 h1'
    refine ⟨_, Prod.ext rfl h1, q1, q2, fun s hs hc => ?_⟩
    exact (h3 s ((hmem s).2 ⟨hs, hc⟩)).2

/-- What is left of a set without another one is 0 just if it is a part. -/
theorem andNot_zero (a b : Nat) (ha : a < 18446744073709551616) (hb : b < 18446744073709551616) : (a &&& (18446744073709551615 - b) = 0) ↔ partB a b = true := by
  rw [partB_iff a b ha]
  have e : 18446744073709551615 - b = 2 ^ 64 - (b + 1) := by omega
  rw [e]
  have hbit : ∀ i, (a &&& (2 ^ 64 - (b + 1))).testBit i = (a.testBit i && (decide (i < 64) && !b.testBit i)) := by
    intro i
    rw [Nat.testBit_and, Nat.testBit_two_pow_sub_succ (show b < 2 ^ 64 from hb)]
  refine ⟨fun h i hi => ?_, fun h => ?_⟩
  · have h1 := hbit i
    rw [h, hi] at h1
    have hl : i < 64 := by
      rcases Nat.lt_or_ge i 64 with h1 | h1
      · exact h1
      · have := Nat.testBit_lt_two_pow (x := a) (i := i) (Nat.lt_of_lt_of_le ha (by have := Nat.pow_le_pow_right (n := 2) (by decide) h1; simpa using this))
        rw [this] at hi; cases hi
    revert h1
    cases b.testBit i <;> simp [hl]
  · apply Nat.eq_of_testBit_eq
    intro i
    rw [hbit, Nat.zero_testBit]
    cases hi : a.testBit i
    · rfl
    · rw [h i hi]; simp

/-- P6.6: of a set, and the quorums in it. -/
def someIn (l : List Nat) (s : Nat) : Bool := l.any (fun q => partB q s)
def fewest (l : List Nat) (s : Nat) : Nat := l.foldl (fun m q => if partB q s then min m (listS q).length else m) 64
theorem someIn_snoc (l : List Nat) (s q : Nat) : someIn (l ++ [q]) s = (someIn l s || partB q s) := by simp [someIn]
theorem fewest_snoc (l : List Nat) (s q : Nat) : fewest (l ++ [q]) s = if partB q s then min (fewest l s) (listS q).length else fewest l s := by simp [fewest, List.foldl_append]
theorem fewest_fold (s : Nat) : ∀ (l : List Nat) (m : Nat), (l.foldl (fun m q => if partB q s then min m (listS q).length else m) m ≤ m) ∧ (∀ q ∈ l, partB q s = true → l.foldl (fun m q => if partB q s then min m (listS q).length else m) m ≤ (listS q).length) ∧
    (∀ b, b ≤ m → (∀ q ∈ l, partB q s = true → b ≤ (listS q).length) → b ≤ l.foldl (fun m q => if partB q s then min m (listS q).length else m) m)
  | [], m => ⟨Nat.le_refl _, (fun q hq => by cases hq), fun b hb _ => hb⟩
  | a :: l, m => by
    rw [List.foldl_cons]
    obtain ⟨h1, h2, h3⟩ := fewest_fold s l (if partB a s then min m (listS a).length else m)
    generalize l.foldl (fun m q => if partB q s then min m (listS q).length else m) (if partB a s then min m (listS a).length else m) = r at *
    cases ha : partB a s
    · rw [ha] at h1 h3
      simp only [Bool.false_eq_true, if_false] at h1 h3
      refine ⟨h1, fun q hq hp => ?_, fun b hb hq => h3 b hb (fun q hq2 => hq q (List.mem_cons_of_mem _ hq2))⟩
      rcases List.mem_cons.1 hq with rfl | hq
      · rw [ha] at hp; cases hp
      · exact h2 q hq hp
    · rw [ha] at h1 h3
      simp only [if_true] at h1 h3
      refine ⟨by omega, fun q hq hp => ?_, fun b hb hq => h3 b ?_ (fun q hq2 => hq q (List.mem_cons_of_mem _ hq2))⟩
      · rcases List.mem_cons.1 hq with rfl | hq
        · omega
        · exact h2 q hq hp
      · have := hq a List.mem_cons_self ha
        omega
theorem partB_vot (vs : List Nat) (q s : Nat) (hq : q < 256) : partB q (s &&& votN vs 8) = true ↔ Part q s ∧ Part q (votN vs 8) := by
  rw [partB_iff q _ (by omega), part_and]
theorem parts_some (vs : List Nat) (want : Int) (s : Nat) : someIn (quoL vs want) s = decide (want ≤ (ofN vs s 8 : Int)) ∧ (leastF vs want s).2 = someIn (quoL vs want) s := by
  have hv := vot256 vs
  have hf : s &&& votN vs 8 ≤ votN vs 8 := Nat.and_le_right
  have h1 : someIn (quoL vs want) s = true ↔ want ≤ (ofN vs s 8 : Int) := by
    unfold someIn
    rw [List.any_eq_true]
    refine ⟨fun ⟨q, hq, hp⟩ => ?_, fun h => ?_⟩
    · have hl := ((quoL_mem vs want q).1 hq).1
      have := of_part vs ((partB_iff q s (by omega)).1 hp) 8
      have := quoL_of vs want q hq
      omega
    · obtain ⟨q, hq, hp⟩ := quo_in vs want (s &&& votN vs 8) (s &&& votN vs 8) (Nat.le_refl _) (by omega) (by rw [of_and_vot]; exact h)
      have hl := ((quoL_mem vs want q).1 hq).1
      exact ⟨q, hq, (partB_iff q s (by omega)).2 (part_and.1 hp).1⟩
  refine ⟨by rw [Bool.eq_iff_iff, h1]; simp, ?_⟩
  rw [Bool.eq_iff_iff, h1]
  rcases least_spec vs want s with ⟨e, hn⟩ | ⟨x, e, hx, hc, _⟩
  · rw [e]
    simp only [Bool.false_eq_true, false_iff]
    intro h
    have := hn (s &&& votN vs 8) (by omega)
    unfold candB at this
    rw [(partB_iff _ _ (by omega)).2 (part_refl _), of_and_vot, decide_eq_true h] at this
    cases this
  · rw [e]
    simp only [true_iff]
    unfold candB at hc
    simp only [Bool.and_eq_true, decide_eq_true_eq] at hc
    have := of_part vs ((partB_vot vs x s hx).1 hc.1).1 8
    omega
theorem parts_least (vs : List Nat) (want : Int) (s x : Nat) (h : leastF vs want s = (x, true)) : x < 256 ∧ partB x s = true ∧ want ≤ (ofN vs x 8 : Int) ∧ (listS x).length = fewest (quoL vs want) s := by
  rcases least_spec vs want s with ⟨e, _⟩ | ⟨y, e, hx, hc, hmin⟩
  · rw [e] at h; cases h
  rw [e] at h
  obtain rfl : y = x := by cases h; rfl
  have hc' := hc
  unfold candB at hc
  simp only [Bool.and_eq_true, decide_eq_true_eq] at hc
  obtain ⟨hps, hpv⟩ := (partB_vot vs y s hx).1 hc.1
  have hpb := (partB_iff y s (by omega)).2 hps
  refine ⟨hx, hpb, hc.2, ?_⟩
  -- it is a quorum itself
  have hq : y ∈ quoL vs want := by
    obtain ⟨q, hq, hp⟩ := quo_in vs want y y (Nat.le_refl _) hx hc.2
    obtain ⟨hl, hqm⟩ := (quoL_mem vs want q).1 hq
    have hcq : candB vs want (s &&& votN vs 8) q = true := by
      unfold candB
      rw [(partB_vot vs q s hl).2 ⟨hp.trans hps, hp.trans hpv⟩, decide_eq_true (quoL_of vs want q hq)]; rfl
    have hle := hmin q hl hcq
    have e : q = y := by
      rcases Nat.lt_or_ge q y with hlt | hge
      · exfalso
        have hcard : (listN q).length < (listN y).length := by
          have hne : ∃ i, y.testBit i = true ∧ q.testBit i = false := by
            refine Classical.byContradiction fun hno => ?_
            have hpp : Part y q := by
              intro i hi
              cases hb : q.testBit i
              · exact absurd ⟨i, hi, hb⟩ hno
              · rfl
            have := part_le hpp
            omega
          obtain ⟨i, hi, hqi⟩ := hne
          have hsub : (listN q).Sublist ((listN y).filter (fun j => decide (j ≠ i))) := by
            have e2 : listN q = ((listN y).filter (fun j => decide (j ≠ i))).filter (fun j => q.testBit j) := by
              unfold listN
              rw [List.filter_filter, List.filter_filter]
              refine List.filter_congr (fun j _ => ?_)
              cases hb : q.testBit j
              · simp
              · rw [hp j hb]
                have : j ≠ i := by intro e; rw [e, hqi] at hb; cases hb
                simp [this]
            rw [e2]
            exact List.filter_sublist
          have h1 := hsub.length_le
          have h64 : i < 64 := by
            rcases Nat.lt_or_ge i 64 with h1 | h1
            · exact h1
            · have := Nat.testBit_lt_two_pow (x := y) (i := i) (Nat.lt_of_lt_of_le (show y < 2 ^ 64 by omega) (Nat.pow_le_pow_right (n := 2) (by decide) h1))
              rw [this] at hi; cases hi
          have h2 : ((listN y).filter (fun j => decide (j ≠ i))).length < (listN y).length := by
            refine List.length_filter_lt_length_iff_exists.2 ⟨i, (mem_listN y i).2 ⟨h64, hi⟩, by simp⟩
          omega
        rw [listS_length, listS_length] at hle
        omega
      · have := part_le hp; omega
    rw [← e]; exact hq
  obtain ⟨f1, f2, f3⟩ := fewest_fold s (quoL vs want) 64
  have g1 := f2 y hq hpb
  have g2 := f3 (listS y).length (listS_len y) (fun q hq2 hpq => by
    have hl := ((quoL_mem vs want q).1 hq2).1
    refine hmin q hl ?_
    unfold candB
    rw [(partB_vot vs q s hl).2 ⟨(partB_iff q s (by omega)).1 hpq, quoL_part vs want q hq2⟩, decide_eq_true (quoL_of vs want q hq2)]; rfl)
  unfold fewest
  omega
end
section
open Go.RowKit

/-- A configuration. -/
structure Cf where
  e : Nat
  r : Nat
  w : Nat
  vs : List Nat
structure Cf.Ok (c : Cf) : Prop where
  e : c.e < 4294967296
  r : c.r < 256
  w : c.w < 256
  l : c.vs.length = 8
  v : ∀ v ∈ c.vs, v < 256
def votL (vs : List Nat) : List Value := vs.map fun (v : Nat) => Value.int .u8 (v : Int)
def votC (vs : List Nat) : Array Value := (votL vs).toArray
def Cf.cells (c : Cf) : List Value := .int .u32 (c.e : Int) :: .int .u8 (c.r : Int) :: .int .u8 (c.w : Int) :: votL c.vs
def Cf.arr (c : Cf) : Array Value := c.cells.toArray
theorem votL_len (vs : List Nat) : (votL vs).length = vs.length := by simp [votL]
theorem Cf.Ok.size {c : Cf} (h : c.Ok) : c.arr.size = 11 := by simp [Cf.arr, Cf.cells, votL_len, h.l]
theorem Cf.one (c : Cf) : c.arr.all (·.oneCell') = true := by simp [Cf.arr, Cf.cells, votL, Value.oneCell']
theorem Cf.Ok.at {c : Cf} (h : c.Ok) (k : Nat) : c.vs.getD k 0 < 256 := by
  rw [List.getD_eq_getElem?_getD]
  cases hx : c.vs[k]? with
  | none => simp
  | some x => exact h.v x (List.mem_of_getElem? hx)
theorem Cf.Ok.tot {c : Cf} (h : c.Ok) (k : Nat) : totN c.vs k ≤ 255 * k := tot_le c.vs 255 (fun v hv => by have := h.v v hv; omega) k
theorem Cf.Ok.of {c : Cf} (h : c.Ok) (s k : Nat) : ofN c.vs s k ≤ 255 * k := Nat.le_trans (of_le c.vs s k) (h.tot k)
theorem votC_at (vs : List Nat) (k : Nat) (h : k < vs.length) : (votC vs)[k]? = some (.int .u8 ((vs.getD k 0 : Nat) : Int)) := by
  simp [votC, votL, List.getD, h]
theorem arr_range {w : World} {b : Nat} {c : Cf} {t : TypeId} (h : Box w b c.arr t) : w.rangeAt b 0 c.cells := fun j v hv => by
  rw [Nat.zero_add]; exact h.cell j v (by simpa [Cf.arr] using hv)
theorem arr_votes {w : World} {b : Nat} {c : Cf} {t : TypeId} (h : Box w b c.arr t) : w.rangeAt b 3 (votL c.vs) := fun j v hv => by
  refine h.cell (3 + j) v ?_
  rw [show 3 + j = j + 1 + 1 + 1 by omega]
  simpa [Cf.arr, Cf.cells] using hv
theorem arr_e {w : World} {b : Nat} {c : Cf} {t : TypeId} (h : Box w b c.arr t) : w.cell? ⟨b, 0, none⟩ = some (.int .u32 (c.e : Int)) := h.cell 0 _ rfl
theorem arr_r {w : World} {b : Nat} {c : Cf} {t : TypeId} (h : Box w b c.arr t) : w.cell? ⟨b, 1, none⟩ = some (.int .u8 (c.r : Int)) := h.cell 1 _ rfl
theorem arr_w {w : World} {b : Nat} {c : Cf} {t : TypeId} (h : Box w b c.arr t) : w.cell? ⟨b, 2, none⟩ = some (.int .u8 (c.w : Int)) := h.cell 2 _ rfl
theorem infoCfg : (Tryz.prog.info? 30).map (·.size) = some 11 := by kernel_rfl
theorem infoArr8 : (Tryz.prog.info? 27).map (·.size) = some 8 := by kernel_rfl
/-- The whole is loaded. -/
theorem wp_load_cfg {ops : Array Oper} {rest : List Oper} {op : Oper} {a : Act} {w : World} {Q : Exit → Act → World → Prop} (hgd : op.guard = none) (x : Operand) (ho : op.op = .load 30 x)
    (b : Nat) (hx : a.eval x = .pointer (some ⟨b, 0, none⟩)) {c : Cf} {t : TypeId} (hok : c.Ok) (hb : Box w b c.arr t)
    (h : wpList Tryz.prog ops Q rest (a.put op.dst (.agg c.arr)) w) : wpList Tryz.prog ops Q (op :: rest) a w :=
  wp_load_box hgd x ho b hx hb Tryz.underlying30 rfl (by rw [hok.size]; exact infoCfg) h
/-- Its votes are. -/
theorem wp_load_votes {ops : Array Oper} {rest : List Oper} {op : Oper} {a : Act} {w : World} {Q : Exit → Act → World → Prop} (hgd : op.guard = none) (x : Operand) (ho : op.op = .load 27 x)
    (b : Nat) (hx : a.eval x = .pointer (some ⟨b, 3, none⟩)) {c : Cf} {t : TypeId} (hok : c.Ok) (hb : Box w b c.arr t)
    (h : wpList Tryz.prog ops Q rest (a.put op.dst (.agg (votC c.vs))) w) : wpList Tryz.prog ops Q (op :: rest) a w :=
  wpList_load_mid hgd 27 x ho b 3 hx (votL c.vs) _ (arr_votes hb) Tryz.underlying27 rfl (by rw [votL_len, hok.l]; exact infoArr8) h
theorem index_votes (vs : List Nat) (k : Nat) (hl : vs.length = 8) (hk : k < 8) (W : World) :
    (Instr.index 27 (.agg (votC vs)) (.int .i64 (k : Int))).run Tryz.prog W = .ok (.int .u8 ((vs.getD k 0 : Nat) : Int)) W := by
  have hat := votC_at vs k (by omega)
  have h1 : (0 : Int) ≤ (k : Int) ∧ (k : Int) < 8 := by omega
  have h2 : ¬ 8 ≤ k := by omega
  simp [Instr.index, asIntOf, Sem.run_bind, run_underlying Tryz.underlying27, h1, part, Tryz.sizeOf5, Tryz.isAgg5, hat, h2]
set_option maxHeartbeats 400000 in
theorem of_any (c : Cf) (s : Nat) (hok : c.Ok) (hs : s < 18446744073709551616) (w : World) :
    Calls Tryz.prog 158 #[.agg c.arr, .int .u64 s] w fun e w' => e = .returned (.int .i64 ((ofN c.vs s 8 : Nat) : Int)) ∧ w' = w.alloc (.cells c.arr 30) := by
  have hsz := hok.size
  have HO := hide hok
  have HB := hide (box_new w c.arr 30)
  clear hok
  go_enter Tryz.func158, Tryz.ntmps158
  go_wp2_with (refine wp_load_votes rfl _ rfl _ rfl HO.out HB.out ?_)
  go_loop [5, 10] (fun x i => ∃ k : Nat, k ≤ 8 ∧ i = .int .i64 k ∧ x = .int .i64 ((ofN c.vs s k : Nat) : Int)) (fun _ i => 8 - (intOf i).toNat)
  case atStart => exact ⟨0, by omega, rfl, rfl⟩
  case round =>
    obtain ⟨k, hk, rfl, rfl⟩ := hrel
    by_cases hlt : k < 8
    · have hidx := index_votes c.vs k HO.out.l hlt
      have hv := HO.out.at k
      have hu := HO.out.of s k
      have CH := hide (fun w => has_in s k hs (by omega) w)
      have HE : Hid (ofN c.vs s (k + 1) = ofN c.vs s k + (if s.testBit k then c.vs.getD k 0 else 0)) := rfl
      generalize c.vs.getD k 0 = x at *
      generalize ofN c.vs s k = o at *
      cases hb : s.testBit k
      · rw [hb] at CH HE
        go_wp2_with (go_at_call 166; refine (CH.out _).mono ?_; rintro e w' ⟨rfl, hw'⟩; rw [hw']; clear hw')
        go_round
        case rel => exact ⟨k + 1, by omega, by go_num, by rw [HE.out]; rfl⟩
        case measure => simp [intOf]; omega
      · rw [hb] at CH HE
        go_wp2_with (go_at_call 166; refine (CH.out _).mono ?_; rintro e w' ⟨rfl, hw'⟩; rw [hw']; clear hw')
        go_round
        case rel => exact ⟨k + 1, by omega, by go_num, by rw [HE.out]; simp⟩
        case measure => simp [intOf]; omega
    · obtain rfl : k = 8 := by omega
      go_wp2
      go_ret
      exact ⟨rfl, rfl⟩
set_option maxHeartbeats 400000 in
theorem voters_any (c : Cf) (hok : c.Ok) (w : World) :
    Calls Tryz.prog 159 #[.agg c.arr] w fun e w' => e = .returned (.int .u64 ((votN c.vs 8 : Nat) : Int)) ∧ w' = w.alloc (.cells c.arr 30) := by
  have hsz := hok.size
  have HO := hide hok
  have HB := hide (box_new w c.arr 30)
  clear hok
  go_enter Tryz.func159, Tryz.ntmps159
  go_wp2_with (refine wp_load_votes rfl _ rfl _ rfl HO.out HB.out ?_)
  go_loop [3, 8] (fun x i => ∃ k : Nat, k ≤ 8 ∧ i = .int .i64 k ∧ x = .int .u64 ((votN c.vs k : Nat) : Int)) (fun _ i => 8 - (intOf i).toNat)
  case atStart => exact ⟨0, by omega, rfl, rfl⟩
  case round =>
    obtain ⟨k, hk, rfl, rfl⟩ := hrel
    by_cases hlt : k < 8
    · have hidx := index_votes c.vs k HO.out.l hlt
      have hu : votN c.vs k < 18446744073709551616 := Nat.lt_of_lt_of_le (vot_lt c.vs k) (by have := Nat.pow_le_pow_right (n := 2) (by decide) hk; omega)
      have CH := hide (fun w => with_in (votN c.vs k) k hu (by omega) w)
      have HE : Hid (votN c.vs (k + 1) = if 0 < c.vs.getD k 0 then withN (votN c.vs k) k else votN c.vs k) := rfl
      generalize c.vs.getD k 0 = x at *
      by_cases hb : 0 < x
      · rw [if_pos hb] at HE
        have hx : decide ((x : Int) > 0) = true := decide_eq_true (by omega)
        go_wp2_with (go_at_call 167; refine (CH.out _).mono ?_; rintro e w' ⟨rfl, hw'⟩; rw [hw']; clear hw')
        go_round
        case rel => exact ⟨k + 1, by omega, by go_num, by rw [HE.out]⟩
        case measure => simp [intOf]; omega
      · rw [if_neg hb] at HE
        obtain rfl : x = 0 := by omega
        go_wp2
        go_round
        case rel => exact ⟨k + 1, by omega, by go_num, by rw [HE.out]⟩
        case measure => simp [intOf]; omega
    · obtain rfl : k = 8 := by omega
      go_wp2
      go_ret
      exact ⟨rfl, rfl⟩
end
end Go.Proofs.YtoppdelljjapoaaGreat
