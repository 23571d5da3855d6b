/-
  The program's Size and Next. Own work.
-/
import Derived.Test.YtgchgbbldhpgeabFBegin
import Derived.Test.YtgchgbbldhpgeabFLen
import Derived.Laws.StructEq
import Derived.Deep.OwnRows
namespace Go.Proofs.Ytgchgbbldhpgeab
open Go.RowKit

theorem fsize_any (n : Int) (w : World) (hlo : -9223372036854775808 ≤ n) (hhi : n ≤ 9223372036854775807) : Calls Try.prog 13 #[.int .i64 n] w fun e w' => e = .returned (.int .i64 (sizeF n)) ∧ w' = w := by
  unfold sizeF
  by_cases h : n < 0 ∨ 4096 < n
  · rw [if_pos h]
    rcases h with h | h
    · go_enter Try.func13, Try.ntmps13
      go_wp2_with fail
      go_ret
      exact ⟨rfl, rfl⟩
    · have h0 : 0 ≤ n := by omega
      go_enter Try.func13, Try.ntmps13
      go_wp2_with fail
      go_ret
      exact ⟨rfl, rfl⟩
  · rw [if_neg h]
    have h0 : 0 ≤ n := by omega
    have h1 : n ≤ 4096 := by omega
    go_enter Try.func13, Try.ntmps13
    go_wp2_with fail
    go_ret
    exact ⟨rfl, rfl⟩
theorem eq_begin (a0 a1 a2 a3 a4 a5 a6 a7 b0 b1 b2 b3 b4 b5 b6 b7 : Int) (w : World) :
    (Op.equalIn 10000 39 (.agg #[.int .u8 a0, .int .u8 a1, .int .u8 a2, .int .u8 a3, .int .u8 a4, .int .u8 a5, .int .u8 a6, .int .u8 a7]) (.agg #[.int .u8 b0, .int .u8 b1, .int .u8 b2, .int .u8 b3, .int .u8 b4, .int .u8 b5, .int .u8 b6, .int .u8 b7])).run Try.prog w
      = .ok (a0 == b0 && a1 == b1 && a2 == b2 && a3 == b3 && a4 == b4 && a5 == b5 && a6 == b6 && a7 == b7) w := by
  rw [show (10000 : Nat) = 9999 + 1 from rfl, Op.equalIn]
  simp only [Sem.run_bind, run_underlying Try.underlying39, Result.andThen_ok]
  simp only [Std.Legacy.Range.forIn_eq_forIn_range', Std.Legacy.Range.size, Nat.sub_zero, Nat.add_sub_cancel, Nat.div_one, List.range'_succ, List.range'_zero, List.forIn_cons, List.forIn_nil]
  go_simp
  by_cases h0 : a0 = b0
  · by_cases h1 : a1 = b1
    · by_cases h2 : a2 = b2
      · by_cases h3 : a3 = b3
        · by_cases h4 : a4 = b4
          · by_cases h5 : a5 = b5
            · by_cases h6 : a6 = b6
              · by_cases h7 : a7 = b7 <;> simp [h0, h1, h2, h3, h4, h5, h6, h7]
              · simp [h0, h1, h2, h3, h4, h5, h6]
            · simp [h0, h1, h2, h3, h4, h5]
          · simp [h0, h1, h2, h3, h4]
        · simp [h0, h1, h2, h3]
      · simp [h0, h1, h2]
    · simp [h0, h1]
  · simp [h0]
theorem neq_begin (a0 a1 a2 a3 a4 a5 a6 a7 b0 b1 b2 b3 b4 b5 b6 b7 : Int) (w : World) :
    (binOp .neq 39 (.agg #[.int .u8 a0, .int .u8 a1, .int .u8 a2, .int .u8 a3, .int .u8 a4, .int .u8 a5, .int .u8 a6, .int .u8 a7]) (.agg #[.int .u8 b0, .int .u8 b1, .int .u8 b2, .int .u8 b3, .int .u8 b4, .int .u8 b5, .int .u8 b6, .int .u8 b7])).run Try.prog w
      = .ok (.bool (!decide ([a0, a1, a2, a3, a4, a5, a6, a7] = [b0, b1, b2, b3, b4, b5, b6, b7]))) w := by
  rw [run_neq_struct, eq_begin]
  show Result.ok _ _ = _
  congr 2
  congr 1
  by_cases h : [a0, a1, a2, a3, a4, a5, a6, a7] = [b0, b1, b2, b3, b4, b5, b6, b7]
  · rw [decide_eq_true h]; simp at h; simp [h]
  · rw [decide_eq_false h]; simp at h ⊢; exact h
theorem eight (l : List Int) (h : l.length = 8) : ∃ a b c d e f g i, l = [a, b, c, d, e, f, g, i] := by
  match l, h with
  | [a, b, c, d, e, f, g, i], _ => exact ⟨a, b, c, d, e, f, g, i, rfl⟩
theorem putS2 (a b : Int) (ha : 0 ≤ a ∧ a < 256) (hb : 0 ≤ b ∧ b < 256) : putS (valB [a, b]) 2 = [a, b] := by
  rw [valB2]
  simp only [putS]
  simp
  constructor <;> omega
theorem putS4 (a b c d : Int) (ha : 0 ≤ a ∧ a < 256) (hb : 0 ≤ b ∧ b < 256) (hc : 0 ≤ c ∧ c < 256) (hd : 0 ≤ d ∧ d < 256) : putS (valB [a, b, c, d]) 4 = [a, b, c, d] := by
  rw [valB4]
  simp only [putS]
  simp
  refine ⟨?_, ?_, ?_, ?_⟩ <;> omega
/-- The beginning is the load's just if the sum is. -/
theorem head_iff (bs : List Int) (hx : ∀ c ∈ bs, 0 ≤ c ∧ c < 256) (h0 : bs.getD 0 0 = 167) (h1 : bs.getD 1 0 = 94) (hl : 8 + lenF bs ≤ bs.length) :
    bs.take 8 = headF ((bs.drop 8).take (lenF bs)) ↔ valB ((bs.drop 4).take 4) = sumF ((bs.drop 2).take 2) ((bs.drop 8).take (lenF bs)) := by
  obtain ⟨a0, a1, a2, a3, a4, a5, a6, a7, he⟩ := eight (bs.take 8) (by simp; omega)
  have hb : bs = [a0, a1, a2, a3, a4, a5, a6, a7] ++ bs.drop 8 := by rw [← he]; simp
  have hll : ((bs.drop 8).take (lenF bs)).length = lenF bs := by simp; omega
  have d2 : (bs.drop 2).take 2 = [a2, a3] := by rw [hb]; rfl
  have d4 : (bs.drop 4).take 4 = [a4, a5, a6, a7] := by rw [hb]; rfl
  have e0 : a0 = 167 := by rw [hb] at h0; exact h0
  have e1 : a1 = 94 := by rw [hb] at h1; exact h1
  have hm : ∀ c ∈ [a0, a1, a2, a3, a4, a5, a6, a7], 0 ≤ c ∧ c < 256 := fun c hc => hx c (by rw [hb]; exact List.mem_append_left _ hc)
  have hlb : lenB ((bs.drop 8).take (lenF bs)) = [a2, a3] := by
    unfold lenB
    rw [hll]
    unfold lenF
    rw [d2, putS2 a2 a3 (hm _ (by simp)) (hm _ (by simp))]
  have hxl : ∀ c ∈ (bs.drop 8).take (lenF bs), 0 ≤ c ∧ c < 256 := fun c hc => hx c (List.mem_of_mem_drop (List.mem_of_mem_take hc))
  have hs : sumF [a2, a3] ((bs.drop 8).take (lenF bs)) < 4294967296 := sumF_lt (fun c hc => hm c (by simp at hc ⊢; rcases hc with rfl | rfl <;> simp)) hxl
  unfold headF
  rw [hlb, he, d2, d4, e0, e1]
  generalize sumF [a2, a3] ((bs.drop 8).take (lenF bs)) = s at *
  have hp := putS4 a4 a5 a6 a7 (hm _ (by simp)) (hm _ (by simp)) (hm _ (by simp)) (hm _ (by simp))
  constructor
  · intro h
    have h4 : [a4, a5, a6, a7] = putS s 4 := by
      have := congrArg (List.drop 4) h
      simpa using this
    rw [h4, valB_putS]
    exact Nat.mod_eq_of_lt hs
  · intro h
    rw [← h, hp]
    rfl
theorem lies_box {w : World} {p : Nat} {xs : List Int} {t : TypeId} (h : Box w p (cells8 xs) t) (hl : xs.length ≤ 1000000) : Lies .u8 w (.slice (some ⟨p, 0, none⟩) xs.length xs.length) xs := by
  by_cases h0 : xs = []
  · subst h0; exact .inl ⟨rfl, _, _, rfl, fun h => by cases h⟩
  · exact .inr ⟨h0, p, 0, xs.length, rfl, h.lt, Nat.le_refl _, by unfold maxLen; omega, fun t ht => by
      rw [Nat.zero_add]
      exact h.cell t _ (by simp [cells8, List.getD, ht])⟩
theorem owns_box {w : World} {p base : Nat} {xs : List Int} (h : Box w p (cells8 xs) 5) (hb : base ≤ p) (hl : xs.length ≤ 1000000) : w.ownsRow base 5 1 (.slice (some ⟨p, 0, none⟩) xs.length xs.length) xs.length (xs.map (Value.int .u8)) :=
  ⟨by simp, .inr ⟨p, xs.length, cells8 xs, rfl, hb, h, Nat.le_refl _, by unfold maxLen; omega, by simp [cells8], by simp only [cells8, Nat.mul_one]; exact List.take_of_length_le (by simp)⟩⟩
theorem made_zero (n : Nat) : madeCells #[Value.int .u8 0] n = cells8 (List.replicate n 0) := by
  apply Array.ext
  · simp [madeCells, cells8]
  · intro i h1 h2
    simp [madeCells, cells8, Nat.mod_one]
/-- 'make([]byte, n)' -/
theorem wp_make_box {ops : Array Oper} {rest : List Oper} {o : Oper} {a : Act} {Q : Exit → Act → World → Prop} (w : World) (hg : o.guard = none) (l c : Operand) (hop : o.op = Op.makeSlice 23 l c) (n : Nat) (hl : a.eval l = .int .i64 n) (hc : a.eval c = .int .i64 n) (hn : n ≤ 1000000)
    (h : ∀ w', Box w' w.heap.size (cells8 (List.replicate n 0)) 5 → Below w.heap.size w w' → wpList Try.prog ops Q rest (a.put o.dst (.slice (some ⟨w.heap.size, 0, none⟩) n n)) w') : wpList Try.prog ops Q (o :: rest) a w := by
  obtain ⟨i0, hi, hz0, hz1, hz2⟩ := info_parts info5
  refine wpList_make_row w hg l c 23 hop 5 i0 (.int .u8 0) Try.underlying23 hi hz0 hz1 rfl .i64 .i64 n hl hc (by rw [hz2]; omega) (by omega) ?_
  rw [made_zero]
  exact h _ (box_new w _ _) (below_two w _)
theorem next_length (bs : List Int) : ((lengthF bs).2 ≠ 0 → nextF bs = ([], 0, (lengthF bs).2)) ∧ ((lengthF bs).2 = 0 → bs.getD 0 0 = 167 ∧ bs.getD 1 0 = 94 ∧ (lengthF bs).1 = lenF bs ∧ lenF bs ≤ 4096 ∧
    nextF bs = if bs.length < 8 + lenF bs then ([], 0, 4) else if valB ((bs.drop 4).take 4) ≠ sumF ((bs.drop 2).take 2) ((bs.drop 8).take (lenF bs)) then ([], 0, 8) else ((bs.drop 8).take (lenF bs), 8 + lenF bs, 0)) := by
  unfold nextF lengthF
  by_cases h0 : bs.length = 0
  · simp only [if_pos h0]; exact ⟨fun _ => by first | rfl | trivial, fun h => absurd h (by decide)⟩
  simp only [if_neg h0]
  by_cases h1 : bs.getD 0 0 ≠ 167
  · simp only [if_pos h1]; exact ⟨fun _ => by first | rfl | trivial, fun h => absurd h (by decide)⟩
  simp only [if_neg h1]
  by_cases h2 : bs.length = 1
  · simp only [if_pos h2]; exact ⟨fun _ => by first | rfl | trivial, fun h => absurd h (by decide)⟩
  simp only [if_neg h2]
  by_cases h3 : bs.getD 1 0 ≠ 94
  · simp only [if_pos h3]; exact ⟨fun _ => by first | rfl | trivial, fun h => absurd h (by decide)⟩
  simp only [if_neg h3]
  by_cases h4 : bs.length < 4
  · simp only [if_pos h4]; exact ⟨fun _ => by first | rfl | trivial, fun h => absurd h (by decide)⟩
  simp only [if_neg h4]
  by_cases h5 : 4096 < lenF bs
  · simp only [if_pos h5]; exact ⟨fun _ => by first | rfl | trivial, fun h => absurd h (by decide)⟩
  simp only [if_neg h5]
  exact ⟨fun h => absurd rfl h, fun _ => ⟨Classical.not_not.1 h1, Classical.not_not.1 h3, by first | rfl | trivial, Nat.le_of_not_lt h5, by first | rfl | trivial⟩⟩
theorem cells8_lit (a0 a1 a2 a3 a4 a5 a6 a7 : Int) : cells8 [a0, a1, a2, a3, a4, a5, a6, a7] = #[.int .u8 a0, .int .u8 a1, .int .u8 a2, .int .u8 a3, .int .u8 a4, .int .u8 a5, .int .u8 a6, .int .u8 a7] := rfl
set_option maxRecDepth 100000 in
set_option maxHeartbeats 1600000 in
theorem fnext_any (v : Value) (bs : List Int) (w : World) (h : Lies .u8 w v bs) (hx : ∀ c ∈ bs, 0 ≤ c ∧ c < 256) (hbl : bs.length ≤ 1000000) :
    Calls Try.prog 10 #[v] w fun e w' => ∃ v', e = .returned (.tuple #[v', .int .i64 (nextF bs).2.1, .int .i64 (nextF bs).2.2]) ∧ w'.ownsRow w.heap.size 5 1 v' (nextF bs).1.length ((nextF bs).1.map (Value.int .u8)) ∧ Below w.heap.size w w' := by
  have C := hide (flen_any v bs w h hx)
  obtain ⟨hA, hB⟩ := next_length bs
  obtain ⟨ao, cap, rfl⟩ := h.shape
  have H := hide h
  have HX := hide hx
  clear h hx
  by_cases hwhy : (lengthF bs).2 = 0
  · obtain ⟨h0, h1, hN, hN4, hE⟩ := hB hwhy
    have hIff := hide (head_iff bs HX.out h0 h1)
    rw [hN, hwhy] at C
    clear hA hB hwhy hN h0 h1
    generalize hNN : lenF bs = N at *
    have hnlo : -9223372036854775808 ≤ (N : Int) := by omega
    have hnhi : (N : Int) ≤ 9223372036854775807 := by omega
    have CS := fun w => fsize_any N w hnlo hnhi
    rw [show sizeF (N : Int) = 8 + (N : Int) by unfold sizeF; rw [if_neg (by omega)]] at CS
    have CS := hide CS
    by_cases hend : bs.length < 8 + N
    · rw [if_pos hend] at hE
      have HE := hide hE
      have hendI : (bs.length : Int) < 8 + (N : Int) := by omega
      clear hE
      go_enter Try.func10, Try.ntmps10
      go_wp2_with fail
      refine C.out.mono ?_
      rintro e w1 ⟨rfl, hB1⟩
      have HB1 := hide hB1
      clear hB1
      go_wp2_with fail
      refine (CS.out _).mono ?_
      rintro e w2 ⟨rfl, rfl⟩
      go_wp2_with fail
      go_ret3
      exact ⟨_, by rw [HE.out]; rfl, by rw [HE.out]; exact World.ownsRow_nil _ _ _ _, HB1.out⟩
    · rw [if_neg hend] at hE
      have hendI : 8 + (N : Int) ≤ (bs.length : Int) := by omega
      have hN4I : (N : Int) ≤ 4096 := by omega
      have hIff := hide (hIff.out (by omega))
      have hll : ((bs.drop 8).take N).length = N := by simp; omega
      have HXL : Hid (∀ c ∈ (bs.drop 8).take N, 0 ≤ c ∧ c < 256) := hide fun c hc => HX.out c (List.mem_of_mem_drop (List.mem_of_mem_take hc))
      have HD8 : Hid (Nat.min (bs.drop 8).length N = N) := hide (Nat.min_eq_right (by simp; omega))
      have HM8 : Hid (Nat.min bs.length 8 = 8) := hide (Nat.min_eq_right (by omega))
      have hl8 : (bs.drop 8).length = bs.length - 8 := by simp
      obtain ⟨ld, hld⟩ : ∃ ld, ld = (bs.drop 8).take N := ⟨_, rfl⟩
      obtain ⟨hd8, hhd8⟩ : ∃ hd8, hd8 = bs.take 8 := ⟨_, rfl⟩
      have hhl : hd8.length = 8 := by rw [hhd8]; simp; omega
      have HMV : Hid (ld = (List.replicate N 0).take 0 ++ (bs.drop 8).take N ++ (List.replicate N (0 : Int)).drop (0 + N)) := hide (by rw [← hld]; simp)
      have HMH : Hid (hd8 = zero8.take 0 ++ bs.take 8 ++ zero8.drop (0 + 8)) := hide (by rw [← hhd8]; simp [zero8])
      rw [← hld] at hE hll HXL hIff
      rw [← hhd8] at hIff
      have HE := hide hE
      clear hE hld hhd8 hl8
      obtain ⟨a0, a1, a2, q3, a4, a5, a6, a7, hea⟩ := eight hd8 hhl
      obtain ⟨b0, b1, b2, b3, b4, b5, b6, b7, heb⟩ := eight (headF ld) (headF_length ld)
      go_enter Try.func10, Try.ntmps10
      go_wp2_with fail
      refine C.out.mono ?_
      rintro e w1 ⟨rfl, hB1⟩
      have HB1 := hide hB1
      have HL1 := hide (H.out.below hB1)
      clear hB1
      go_wp2_with fail
      refine (CS.out _).mono ?_
      rintro e w2 ⟨rfl, hw2⟩
      rw [hw2]
      clear hw2 w2
      go_wp2_with (first
        | (at_make; refine wp_make_box _ rfl _ _ rfl N rfl rfl (by omega) ?_; intro w2 hb2 hB2; have HBX2 := hide hb2; have HL2 := hide (HL1.out.below hB2); have HB2 := hide hB2; clear hb2 hB2)
        | (refine wp_from _ rfl _ _ rfl _ bs rfl HL2.out 8 rfl (by omega) ?_; intro a3 c3 hL3; have HL3 := hide hL3; clear hL3)
        | (refine wp_copy_at _ rfl _ _ rfl w1.heap.size 0 N N 5 _ (bs.drop 8) ld HBX2.out rfl _ rfl HL3.out N HD8.out (by simp) HMV.out ?_; intro w4 hb4 hk4; have HBX4 := hide hb4; have hB4 := HB2.out.trans (hk4.below HB2.out.size (fun k hk => by rw [hk]; exact Nat.le_refl _)); have HB4 := hide hB4; have HL4 : Hid (Lies .u8 (w4.alloc (.cells #[.int .u8 0, .int .u8 0, .int .u8 0, .int .u8 0, .int .u8 0, .int .u8 0, .int .u8 0, .int .u8 0] 39)) (.slice ao bs.length cap) bs) := hide ((HL1.out.below hB4).below (below_two w4 _)); have HBX5 : Hid (Box (w4.alloc (.cells #[.int .u8 0, .int .u8 0, .int .u8 0, .int .u8 0, .int .u8 0, .int .u8 0, .int .u8 0, .int .u8 0] 39)) w4.heap.size (cells8 zero8) 39) := hide (box_new w4 _ _); have HC4 : Hid (Below w4.heap.size w4 (w4.alloc (.cells #[.int .u8 0, .int .u8 0, .int .u8 0, .int .u8 0, .int .u8 0, .int .u8 0, .int .u8 0, .int .u8 0] 39))) := hide (below_two w4 _); clear hb4 hk4 hB4 HL3 HBX2 HL2 HB2)
        | (refine wp_copy_at _ rfl _ _ rfl w4.heap.size 0 8 8 39 zero8 bs hd8 HBX5.out rfl _ rfl HL4.out 8 HM8.out (by decide) HMH.out ?_; intro w5 hb5 hk5; have HBX6 := hide hb5; have HC5 := hide (HC4.out.trans (hk5.below HC4.out.size (fun k hk => by rw [hk]; exact Nat.le_refl _))); clear hb5 hk5 HBX5 HL4 HC4))
      have HBL := hide ((HC5.out.block w1.heap.size HBX4.out.lt).trans HBX4.out)
      have HLL := hide (lies_box (show Box w5 w1.heap.size (cells8 ld) 5 from HBL.out) (by omega))
      have HB5 := hide (HB1.out.trans ((HB4.out.trans (HC5.out.mono HB4.out.size)).mono HB1.out.size))
      rw [hea] at HBX6
      rw [hll] at HLL
      have x0 : w5.cell? ⟨w4.heap.size, 0, none⟩ = some (.int .u8 a0) := HBX6.out.cell 0 _ rfl
      have x1 : w5.cell? ⟨w4.heap.size, 1, none⟩ = some (.int .u8 a1) := HBX6.out.cell 1 _ rfl
      have x2 : w5.cell? ⟨w4.heap.size, 2, none⟩ = some (.int .u8 a2) := HBX6.out.cell 2 _ rfl
      have x3 : w5.cell? ⟨w4.heap.size, 3, none⟩ = some (.int .u8 q3) := HBX6.out.cell 3 _ rfl
      have x4 : w5.cell? ⟨w4.heap.size, 4, none⟩ = some (.int .u8 a4) := HBX6.out.cell 4 _ rfl
      have x5 : w5.cell? ⟨w4.heap.size, 5, none⟩ = some (.int .u8 a5) := HBX6.out.cell 5 _ rfl
      have x6 : w5.cell? ⟨w4.heap.size, 6, none⟩ = some (.int .u8 a6) := HBX6.out.cell 6 _ rfl
      have x7 : w5.cell? ⟨w4.heap.size, 7, none⟩ = some (.int .u8 a7) := HBX6.out.cell 7 _ rfl
      have HBG := hide (fun w => begin_any (.slice (some ⟨w1.heap.size, 0, none⟩) N N) ld w)
      rw [heb, cells8_lit] at HBG
      have HBLT : Hid (w1.heap.size < w5.heap.size) := hide (show Box w5 w1.heap.size (cells8 ld) 5 from HBL.out).lt
      have HEQ : Hid (hd8 = headF ld ↔ [a0, a1, a2, q3, a4, a5, a6, a7] = [b0, b1, b2, b3, b4, b5, b6, b7]) := hide (by rw [hea, heb])
      clear H HL1 HB4 HMH HM8 C CS HBX4 HC5 hea heb
      by_cases hq : [a0, a1, a2, q3, a4, a5, a6, a7] = [b0, b1, b2, b3, b4, b5, b6, b7]
      · have hn : ∀ w, (binOp .neq 39 (.agg #[.int .u8 a0, .int .u8 a1, .int .u8 a2, .int .u8 q3, .int .u8 a4, .int .u8 a5, .int .u8 a6, .int .u8 a7]) (.agg #[.int .u8 b0, .int .u8 b1, .int .u8 b2, .int .u8 b3, .int .u8 b4, .int .u8 b5, .int .u8 b6, .int .u8 b7])).run Try.prog w = .ok (.bool false) w := fun w => by rw [neq_begin, decide_eq_true hq]; rfl
        have hs := hIff.out.1 (HEQ.out.2 hq)
        have hE := HE.out
        rw [if_neg (fun h => h hs)] at hE
        have HE := hide hE
        clear hE hs hq hIff
        go_wp2_with fail
        go_region_held (fun w' => w'.cell? ⟨w4.heap.size, 0, none⟩ = some (.int .u8 a0) ∧ w'.cell? ⟨w4.heap.size, 1, none⟩ = some (.int .u8 a1) ∧ w'.cell? ⟨w4.heap.size, 2, none⟩ = some (.int .u8 a2) ∧ w'.cell? ⟨w4.heap.size, 3, none⟩ = some (.int .u8 q3) ∧ w'.cell? ⟨w4.heap.size, 4, none⟩ = some (.int .u8 a4) ∧ w'.cell? ⟨w4.heap.size, 5, none⟩ = some (.int .u8 a5) ∧ w'.cell? ⟨w4.heap.size, 6, none⟩ = some (.int .u8 a6) ∧ w'.cell? ⟨w4.heap.size, 7, none⟩ = some (.int .u8 a7)) (go_keep) ((go_at_call 12; refine (HBG.out _ (HLL.out.below (Below.refl _ w5).drew) HXL.out (by omega)).mono ?_; rintro e w6 ⟨rfl, hB6⟩; have HBX7 : Hid (Box w6 w4.heap.size (cells8 [a0, a1, a2, q3, a4, a5, a6, a7]) 39) := hide ((hB6.block w4.heap.size HBX6.out.lt).trans HBX6.out); have y0 : w6.cell? ⟨w4.heap.size, 0, none⟩ = some (.int .u8 a0) := HBX7.out.cell 0 _ rfl; have y1 : w6.cell? ⟨w4.heap.size, 1, none⟩ = some (.int .u8 a1) := HBX7.out.cell 1 _ rfl; have y2 : w6.cell? ⟨w4.heap.size, 2, none⟩ = some (.int .u8 a2) := HBX7.out.cell 2 _ rfl; have y3 : w6.cell? ⟨w4.heap.size, 3, none⟩ = some (.int .u8 q3) := HBX7.out.cell 3 _ rfl; have y4 : w6.cell? ⟨w4.heap.size, 4, none⟩ = some (.int .u8 a4) := HBX7.out.cell 4 _ rfl; have y5 : w6.cell? ⟨w4.heap.size, 5, none⟩ = some (.int .u8 a5) := HBX7.out.cell 5 _ rfl; have y6 : w6.cell? ⟨w4.heap.size, 6, none⟩ = some (.int .u8 a6) := HBX7.out.cell 6 _ rfl; have y7 : w6.cell? ⟨w4.heap.size, 7, none⟩ = some (.int .u8 a7) := HBX7.out.cell 7 _ rfl; have HBL6 : Hid (Box w6 w1.heap.size (cells8 ld) 5) := hide ((hB6.block w1.heap.size HBLT.out).trans HBL.out); have HB6 := hide (HB5.out.drew.trans (hB6.mono HB5.out.size)); clear hB6))
        go_wp2_with fail
        go_ret3
        exact ⟨_, by rw [HE.out]; rfl, by rw [HE.out, ← hll]; exact owns_box HBL6.out HB1.out.size (by omega), HB6.out⟩
      · have hn : ∀ w, (binOp .neq 39 (.agg #[.int .u8 a0, .int .u8 a1, .int .u8 a2, .int .u8 q3, .int .u8 a4, .int .u8 a5, .int .u8 a6, .int .u8 a7]) (.agg #[.int .u8 b0, .int .u8 b1, .int .u8 b2, .int .u8 b3, .int .u8 b4, .int .u8 b5, .int .u8 b6, .int .u8 b7])).run Try.prog w = .ok (.bool true) w := fun w => by rw [neq_begin, decide_eq_false hq]; rfl
        have hs := fun h => hq (HEQ.out.1 (hIff.out.2 h))
        have hE := HE.out
        rw [if_pos hs] at hE
        have HE := hide hE
        clear hE hs hq hIff
        go_wp2_with fail
        go_region_held (fun w' => w'.cell? ⟨w4.heap.size, 0, none⟩ = some (.int .u8 a0) ∧ w'.cell? ⟨w4.heap.size, 1, none⟩ = some (.int .u8 a1) ∧ w'.cell? ⟨w4.heap.size, 2, none⟩ = some (.int .u8 a2) ∧ w'.cell? ⟨w4.heap.size, 3, none⟩ = some (.int .u8 q3) ∧ w'.cell? ⟨w4.heap.size, 4, none⟩ = some (.int .u8 a4) ∧ w'.cell? ⟨w4.heap.size, 5, none⟩ = some (.int .u8 a5) ∧ w'.cell? ⟨w4.heap.size, 6, none⟩ = some (.int .u8 a6) ∧ w'.cell? ⟨w4.heap.size, 7, none⟩ = some (.int .u8 a7)) (go_keep) ((go_at_call 12; refine (HBG.out _ (HLL.out.below (Below.refl _ w5).drew) HXL.out (by omega)).mono ?_; rintro e w6 ⟨rfl, hB6⟩; have HBX7 : Hid (Box w6 w4.heap.size (cells8 [a0, a1, a2, q3, a4, a5, a6, a7]) 39) := hide ((hB6.block w4.heap.size HBX6.out.lt).trans HBX6.out); have y0 : w6.cell? ⟨w4.heap.size, 0, none⟩ = some (.int .u8 a0) := HBX7.out.cell 0 _ rfl; have y1 : w6.cell? ⟨w4.heap.size, 1, none⟩ = some (.int .u8 a1) := HBX7.out.cell 1 _ rfl; have y2 : w6.cell? ⟨w4.heap.size, 2, none⟩ = some (.int .u8 a2) := HBX7.out.cell 2 _ rfl; have y3 : w6.cell? ⟨w4.heap.size, 3, none⟩ = some (.int .u8 q3) := HBX7.out.cell 3 _ rfl; have y4 : w6.cell? ⟨w4.heap.size, 4, none⟩ = some (.int .u8 a4) := HBX7.out.cell 4 _ rfl; have y5 : w6.cell? ⟨w4.heap.size, 5, none⟩ = some (.int .u8 a5) := HBX7.out.cell 5 _ rfl; have y6 : w6.cell? ⟨w4.heap.size, 6, none⟩ = some (.int .u8 a6) := HBX7.out.cell 6 _ rfl; have y7 : w6.cell? ⟨w4.heap.size, 7, none⟩ = some (.int .u8 a7) := HBX7.out.cell 7 _ rfl; have HBL6 : Hid (Box w6 w1.heap.size (cells8 ld) 5) := hide ((hB6.block w1.heap.size HBLT.out).trans HBL.out); have HB6 := hide (HB5.out.drew.trans (hB6.mono HB5.out.size)); clear hB6))
        go_wp2_with fail
        go_ret3
        exact ⟨_, by rw [HE.out]; rfl, by rw [HE.out]; exact World.ownsRow_nil _ _ _ _, HB6.out⟩
  · have HE := hide (hA hwhy)
    clear hA hB
    have hw1 : ((lengthF bs).2 == 0) = false := by simpa using hwhy
    generalize lengthF bs = r at *
    go_enter Try.func10, Try.ntmps10
    go_wp2_with fail
    refine C.out.mono ?_
    rintro e w1 ⟨rfl, hB1⟩
    have HB1 := hide hB1
    clear hB1
    go_wp2_with fail
    go_ret3
    exact ⟨_, by rw [HE.out]; rfl, by rw [HE.out]; exact World.ownsRow_nil _ _ _ _, HB1.out⟩
end Go.Proofs.Ytgchgbbldhpgeab
