/-
  Own texts put together: RpSmall, RpCnt, RpEqS, RpSame, RpLit, RpLit4. Own work.
-/
import Derived.Test.YtlegliimgjmphaaGreatG26
import Derived.Test.YtlegliimgjmphaaGreatG03
import Derived.Test.YtlegliimgjmphaaGreatG07
import Derived.Test.YtlegliimgjmphaaGreatG27
import Derived.Test.YtlegliimgjmphaaGreatG29
namespace Go.Proofs.YtlegliimgjmphaaGreat
section
open Go.RowKit Classical
theorem bootMay_any (n : Nat) (w : World) : Calls Tryz.prog 113 #[.int .u32 (n : Int)] w fun e w' => e = .returned (.bool (decide (1 ≤ n) && decide (n ≤ mxN))) ∧ Below w.heap.size w w' := by
 by_cases h1 : 1 ≤ n
 ·have d1 : decide ((n : Int) ≥ 1) = true := decide_eq_true (by omega)
  have hd : decide ((n : Int) ≤ 2147483647) = (decide (1 ≤ n) && decide (n ≤ mxN)) := by
   rw [decide_eq_true h1, Bool.true_and, Bool.eq_iff_iff, decide_eq_true_eq, decide_eq_true_eq]
   show (n : Int) ≤ 2147483647 ↔ n ≤ 2147483647
   omega
  have HD := hide hd
  have h1i : (1 : Int) ≤ (n : Int) := by omega
  generalize (decide (1 ≤ n) && decide (n ≤ mxN)) = R at *
  clear hd h1
  go_enter Tryz.func113, Tryz.ntmps113
  go_wp2
  go_ret
  exact ⟨by rw [← HD.out]; rfl, Below.refl _ _⟩
 ·have h1i : ¬ (1 : Int) ≤ (n : Int) := by omega
  have d1 : decide ((n : Int) ≥ 1) = false := decide_eq_false h1i
  have HD : Hid ((decide (1 ≤ n) && decide (n ≤ mxN)) = false) := hide (by rw [decide_eq_false h1, Bool.false_and])
  generalize (decide (1 ≤ n) && decide (n ≤ mxN)) = R at *
  clear h1
  go_enter Tryz.func113, Tryz.ntmps113
  go_wp2
  go_ret
  exact ⟨by rw [HD.out]; rfl, Below.refl _ _⟩
theorem setMay_any (n : Nat) (w : World) : Calls Tryz.prog 125 #[.int .u64 (n : Int)] w fun e w' => e = .returned (.bool (decide (n ≤ 255))) ∧ w' = w := by
 have hd : decide ((n : Int) ≤ 255) = decide (n ≤ 255) := by
  rw [Bool.eq_iff_iff, decide_eq_true_eq, decide_eq_true_eq]
  omega
 go_enter Tryz.func125, Tryz.ntmps125
 go_wp2
 go_ret
 exact ⟨rfl, rfl⟩
def kindB (k : Nat) : Bool := decide (1 ≤ k) && decide (k ≤ 7)
theorem kindB_fields (k : Nat) : kindB k = !(fieldsR k).isEmpty := by
 by_cases h : fieldsR k = []
 ·rw [h]
  unfold fieldsR at h
  unfold kindB
  have : ¬ (k = 1) ∧ ¬ (k = 2) ∧ ¬ (k = 3) ∧ ¬ (k = 4) ∧ ¬ (k = 5) ∧ ¬ (k = 6) ∧ ¬ (k = 7) := by
   refine ⟨?_, ?_, ?_, ?_, ?_, ?_, ?_⟩ <;> (rintro rfl; revert h; decide)
  have h2 : ¬ (1 ≤ k ∧ k ≤ 7) := by omega
  rw [Bool.eq_iff_iff]
  simp only [Bool.and_eq_true, decide_eq_true_eq]
  exact ⟨fun h => absurd h h2, fun h => by cases h⟩
 ·rcases fieldsR_kind h with rfl | rfl | rfl | rfl | rfl | rfl | rfl <;> rfl
theorem kindMay_any (n : Nat) (w : World) : Calls Tryz.prog 92 #[.int .u8 (n : Int)] w fun e w' => e = .returned (.bool (kindB n)) ∧ w' = w := by
 unfold kindB
 by_cases h1 : 1 ≤ n
 ·have d1 : decide ((n : Int) ≥ 1) = true := decide_eq_true (by omega)
  have hd : decide ((n : Int) ≤ 7) = (decide (1 ≤ n) && decide (n ≤ 7)) := by
   rw [decide_eq_true h1, Bool.true_and, Bool.eq_iff_iff, decide_eq_true_eq, decide_eq_true_eq]
   omega
  have HD := hide hd
  have h1i : (1 : Int) ≤ (n : Int) := by omega
  generalize (decide (1 ≤ n) && decide (n ≤ 7)) = R at *
  clear hd h1
  go_enter Tryz.func92, Tryz.ntmps92
  go_wp2
  go_ret
  exact ⟨by rw [← HD.out]; rfl, rfl⟩
 ·have h1i : ¬ (1 : Int) ≤ (n : Int) := by omega
  have d1 : decide ((n : Int) ≥ 1) = false := decide_eq_false h1i
  have HD : Hid ((decide (1 ≤ n) && decide (n ≤ 7)) = false) := hide (by rw [decide_eq_false h1, Bool.false_and])
  generalize (decide (1 ≤ n) && decide (n ≤ 7)) = R at *
  clear h1
  go_enter Tryz.func92, Tryz.ntmps92
  go_wp2
  go_ret
  exact ⟨by rw [HD.out]; rfl, rfl⟩
set_option maxRecDepth 100000 in
theorem pkeyMay_any (k : List Int) (hk : KeyOk k) (w : World) : Calls Tryz.prog 131 #[.agg (eightA k)] w fun e w' => e = .returned (.bool (nameF k).2) ∧ Below w.heap.size w w' := by
 have hA := alloc_below10 w (.cells (eightA k) 81)
 have hX := box_new w (eightA k) 81
 obtain ⟨w1, hw1⟩ : ∃ w1, w1 = w.alloc (.cells (eightA k) 81) := ⟨_, rfl⟩
 rw [← hw1] at hA hX
 have C := name_any k hk.l hk.b w1
 have hc8 : cells8 k = eightA k := by unfold cells8; rw [← eightE_map hk.l]
 rw [hc8] at C
 have HC := hide C
 have HA := hide hA
 have hW := hw1.symm
 have HX := hide hX
 generalize (nameF k).1 = nm at *
 generalize (nameF k).2 = r at *
 clear hA hX hw1 C hc8
 go_enter Tryz.func131, Tryz.ntmps131
 go_wp2_with (first | (refine wp_load_box rfl _ rfl _ rfl HX.out Tryz.underlying81 rfl infoKey10 ?_) | (go_at_call 204; refine HC.out.mono ?_; rintro e w2 ⟨rfl, hB2⟩; have HB2 := hide hB2; clear hB2))
 go_ret
 exact ⟨rfl, HA.out.trans (HB2.out.mono HA.out.size)⟩
theorem rputCount_any (p : Nat) (v : Value) (xs : List Int) (n : Nat) (w : World) (h : CW w p v xs) (hr : roomFor xs.length) (hn : n < 4294967296) :
  Calls Tryz.prog 114 #[.pointer (some ⟨p, 0, none⟩), .int .u32 (n : Int)] w fun e w' => e = .returned (.tuple #[]) ∧ ∃ v', CWrote w w' p v v' (xs ++ shortS n) := by
 have C := hide (cwnum_any p v xs n w h hr (by omega))
 have hcv := wrap64_u32 n hn
 clear h hr
 go_enter Tryz.func114, Tryz.ntmps114
 go_wp2_with (go_at_call 126; refine C.out.mono ?_; rintro e w1 ⟨rfl, v1, h1⟩; have H1 := hide h1; clear h1)
 go_end0
 exact ⟨rfl, v1, H1.out⟩
theorem rgetCount_any (p : Nat) (vb : Value) (all : List Int) (r : RS) (w : World) (h : CR w p vb all r) :
  Calls Tryz.prog 115 #[.pointer (some ⟨p, 0, none⟩)] w fun e w' => e = .returned (.int .u32 (((numC mxN).dec r).1 : Int)) ∧ CR w' p vb all ((numC mxN).dec r).2 ∧ KeepBut (fun k => k = p) w w' := by
 have C := hide (crnum_any p vb all r w h mxC)
 obtain ⟨n, h1, h2⟩ := num_rng mxC r h.byte'
 have hcv : IntKind.u32.wrap (numS mxC r).1 = (numS mxC r).1 := by rw [h1, IntKind.wrap_u32]; simp only [mxC] at h2; omega
 have HE : Hid (((((numC mxN).dec r).1 : Nat) : Int) = (numS mxC r).1) := hide (by show ((numS mxC r).1.toNat : Int) = _; rw [h1]; rfl)
 have HF : Hid (((numC mxN).dec r).2 = (numS mxC r).2) := hide rfl
 rw [HE.out, HF.out]
 generalize (numS mxC r).1 = x at *
 generalize (numS mxC r).2 = r2 at *
 clear h h1 h2 HE HF
 go_enter Tryz.func115, Tryz.ntmps115
 go_wp2_with (go_at_call 169; refine C.out.mono ?_; rintro e w1 ⟨rfl, h1, hk⟩; have H1 := hide h1; have HK := hide hk; clear h1 hk)
 go_ret
 exact ⟨rfl, H1.out, HK.out⟩
theorem getSet_any (p : Nat) (vb : Value) (all : List Int) (r : RS) (w : World) (h : CR w p vb all r) :
  Calls Tryz.prog 127 #[.pointer (some ⟨p, 0, none⟩)] w fun e w' => e = .returned (.int .u64 (((numC 255).dec r).1 : Int)) ∧ CR w' p vb all ((numC 255).dec r).2 ∧ KeepBut (fun k => k = p) w w' := by
 have C := hide (crnum_any p vb all r w h 255)
 obtain ⟨n, h1, h2⟩ := num_rng 255 r h.byte'
 have HE : Hid (((((numC 255).dec r).1 : Nat) : Int) = (numS 255 r).1) := hide (by show ((numS 255 r).1.toNat : Int) = _; rw [h1]; rfl)
 have HF : Hid (((numC 255).dec r).2 = (numS 255 r).2) := hide rfl
 rw [HE.out, HF.out]
 generalize (numS 255 r).1 = x at *
 generalize (numS 255 r).2 = r2 at *
 clear h h1 h2 HE HF
 go_enter Tryz.func127, Tryz.ntmps127
 go_wp2_with (go_at_call 169; refine C.out.mono ?_; rintro e w1 ⟨rfl, h1, hk⟩; have H1 := hide h1; have HK := hide hk; clear h1 hk)
 go_ret
 exact ⟨rfl, H1.out, HK.out⟩
theorem mayNot_any (n : Nat) (w : World) : Calls Tryz.prog 236 #[.int .u64 (n : Int)] w fun e w' => e = .returned (.bool (!decide (n ≤ 255))) ∧ w' = w := by
 have C := hide (setMay_any n w)
 generalize decide (n ≤ 255) = b at *
 go_enter Tryz.func236, Tryz.ntmps236
 go_wp2_with (go_at_call 125; refine C.out.mono ?_; rintro e w1 ⟨rfl, rfl⟩)
 go_ret
 exact ⟨rfl, rfl⟩
theorem en_mayNot : ∀ args w, (callFunc 236 args).run Tryz.prog w = .ok (.enter 236 args) w := enters_of Tryz.func236 (by kernel_rfl) rfl
theorem misI_get {l : List Nat} {k : Nat} (hk : k < l.length) : (misI l).getD k 0 = ((l[k] : Nat) : Int) := by simp [misI, List.getD, hk]
set_option maxRecDepth 100000 in
theorem indexFunc_any (v : Value) (xs : List Nat) (w : World) (h : Lies .u64 w v (misI xs)) :
  Calls Tryz.prog 250 #[v, .func (.func 236) #[] #[]] w fun e w' => ∃ z : Int, e = .returned (.int .i64 z) ∧ decide (0 ≤ z) = !xs.all (fun x => decide (x ≤ 255)) ∧ Below w.heap.size w w' := by
 have hml := h.len
 rw [misI_len] at hml
 unfold maxLen at hml
 obtain ⟨ao, cap, rfl⟩ := h.shape
 rw [misI_len] at h ⊢
 obtain ⟨L, hL⟩ : ∃ L, L = xs.length := ⟨_, rfl⟩
 have H := hide h
 rw [← hL] at hml ⊢
 rw [← hL] at H
 have HL := hide hL
 have he := en_mayNot
 clear h hL
 go_enter Tryz.func250, Tryz.ntmps250
 go_wp2_with fail
 go_loopg [8] L (fun g i wr => ∃ k : Nat, k + g = L ∧ i = .int .i64 k ∧ Hid (Below w.heap.size w wr) ∧ Hid (∀ j (hj : j < xs.length), j < k → xs[j] ≤ 255))
 case atStart => exact ⟨0, by omega, rfl, hide (Below.refl _ _), hide (fun j _ h => absurd h (Nat.not_lt_zero _))⟩
 case round =>
  obtain ⟨k, hk, rfl, HBW, HT⟩ := hrel
  cases gk with
  | zero =>
   obtain rfl : k = L := by omega
   have hz : ¬ ((k : Int) < (k : Int)) := by omega
   go_wp2_with fail
   go_ret
   refine ⟨-1, rfl, ?_, HBW.out⟩
   rw [show decide ((0 : Int) ≤ -1) = false from rfl]
   symm
   rw [Bool.not_eq_false', List.all_eq_true]
   intro x hx
   obtain ⟨j, hj, rfl⟩ := List.getElem_of_mem hx
   exact decide_eq_true (HT.out j hj (by rw [HL.out]; exact hj))
  | succ g =>
   have hz : (k : Int) < (L : Int) := by omega
   have hz0 : (0 : Int) ≤ (k : Int) := by omega
   have hkl : k < xs.length := by rw [← HL.out]; omega
   have H1 := H.out.below HBW.out
   rcases H1 with ⟨he0, _⟩ | ⟨_, b, off, c2, e2, _, _, _, hc⟩
   ·exfalso
    have := congrArg List.length he0
    rw [misI_len] at this
    have : xs.length = 0 := this
    omega
   ·cases e2
    have hcell := hc k (by rw [misI_len]; exact hkl)
    rw [misI_get hkl] at hcell
    have C := hide (mayNot_any xs[k] wr)
    have HX : Hid (xs[k] = xs[k]) := hide rfl
    obtain ⟨x, hx⟩ : ∃ x, x = xs[k] := ⟨_, rfl⟩
    have HXX := hide hx
    rw [← hx] at hcell C
    clear hc hx HX
    by_cases h255 : x ≤ 255
    ·rw [decide_eq_true h255] at C
     have HT2 : Hid (∀ j (hj : j < xs.length), j < k + 1 → xs[j] ≤ 255) := hide (fun j hj hjk => by
      rcases Nat.lt_or_ge j k with h | h
      ·exact HT.out j hj h
      ·obtain rfl : j = k := by omega
       rw [← HXX.out]
       exact h255)
     clear h255
     go_wp2_with fail
     refine C.out.mono ?_
     rintro e w1 ⟨rfl, rfl⟩
     go_wp2_with fail
     go_roundg g
     case measure => omega
     case rel => exact ⟨k + 1, by omega, by first | rfl | go_num, HBW, HT2⟩
    ·rw [decide_eq_false h255] at C
     have HN := hide h255
     clear h255
     go_wp2_with fail
     refine C.out.mono ?_
     rintro e w1 ⟨rfl, rfl⟩
     go_wp2_with fail
     go_ret
     refine ⟨(k : Int), rfl, ?_, HBW.out⟩
     rw [decide_eq_true (by omega)]
     symm
     rw [Bool.not_eq_true', ← Bool.not_eq_true, List.all_eq_true]
     intro hall
     have := hall x (by rw [HXX.out]; exact List.getElem_mem hkl)
     exact HN.out (by simpa using this)
theorem containsFunc_any (v : Value) (xs : List Nat) (w : World) (h : Lies .u64 w v (misI xs)) :
  Calls Tryz.prog 237 #[v, .func (.func 236) #[] #[]] w fun e w' => e = .returned (.bool (!xs.all (fun x => decide (x ≤ 255)))) ∧ Below w.heap.size w w' := by
 have C := hide (indexFunc_any v xs w h)
 generalize (!xs.all (fun x => decide (x ≤ 255))) = R at *
 clear h
 go_enter Tryz.func237, Tryz.ntmps237
 go_wp2_with (go_at_call 250; refine C.out.mono ?_; rintro e w1 ⟨z, rfl, hz, hB⟩; have HZ := hide hz; have HB := hide hB; clear hz hB)
 go_ret
 exact ⟨by rw [← HZ.out]; rfl, HB.out⟩
theorem setsMay_any (v : Value) (xs : List Nat) (w : World) (h : Lies .u64 w v (misI xs)) :
  Calls Tryz.prog 197 #[v] w fun e w' => e = .returned (.bool (xs.all (fun x => decide (x ≤ 255)))) ∧ Below w.heap.size w w' := by
 have C := hide (containsFunc_any v xs w h)
 generalize (xs.all (fun x => decide (x ≤ 255))) = R at *
 clear h
 go_enter Tryz.func197, Tryz.ntmps197
 go_wp2_with (go_at_call 237; refine C.out.mono ?_; rintro e w1 ⟨rfl, hB⟩; have HB := hide hB; clear hB)
 go_ret
 exact ⟨by cases R <;> rfl, HB.out⟩
end
section
open Go.RowKit Classical
def setN (l : List Nat) : Nat := l.foldl withN 0
theorem setN_lt8 : ∀ (l : List Nat) (s : Nat), s < 18446744073709551616 → (∀ x ∈ l, x < 8) → l.foldl withN s < 18446744073709551616
 | [], s, h, _ => h
 | x :: l, s, h, hl => setN_lt8 l (withN s x) (with_lt s x h (by have := hl x List.mem_cons_self; omega)) (fun y hy => hl y (List.mem_cons_of_mem _ hy))
theorem setN_lt {l : List Nat} (h : ∀ x ∈ l, x < 8) : setN l < 18446744073709551616 := setN_lt8 l 0 (by decide) h
theorem setN_take {l : List Nat} {k : Nat} (hk : k < l.length) : setN (l.take (k + 1)) = withN (setN (l.take k)) l[k] := by
 rw [List.take_succ_eq_append_getElem hk]
 unfold setN
 rw [List.foldl_append]
 rfl
theorem cnt_bit (kind : Nat) {n : Nat} (hn : n < 8) : (setN (fieldsR kind)).testBit n = (fieldsR kind).contains n := by
 by_cases h : fieldsR kind = []
 ·rw [h]
  show (0 : Nat).testBit n = false
  exact Nat.zero_testBit n
 ·rcases fieldsR_kind h with rfl | rfl | rfl | rfl | rfl | rfl | rfl <;> (refine byEight (P := fun n => _ = _) hn ?_ ?_ ?_ ?_ ?_ ?_ ?_ ?_ <;> decide)
set_option maxRecDepth 100000 in
theorem setOf_any (v : Value) (xs : List Nat) (w : World) (h : Lies .i64 w v (misI xs)) (hx : ∀ x ∈ xs, x < 8) (hl : xs.length ≤ 100) :
  Calls Tryz.prog 163 #[v] w fun e w' => e = .returned (.int .u64 (setN xs : Int)) ∧ w' = w := by
 obtain ⟨ao, cap, rfl⟩ := h.shape
 rw [misI_len] at h ⊢
 obtain ⟨L, hL⟩ : ∃ L, L = xs.length := ⟨_, rfl⟩
 have H := hide h
 rw [← hL] at hl ⊢
 rw [← hL] at H
 have HL := hide hL
 have HX := hide hx
 clear h hL hx
 go_enter Tryz.func163, Tryz.ntmps163
 go_wp2_with fail
 go_loopg [3, 8] L (fun g s i wr => ∃ k z : Nat, k + g = L ∧ s = .int .u64 (z : Int) ∧ i = .int .i64 k ∧ Hid (z = setN (xs.take k)) ∧ wr = w)
 case atStart => exact ⟨0, 0, by omega, rfl, rfl, hide rfl, rfl⟩
 case round =>
  obtain ⟨k, z, hk, rfl, rfl, HZ, rfl⟩ := hrel
  cases gk with
  | zero =>
   obtain rfl : k = L := by omega
   have hz : ¬ ((k : Int) < (k : Int)) := by omega
   have HE : Hid (z = setN xs) := hide (by rw [HZ.out, HL.out, List.take_length])
   go_wp2_with fail
   go_ret
   exact ⟨by rw [HE.out]; rfl, rfl⟩
  | succ g =>
   have hz : (k : Int) < (L : Int) := by omega
   have hz0 : (0 : Int) ≤ (k : Int) := by omega
   have hkl : k < xs.length := by rw [← HL.out]; omega
   have H1 := H.out
   rcases H1 with ⟨he0, _⟩ | ⟨_, b, off, c2, e2, _, _, _, hc⟩
   ·exfalso
    have := congrArg List.length he0
    rw [misI_len] at this
    have : xs.length = 0 := this
    omega
   ·cases e2
    have hcell := hc k (by rw [misI_len]; exact hkl)
    rw [misI_get hkl] at hcell
    have hx8 := HX.out _ (List.getElem_mem hkl)
    have hzl : z < 18446744073709551616 := by
     rw [HZ.out]
     exact setN_lt (fun x hx => HX.out x (List.mem_of_mem_take hx))
    have C := hide (with_in z xs[k] hzl (by omega) wr)
    have HZ2 : Hid (withN z xs[k] = setN (xs.take (k + 1))) := hide (by rw [setN_take hkl, HZ.out])
    obtain ⟨x, hx⟩ : ∃ x, x = xs[k] := ⟨_, rfl⟩
    rw [← hx] at hcell C HZ2
    generalize withN z x = z2 at *
    clear hc hx hx8 hzl
    go_wp2_with (go_at_call 230; refine C.out.mono ?_; rintro e w1 ⟨rfl, rfl⟩)
    go_roundg g
    case measure => omega
    case rel => exact ⟨k + 1, z2, by omega, rfl, by first | rfl | go_num, HZ2, rfl⟩
set_option maxRecDepth 100000 in
theorem counting1 (w : World) : Calls Tryz.prog 109 #[.int .u8 1] w fun e w' => e = .returned (.int .u64 (setN [0] : Int)) ∧ Below w.heap.size w w' ∧ w'.heap.size ≤ w.heap.size + 1 := by
 have HL := hide (lies_new .i64 w [0] 3 (by simp) (by decide))
 have HA := hide (alloc_below10 w (.cells #[.int .i64 0] 3))
 have C := hide (setOf_any _ [0] _ (show Lies .i64 _ _ (misI [0]) from HL.out) (by decide) (by decide))
 generalize setN [0] = z at *
 go_enter Tryz.func109, Tryz.ntmps109
 go_wp2_with (go_at_call 163; refine C.out.mono ?_; rintro e w1 ⟨rfl, rfl⟩)
 go_ret
 exact ⟨rfl, HA.out, by simp⟩
set_option maxRecDepth 100000 in
theorem counting2 (w : World) : Calls Tryz.prog 109 #[.int .u8 2] w fun e w' => e = .returned (.int .u64 (setN [1, 2, 4] : Int)) ∧ Below w.heap.size w w' ∧ w'.heap.size ≤ w.heap.size + 1 := by
 have HL := hide (lies_new .i64 w [1, 2, 4] 3 (by simp) (by decide))
 have HA := hide (alloc_below10 w (.cells #[.int .i64 1, .int .i64 2, .int .i64 4] 3))
 have C := hide (setOf_any _ [1, 2, 4] _ (show Lies .i64 _ _ (misI [1, 2, 4]) from HL.out) (by decide) (by decide))
 generalize setN [1, 2, 4] = z at *
 go_enter Tryz.func109, Tryz.ntmps109
 go_wp2_with (go_at_call 163; refine C.out.mono ?_; rintro e w1 ⟨rfl, rfl⟩)
 go_ret
 exact ⟨rfl, HA.out, by simp⟩
set_option maxRecDepth 100000 in
theorem counting3 (w : World) : Calls Tryz.prog 109 #[.int .u8 3] w fun e w' => e = .returned (.int .u64 (setN [1] : Int)) ∧ Below w.heap.size w w' ∧ w'.heap.size ≤ w.heap.size + 1 := by
 have HL := hide (lies_new .i64 w [1] 3 (by simp) (by decide))
 have HA := hide (alloc_below10 w (.cells #[.int .i64 1] 3))
 have C := hide (setOf_any _ [1] _ (show Lies .i64 _ _ (misI [1]) from HL.out) (by decide) (by decide))
 generalize setN [1] = z at *
 go_enter Tryz.func109, Tryz.ntmps109
 go_wp2_with (go_at_call 163; refine C.out.mono ?_; rintro e w1 ⟨rfl, rfl⟩)
 go_ret
 exact ⟨rfl, HA.out, by simp⟩
set_option maxRecDepth 100000 in
theorem counting4 (w : World) : Calls Tryz.prog 109 #[.int .u8 4] w fun e w' => e = .returned (.int .u64 (setN [1] : Int)) ∧ Below w.heap.size w w' ∧ w'.heap.size ≤ w.heap.size + 1 := by
 have HL := hide (lies_new .i64 w [1] 3 (by simp) (by decide))
 have HA := hide (alloc_below10 w (.cells #[.int .i64 1] 3))
 have C := hide (setOf_any _ [1] _ (show Lies .i64 _ _ (misI [1]) from HL.out) (by decide) (by decide))
 generalize setN [1] = z at *
 go_enter Tryz.func109, Tryz.ntmps109
 go_wp2_with (go_at_call 163; refine C.out.mono ?_; rintro e w1 ⟨rfl, rfl⟩)
 go_ret
 exact ⟨rfl, HA.out, by simp⟩
set_option maxRecDepth 100000 in
theorem counting5 (w : World) : Calls Tryz.prog 109 #[.int .u8 5] w fun e w' => e = .returned (.int .u64 (setN [1, 3, 4, 5] : Int)) ∧ Below w.heap.size w w' ∧ w'.heap.size ≤ w.heap.size + 1 := by
 have HL := hide (lies_new .i64 w [1, 3, 4, 5] 3 (by simp) (by decide))
 have HA := hide (alloc_below10 w (.cells #[.int .i64 1, .int .i64 3, .int .i64 4, .int .i64 5] 3))
 have C := hide (setOf_any _ [1, 3, 4, 5] _ (show Lies .i64 _ _ (misI [1, 3, 4, 5]) from HL.out) (by decide) (by decide))
 generalize setN [1, 3, 4, 5] = z at *
 go_enter Tryz.func109, Tryz.ntmps109
 go_wp2_with (go_at_call 163; refine C.out.mono ?_; rintro e w1 ⟨rfl, rfl⟩)
 go_ret
 exact ⟨rfl, HA.out, by simp⟩
set_option maxRecDepth 100000 in
theorem counting6 (w : World) : Calls Tryz.prog 109 #[.int .u8 6] w fun e w' => e = .returned (.int .u64 (setN [1] : Int)) ∧ Below w.heap.size w w' ∧ w'.heap.size ≤ w.heap.size + 1 := by
 have HL := hide (lies_new .i64 w [1] 3 (by simp) (by decide))
 have HA := hide (alloc_below10 w (.cells #[.int .i64 1] 3))
 have C := hide (setOf_any _ [1] _ (show Lies .i64 _ _ (misI [1]) from HL.out) (by decide) (by decide))
 generalize setN [1] = z at *
 go_enter Tryz.func109, Tryz.ntmps109
 go_wp2_with (go_at_call 163; refine C.out.mono ?_; rintro e w1 ⟨rfl, rfl⟩)
 go_ret
 exact ⟨rfl, HA.out, by simp⟩
set_option maxRecDepth 100000 in
theorem counting7 (w : World) : Calls Tryz.prog 109 #[.int .u8 7] w fun e w' => e = .returned (.int .u64 (setN [6, 7] : Int)) ∧ Below w.heap.size w w' ∧ w'.heap.size ≤ w.heap.size + 1 := by
 have HL := hide (lies_new .i64 w [6, 7] 3 (by simp) (by decide))
 have HA := hide (alloc_below10 w (.cells #[.int .i64 6, .int .i64 7] 3))
 have C := hide (setOf_any _ [6, 7] _ (show Lies .i64 _ _ (misI [6, 7]) from HL.out) (by decide) (by decide))
 generalize setN [6, 7] = z at *
 go_enter Tryz.func109, Tryz.ntmps109
 go_wp2_with (go_at_call 163; refine C.out.mono ?_; rintro e w1 ⟨rfl, rfl⟩)
 go_ret
 exact ⟨rfl, HA.out, by simp⟩
theorem counting0 (k : Nat) (h : fieldsR k = []) (w : World) : Calls Tryz.prog 109 #[.int .u8 (k : Int)] w fun e w' => e = .returned (.int .u64 (setN (fieldsR k) : Int)) ∧ Below w.heap.size w w' ∧ w'.heap.size ≤ w.heap.size + 1 := by
 rw [h]
 show Calls Tryz.prog 109 #[.int .u8 (k : Int)] w fun e w' => e = .returned (.int .u64 ((0 : Nat) : Int)) ∧ Below w.heap.size w w' ∧ w'.heap.size ≤ w.heap.size + 1
 have hk : ¬ (k = 1) ∧ ¬ (k = 2) ∧ ¬ (k = 3) ∧ ¬ (k = 4) ∧ ¬ (k = 5) ∧ ¬ (k = 6) ∧ ¬ (k = 7) := by
  refine ⟨?_, ?_, ?_, ?_, ?_, ?_, ?_⟩ <;> (rintro rfl; revert h; decide)
 have e1 : ((k : Int) == 1) = false := by simp; omega
 have e2 : ((k : Int) == 2) = false := by simp; omega
 have e3 : ((k : Int) == 3) = false := by simp; omega
 have e4 : ((k : Int) == 4) = false := by simp; omega
 have e5 : ((k : Int) == 5) = false := by simp; omega
 have e6 : ((k : Int) == 6) = false := by simp; omega
 have e7 : ((k : Int) == 7) = false := by simp; omega
 clear hk h
 go_enter Tryz.func109, Tryz.ntmps109
 go_wp2_with fail
 go_ret
 exact ⟨rfl, Below.refl _ _, Nat.le_succ _⟩
theorem counting_any (k : Nat) (w : World) : Calls Tryz.prog 109 #[.int .u8 (k : Int)] w fun e w' => e = .returned (.int .u64 (setN (fieldsR k) : Int)) ∧ Below w.heap.size w w' ∧ w'.heap.size ≤ w.heap.size + 1 := by
 by_cases h : fieldsR k = []
 ·exact counting0 k h w
 ·rcases fieldsR_kind h with rfl | rfl | rfl | rfl | rfl | rfl | rfl
  ·exact counting1 w
  ·exact counting2 w
  ·exact counting3 w
  ·exact counting4 w
  ·exact counting5 w
  ·exact counting6 w
  ·exact counting7 w
end
section
open Go.RowKit Classical
section
variable {ρ : Operand → Value} {w : World} {dst : Option Tmp} {ty : TypeId} {pos : String} {aft : Array Edge} {gd : Option (Nat × Bool)}
theorem y_fldT5 (x : Operand) {q : Nat} (hx : ρ x = .pointer (some ⟨q, 0, none⟩)) : (execOp ρ ⟨dst, .fieldAddr 87 x 5, ty, pos, aft, gd⟩).run Tryz.prog w = .ok (.value (.pointer (some ⟨q, 8, none⟩))) w := by simp [go_sem, hx]
theorem y_fldT6 (x : Operand) {q : Nat} (hx : ρ x = .pointer (some ⟨q, 0, none⟩)) : (execOp ρ ⟨dst, .fieldAddr 87 x 6, ty, pos, aft, gd⟩).run Tryz.prog w = .ok (.value (.pointer (some ⟨q, 9, none⟩))) w := by simp [go_sem, hx]
end
end
section
open Go.RowKit Classical
theorem ww1_any (b1 q : Nat) (ao : Option Addr) (n c : Nat) (w : World) (h1 : w.cell? ⟨b1, 0, none⟩ = some (.pointer (some ⟨q, 0, none⟩))) (h2 : w.cell? ⟨q, 8, none⟩ = some (.slice ao n c)) :
  Calls Tryz.prog 188 #[.pointer (some ⟨b1, 0, none⟩)] w fun e w' => e = .returned (.bool (decide (n = 0))) ∧ Below w.heap.size w w' := by
 go_enter Tryz.func188, Tryz.ntmps188
 go_wp2
 go_ret
 refine ⟨?_, Below.refl _ _⟩
 cases n <;> rfl
theorem mm1_any (b1 q : Nat) (ao : Option Addr) (n c : Nat) (w : World) (h1 : w.cell? ⟨b1, 0, none⟩ = some (.pointer (some ⟨q, 0, none⟩))) (h2 : w.cell? ⟨q, 9, none⟩ = some (.slice ao n c)) :
  Calls Tryz.prog 195 #[.pointer (some ⟨b1, 0, none⟩)] w fun e w' => e = .returned (.bool (decide (n = 0))) ∧ Below w.heap.size w w' := by
 go_enter Tryz.func195, Tryz.ntmps195
 go_wp2
 go_ret
 refine ⟨?_, Below.refl _ _⟩
 cases n <;> rfl
theorem ww2_any (b1 q : Nat) (ao : Option Addr) (n c : Nat) (ws : List WrP) (w : World) (h1 : w.cell? ⟨b1, 0, none⟩ = some (.pointer (some ⟨q, 0, none⟩))) (h2 : w.cell? ⟨q, 8, none⟩ = some (.slice ao n c)) (hs : RSrc wrE w (.slice ao n c) ws) (hok : ∀ x ∈ ws, KeyOk x.key ∧ ItOk x.it) :
  Calls Tryz.prog 189 #[.pointer (some ⟨b1, 0, none⟩)] w fun e w' => e = .returned (.bool (decide (1 ≤ ws.length) && wsMayB ws)) ∧ Below w.heap.size w w' := by
 have hn : n = ws.length := by
  obtain ⟨ao2, c2, e, _⟩ := hs
  cases e
  rfl
 have C := hide (writesMay_any _ ws w hs hok)
 clear hs hok
 rw [← hn]
 clear hn
 generalize wsMayB ws = b at *
 by_cases h0 : n = 0
 ·subst h0
  go_enter Tryz.func189, Tryz.ntmps189
  go_wp2_with fail
  go_ret
  exact ⟨rfl, Below.refl _ _⟩
 ·have hg : (0 : Int) < (n : Int) := by omega
  have HE : Hid ((decide (1 ≤ n) && b) = b) := hide (by rw [decide_eq_true (by omega), Bool.true_and])
  rw [HE.out]
  clear h0 HE
  go_enter Tryz.func189, Tryz.ntmps189
  go_wp2_with (first | (go_at_call 190; refine C.out.mono ?_; rintro e w2 ⟨rfl, hB2⟩; have HB2 := hide hB2; clear hB2))
  go_ret
  exact ⟨rfl, HB2.out⟩
theorem ww3_any (pw b1 q : Nat) (ao : Option Addr) (n c : Nat) (R : World → Prop) (w : World) (h1 : w.cell? ⟨b1, 0, none⟩ = some (.pointer (some ⟨q, 0, none⟩))) (h2 : w.cell? ⟨q, 8, none⟩ = some (.slice ao n c))
  (hC : Calls Tryz.prog 192 #[.pointer (some ⟨pw, 0, none⟩), .slice ao n c] w fun e w' => e = .returned (.tuple #[]) ∧ R w') :
  Calls Tryz.prog 191 #[.pointer (some ⟨pw, 0, none⟩), .pointer (some ⟨b1, 0, none⟩)] w fun e w' => e = .returned (.tuple #[]) ∧ R w' := by
 have C := hide hC
 clear hC
 go_enter Tryz.func191, Tryz.ntmps191
 go_wp2_with (first | (go_at_call 192; refine C.out.mono ?_; rintro e w2 ⟨rfl, hR⟩; have HR := hide hR; clear hR))
 go_end0
 exact ⟨rfl, HR.out⟩
theorem en_setsMay : ∀ args w, (callFunc 197 args).run Tryz.prog w = .ok (.enter 197 args) w := enters_of Tryz.func197 (by kernel_rfl) rfl
theorem eql_i64_11 (a b : Nat) (w : World) : (binOp .eql 3 (.int .i64 (a : Int)) (.int .i64 (b : Int))).run Tryz.prog w = .ok (.bool (decide (a = b))) w := by
 have : ((a : Int) == (b : Int)) = decide (a = b) := by rw [Bool.eq_iff_iff]; simp [Int.ofNat_inj]
 simp [go_sem, this]
set_option maxRecDepth 100000 in
theorem mm2_any (b1 q : Nat) (ao bo : Option Addr) (n c k d : Nat) (xs : List Nat) (w : World) (h1 : Box w b1 #[.pointer (some ⟨q, 0, none⟩)] 133) (hq : q < w.heap.size) (h2 : w.cell? ⟨q, 8, none⟩ = some (.slice ao n c)) (h3 : w.cell? ⟨q, 9, none⟩ = some (.slice bo k d)) (hl : Lies .u64 w (.slice bo k d) (misI xs)) :
  Calls Tryz.prog 196 #[.pointer (some ⟨b1, 0, none⟩)] w fun e w' => e = .returned (.bool (decide (k = n) && xs.all (fun x => decide (x ≤ 255)))) ∧ Below w.heap.size w w' := by
 have H1 := hide h1
 have H2 := hide h2
 have H3 := hide h3
 have HQ := hide hq
 have C := hide (fun W (hB : Below w.heap.size w W) => setsMay_any _ xs W (hl.below hB))
 clear h1 h2 h3 hl hq
 generalize xs.all (fun x => decide (x ≤ 255)) = b at *
 by_cases hkn : k = n
 ·have HE : Hid (∀ W, (binOp .eql 3 (.int .i64 (k : Int)) (.int .i64 (n : Int))).run Tryz.prog W = .ok (.bool true) W) := hide (fun W => by rw [eql_i64_11, decide_eq_true hkn])
  have HR : Hid ((decide (k = n) && b) = b) := hide (by rw [decide_eq_true hkn, Bool.true_and])
  rw [HR.out]
  clear hkn HR
  go_enter Tryz.func196, Tryz.ntmps196
  go_wp2_with fail
  refine wp_region_vals (by kernel_rfl) [(2, .pointer (some ⟨q, 0, none⟩)), (3, .pointer (some ⟨q, 0, none⟩)), (4, .pointer (some ⟨q, 9, none⟩)), (5, .slice bo k d), (6, .int .i64 (k : Int)), (7, .pointer (some ⟨q, 0, none⟩)), (8, .pointer (some ⟨q, 0, none⟩)), (9, .pointer (some ⟨q, 8, none⟩)), (10, .slice ao n c), (11, .int .i64 (n : Int)), (12, .bool true), (13, .bool true), (14, .pointer (some ⟨q, 0, none⟩)), (15, .pointer (some ⟨q, 0, none⟩)), (16, .pointer (some ⟨q, 9, none⟩)), (17, .slice bo k d), (18, .bool b), (19, .bool b), (1, .bool b)] (by kernel_rfl) rfl ?_ ?_
  ·intro i o hi A w1 hB hold hdeps
   have hlt : i < 19 := (Array.getElem?_eq_some_iff.1 hi).1
   have hc : i = 0 ∨ i = 1 ∨ i = 2 ∨ i = 3 ∨ i = 4 ∨ i = 5 ∨ i = 6 ∨ i = 7 ∨ i = 8 ∨ i = 9 ∨ i = 10 ∨ i = 11 ∨ i = 12 ∨ i = 13 ∨ i = 14 ∨ i = 15 ∨ i = 16 ∨ i = 17 ∨ i = 18 := by omega
   clear hlt
   rcases hc with rfl | rfl | rfl | rfl | rfl | rfl | rfl | rfl | rfl | rfl | rfl | rfl | rfl | rfl | rfl | rfl | rfl | rfl | rfl
   ·obtain rfl := Option.some.inj hi
    have s0 : A.tmps.getD 0 undef = .pointer (some ⟨b1, 0, none⟩) := hold 0 (by kernel_rfl)
    exact r_pure hi rfl rfl (y_cell_recp _ s0 ((H1.out.belowI hB).cell 0 _ rfl))
   ·obtain rfl := Option.some.inj hi
    have s2 : A.tmps.getD 2 undef = .pointer (some ⟨q, 0, none⟩) := dep_of hdeps 0 (by kernel_rfl)
    exact r_pure hi rfl rfl (y_nilc _ s2)
   ·obtain rfl := Option.some.inj hi
    have s3 : A.tmps.getD 3 undef = .pointer (some ⟨q, 0, none⟩) := dep_of hdeps 1 (by kernel_rfl)
    exact r_pure hi rfl rfl (y_fldT6 _ s3)
   ·obtain rfl := Option.some.inj hi
    have s4 : A.tmps.getD 4 undef = .pointer (some ⟨q, 9, none⟩) := dep_of hdeps 2 (by kernel_rfl)
    exact r_pure hi rfl rfl (y_cell_u64s _ s4 ((hB.cell (p := ⟨q, 9, none⟩) HQ.out).trans H3.out))
   ·obtain rfl := Option.some.inj hi
    have s5 : A.tmps.getD 5 undef = .slice bo k d := dep_of hdeps 3 (by kernel_rfl)
    exact r_pure hi rfl rfl (y_len _ _ s5 Tryz.underlying79)
   ·obtain rfl := Option.some.inj hi
    have s0 : A.tmps.getD 0 undef = .pointer (some ⟨b1, 0, none⟩) := hold 0 (by kernel_rfl)
    exact r_pure hi rfl rfl (y_cell_recp _ s0 ((H1.out.belowI hB).cell 0 _ rfl))
   ·obtain rfl := Option.some.inj hi
    have s7 : A.tmps.getD 7 undef = .pointer (some ⟨q, 0, none⟩) := dep_of hdeps 5 (by kernel_rfl)
    exact r_pure hi rfl rfl (y_nilc _ s7)
   ·obtain rfl := Option.some.inj hi
    have s8 : A.tmps.getD 8 undef = .pointer (some ⟨q, 0, none⟩) := dep_of hdeps 6 (by kernel_rfl)
    exact r_pure hi rfl rfl (y_fldT5 _ s8)
   ·obtain rfl := Option.some.inj hi
    have s9 : A.tmps.getD 9 undef = .pointer (some ⟨q, 8, none⟩) := dep_of hdeps 7 (by kernel_rfl)
    exact r_pure hi rfl rfl (y_cell_awrites _ s9 ((hB.cell (p := ⟨q, 8, none⟩) HQ.out).trans H2.out))
   ·obtain rfl := Option.some.inj hi
    have s10 : A.tmps.getD 10 undef = .slice ao n c := dep_of hdeps 8 (by kernel_rfl)
    exact r_pure hi rfl rfl (y_len _ _ s10 Tryz.underlying78)
   ·obtain rfl := Option.some.inj hi
    have s6 : A.tmps.getD 6 undef = .int .i64 (k : Int) := dep_of hdeps 4 (by kernel_rfl)
    have s11 : A.tmps.getD 11 undef = .int .i64 (n : Int) := dep_of hdeps 9 (by kernel_rfl)
    exact r_pure hi rfl rfl (y_bin _ _ _ _ _ s6 s11 (HE.out w1) (by kernel_rfl))
   ·obtain rfl := Option.some.inj hi
    have s12 : A.tmps.getD 12 undef = .bool true := dep_of hdeps 10 (by kernel_rfl)
    exact r_pure hi rfl rfl (y_move _ s12)
   ·obtain rfl := Option.some.inj hi
    have g12 : A.tmps.getD 13 undef = .bool true := dep_of hdeps 11 (by kernel_rfl)
    have s0 : A.tmps.getD 0 undef = .pointer (some ⟨b1, 0, none⟩) := hold 0 (by kernel_rfl)
    exact r_pure hi (wanted_of rfl rfl g12) rfl (y_cell_recp _ s0 ((H1.out.belowI hB).cell 0 _ rfl))
   ·obtain rfl := Option.some.inj hi
    have g13 : A.tmps.getD 13 undef = .bool true := dep_of hdeps 11 (by kernel_rfl)
    have s14 : A.tmps.getD 14 undef = .pointer (some ⟨q, 0, none⟩) := dep_of hdeps 12 (by kernel_rfl)
    exact r_pure hi (wanted_of rfl rfl g13) rfl (y_nilc _ s14)
   ·obtain rfl := Option.some.inj hi
    have g14 : A.tmps.getD 13 undef = .bool true := dep_of hdeps 11 (by kernel_rfl)
    have s15 : A.tmps.getD 15 undef = .pointer (some ⟨q, 0, none⟩) := dep_of hdeps 13 (by kernel_rfl)
    exact r_pure hi (wanted_of rfl rfl g14) rfl (y_fldT6 _ s15)
   ·obtain rfl := Option.some.inj hi
    have g15 : A.tmps.getD 13 undef = .bool true := dep_of hdeps 11 (by kernel_rfl)
    have s16 : A.tmps.getD 16 undef = .pointer (some ⟨q, 9, none⟩) := dep_of hdeps 14 (by kernel_rfl)
    exact r_pure hi (wanted_of rfl rfl g15) rfl (y_cell_u64s _ s16 ((hB.cell (p := ⟨q, 9, none⟩) HQ.out).trans H3.out))
   ·obtain rfl := Option.some.inj hi
    have g16 : A.tmps.getD 13 undef = .bool true := dep_of hdeps 11 (by kernel_rfl)
    have s17 : A.tmps.getD 17 undef = .slice bo k d := dep_of hdeps 15 (by kernel_rfl)
    exact r_enter hi (wanted_of rfl rfl g16) rfl (y_call 197 _ #[.slice bo k d] _ rfl (by simp only [List.map_toArray, List.map_cons, List.map_nil, show A.eval (.tmp 17) = .slice bo k d from s17]) en_setsMay) (C.out w1 hB)
   ·obtain rfl := Option.some.inj hi
    have s13 : A.tmps.getD 13 undef = .bool true := dep_of hdeps 11 (by kernel_rfl)
    have s18 : A.tmps.getD 18 undef = .bool b := dep_of hdeps 16 (by kernel_rfl)
    exact r_pure hi rfl rfl (y_pickT _ _ _ s13 s18)
   ·obtain rfl := Option.some.inj hi
    have s19 : A.tmps.getD 19 undef = .bool b := dep_of hdeps 17 (by kernel_rfl)
    exact r_pure hi rfl rfl (y_assign _ s19)
  ·intro w8 hB8
   simp only [putAll, Act.put, List.setIfInBounds_toArray, List.set_cons_succ, List.set_cons_zero]
   have HB8 := hide hB8
   clear hB8
   go_wp2_with fail
   go_ret
   exact ⟨rfl, HB8.out⟩
 ·have HE : Hid (∀ W, (binOp .eql 3 (.int .i64 (k : Int)) (.int .i64 (n : Int))).run Tryz.prog W = .ok (.bool false) W) := hide (fun W => by rw [eql_i64_11, decide_eq_false hkn])
  have HR : Hid ((decide (k = n) && b) = false) := hide (by rw [decide_eq_false hkn, Bool.false_and])
  rw [HR.out]
  clear hkn HR
  go_enter Tryz.func196, Tryz.ntmps196
  go_wp2_with fail
  refine wp_region_vals (by kernel_rfl) [(2, .pointer (some ⟨q, 0, none⟩)), (3, .pointer (some ⟨q, 0, none⟩)), (4, .pointer (some ⟨q, 9, none⟩)), (5, .slice bo k d), (6, .int .i64 (k : Int)), (7, .pointer (some ⟨q, 0, none⟩)), (8, .pointer (some ⟨q, 0, none⟩)), (9, .pointer (some ⟨q, 8, none⟩)), (10, .slice ao n c), (11, .int .i64 (n : Int)), (12, .bool false), (13, .bool false), (14, undef), (15, undef), (16, undef), (17, undef), (18, undef), (19, .bool false), (1, .bool false)] (by kernel_rfl) rfl ?_ ?_
  ·intro i o hi A w1 hB hold hdeps
   have hlt : i < 19 := (Array.getElem?_eq_some_iff.1 hi).1
   have hc : i = 0 ∨ i = 1 ∨ i = 2 ∨ i = 3 ∨ i = 4 ∨ i = 5 ∨ i = 6 ∨ i = 7 ∨ i = 8 ∨ i = 9 ∨ i = 10 ∨ i = 11 ∨ i = 12 ∨ i = 13 ∨ i = 14 ∨ i = 15 ∨ i = 16 ∨ i = 17 ∨ i = 18 := by omega
   clear hlt
   rcases hc with rfl | rfl | rfl | rfl | rfl | rfl | rfl | rfl | rfl | rfl | rfl | rfl | rfl | rfl | rfl | rfl | rfl | rfl | rfl
   ·obtain rfl := Option.some.inj hi
    have s0 : A.tmps.getD 0 undef = .pointer (some ⟨b1, 0, none⟩) := hold 0 (by kernel_rfl)
    exact r_pure hi rfl rfl (y_cell_recp _ s0 ((H1.out.belowI hB).cell 0 _ rfl))
   ·obtain rfl := Option.some.inj hi
    have s2 : A.tmps.getD 2 undef = .pointer (some ⟨q, 0, none⟩) := dep_of hdeps 0 (by kernel_rfl)
    exact r_pure hi rfl rfl (y_nilc _ s2)
   ·obtain rfl := Option.some.inj hi
    have s3 : A.tmps.getD 3 undef = .pointer (some ⟨q, 0, none⟩) := dep_of hdeps 1 (by kernel_rfl)
    exact r_pure hi rfl rfl (y_fldT6 _ s3)
   ·obtain rfl := Option.some.inj hi
    have s4 : A.tmps.getD 4 undef = .pointer (some ⟨q, 9, none⟩) := dep_of hdeps 2 (by kernel_rfl)
    exact r_pure hi rfl rfl (y_cell_u64s _ s4 ((hB.cell (p := ⟨q, 9, none⟩) HQ.out).trans H3.out))
   ·obtain rfl := Option.some.inj hi
    have s5 : A.tmps.getD 5 undef = .slice bo k d := dep_of hdeps 3 (by kernel_rfl)
    exact r_pure hi rfl rfl (y_len _ _ s5 Tryz.underlying79)
   ·obtain rfl := Option.some.inj hi
    have s0 : A.tmps.getD 0 undef = .pointer (some ⟨b1, 0, none⟩) := hold 0 (by kernel_rfl)
    exact r_pure hi rfl rfl (y_cell_recp _ s0 ((H1.out.belowI hB).cell 0 _ rfl))
   ·obtain rfl := Option.some.inj hi
    have s7 : A.tmps.getD 7 undef = .pointer (some ⟨q, 0, none⟩) := dep_of hdeps 5 (by kernel_rfl)
    exact r_pure hi rfl rfl (y_nilc _ s7)
   ·obtain rfl := Option.some.inj hi
    have s8 : A.tmps.getD 8 undef = .pointer (some ⟨q, 0, none⟩) := dep_of hdeps 6 (by kernel_rfl)
    exact r_pure hi rfl rfl (y_fldT5 _ s8)
   ·obtain rfl := Option.some.inj hi
    have s9 : A.tmps.getD 9 undef = .pointer (some ⟨q, 8, none⟩) := dep_of hdeps 7 (by kernel_rfl)
    exact r_pure hi rfl rfl (y_cell_awrites _ s9 ((hB.cell (p := ⟨q, 8, none⟩) HQ.out).trans H2.out))
   ·obtain rfl := Option.some.inj hi
    have s10 : A.tmps.getD 10 undef = .slice ao n c := dep_of hdeps 8 (by kernel_rfl)
    exact r_pure hi rfl rfl (y_len _ _ s10 Tryz.underlying78)
   ·obtain rfl := Option.some.inj hi
    have s6 : A.tmps.getD 6 undef = .int .i64 (k : Int) := dep_of hdeps 4 (by kernel_rfl)
    have s11 : A.tmps.getD 11 undef = .int .i64 (n : Int) := dep_of hdeps 9 (by kernel_rfl)
    exact r_pure hi rfl rfl (y_bin _ _ _ _ _ s6 s11 (HE.out w1) (by kernel_rfl))
   ·obtain rfl := Option.some.inj hi
    have s12 : A.tmps.getD 12 undef = .bool false := dep_of hdeps 10 (by kernel_rfl)
    exact r_pure hi rfl rfl (y_move _ s12)
   ·obtain rfl := Option.some.inj hi
    have g12 : A.tmps.getD 13 undef = .bool false := dep_of hdeps 11 (by kernel_rfl)
    exact each_skip hi rfl rfl (fun e => absurd (g12.symm.trans e) (by simp)) rfl
   ·obtain rfl := Option.some.inj hi
    have g13 : A.tmps.getD 13 undef = .bool false := dep_of hdeps 11 (by kernel_rfl)
    exact each_skip hi rfl rfl (fun e => absurd (g13.symm.trans e) (by simp)) rfl
   ·obtain rfl := Option.some.inj hi
    have g14 : A.tmps.getD 13 undef = .bool false := dep_of hdeps 11 (by kernel_rfl)
    exact each_skip hi rfl rfl (fun e => absurd (g14.symm.trans e) (by simp)) rfl
   ·obtain rfl := Option.some.inj hi
    have g15 : A.tmps.getD 13 undef = .bool false := dep_of hdeps 11 (by kernel_rfl)
    exact each_skip hi rfl rfl (fun e => absurd (g15.symm.trans e) (by simp)) rfl
   ·obtain rfl := Option.some.inj hi
    have g16 : A.tmps.getD 13 undef = .bool false := dep_of hdeps 11 (by kernel_rfl)
    exact each_skip hi rfl rfl (fun e => absurd (g16.symm.trans e) (by simp)) rfl
   ·obtain rfl := Option.some.inj hi
    have s13 : A.tmps.getD 13 undef = .bool false := dep_of hdeps 11 (by kernel_rfl)
    exact r_pure hi rfl rfl (y_pickF _ _ _ s13 rfl)
   ·obtain rfl := Option.some.inj hi
    have s19 : A.tmps.getD 19 undef = .bool false := dep_of hdeps 17 (by kernel_rfl)
    exact r_pure hi rfl rfl (y_assign _ s19)
  ·intro w8 hB8
   simp only [putAll, Act.put, List.setIfInBounds_toArray, List.set_cons_succ, List.set_cons_zero]
   have HB8 := hide hB8
   clear hB8
   go_wp2_with fail
   go_ret
   exact ⟨rfl, HB8.out⟩
theorem misT_len (ms : List Nat) (j : Nat) (hb : ∀ x ∈ ms, x ≤ 255) : (repEnc (numC 255) (ms.take j)).length ≤ 10 * ms.length := by
 have key : ∀ l : List Nat, (∀ x ∈ l, x ≤ 255) → (repEnc (numC 255) l).length ≤ 10 * l.length := by
  intro l
  induction l with
  | nil => intro _; exact Nat.le_refl _
  | cons x l ih =>
   intro h
   have h1 := ih (fun y hy => h y (List.mem_cons_of_mem _ hy))
   have h2 : (shortS x).length ≤ 10 := shortS_len10 (by have := h x List.mem_cons_self; omega)
   unfold repEnc at *
   rw [List.flatMap_cons, List.length_append, List.length_cons]
   show (shortS x).length + _ ≤ _
   omega
 have h1 := key (ms.take j) (fun x hx => hb x (List.mem_of_mem_take hx))
 have h2 : (ms.take j).length ≤ ms.length := List.length_take_le' j ms
 omega
theorem cwrote_refl {w : World} {p : Nat} {v : Value} {xs : List Int} (h : CW w p v xs) : CWrote w w p v v xs := ⟨h, KeepBut.refl _ _, .inl rfl⟩
theorem repEnc_take {l : List Nat} {k : Nat} (hk : k < l.length) : repEnc (numC 255) (l.take (k + 1)) = repEnc (numC 255) (l.take k) ++ shortS l[k] := by
 rw [List.take_succ_eq_append_getElem hk]
 unfold repEnc
 rw [List.flatMap_append]
 simp [numC]
theorem mm3_any (w0 : World) (pw b1 q : Nat) (v : Value) (xs : List Int) (bo : Option Addr) (k c : Nat) (ms : List Nat) (w : World) (h1 : w.cell? ⟨b1, 0, none⟩ = some (.pointer (some ⟨q, 0, none⟩))) (h2 : w.cell? ⟨q, 9, none⟩ = some (.slice bo k c))
  (hw : CBl w0 w pw v xs) (hl : Lies .u64 w0 (.slice bo k c) (misI ms)) (hb : ∀ x ∈ ms, x ≤ 255) (hr : xs.length + 10 * ms.length ≤ 100000) (hm : ms.length ≤ 100) :
  Calls Tryz.prog 198 #[.pointer (some ⟨pw, 0, none⟩), .pointer (some ⟨b1, 0, none⟩)] w fun e w' => e = .returned (.tuple #[]) ∧ ∃ v', CWrote w w' pw v v' (xs ++ repEnc (numC 255) ms) := by
 have hk : k = ms.length := by
  obtain ⟨ao2, c2, e⟩ := hl.shape
  cases e
  exact misI_len ms
 subst hk
 obtain ⟨L, hL⟩ : ∃ L, L = ms.length := ⟨_, rfl⟩
 rw [← hL] at h2 hl hm
 have HL := hide hL
 have HLI := hide hl
 have HB := hide hb
 have HW := hide hw
 have HR : Hid (xs.length + 10 * L ≤ 100000) := hide (by rw [hL]; exact hr)
 clear hL hl hb hw hr
 go_enter Tryz.func198, Tryz.ntmps198
 go_wp2_with fail
 clear h1 h2
 go_loopg [10] L (fun g i wr => ∃ (j : Nat) (v' : Value), j + g = L ∧ i = .int .i64 j ∧ Hid (CWrote w wr pw v v' (xs ++ repEnc (numC 255) (ms.take j))))
 case atStart => exact ⟨0, v, by omega, rfl, hide (by
  have : xs ++ repEnc (numC 255) (ms.take 0) = xs := by simp [repEnc]
  rw [this]
  exact cwrote_refl HW.out.wr)⟩
 case round =>
  obtain ⟨j, v', hj, rfl, HC⟩ := hrel
  cases gk with
  | zero =>
   obtain rfl : j = L := by omega
   have hz : ¬ ((j : Int) < (j : Int)) := by omega
   have HE : Hid (ms.take j = ms) := hide (by rw [HL.out, List.take_length])
   go_wp2_with fail
   go_end0
   exact ⟨rfl, v', by have := HC.out; rw [HE.out] at this; exact this⟩
  | succ g =>
   have hz : (j : Int) < (L : Int) := by omega
   have hz0 : (0 : Int) ≤ (j : Int) := by omega
   have hjl : j < ms.length := by rw [← HL.out]; omega
   have H2 := HW.out.step HC.out
   have H3 := HLI.out.below H2.bl
   rcases H3 with ⟨he0, _⟩ | ⟨_, b, off, c2, e2, _, _, _, hc⟩
   ·exfalso
    have := congrArg List.length he0
    rw [misI_len] at this
    have : ms.length = 0 := this
    omega
   ·cases e2
    have hcell := hc j (by rw [misI_len]; exact hjl)
    rw [misI_get hjl] at hcell
    have hx := HB.out _ (List.getElem_mem hjl)
    have hln : (xs ++ repEnc (numC 255) (ms.take j)).length ≤ 100000 := by
     have h4 := misT_len ms j HB.out
     have := HR.out
     have h5 := misI_len ms
     rw [List.length_append]
     omega
    have C := hide (cwnum_any pw v' (xs ++ repEnc (numC 255) (ms.take j)) ms[j] wr H2.wr (by unfold roomFor; omega) (by omega))
    have HN : Hid (xs ++ repEnc (numC 255) (ms.take j) ++ shortS ms[j] = xs ++ repEnc (numC 255) (ms.take (j + 1))) := hide (by rw [repEnc_take hjl, List.append_assoc])
    rw [HN.out] at C
    obtain ⟨x, hx2⟩ : ∃ x, x = ms[j] := ⟨_, rfl⟩
    rw [← hx2] at hcell C
    clear hc hx hln hx2 HN H2
    go_wp2_with (go_at_call 126; refine C.out.mono ?_; rintro e w1 ⟨rfl, v1, h1⟩; have H1 := hide (HC.out.trans h1); clear h1)
    go_roundg g
    case measure => omega
    case rel => exact ⟨j + 1, v1, by omega, by first | rfl | go_num, H1⟩
theorem writesIn_any (q : Nat) (w : World) : Calls Tryz.prog 128 #[.pointer (some ⟨q, 0, none⟩)] w fun e w' => ∃ b1, e = .returned (.agg #[.func (.func 188) #[] #[.pointer (some ⟨b1, 0, none⟩)], .func (.func 189) #[] #[.pointer (some ⟨b1, 0, none⟩)], .func (.func 191) #[] #[.pointer (some ⟨b1, 0, none⟩)], .func (.func 193) #[] #[.pointer (some ⟨b1, 0, none⟩)]]) ∧ Box w' b1 #[.pointer (some ⟨q, 0, none⟩)] 133 ∧ w.heap.size ≤ b1 ∧ Below w.heap.size w w' := by
 have hmf := make_fn
 have HI := hide infoFld
 have b1 := (box_new w #[.pointer (some ⟨q, 0, none⟩)] 133).belowI (alloc_below10 _ (.cells (#[.func (.func 188) #[] #[.pointer (some ⟨w.heap.size, 0, none⟩)], .func (.func 189) #[] #[.pointer (some ⟨w.heap.size, 0, none⟩)], .func (.func 191) #[] #[.pointer (some ⟨w.heap.size, 0, none⟩)], .func (.func 193) #[] #[.pointer (some ⟨w.heap.size, 0, none⟩)]]) 137))
 have b2 := box_new (w.alloc (.cells #[.pointer (some ⟨q, 0, none⟩)] 133)) (#[.func (.func 188) #[] #[.pointer (some ⟨w.heap.size, 0, none⟩)], .func (.func 189) #[] #[.pointer (some ⟨w.heap.size, 0, none⟩)], .func (.func 191) #[] #[.pointer (some ⟨w.heap.size, 0, none⟩)], .func (.func 193) #[] #[.pointer (some ⟨w.heap.size, 0, none⟩)]]) 137
 rw [World.size_alloc] at b2
 have hB := ((Below.refl w.heap.size w).alloc (Nat.le_refl _) (.cells #[.pointer (some ⟨q, 0, none⟩)] 133)).alloc (by simp) (.cells (#[.func (.func 188) #[] #[.pointer (some ⟨w.heap.size, 0, none⟩)], .func (.func 189) #[] #[.pointer (some ⟨w.heap.size, 0, none⟩)], .func (.func 191) #[] #[.pointer (some ⟨w.heap.size, 0, none⟩)], .func (.func 193) #[] #[.pointer (some ⟨w.heap.size, 0, none⟩)]]) 137)
 go_enter Tryz.func128, Tryz.ntmps128
 go_wp2_with fail
 exact bodyPost_ret (v := .agg (#[.func (.func 188) #[] #[.pointer (some ⟨w.heap.size, 0, none⟩)], .func (.func 189) #[] #[.pointer (some ⟨w.heap.size, 0, none⟩)], .func (.func 191) #[] #[.pointer (some ⟨w.heap.size, 0, none⟩)], .func (.func 193) #[] #[.pointer (some ⟨w.heap.size, 0, none⟩)]])) (results_box Tryz.results128 _ _ (w.heap.size + 1) rfl b2 Tryz.underlying137 rfl HI.out) rfl ⟨w.heap.size, rfl, b1, Nat.le_refl _, hB⟩
theorem missingIn_any (q : Nat) (w : World) : Calls Tryz.prog 129 #[.pointer (some ⟨q, 0, none⟩)] w fun e w' => ∃ b1, e = .returned (.agg #[.func (.func 195) #[] #[.pointer (some ⟨b1, 0, none⟩)], .func (.func 196) #[] #[.pointer (some ⟨b1, 0, none⟩)], .func (.func 198) #[] #[.pointer (some ⟨b1, 0, none⟩)], .func (.func 199) #[] #[.pointer (some ⟨b1, 0, none⟩)]]) ∧ Box w' b1 #[.pointer (some ⟨q, 0, none⟩)] 133 ∧ w.heap.size ≤ b1 ∧ Below w.heap.size w w' := by
 have hmf := make_fn
 have HI := hide infoFld
 have b1 := (box_new w #[.pointer (some ⟨q, 0, none⟩)] 133).belowI (alloc_below10 _ (.cells (#[.func (.func 195) #[] #[.pointer (some ⟨w.heap.size, 0, none⟩)], .func (.func 196) #[] #[.pointer (some ⟨w.heap.size, 0, none⟩)], .func (.func 198) #[] #[.pointer (some ⟨w.heap.size, 0, none⟩)], .func (.func 199) #[] #[.pointer (some ⟨w.heap.size, 0, none⟩)]]) 137))
 have b2 := box_new (w.alloc (.cells #[.pointer (some ⟨q, 0, none⟩)] 133)) (#[.func (.func 195) #[] #[.pointer (some ⟨w.heap.size, 0, none⟩)], .func (.func 196) #[] #[.pointer (some ⟨w.heap.size, 0, none⟩)], .func (.func 198) #[] #[.pointer (some ⟨w.heap.size, 0, none⟩)], .func (.func 199) #[] #[.pointer (some ⟨w.heap.size, 0, none⟩)]]) 137
 rw [World.size_alloc] at b2
 have hB := ((Below.refl w.heap.size w).alloc (Nat.le_refl _) (.cells #[.pointer (some ⟨q, 0, none⟩)] 133)).alloc (by simp) (.cells (#[.func (.func 195) #[] #[.pointer (some ⟨w.heap.size, 0, none⟩)], .func (.func 196) #[] #[.pointer (some ⟨w.heap.size, 0, none⟩)], .func (.func 198) #[] #[.pointer (some ⟨w.heap.size, 0, none⟩)], .func (.func 199) #[] #[.pointer (some ⟨w.heap.size, 0, none⟩)]]) 137)
 go_enter Tryz.func129, Tryz.ntmps129
 go_wp2_with fail
 exact bodyPost_ret (v := .agg (#[.func (.func 195) #[] #[.pointer (some ⟨w.heap.size, 0, none⟩)], .func (.func 196) #[] #[.pointer (some ⟨w.heap.size, 0, none⟩)], .func (.func 198) #[] #[.pointer (some ⟨w.heap.size, 0, none⟩)], .func (.func 199) #[] #[.pointer (some ⟨w.heap.size, 0, none⟩)]])) (results_box Tryz.results129 _ _ (w.heap.size + 1) rfl b2 Tryz.underlying137 rfl HI.out) rfl ⟨w.heap.size, rfl, b1, Nat.le_refl _, hB⟩
end
section
open Go.RowKit Classical
def GotW (w0 W : World) (r : RS) (v : Value) (ws : List WrP) : Prop := RSrc wrE W v ws ∧ (∀ g, v.ownBlock = some g → w0.heap.size ≤ g) ∧ ((wsC.dec r).2.why = 0 → ws = (wsC.dec r).1) ∧ (∀ x ∈ ws, KeyOk x.key ∧ ItOk x.it) ∧ ws.length ≤ 16
def IW4 (w : World) (pr q : Nat) (r : RS) (i : Nat) (v : Value) (W : World) : Prop := match i with
 | 0 => v = .pointer (some ⟨q, 0, none⟩)
 | 1 => v = .pointer (some ⟨pr, 0, none⟩)
 | 2 => ∃ ws, GotW w W r v ws
 | 3 => v = .pointer (some ⟨q, 0, none⟩)
 | 4 => v = .pointer (some ⟨q, 8, none⟩)
 | _ => True
def RW4 (q : Nat) (i : Nat) (W W' : World) : Prop := match i with
 | 5 => KeepBut (fun k => k = q) W W'
 | 2 => True
 | _ => W' = W
def FinW (w : World) (pr q : Nat) (vb : Value) (all : List Int) (m : RecP) (u : Value) (r : RS) (W : World) : Prop := ∃ p' ws, Box W q (recA { m with wr := ws } p' u) 87 ∧ GotW w W r p' ws ∧ CR W pr vb all (wsC.dec r).2 ∧ KeepBut (fun k => k = pr ∨ k = q) w W
def SW4 (w : World) (pr q : Nat) (vb : Value) (all : List Int) (m : RecP) (u : Value) (r : RS) (listed : Array Bool) (W : World) : Prop :=
 (listed.getD 5 true = false → (listed.getD 2 true = false → W = w.drew) ∧ (listed.getD 2 true = true → CR W pr vb all (wsC.dec r).2 ∧ KeepBut (fun k => k = pr) w W)) ∧ (listed.getD 5 true = true → FinW w pr q vb all m u r W)
theorem SW4.next {w W : World} {pr q : Nat} {vb : Value} {all : List Int} {m : RecP} {u : Value} {r : RS} {listed : Array Bool} {i : Nat} (h : SW4 w pr q vb all m u r listed W) (hi : i ≠ 5) (hi2 : i ≠ 2) : SW4 w pr q vb all m u r (listed.setIfInBounds i true) W := by
 unfold SW4 at *
 rw [listed_ne hi, listed_ne hi2]
 exact h
theorem en10_gw : ∀ args w, (callFunc 194 args).run Tryz.prog w = .ok (.enter 194 args) w := enters_of Tryz.func194 (by kernel_rfl) rfl
theorem infoWs : (Tryz.prog.info? 78).map (·.size) = some 1 := by kernel_rfl
set_option maxRecDepth 100000 in
theorem ww4_any (pr b1 q : Nat) (vb : Value) (all : List Int) (r : RS) (m : RecP) (p u : Value) (w : World) (h1 : Box w b1 #[.pointer (some ⟨q, 0, none⟩)] 133) (h2 : Box w q (recA m p u) 87) (hcr : CR w pr vb all r) (hb1 : b1 ≠ pr) (hq : q ≠ pr) (hvq : vb.ownBlock ≠ some q) :
  Calls Tryz.prog 193 #[.pointer (some ⟨pr, 0, none⟩), .pointer (some ⟨b1, 0, none⟩)] w fun e w' => e = .returned (.tuple #[]) ∧ FinW w pr q vb all m u r w' := by
 have hBD : Hid (Below w.heap.size w w.drew) := hide (Below.refl _ _).drew
 have H1 := hide h1
 have H2 := hide h2
 have HC := hide hcr
 have HN1 := hide hb1
 have HNQ := hide hq
 have HVQ := hide hvq
 clear h1 h2 hcr hb1 hq hvq
 go_enter Tryz.func193, Tryz.ntmps193
 go_wp2_with fail
 refine wp_region_each3 (by kernel_rfl) (IW4 w pr q r) (SW4 w pr q vb all m u r) (RW4 q) (by kernel_rfl) ?_ ⟨fun _ => ⟨fun _ => rfl, fun h => by cases h⟩, fun h => by cases h⟩ ?_ ?_
 ·intro i j v W W' hij hv hR
  by_cases h5 : i = 5
  ·subst h5
   have hk : KeepBut (fun k => k = q) W W' := hR
   by_cases h2 : j = 2
   ·subst h2
    obtain ⟨ws, g1, g2, g3, g4⟩ := hv
    exact ⟨ws, g1.keep hk (fun g hg e => by have := g2 g hg; have := H2.out.lt; omega), g2, g3, g4⟩
   ·revert hv
    unfold IW4
    split <;> first | exact fun h => h | exact absurd rfl h2
  ·by_cases h2 : i = 2
   ·subst h2
    revert hv
    unfold IW4
    split <;> first | exact fun h => h | exact absurd rfl hij
   ·have e : W' = W := by
     revert hR
     unfold RW4
     split <;> first | exact fun h => h | exact absurd rfl h5 | exact absurd rfl h2
    rw [e]
    exact hv
 ·intro i o hi listed A W hsz hN hS hold hdeps
  have hlt : i < 6 := (Array.getElem?_eq_some_iff.1 hi).1
  have hc : i = 0 ∨ i = 1 ∨ i = 2 ∨ i = 3 ∨ i = 4 ∨ i = 5 := by omega
  clear hlt
  rcases hc with rfl | rfl | rfl | rfl | rfl | rfl
  ·obtain rfl := Option.some.inj hi
   have h5 := unlisted_of hN.un hN.cl 5 5 (by kernel_rfl)
   have s1 : A.tmps.getD 1 undef = .pointer (some ⟨b1, 0, none⟩) := hold 1 (by kernel_rfl)
   have hcell : W.cell? ⟨b1, 0, none⟩ = some (.pointer (some ⟨q, 0, none⟩)) := by
    cases h3 : listed.getD 2 true with
    | false => rw [(hS.1 h5).1 h3]; exact (H1.out.belowI hBD.out).cell 0 _ rfl
    | true => exact (H1.out.keep ((hS.1 h5).2 h3).2 HN1.out).cell 0 _ rfl
   exact t_value (I := IW4 w pr q r) (R := RW4 q 0 W) hi rfl rfl (y_cell_recp _ s1 hcell) (hS.next (by decide) (by decide)) rfl rfl
  ·obtain rfl := Option.some.inj hi
   have s0 : A.tmps.getD 0 undef = .pointer (some ⟨pr, 0, none⟩) := hold 0 (by kernel_rfl)
   exact t_value (I := IW4 w pr q r) (R := RW4 q 1 W) hi rfl rfl (y_move _ s0) (hS.next (by decide) (by decide)) rfl rfl
  ·obtain rfl := Option.some.inj hi
   have h5 := unlisted_of hN.un hN.cl 5 5 (by kernel_rfl)
   have hd := (hS.1 h5).1 hN.un
   subst hd
   have s4 : A.tmps.getD 4 undef = .pointer (some ⟨pr, 0, none⟩) := dep3_of hdeps 1 (by kernel_rfl)
   refine t_enter (I := IW4 w pr q r) (R := RW4 q 2 w.drew) hi rfl rfl (y_call 194 _ #[.pointer (some ⟨pr, 0, none⟩)] _ rfl (by simp only [List.map_toArray, List.map_cons, List.map_nil, show A.eval (.tmp 4) = .pointer (some ⟨pr, 0, none⟩) from s4]) en10_gw) ((getWrites_any pr vb all r w.drew (HC.out.below hBD.out)).mono ?_)
   rintro e w' ⟨v, ws, rfl, g1, g2, g3, g4, g5, g6, g7⟩
   exact ⟨v, rfl, ⟨fun _ => ⟨fun h3 => (by rw [listed_at] at h3; cases h3), fun _ => ⟨g5, (KeepBut.of_below _ hBD.out).trans g6 (fun _ _ h => h)⟩⟩, fun h6 => (by rw [listed_ne (by decide), h5] at h6; cases h6)⟩, trivial, ws, g1, g2, g3, g4, g7⟩
  ·obtain rfl := Option.some.inj hi
   have s3 : A.tmps.getD 3 undef = .pointer (some ⟨q, 0, none⟩) := dep3_of hdeps 0 (by kernel_rfl)
   exact t_value (I := IW4 w pr q r) (R := RW4 q 3 W) hi rfl rfl (y_nilc _ s3) (hS.next (by decide) (by decide)) rfl rfl
  ·obtain rfl := Option.some.inj hi
   have s6 : A.tmps.getD 6 undef = .pointer (some ⟨q, 0, none⟩) := dep3_of hdeps 3 (by kernel_rfl)
   exact t_value (I := IW4 w pr q r) (R := RW4 q 4 W) hi rfl rfl (y_fldT5 _ s6) (hS.next (by decide) (by decide)) rfl rfl
  ·obtain rfl := Option.some.inj hi
   have h3 := (hS.1 hN.un).2 (listed_dep hN 2 (by kernel_rfl))
   have hg : ∃ ws, GotW w W r (A.tmps.getD 5 undef) ws := dep3_of hdeps 2 (by kernel_rfl)
   obtain ⟨ws, g1, g2, g3, g4⟩ := hg
   have s7 : A.tmps.getD 7 undef = .pointer (some ⟨q, 8, none⟩) := dep3_of hdeps 4 (by kernel_rfl)
   obtain ⟨v, hv⟩ : ∃ v, A.tmps.getD 5 undef = v := ⟨_, rfl⟩
   rw [hv] at g1 g2
   obtain ⟨ao, c, rfl, _, _⟩ := g1.shape
   have hbx := H2.out.keep h3.2 HNQ.out
   have hb := setRow_box (cs' := recA { m with wr := ws } (.slice ao ws.length c) u) hbx
   have hlt := H2.out.lt
   refine t_store (I := IW4 w pr q r) (R := RW4 q 5 W) hi rfl (y_storeMid (cs' := recA { m with wr := ws } (.slice ao ws.length c) u) _ _ _ s7 hv hbx rfl rfl infoWs rfl) ⟨fun h6 => (by rw [listed_at] at h6; cases h6), fun _ => ⟨.slice ao ws.length c, ws, hb.1, ⟨g1.keep hb.2 (fun g hg e => by have := g2 g hg; omega), g2, g3, g4⟩, h3.1.keep hb.2 (fun e => HNQ.out e.symm) (fun g hg e => HVQ.out (by rw [hg, e])), ?_⟩⟩ hb.2 trivial
   exact (h3.2.mono (fun k e => .inl e)).trans (hb.2.mono (S' := fun k => k = pr ∨ k = q) (fun k e => .inr e)) (fun _ _ e => e)
 ·intro listed a w8 hall hS8 hsz hdf hold hnew
  have HR := hide (hS8.2 (hall 5 (by decide)))
  obtain ⟨tm, df⟩ := a
  have hdf : df = [] := hdf
  subst hdf
  clear hS8 hall hnew hold hsz H1 H2 HC
  go_wp2_with fail
  go_end0
  exact ⟨rfl, HR.out⟩
end
end Go.Proofs.YtlegliimgjmphaaGreat
