/-
  Own texts put together: RpSmall, RpCnt, RpEqS. Own work.
-/
import Derived.Test.YtencmgepffdodaaGreatG27
import Derived.Test.YtencmgepffdodaaGreatG28
import Derived.Test.YtencmgepffdodaaGreatG06
import Derived.Test.YtencmgepffdodaaGreatG29
import Derived.Test.YtencmgepffdodaaGreatG31
namespace Go.Proofs.YtencmgepffdodaaGreat
section
open Go.RowKit Classical

theorem bootMay_any (n : Nat) (w : World) : Calls Tryz.prog 60 #[.int .u32 (n : Int)] w fun e w' => e = .returned (.bool (decide (1 ≤ n) && decide (n ≤ mxN))) ∧ Below w.heap.size w w' := by
  by_cases h1 : 1 ≤ n
  · have d1 : decide ((n : Int) ≥ 1) = true := decide_eq_true (by omega)
    have hd : decide ((n : Int) ≤ 2147483647) = (decide (1 ≤ n) && decide (n ≤ mxN)) := by
      rw [decide_eq_true h1, Bool.true_and, Bool.eq_iff_iff, decide_eq_true_eq, decide_eq_true_eq]
      show (n : Int) ≤ 2147483647 ↔ n ≤ 2147483647
      omega
    have HD := hide hd
    have h1i : (1 : Int) ≤ (n : Int) := by omega
    generalize (decide (1 ≤ n) && decide (n ≤ mxN)) = R at *
    clear hd h1
    go_enter Tryz.func60, Tryz.ntmps60
    go_wp2
    go_ret
    exact ⟨by rw [← HD.out]; rfl, Below.refl _ _⟩
  · have h1i : ¬ (1 : Int) ≤ (n : Int) := by omega
    have d1 : decide ((n : Int) ≥ 1) = false := decide_eq_false h1i
    have HD : Hid ((decide (1 ≤ n) && decide (n ≤ mxN)) = false) := hide (by rw [decide_eq_false h1, Bool.false_and])
    generalize (decide (1 ≤ n) && decide (n ≤ mxN)) = R at *
    clear h1
    go_enter Tryz.func60, Tryz.ntmps60
    go_wp2
    go_ret
    exact ⟨by rw [HD.out]; rfl, Below.refl _ _⟩
theorem setMay_any (n : Nat) (w : World) : Calls Tryz.prog 72 #[.int .u64 (n : Int)] w fun e w' => e = .returned (.bool (decide (n ≤ 255))) ∧ w' = w := by
  have hd : decide ((n : Int) ≤ 255) = decide (n ≤ 255) := by
    rw [Bool.eq_iff_iff, decide_eq_true_eq, decide_eq_true_eq]
    omega
  go_enter Tryz.func72, Tryz.ntmps72
  go_wp2
  go_ret
  exact ⟨rfl, rfl⟩
def kindB (k : Nat) : Bool := decide (1 ≤ k) && decide (k ≤ 7)
theorem kindB_fields (k : Nat) : kindB k = !(fieldsR k).isEmpty := by
  by_cases h : fieldsR k = []
  · rw [h]
    unfold fieldsR at h
    unfold kindB
    have : ¬ (k = 1) ∧ ¬ (k = 2) ∧ ¬ (k = 3) ∧ ¬ (k = 4) ∧ ¬ (k = 5) ∧ ¬ (k = 6) ∧ ¬ (k = 7) := by
      refine ⟨?_, ?_, ?_, ?_, ?_, ?_, ?_⟩ <;> (rintro rfl; revert h; decide)
    have h2 : ¬ (1 ≤ k ∧ k ≤ 7) := by omega
    rw [Bool.eq_iff_iff]
    simp only [Bool.and_eq_true, decide_eq_true_eq]
    exact ⟨fun h => absurd h h2, fun h => by cases h⟩
  · rcases fieldsR_kind h with rfl | rfl | rfl | rfl | rfl | rfl | rfl <;> rfl
theorem kindMay_any (n : Nat) (w : World) : Calls Tryz.prog 21 #[.int .u8 (n : Int)] w fun e w' => e = .returned (.bool (kindB n)) ∧ w' = w := by
  unfold kindB
  by_cases h1 : 1 ≤ n
  · have d1 : decide ((n : Int) ≥ 1) = true := decide_eq_true (by omega)
    have hd : decide ((n : Int) ≤ 7) = (decide (1 ≤ n) && decide (n ≤ 7)) := by
      rw [decide_eq_true h1, Bool.true_and, Bool.eq_iff_iff, decide_eq_true_eq, decide_eq_true_eq]
      omega
    have HD := hide hd
    have h1i : (1 : Int) ≤ (n : Int) := by omega
    generalize (decide (1 ≤ n) && decide (n ≤ 7)) = R at *
    clear hd h1
    go_enter Tryz.func21, Tryz.ntmps21
    go_wp2
    go_ret
    exact ⟨by rw [← HD.out]; rfl, rfl⟩
  · have h1i : ¬ (1 : Int) ≤ (n : Int) := by omega
    have d1 : decide ((n : Int) ≥ 1) = false := decide_eq_false h1i
    have HD : Hid ((decide (1 ≤ n) && decide (n ≤ 7)) = false) := hide (by rw [decide_eq_false h1, Bool.false_and])
    generalize (decide (1 ≤ n) && decide (n ≤ 7)) = R at *
    clear h1
    go_enter Tryz.func21, Tryz.ntmps21
    go_wp2
    go_ret
    exact ⟨by rw [HD.out]; rfl, rfl⟩
set_option maxRecDepth 100000 in
theorem pkeyMay_any (k : List Int) (hk : KeyOk k) (w : World) : Calls Tryz.prog 78 #[.agg (eightA k)] w fun e w' => e = .returned (.bool (nameF k).2) ∧ Below w.heap.size w w' := by
  have hA := alloc_below10 w (.cells (eightA k) 31)
  have hX := box_new w (eightA k) 31
  obtain ⟨w1, hw1⟩ : ∃ w1, w1 = w.alloc (.cells (eightA k) 31) := ⟨_, rfl⟩
  rw [← hw1] at hA hX
  have C := name_any k hk.l hk.b w1
  have hc8 : cells8 k = eightA k := by unfold cells8; rw [← eightE_map hk.l]
  rw [hc8] at C
  have HC := hide C
  have HA := hide hA
  have hW := hw1.symm
  have HX := hide hX
  generalize (nameF k).1 = nm at *
  generalize (nameF k).2 = r at *
  clear hA hX hw1 C hc8
  go_enter Tryz.func78, Tryz.ntmps78
  go_wp2_with (first | (refine wp_load_box rfl _ rfl _ rfl HX.out Tryz.underlying31 rfl infoKey10 ?_) | (go_at_call 143; refine HC.out.mono ?_; rintro e w2 ⟨rfl, hB2⟩; have HB2 := hide hB2; clear hB2))
  go_ret
  exact ⟨rfl, HA.out.trans (HB2.out.mono HA.out.size)⟩
theorem rputCount_any (p : Nat) (v : Value) (xs : List Int) (n : Nat) (w : World) (h : CW w p v xs) (hr : roomFor xs.length) (hn : n < 4294967296) :
    Calls Tryz.prog 61 #[.pointer (some ⟨p, 0, none⟩), .int .u32 (n : Int)] w fun e w' => e = .returned (.tuple #[]) ∧ ∃ v', CWrote w w' p v v' (xs ++ shortS n) := by
  have C := hide (cwnum_any p v xs n w h hr (by omega))
  have hcv := wrap64_u32 n hn
  clear h hr
  go_enter Tryz.func61, Tryz.ntmps61
  go_wp2_with (go_at_call 73; refine C.out.mono ?_; rintro e w1 ⟨rfl, v1, h1⟩; have H1 := hide h1; clear h1)
  go_end0
  exact ⟨rfl, v1, H1.out⟩
theorem rgetCount_any (p : Nat) (vb : Value) (all : List Int) (r : RS) (w : World) (h : CR w p vb all r) :
    Calls Tryz.prog 62 #[.pointer (some ⟨p, 0, none⟩)] w fun e w' => e = .returned (.int .u32 (((numC mxN).dec r).1 : Int)) ∧ CR w' p vb all ((numC mxN).dec r).2 ∧ KeepBut (fun k => k = p) w w' := by
  have C := hide (crnum_any p vb all r w h mxC)
  obtain ⟨n, h1, h2⟩ := num_rng mxC r h.byte'
  have hcv : IntKind.u32.wrap (numS mxC r).1 = (numS mxC r).1 := by rw [h1, IntKind.wrap_u32]; simp only [mxC] at h2; omega
  have HE : Hid (((((numC mxN).dec r).1 : Nat) : Int) = (numS mxC r).1) := hide (by show ((numS mxC r).1.toNat : Int) = _; rw [h1]; rfl)
  have HF : Hid (((numC mxN).dec r).2 = (numS mxC r).2) := hide rfl
  rw [HE.out, HF.out]
  generalize (numS mxC r).1 = x at *
  generalize (numS mxC r).2 = r2 at *
  clear h h1 h2 HE HF
  go_enter Tryz.func62, Tryz.ntmps62
  go_wp2_with (go_at_call 108; refine C.out.mono ?_; rintro e w1 ⟨rfl, h1, hk⟩; have H1 := hide h1; have HK := hide hk; clear h1 hk)
  go_ret
  exact ⟨rfl, H1.out, HK.out⟩
theorem getSet_any (p : Nat) (vb : Value) (all : List Int) (r : RS) (w : World) (h : CR w p vb all r) :
    Calls Tryz.prog 74 #[.pointer (some ⟨p, 0, none⟩)] w fun e w' => e = .returned (.int .u64 (((numC 255).dec r).1 : Int)) ∧ CR w' p vb all ((numC 255).dec r).2 ∧ KeepBut (fun k => k = p) w w' := by
  have C := hide (crnum_any p vb all r w h 255)
  obtain ⟨n, h1, h2⟩ := num_rng 255 r h.byte'
  have HE : Hid (((((numC 255).dec r).1 : Nat) : Int) = (numS 255 r).1) := hide (by show ((numS 255 r).1.toNat : Int) = _; rw [h1]; rfl)
  have HF : Hid (((numC 255).dec r).2 = (numS 255 r).2) := hide rfl
  rw [HE.out, HF.out]
  generalize (numS 255 r).1 = x at *
  generalize (numS 255 r).2 = r2 at *
  clear h h1 h2 HE HF
  go_enter Tryz.func74, Tryz.ntmps74
  go_wp2_with (go_at_call 108; refine C.out.mono ?_; rintro e w1 ⟨rfl, h1, hk⟩; have H1 := hide h1; have HK := hide hk; clear h1 hk)
  go_ret
  exact ⟨rfl, H1.out, HK.out⟩
theorem mayNot_any (n : Nat) (w : World) : Calls Tryz.prog 167 #[.int .u64 (n : Int)] w fun e w' => e = .returned (.bool (!decide (n ≤ 255))) ∧ w' = w := by
  have C := hide (setMay_any n w)
  generalize decide (n ≤ 255) = b at *
  go_enter Tryz.func167, Tryz.ntmps167
  go_wp2_with (go_at_call 72; refine C.out.mono ?_; rintro e w1 ⟨rfl, rfl⟩)
  go_ret
  exact ⟨rfl, rfl⟩
theorem en_mayNot : ∀ args w, (callFunc 167 args).run Tryz.prog w = .ok (.enter 167 args) w := enters_of Tryz.func167 (by kernel_rfl) rfl
theorem misI_get {l : List Nat} {k : Nat} (hk : k < l.length) : (misI l).getD k 0 = ((l[k] : Nat) : Int) := by simp [misI, List.getD, hk]
set_option maxRecDepth 100000 in
theorem indexFunc_any (v : Value) (xs : List Nat) (w : World) (h : Lies .u64 w v (misI xs)) :
    Calls Tryz.prog 176 #[v, .func (.func 167) #[] #[]] w fun e w' => ∃ z : Int, e = .returned (.int .i64 z) ∧ decide (0 ≤ z) = !xs.all (fun x => decide (x ≤ 255)) ∧ Below w.heap.size w w' := by
  have hml := h.len
  rw [misI_len] at hml
  unfold maxLen at hml
  obtain ⟨ao, cap, rfl⟩ := h.shape
  rw [misI_len] at h ⊢
  obtain ⟨L, hL⟩ : ∃ L, L = xs.length := ⟨_, rfl⟩
  have H := hide h
  rw [← hL] at hml ⊢
  rw [← hL] at H
  have HL := hide hL
  have he := en_mayNot
  clear h hL
  go_enter Tryz.func176, Tryz.ntmps176
  go_wp2_with fail
  go_loopg [8] L (fun g i wr => ∃ k : Nat, k + g = L ∧ i = .int .i64 k ∧ Hid (Below w.heap.size w wr) ∧ Hid (∀ j (hj : j < xs.length), j < k → xs[j] ≤ 255))
  case atStart => exact ⟨0, by omega, rfl, hide (Below.refl _ _), hide (fun j _ h => absurd h (Nat.not_lt_zero _))⟩
  case round =>
    obtain ⟨k, hk, rfl, HBW, HT⟩ := hrel
    cases gk with
    | zero =>
      obtain rfl : k = L := by omega
      have hz : ¬ ((k : Int) < (k : Int)) := by omega
      go_wp2_with fail
      go_ret
      refine ⟨-1, rfl, ?_, HBW.out⟩
      rw [show decide ((0 : Int) ≤ -1) = false from rfl]
      symm
      rw [Bool.not_eq_false', List.all_eq_true]
      intro x hx
      obtain ⟨j, hj, rfl⟩ := List.getElem_of_mem hx
      exact decide_eq_true (HT.out j hj (by rw [HL.out]; exact hj))
    | succ g =>
      have hz : (k : Int) < (L : Int) := by omega
      have hz0 : (0 : Int) ≤ (k : Int) := by omega
      have hkl : k < xs.length := by rw [← HL.out]; omega
      have H1 := H.out.below HBW.out
      rcases H1 with ⟨he0, _⟩ | ⟨_, b, off, c2, e2, _, _, _, hc⟩
      · exfalso
        have := congrArg List.length he0
        rw [misI_len] at this
        have : xs.length = 0 := this
        omega
      · cases e2
        have hcell := hc k (by rw [misI_len]; exact hkl)
        rw [misI_get hkl] at hcell
        have C := hide (mayNot_any xs[k] wr)
        have HX : Hid (xs[k] = xs[k]) := hide rfl
        obtain ⟨x, hx⟩ : ∃ x, x = xs[k] := ⟨_, rfl⟩
        have HXX := hide hx
        rw [← hx] at hcell C
        clear hc hx HX
        by_cases h255 : x ≤ 255
        · rw [decide_eq_true h255] at C
          have HT2 : Hid (∀ j (hj : j < xs.length), j < k + 1 → xs[j] ≤ 255) := hide (fun j hj hjk => by
            rcases Nat.lt_or_ge j k with h | h
            · exact HT.out j hj h
            · obtain rfl : j = k := by omega
              rw [← HXX.out]
              exact h255)
          clear h255
          go_wp2_with fail
          refine C.out.mono ?_
          rintro e w1 ⟨rfl, rfl⟩
          go_wp2_with fail
          go_roundg g
          case measure => omega
          case rel => exact ⟨k + 1, by omega, by first | rfl | go_num, HBW, HT2⟩
        · rw [decide_eq_false h255] at C
          have HN := hide h255
          clear h255
          go_wp2_with fail
          refine C.out.mono ?_
          rintro e w1 ⟨rfl, rfl⟩
          go_wp2_with fail
          go_ret
          refine ⟨(k : Int), rfl, ?_, HBW.out⟩
          rw [decide_eq_true (by omega)]
          symm
          rw [Bool.not_eq_true', ← Bool.not_eq_true, List.all_eq_true]
          intro hall
          have := hall x (by rw [HXX.out]; exact List.getElem_mem hkl)
          exact HN.out (by simpa using this)
theorem containsFunc_any (v : Value) (xs : List Nat) (w : World) (h : Lies .u64 w v (misI xs)) :
    Calls Tryz.prog 168 #[v, .func (.func 167) #[] #[]] w fun e w' => e = .returned (.bool (!xs.all (fun x => decide (x ≤ 255)))) ∧ Below w.heap.size w w' := by
  have C := hide (indexFunc_any v xs w h)
  generalize (!xs.all (fun x => decide (x ≤ 255))) = R at *
  clear h
  go_enter Tryz.func168, Tryz.ntmps168
  go_wp2_with (go_at_call 176; refine C.out.mono ?_; rintro e w1 ⟨z, rfl, hz, hB⟩; have HZ := hide hz; have HB := hide hB; clear hz hB)
  go_ret
  exact ⟨by rw [← HZ.out]; rfl, HB.out⟩
theorem setsMay_any (v : Value) (xs : List Nat) (w : World) (h : Lies .u64 w v (misI xs)) :
    Calls Tryz.prog 136 #[v] w fun e w' => e = .returned (.bool (xs.all (fun x => decide (x ≤ 255)))) ∧ Below w.heap.size w w' := by
  have C := hide (containsFunc_any v xs w h)
  generalize (xs.all (fun x => decide (x ≤ 255))) = R at *
  clear h
  go_enter Tryz.func136, Tryz.ntmps136
  go_wp2_with (go_at_call 168; refine C.out.mono ?_; rintro e w1 ⟨rfl, hB⟩; have HB := hide hB; clear hB)
  go_ret
  exact ⟨by cases R <;> rfl, HB.out⟩
end
section
open Go.RowKit Classical

def setN (l : List Nat) : Nat := l.foldl withN 0
theorem setN_lt8 : ∀ (l : List Nat) (s : Nat), s < 18446744073709551616 → (∀ x ∈ l, x < 8) → l.foldl withN s < 18446744073709551616
  | [], s, h, _ => h
  | x :: l, s, h, hl => setN_lt8 l (withN s x) (with_lt s x h (by have := hl x List.mem_cons_self; omega)) (fun y hy => hl y (List.mem_cons_of_mem _ hy))
theorem setN_lt {l : List Nat} (h : ∀ x ∈ l, x < 8) : setN l < 18446744073709551616 := setN_lt8 l 0 (by decide) h
theorem setN_take {l : List Nat} {k : Nat} (hk : k < l.length) : setN (l.take (k + 1)) = withN (setN (l.take k)) l[k] := by
  rw [List.take_succ_eq_append_getElem hk]
  unfold setN
  rw [List.foldl_append]
  rfl
theorem cnt_bit (kind : Nat) {n : Nat} (hn : n < 8) : (setN (fieldsR kind)).testBit n = (fieldsR kind).contains n := by
  by_cases h : fieldsR kind = []
  · rw [h]
    show (0 : Nat).testBit n = false
    exact Nat.zero_testBit n
  · rcases fieldsR_kind h with rfl | rfl | rfl | rfl | rfl | rfl | rfl <;> (refine byEight (P := fun n => _ = _) hn ?_ ?_ ?_ ?_ ?_ ?_ ?_ ?_ <;> decide)
set_option maxRecDepth 100000 in
theorem setOf_any (v : Value) (xs : List Nat) (w : World) (h : Lies .i64 w v (misI xs)) (hx : ∀ x ∈ xs, x < 8) (hl : xs.length ≤ 100) :
    Calls Tryz.prog 102 #[v] w fun e w' => e = .returned (.int .u64 (setN xs : Int)) ∧ w' = w := by
  obtain ⟨ao, cap, rfl⟩ := h.shape
  rw [misI_len] at h ⊢
  obtain ⟨L, hL⟩ : ∃ L, L = xs.length := ⟨_, rfl⟩
  have H := hide h
  rw [← hL] at hl ⊢
  rw [← hL] at H
  have HL := hide hL
  have HX := hide hx
  clear h hL hx
  go_enter Tryz.func102, Tryz.ntmps102
  go_wp2_with fail
  go_loopg [3, 8] L (fun g s i wr => ∃ k z : Nat, k + g = L ∧ s = .int .u64 (z : Int) ∧ i = .int .i64 k ∧ Hid (z = setN (xs.take k)) ∧ wr = w)
  case atStart => exact ⟨0, 0, by omega, rfl, rfl, hide rfl, rfl⟩
  case round =>
    obtain ⟨k, z, hk, rfl, rfl, HZ, rfl⟩ := hrel
    cases gk with
    | zero =>
      obtain rfl : k = L := by omega
      have hz : ¬ ((k : Int) < (k : Int)) := by omega
      have HE : Hid (z = setN xs) := hide (by rw [HZ.out, HL.out, List.take_length])
      go_wp2_with fail
      go_ret
      exact ⟨by rw [HE.out]; rfl, rfl⟩
    | succ g =>
      have hz : (k : Int) < (L : Int) := by omega
      have hz0 : (0 : Int) ≤ (k : Int) := by omega
      have hkl : k < xs.length := by rw [← HL.out]; omega
      have H1 := H.out
      rcases H1 with ⟨he0, _⟩ | ⟨_, b, off, c2, e2, _, _, _, hc⟩
      · exfalso
        have := congrArg List.length he0
        rw [misI_len] at this
        have : xs.length = 0 := this
        omega
      · cases e2
        have hcell := hc k (by rw [misI_len]; exact hkl)
        rw [misI_get hkl] at hcell
        have hx8 := HX.out _ (List.getElem_mem hkl)
        have hzl : z < 18446744073709551616 := by
          rw [HZ.out]
          exact setN_lt (fun x hx => HX.out x (List.mem_of_mem_take hx))
        have C := hide (with_in z xs[k] hzl (by omega) wr)
        have HZ2 : Hid (withN z xs[k] = setN (xs.take (k + 1))) := hide (by rw [setN_take hkl, HZ.out])
        obtain ⟨x, hx⟩ : ∃ x, x = xs[k] := ⟨_, rfl⟩
        rw [← hx] at hcell C HZ2
        generalize withN z x = z2 at *
        clear hc hx hx8 hzl
        go_wp2_with (go_at_call 161; refine C.out.mono ?_; rintro e w1 ⟨rfl, rfl⟩)
        go_roundg g
        case measure => omega
        case rel => exact ⟨k + 1, z2, by omega, rfl, by first | rfl | go_num, HZ2, rfl⟩
set_option maxRecDepth 100000 in
theorem counting1 (w : World) : Calls Tryz.prog 56 #[.int .u8 1] w fun e w' => e = .returned (.int .u64 (setN [0] : Int)) ∧ Below w.heap.size w w' ∧ w'.heap.size ≤ w.heap.size + 1 := by
  have HL := hide (lies_new .i64 w [0] 3 (by simp) (by decide))
  have HA := hide (alloc_below10 w (.cells #[.int .i64 0] 3))
  have C := hide (setOf_any _ [0] _ (show Lies .i64 _ _ (misI [0]) from HL.out) (by decide) (by decide))
  generalize setN [0] = z at *
  go_enter Tryz.func56, Tryz.ntmps56
  go_wp2_with (go_at_call 102; refine C.out.mono ?_; rintro e w1 ⟨rfl, rfl⟩)
  go_ret
  exact ⟨rfl, HA.out, by simp⟩
set_option maxRecDepth 100000 in
theorem counting2 (w : World) : Calls Tryz.prog 56 #[.int .u8 2] w fun e w' => e = .returned (.int .u64 (setN [1, 2, 4] : Int)) ∧ Below w.heap.size w w' ∧ w'.heap.size ≤ w.heap.size + 1 := by
  have HL := hide (lies_new .i64 w [1, 2, 4] 3 (by simp) (by decide))
  have HA := hide (alloc_below10 w (.cells #[.int .i64 1, .int .i64 2, .int .i64 4] 3))
  have C := hide (setOf_any _ [1, 2, 4] _ (show Lies .i64 _ _ (misI [1, 2, 4]) from HL.out) (by decide) (by decide))
  generalize setN [1, 2, 4] = z at *
  go_enter Tryz.func56, Tryz.ntmps56
  go_wp2_with (go_at_call 102; refine C.out.mono ?_; rintro e w1 ⟨rfl, rfl⟩)
  go_ret
  exact ⟨rfl, HA.out, by simp⟩
set_option maxRecDepth 100000 in
theorem counting3 (w : World) : Calls Tryz.prog 56 #[.int .u8 3] w fun e w' => e = .returned (.int .u64 (setN [1] : Int)) ∧ Below w.heap.size w w' ∧ w'.heap.size ≤ w.heap.size + 1 := by
  have HL := hide (lies_new .i64 w [1] 3 (by simp) (by decide))
  have HA := hide (alloc_below10 w (.cells #[.int .i64 1] 3))
  have C := hide (setOf_any _ [1] _ (show Lies .i64 _ _ (misI [1]) from HL.out) (by decide) (by decide))
  generalize setN [1] = z at *
  go_enter Tryz.func56, Tryz.ntmps56
  go_wp2_with (go_at_call 102; refine C.out.mono ?_; rintro e w1 ⟨rfl, rfl⟩)
  go_ret
  exact ⟨rfl, HA.out, by simp⟩
set_option maxRecDepth 100000 in
theorem counting4 (w : World) : Calls Tryz.prog 56 #[.int .u8 4] w fun e w' => e = .returned (.int .u64 (setN [1] : Int)) ∧ Below w.heap.size w w' ∧ w'.heap.size ≤ w.heap.size + 1 := by
  have HL := hide (lies_new .i64 w [1] 3 (by simp) (by decide))
  have HA := hide (alloc_below10 w (.cells #[.int .i64 1] 3))
  have C := hide (setOf_any _ [1] _ (show Lies .i64 _ _ (misI [1]) from HL.out) (by decide) (by decide))
  generalize setN [1] = z at *
  go_enter Tryz.func56, Tryz.ntmps56
  go_wp2_with (go_at_call 102; refine C.out.mono ?_; rintro e w1 ⟨rfl, rfl⟩)
  go_ret
  exact ⟨rfl, HA.out, by simp⟩
set_option maxRecDepth 100000 in
theorem counting5 (w : World) : Calls Tryz.prog 56 #[.int .u8 5] w fun e w' => e = .returned (.int .u64 (setN [1, 3, 4, 5] : Int)) ∧ Below w.heap.size w w' ∧ w'.heap.size ≤ w.heap.size + 1 := by
  have HL := hide (lies_new .i64 w [1, 3, 4, 5] 3 (by simp) (by decide))
  have HA := hide (alloc_below10 w (.cells #[.int .i64 1, .int .i64 3, .int .i64 4, .int .i64 5] 3))
  have C := hide (setOf_any _ [1, 3, 4, 5] _ (show Lies .i64 _ _ (misI [1, 3, 4, 5]) from HL.out) (by decide) (by decide))
  generalize setN [1, 3, 4, 5] = z at *
  go_enter Tryz.func56, Tryz.ntmps56
  go_wp2_with (go_at_call 102; refine C.out.mono ?_; rintro e w1 ⟨rfl, rfl⟩)
  go_ret
  exact ⟨rfl, HA.out, by simp⟩
set_option maxRecDepth 100000 in
theorem counting6 (w : World) : Calls Tryz.prog 56 #[.int .u8 6] w fun e w' => e = .returned (.int .u64 (setN [1] : Int)) ∧ Below w.heap.size w w' ∧ w'.heap.size ≤ w.heap.size + 1 := by
  have HL := hide (lies_new .i64 w [1] 3 (by simp) (by decide))
  have HA := hide (alloc_below10 w (.cells #[.int .i64 1] 3))
  have C := hide (setOf_any _ [1] _ (show Lies .i64 _ _ (misI [1]) from HL.out) (by decide) (by decide))
  generalize setN [1] = z at *
  go_enter Tryz.func56, Tryz.ntmps56
  go_wp2_with (go_at_call 102; refine C.out.mono ?_; rintro e w1 ⟨rfl, rfl⟩)
  go_ret
  exact ⟨rfl, HA.out, by simp⟩
set_option maxRecDepth 100000 in
theorem counting7 (w : World) : Calls Tryz.prog 56 #[.int .u8 7] w fun e w' => e = .returned (.int .u64 (setN [6, 7] : Int)) ∧ Below w.heap.size w w' ∧ w'.heap.size ≤ w.heap.size + 1 := by
  have HL := hide (lies_new .i64 w [6, 7] 3 (by simp) (by decide))
  have HA := hide (alloc_below10 w (.cells #[.int .i64 6, .int .i64 7] 3))
  have C := hide (setOf_any _ [6, 7] _ (show Lies .i64 _ _ (misI [6, 7]) from HL.out) (by decide) (by decide))
  generalize setN [6, 7] = z at *
  go_enter Tryz.func56, Tryz.ntmps56
  go_wp2_with (go_at_call 102; refine C.out.mono ?_; rintro e w1 ⟨rfl, rfl⟩)
  go_ret
  exact ⟨rfl, HA.out, by simp⟩
theorem counting0 (k : Nat) (h : fieldsR k = []) (w : World) : Calls Tryz.prog 56 #[.int .u8 (k : Int)] w fun e w' => e = .returned (.int .u64 (setN (fieldsR k) : Int)) ∧ Below w.heap.size w w' ∧ w'.heap.size ≤ w.heap.size + 1 := by
  rw [h]
  show Calls Tryz.prog 56 #[.int .u8 (k : Int)] w fun e w' => e = .returned (.int .u64 ((0 : Nat) : Int)) ∧ Below w.heap.size w w' ∧ w'.heap.size ≤ w.heap.size + 1
  have hk : ¬ (k = 1) ∧ ¬ (k = 2) ∧ ¬ (k = 3) ∧ ¬ (k = 4) ∧ ¬ (k = 5) ∧ ¬ (k = 6) ∧ ¬ (k = 7) := by
    refine ⟨?_, ?_, ?_, ?_, ?_, ?_, ?_⟩ <;> (rintro rfl; revert h; decide)
  have e1 : ((k : Int) == 1) = false := by simp; omega
  have e2 : ((k : Int) == 2) = false := by simp; omega
  have e3 : ((k : Int) == 3) = false := by simp; omega
  have e4 : ((k : Int) == 4) = false := by simp; omega
  have e5 : ((k : Int) == 5) = false := by simp; omega
  have e6 : ((k : Int) == 6) = false := by simp; omega
  have e7 : ((k : Int) == 7) = false := by simp; omega
  clear hk h
  go_enter Tryz.func56, Tryz.ntmps56
  go_wp2_with fail
  go_ret
  exact ⟨rfl, Below.refl _ _, Nat.le_succ _⟩
theorem counting_any (k : Nat) (w : World) : Calls Tryz.prog 56 #[.int .u8 (k : Int)] w fun e w' => e = .returned (.int .u64 (setN (fieldsR k) : Int)) ∧ Below w.heap.size w w' ∧ w'.heap.size ≤ w.heap.size + 1 := by
  by_cases h : fieldsR k = []
  · exact counting0 k h w
  · rcases fieldsR_kind h with rfl | rfl | rfl | rfl | rfl | rfl | rfl
    · exact counting1 w
    · exact counting2 w
    · exact counting3 w
    · exact counting4 w
    · exact counting5 w
    · exact counting6 w
    · exact counting7 w
end
section
open Go.RowKit Classical

set_option maxRecDepth 100000 in
theorem equalSets_any (v1 v2 : Value) (la lb : List Int) (w : World) (h1 : Lies .u64 w v1 la) (h2 : Lies .u64 w v2 lb) :
    Calls Tryz.prog 30 #[v1, v2] w fun e w' => e = .returned (.bool (decide (la = lb))) ∧ Below w.heap.size w w' := by
  have hm1 := h1.len
  have hm2 := h2.len
  unfold maxLen at hm1 hm2
  obtain ⟨a1, c1, rfl⟩ := h1.shape
  obtain ⟨a2, c2, rfl⟩ := h2.shape
  have H1 := hide h1
  have H2 := hide h2
  obtain ⟨R, hR⟩ : ∃ R, R = decide (la = lb) := ⟨_, rfl⟩
  rw [← hR]
  have HR := hide hR
  obtain ⟨L1, hL1⟩ : ∃ L1, L1 = la.length := ⟨_, rfl⟩
  obtain ⟨L2, hL2⟩ : ∃ L2, L2 = lb.length := ⟨_, rfl⟩
  rw [← hL1] at hm1
  rw [← hL2] at hm2
  rw [← hL1, ← hL2]
  have HL1 := hide hL1
  have HL2 := hide hL2
  clear h1 h2 hR hL1 hL2
  by_cases hl : L1 = L2
  · subst hl
    have hne : ((L1 : Int) != (L1 : Int)) = false := by simp
    go_enter Tryz.func30, Tryz.ntmps30
    go_wp2_with fail
    go_loopg [13] L1 (fun g i wr => ∃ k : Nat, k + g = L1 ∧ i = .int .i64 k ∧ Hid (Below w.heap.size w wr) ∧ Hid (la.take k = lb.take k))
    case atStart => exact ⟨0, by omega, rfl, hide (Below.refl _ _), hide rfl⟩
    case round =>
      obtain ⟨k, hk, rfl, HBW, HT⟩ := hrel
      cases gk with
      | zero =>
        obtain rfl : k = L1 := by omega
        have hz : ¬ ((k : Int) < (k : Int)) := by omega
        have HE : Hid (R = true) := hide (by
          have := HT.out
          rw [HL1.out, List.take_length, ← HL1.out, HL2.out, List.take_length] at this
          rw [HR.out, decide_eq_true this])
        go_wp2_with fail
        go_ret
        exact ⟨by rw [HE.out]; rfl, HBW.out⟩
      | succ g =>
        have hz : (k : Int) < (L1 : Int) := by omega
        have hk1 : k < la.length := by rw [← HL1.out]; omega
        have hk2 : k < lb.length := by rw [← HL2.out]; omega
        have hkl : k < L1 := by omega
        have hS1 : Lies .u64 wr (.slice a1 L1 c1) la := by have := H1.out.below HBW.out; rw [← HL1.out] at this; exact this
        have hS2 : Lies .u64 wr (.slice a2 L1 c2) lb := by have := H2.out.below HBW.out; rw [← HL2.out] at this; exact this
        obtain ⟨b1, o1, rfl, hb1, hr1⟩ := lies_at hS1 hk1
        obtain ⟨b2, o2, rfl, hb2, hr2⟩ := lies_at hS2 hk2
        have HX1 : Hid (la.getD k 0 = la[k]) := hide (by simp [List.getD, hk1])
        have HX2 : Hid (lb.getD k 0 = lb[k]) := hide (by simp [List.getD, hk2])
        obtain ⟨x, hx⟩ : ∃ x, x = la.getD k 0 := ⟨_, rfl⟩
        obtain ⟨y, hy⟩ : ∃ y, y = lb.getD k 0 := ⟨_, rfl⟩
        rw [← hx] at hr1 HX1
        rw [← hy] at hr2 HX2
        have HR1 := hide hr1
        have HR2 := hide hr2
        clear hS1 hS2 hr1 hr2 hx hy
        by_cases hxy : x = y
        · have HN : Hid (∀ W, (binOp .neq 27 (.int .u64 x) (.int .u64 y)).run Tryz.prog W = .ok (.bool false) W) := hide (fun W => by rw [neq_u64_11, hxy]; simp)
          have HT2 : Hid (la.take (k + 1) = lb.take (k + 1)) := hide (by rw [List.take_succ_eq_append_getElem hk1, List.take_succ_eq_append_getElem hk2, HT.out, ← HX1.out, ← HX2.out, hxy])
          go_wp2_with fail
          refine wp_region_vals (by kernel_rfl) [(16, .slice (some ⟨b1, o1, none⟩) L1 c1), (17, .int .i64 (k : Int)), (18, .pointer (some ⟨b1, o1 + k, none⟩)), (19, .int .u64 x), (20, .slice (some ⟨b2, o2, none⟩) L1 c2), (21, .int .i64 (k : Int)), (22, .pointer (some ⟨b2, o2 + k, none⟩)), (23, .int .u64 y), (24, .bool false)] (by kernel_rfl) rfl ?_ ?_
          · intro i o hi A w1 hB hold hdeps
            have hlt : i < 9 := (Array.getElem?_eq_some_iff.1 hi).1
            have hc : i = 0 ∨ i = 1 ∨ i = 2 ∨ i = 3 ∨ i = 4 ∨ i = 5 ∨ i = 6 ∨ i = 7 ∨ i = 8 := by omega
            clear hlt
            rcases hc with rfl | rfl | rfl | rfl | rfl | rfl | rfl | rfl | rfl
            · obtain rfl := Option.some.inj hi
              have s0 : A.tmps.getD 0 undef = .slice (some ⟨b1, o1, none⟩) L1 c1 := hold 0 (by kernel_rfl)
              exact r_pure hi rfl rfl (y_move _ s0)
            · obtain rfl := Option.some.inj hi
              have s5 : A.tmps.getD 5 undef = .int .i64 (k : Int) := hold 5 (by kernel_rfl)
              exact r_pure hi rfl rfl (y_move _ s5)
            · obtain rfl := Option.some.inj hi
              have s16 : A.tmps.getD 16 undef = .slice (some ⟨b1, o1, none⟩) L1 c1 := dep_of hdeps 0 (by kernel_rfl)
              have s17 : A.tmps.getD 17 undef = .int .i64 (k : Int) := dep_of hdeps 1 (by kernel_rfl)
              exact r_pure hi rfl rfl (y_idxU _ _ s16 s17 hkl)
            · obtain rfl := Option.some.inj hi
              have s18 : A.tmps.getD 18 undef = .pointer (some ⟨b1, o1 + k, none⟩) := dep_of hdeps 2 (by kernel_rfl)
              exact r_pure hi rfl rfl (y_cell_u64 _ s18 ((hB.cell (p := ⟨b1, o1 + k, none⟩) hb1).trans HR1.out))
            · obtain rfl := Option.some.inj hi
              have s1 : A.tmps.getD 1 undef = .slice (some ⟨b2, o2, none⟩) L1 c2 := hold 1 (by kernel_rfl)
              exact r_pure hi rfl rfl (y_move _ s1)
            · obtain rfl := Option.some.inj hi
              have s5 : A.tmps.getD 5 undef = .int .i64 (k : Int) := hold 5 (by kernel_rfl)
              exact r_pure hi rfl rfl (y_move _ s5)
            · obtain rfl := Option.some.inj hi
              have s20 : A.tmps.getD 20 undef = .slice (some ⟨b2, o2, none⟩) L1 c2 := dep_of hdeps 4 (by kernel_rfl)
              have s21 : A.tmps.getD 21 undef = .int .i64 (k : Int) := dep_of hdeps 5 (by kernel_rfl)
              exact r_pure hi rfl rfl (y_idxU _ _ s20 s21 hkl)
            · obtain rfl := Option.some.inj hi
              have s22 : A.tmps.getD 22 undef = .pointer (some ⟨b2, o2 + k, none⟩) := dep_of hdeps 6 (by kernel_rfl)
              exact r_pure hi rfl rfl (y_cell_u64 _ s22 ((hB.cell (p := ⟨b2, o2 + k, none⟩) hb2).trans HR2.out))
            · obtain rfl := Option.some.inj hi
              have s19 : A.tmps.getD 19 undef = .int .u64 x := dep_of hdeps 3 (by kernel_rfl)
              have s23 : A.tmps.getD 23 undef = .int .u64 y := dep_of hdeps 7 (by kernel_rfl)
              exact r_pure hi rfl rfl (y_bin _ _ _ _ _ s19 s23 (HN.out w1) (by kernel_rfl))
          · intro w8 hB8
            simp only [putAll, Act.put, List.setIfInBounds_toArray, List.set_cons_succ, List.set_cons_zero]
            have HB8 := hide hB8
            clear hB8
            go_wp2_with fail
            go_roundg g
            case measure => omega
            case rel => exact ⟨k + 1, by omega, by first | rfl | go_num, hide (HBW.out.trans (HB8.out.mono HBW.out.size)), HT2⟩
        · have HN : Hid (∀ W, (binOp .neq 27 (.int .u64 x) (.int .u64 y)).run Tryz.prog W = .ok (.bool true) W) := hide (fun W => by rw [neq_u64_11]; simp [hxy])
          have HE : Hid (R = false) := hide (by
            rw [HR.out]
            refine decide_eq_false (fun e => hxy ?_)
            rw [HX1.out, HX2.out]
            simp only [e])
          go_wp2_with fail
          refine wp_region_vals (by kernel_rfl) [(16, .slice (some ⟨b1, o1, none⟩) L1 c1), (17, .int .i64 (k : Int)), (18, .pointer (some ⟨b1, o1 + k, none⟩)), (19, .int .u64 x), (20, .slice (some ⟨b2, o2, none⟩) L1 c2), (21, .int .i64 (k : Int)), (22, .pointer (some ⟨b2, o2 + k, none⟩)), (23, .int .u64 y), (24, .bool true)] (by kernel_rfl) rfl ?_ ?_
          · intro i o hi A w1 hB hold hdeps
            have hlt : i < 9 := (Array.getElem?_eq_some_iff.1 hi).1
            have hc : i = 0 ∨ i = 1 ∨ i = 2 ∨ i = 3 ∨ i = 4 ∨ i = 5 ∨ i = 6 ∨ i = 7 ∨ i = 8 := by omega
            clear hlt
            rcases hc with rfl | rfl | rfl | rfl | rfl | rfl | rfl | rfl | rfl
            · obtain rfl := Option.some.inj hi
              have s0 : A.tmps.getD 0 undef = .slice (some ⟨b1, o1, none⟩) L1 c1 := hold 0 (by kernel_rfl)
              exact r_pure hi rfl rfl (y_move _ s0)
            · obtain rfl := Option.some.inj hi
              have s5 : A.tmps.getD 5 undef = .int .i64 (k : Int) := hold 5 (by kernel_rfl)
              exact r_pure hi rfl rfl (y_move _ s5)
            · obtain rfl := Option.some.inj hi
              have s16 : A.tmps.getD 16 undef = .slice (some ⟨b1, o1, none⟩) L1 c1 := dep_of hdeps 0 (by kernel_rfl)
              have s17 : A.tmps.getD 17 undef = .int .i64 (k : Int) := dep_of hdeps 1 (by kernel_rfl)
              exact r_pure hi rfl rfl (y_idxU _ _ s16 s17 hkl)
            · obtain rfl := Option.some.inj hi
              have s18 : A.tmps.getD 18 undef = .pointer (some ⟨b1, o1 + k, none⟩) := dep_of hdeps 2 (by kernel_rfl)
              exact r_pure hi rfl rfl (y_cell_u64 _ s18 ((hB.cell (p := ⟨b1, o1 + k, none⟩) hb1).trans HR1.out))
            · obtain rfl := Option.some.inj hi
              have s1 : A.tmps.getD 1 undef = .slice (some ⟨b2, o2, none⟩) L1 c2 := hold 1 (by kernel_rfl)
              exact r_pure hi rfl rfl (y_move _ s1)
            · obtain rfl := Option.some.inj hi
              have s5 : A.tmps.getD 5 undef = .int .i64 (k : Int) := hold 5 (by kernel_rfl)
              exact r_pure hi rfl rfl (y_move _ s5)
            · obtain rfl := Option.some.inj hi
              have s20 : A.tmps.getD 20 undef = .slice (some ⟨b2, o2, none⟩) L1 c2 := dep_of hdeps 4 (by kernel_rfl)
              have s21 : A.tmps.getD 21 undef = .int .i64 (k : Int) := dep_of hdeps 5 (by kernel_rfl)
              exact r_pure hi rfl rfl (y_idxU _ _ s20 s21 hkl)
            · obtain rfl := Option.some.inj hi
              have s22 : A.tmps.getD 22 undef = .pointer (some ⟨b2, o2 + k, none⟩) := dep_of hdeps 6 (by kernel_rfl)
              exact r_pure hi rfl rfl (y_cell_u64 _ s22 ((hB.cell (p := ⟨b2, o2 + k, none⟩) hb2).trans HR2.out))
            · obtain rfl := Option.some.inj hi
              have s19 : A.tmps.getD 19 undef = .int .u64 x := dep_of hdeps 3 (by kernel_rfl)
              have s23 : A.tmps.getD 23 undef = .int .u64 y := dep_of hdeps 7 (by kernel_rfl)
              exact r_pure hi rfl rfl (y_bin _ _ _ _ _ s19 s23 (HN.out w1) (by kernel_rfl))
          · intro w8 hB8
            simp only [putAll, Act.put, List.setIfInBounds_toArray, List.set_cons_succ, List.set_cons_zero]
            have HB8 := hide hB8
            clear hB8
            go_wp2_with fail
            go_ret
            exact ⟨by rw [HE.out]; rfl, HBW.out.trans (HB8.out.mono HBW.out.size)⟩
  · have hne : ((L1 : Int) != (L2 : Int)) = true := by simp; omega
    have HE : Hid (R = false) := hide (by rw [HR.out]; exact decide_eq_false (fun e => hl (by rw [HL1.out, HL2.out, e])))
    go_enter Tryz.func30, Tryz.ntmps30
    go_wp2_with fail
    go_ret
    exact ⟨by rw [HE.out]; rfl, Below.refl _ _⟩
end
end Go.Proofs.YtencmgepffdodaaGreat
