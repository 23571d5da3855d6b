/-
  Own texts put together: CKinds. Own work.
-/
import Derived.Test.YtlegliimgjmphaaGreatG16
import Derived.Test.YtlegliimgjmphaaGreatG10
import Derived.Laws.CopyRow
namespace Go.Proofs.YtlegliimgjmphaaGreat
section
open Go.RowKit
def numR (most : Nat) (bs : List Int) : Int × Int × Int :=
 if (longS bs).2.2 ≠ 0 then (0, 0, (longS bs).2.2) else if (most : Int) < (longS bs).1 then (0, 0, 5) else ((longS bs).1, (longS bs).2.1, 0)
theorem numR_cases (most : Nat) (bs : List Int) (hx : ∀ c ∈ bs, 0 ≤ c ∧ c < 256) :
  (∃ e : Int, numR most bs = (0, 0, e) ∧ e ≠ 0) ∨ (∃ N s : Nat, numR most bs = ((N : Int), (s : Int), 0) ∧ 1 ≤ s ∧ s ≤ bs.length ∧ N < 18446744073709551616) := by
 unfold numR
 rcases long_cases' bs hx with ⟨e, h1, h2⟩ | ⟨N, s, h1, h2, h3, h4, _⟩
 ·left; rw [h1]; simp only; rw [if_pos h2]; exact ⟨e, rfl, h2⟩
 ·rw [h1]; simp only
  rw [if_neg (by simp)]
  by_cases h : (most : Int) < (N : Int)
  ·rw [if_pos h]; exact .inl ⟨5, rfl, by decide⟩
  ·rw [if_neg h]; exact .inr ⟨N, s, rfl, h2, h3, h4⟩
set_option maxRecDepth 100000 in
set_option maxHeartbeats 800000 in
theorem nread_any (most : Nat) (v : Value) (bs : List Int) (w : World) (h : Lies .u8 w v bs) (hx : ∀ c ∈ bs, 0 ≤ c ∧ c < 256) :
  Calls Tryz.prog 232 #[.agg #[.int .u64 most], v] w fun e w' => e = .returned (.tuple #[.int .u64 (numR most bs).1, .int .i64 (numR most bs).2.1, .int .i64 (numR most bs).2.2]) ∧ Below w.heap.size w w' := by
 have hB0 := (Below.refl w.heap.size w).alloc (Nat.le_refl _) (.cells #[.int .u64 most] 257)
 have C := hide (long_any v bs _ (h.below hB0) hx)
 have HB := hide hB0
 clear h hB0
 unfold numR
 rcases long_cases' bs hx with ⟨e, h1, h2⟩ | ⟨N, s, h1, h2, h3, h4, _⟩
 ·rw [h1] at C ⊢
  simp only at C ⊢
  rw [if_pos h2]
  have he : (e != 0) = true := by simpa using h2
  clear h1 h2 hx
  go_enter Tryz.func232, Tryz.ntmps232
  go_wp2_with (go_at_call 248; refine C.out.mono ?_; rintro e w' ⟨rfl, hw⟩; subst hw)
  go_ret3
  exact ⟨rfl, HB.out⟩
 ·rw [h1] at C ⊢
  simp only at C ⊢
  rw [if_neg (by simp)]
  clear h1 hx
  by_cases hm : (most : Int) < (N : Int)
  ·rw [if_pos hm]
   go_enter Tryz.func232, Tryz.ntmps232
   go_wp2_with (go_at_call 248; refine C.out.mono ?_; rintro e w' ⟨rfl, hw⟩; subst hw)
   go_ret3
   exact ⟨rfl, HB.out⟩
  ·rw [if_neg hm]
   go_enter Tryz.func232, Tryz.ntmps232
   go_wp2_with (go_at_call 248; refine C.out.mono ?_; rintro e w' ⟨rfl, hw⟩; subst hw)
   go_ret3
   exact ⟨rfl, HB.out⟩
def byteR (bs : List Int) : Int × Int × Int := if bs = [] then (0, 0, 4) else (bs.getD 0 0, 1, 0)
set_option maxHeartbeats 800000 in
theorem sread_any (v : Value) (bs : List Int) (w : World) (h : Lies .u8 w v bs) :
  Calls Tryz.prog 149 #[.agg #[], v] w fun e w' => e = .returned (.tuple #[.int .u8 (byteR bs).1, .int .i64 (byteR bs).2.1, .int .i64 (byteR bs).2.2]) ∧ Below w.heap.size w w' := by
 have hB0 := (Below.refl w.heap.size w).alloc (Nat.le_refl _) (.cells #[] 222)
 have HB := hide hB0
 have h1 := h.below hB0
 clear h hB0
 unfold byteR
 rcases h1 with ⟨rfl, ao, cap, rfl, _⟩ | ⟨hne, b, off, cap, rfl, hb, hl, hm, hc⟩
 ·rw [if_pos rfl]
  go_enter Tryz.func149, Tryz.ntmps149
  go_wp2_with fail
  go_ret3
  exact ⟨rfl, HB.out⟩
 ·rw [if_neg hne]
  have hpos : 0 < bs.length := List.length_pos_iff.2 hne
  have h0 := hc 0 hpos
  rw [Nat.add_zero] at h0
  have he : ((bs.length : Int) == 0) = false := by simp; omega
  unfold maxLen at hm
  have hI : (0 : Int) < (bs.length : Int) := by omega
  generalize bs.getD 0 0 = c at *
  clear hc hne
  generalize bs.length = n at *
  go_enter Tryz.func149, Tryz.ntmps149
  go_wp2_with fail
  go_ret3
  exact ⟨rfl, HB.out⟩
theorem strOfNums_nil : strOfNums [] = ⟨#[]⟩ := rfl
def mostU (most : Int) : Nat := if 0 ≤ most then most.toNat else 18446744073709551615
def textR (most : Int) (bs : List Int) : List Int × Int × Int :=
 if (numR (mostU most) bs).2.2 ≠ 0 then ([], 0, (numR (mostU most) bs).2.2)
 else if (bs.length : Int) - (numR (mostU most) bs).2.1 < (numR (mostU most) bs).1 then ([], 0, 4)
 else ((bs.drop (numR (mostU most) bs).2.1.toNat).take (numR (mostU most) bs).1.toNat, (numR (mostU most) bs).2.1 + (numR (mostU most) bs).1, 0)
set_option maxRecDepth 100000 in
set_option maxHeartbeats 1600000 in
theorem tread_any (most : Int) (v : Value) (bs : List Int) (w : World) (h : Lies .u8 w v bs) (hx : ∀ c ∈ bs, 0 ≤ c ∧ c < 256) (hlo : -9223372036854775808 ≤ most) (hhi : most ≤ 9223372036854775807) (hlen : bs.length ≤ 200000000000000) :
  Calls Tryz.prog 242 #[.agg #[.int .i64 most], v] w fun e w' => e = .returned (.tuple #[.string (strOfNums (textR most bs).1), .int .i64 (textR most bs).2.1, .int .i64 (textR most bs).2.2]) ∧ Below w.heap.size w w' := by
 have hB0 := hide (fun m => ((Below.refl w.heap.size w).alloc (Nat.le_refl _) (.cells #[.int .i64 most] 270)).alloc (Below.size ((Below.refl w.heap.size w).alloc (Nat.le_refl _) (.cells #[.int .i64 most] 270))) (.cells #[.int .u64 m] 257))
 have HL := hide h
 have C := hide (fun (m : Nat) => nread_any m v bs _ (h.below (hB0.out m)) hx)
 have HN := hide (fun m => numR_cases m bs hx)
 obtain ⟨ao, cap, rfl⟩ := h.shape
 unfold textR mostU
 clear h
 by_cases hm : 0 ≤ most
 ·rw [if_pos hm]
  obtain ⟨m, rfl⟩ := Int.eq_ofNat_of_zero_le hm
  rw [Int.toNat_natCast]
  have CN := hide (C.out m)
  rcases HN.out m with ⟨e, h1, h2⟩ | ⟨N, s, h1, h2, h3, h4⟩
  ·rw [h1] at CN ⊢
   simp only at CN ⊢
   rw [if_pos h2]
   have he : (e != 0) = true := by simpa using h2
   clear h1 h2 C HN
   go_enter Tryz.func242, Tryz.ntmps242
   go_wp2_with (go_at_call 232; refine CN.out.mono ?_; rintro e w1 ⟨rfl, hB⟩; have HB1 := hide hB; clear hB)
   go_ret3
   exact ⟨by simp [strOfNums_nil], (hB0.out m).trans (HB1.out.mono (hB0.out m).size)⟩
  ·rw [h1] at CN ⊢
   simp only at CN ⊢
   rw [if_neg (by simp)]
   clear h1 C HN
   by_cases hg : (bs.length : Int) - s < N
   ·rw [if_pos hg]
    have hg2 : ((bs.length - s : Nat) : Int) < (N : Int) := by omega
    go_enter Tryz.func242, Tryz.ntmps242
    go_wp2_with (first
     | (go_at_call 232; refine CN.out.mono ?_; rintro e w1 ⟨rfl, hB⟩; have HB1 := hide hB; have HL1 := hide (HL.out.below ((hB0.out m).trans (hB.mono (hB0.out m).size))); clear hB)
     | (refine wp_from _ rfl _ _ rfl _ bs rfl HL1.out s rfl h3 ?_; intro a2 c2 hL2; have HL2 := hide hL2; clear hL2))
    go_ret3
    exact ⟨by simp [strOfNums_nil], (hB0.out m).trans (HB1.out.mono (hB0.out m).size)⟩
   ·rw [if_neg hg, Int.toNat_natCast, Int.toNat_natCast]
    have hg2 : (N : Int) ≤ ((bs.length - s : Nat) : Int) := by omega
    have hg3 : N ≤ bs.length - s := by omega
    have HD : Hid (N ≤ (bs.drop s).length) := hide (by simp; omega)
    go_enter Tryz.func242, Tryz.ntmps242
    go_wp2_with (first
     | (go_at_call 232; refine CN.out.mono ?_; rintro e w1 ⟨rfl, hB⟩; have HB1 := hide hB; have HL1 := hide (HL.out.below ((hB0.out m).trans (hB.mono (hB0.out m).size))); clear hB)
     | (refine wp_from _ rfl _ _ rfl _ bs rfl HL1.out s rfl h3 ?_; intro a2 c2 hL2; have HL2 := hide hL2; clear hL2)
     | (refine wp_to _ rfl _ _ rfl _ (bs.drop s) rfl HL2.out .u64 N rfl HD.out ?_; intro a3 c3 hL3; have HL3 := hide hL3; clear hL3)
     | (refine wp_str _ rfl _ rfl _ ((bs.drop s).take N) rfl HL3.out ?_))
    go_ret3
    exact ⟨by simp, (hB0.out m).trans (HB1.out.mono (hB0.out m).size)⟩
 ·rw [if_neg hm]
  have CN := hide (C.out 18446744073709551615)
  have hm2 : most < 0 := by omega
  rcases HN.out 18446744073709551615 with ⟨e, h1, h2⟩ | ⟨N, s, h1, h2, h3, h4⟩
  ·rw [h1] at CN ⊢
   simp only at CN ⊢
   rw [if_pos h2]
   have he : (e != 0) = true := by simpa using h2
   clear h1 h2 C HN
   go_enter Tryz.func242, Tryz.ntmps242
   go_wp2_with (go_at_call 232; refine CN.out.mono ?_; rintro e w1 ⟨rfl, hB⟩; have HB1 := hide hB; clear hB)
   go_ret3
   exact ⟨by simp [strOfNums_nil], (hB0.out 18446744073709551615).trans (HB1.out.mono (hB0.out 18446744073709551615).size)⟩
  ·rw [h1] at CN ⊢
   simp only at CN ⊢
   rw [if_neg (by simp)]
   clear h1 C HN
   by_cases hg : (bs.length : Int) - s < N
   ·rw [if_pos hg]
    have hg2 : ((bs.length - s : Nat) : Int) < (N : Int) := by omega
    go_enter Tryz.func242, Tryz.ntmps242
    go_wp2_with (first
     | (go_at_call 232; refine CN.out.mono ?_; rintro e w1 ⟨rfl, hB⟩; have HB1 := hide hB; have HL1 := hide (HL.out.below ((hB0.out 18446744073709551615).trans (hB.mono (hB0.out 18446744073709551615).size))); clear hB)
     | (refine wp_from _ rfl _ _ rfl _ bs rfl HL1.out s rfl h3 ?_; intro a2 c2 hL2; have HL2 := hide hL2; clear hL2))
    go_ret3
    exact ⟨by simp [strOfNums_nil], (hB0.out 18446744073709551615).trans (HB1.out.mono (hB0.out 18446744073709551615).size)⟩
   ·rw [if_neg hg, Int.toNat_natCast, Int.toNat_natCast]
    have hg2 : (N : Int) ≤ ((bs.length - s : Nat) : Int) := by omega
    have hg3 : N ≤ bs.length - s := by omega
    have HD : Hid (N ≤ (bs.drop s).length) := hide (by simp; omega)
    go_enter Tryz.func242, Tryz.ntmps242
    go_wp2_with (first
     | (go_at_call 232; refine CN.out.mono ?_; rintro e w1 ⟨rfl, hB⟩; have HB1 := hide hB; have HL1 := hide (HL.out.below ((hB0.out 18446744073709551615).trans (hB.mono (hB0.out 18446744073709551615).size))); clear hB)
     | (refine wp_from _ rfl _ _ rfl _ bs rfl HL1.out s rfl h3 ?_; intro a2 c2 hL2; have HL2 := hide hL2; clear hL2)
     | (refine wp_to _ rfl _ _ rfl _ (bs.drop s) rfl HL2.out .u64 N rfl HD.out ?_; intro a3 c3 hL3; have HL3 := hide hL3; clear hL3)
     | (refine wp_str _ rfl _ rfl _ ((bs.drop s).take N) rfl HL3.out ?_))
    go_ret3
    exact ⟨by simp, (hB0.out 18446744073709551615).trans (HB1.out.mono (hB0.out 18446744073709551615).size)⟩
theorem wp_copy_box {ops : Array Oper} {rest : List Oper} {o : Oper} {a : Act} {Q : Exit → Act → World → Prop} (w : World) (hgd : o.guard = none) (d s : Operand)
  (ho : o.op = .call { callee := .builtin .copy, args := #[d, s], argTypes := #[29, 29] }) (p n : Nat) (cs : Array Value) (t : TypeId) (hb : Box w p cs t) (hcs : cs.size = n) (hd : a.eval d = .slice (some ⟨p, 0, none⟩) n n)
  (vx : Value) (hs : a.eval s = vx) (xs : List Int) (hL : Lies .u8 w vx xs) (hn0 : 0 < n) (hn : n ≤ xs.length)
  (h : ∀ w', Box w' p ((xs.take n).map (Value.int .u8)).toArray t → KeepBut (fun k => k = p) w w' → wpList Tryz.prog ops Q rest (a.put o.dst (.int .i64 n)) w') : wpList Tryz.prog ops Q (o :: rest) a w := by
 rcases hL with ⟨rfl, _⟩ | ⟨hne, b, off, cap, rfl, hlt, hl, hm, hc⟩
 ·simp at hn; omega
 ·have hlen : ((xs.take n).map (Value.int .u8)).length = n := by simp; omega
  obtain ⟨i0, hi, hz0, hz1, hz2⟩ := info_parts info5
  have hr := run_copy_row (P := Tryz.prog) w 29 29 o.type 5 p 0 n n ⟨b, off, none⟩ xs.length cap cs t ((xs.take n).map (Value.int .u8)) Tryz.underlying29 (by simp [hi, hz1]) hb
   (by rw [hlen]; exact (Nat.min_eq_right hn).symm) (fun j v hj => by
    have hjl : j < n := by have := (List.getElem?_eq_some_iff.1 hj).1; omega
    rw [Addr.add_lit, hc j (by omega)]
    rw [List.getElem?_map, List.getElem?_take_of_lt hjl] at hj
    simp [List.getD] at hj ⊢
    obtain ⟨x, h1, h2⟩ := hj
    simp [h1, h2]) (by rw [hlen]; omega) (ints_oneCell _ _)
  rw [hlen] at hr
  have e : (cs.toList.take 0 ++ (xs.take n).map (Value.int .u8) ++ cs.toList.drop (0 + n)).toArray = ((xs.take n).map (Value.int .u8)).toArray := by
   have : cs.toList.drop (0 + n) = [] := List.drop_eq_nil_of_le (by simp [hcs])
   rw [this]; simp
  rw [e] at hr
  refine wpList_plain hgd fun K hK => ?_
  unfold Oper.wp execOp
  simp only [ho, resolve, invoke, builtin, Sem.run_bind, Sem.run_pure, Result.andThen_ok, List.map_toArray, List.map_cons, List.map_nil, hd, hs, hr]
  refine hK _ _ (h _ (setRow_heap w p cs _ t (0, 0) hb) ⟨rfl, rfl, rfl, by simp [World.setRow], fun k _ hS => setRow_other w p k _ hS⟩)
def keyR (bs : List Int) : List Int × Int × Int := if bs.length < 8 then (List.replicate 8 0, 0, 4) else (bs.take 8, 8, 0)
theorem results_box3 {P : Program} {fn : Func} {q t1 t2 : Tmp} {t t0 : TypeId} {d : TypeDesc} (h : fn.results = #[.cell q t, .tmp t1, .tmp t2]) (tmps : Array Value) (w : World) (p : Nat) (hq : tmps.getD q undef = .pointer (some ⟨p, 0, none⟩)) {v1 v2 : Value} (h1 : tmps.getD t1 undef = v1) (h2 : tmps.getD t2 undef = v2) {cs : Array Value} (hb : Box w p cs t0)
  (hu : P.underlying t = some d) (hd : d.isRow = true) (hi : (P.info? t).map (·.size) = some cs.size) : (results fn tmps).run P w = .ok (.tuple #[.agg cs, v1, v2]) w := by
 subst h1
 subst h2
 have hr : w.rangeAt p 0 cs.toList := fun j v hv => by
  rw [Nat.zero_add]; exact hb.cell j v (by simpa using hv)
 have hl := run_loadVar_mid (P := P) w p 0 t cs.toList d hr hu hd (by simpa using hi)
 have hq' : tmps[q]?.getD undef = .pointer (some ⟨p, 0, none⟩) := by rw [← Array.getD_eq_getD_getElem?]; exact hq
 simp only [results, h]
 simp [hq', asAddr, hl]
set_option maxRecDepth 100000 in
set_option maxHeartbeats 1600000 in
theorem kread_any (v : Value) (bs : List Int) (w : World) (h : Lies .u8 w v bs) :
  Calls Tryz.prog 206 #[.agg #[], v] w fun e w' => e = .returned (.tuple #[.agg ((keyR bs).1.map (Value.int .u8)).toArray, .int .i64 (keyR bs).2.1, .int .i64 (keyR bs).2.2]) ∧ Below w.heap.size w w' := by
 have HI := hide ((zero_of_info infoKey).2)
 have hz : Hid (((List.replicate 8 (0 : Int)).map (Value.int .u8)).toArray = #[.int .u8 0, .int .u8 0, .int .u8 0, .int .u8 0, .int .u8 0, .int .u8 0, .int .u8 0, .int .u8 0]) := hide rfl
 have hmax := h.len
 unfold maxLen at hmax
 obtain ⟨ao, cap, rfl⟩ := h.shape
 have hB := (((Below.refl w.heap.size w).alloc (Nat.le_refl _) (.cells #[] 242)).alloc (by simp) (.cells #[.int .u8 0, .int .u8 0, .int .u8 0, .int .u8 0, .int .u8 0, .int .u8 0, .int .u8 0, .int .u8 0] 81)).alloc (by simp; omega) (.cells #[.int .u8 0, .int .u8 0, .int .u8 0, .int .u8 0, .int .u8 0, .int .u8 0, .int .u8 0, .int .u8 0] 81)
 have HB := hide hB
 have HL := hide (h.below hB)
 have hbr := (box_new (w.alloc (.cells #[] 242)) #[.int .u8 0, .int .u8 0, .int .u8 0, .int .u8 0, .int .u8 0, .int .u8 0, .int .u8 0, .int .u8 0] 81).keep ((KeepBut.refl (fun _ => False) _).alloc (.cells #[.int .u8 0, .int .u8 0, .int .u8 0, .int .u8 0, .int .u8 0, .int .u8 0, .int .u8 0, .int .u8 0] 81)) (fun h => h)
 have hbk := box_new ((w.alloc (.cells #[] 242)).alloc (.cells #[.int .u8 0, .int .u8 0, .int .u8 0, .int .u8 0, .int .u8 0, .int .u8 0, .int .u8 0, .int .u8 0] 81)) #[.int .u8 0, .int .u8 0, .int .u8 0, .int .u8 0, .int .u8 0, .int .u8 0, .int .u8 0, .int .u8 0] 81
 rw [show (w.alloc (.cells #[] 242)).heap.size = w.heap.size + 1 by simp] at hbr
 rw [show ((w.alloc (.cells #[] 242)).alloc (.cells #[.int .u8 0, .int .u8 0, .int .u8 0, .int .u8 0, .int .u8 0, .int .u8 0, .int .u8 0, .int .u8 0] 81)).heap.size = w.heap.size + 1 + 1 by simp] at hbk
 have HBR := hide hbr
 have HBK := hide hbk
 clear h hB hbr hbk
 unfold keyR
 by_cases h8 : bs.length < 8
 ·rw [if_pos h8]
  have h8' : (bs.length : Int) < 8 := by omega
  rw [hz.out]
  clear HL
  generalize bs.length = n at *
  go_enter Tryz.func206, Tryz.ntmps206
  go_wp2_with fail
  exact bodyPost_ret (v := .tuple #[.agg #[.int .u8 0, .int .u8 0, .int .u8 0, .int .u8 0, .int .u8 0, .int .u8 0, .int .u8 0, .int .u8 0], .int .i64 0, .int .i64 4]) (results_box3 (v1 := .int .i64 0) (v2 := .int .i64 4) Tryz.results206 _ _ (w.heap.size + 1) rfl rfl rfl HBR.out Tryz.underlying81 rfl HI.out) rfl ⟨rfl, HB.out⟩
 ·rw [if_neg h8]
  have h8' : (8 : Int) ≤ (bs.length : Int) := by omega
  have hl8 : (bs.take 8).length = 8 := by simp; omega
  have HS : Hid (((bs.take 8).map (Value.int .u8)).toArray.size = 8) := hide (by simp; omega)
  have HO : Hid ((((bs.take 8).map (Value.int .u8)).toArray).all (·.oneCell') = true) := hide ((show ∀ ks : List Int, ((ks.map (Value.int .u8)).toArray).all (·.oneCell') = true from fun ks => by simp [Value.oneCell']) _)
  have HI2 : Hid ((Tryz.prog.info? 81).map (·.size) = some ((bs.take 8).map (Value.int .u8)).toArray.size) := hide (by rw [HS.out]; exact HI.out)
  have HZ : Hid ((#[.int .u8 0, .int .u8 0, .int .u8 0, .int .u8 0, .int .u8 0, .int .u8 0, .int .u8 0, .int .u8 0] : Array Value).size = ((bs.take 8).map (Value.int .u8)).toArray.size) := hide (by rw [HS.out]; rfl)
  clear hl8
  go_enter Tryz.func206, Tryz.ntmps206
  go_wp2_with (first
   | (refine wp_copy_box _ rfl _ _ rfl (w.heap.size + 1 + 1) 8 _ 81 HBK.out rfl rfl _ rfl bs HL.out (by decide) (by omega) ?_; intro w2 hb2 hk2; have HB2 := hide hb2; have HK2 := hide hk2; have HR2 := hide (HBR.out.keep hk2 (fun e => absurd e (by omega))); clear hb2 hk2; generalize hC : ((bs.take 8).map (Value.int .u8)).toArray = C at *; have HC := hide hC; clear hC)
   | (refine wp_load_box rfl _ rfl _ rfl HB2.out Tryz.underlying81 rfl HI2.out ?_)
   | (refine wp_store_box rfl rfl _ _ rfl _ rfl rfl HR2.out HZ.out HI2.out HO.out ?_; intro w3 hb3 hk3; have HB3 := hide hb3; have HK3 := hide hk3; clear hb3 hk3))
  refine bodyPost_ret (v := .tuple #[.agg C, .int .i64 8, .int .i64 0]) (results_box3 (v1 := .int .i64 8) (v2 := .int .i64 0) Tryz.results206 _ _ (w.heap.size + 1) rfl rfl rfl HB3.out Tryz.underlying81 rfl HI2.out) rfl ⟨by rw [HC.out], ?_⟩
  exact (HB.out.trans (HK2.out.below HB.out.size (fun k hk => by omega))).trans (HK3.out.below (Nat.le_trans HB.out.size HK2.out.size) (fun k hk => by omega))
end
end Go.Proofs.YtlegliimgjmphaaGreat
