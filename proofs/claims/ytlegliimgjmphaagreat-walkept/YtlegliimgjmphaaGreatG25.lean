/-
  Own texts put together: RvSeq, MgR3, MpSmall, MgW1, MgW2, MpPut, MpGet. Own work.
-/
import Derived.Test.YtlegliimgjmphaaGreatG08
import Derived.Test.YtlegliimgjmphaaGreatG24
import Derived.Test.YtlegliimgjmphaaGreatG09
import Derived.Test.YtlegliimgjmphaaGreatG16
import Derived.Test.YtlegliimgjmphaaGreatG20
import Derived.Test.YtlegliimgjmphaaGreatG22
import Derived.Test.YtlegliimgjmphaaGreatG23
import Derived.Test.YtlegliimgjmphaaGreatG02
namespace Go.Proofs.YtlegliimgjmphaaGreat
section
open Go.RowKit
section
variable {P : Program} {ops : Array Oper} {Q : Exit → Act → World → Prop}
def seqOk (ops : Array Oper) (s n z : Nat) : Bool :=
 decide (s + n ≤ ops.size) && (List.range' s n).all fun i => ((ops[i]?).bind (·.dst)) == some (dstOf ops i) && decide (dstOf ops i < z) && (List.range' s n).all fun j => i == j || dstOf ops i != dstOf ops j
def offS (ops : Array Oper) (s n t : Nat) : Bool := (List.range' s n).all fun j => dstOf ops j != t
theorem seqOk_spec {s n z : Nat} (h : seqOk ops s n z = true) : s + n ≤ ops.size ∧ (∀ i, s ≤ i → i < s + n → ((ops[i]?).bind (·.dst)) = some (dstOf ops i) ∧ dstOf ops i < z) ∧ ∀ i j, s ≤ i → i < s + n → s ≤ j → j < s + n → dstOf ops i = dstOf ops j → i = j := by
 unfold seqOk at h
 simp only [Bool.and_eq_true, decide_eq_true_eq, List.all_eq_true, List.mem_range', beq_iff_eq, Bool.or_eq_true, bne_iff_ne] at h
 obtain ⟨h0, h1⟩ := h
 refine ⟨h0, fun i hi1 hi2 => ?_, fun i j hi1 hi2 hj1 hj2 e => ?_⟩
 ·have := h1 i ⟨i - s, by omega, by omega⟩
  exact ⟨this.1.1, this.1.2⟩
 ·have := (h1 i ⟨i - s, by omega, by omega⟩).2 j ⟨j - s, by omega, by omega⟩
  rcases this with e2 | e2
  ·exact e2
  ·exact absurd e e2
theorem putAll_app (a : Act) : ∀ (l m : List (Nat × Value)), putAll a (l ++ m) = putAll (putAll a l) m
 | [], _ => rfl
 | (d, v) :: l, m => by
  show putAll (a.put (some d) v) (l ++ m) = putAll (putAll (a.put (some d) v) l) m
  exact putAll_app _ l m
theorem seq_vals (a0 : Act) (w : World) (s n : Nat) (ps : List (Nat × Value)) (hok : seqOk ops s n a0.tmps.size = true) (hds : ps.map (·.1) = (List.range' s n).map (dstOf ops))
  (hstep : ∀ i o, ops[i]? = some o → s ≤ i → i < s + n → ∀ a : Act, (∀ t, offS ops s n t = true → a.tmps.getD t undef = a0.tmps.getD t undef) → (∀ j, s ≤ j → j < i → a.tmps.getD (dstOf ops j) undef = pv ps (j - s)) → wpOp P ops Q i (fun a' w' => w' = w ∧ a' = a.put o.dst (pv ps (i - s))) a w)
  (hend : wpList P ops Q (ops.toList.drop (s + n)) (putAll a0 ps) w) : wpList P ops Q (ops.toList.drop s) a0 w := by
 obtain ⟨k0, k1, k2⟩ := seqOk_spec hok
 have hlen : ps.length = n := by have := congrArg List.length hds; simpa using this
 have hp : ∀ j, j < n → ps[j]? = some (dstOf ops (s + j), pv ps j) := by
  intro j hj
  have h1 : j < ps.length := by omega
  have h2 : (ps.map (·.1))[j]? = some (dstOf ops (s + j)) := by rw [hds]; simp [hj]
  rw [List.getElem?_map, List.getElem?_eq_getElem h1] at h2
  simp only [Option.map_some, Option.some.injEq] at h2
  rw [List.getElem?_eq_getElem h1, ← h2]
  have h3 : pv ps j = (ps[j]).2 := by simp [pv, h1]
  rw [h3]
 have key : ∀ m, m ≤ n → wpList P ops Q (ops.toList.drop (s + (n - m))) (putAll a0 (ps.take (n - m))) w := by
  intro m
  induction m with
  | zero => intro _; rw [Nat.sub_zero, ← hlen, List.take_length, hlen]; exact hend
  | succ m ih =>
   intro hm
   have ih := ih (by omega)
   obtain ⟨k, hk⟩ : ∃ k, k = n - (m + 1) := ⟨_, rfl⟩
   have hk2 : n - m = k + 1 := by omega
   rw [hk2] at ih
   rw [← hk]
   have hi : s + k < ops.size := by omega
   have ho : ops[s + k]? = some ops[s + k] := by simp [hi]
   have hdrop : ops.toList.drop (s + k) = ops[s + k] :: ops.toList.drop (s + k + 1) := by
    rw [List.drop_eq_getElem_cons (by simpa using hi)]
    simp
   have hdst : ops[s + k].dst = some (dstOf ops (s + k)) := by have := (k1 (s + k) (by omega) (by omega)).1; rw [ho] at this; simpa using this
   have htake : ps.take (k + 1) = ps.take k ++ [(dstOf ops (s + k), pv ps k)] := by
    have h1 : k < ps.length := by omega
    rw [List.take_succ_eq_append_getElem h1]
    have := hp k (by omega)
    rw [List.getElem?_eq_getElem h1] at this
    rw [Option.some.inj this]
   have hoff : ∀ t, offS ops s n t = true → (putAll a0 (ps.take k)).tmps.getD t undef = a0.tmps.getD t undef := by
    intro t ht
    refine putAll_off t _ a0 (fun x hx e => ?_)
    have hm2 : x.1 ∈ ps.map (·.1) := List.mem_map_of_mem (List.mem_of_mem_take hx)
    rw [hds, List.mem_map] at hm2
    obtain ⟨j, hj, hj2⟩ := hm2
    unfold offS at ht
    rw [List.all_eq_true] at ht
    have := ht j hj
    rw [hj2, e] at this
    simp at this
   have hat : ∀ j, s ≤ j → j < s + k → (putAll a0 (ps.take k)).tmps.getD (dstOf ops j) undef = pv ps (j - s) := by
    intro j hj1 hj2
    refine putAll_at _ _ _ a0 (k1 j hj1 (by omega)).2 ?_ ?_
    ·rw [List.map_take, hds]
     refine List.Nodup.sublist (List.take_sublist _ _) ?_
     refine List.pairwise_map.2 ((List.nodup_range' (s := s) (n := n)).imp_of_mem (fun {i j} hi hj hne e => ?_))
     rw [List.mem_range'] at hi hj
     obtain ⟨i', hi', rfl⟩ := hi
     obtain ⟨j', hj', rfl⟩ := hj
     exact hne (k2 _ _ (by omega) (by omega) (by omega) (by omega) e)
    ·have := hp (j - s) (by omega)
     rw [show s + (j - s) = j by omega] at this
     have h2 : (ps.take k)[j - s]? = some (dstOf ops j, pv ps (j - s)) := by rw [List.getElem?_take, if_pos (by omega)]; exact this
     exact List.mem_of_getElem? h2
   have hs := hstep (s + k) _ ho (by omega) (by omega) (putAll a0 (ps.take k)) hoff (fun j h1 h2 => hat j h1 h2)
   rw [Nat.add_sub_cancel_left] at hs
   have hnext : ∀ a' w', (w' = w ∧ a' = (putAll a0 (ps.take k)).put ops[s + k].dst (pv ps k)) → wpList P ops Q (ops.toList.drop (s + k + 1)) a' w' := by
    rintro a' w' ⟨rfl, rfl⟩
    have ih2 := ih
    rw [htake, putAll_app] at ih2
    rw [hdst]
    exact ih2
   rw [hdrop]
   unfold wpOp at hs
   rw [ho] at hs
   unfold wpList
   simp only at hs
   split at hs
   ·rename_i hw
    rw [if_pos hw]
    rcases hs with hs | hs
    ·exact .inl (Oper.wp_mono hnext hs)
    ·exact .inr hs
   ·rename_i hw
    rw [if_neg hw]
    exact hnext _ _ ⟨rfl, hs.2⟩
 have := key n (Nat.le_refl _)
 rw [Nat.sub_self, List.take_zero, Nat.add_zero] at this
 exact this
theorem wp_seq_gen {x y : Code} {a : Act} {w : World} (h : ∀ K : Act → World → Prop, K = y.wp P Q → x.wp P (Exit.then K Q) a w) : (Code.seq x y).wp P Q a w := wp_seq (h _ rfl)
theorem q_pure {s i : Nat} {o : Oper} {a : Act} {w : World} {v : Value} {ps : List (Nat × Value)} (hi : ops[i]? = some o) (hw : Region.wanted o (yielded ops a.tmps) = true)
  (hv : pv ps (i - s) = v) (hr : (execOp a.eval o).run P w = .ok (.value v) w) : wpOp P ops Q i (fun a' w' => w' = w ∧ a' = a.put o.dst (pv ps (i - s))) a w :=
 each_value hi hw hr ⟨rfl, by rw [hv]⟩
end
end
section
open Go.RowKit Classical
section
variable {ρ : Operand → Value} {w : World} {dst : Option Tmp} {ty : TypeId} {pos : String} {aft : Array Edge} {gd : Option (Nat × Bool)}
theorem y_cell_u8 (x : Operand) {q o : Nat} {v : Value} (hx : ρ x = .pointer (some ⟨q, o, none⟩)) (h : w.cell? ⟨q, o, none⟩ = some v) : (execOp ρ ⟨dst, .load 5 x, ty, pos, aft, gd⟩).run Tryz.prog w = .ok (.value v) w := by simp [go_sem, hx, h]
theorem y_cell_u32 (x : Operand) {q o : Nat} {v : Value} (hx : ρ x = .pointer (some ⟨q, o, none⟩)) (h : w.cell? ⟨q, o, none⟩ = some v) : (execOp ρ ⟨dst, .load 72 x, ty, pos, aft, gd⟩).run Tryz.prog w = .ok (.value v) w := by simp [go_sem, hx, h]
theorem y_cell_awrites (x : Operand) {q o : Nat} {v : Value} (hx : ρ x = .pointer (some ⟨q, o, none⟩)) (h : w.cell? ⟨q, o, none⟩ = some v) : (execOp ρ ⟨dst, .load 78 x, ty, pos, aft, gd⟩).run Tryz.prog w = .ok (.value v) w := by simp [go_sem, hx, h]
end
theorem infoTx10 : (Tryz.prog.info? 74).map (·.size) = some 3 := by kernel_rfl
theorem infoReg10 : (Tryz.prog.info? 76).map (·.size) = some 2 := by kernel_rfl
theorem box_range {w : World} {p : Nat} {cs : Array Value} {t : TypeId} (h : Box w p cs t) (o : Nat) (xs : List Value) (he : ∀ j v, xs[j]? = some v → cs[o + j]? = some v) : w.rangeAt p o xs := fun j v hv => h.cell _ _ (he j v hv)
theorem eql_it10 {a b : ItP} (ha : ItOk a) (hb : ItOk b) (w : World) : (binOp .eql 85 (.agg (itA a)) (.agg (itA b))).run Tryz.prog w = .ok (.bool (decide (a = b))) w := by
 rw [run_eql_struct, show (10000 : Nat) = 9996 + 4 from rfl, eq_it 9996 ha hb]
 rfl
theorem eql_tx10 (a b : TxN) (w : World) : (binOp .eql 74 (.agg (txE a).toArray) (.agg (txE b).toArray)).run Tryz.prog w = .ok (.bool (decide (a = b))) w := by
 refine (eql_tx _ _ _ _ _ _ w).trans ?_
 congr 2
 obtain ⟨a1, a2, a3⟩ := a
 obtain ⟨b1, b2, b3⟩ := b
 rw [Bool.eq_iff_iff]
 simp [and_assoc, Int.ofNat_inj]
theorem eql_reg10 (a b : Nat × Nat) (w : World) : (binOp .eql 76 (.agg (rgE a).toArray) (.agg (rgE b).toArray)).run Tryz.prog w = .ok (.bool (decide (a = b))) w := by
 refine (eql_reg _ _ _ _ w).trans ?_
 congr 2
 obtain ⟨a1, a2⟩ := a
 obtain ⟨b1, b2⟩ := b
 rw [Bool.eq_iff_iff]
 simp [Int.ofNat_inj]
theorem eight_list {k : List Int} (h : k.length = 8) : [at8 k 0, at8 k 1, at8 k 2, at8 k 3, at8 k 4, at8 k 5, at8 k 6, at8 k 7] = k := by
 match k, h with
 | [_, _, _, _, _, _, _, _], _ => rfl
theorem eql_key10 {a b : List Int} (ha : a.length = 8) (hb : b.length = 8) (w : World) : (binOp .eql 81 (.agg (eightA a)) (.agg (eightA b))).run Tryz.prog w = .ok (.bool (decide (a = b))) w := by
 refine (eqli_key _ _ _ _ _ _ _ _ _ _ _ _ _ _ _ _ w).trans ?_
 rw [eight_list ha, eight_list hb]
theorem eql_u8_10 (a b : Nat) (w : World) : (binOp .eql 5 (.int .u8 (a : Int)) (.int .u8 (b : Int))).run Tryz.prog w = .ok (.bool (decide (a = b))) w := by
 have : ((a : Int) == (b : Int)) = decide (a = b) := by rw [Bool.eq_iff_iff]; simp [Int.ofNat_inj]
 simp [go_sem, this]
theorem eql_u32_10 (a b : Nat) (w : World) : (binOp .eql 72 (.int .u32 (a : Int)) (.int .u32 (b : Int))).run Tryz.prog w = .ok (.bool (decide (a = b))) w := by
 have : ((a : Int) == (b : Int)) = decide (a = b) := by rw [Bool.eq_iff_iff]; simp [Int.ofNat_inj]
 simp [go_sem, this]
end
section
open Go.RowKit Classical
theorem countMay_any (n : Nat) (w : World) : Calls Tryz.prog 211 #[.int .u32 (n : Int)] w fun e w' => e = .returned (.bool (decide (n ≤ mxN))) ∧ Below w.heap.size w w' := by
 have hd : decide ((n : Int) ≤ 2147483647) = decide (n ≤ mxN) := by
  rw [Bool.eq_iff_iff, decide_eq_true_eq, decide_eq_true_eq]
  show (n : Int) ≤ 2147483647 ↔ n ≤ 2147483647
  omega
 go_enter Tryz.func211, Tryz.ntmps211
 go_wp2
 go_ret
 exact ⟨rfl, Below.refl _ _⟩
set_option maxRecDepth 100000 in
theorem keyMay_any (k : List Int) (hk : KeyOk k) (w : World) : Calls Tryz.prog 234 #[.agg (eightA k)] w fun e w' => e = .returned (.bool (nameF k).2) ∧ Below w.heap.size w w' := by
 have hA := alloc_below10 w (.cells (eightA k) 81)
 have hX := box_new w (eightA k) 81
 obtain ⟨w1, hw1⟩ : ∃ w1, w1 = w.alloc (.cells (eightA k) 81) := ⟨_, rfl⟩
 rw [← hw1] at hA hX
 have C := name_any k hk.l hk.b w1
 have hc8 : cells8 k = eightA k := by unfold cells8; rw [← eightE_map hk.l]
 rw [hc8] at C
 have HC := hide C
 have HA := hide hA
 have hW := hw1.symm
 have HX := hide hX
 generalize (nameF k).1 = nm at *
 generalize (nameF k).2 = r at *
 clear hA hX hw1 C hc8
 go_enter Tryz.func234, Tryz.ntmps234
 go_wp2_with (first | (refine wp_load_box rfl _ rfl _ rfl HX.out Tryz.underlying81 rfl infoKey10 ?_) | (go_at_call 204; refine HC.out.mono ?_; rintro e w2 ⟨rfl, hB2⟩; have HB2 := hide hB2; clear hB2))
 go_ret
 exact ⟨rfl, HA.out.trans (HB2.out.mono HA.out.size)⟩
set_option maxRecDepth 100000 in
set_option maxHeartbeats 1600000 in
theorem itemMay_any (i : ItP) (hi : ItOk i) (w : World) : Calls Tryz.prog 135 #[.agg (itA i)] w fun e w' => e = .returned (.bool (itMayB i)) ∧ Below w.heap.size w w' := by
 have hA := alloc_below10 w (.cells (itA i) 85)
 have hX := box_new w (itA i) 85
 obtain ⟨w1, hw1⟩ : ∃ w1, w1 = w.alloc (.cells (itA i) 85) := ⟨_, rfl⟩
 rw [← hw1] at hA hX
 have C0 := hide (fun W => countMay_any i.ver W)
 have HCM := hide (fun W => may_any i.cf hi.c W)
 have HCA := hide (cf_arr hi.c)
 have HA := hide hA
 have hW := hw1.symm
 have HX := hide hX
 have x0 := hX.cell 0 _ rfl
 have hS := strOf_size10 i.val
 obtain ⟨R, hR⟩ : ∃ R, R = itMayB i := ⟨_, rfl⟩
 rw [← hR]
 by_cases h1 : i.ver ≤ mxN
 ·have d1 : decide (i.ver ≤ mxN) = true := decide_eq_true h1
  rw [d1] at C0
  by_cases h2 : i.val.length ≤ 64
  ·have d2 : decide ((i.val.length : Int) ≤ 64) = true := decide_eq_true (by omega)
   have HR : Hid (R = mayB i.cf) := hide (by rw [hR]; unfold itMayB; rw [decide_eq_true h1, decide_eq_true h2]; rfl)
   clear hA hX hw1 hR h1 h2 d1
   generalize mayB i.cf = q at *
   go_enter Tryz.func135, Tryz.ntmps135
   go_wp2_with fail
   refine (C0.out w1).mono ?_
   rintro e w2 ⟨rfl, hB2⟩
   have hX2 := HX.out.belowI hB2
   have HA2 := hide (HA.out.trans (hB2.mono HA.out.size))
   have y1 := hX2.cell 1 _ rfl
   have HX2 := hide hX2
   clear hB2 hX2 HX HA hW x0
   have HC := HCM.out w2
   rw [HCA.out] at HC
   have HC := hide HC
   have y2 := HX2.out.cell 2 _ rfl
   have y3 := HX2.out.cell 3 _ rfl
   have y4 := HX2.out.cell 4 _ rfl
   have y5 := HX2.out.cell 5 _ rfl
   have y6 := HX2.out.cell 6 _ rfl
   have y7 := HX2.out.cell 7 _ rfl
   have y8 := HX2.out.cell 8 _ rfl
   have y9 := HX2.out.cell 9 _ rfl
   have y10 := HX2.out.cell 10 _ rfl
   have y11 := HX2.out.cell 11 _ rfl
   have y12 := HX2.out.cell 12 _ rfl
   go_wp2_with (first | (go_at_call 212; refine HC.out.mono ?_; rintro e w3 ⟨rfl, hB3⟩; have HB3 := hide hB3; clear hB3))
   go_ret
   exact ⟨by rw [HR.out]; rfl, HA2.out.trans (HB3.out.mono HA2.out.size)⟩
  ·have d2 : decide ((i.val.length : Int) ≤ 64) = false := decide_eq_false (by omega)
   have HR : Hid (R = false) := hide (by rw [hR]; unfold itMayB; rw [decide_eq_false h2, Bool.and_false]; rfl)
   clear hA hX hw1 hR h1 h2 d1
   go_enter Tryz.func135, Tryz.ntmps135
   go_wp2_with fail
   refine (C0.out w1).mono ?_
   rintro e w2 ⟨rfl, hB2⟩
   have hX2 := HX.out.belowI hB2
   have HA2 := hide (HA.out.trans (hB2.mono HA.out.size))
   have y1 := hX2.cell 1 _ rfl
   clear hB2 hX2 HX HA hW x0
   go_wp2_with fail
   go_ret
   exact ⟨by rw [HR.out]; rfl, HA2.out⟩
 ·have d1 : decide (i.ver ≤ mxN) = false := decide_eq_false h1
  rw [d1] at C0
  have HR : Hid (R = false) := hide (by rw [hR]; unfold itMayB; rw [decide_eq_false h1]; rfl)
  clear hA hX hw1 hR h1 d1
  go_enter Tryz.func135, Tryz.ntmps135
  go_wp2_with fail
  refine (C0.out w1).mono ?_
  rintro e w2 ⟨rfl, hB2⟩
  have HA2 := hide (HA.out.trans (hB2.mono HA.out.size))
  clear hB2 HX HA hW x0
  go_wp2_with fail
  go_ret
  exact ⟨by rw [HR.out]; rfl, HA2.out⟩
theorem putCount_any (p : Nat) (v : Value) (xs : List Int) (n : Nat) (w : World) (h : CW w p v xs) (hr : roomFor xs.length) (hn : n < 4294967296) :
  Calls Tryz.prog 213 #[.pointer (some ⟨p, 0, none⟩), .int .u32 (n : Int)] w fun e w' => e = .returned (.tuple #[]) ∧ ∃ v', CWrote w w' p v v' (xs ++ shortS n) := by
 have C := hide (cwnum_any p v xs n w h hr (by omega))
 have hcv := wrap64_u32 n hn
 clear h hr
 go_enter Tryz.func213, Tryz.ntmps213
 go_wp2_with (go_at_call 126; refine C.out.mono ?_; rintro e w1 ⟨rfl, v1, h1⟩; have H1 := hide h1; clear h1)
 go_end0
 exact ⟨rfl, v1, H1.out⟩
theorem getCount_any (p : Nat) (vb : Value) (all : List Int) (r : RS) (w : World) (h : CR w p vb all r) :
  Calls Tryz.prog 216 #[.pointer (some ⟨p, 0, none⟩)] w fun e w' => e = .returned (.int .u32 (((numC mxN).dec r).1 : Int)) ∧ CR w' p vb all ((numC mxN).dec r).2 ∧ KeepBut (fun k => k = p) w w' := by
 have C := hide (crnum_any p vb all r w h mxC)
 obtain ⟨n, h1, h2⟩ := num_rng mxC r h.byte'
 have hcv : IntKind.u32.wrap (numS mxC r).1 = (numS mxC r).1 := by rw [h1, IntKind.wrap_u32]; simp only [mxC] at h2; omega
 have HE : Hid (((((numC mxN).dec r).1 : Nat) : Int) = (numS mxC r).1) := hide (by show ((numS mxC r).1.toNat : Int) = _; rw [h1]; rfl)
 have HF : Hid (((numC mxN).dec r).2 = (numS mxC r).2) := hide rfl
 rw [HE.out, HF.out]
 generalize (numS mxC r).1 = x at *
 generalize (numS mxC r).2 = r2 at *
 clear h h1 h2 HE HF
 go_enter Tryz.func216, Tryz.ntmps216
 go_wp2_with (go_at_call 169; refine C.out.mono ?_; rintro e w1 ⟨rfl, h1, hk⟩; have H1 := hide h1; have HK := hide hk; clear h1 hk)
 go_ret
 exact ⟨rfl, H1.out, HK.out⟩
end
section
open Go.RowKit Classical
set_option linter.unusedSimpArgs false
structure WSt (w w' : World) (p q : Nat) (cs : Array Value) (t : TypeId) (v v' : Value) (ys : List Int) : Prop where
 wr : RWrote w w' p v v' ys
 box : Box w' q cs t
 off : v'.ownBlock ≠ some q
 ne : q ≠ p
theorem RWrote.alloc {w : World} {p : Nat} {v : Value} {xs : List Int} (h : RWr w p v xs) (o : Obj) : RWrote w (w.alloc o) p v v xs := by
 have hk : KeepBut (fun _ => False) w (w.alloc o) := (KeepBut.refl _ w).alloc o
 exact ⟨h.keep hk id (fun _ _ => id), hk.mono (fun _ e => e.elim), .inl rfl⟩
theorem WSt.start {w : World} {p : Nat} {v : Value} {xs : List Int} (h : RWr w p v xs) (cs : Array Value) (t : TypeId) : WSt w (w.alloc (.cells cs t)) p w.heap.size cs t v v xs := by
 refine ⟨RWrote.alloc h _, box_new w cs t, fun e => ?_, fun e => ?_⟩
 ·have := owns_lt h.own e; omega
 ·have := h.box.lt; omega
theorem WSt.step {w w1 w2 : World} {p q : Nat} {cs : Array Value} {t : TypeId} {v v1 v2 : Value} {ys zs : List Int} (h : WSt w w1 p q cs t v v1 ys) (h2 : RWrote w1 w2 p v1 v2 zs) : WSt w w2 p q cs t v v2 zs := by
 refine ⟨h.wr.trans h2, h.box.keep h2.keep (fun e => ?_), fun e => ?_, h.ne⟩
 ·rcases e with e | e
  ·exact h.ne e
  ·exact h.off e
 ·rcases h2.place with e2 | ⟨g, e2, hg⟩
  ·exact h.off (e2.symm.trans e)
  ·rw [e2] at e
   have := h.box.lt
   cases e
   omega
theorem wrap32 {n : Nat} (h : n < 4294967296) : IntKind.u64.wrap (n : Int) = (n : Int) := by rw [IntKind.wrap_u64]; omega
theorem rep_byte (l : List Nat) : repEnc byteN l = l.map (fun n : Nat => (n : Int)) := by
 unfold repEnc byteN
 induction l with
 | nil => rfl
 | cons a l ih => simp [ih]
end
section
open Go.RowKit Classical
set_option linter.unusedSimpArgs false
theorem strI_of10 (l : List Int) (hl : ∀ c ∈ l, 0 ≤ c ∧ c < 256) : strI (strOfNums l) = l := by
 unfold strI strOfNums
 simp only [List.map_map]
 conv => rhs; rw [← List.map_id l]
 apply List.map_congr_left
 intro c hc
 have := hl c hc
 show ((UInt8.ofNat c.toNat).toNat : Int) = c
 rw [UInt8.toNat_ofNat']
 omega
structure WBl (w0 w : World) (p : Nat) (v : Value) (xs : List Int) : Prop where
 wr : RWr w p v xs
 bl : Below w0.heap.size w0 w
 hp : w0.heap.size ≤ p
 hv : ∀ g, v.ownBlock = some g → w0.heap.size ≤ g
theorem WBl.step {w0 w w' : World} {p : Nat} {v v' : Value} {xs ys : List Int} (h : WBl w0 w p v xs) (h2 : RWrote w w' p v v' ys) : WBl w0 w' p v' ys := by
 refine ⟨h2.wr, h.bl.trans (h2.keep.below h.bl.size (fun k e => ?_)), h.hp, fun g e => ?_⟩
 ·rcases e with e | e
  ·rw [e]; exact h.hp
  ·exact h.hv _ e
 ·rcases h2.place with e2 | ⟨g2, e2, hg⟩
  ·exact h.hv g (e2.symm.trans e)
  ·rw [e2] at e
   cases e
   exact Nat.le_trans h.bl.size hg
end
section
open Go.RowKit Classical
structure CSt (w w' : World) (p q : Nat) (cs : Array Value) (t : TypeId) (v v' : Value) (ys : List Int) : Prop where
 wr : CWrote w w' p v v' ys
 box : Box w' q cs t
 off : v'.ownBlock ≠ some q
 ne : q ≠ p
theorem CWrote.alloc {w : World} {p : Nat} {v : Value} {xs : List Int} (h : CW w p v xs) (o : Obj) : CWrote w (w.alloc o) p v v xs :=
 ⟨h.below ((Below.refl _ _).alloc (Nat.le_refl _) _), (KeepBut.refl _ _).alloc _, .inl rfl⟩
theorem CW.lt {w : World} {p : Nat} {v : Value} {xs : List Int} (h : CW w p v xs) : p < w.heap.size := h.box.lt
theorem CSt.start {w : World} {p : Nat} {v : Value} {xs : List Int} (h : CW w p v xs) (cs : Array Value) (t : TypeId) : CSt w (w.alloc (.cells cs t)) p w.heap.size cs t v v xs := by
 refine ⟨CWrote.alloc h _, box_new _ _ _, fun e => ?_, fun e => ?_⟩
 ·have := owns_lt h.own e
  omega
 ·have := h.lt
  omega
theorem CSt.step {w w1 w2 : World} {p q : Nat} {cs : Array Value} {t : TypeId} {v v1 v2 : Value} {ys zs : List Int} (h : CSt w w1 p q cs t v v1 ys) (h2 : CWrote w1 w2 p v1 v2 zs) : CSt w w2 p q cs t v v2 zs := by
 refine ⟨h.wr.trans h2, h.box.keep h2.keep (fun e => ?_), fun e => ?_, h.ne⟩
 ·rcases e with e | e
  ·exact h.ne e
  ·exact h.off e
 ·rcases h2.place with e2 | ⟨g, e2, hg⟩
  ·exact h.off (e2.symm.trans e)
  ·rw [e2] at e
   cases e
   have := h.box.lt
   omega
structure CBl (w0 w : World) (p : Nat) (v : Value) (xs : List Int) : Prop where
 wr : CW w p v xs
 bl : Below w0.heap.size w0 w
 hp : w0.heap.size ≤ p
 hv : ∀ g, v.ownBlock = some g → w0.heap.size ≤ g
theorem CBl.step {w0 w w' : World} {p : Nat} {v v' : Value} {xs ys : List Int} (h : CBl w0 w p v xs) (h2 : CWrote w w' p v v' ys) : CBl w0 w' p v' ys := by
 refine ⟨h2.wr, h.bl.trans (h2.keep.below h.bl.size (fun k e => ?_)), h.hp, fun g e => ?_⟩
 ·rcases e with e | e
  ·rw [e]; exact h.hp
  ·exact h.hv _ e
 ·rcases h2.place with e2 | ⟨g2, e2, hg⟩
  ·exact h.hv g (e2.symm.trans e)
  ·rw [e2] at e
   cases e
   exact Nat.le_trans h.bl.size hg
theorem CBl.below {w0 w w' : World} {p : Nat} {v : Value} {xs : List Int} (h : CBl w0 w p v xs) (hB : Below w.heap.size w w') : CBl w0 w' p v xs := ⟨h.wr.below hB, h.bl.trans (hB.mono h.bl.size), h.hp, h.hv⟩
theorem ctextI_any (p : Nat) (v : Value) (xs l : List Int) (w : World) (hl : ∀ c ∈ l, 0 ≤ c ∧ c < 256) (h : CW w p v xs) (hr : xs.length + l.length + 100 ≤ 140737488355328) :
  Calls Tryz.prog 214 #[.pointer (some ⟨p, 0, none⟩), .string (strOfNums l)] w fun e w' => e = .returned (.tuple #[]) ∧ ∃ v', CWrote w w' p v v' (xs ++ (shortS l.length ++ l)) := by
 have hs : (strOfNums l).size = l.length := strOf_size10 l
 have C := cwtext_any p v xs (strOfNums l) w h (by unfold roomFor; omega)
 rw [hs, strI_of10 l hl, List.append_assoc] at C
 exact C
theorem ckeyI_any (p : Nat) (v : Value) (xs k : List Int) (w : World) (hk : k.length = 8) (h : CW w p v xs) (hr : xs.length + 100 ≤ 140737488355328) :
  Calls Tryz.prog 132 #[.pointer (some ⟨p, 0, none⟩), .agg (eightA k)] w fun e w' => e = .returned (.tuple #[]) ∧ ∃ v', CWrote w w' p v v' (xs ++ k) := by
 have := cwkey_any p v xs k w h (by unfold roomFor; omega) hk
 rw [← eightE_map hk] at this
 exact this
theorem putB_cf {c : Cf} : putB c = cfC.enc c := by
 simp only [putB, cfC, isoC, pairC, numC, repC, rep_byte, natI]
theorem cputCf_any (p : Nat) (v : Value) (xs : List Int) (c : Cf) (w : World) (h : CW w p v xs) (hl : xs.length ≤ 1000000) (hok : c.Ok) :
  Calls Tryz.prog 215 #[.pointer (some ⟨p, 0, none⟩), .agg (cfE c).toArray] w fun e w' => e = .returned (.tuple #[]) ∧ ∃ v', CWrote w w' p v v' (xs ++ cfC.enc c) := by
 have := put_any6 p v xs c w h hl hok
 rw [putB_cf, cf_arr hok] at this
 exact this
theorem it_conf {w : World} {p : Nat} {i : ItP} {t : TypeId} (h : Box w p (itA i) t) : w.rangeAt p 2 (cfE i.cf) := box_range h 2 _ (fun j u hu => by
 match j, hu with
 | 0, hu => exact hu
 | 1, hu => exact hu
 | 2, hu => exact hu
 | 3, hu => exact hu
 | 4, hu => exact hu
 | 5, hu => exact hu
 | 6, hu => exact hu
 | 7, hu => exact hu
 | 8, hu => exact hu
 | 9, hu => exact hu
 | 10, hu => exact hu
 | j + 11, hu => simp at hu)
set_option maxRecDepth 100000 in
set_option maxHeartbeats 3200000 in
theorem putItem_any (p : Nat) (v : Value) (xs : List Int) (i : ItP) (w : World) (h : CW w p v xs) (hr : xs.length ≤ 100000) (hi : ItOk i) (hl : i.val.length ≤ 100000) :
  Calls Tryz.prog 136 #[.pointer (some ⟨p, 0, none⟩), .agg (itA i)] w fun e w' => e = .returned (.tuple #[]) ∧ ∃ v', CWrote w w' p v v' (xs ++ itC.enc i) := by
 have W0 := CSt.start h (itA i) 85
 obtain ⟨w0, hw0⟩ : ∃ w0, w0 = w.alloc (.cells (itA i) 85) := ⟨_, rfl⟩
 obtain ⟨q, hq⟩ : ∃ q, w.heap.size = q := ⟨_, rfl⟩
 rw [← hw0, hq] at W0
 have W0 := hide W0
 have hW := hw0.symm
 have h0 := hi.v
 have l1 := shortS_len10 (n := i.ver) (by omega)
 have l2 := shortS_len10 (n := i.val.length) (by omega)
 have HCF := hide hi.c
 have HIS := hide hi.s
 clear h hw0
 go_enter Tryz.func136, Tryz.ntmps136
 have x0_0 := W0.out.box.cell 0 (.int .u32 (i.ver : Int)) rfl
 go_wp2_with fail
 refine (putCount_any p v xs i.ver w0 W0.out.wr.wr (by unfold roomFor; omega) (by omega)).mono ?_
 rintro e w1 ⟨rfl, v1, h1⟩
 have W1 := hide (W0.out.step h1)
 clear h1
 clear x0_0
 have x1_1 := W1.out.box.cell 1 (.string (strOfNums i.val)) rfl
 go_wp2_with fail
 refine (ctextI_any p v1 (xs ++ shortS i.ver) i.val w1 HIS.out W1.out.wr.wr (by simp only [List.length_append]; omega)).mono ?_
 rintro e w2 ⟨rfl, v2, h2⟩
 have W2 := hide (W1.out.step h2)
 clear h2
 clear x1_1
 have HRC : Hid (w2.rangeAt q 2 (cfE i.cf)) := hide (it_conf W2.out.box)
 go_wp2_with (refine wpList_load_mid rfl _ _ rfl q 2 rfl (cfE i.cf) _ HRC.out Tryz.underlying83 rfl infoCfg ?_)
 refine (cputCf_any p v2 ((xs ++ shortS i.ver) ++ (shortS i.val.length ++ i.val)) i.cf w2 W2.out.wr.wr (by simp only [List.length_append]; omega) HCF.out).mono ?_
 rintro e w3 ⟨rfl, v3, h3⟩
 have W3 := hide (W2.out.step h3)
 clear h3 HRC
 go_wp2_with fail
 go_end0
 refine ⟨rfl, v3, ?_⟩
 have hE : xs ++ itC.enc i = (((xs ++ shortS i.ver) ++ (shortS i.val.length ++ i.val)) ++ cfC.enc i.cf) := by simp only [itC, isoC, pairC, numC, textC, List.append_assoc]
 rw [hE]
 exact W3.out.wr
theorem wr_oneA (x : WrP) : (wrA x).all (·.oneCell') = true := by
 rw [Array.all_eq_true_iff_forall_mem]
 intro u hu
 exact wr_one x u (by simpa using hu)
set_option maxRecDepth 100000 in
set_option maxHeartbeats 3200000 in
theorem putWrites_any (w0 : World) (p : Nat) (v : Value) (xs : List Int) (ao : Option Addr) (n c : Nat) (ws : List WrP) (w : World) (h : CBl w0 w p v xs) (hs : RSrc wrE w0 (.slice ao n c) ws) (hr : xs.length ≤ 50000)
  (hok : ∀ x ∈ ws, KeyOk x.key ∧ ItOk x.it) (hwo : ∀ x ∈ ws, wrOk x) (hln : ws.length ≤ 16) :
  Calls Tryz.prog 192 #[.pointer (some ⟨p, 0, none⟩), .slice ao n c] w fun e w' => e = .returned (.tuple #[]) ∧ ∃ v', CWrote w w' p v v' (xs ++ wsC.enc ws) := by
 obtain ⟨a1, c1, he, _, _⟩ := hs.shape
 cases he
 have HS := hide hs
 have HO := hide hok
 have HW := hide hwo
 have H0 := hide h
 obtain ⟨L, hL⟩ : ∃ L, L = ws.length := ⟨_, rfl⟩
 rw [← hL] at HS hln ⊢
 have HL := hide hL
 have l1 := shortS_len10 (n := L) (by omega)
 have e1 := wrap32 (n := L) (by omega)
 clear h hs hok hwo hL
 go_enter Tryz.func192, Tryz.ntmps192
 go_wp2_with fail
 refine (cwnum_any p v xs L w H0.out.wr (by unfold roomFor; omega) (by omega)).mono ?_
 rintro e w1 ⟨rfl, v1, h1⟩
 have W1 := hide (H0.out.step h1)
 have C1 := hide h1
 clear h1 e1 H0
 obtain ⟨ys, hys⟩ : ∃ ys, ys = xs ++ shortS L := ⟨_, rfl⟩
 rw [← hys] at W1 C1
 have hyl : ys.length ≤ xs.length + 10 := by rw [hys, List.length_append]; omega
 have HYS := hide hys
 clear hys l1
 go_wp2_with fail
 go_loopg [13] L (fun g i wr => ∃ (k : Nat) (vk : Value), k + g = L ∧ i = .int .i64 k ∧ Hid (CBl w0 wr p vk (ys ++ repEnc wrC (ws.take k))) ∧ Hid (CWrote w wr p v vk (ys ++ repEnc wrC (ws.take k))))
 case atStart => exact ⟨0, v1, by omega, rfl, hide (by rw [List.take_zero]; show CBl w0 _ p v1 (ys ++ []); rw [List.append_nil]; exact W1.out), hide (by rw [List.take_zero]; show CWrote w _ p v v1 (ys ++ []); rw [List.append_nil]; exact C1.out)⟩
 case round =>
  clear W1 C1
  obtain ⟨k, vk, hk, rfl, WK, CK⟩ := hrel
  cases gk with
  | zero =>
   obtain rfl : k = L := by omega
   have hz : ¬ ((k : Int) < (k : Int)) := by omega
   go_wp2_with fail
   go_end0
   refine ⟨rfl, vk, ?_⟩
   have hE : xs ++ wsC.enc ws = ys ++ repEnc wrC (ws.take k) := by
    rw [HYS.out, HL.out, List.take_length, List.append_assoc]
    rfl
   rw [hE]
   exact CK.out
  | succ g =>
   have hz : (k : Int) < (L : Int) := by omega
   have hz0 : (0 : Int) ≤ (k : Int) := by omega
   have hkl : k < ws.length := by rw [← HL.out]; omega
   have hS1 := HS.out.below WK.out.bl
   obtain ⟨b1, o1, rfl, hr1⟩ := hS1.range hkl
   obtain ⟨x, hx⟩ : ∃ x, x = ws[k] := ⟨_, rfl⟩
   rw [← hx] at hr1
   have HXO : Hid (KeyOk x.key ∧ ItOk x.it) := hide (by rw [hx]; exact HO.out _ (List.getElem_mem hkl))
   have HXW : Hid (wrOk x) := hide (by rw [hx]; exact HW.out _ (List.getElem_mem hkl))
   have HN : Hid (ys ++ repEnc wrC (ws.take k) ++ x.key ++ itC.enc x.it = ys ++ repEnc wrC (ws.take (k + 1))) := hide (by
    rw [List.take_succ_eq_append_getElem hkl, ← hx]
    simp only [repEnc, List.flatMap_append, List.flatMap_cons, List.flatMap_nil, List.append_nil, List.append_assoc]
    rfl)
   have hlk : (repEnc wrC (ws.take k)).length ≤ 1600 := by
    have := ws_len (ws.take k) (fun y hy => HW.out y (List.mem_of_mem_take hy))
    have h2 : (ws.take k).length ≤ 16 := by rw [List.length_take]; omega
    omega
   obtain ⟨zs, hzs⟩ : ∃ zs, zs = ys ++ repEnc wrC (ws.take k) := ⟨_, rfl⟩
   have hzl : zs.length ≤ ys.length + 1600 := by rw [hzs, List.length_append]; omega
   rw [← hzs] at WK HN CK
   have HR1 := hide hr1
   have hiv : x.it.val.length ≤ 64 := HXW.out.2.2.1
   clear hzs hlk hS1 hr1 hx hkl
   have HZ := hide (box_new wr (wrA zeroWr) 91)
   have HBA := hide (alloc_below10 wr (.cells (wrA zeroWr) 91))
   have HPL := hide WK.out.wr.lt
   have HVL : Hid (∀ g, vk.ownBlock = some g → g < wr.heap.size) := hide (fun g hg => owns_lt WK.out.wr.own hg)
   go_wp2_with (first
    | (refine wpList_load_mid rfl _ _ rfl b1 (o1 + k * 21) rfl (wrE x) _ HR1.out Tryz.underlying91 rfl infoWrite ?_)
    | (refine wp_store_box rfl rfl _ _ rfl wr.heap.size rfl (cs' := wrA x) rfl HZ.out rfl infoWrite (wr_oneA x) ?_; intro w4 hb4 hk4; have HX4 := hide hb4; have HK4 := hide hk4; have HRK := hide (range_key (x := x) (box_range hb4 0 _ (fun j u hu => by rw [Nat.zero_add, List.getElem?_toArray]; exact hu))); clear hb4 hk4)
    | (refine wpList_load_mid rfl _ _ rfl wr.heap.size 0 rfl (eightE x.key) _ HRK.out Tryz.underlying81 rfl infoKey10 ?_))
   have S4 : Hid (CSt wr w4 p wr.heap.size (wrA x) 91 vk vk zs) := hide (by
    have hbl : Below wr.heap.size wr w4 := HBA.out.trans (HK4.out.below HBA.out.size (fun k e => by omega))
    refine ⟨⟨WK.out.wr.below hbl, KeepBut.of_below _ hbl, .inl rfl⟩, HX4.out, fun e => ?_, ?_⟩
    ·have := HVL.out _ e
     omega
    ·have := HPL.out
     omega)
   clear HX4 HK4 HZ HBA HRK
   refine (ckeyI_any p vk zs x.key w4 HXO.out.1.l S4.out.wr.wr (by omega)).mono ?_
   rintro e w5 ⟨rfl, v5, h5⟩
   have S5 := hide (S4.out.step h5)
   clear h5 S4
   have hl5 : (zs ++ x.key).length ≤ zs.length + 8 := by rw [List.length_append, HXO.out.1.l]; omega
   have HR5 := hide (range_item (x := x) (box_range S5.out.box 0 _ (fun j u hu => by rw [Nat.zero_add, List.getElem?_toArray]; exact hu)))
   go_wp2_with (refine wpList_load_mid rfl _ _ rfl wr.heap.size (0 + 8) rfl (itE x.it) _ HR5.out Tryz.underlying85 rfl infoItem ?_)
   refine (putItem_any p v5 (zs ++ x.key) x.it w5 S5.out.wr.wr (by omega) HXO.out.2 (by omega)).mono ?_
   rintro e w6 ⟨rfl, v6, h6⟩
   have S6 := hide (S5.out.step h6)
   clear h6
   rw [HN.out] at S6
   go_wp2_with fail
   go_roundg g
   case measure => omega
   case rel => exact ⟨k + 1, v6, by omega, by first | rfl | go_num, hide (WK.out.step S6.out.wr), hide (CK.out.trans S6.out.wr)⟩
end
section
open Go.RowKit Classical
theorem go_bytes {r : RS} {k : Nat} (h : ∀ c ∈ r.bs, 0 ≤ c ∧ c < 256) : ∀ c ∈ (r.go k).bs, 0 ≤ c ∧ c < 256 := fun c hc => h c (List.mem_of_mem_drop hc)
theorem num_bytes (m : Nat) {r : RS} (h : ∀ c ∈ r.bs, 0 ≤ c ∧ c < 256) : ∀ c ∈ (numS m r).2.bs, 0 ≤ c ∧ c < 256 := by
 unfold numS
 split
 ·exact h
 ·split
  ·exact h
  ·split
   ·exact h
   ·exact go_bytes h
theorem byteS_rng {r : RS} (h : ∀ c ∈ r.bs, 0 ≤ c ∧ c < 256) : (0 ≤ (byteS r).1 ∧ (byteS r).1 < 256) ∧ ∀ c ∈ (byteS r).2.bs, 0 ≤ c ∧ c < 256 := by
 unfold byteS
 split
 ·exact ⟨⟨Int.le_refl 0, by show (0 : Int) < 256; decide⟩, h⟩
 ·split
  ·exact ⟨⟨Int.le_refl 0, by show (0 : Int) < 256; decide⟩, h⟩
  ·rename_i hne
   refine ⟨?_, go_bytes h⟩
   cases hb : r.bs with
   | nil => exact absurd hb hne
   | cons c l => exact h c (by rw [hb]; exact List.mem_cons_self)
theorem byteN_int {r : RS} (h : ∀ c ∈ r.bs, 0 ≤ c ∧ c < 256) : ((byteN.dec r).1 : Int) = (byteS r).1 ∧ (byteN.dec r).1 < 256 := by
 have := (byteS_rng h).1
 constructor
 ·show (((byteS r).1.toNat : Nat) : Int) = _
  omega
 ·show (byteS r).1.toNat < 256
  omega
def rsK (r : RS) : Nat → RS
 | 0 => r
 | k + 1 => (byteS (rsK r k)).2
theorem rsK_bytes {r : RS} (h : ∀ c ∈ r.bs, 0 ≤ c ∧ c < 256) : ∀ k, ∀ c ∈ (rsK r k).bs, 0 ≤ c ∧ c < 256
 | 0 => h
 | k + 1 => (byteS_rng (rsK_bytes h k)).2
theorem rep8 (r : RS) : repDec byteN 8 r = ([(byteS (rsK r 0)).1.toNat, (byteS (rsK r 1)).1.toNat, (byteS (rsK r 2)).1.toNat, (byteS (rsK r 3)).1.toNat, (byteS (rsK r 4)).1.toNat, (byteS (rsK r 5)).1.toNat, (byteS (rsK r 6)).1.toNat, (byteS (rsK r 7)).1.toNat], rsK r 8) := by simp only [repDec, rsK, byteN]
def cfGot (r : RS) : Cf := if (cfC.dec r).2.why ≠ 0 then zeroCf else (cfC.dec r).1
set_option maxRecDepth 100000 in
theorem cgetCf_any (p : Nat) (vb : Value) (all : List Int) (r : RS) (w : World) (h : CR w p vb all r) :
  Calls Tryz.prog 218 #[.pointer (some ⟨p, 0, none⟩)] w fun e w' => e = .returned (.agg (cfE (cfGot r)).toArray) ∧ CR w' p vb all (cfC.dec r).2 ∧ (cfGot r).Ok ∧ KeepBut (fun k => k = p) w w' := by
 obtain ⟨x0, e0, b0⟩ := num_rng mxN r h.byte'
 have hb1 : ∀ c ∈ (numS mxN r).2.bs, 0 ≤ c ∧ c < 256 := num_bytes mxN h.byte'
 obtain ⟨x1, e1, b1⟩ := num_rng 255 (numS mxN r).2 hb1
 have hb2 : ∀ c ∈ (numS 255 (numS mxN r).2).2.bs, 0 ≤ c ∧ c < 256 := num_bytes 255 hb1
 obtain ⟨x2, e2, b2⟩ := num_rng 255 (numS 255 (numS mxN r).2).2 hb2
 have hb3 : ∀ c ∈ (numS 255 (numS 255 (numS mxN r).2).2).2.bs, 0 ≤ c ∧ c < 256 := num_bytes 255 hb2
 obtain ⟨r3, hr3⟩ : ∃ r3, r3 = (numS 255 (numS 255 (numS mxN r).2).2).2 := ⟨_, rfl⟩
 rw [← hr3] at hb3
 have hvb : ∀ k, (byteS (rsK r3 k)).1.toNat < 256 := fun k => (byteN_int (rsK_bytes hb3 k)).2
 have hvi : ∀ k, (((byteS (rsK r3 k)).1.toNat : Nat) : Int) = (byteS (rsK r3 k)).1 := fun k => (byteN_int (rsK_bytes hb3 k)).1
 have hd : cfC.dec r = (⟨x0, x1, x2, (repDec byteN 8 r3).1⟩, rsK r3 8) := by
  show ((⟨(numS mxN r).1.toNat, (numS 255 (numS mxN r).2).1.toNat, (numS 255 (numS 255 (numS mxN r).2).2).1.toNat, (repDec byteN 8 (numS 255 (numS 255 (numS mxN r).2).2).2).1⟩ : Cf), (repDec byteN 8 (numS 255 (numS 255 (numS mxN r).2).2).2).2) = _
  rw [← hr3, e0, e1, e2, rep8]
  rfl
 have hbm : ∀ x ∈ (repDec byteN 8 r3).1, x < 256 := fun x hx => by
  rw [rep8] at hx
  simp at hx
  rcases hx with rfl | rfl | rfl | rfl | rfl | rfl | rfl | rfl <;> exact hvb _
 have C := get_gen p vb all r (numS mxN r).2 (numS 255 (numS mxN r).2).2 r3 x0 x1 x2 (repDec byteN 8 r3).1 (rsK r3) w h (Prod.ext e0 rfl) (Prod.ext e1 rfl) (Prod.ext e2 hr3.symm) rfl (fun k hk => by
   rw [rep8]
   have hc : k = 0 ∨ k = 1 ∨ k = 2 ∨ k = 3 ∨ k = 4 ∨ k = 5 ∨ k = 6 ∨ k = 7 := by omega
   rcases hc with rfl | rfl | rfl | rfl | rfl | rfl | rfl | rfl <;> exact Prod.ext (hvi _).symm rfl) (by have : x0 ≤ 2147483647 := b0; omega) (by omega) (by omega) (rep_len byteN 8 r3) hbm
 have hok : (⟨x0, x1, x2, (repDec byteN 8 r3).1⟩ : Cf).Ok := ⟨by have : x0 ≤ 2147483647 := b0; show x0 < 4294967296; omega, by show x1 < 256; omega, by show x2 < 256; omega, rep_len byteN 8 r3, hbm⟩
 have hg : cfGot r = if (rsK r3 8).why ≠ 0 then zeroCv else (⟨x0, x1, x2, (repDec byteN 8 r3).1⟩ : Cf) := by
  unfold cfGot
  rw [hd]
  rfl
 have hgo : (cfGot r).Ok := by
  rw [hg]
  split
  ·exact zeroC_ok
  ·exact hok
 refine C.mono ?_
 rintro e w' ⟨rfl, h1, h2⟩
 refine ⟨by rw [← cf_arr hgo, hg], by rw [hd]; exact h1, hgo, h2⟩
def itGot (r : RS) : ItP := if (itC.dec r).2.why ≠ 0 then zeroIt else (itC.dec r).1
theorem it_oneA (i : ItP) : (itA i).all (·.oneCell') = true := by
 simp [Value.oneCell']
theorem itC_eq (r : RS) : itC.dec r = (⟨((numC mxN).dec r).1, (textS 64 ((numC mxN).dec r).2).1, (cfC.dec (textS 64 ((numC mxN).dec r).2).2).1⟩, (cfC.dec (textS 64 ((numC mxN).dec r).2).2).2) := by
 simp only [itC, isoC, pairC, textC, show ((64 : Nat) : Int) = 64 from rfl]
set_option maxRecDepth 100000 in
set_option maxHeartbeats 3200000 in
theorem getItem_any (p : Nat) (vb : Value) (all : List Int) (r : RS) (w : World) (h : CR w p vb all r) :
  Calls Tryz.prog 137 #[.pointer (some ⟨p, 0, none⟩)] w fun e w' => e = .returned (.agg (itA (itGot r))) ∧ CR w' p vb all (itC.dec r).2 ∧ KeepBut (fun k => k = p) w w' := by
 have hB0 := alloc_below10 w (.cells (itA zeroIt) 85)
 have HR0 := hide (box_new w (itA zeroIt) 85)
 have hp := h.box.lt
 have HK0 : Hid (KeepBut (fun k => k = p) w (w.alloc (.cells (itA zeroIt) 85))) := hide (KeepBut.of_below _ hB0)
 have HC0 := hide (h.below hB0)
 have HVB : Hid (∀ g, vb.ownBlock = some g → g < w.heap.size) := hide (fun g hg => owns_lt h.own hg)
 have HV : Hid (itGot r = if (itC.dec r).2.why ≠ 0 then zeroIt else (itC.dec r).1) := hide rfl
 have HD := hide (itC_eq r)
 obtain ⟨x0, hx0⟩ : ∃ x, x = ((numC mxN).dec r).1 := ⟨_, rfl⟩
 obtain ⟨r1, hr1⟩ : ∃ x, x = ((numC mxN).dec r).2 := ⟨_, rfl⟩
 obtain ⟨x1, hx1⟩ : ∃ x, x = (textS 64 r1).1 := ⟨_, rfl⟩
 obtain ⟨r2, hr2⟩ : ∃ x, x = (textS 64 r1).2 := ⟨_, rfl⟩
 obtain ⟨x2, hx2⟩ : ∃ x, x = cfGot r2 := ⟨_, rfl⟩
 obtain ⟨r3, hr3⟩ : ∃ x, x = (cfC.dec r2).2 := ⟨_, rfl⟩
 have HX2 := hide hx2
 have HR3 := hide hr3
 have HE : Hid (itC.dec r = (⟨x0, x1, (cfC.dec r2).1⟩, r3)) := hide (by rw [HD.out, hx0, hx1, hr3, hr2, hr1])
 have C0 := hide (getCount_any p vb all r _ HC0.out)
 rw [← hx0, ← hr1] at C0
 have C1 := hide (fun W (hW : CR W p vb all r1) => crtext_any p vb all r1 W hW 64 (by decide) (by decide))
 rw [← hx1, ← hr2] at C1
 have C2 := hide (fun W (hW : CR W p vb all r2) => cgetCf_any p vb all r2 W hW)
 rw [← hx2, ← hr3] at C2
 rw [HE.out] at HV ⊢
 clear h hB0 hx0 hr1 hx1 hr2 hx2 hr3 HD HC0
 go_enter Tryz.func137, Tryz.ntmps137
 go_wp2_with fail
 refine C0.out.mono ?_
 rintro e w1 ⟨rfl, hc, hk⟩
 have HC1 := hide hc
 have HK1 := hide (HK0.out.one hk)
 have HR1 := hide (HR0.out.keep hk (by omega))
 clear hc hk HK0 HR0 C0
 go_wp2_with fail
 refine (C1.out w1 HC1.out).mono ?_
 rintro e w2 ⟨rfl, hc, hk⟩
 have HC2 := hide hc
 have HK2 := hide (HK1.out.one hk)
 have HR2 := hide (HR1.out.keep hk (by omega))
 clear hc hk HK1 HR1 HC1 C1
 go_wp2_with fail
 refine (C2.out w2 HC2.out).mono ?_
 rintro e w3 ⟨rfl, hc, hcok, hk⟩
 have HC3 := hide hc
 have HK3 := hide (HK2.out.one hk)
 have HR3b := hide (HR2.out.keep hk (by omega))
 clear hc hk HK2 HR2 HC2 C2 hcok
 have HZ := hide (box_new w3 (itA zeroIt) 85)
 have HBA := hide (alloc_below10 w3 (.cells (itA zeroIt) 85))
 go_wp2_with (first
  | (refine wp_store_box rfl rfl _ _ rfl w3.heap.size rfl (cs' := itA ⟨x0, x1, x2⟩) rfl HZ.out rfl infoItem (it_oneA _) ?_; intro w4 hb4 hk4; have HX4 := hide hb4; have HB4 : Hid (Below w3.heap.size w3 w4) := hide (HBA.out.trans (hk4.below HBA.out.size (fun k e => by omega))); clear hb4 hk4))
 have HC4 := hide (HC3.out.below HB4.out)
 have HK4 := hide (HK3.out.oneB HB4.out)
 have HR4 := hide (HR3b.out.belowI HB4.out)
 have h34 := HB4.out.size
 have hr34 := HR3b.out.lt
 clear HZ HBA HC3 HK3 HR3b HB4
 refine (fault_any p vb all r3 w4 HC4.out).mono ?_
 rintro e w5 ⟨rfl, hB5⟩
 have HC5 := hide (HC4.out.below hB5)
 have HK5 := hide (HK4.out.oneB hB5)
 have HR5 := hide (HR4.out.belowI hB5)
 have HX5 := hide (HX4.out.belowI hB5)
 clear hB5 HC4 HK4 HR4 HX4
 by_cases hw : r3.why = 0
 ·have HF : Hid (itGot r = ⟨x0, x1, x2⟩) := hide (by
   rw [HV.out, if_neg (by rw [hw]; simp), HX2.out]
   unfold cfGot
   rw [← HR3.out, if_neg (by rw [hw]; simp)])
  have hwb : (r3.why != 0) = false := by rw [hw]; rfl
  have hfl := fld_why
  clear hw
  go_wp2_with (first
   | (refine wp_load_box rfl _ rfl _ rfl HX5.out Tryz.underlying85 rfl infoItem ?_)
   | (refine wp_store_box rfl rfl _ _ rfl w.heap.size rfl (cs' := itA ⟨x0, x1, x2⟩) rfl HR5.out rfl infoItem (it_oneA _) ?_; intro w6 hb6 hk6; have HX6 := hide hb6; have HK6 := hide hk6; clear hb6 hk6))
  refine bodyPost_ret (v := .agg (itA ⟨x0, x1, x2⟩)) (results_box Tryz.results137 _ _ w.heap.size rfl HX6.out Tryz.underlying85 rfl infoItem) rfl ⟨by rw [HF.out], ?_, ?_⟩
  ·exact HC5.out.keep HK6.out (by omega) (fun g hg e => by have := HVB.out g hg; omega)
  ·exact HK5.out.trans HK6.out (fun k hk hS => by omega)
 ·have HF : Hid (itGot r = zeroIt) := hide (by rw [HV.out, if_pos hw])
  have hwb : (r3.why != 0) = true := by simp [hw]
  have hfl := fld_why
  clear hw
  go_wp2_with (first
   | (refine wp_store_box rfl rfl _ _ rfl w.heap.size rfl (cs' := itA zeroIt) rfl HR5.out rfl infoItem (it_oneA _) ?_; intro w6 hb6 hk6; have HX6 := hide hb6; have HK6 := hide hk6; clear hb6 hk6))
  refine bodyPost_ret (v := .agg (itA zeroIt)) (results_box Tryz.results137 _ _ w.heap.size rfl HX6.out Tryz.underlying85 rfl infoItem) rfl ⟨by rw [HF.out], ?_, ?_⟩
  ·exact HC5.out.keep HK6.out (by omega) (fun g hg e => by have := HVB.out g hg; omega)
  ·exact HK5.out.trans HK6.out (fun k hk hS => by omega)
end
end Go.Proofs.YtlegliimgjmphaaGreat
