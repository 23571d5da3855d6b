/-
  Own texts put together: MpSmall, MgW1, MgW2, MpPut. Own work.
-/
import Derived.Test.YtencmgepffdodaaGreatG12
import Derived.Test.YtencmgepffdodaaGreatG13
import Derived.Test.YtencmgepffdodaaGreatG18
import Derived.Test.YtencmgepffdodaaGreatG20
import Derived.Test.YtencmgepffdodaaGreatG22
import Derived.Test.YtencmgepffdodaaGreatG24
import Derived.Test.YtencmgepffdodaaGreatG21
import Derived.Test.YtencmgepffdodaaGreatG04
namespace Go.Proofs.YtencmgepffdodaaGreat
section
open Go.RowKit Classical

theorem countMay_any (n : Nat) (w : World) : Calls Tryz.prog 150 #[.int .u32 (n : Int)] w fun e w' => e = .returned (.bool (decide (n ≤ mxN))) ∧ Below w.heap.size w w' := by
  have hd : decide ((n : Int) ≤ 2147483647) = decide (n ≤ mxN) := by
    rw [Bool.eq_iff_iff, decide_eq_true_eq, decide_eq_true_eq]
    show (n : Int) ≤ 2147483647 ↔ n ≤ 2147483647
    omega
  go_enter Tryz.func150, Tryz.ntmps150
  go_wp2
  go_ret
  exact ⟨rfl, Below.refl _ _⟩
set_option maxRecDepth 100000 in
theorem keyMay_any (k : List Int) (hk : KeyOk k) (w : World) : Calls Tryz.prog 165 #[.agg (eightA k)] w fun e w' => e = .returned (.bool (nameF k).2) ∧ Below w.heap.size w w' := by
  have hA := alloc_below10 w (.cells (eightA k) 31)
  have hX := box_new w (eightA k) 31
  obtain ⟨w1, hw1⟩ : ∃ w1, w1 = w.alloc (.cells (eightA k) 31) := ⟨_, rfl⟩
  rw [← hw1] at hA hX
  have C := name_any k hk.l hk.b w1
  have hc8 : cells8 k = eightA k := by unfold cells8; rw [← eightE_map hk.l]
  rw [hc8] at C
  have HC := hide C
  have HA := hide hA
  have hW := hw1.symm
  have HX := hide hX
  generalize (nameF k).1 = nm at *
  generalize (nameF k).2 = r at *
  clear hA hX hw1 C hc8
  go_enter Tryz.func165, Tryz.ntmps165
  go_wp2_with (first | (refine wp_load_box rfl _ rfl _ rfl HX.out Tryz.underlying31 rfl infoKey10 ?_) | (go_at_call 143; refine HC.out.mono ?_; rintro e w2 ⟨rfl, hB2⟩; have HB2 := hide hB2; clear hB2))
  go_ret
  exact ⟨rfl, HA.out.trans (HB2.out.mono HA.out.size)⟩
set_option maxRecDepth 100000 in
set_option maxHeartbeats 1600000 in
theorem itemMay_any (i : ItP) (hi : ItOk i) (w : World) : Calls Tryz.prog 82 #[.agg (itA i)] w fun e w' => e = .returned (.bool (itMayB i)) ∧ Below w.heap.size w w' := by
  have hA := alloc_below10 w (.cells (itA i) 35)
  have hX := box_new w (itA i) 35
  obtain ⟨w1, hw1⟩ : ∃ w1, w1 = w.alloc (.cells (itA i) 35) := ⟨_, rfl⟩
  rw [← hw1] at hA hX
  have C0 := hide (fun W => countMay_any i.ver W)
  have HCM := hide (fun W => may_any i.cf hi.c W)
  have HCA := hide (cf_arr hi.c)
  have HA := hide hA
  have hW := hw1.symm
  have HX := hide hX
  have x0 := hX.cell 0 _ rfl
  have hS := strOf_size10 i.val
  obtain ⟨R, hR⟩ : ∃ R, R = itMayB i := ⟨_, rfl⟩
  rw [← hR]
  by_cases h1 : i.ver ≤ mxN
  · have d1 : decide (i.ver ≤ mxN) = true := decide_eq_true h1
    rw [d1] at C0
    by_cases h2 : i.val.length ≤ 64
    · have d2 : decide ((i.val.length : Int) ≤ 64) = true := decide_eq_true (by omega)
      have HR : Hid (R = mayB i.cf) := hide (by rw [hR]; unfold itMayB; rw [decide_eq_true h1, decide_eq_true h2]; rfl)
      clear hA hX hw1 hR h1 h2 d1
      generalize mayB i.cf = q at *
      go_enter Tryz.func82, Tryz.ntmps82
      go_wp2_with fail
      refine (C0.out w1).mono ?_
      rintro e w2 ⟨rfl, hB2⟩
      have hX2 := HX.out.belowI hB2
      have HA2 := hide (HA.out.trans (hB2.mono HA.out.size))
      have y1 := hX2.cell 1 _ rfl
      have HX2 := hide hX2
      clear hB2 hX2 HX HA hW x0
      have HC := HCM.out w2
      rw [HCA.out] at HC
      have HC := hide HC
      have y2 := HX2.out.cell 2 _ rfl
      have y3 := HX2.out.cell 3 _ rfl
      have y4 := HX2.out.cell 4 _ rfl
      have y5 := HX2.out.cell 5 _ rfl
      have y6 := HX2.out.cell 6 _ rfl
      have y7 := HX2.out.cell 7 _ rfl
      have y8 := HX2.out.cell 8 _ rfl
      have y9 := HX2.out.cell 9 _ rfl
      have y10 := HX2.out.cell 10 _ rfl
      have y11 := HX2.out.cell 11 _ rfl
      have y12 := HX2.out.cell 12 _ rfl
      go_wp2_with (first | (go_at_call 151; refine HC.out.mono ?_; rintro e w3 ⟨rfl, hB3⟩; have HB3 := hide hB3; clear hB3))
      go_ret
      exact ⟨by rw [HR.out]; rfl, HA2.out.trans (HB3.out.mono HA2.out.size)⟩
    · have d2 : decide ((i.val.length : Int) ≤ 64) = false := decide_eq_false (by omega)
      have HR : Hid (R = false) := hide (by rw [hR]; unfold itMayB; rw [decide_eq_false h2, Bool.and_false]; rfl)
      clear hA hX hw1 hR h1 h2 d1
      go_enter Tryz.func82, Tryz.ntmps82
      go_wp2_with fail
      refine (C0.out w1).mono ?_
      rintro e w2 ⟨rfl, hB2⟩
      have hX2 := HX.out.belowI hB2
      have HA2 := hide (HA.out.trans (hB2.mono HA.out.size))
      have y1 := hX2.cell 1 _ rfl
      clear hB2 hX2 HX HA hW x0
      go_wp2_with fail
      go_ret
      exact ⟨by rw [HR.out]; rfl, HA2.out⟩
  · have d1 : decide (i.ver ≤ mxN) = false := decide_eq_false h1
    rw [d1] at C0
    have HR : Hid (R = false) := hide (by rw [hR]; unfold itMayB; rw [decide_eq_false h1]; rfl)
    clear hA hX hw1 hR h1 d1
    go_enter Tryz.func82, Tryz.ntmps82
    go_wp2_with fail
    refine (C0.out w1).mono ?_
    rintro e w2 ⟨rfl, hB2⟩
    have HA2 := hide (HA.out.trans (hB2.mono HA.out.size))
    clear hB2 HX HA hW x0
    go_wp2_with fail
    go_ret
    exact ⟨by rw [HR.out]; rfl, HA2.out⟩
/-- The greatest number that a put or a got one has room for. -/
theorem putCount_any (p : Nat) (v : Value) (xs : List Int) (n : Nat) (w : World) (h : CW w p v xs) (hr : roomFor xs.length) (hn : n < 4294967296) :
    Calls Tryz.prog 152 #[.pointer (some ⟨p, 0, none⟩), .int .u32 (n : Int)] w fun e w' => e = .returned (.tuple #[]) ∧ ∃ v', CWrote w w' p v v' (xs ++ shortS n) := by
  have C := hide (cwnum_any p v xs n w h hr (by omega))
  have hcv := wrap64_u32 n hn
  clear h hr
  go_enter Tryz.func152, Tryz.ntmps152
  go_wp2_with (go_at_call 73; refine C.out.mono ?_; rintro e w1 ⟨rfl, v1, h1⟩; have H1 := hide h1; clear h1)
  go_end0
  exact ⟨rfl, v1, H1.out⟩
theorem getCount_any (p : Nat) (vb : Value) (all : List Int) (r : RS) (w : World) (h : CR w p vb all r) :
    Calls Tryz.prog 155 #[.pointer (some ⟨p, 0, none⟩)] w fun e w' => e = .returned (.int .u32 (((numC mxN).dec r).1 : Int)) ∧ CR w' p vb all ((numC mxN).dec r).2 ∧ KeepBut (fun k => k = p) w w' := by
  have C := hide (crnum_any p vb all r w h mxC)
  obtain ⟨n, h1, h2⟩ := num_rng mxC r h.byte'
  have hcv : IntKind.u32.wrap (numS mxC r).1 = (numS mxC r).1 := by rw [h1, IntKind.wrap_u32]; simp only [mxC] at h2; omega
  have HE : Hid (((((numC mxN).dec r).1 : Nat) : Int) = (numS mxC r).1) := hide (by show ((numS mxC r).1.toNat : Int) = _; rw [h1]; rfl)
  have HF : Hid (((numC mxN).dec r).2 = (numS mxC r).2) := hide rfl
  rw [HE.out, HF.out]
  generalize (numS mxC r).1 = x at *
  generalize (numS mxC r).2 = r2 at *
  clear h h1 h2 HE HF
  go_enter Tryz.func155, Tryz.ntmps155
  go_wp2_with (go_at_call 108; refine C.out.mono ?_; rintro e w1 ⟨rfl, h1, hk⟩; have H1 := hide h1; have HK := hide hk; clear h1 hk)
  go_ret
  exact ⟨rfl, H1.out, HK.out⟩
end
section
open Go.RowKit Classical

set_option linter.unusedSimpArgs false
/-- A writer has written, and a variable beside it is as it was. -/
structure WSt (w w' : World) (p q : Nat) (cs : Array Value) (t : TypeId) (v v' : Value) (ys : List Int) : Prop where
  wr : RWrote w w' p v v' ys
  box : Box w' q cs t
  off : v'.ownBlock ≠ some q
  ne : q ≠ p
theorem RWrote.alloc {w : World} {p : Nat} {v : Value} {xs : List Int} (h : RWr w p v xs) (o : Obj) : RWrote w (w.alloc o) p v v xs := by
  have hk : KeepBut (fun _ => False) w (w.alloc o) := (KeepBut.refl _ w).alloc o
  exact ⟨h.keep hk id (fun _ _ => id), hk.mono (fun _ e => e.elim), .inl rfl⟩
theorem WSt.start {w : World} {p : Nat} {v : Value} {xs : List Int} (h : RWr w p v xs) (cs : Array Value) (t : TypeId) : WSt w (w.alloc (.cells cs t)) p w.heap.size cs t v v xs := by
  refine ⟨RWrote.alloc h _, box_new w cs t, fun e => ?_, fun e => ?_⟩
  · have := owns_lt h.own e; omega
  · have := h.box.lt; omega
theorem WSt.step {w w1 w2 : World} {p q : Nat} {cs : Array Value} {t : TypeId} {v v1 v2 : Value} {ys zs : List Int} (h : WSt w w1 p q cs t v v1 ys) (h2 : RWrote w1 w2 p v1 v2 zs) : WSt w w2 p q cs t v v2 zs := by
  refine ⟨h.wr.trans h2, h.box.keep h2.keep (fun e => ?_), fun e => ?_, h.ne⟩
  · rcases e with e | e
    · exact h.ne e
    · exact h.off e
  · rcases h2.place with e2 | ⟨g, e2, hg⟩
    · exact h.off (e2.symm.trans e)
    · rw [e2] at e
      have := h.box.lt
      cases e
      omega
theorem wrap32 {n : Nat} (h : n < 4294967296) : IntKind.u64.wrap (n : Int) = (n : Int) := by rw [IntKind.wrap_u64]; omega
set_option maxRecDepth 100000 in
set_option maxHeartbeats 3200000 in
theorem rputTx_any (p : Nat) (v : Value) (xs : List Int) (tx : TxN) (w : World) (h : RWr w p v xs) (hr : xs.length + 60 ≤ 140737488355328) (h1 : tx.2.1 < 4294967296) (h2 : tx.2.2 < 4294967296) :
    Calls Tryz.prog 39 #[.pointer (some ⟨p, 0, none⟩), .agg (txE tx).toArray] w fun e w' => e = .returned (.tuple #[]) ∧ ∃ v', RWrote w w' p v v' (xs ++ txC.enc tx) := by
  have W0 := WSt.start h (txE tx).toArray 24
  obtain ⟨w0, hw0⟩ : ∃ w0, w0 = w.alloc (.cells (txE tx).toArray 24) := ⟨_, rfl⟩
  obtain ⟨q, hq⟩ : ∃ q, w.heap.size = q := ⟨_, rfl⟩
  rw [← hw0, hq] at W0
  have W0 := hide W0
  have hW := hw0.symm
  have e1 := wrap32 h1
  have e2 := wrap32 h2
  have l1 := shortS_len10 (n := tx.2.1) (by omega)
  have l2 := shortS_len10 (n := tx.2.2) (by omega)
  clear h hw0
  go_enter Tryz.func39, Tryz.ntmps39
  have x0_0 := W0.out.box.cell 0 (.int .u8 (tx.1 : Int)) rfl
  go_wp2_with fail
  refine (rwbyte_any p v xs (tx.1 : Int) w0 W0.out.wr.wr (by first | omega | (simp only [List.length_append, List.length_cons, List.length_nil]; omega))).mono ?_
  rintro e w1 ⟨rfl, v1, h1⟩
  have W1 := hide (W0.out.step h1)
  clear h1
  clear x0_0
  have x1_1 := W1.out.box.cell 1 (.int .u32 (tx.2.1 : Int)) rfl
  go_wp2_with fail
  refine (rwnum_any p v1 (xs ++ [(tx.1 : Int)]) tx.2.1 w1 W1.out.wr.wr (by first | omega | (simp only [List.length_append, List.length_cons, List.length_nil]; omega)) (by omega)).mono ?_
  rintro e w2 ⟨rfl, v2, h2⟩
  have W2 := hide (W1.out.step h2)
  clear h2
  clear x1_1
  have x2_2 := W2.out.box.cell 2 (.int .u32 (tx.2.2 : Int)) rfl
  go_wp2_with fail
  refine (rwnum_any p v2 ((xs ++ [(tx.1 : Int)]) ++ shortS tx.2.1) tx.2.2 w2 W2.out.wr.wr (by first | omega | (simp only [List.length_append, List.length_cons, List.length_nil]; omega)) (by omega)).mono ?_
  rintro e w3 ⟨rfl, v3, h3⟩
  have W3 := hide (W2.out.step h3)
  clear h3
  clear x2_2
  go_wp2_with fail
  go_end0
  refine ⟨rfl, v3, ?_⟩
  have hE : xs ++ txC.enc tx = (((xs ++ [(tx.1 : Int)]) ++ shortS tx.2.1) ++ shortS tx.2.2) := by simp only [txC, pairC, byteN, numC, List.append_assoc, List.nil_append, List.cons_append]
  rw [hE]
  exact W3.out.wr
set_option maxRecDepth 100000 in
set_option maxHeartbeats 3200000 in
theorem rputReg_any (p : Nat) (v : Value) (xs : List Int) (g : Nat × Nat) (w : World) (h : RWr w p v xs) (hr : xs.length + 60 ≤ 140737488355328) (h1 : g.1 < 4294967296) (h2 : g.2 < 4294967296) :
    Calls Tryz.prog 40 #[.pointer (some ⟨p, 0, none⟩), .agg (rgE g).toArray] w fun e w' => e = .returned (.tuple #[]) ∧ ∃ v', RWrote w w' p v v' (xs ++ regC.enc g) := by
  have W0 := WSt.start h (rgE g).toArray 26
  obtain ⟨w0, hw0⟩ : ∃ w0, w0 = w.alloc (.cells (rgE g).toArray 26) := ⟨_, rfl⟩
  obtain ⟨q, hq⟩ : ∃ q, w.heap.size = q := ⟨_, rfl⟩
  rw [← hw0, hq] at W0
  have W0 := hide W0
  have hW := hw0.symm
  have e1 := wrap32 h1
  have e2 := wrap32 h2
  have l1 := shortS_len10 (n := g.1) (by omega)
  have l2 := shortS_len10 (n := g.2) (by omega)
  clear h hw0
  go_enter Tryz.func40, Tryz.ntmps40
  have x0_0 := W0.out.box.cell 0 (.int .u32 (g.1 : Int)) rfl
  go_wp2_with fail
  refine (rwnum_any p v xs g.1 w0 W0.out.wr.wr (by first | omega | (simp only [List.length_append, List.length_cons, List.length_nil]; omega)) (by omega)).mono ?_
  rintro e w1 ⟨rfl, v1, h1⟩
  have W1 := hide (W0.out.step h1)
  clear h1
  clear x0_0
  have x1_1 := W1.out.box.cell 1 (.int .u32 (g.2 : Int)) rfl
  go_wp2_with fail
  refine (rwnum_any p v1 (xs ++ shortS g.1) g.2 w1 W1.out.wr.wr (by first | omega | (simp only [List.length_append, List.length_cons, List.length_nil]; omega)) (by omega)).mono ?_
  rintro e w2 ⟨rfl, v2, h2⟩
  have W2 := hide (W1.out.step h2)
  clear h2
  clear x1_1
  go_wp2_with fail
  go_end0
  refine ⟨rfl, v2, ?_⟩
  have hE : xs ++ regC.enc g = ((xs ++ shortS g.1) ++ shortS g.2) := by simp only [regC, pairC, numC, List.append_assoc, List.nil_append, List.cons_append]
  rw [hE]
  exact W2.out.wr
theorem vote_at (c : Cf) {k : Nat} (h : k < 8) : (cfE c).toArray[3 + k]? = some (.int .u8 (atN c.vs k)) := by
  have hc : k = 0 ∨ k = 1 ∨ k = 2 ∨ k = 3 ∨ k = 4 ∨ k = 5 ∨ k = 6 ∨ k = 7 := by omega
  rcases hc with rfl | rfl | rfl | rfl | rfl | rfl | rfl | rfl <;> rfl
theorem rep_byte (l : List Nat) : repEnc byteN l = l.map (fun n : Nat => (n : Int)) := by
  unfold repEnc byteN
  induction l with
  | nil => rfl
  | cons a l ih => simp [ih]
theorem vote_next {l : List Nat} (hl : l.length = 8) {k : Nat} (h : k < 8) : (l.map (fun n : Nat => (n : Int))).take k ++ [atN l k] = (l.map (fun n : Nat => (n : Int))).take (k + 1) := by
  rw [List.take_succ_eq_append_getElem (by simpa [hl] using h)]
  simp [atN, List.getD, hl, h]
set_option maxRecDepth 100000 in
set_option maxHeartbeats 3200000 in
theorem rputCf_any (p : Nat) (v : Value) (xs : List Int) (c : Cf) (w : World) (h : RWr w p v xs) (hr : xs.length + 80 ≤ 140737488355328) (h1 : c.e < 4294967296) (h2 : c.r < 256) (h3 : c.w < 256) (hv : c.vs.length = 8) :
    Calls Tryz.prog 93 #[.pointer (some ⟨p, 0, none⟩), .agg (cfE c).toArray] w fun e w' => e = .returned (.tuple #[]) ∧ ∃ v', RWrote w w' p v v' (xs ++ cfC.enc c) := by
  have W0 := WSt.start h (cfE c).toArray 33
  obtain ⟨w0, hw0⟩ : ∃ w0, w0 = w.alloc (.cells (cfE c).toArray 33) := ⟨_, rfl⟩
  obtain ⟨q, hq⟩ : ∃ q, w.heap.size = q := ⟨_, rfl⟩
  rw [← hw0, hq] at W0
  have W0 := hide W0
  have hW := hw0.symm
  have e1 := wrap32 h1
  have e2 := wrap32 (n := c.r) (by omega)
  have e3 := wrap32 (n := c.w) (by omega)
  have l1 := shortS_len10 (n := c.e) (by omega)
  have l2 := shortS_len10 (n := c.r) (by omega)
  have l3 := shortS_len10 (n := c.w) (by omega)
  clear h hw0
  go_enter Tryz.func93, Tryz.ntmps93
  have x0_0 := W0.out.box.cell 0 (.int .u32 (c.e : Int)) rfl
  go_wp2_with fail
  refine (rwnum_any p v xs c.e w0 W0.out.wr.wr (by first | omega | (simp only [List.length_append, List.length_cons, List.length_nil]; omega)) (by omega)).mono ?_
  rintro e w1 ⟨rfl, v1, h1⟩
  have W1 := hide (W0.out.step h1)
  clear h1
  clear x0_0
  have x1_1 := W1.out.box.cell 1 (.int .u8 (c.r : Int)) rfl
  go_wp2_with fail
  refine (rwnum_any p v1 (xs ++ shortS c.e) c.r w1 W1.out.wr.wr (by first | omega | (simp only [List.length_append, List.length_cons, List.length_nil]; omega)) (by omega)).mono ?_
  rintro e w2 ⟨rfl, v2, h2⟩
  have W2 := hide (W1.out.step h2)
  clear h2
  clear x1_1
  have x2_2 := W2.out.box.cell 2 (.int .u8 (c.w : Int)) rfl
  go_wp2_with fail
  refine (rwnum_any p v2 ((xs ++ shortS c.e) ++ shortS c.r) c.w w2 W2.out.wr.wr (by first | omega | (simp only [List.length_append, List.length_cons, List.length_nil]; omega)) (by omega)).mono ?_
  rintro e w3 ⟨rfl, v3, h3⟩
  have W3 := hide (W2.out.step h3)
  clear h3
  clear x2_2
  clear e1 e2 e3
  obtain ⟨ys, hys⟩ : ∃ ys, ys = xs ++ shortS c.e ++ shortS c.r ++ shortS c.w := ⟨_, rfl⟩
  rw [← hys] at W3
  have hyl : ys.length ≤ xs.length + 30 := by rw [hys]; simp only [List.length_append]; omega
  have HYS := hide hys
  have HV := hide hv
  clear hys l1 l2 l3
  go_wp2_with fail
  go_loopg [4] 8 (fun g i wr => ∃ (k : Nat) (vk : Value), k + g = 8 ∧ i = .int .i64 k ∧ Hid (WSt w wr p q (cfE c).toArray 33 v vk (ys ++ (c.vs.map (fun n : Nat => (n : Int))).take k)))
  case atStart => exact ⟨0, v3, by omega, rfl, hide (by rw [List.take_zero, List.append_nil]; exact W3.out)⟩
  case round =>
    obtain ⟨k, vk, hk, rfl, WK⟩ := hrel
    clear W3 W2 W1 W0
    cases gk with
    | zero =>
      obtain rfl : k = 8 := by omega
      go_wp2_with fail
      go_end0
      refine ⟨rfl, vk, ?_⟩
      have hE : xs ++ cfC.enc c = ys ++ (c.vs.map (fun n : Nat => (n : Int))).take 8 := by
        rw [HYS.out, List.take_of_length_le (by simp [HV.out])]
        simp only [cfC, isoC, pairC, numC, repC, rep_byte, List.append_assoc]
      rw [hE]
      exact WK.out.wr
    | succ g =>
      have hk8 : k < 8 := by omega
      have hz : (k : Int) < 8 := by omega
      have hz0 : (0 : Int) ≤ (k : Int) := by omega
      have xk := WK.out.box.cell (3 + k) _ (vote_at c hk8)
      go_wp2_with fail
      refine (rwbyte_any p vk (ys ++ (c.vs.map (fun n : Nat => (n : Int))).take k) (atN c.vs k) wr WK.out.wr.wr (by simp only [List.length_append, List.length_take]; omega)).mono ?_
      rintro e w5 ⟨rfl, v5, h5⟩
      have W5 := hide (WK.out.step h5)
      clear h5 xk
      go_wp2_with fail
      go_roundg g
      case measure => omega
      case rel => exact ⟨k + 1, v5, by omega, by first | rfl | go_num, hide (by rw [← vote_next HV.out hk8, ← List.append_assoc]; exact W5.out)⟩
end
section
open Go.RowKit Classical

set_option linter.unusedSimpArgs false
theorem strI_of10 (l : List Int) (hl : ∀ c ∈ l, 0 ≤ c ∧ c < 256) : strI (strOfNums l) = l := by
  unfold strI strOfNums
  simp only [List.map_map]
  conv => rhs; rw [← List.map_id l]
  apply List.map_congr_left
  intro c hc
  have := hl c hc
  show ((UInt8.ofNat c.toNat).toNat : Int) = c
  rw [UInt8.toNat_ofNat']
  omega
theorem rtextI_any (p : Nat) (v : Value) (xs l : List Int) (w : World) (hl : ∀ c ∈ l, 0 ≤ c ∧ c < 256) (h : RWr w p v xs) (hr : xs.length + l.length + 20 ≤ 140737488355328) :
    Calls Tryz.prog 92 #[.pointer (some ⟨p, 0, none⟩), .string (strOfNums l)] w fun e w' => e = .returned (.tuple #[]) ∧ ∃ v', RWrote w w' p v v' (xs ++ (shortS l.length ++ l)) := by
  have := rwtext_any p v xs (strOfNums l) w h (by rw [strOf_size10]; omega)
  rw [strOf_size10, strI_of10 l hl, List.append_assoc] at this
  exact this
theorem rkeyI_any (p : Nat) (v : Value) (xs k : List Int) (w : World) (hk : k.length = 8) (h : RWr w p v xs) (hr : xs.length + 20 ≤ 140737488355328) :
    Calls Tryz.prog 37 #[.pointer (some ⟨p, 0, none⟩), .agg (eightA k)] w fun e w' => e = .returned (.tuple #[]) ∧ ∃ v', RWrote w w' p v v' (xs ++ k) := by
  have := rwkey_any p v xs k w hk h hr
  rw [← eightE_map hk] at this
  exact this
set_option maxRecDepth 100000 in
set_option maxHeartbeats 3200000 in
theorem rputItem_any (p : Nat) (v : Value) (xs : List Int) (i : ItP) (w : World) (h : RWr w p v xs) (hr : xs.length + 200 ≤ 140737488355328) (hi : ItOk i) (hl : xs.length + i.val.length + 200 ≤ 140737488355328) :
    Calls Tryz.prog 38 #[.pointer (some ⟨p, 0, none⟩), .agg (itA i)] w fun e w' => e = .returned (.tuple #[]) ∧ ∃ v', RWrote w w' p v v' (xs ++ itC.enc i) := by
  have W0 := WSt.start h (itA i) 35
  obtain ⟨w0, hw0⟩ : ∃ w0, w0 = w.alloc (.cells (itA i) 35) := ⟨_, rfl⟩
  obtain ⟨q, hq⟩ : ∃ q, w.heap.size = q := ⟨_, rfl⟩
  rw [← hw0, hq] at W0
  have W0 := hide W0
  have hW := hw0.symm
  have h0 := hi.v
  have e1 := wrap32 h0
  have l1 := shortS_len10 (n := i.ver) (by omega)
  have l2 := shortS_len10 (n := i.val.length) (by omega)
  have HCF : Hid (i.cf.e < 4294967296 ∧ i.cf.r < 256 ∧ i.cf.w < 256 ∧ i.cf.vs.length = 8) := hide ⟨hi.c.e, hi.c.r, hi.c.w, hi.c.l⟩
  clear h hw0
  go_enter Tryz.func38, Tryz.ntmps38
  have x0_0 := W0.out.box.cell 0 (.int .u32 (i.ver : Int)) rfl
  go_wp2_with fail
  refine (rwnum_any p v xs i.ver w0 W0.out.wr.wr (by first | omega | (simp only [List.length_append, List.length_cons, List.length_nil]; omega)) (by omega)).mono ?_
  rintro e w1 ⟨rfl, v1, h1⟩
  have W1 := hide (W0.out.step h1)
  clear h1
  clear x0_0
  have x1_1 := W1.out.box.cell 1 (.string (strOfNums i.val)) rfl
  go_wp2_with fail
  refine (rtextI_any p v1 (xs ++ shortS i.ver) i.val w1 hi.s W1.out.wr.wr (by first | omega | (simp only [List.length_append, List.length_cons, List.length_nil]; omega))).mono ?_
  rintro e w2 ⟨rfl, v2, h2⟩
  have W2 := hide (W1.out.step h2)
  clear h2
  clear x1_1
  have x2_2 := W2.out.box.cell 2 (.int .u32 (i.cf.e : Int)) rfl
  have x2_3 := W2.out.box.cell 3 (.int .u8 (i.cf.r : Int)) rfl
  have x2_4 := W2.out.box.cell 4 (.int .u8 (i.cf.w : Int)) rfl
  have x2_5 := W2.out.box.cell 5 (.int .u8 (atN i.cf.vs 0)) rfl
  have x2_6 := W2.out.box.cell 6 (.int .u8 (atN i.cf.vs 1)) rfl
  have x2_7 := W2.out.box.cell 7 (.int .u8 (atN i.cf.vs 2)) rfl
  have x2_8 := W2.out.box.cell 8 (.int .u8 (atN i.cf.vs 3)) rfl
  have x2_9 := W2.out.box.cell 9 (.int .u8 (atN i.cf.vs 4)) rfl
  have x2_10 := W2.out.box.cell 10 (.int .u8 (atN i.cf.vs 5)) rfl
  have x2_11 := W2.out.box.cell 11 (.int .u8 (atN i.cf.vs 6)) rfl
  have x2_12 := W2.out.box.cell 12 (.int .u8 (atN i.cf.vs 7)) rfl
  go_wp2_with fail
  refine (rputCf_any p v2 ((xs ++ shortS i.ver) ++ (shortS i.val.length ++ i.val)) i.cf w2 W2.out.wr.wr (by first | omega | (simp only [List.length_append, List.length_cons, List.length_nil]; omega)) HCF.out.1 HCF.out.2.1 HCF.out.2.2.1 HCF.out.2.2.2).mono ?_
  rintro e w3 ⟨rfl, v3, h3⟩
  have W3 := hide (W2.out.step h3)
  clear h3
  clear x2_2
  clear x2_3
  clear x2_4
  clear x2_5
  clear x2_6
  clear x2_7
  clear x2_8
  clear x2_9
  clear x2_10
  clear x2_11
  clear x2_12
  go_wp2_with fail
  go_end0
  refine ⟨rfl, v3, ?_⟩
  have hE : xs ++ itC.enc i = (((xs ++ shortS i.ver) ++ (shortS i.val.length ++ i.val)) ++ cfC.enc i.cf) := by simp only [itC, isoC, pairC, numC, textC, List.append_assoc, List.nil_append, List.cons_append]
  rw [hE]
  exact W3.out.wr
/-- A writer made since 'w0'. -/
structure WBl (w0 w : World) (p : Nat) (v : Value) (xs : List Int) : Prop where
  wr : RWr w p v xs
  bl : Below w0.heap.size w0 w
  hp : w0.heap.size ≤ p
  hv : ∀ g, v.ownBlock = some g → w0.heap.size ≤ g
theorem WBl.step {w0 w w' : World} {p : Nat} {v v' : Value} {xs ys : List Int} (h : WBl w0 w p v xs) (h2 : RWrote w w' p v v' ys) : WBl w0 w' p v' ys := by
  refine ⟨h2.wr, h.bl.trans (h2.keep.below h.bl.size (fun k e => ?_)), h.hp, fun g e => ?_⟩
  · rcases e with e | e
    · rw [e]; exact h.hp
    · exact h.hv _ e
  · rcases h2.place with e2 | ⟨g2, e2, hg⟩
    · exact h.hv g (e2.symm.trans e)
    · rw [e2] at e
      cases e
      exact Nat.le_trans h.bl.size hg
set_option maxRecDepth 100000 in
set_option maxHeartbeats 3200000 in
theorem rputWrites_any (w0 : World) (p : Nat) (v : Value) (xs : List Int) (ao : Option Addr) (n c : Nat) (ws : List WrP) (w : World) (h : WBl w0 w p v xs) (hs : RSrc wrE w0 (.slice ao n c) ws) (hr : xs.length + 10000 ≤ 140737488355328)
    (hok : ∀ x ∈ ws, KeyOk x.key ∧ ItOk x.it) (hwo : ∀ x ∈ ws, wrOk x) (hln : ws.length ≤ 16) :
    Calls Tryz.prog 41 #[.pointer (some ⟨p, 0, none⟩), .slice ao n c] w fun e w' => e = .returned (.tuple #[]) ∧ ∃ v', WBl w0 w' p v' (xs ++ wsC.enc ws) := by
  obtain ⟨a1, c1, he, _, _⟩ := hs.shape
  cases he
  have HS := hide hs
  have HO := hide hok
  have HW := hide hwo
  have H0 := hide h
  obtain ⟨L, hL⟩ : ∃ L, L = ws.length := ⟨_, rfl⟩
  rw [← hL] at HS hln ⊢
  have HL := hide hL
  have l1 := shortS_len10 (n := L) (by omega)
  have e1 := wrap32 (n := L) (by omega)
  clear h hs hok hwo hL
  go_enter Tryz.func41, Tryz.ntmps41
  go_wp2_with fail
  refine (rwnum_any p v xs L w H0.out.wr (by omega) (by omega)).mono ?_
  rintro e w1 ⟨rfl, v1, h1⟩
  have W1 := hide (H0.out.step h1)
  clear h1 H0 e1
  obtain ⟨ys, hys⟩ : ∃ ys, ys = xs ++ shortS L := ⟨_, rfl⟩
  rw [← hys] at W1
  have hyl : ys.length ≤ xs.length + 10 := by rw [hys, List.length_append]; omega
  have HYS := hide hys
  clear hys l1
  go_wp2_with fail
  go_loopg [4] L (fun g i wr => ∃ (k : Nat) (vk : Value), k + g = L ∧ i = .int .i64 k ∧ Hid (WBl w0 wr p vk (ys ++ repEnc wrC (ws.take k))))
  case atStart => exact ⟨0, v1, by omega, rfl, hide (by rw [List.take_zero]; show WBl w0 _ p v1 (ys ++ []); rw [List.append_nil]; exact W1.out)⟩
  case round =>
    clear W1
    obtain ⟨k, vk, hk, rfl, WK⟩ := hrel
    cases gk with
    | zero =>
      obtain rfl : k = L := by omega
      have hz : ¬ ((k : Int) < (k : Int)) := by omega
      go_wp2_with fail
      go_end0
      refine ⟨rfl, vk, ?_⟩
      have hE : xs ++ wsC.enc ws = ys ++ repEnc wrC (ws.take k) := by
        rw [HYS.out, HL.out, List.take_length, List.append_assoc]
        rfl
      rw [hE]
      exact WK.out
    | succ g =>
      have hz : (k : Int) < (L : Int) := by omega
      have hz0 : (0 : Int) ≤ (k : Int) := by omega
      have hkl : k < ws.length := by rw [← HL.out]; omega
      have hS1 := HS.out.below WK.out.bl
      obtain ⟨b1, o1, rfl, hr1⟩ := hS1.range hkl
      obtain ⟨x, hx⟩ : ∃ x, x = ws[k] := ⟨_, rfl⟩
      rw [← hx] at hr1
      have HXO : Hid (KeyOk x.key ∧ ItOk x.it) := hide (by rw [hx]; exact HO.out _ (List.getElem_mem hkl))
      have HXW : Hid (wrOk x) := hide (by rw [hx]; exact HW.out _ (List.getElem_mem hkl))
      have HN : Hid (ys ++ repEnc wrC (ws.take k) ++ x.key ++ itC.enc x.it = ys ++ repEnc wrC (ws.take (k + 1))) := hide (by
        rw [List.take_succ_eq_append_getElem hkl, ← hx]
        simp only [repEnc, List.flatMap_append, List.flatMap_cons, List.flatMap_nil, List.append_nil, List.append_assoc]
        rfl)
      have hlk : (repEnc wrC (ws.take k)).length ≤ 1600 := by
        have := ws_len (ws.take k) (fun y hy => HW.out y (List.mem_of_mem_take hy))
        have h2 : (ws.take k).length ≤ 16 := by rw [List.length_take]; omega
        omega
      obtain ⟨zs, hzs⟩ : ∃ zs, zs = ys ++ repEnc wrC (ws.take k) := ⟨_, rfl⟩
      have hzl : zs.length ≤ ys.length + 1600 := by rw [hzs, List.length_append]; omega
      rw [← hzs] at WK HN
      have HR1 := hide hr1
      have HR2 : Hid (∀ W, Below w0.heap.size w0 W → W.rangeAt b1 (o1 + k * 21) (wrE x)) := hide (fun W hB => by
        obtain ⟨b2, o2, e2, hr2⟩ := (HS.out.below hB).range hkl
        cases e2
        rw [hx]
        exact hr2)
      clear hzs hlk hS1 hr1 hx hkl
      go_wp2_with (refine wpList_load_mid rfl _ _ rfl b1 (o1 + k * 21) rfl (eightE x.key) _ (range_key HR1.out) Tryz.underlying31 rfl infoKey10 ?_)
      refine (rkeyI_any p vk zs x.key wr HXO.out.1.l WK.out.wr (by omega)).mono ?_
      rintro e w5 ⟨rfl, v5, h5⟩
      have W5 := hide (WK.out.step h5)
      clear h5
      have hl5 : (zs ++ x.key).length ≤ zs.length + 8 := by rw [List.length_append, HXO.out.1.l]; omega
      have hiv : x.it.val.length ≤ 64 := HXW.out.2.2.1
      have HR5 := hide (HR2.out w5 W5.out.bl)
      go_wp2_with (refine wpList_load_mid rfl _ _ rfl b1 (o1 + k * 21 + 8) rfl (itE x.it) _ (range_item HR5.out) Tryz.underlying35 rfl infoItem ?_)
      refine (rputItem_any p v5 (zs ++ x.key) x.it w5 W5.out.wr (by omega) HXO.out.2 (by omega)).mono ?_
      rintro e w6 ⟨rfl, v6, h6⟩
      have W6 := hide (W5.out.step h6)
      clear h6
      rw [HN.out] at W6
      go_wp2_with fail
      go_roundg g
      case measure => omega
      case rel => exact ⟨k + 1, v6, by omega, by first | rfl | go_num, W6⟩
end
section
open Go.RowKit Classical

/-- A writer, and a variable beside it. -/
structure CSt (w w' : World) (p q : Nat) (cs : Array Value) (t : TypeId) (v v' : Value) (ys : List Int) : Prop where
  wr : CWrote w w' p v v' ys
  box : Box w' q cs t
  off : v'.ownBlock ≠ some q
  ne : q ≠ p
theorem CWrote.alloc {w : World} {p : Nat} {v : Value} {xs : List Int} (h : CW w p v xs) (o : Obj) : CWrote w (w.alloc o) p v v xs :=
  ⟨h.below ((Below.refl _ _).alloc (Nat.le_refl _) _), (KeepBut.refl _ _).alloc _, .inl rfl⟩
theorem CW.lt {w : World} {p : Nat} {v : Value} {xs : List Int} (h : CW w p v xs) : p < w.heap.size := h.box.lt
theorem CSt.start {w : World} {p : Nat} {v : Value} {xs : List Int} (h : CW w p v xs) (cs : Array Value) (t : TypeId) : CSt w (w.alloc (.cells cs t)) p w.heap.size cs t v v xs := by
  refine ⟨CWrote.alloc h _, box_new _ _ _, fun e => ?_, fun e => ?_⟩
  · have := owns_lt h.own e
    omega
  · have := h.lt
    omega
theorem CSt.step {w w1 w2 : World} {p q : Nat} {cs : Array Value} {t : TypeId} {v v1 v2 : Value} {ys zs : List Int} (h : CSt w w1 p q cs t v v1 ys) (h2 : CWrote w1 w2 p v1 v2 zs) : CSt w w2 p q cs t v v2 zs := by
  refine ⟨h.wr.trans h2, h.box.keep h2.keep (fun e => ?_), fun e => ?_, h.ne⟩
  · rcases e with e | e
    · exact h.ne e
    · exact h.off e
  · rcases h2.place with e2 | ⟨g, e2, hg⟩
    · exact h.off (e2.symm.trans e)
    · rw [e2] at e
      cases e
      have := h.box.lt
      omega
/-- A writer made since 'w0'. -/
structure CBl (w0 w : World) (p : Nat) (v : Value) (xs : List Int) : Prop where
  wr : CW w p v xs
  bl : Below w0.heap.size w0 w
  hp : w0.heap.size ≤ p
  hv : ∀ g, v.ownBlock = some g → w0.heap.size ≤ g
theorem CBl.step {w0 w w' : World} {p : Nat} {v v' : Value} {xs ys : List Int} (h : CBl w0 w p v xs) (h2 : CWrote w w' p v v' ys) : CBl w0 w' p v' ys := by
  refine ⟨h2.wr, h.bl.trans (h2.keep.below h.bl.size (fun k e => ?_)), h.hp, fun g e => ?_⟩
  · rcases e with e | e
    · rw [e]; exact h.hp
    · exact h.hv _ e
  · rcases h2.place with e2 | ⟨g2, e2, hg⟩
    · exact h.hv g (e2.symm.trans e)
    · rw [e2] at e
      cases e
      exact Nat.le_trans h.bl.size hg
theorem CBl.below {w0 w w' : World} {p : Nat} {v : Value} {xs : List Int} (h : CBl w0 w p v xs) (hB : Below w.heap.size w w') : CBl w0 w' p v xs := ⟨h.wr.below hB, h.bl.trans (hB.mono h.bl.size), h.hp, h.hv⟩
theorem ctextI_any (p : Nat) (v : Value) (xs l : List Int) (w : World) (hl : ∀ c ∈ l, 0 ≤ c ∧ c < 256) (h : CW w p v xs) (hr : xs.length + l.length + 100 ≤ 140737488355328) :
    Calls Tryz.prog 153 #[.pointer (some ⟨p, 0, none⟩), .string (strOfNums l)] w fun e w' => e = .returned (.tuple #[]) ∧ ∃ v', CWrote w w' p v v' (xs ++ (shortS l.length ++ l)) := by
  have hs : (strOfNums l).size = l.length := strOf_size10 l
  have C := cwtext_any p v xs (strOfNums l) w h (by unfold roomFor; omega)
  rw [hs, strI_of10 l hl, List.append_assoc] at C
  exact C
theorem ckeyI_any (p : Nat) (v : Value) (xs k : List Int) (w : World) (hk : k.length = 8) (h : CW w p v xs) (hr : xs.length + 100 ≤ 140737488355328) :
    Calls Tryz.prog 79 #[.pointer (some ⟨p, 0, none⟩), .agg (eightA k)] w fun e w' => e = .returned (.tuple #[]) ∧ ∃ v', CWrote w w' p v v' (xs ++ k) := by
  have := cwkey_any p v xs k w h (by unfold roomFor; omega) hk
  rw [← eightE_map hk] at this
  exact this
theorem putB_cf {c : Cf} : putB c = cfC.enc c := by
  simp only [putB, cfC, isoC, pairC, numC, repC, rep_byte, natI]
theorem cputCf_any (p : Nat) (v : Value) (xs : List Int) (c : Cf) (w : World) (h : CW w p v xs) (hl : xs.length ≤ 1000000) (hok : c.Ok) :
    Calls Tryz.prog 154 #[.pointer (some ⟨p, 0, none⟩), .agg (cfE c).toArray] w fun e w' => e = .returned (.tuple #[]) ∧ ∃ v', CWrote w w' p v v' (xs ++ cfC.enc c) := by
  have := put_any6 p v xs c w h hl hok
  rw [putB_cf, cf_arr hok] at this
  exact this
theorem it_conf {w : World} {p : Nat} {i : ItP} {t : TypeId} (h : Box w p (itA i) t) : w.rangeAt p 2 (cfE i.cf) := box_range h 2 _ (fun j u hu => by
  match j, hu with
  | 0, hu => exact hu
  | 1, hu => exact hu
  | 2, hu => exact hu
  | 3, hu => exact hu
  | 4, hu => exact hu
  | 5, hu => exact hu
  | 6, hu => exact hu
  | 7, hu => exact hu
  | 8, hu => exact hu
  | 9, hu => exact hu
  | 10, hu => exact hu
  | j + 11, hu => simp at hu)
set_option maxRecDepth 100000 in
set_option maxHeartbeats 3200000 in
theorem putItem_any (p : Nat) (v : Value) (xs : List Int) (i : ItP) (w : World) (h : CW w p v xs) (hr : xs.length ≤ 100000) (hi : ItOk i) (hl : i.val.length ≤ 100000) :
    Calls Tryz.prog 83 #[.pointer (some ⟨p, 0, none⟩), .agg (itA i)] w fun e w' => e = .returned (.tuple #[]) ∧ ∃ v', CWrote w w' p v v' (xs ++ itC.enc i) := by
  have W0 := CSt.start h (itA i) 35
  obtain ⟨w0, hw0⟩ : ∃ w0, w0 = w.alloc (.cells (itA i) 35) := ⟨_, rfl⟩
  obtain ⟨q, hq⟩ : ∃ q, w.heap.size = q := ⟨_, rfl⟩
  rw [← hw0, hq] at W0
  have W0 := hide W0
  have hW := hw0.symm
  have h0 := hi.v
  have l1 := shortS_len10 (n := i.ver) (by omega)
  have l2 := shortS_len10 (n := i.val.length) (by omega)
  have HCF := hide hi.c
  have HIS := hide hi.s
  clear h hw0
  go_enter Tryz.func83, Tryz.ntmps83
  have x0_0 := W0.out.box.cell 0 (.int .u32 (i.ver : Int)) rfl
  go_wp2_with fail
  refine (putCount_any p v xs i.ver w0 W0.out.wr.wr (by unfold roomFor; omega) (by omega)).mono ?_
  rintro e w1 ⟨rfl, v1, h1⟩
  have W1 := hide (W0.out.step h1)
  clear h1
  clear x0_0
  have x1_1 := W1.out.box.cell 1 (.string (strOfNums i.val)) rfl
  go_wp2_with fail
  refine (ctextI_any p v1 (xs ++ shortS i.ver) i.val w1 HIS.out W1.out.wr.wr (by simp only [List.length_append]; omega)).mono ?_
  rintro e w2 ⟨rfl, v2, h2⟩
  have W2 := hide (W1.out.step h2)
  clear h2
  clear x1_1
  have HRC : Hid (w2.rangeAt q 2 (cfE i.cf)) := hide (it_conf W2.out.box)
  go_wp2_with (refine wpList_load_mid rfl _ _ rfl q 2 rfl (cfE i.cf) _ HRC.out Tryz.underlying33 rfl infoCfg ?_)
  refine (cputCf_any p v2 ((xs ++ shortS i.ver) ++ (shortS i.val.length ++ i.val)) i.cf w2 W2.out.wr.wr (by simp only [List.length_append]; omega) HCF.out).mono ?_
  rintro e w3 ⟨rfl, v3, h3⟩
  have W3 := hide (W2.out.step h3)
  clear h3 HRC
  go_wp2_with fail
  go_end0
  refine ⟨rfl, v3, ?_⟩
  have hE : xs ++ itC.enc i = (((xs ++ shortS i.ver) ++ (shortS i.val.length ++ i.val)) ++ cfC.enc i.cf) := by simp only [itC, isoC, pairC, numC, textC, List.append_assoc]
  rw [hE]
  exact W3.out.wr
theorem wr_oneA (x : WrP) : (wrA x).all (·.oneCell') = true := by
  rw [Array.all_eq_true_iff_forall_mem]
  intro u hu
  exact wr_one x u (by simpa using hu)
set_option maxRecDepth 100000 in
set_option maxHeartbeats 3200000 in
theorem putWrites_any (w0 : World) (p : Nat) (v : Value) (xs : List Int) (ao : Option Addr) (n c : Nat) (ws : List WrP) (w : World) (h : CBl w0 w p v xs) (hs : RSrc wrE w0 (.slice ao n c) ws) (hr : xs.length ≤ 50000)
    (hok : ∀ x ∈ ws, KeyOk x.key ∧ ItOk x.it) (hwo : ∀ x ∈ ws, wrOk x) (hln : ws.length ≤ 16) :
    Calls Tryz.prog 131 #[.pointer (some ⟨p, 0, none⟩), .slice ao n c] w fun e w' => e = .returned (.tuple #[]) ∧ ∃ v', CWrote w w' p v v' (xs ++ wsC.enc ws) := by
  obtain ⟨a1, c1, he, _, _⟩ := hs.shape
  cases he
  have HS := hide hs
  have HO := hide hok
  have HW := hide hwo
  have H0 := hide h
  obtain ⟨L, hL⟩ : ∃ L, L = ws.length := ⟨_, rfl⟩
  rw [← hL] at HS hln ⊢
  have HL := hide hL
  have l1 := shortS_len10 (n := L) (by omega)
  have e1 := wrap32 (n := L) (by omega)
  clear h hs hok hwo hL
  go_enter Tryz.func131, Tryz.ntmps131
  go_wp2_with fail
  refine (cwnum_any p v xs L w H0.out.wr (by unfold roomFor; omega) (by omega)).mono ?_
  rintro e w1 ⟨rfl, v1, h1⟩
  have W1 := hide (H0.out.step h1)
  have C1 := hide h1
  clear h1 e1 H0
  obtain ⟨ys, hys⟩ : ∃ ys, ys = xs ++ shortS L := ⟨_, rfl⟩
  rw [← hys] at W1 C1
  have hyl : ys.length ≤ xs.length + 10 := by rw [hys, List.length_append]; omega
  have HYS := hide hys
  clear hys l1
  go_wp2_with fail
  go_loopg [13] L (fun g i wr => ∃ (k : Nat) (vk : Value), k + g = L ∧ i = .int .i64 k ∧ Hid (CBl w0 wr p vk (ys ++ repEnc wrC (ws.take k))) ∧ Hid (CWrote w wr p v vk (ys ++ repEnc wrC (ws.take k))))
  case atStart => exact ⟨0, v1, by omega, rfl, hide (by rw [List.take_zero]; show CBl w0 _ p v1 (ys ++ []); rw [List.append_nil]; exact W1.out), hide (by rw [List.take_zero]; show CWrote w _ p v v1 (ys ++ []); rw [List.append_nil]; exact C1.out)⟩
  case round =>
    clear W1 C1
    obtain ⟨k, vk, hk, rfl, WK, CK⟩ := hrel
    cases gk with
    | zero =>
      obtain rfl : k = L := by omega
      have hz : ¬ ((k : Int) < (k : Int)) := by omega
      go_wp2_with fail
      go_end0
      refine ⟨rfl, vk, ?_⟩
      have hE : xs ++ wsC.enc ws = ys ++ repEnc wrC (ws.take k) := by
        rw [HYS.out, HL.out, List.take_length, List.append_assoc]
        rfl
      rw [hE]
      exact CK.out
    | succ g =>
      have hz : (k : Int) < (L : Int) := by omega
      have hz0 : (0 : Int) ≤ (k : Int) := by omega
      have hkl : k < ws.length := by rw [← HL.out]; omega
      have hS1 := HS.out.below WK.out.bl
      obtain ⟨b1, o1, rfl, hr1⟩ := hS1.range hkl
      obtain ⟨x, hx⟩ : ∃ x, x = ws[k] := ⟨_, rfl⟩
      rw [← hx] at hr1
      have HXO : Hid (KeyOk x.key ∧ ItOk x.it) := hide (by rw [hx]; exact HO.out _ (List.getElem_mem hkl))
      have HXW : Hid (wrOk x) := hide (by rw [hx]; exact HW.out _ (List.getElem_mem hkl))
      have HN : Hid (ys ++ repEnc wrC (ws.take k) ++ x.key ++ itC.enc x.it = ys ++ repEnc wrC (ws.take (k + 1))) := hide (by
        rw [List.take_succ_eq_append_getElem hkl, ← hx]
        simp only [repEnc, List.flatMap_append, List.flatMap_cons, List.flatMap_nil, List.append_nil, List.append_assoc]
        rfl)
      have hlk : (repEnc wrC (ws.take k)).length ≤ 1600 := by
        have := ws_len (ws.take k) (fun y hy => HW.out y (List.mem_of_mem_take hy))
        have h2 : (ws.take k).length ≤ 16 := by rw [List.length_take]; omega
        omega
      obtain ⟨zs, hzs⟩ : ∃ zs, zs = ys ++ repEnc wrC (ws.take k) := ⟨_, rfl⟩
      have hzl : zs.length ≤ ys.length + 1600 := by rw [hzs, List.length_append]; omega
      rw [← hzs] at WK HN CK
      have HR1 := hide hr1
      have hiv : x.it.val.length ≤ 64 := HXW.out.2.2.1
      clear hzs hlk hS1 hr1 hx hkl
      have HZ := hide (box_new wr (wrA zeroWr) 61)
      have HBA := hide (alloc_below10 wr (.cells (wrA zeroWr) 61))
      have HPL := hide WK.out.wr.lt
      have HVL : Hid (∀ g, vk.ownBlock = some g → g < wr.heap.size) := hide (fun g hg => owns_lt WK.out.wr.own hg)
      go_wp2_with (first
        | (refine wpList_load_mid rfl _ _ rfl b1 (o1 + k * 21) rfl (wrE x) _ HR1.out Tryz.underlying61 rfl infoWrite ?_)
        | (refine wp_store_box rfl rfl _ _ rfl wr.heap.size rfl (cs' := wrA x) rfl HZ.out rfl infoWrite (wr_oneA x) ?_; intro w4 hb4 hk4; have HX4 := hide hb4; have HK4 := hide hk4; have HRK := hide (range_key (x := x) (box_range hb4 0 _ (fun j u hu => by rw [Nat.zero_add, List.getElem?_toArray]; exact hu))); clear hb4 hk4)
        | (refine wpList_load_mid rfl _ _ rfl wr.heap.size 0 rfl (eightE x.key) _ HRK.out Tryz.underlying31 rfl infoKey10 ?_))
      have S4 : Hid (CSt wr w4 p wr.heap.size (wrA x) 61 vk vk zs) := hide (by
        have hbl : Below wr.heap.size wr w4 := HBA.out.trans (HK4.out.below HBA.out.size (fun k e => by omega))
        refine ⟨⟨WK.out.wr.below hbl, KeepBut.of_below _ hbl, .inl rfl⟩, HX4.out, fun e => ?_, ?_⟩
        · have := HVL.out _ e
          omega
        · have := HPL.out
          omega)
      clear HX4 HK4 HZ HBA HRK
      refine (ckeyI_any p vk zs x.key w4 HXO.out.1.l S4.out.wr.wr (by omega)).mono ?_
      rintro e w5 ⟨rfl, v5, h5⟩
      have S5 := hide (S4.out.step h5)
      clear h5 S4
      have hl5 : (zs ++ x.key).length ≤ zs.length + 8 := by rw [List.length_append, HXO.out.1.l]; omega
      have HR5 := hide (range_item (x := x) (box_range S5.out.box 0 _ (fun j u hu => by rw [Nat.zero_add, List.getElem?_toArray]; exact hu)))
      go_wp2_with (refine wpList_load_mid rfl _ _ rfl wr.heap.size (0 + 8) rfl (itE x.it) _ HR5.out Tryz.underlying35 rfl infoItem ?_)
      refine (putItem_any p v5 (zs ++ x.key) x.it w5 S5.out.wr.wr (by omega) HXO.out.2 (by omega)).mono ?_
      rintro e w6 ⟨rfl, v6, h6⟩
      have S6 := hide (S5.out.step h6)
      clear h6
      rw [HN.out] at S6
      go_wp2_with fail
      go_roundg g
      case measure => omega
      case rel => exact ⟨k + 1, v6, by omega, by first | rfl | go_num, hide (WK.out.step S6.out.wr), hide (CK.out.trans S6.out.wr)⟩
end
end Go.Proofs.YtencmgepffdodaaGreat
