/-
  Own texts put together: MpFo, MpEnc, MpGa. Own work.
-/
import Derived.Test.YtoppdelljjapoaaGreatG28
import Derived.Test.YtoppdelljjapoaaGreatG37
import Derived.Test.YtoppdelljjapoaaGreatG36
namespace Go.Proofs.YtoppdelljjapoaaGreat
section
open Go.RowKit Classical

set_option maxRecDepth 100000 in
set_option maxHeartbeats 1600000 in
theorem fieldsOf_new (kind : Nat) (w : World) : Calls Tryz.prog 41 #[.int .u8 (kind : Int)] w fun e w' => ∃ v, e = .returned v ∧ Lies .i64 w' v (natsI (fieldsN kind)) ∧ (∀ g, v.ownBlock = some g → w.heap.size ≤ g) ∧ Below w.heap.size w w' := by
  by_cases h : fieldsN kind = []
  · rw [h]
    have d1 : ((kind : Int) == 1) = false := by
      rw [Bool.eq_false_iff]
      intro e
      have e : kind = 1 := by simp at e; omega
      rw [e] at h
      cases h
    have d2 : ((kind : Int) == 2) = false := by
      rw [Bool.eq_false_iff]
      intro e
      have e : kind = 2 := by simp at e; omega
      rw [e] at h
      cases h
    have d3 : ((kind : Int) == 3) = false := by
      rw [Bool.eq_false_iff]
      intro e
      have e : kind = 3 := by simp at e; omega
      rw [e] at h
      cases h
    have d4 : ((kind : Int) == 4) = false := by
      rw [Bool.eq_false_iff]
      intro e
      have e : kind = 4 := by simp at e; omega
      rw [e] at h
      cases h
    have d5 : ((kind : Int) == 5) = false := by
      rw [Bool.eq_false_iff]
      intro e
      have e : kind = 5 := by simp at e; omega
      rw [e] at h
      cases h
    have d6 : ((kind : Int) == 6) = false := by
      rw [Bool.eq_false_iff]
      intro e
      have e : kind = 6 := by simp at e; omega
      rw [e] at h
      cases h
    have d7 : ((kind : Int) == 7) = false := by
      rw [Bool.eq_false_iff]
      intro e
      have e : kind = 7 := by simp at e; omega
      rw [e] at h
      cases h
    have d8 : ((kind : Int) == 8) = false := by
      rw [Bool.eq_false_iff]
      intro e
      have e : kind = 8 := by simp at e; omega
      rw [e] at h
      cases h
    have d9 : ((kind : Int) == 9) = false := by
      rw [Bool.eq_false_iff]
      intro e
      have e : kind = 9 := by simp at e; omega
      rw [e] at h
      cases h
    have d10 : ((kind : Int) == 10) = false := by
      rw [Bool.eq_false_iff]
      intro e
      have e : kind = 10 := by simp at e; omega
      rw [e] at h
      cases h
    have d11 : ((kind : Int) == 11) = false := by
      rw [Bool.eq_false_iff]
      intro e
      have e : kind = 11 := by simp at e; omega
      rw [e] at h
      cases h
    go_enter Tryz.func41, Tryz.ntmps41
    go_wp2_with fail
    go_ret
    exact ⟨_, rfl, Lies.nil _ _, (fun g hg => by cases hg), Below.refl _ _⟩
  · rcases fields_kind h with rfl | rfl | rfl | rfl | rfl | rfl | rfl | rfl | rfl | rfl | rfl
    · have HL := hide (lies_new .i64 w [0, 1, 2, 3, 4, 5] 3 (by simp) (by decide))
      have HB := hide (alloc_below10 w (.cells #[.int .i64 0, .int .i64 1, .int .i64 2, .int .i64 3, .int .i64 4, .int .i64 5] 3))
      clear h
      go_enter Tryz.func41, Tryz.ntmps41
      go_wp2_with fail
      go_ret
      exact ⟨_, rfl, HL.out, (fun g hg => by cases hg; exact Nat.le_refl _), HB.out⟩
    · have HL := hide (lies_new .i64 w [0, 2, 3, 4, 5, 8] 3 (by simp) (by decide))
      have HB := hide (alloc_below10 w (.cells #[.int .i64 0, .int .i64 2, .int .i64 3, .int .i64 4, .int .i64 5, .int .i64 8] 3))
      clear h
      go_enter Tryz.func41, Tryz.ntmps41
      go_wp2_with fail
      go_ret
      exact ⟨_, rfl, HL.out, (fun g hg => by cases hg; exact Nat.le_refl _), HB.out⟩
    · have HL := hide (lies_new .i64 w [0, 5, 6] 3 (by simp) (by decide))
      have HB := hide (alloc_below10 w (.cells #[.int .i64 0, .int .i64 5, .int .i64 6] 3))
      clear h
      go_enter Tryz.func41, Tryz.ntmps41
      go_wp2_with fail
      go_ret
      exact ⟨_, rfl, HL.out, (fun g hg => by cases hg; exact Nat.le_refl _), HB.out⟩
    · have HL := hide (lies_new .i64 w [0, 2] 3 (by simp) (by decide))
      have HB := hide (alloc_below10 w (.cells #[.int .i64 0, .int .i64 2] 3))
      clear h
      go_enter Tryz.func41, Tryz.ntmps41
      go_wp2_with fail
      go_ret
      exact ⟨_, rfl, HL.out, (fun g hg => by cases hg; exact Nat.le_refl _), HB.out⟩
    · have HL := hide (lies_new .i64 w [0, 2, 9] 3 (by simp) (by decide))
      have HB := hide (alloc_below10 w (.cells #[.int .i64 0, .int .i64 2, .int .i64 9] 3))
      clear h
      go_enter Tryz.func41, Tryz.ntmps41
      go_wp2_with fail
      go_ret
      exact ⟨_, rfl, HL.out, (fun g hg => by cases hg; exact Nat.le_refl _), HB.out⟩
    · have HL := hide (lies_new .i64 w [0, 2, 7] 3 (by simp) (by decide))
      have HB := hide (alloc_below10 w (.cells #[.int .i64 0, .int .i64 2, .int .i64 7] 3))
      clear h
      go_enter Tryz.func41, Tryz.ntmps41
      go_wp2_with fail
      go_ret
      exact ⟨_, rfl, HL.out, (fun g hg => by cases hg; exact Nat.le_refl _), HB.out⟩
    · have HL := hide (lies_new .i64 w [0, 7] 3 (by simp) (by decide))
      have HB := hide (alloc_below10 w (.cells #[.int .i64 0, .int .i64 7] 3))
      clear h
      go_enter Tryz.func41, Tryz.ntmps41
      go_wp2_with fail
      go_ret
      exact ⟨_, rfl, HL.out, (fun g hg => by cases hg; exact Nat.le_refl _), HB.out⟩
    · have HL := hide (lies_new .i64 w [0] 3 (by simp) (by decide))
      have HB := hide (alloc_below10 w (.cells #[.int .i64 0] 3))
      clear h
      go_enter Tryz.func41, Tryz.ntmps41
      go_wp2_with fail
      go_ret
      exact ⟨_, rfl, HL.out, (fun g hg => by cases hg; exact Nat.le_refl _), HB.out⟩
    · have HL := hide (lies_new .i64 w [0] 3 (by simp) (by decide))
      have HB := hide (alloc_below10 w (.cells #[.int .i64 0] 3))
      clear h
      go_enter Tryz.func41, Tryz.ntmps41
      go_wp2_with fail
      go_ret
      exact ⟨_, rfl, HL.out, (fun g hg => by cases hg; exact Nat.le_refl _), HB.out⟩
    · have HL := hide (lies_new .i64 w [0, 3, 8] 3 (by simp) (by decide))
      have HB := hide (alloc_below10 w (.cells #[.int .i64 0, .int .i64 3, .int .i64 8] 3))
      clear h
      go_enter Tryz.func41, Tryz.ntmps41
      go_wp2_with fail
      go_ret
      exact ⟨_, rfl, HL.out, (fun g hg => by cases hg; exact Nat.le_refl _), HB.out⟩
    · have HL := hide (lies_new .i64 w [0, 3] 3 (by simp) (by decide))
      have HB := hide (alloc_below10 w (.cells #[.int .i64 0, .int .i64 3] 3))
      clear h
      go_enter Tryz.func41, Tryz.ntmps41
      go_wp2_with fail
      go_ret
      exact ⟨_, rfl, HL.out, (fun g hg => by cases hg; exact Nat.le_refl _), HB.out⟩
end
section
open Go.RowKit Classical

theorem lies_keep {S : Nat → Prop} {k : IntKind} {w w' : World} {v : Value} {xs : List Int} (h : Lies k w v xs) (hk : KeepBut S w w') (hS : ∀ g, v.ownBlock = some g → ¬ S g) : Lies k w' v xs := by
  rcases h with h | ⟨hx, b, off, cap, rfl, hb, hl, hm, hc⟩
  · exact .inl h
  · exact .inr ⟨hx, b, off, cap, rfl, Nat.lt_of_lt_of_le hb hk.size, hl, hm, fun t ht => (World.cell?_of_block (hk.block b hb (hS b rfl))).trans (hc t ht)⟩
set_option maxRecDepth 100000 in
theorem fa_cell {F : Nat → List Value} (h : ∀ n, n < 10 → (F n).length = 4) {n : Nat} (hn : n < 10) {j : Nat} (hj : j < 4) : (fA F)[n * 4 + j]? = (F n)[j]? := by
  obtain ⟨a0, b0, c0, d0, e0⟩ := four_of (h 0 (by decide))
  obtain ⟨a1, b1, c1, d1, e1⟩ := four_of (h 1 (by decide))
  obtain ⟨a2, b2, c2, d2, e2⟩ := four_of (h 2 (by decide))
  obtain ⟨a3, b3, c3, d3, e3⟩ := four_of (h 3 (by decide))
  obtain ⟨a4, b4, c4, d4, e4⟩ := four_of (h 4 (by decide))
  obtain ⟨a5, b5, c5, d5, e5⟩ := four_of (h 5 (by decide))
  obtain ⟨a6, b6, c6, d6, e6⟩ := four_of (h 6 (by decide))
  obtain ⟨a7, b7, c7, d7, e7⟩ := four_of (h 7 (by decide))
  obtain ⟨a8, b8, c8, d8, e8⟩ := four_of (h 8 (by decide))
  obtain ⟨a9, b9, c9, d9, e9⟩ := four_of (h 9 (by decide))
  have e : fA F = #[a0, b0, c0, d0, a1, b1, c1, d1, a2, b2, c2, d2, a3, b3, c3, d3, a4, b4, c4, d4, a5, b5, c5, d5, a6, b6, c6, d6, a7, b7, c7, d7, a8, b8, c8, d8, a9, b9, c9, d9] := by
    unfold fA fE
    rw [e0, e1, e2, e3, e4, e5, e6, e7, e8, e9]
    rfl
  rw [e]
  have hc : n = 0 ∨ n = 1 ∨ n = 2 ∨ n = 3 ∨ n = 4 ∨ n = 5 ∨ n = 6 ∨ n = 7 ∨ n = 8 ∨ n = 9 := by omega
  have hd : j = 0 ∨ j = 1 ∨ j = 2 ∨ j = 3 := by omega
  rcases hc with rfl | rfl | rfl | rfl | rfl | rfl | rfl | rfl | rfl | rfl
  · rw [e0]; rcases hd with rfl | rfl | rfl | rfl <;> rfl
  · rw [e1]; rcases hd with rfl | rfl | rfl | rfl <;> rfl
  · rw [e2]; rcases hd with rfl | rfl | rfl | rfl <;> rfl
  · rw [e3]; rcases hd with rfl | rfl | rfl | rfl <;> rfl
  · rw [e4]; rcases hd with rfl | rfl | rfl | rfl <;> rfl
  · rw [e5]; rcases hd with rfl | rfl | rfl | rfl <;> rfl
  · rw [e6]; rcases hd with rfl | rfl | rfl | rfl <;> rfl
  · rw [e7]; rcases hd with rfl | rfl | rfl | rfl <;> rfl
  · rw [e8]; rcases hd with rfl | rfl | rfl | rfl <;> rfl
  · rw [e9]; rcases hd with rfl | rfl | rfl | rfl <;> rfl
/-- What stands while the fields are put. -/
structure EncI (w wr : World) (lo hi hi2 q b5 pw : Nat) (F : Nat → List Value) (m : MsgP) (ao : Option Addr) (c : Nat) (vc vk : Value) (xs : List Int) : Prop where
  fa : FA lo hi q wr F
  le : hi ≤ hi2 ∧ hi2 ≤ wr.heap.size ∧ lo ≤ b5 ∧ b5 < hi2 ∧ q < lo ∧ pw < lo ∧ q ≠ pw
  box : Box wr q (msgA m (.slice ao m.wr.length c)) 39
  arr : Box wr b5 (fA F) 93
  cnt : Lies .i64 wr vc (natsI (fieldsN m.kind))
  cb : ∀ g, vc.ownBlock = some g → lo ≤ g ∧ g < hi2
  wr : CBl w wr pw vk xs
  vb : ∀ g, vk.ownBlock = some g → (g < lo ∨ hi2 ≤ g) ∧ g ≠ q
theorem EncI.step {w wr w' : World} {lo hi hi2 q b5 pw : Nat} {F : Nat → List Value} {m : MsgP} {ao : Option Addr} {c : Nat} {vc vk v' : Value} {xs ys : List Int} (h : EncI w wr lo hi hi2 q b5 pw F m ao c vc vk xs) (h2 : CWrote wr w' pw vk v' ys) : EncI w w' lo hi hi2 q b5 pw F m ao c vc v' ys := by
  obtain ⟨l1, l2, l3, l4, l5, l6, l7⟩ := h.le
  have hsz := h2.keep.size
  have hS : ∀ k, (k = pw ∨ vk.ownBlock = some k) → (k < lo ∨ hi2 ≤ k) ∧ k ≠ q := fun k e => by
    rcases e with e | e
    · exact ⟨.inl (by omega), by omega⟩
    · exact h.vb k e
  refine ⟨h.fa.keep h2.keep (fun k e => by have := (hS k e).1; omega), ⟨l1, by omega, l3, l4, l5, l6, l7⟩, h.box.keep h2.keep (fun e => (hS _ e).2 rfl), h.arr.keep h2.keep (fun e => by have := (hS _ e).1; omega), lies_keep h.cnt h2.keep (fun g hg e => by have := (hS _ e).1; have := h.cb g hg; omega), h.cb, h.wr.step h2, fun g hg => ?_⟩
  rcases h2.place with e | ⟨g2, e2, hg2⟩
  · exact h.vb g (e.symm.trans hg)
  · rw [e2] at hg
    cases hg
    exact ⟨.inr (by omega), by omega⟩
theorem nats_get (l : List Nat) {k : Nat} (hk : k < l.length) : (natsI l).getD k 0 = ((l[k] : Nat) : Int) := by simp [natsI, List.getD, hk]
theorem encFs_snoc (l : List Nat) (m : MsgP) {k : Nat} (hk : k < l.length) : encFs (l.take (k + 1)) m = encFs (l.take k) m ++ encF l[k] m := by
  rw [List.take_succ_eq_append_getElem hk]
  unfold encFs
  rw [List.flatMap_append]
  simp
theorem encFs_take (l : List Nat) (m : MsgP) (k : Nat) : (encFs (l.take k) m).length ≤ (encFs l m).length := by
  have : encFs l m = encFs (l.take k) m ++ encFs (l.drop k) m := by
    unfold encFs
    rw [← List.flatMap_append, List.take_append_drop]
  rw [this, List.length_append]
  omega
theorem may_at {m : MsgP} (h : mayM m = true) {n : Nat} (hn : n ∈ fieldsN m.kind) : mayF m n = true := by
  unfold mayM at h
  rw [Bool.and_eq_true, List.all_eq_true] at h
  exact h.2 n hn
theorem slice_own (b off : Nat) (n c : Nat) : (Value.slice (some ⟨b, off, none⟩) n c).ownBlock = some b := rfl
theorem lies_block {k : IntKind} {w : World} {v : Value} {xs : List Int} (h : Lies k w v xs) (hne : xs ≠ []) {g : Nat} (hg : v.ownBlock = some g) : g < w.heap.size := by
  rcases h with ⟨h, _⟩ | ⟨_, b, off, cap, rfl, hb, _⟩
  · exact absurd h hne
  · cases hg
    exact hb
set_option maxRecDepth 100000 in
set_option maxHeartbeats 1600000 in
theorem penc_any {w : World} {v : Value} {m : MsgP} (hm : MsgOk m) (hv : MgLies w v m) : Calls Tryz.prog 20 #[v] w fun e w' => ∃ u, e = .returned (.tuple #[u, .int .i64 (if mayM m then 0 else 1)]) ∧ Lies .u8 w' u (if mayM m then encM m else []) ∧ Below w.heap.size w w' := by
  obtain ⟨ao, c, rfl, hs⟩ := hv
  have hA := alloc_below10 w (.cells (msgA m (.slice ao m.wr.length c)) 39)
  have hX := box_new w (msgA m (.slice ao m.wr.length c)) 39
  obtain ⟨w1, hw1⟩ : ∃ w1, w1 = w.alloc (.cells (msgA m (.slice ao m.wr.length c)) 39) := ⟨_, rfl⟩
  obtain ⟨q, hq⟩ : ∃ q, q = w.heap.size := ⟨_, rfl⟩
  rw [← hw1] at hA hX
  have hqw : q < w1.heap.size := by rw [hq]; exact hX.lt
  rw [← hq] at hX
  have CM := hide (pmay_any hm (v := .agg (msgA m (.slice ao m.wr.length c))) (w := w1) ⟨ao, c, rfl, hs.below hA⟩)
  have HA := hide hA
  have HX := hide hX
  have HS := hide hs
  have HM := hide hm
  have HQ : Hid (w.heap.size = q) := hide hq.symm
  have hQ := hq.symm
  have hW := hw1.symm
  clear hA hX hw1 hs hm hq
  cases hmay : mayM m with
  | false =>
    rw [hmay] at CM
    simp only [Bool.false_eq_true, if_false]
    clear hmay
    go_enter Tryz.func20, Tryz.ntmps20
    go_wp2_with (first | (refine wp_load_box rfl _ rfl q rfl HX.out Tryz.underlying39 rfl infoMsg ?_) | (go_at_call 11; refine CM.out.mono ?_; rintro e w2 ⟨rfl, hB2⟩; have HB2 := hide hB2; clear hB2))
    go_ret2
    exact ⟨_, rfl, Lies.nil _ _, HA.out.trans (HB2.out.mono HA.out.size)⟩
  | true =>
    rw [hmay] at CM
    simp only [if_true]
    have HMAY := hide hmay
    have HLN := hide (enc_len HM.out hmay)
    clear hmay
    go_enter Tryz.func20, Tryz.ntmps20
    go_wp2_with (refine wp_load_box rfl _ rfl q rfl HX.out Tryz.underlying39 rfl infoMsg ?_)
    refine CM.out.mono ?_
    rintro e w2 ⟨rfl, hB2⟩
    have hBW := alloc_below10 w2 (.cells #[.slice none 0 0] 61)
    have hbw := box_new w2 #[.slice none 0 0] 61
    obtain ⟨w3, hw3⟩ : ∃ w3, w3 = w2.alloc (.cells #[.slice none 0 0] 61) := ⟨_, rfl⟩
    obtain ⟨pw, hpw⟩ : ∃ pw, pw = w2.heap.size := ⟨_, rfl⟩
    rw [← hw3] at hBW hbw
    rw [← hpw] at hbw
    have hB3 : Below w.heap.size w w3 := HA.out.trans ((hB2.trans (hBW.mono hB2.size)).mono HA.out.size)
    have hX3 : Box w3 q (msgA m (.slice ao m.wr.length c)) 39 := (HX.out.belowI hB2).belowI hBW
    have hqp : q < pw := by rw [hpw]; exact Nat.lt_of_lt_of_le hqw hB2.size
    have HCB : Hid (CBl w w3 pw (.slice none 0 0) []) := hide ⟨⟨hbw, ⟨rfl, .inl ⟨rfl, rfl⟩⟩⟩, hB3, (by rw [hpw]; exact Nat.le_trans HA.out.size hB2.size), (fun g hg => by cases hg)⟩
    have hpl : pw < w3.heap.size := hbw.lt
    have x0 := hX3.cell 0 _ rfl
    have HX3 := hide hX3
    have hW3 := hw3.symm
    have hP := hpw.symm
    clear hB2 hBW hbw hw3 hpw hB3 hX3 CM HX HA hW hqw
    go_wp2_with fail
    refine (cwbyte_any pw _ [] (m.kind : Int) w3 HCB.out.wr (by unfold roomFor; simp)).mono ?_
    rintro e w4 ⟨rfl, v4, h4⟩
    rw [List.nil_append] at h4
    have HC4 := hide (HCB.out.step h4)
    have HX4 := hide (HX3.out.keep h4.keep (fun e => by rcases e with e | e <;> first | omega | cases e))
    have HV4 : Hid (∀ g, v4.ownBlock = some g → g < w4.heap.size ∧ g ≠ q) := hide (fun g hg => ⟨owns_lt h4.wr.own hg, by
      rcases h4.place with e | ⟨g2, e2, hg2⟩
      · rw [e] at hg; cases hg
      · rw [e2] at hg; cases hg; omega⟩)
    have hs4 := h4.keep.size
    clear h4 HCB HX3 x0 hW3 hP
    go_wp2_with fail
    refine (fieldsIn_any q w4).mono ?_
    rintro e w5 ⟨F, rfl, hFA, hB5⟩
    have HFL : Hid (∀ n, n < 10 → (F n).length = 4) := hide (fun n hn => (hFA.f n hn).len)
    have hl40 : (fE F).length = 40 := fE_len HFL.out
    have HFO : Hid ((fA F).all (·.oneCell') = true) := hide (by
      rw [Array.all_eq_true_iff_forall_mem]
      intro u hu
      have hu : u ∈ fE F := by simpa [fA] using hu
      simp only [fE, List.mem_append] at hu
      rcases hu with h | h | h | h | h | h | h | h | h | h
      · exact (hFA.f 0 (by decide)).one u h
      · exact (hFA.f 1 (by decide)).one u h
      · exact (hFA.f 2 (by decide)).one u h
      · exact (hFA.f 3 (by decide)).one u h
      · exact (hFA.f 4 (by decide)).one u h
      · exact (hFA.f 5 (by decide)).one u h
      · exact (hFA.f 6 (by decide)).one u h
      · exact (hFA.f 7 (by decide)).one u h
      · exact (hFA.f 8 (by decide)).one u h
      · exact (hFA.f 9 (by decide)).one u h)
    have HIF : Hid ((Tryz.prog.info? 93).map (·.size) = some (fA F).size) := hide (by show _ = some (fE F).length; rw [hl40]; exact infoFlds)
    have HSF : Hid ((Array.replicate 40 Value.nilFunc).size = (fA F).size) := hide (by show _ = (fE F).length; rw [hl40]; simp)
    have HZ := hide (box_new w5 (Array.replicate 40 .nilFunc) 93)
    have HBA := hide (alloc_below10 w5 (.cells (Array.replicate 40 .nilFunc) 93))
    have HX5 := hide (HX4.out.belowI hB5)
    have HC5 := hide (HC4.out.below hB5)
    have HFA := hide hFA
    have hs5 := hB5.size
    have HB5 := hide hB5
    clear hFA hl40 HX4 HC4 hB5
    go_wp2_with (refine wp_store_box rfl rfl _ _ rfl w5.heap.size rfl (cs' := fA F) rfl HZ.out HSF.out HIF.out HFO.out ?_; intro w6 hb6 hk6; have HF6 := hide hb6; have HB6 : Hid (Below w5.heap.size w5 w6) := hide (HBA.out.trans (hk6.below HBA.out.size (fun k e => by omega))); have x6 := (HX5.out.belowI HB6.out).cell 0 _ rfl; clear hb6 hk6)
    have HX6 := hide (HX5.out.belowI HB6.out)
    have HC6 := hide (HC5.out.below HB6.out)
    have HFA6 := hide (HFA.out.below HB6.out)
    have hs6 := HB6.out.size
    clear HZ HBA HX5 HC5 HFA x6
    refine (fieldsOf_new m.kind w6).mono ?_
    rintro e w7 ⟨vc, rfl, hL7, hnew7, hB7⟩
    obtain ⟨l, hl⟩ : ∃ l, l = fieldsN m.kind := ⟨_, rfl⟩
    have hlen : (natsI l).length = l.length := by unfold natsI; rw [List.length_map]
    have hne : l ≠ [] := by
      rw [hl]
      exact (may_kept HMAY.out).1
    obtain ⟨av, cv, rfl⟩ := hL7.shape
    rw [← hl, hlen] at hL7 hnew7 ⊢
    have hs7 := hB7.size
    have HI : Hid (EncI w w7 w4.heap.size w5.heap.size w7.heap.size q w5.heap.size pw F m ao c (.slice av l.length cv) v4 [(m.kind : Int)]) := hide (by
      refine ⟨HFA6.out.below hB7, ⟨by omega, Nat.le_refl _, hs5, ?_, by omega, by omega, by omega⟩, HX6.out.belowI hB7, HF6.out.belowI hB7, by rw [← hl]; exact hL7, fun g hg => ⟨?_, ?_⟩, HC6.out.below hB7, fun g hg => ⟨.inl (HV4.out g hg).1, (HV4.out g hg).2⟩⟩
      · have := HF6.out.lt
        omega
      · have := hnew7 g hg
        omega
      · exact lies_block hL7 (fun e => hne (by unfold natsI at e; exact List.map_eq_nil_iff.1 e)) hg)
    have HL := hide hl
    obtain ⟨N, hN⟩ : ∃ N, N = l.length := ⟨_, rfl⟩
    rw [← hN]
    rw [← hN] at HI
    have HN := hide hN
    have hN16 : N ≤ 10 := by
      rw [hN, hl]
      rcases fields_kind (kind := m.kind) (by rw [← hl]; exact hne) with e | e | e | e | e | e | e | e | e | e | e <;> rw [e] <;> decide
    generalize w4.heap.size = lo at *
    generalize w7.heap.size = hi2 at *
    generalize w5.heap.size = hi at *
    clear hL7 hnew7 hB7 hlen hl hN HFA6 HX6 HC6 HF6 HB6 hs7 hs6 hs5 hs4 HB5 HV4 HIF HSF HFO hpl hqp
    go_wp2_with fail
    go_loopg [19] N (fun g i wr => ∃ (k : Nat) (vk : Value) (xs : List Int), k + g = N ∧ i = .int .i64 k ∧ Hid (xs = (m.kind : Int) :: encFs (l.take k) m) ∧ Hid (EncI w wr lo hi hi2 q hi pw F m ao c (.slice av N cv) vk xs))
    case atStart => exact ⟨0, v4, _, by omega, rfl, hide rfl, HI⟩
    case round =>
      clear HI
      obtain ⟨k, vk, xs, hk, rfl, HXS, HI⟩ := hrel
      have hxl : xs.length ≤ 4096 := by
        have h1 := HLN.out
        have h2 := encFs_take l m k
        rw [HXS.out, List.length_cons]
        unfold encM at h1
        rw [List.length_cons, ← HL.out] at h1
        omega
      cases gk with
      | zero =>
        obtain rfl : k = N := by omega
        have hz : ¬ ((k : Int) < (k : Int)) := by omega
        have HE : Hid (xs = encM m) := hide (by rw [HXS.out, HN.out, List.take_length, HL.out]; rfl)
        have HC := hide HI.out.wr
        clear HI hne
        go_wp2_with fail
        refine (cwbytes_any pw vk xs wr HC.out.wr (by omega)).mono ?_
        rintro e w8 ⟨u, rfl, ho8, hB8⟩
        have HO8 := hide ho8
        have HB8 := hide hB8
        clear ho8 hB8
        go_wp2_with fail
        go_ret2
        refine ⟨u, rfl, ?_, ?_⟩
        · rw [← HE.out]
          exact Lies.of_own HO8.out
        · have := HC.out.bl.trans (HB8.out.mono HC.out.bl.size)
          exact this
      | succ g =>
        have hz : (k : Int) < (N : Int) := by omega
        have hz0 : (0 : Int) ≤ (k : Int) := by omega
        have hkl : k < l.length := by rw [← HN.out]; omega
        have hnf : l[k] ∈ fieldsN m.kind := by rw [← HL.out]; exact List.getElem_mem hkl
        have hn10 : l[k] < 10 := (fields_facts m.kind).2 _ hnf
        have hok := may_ok HM.out hn10 (may_at HMAY.out hnf)
        have hlie := HI.out.cnt
        rw [← HL.out] at hlie
        rcases hlie with ⟨he, _⟩ | ⟨_, b8, o8, c8, e8, _, _, _, hc8⟩
        · unfold natsI at he
          exact absurd (List.map_eq_nil_iff.1 he) hne
        · cases e8
          have hcell := hc8 k (by unfold natsI; rw [List.length_map]; exact hkl)
          rw [nats_get l hkl] at hcell
          obtain ⟨n, hn⟩ : ∃ n, n = l[k] := ⟨_, rfl⟩
          have HXN : Hid (xs ++ encF n m = (m.kind : Int) :: encFs (l.take (k + 1)) m) := hide (by rw [encFs_snoc l m hkl, HXS.out, hn]; rfl)
          rw [← hn] at hcell hn10 hok
          obtain ⟨f, cap, e1, he, hC⟩ := HI.out.fa.put_any (n := n) HM.out HI.out.box HS.out HI.out.wr (by omega) hn10 hok
          have hfc : wr.cell? ⟨hi, n * 4 + 2, none⟩ = some (.func (.func f) #[] cap) := HI.out.arr.cell _ _ (by rw [fa_cell HFL.out hn10 (by decide)]; exact e1)
          have hn0 : (0 : Int) ≤ (n : Int) := by omega
          have hnt : (n : Int) < 10 := by omega
          have HC := hide hC
          unfold FnOk at he
          clear hC e1 hok hn hc8 hnf hkl hne
          go_wp2_with fail
          refine HC.out.mono ?_
          rintro e w8 ⟨rfl, v8, h8⟩
          rw [HXN.out] at h8
          have HI8 := hide (HI.out.step h8)
          clear h8 HI HC he hfc hcell
          go_wp2_with fail
          go_roundg g
          case measure => omega
          case rel => exact ⟨k + 1, v8, _, by omega, by first | rfl | go_num, hide rfl, HI8⟩
end
section
open Go.RowKit Classical

def txGot (r : RS) : TxN := if (txC.dec r).2.why ≠ 0 then (0, 0, 0) else (txC.dec r).1
def rgGot (r : RS) : Nat × Nat := if (regC.dec r).2.why ≠ 0 then (0, 0) else (regC.dec r).1
theorem pair_dec {α β : Type} (A : Codec α) (B : Codec β) (r : RS) : (pairC A B).dec r = (((A.dec r).1, (B.dec (A.dec r).2).1), (B.dec (A.dec r).2).2) := rfl
theorem txC_dec (r : RS) : txC.dec r = (((byteS r).1.toNat, (numS mxN (byteS r).2).1.toNat, (numS mxN (numS mxN (byteS r).2).2).1.toNat), (numS mxN (numS mxN (byteS r).2).2).2) := by
  unfold txC
  rw [pair_dec, pair_dec]
  rfl
theorem regC_dec (r : RS) : regC.dec r = (((numS mxN r).1.toNat, (numS mxN (numS mxN r).2).1.toNat), (numS mxN (numS mxN r).2).2) := by
  unfold regC
  rw [pair_dec]
  rfl
theorem getTx10 (p : Nat) (vb : Value) (all : List Int) (r : RS) (w : World) (h : CR w p vb all r) :
    Calls Tryz.prog 94 #[.pointer (some ⟨p, 0, none⟩)] w fun e w' => e = .returned (.agg (txE (txGot r)).toArray) ∧ CR w' p vb all (txC.dec r).2 ∧ KeepBut (fun k => k = p) w w' := by
  have hx := h.byte'
  have hb := byteS_rng hx
  obtain ⟨n1, e1, _⟩ := num_rng mxN (byteS r).2 hb.2
  obtain ⟨n2, e2, _⟩ := num_rng mxN (numS mxN (byteS r).2).2 (num_bytes mxN hb.2)
  refine (gettx_any p vb all r w h).mono ?_
  rintro e w' ⟨rfl, h1, h2⟩
  refine ⟨?_, by rw [txC_dec]; exact h1, h2⟩
  unfold txVal txGot
  rw [txC_dec]
  show Ending.returned (.agg #[.int .u8 (if (numS mxN (numS mxN (byteS r).2).2).2.why ≠ 0 then ((0, 0, 0) : TxP) else ((byteS r).1, (numS mxN (byteS r).2).1, (numS mxN (numS mxN (byteS r).2).2).1)).1, .int .u32 (if (numS mxN (numS mxN (byteS r).2).2).2.why ≠ 0 then ((0, 0, 0) : TxP) else ((byteS r).1, (numS mxN (byteS r).2).1, (numS mxN (numS mxN (byteS r).2).2).1)).2.1, .int .u32 (if (numS mxN (numS mxN (byteS r).2).2).2.why ≠ 0 then ((0, 0, 0) : TxP) else ((byteS r).1, (numS mxN (byteS r).2).1, (numS mxN (numS mxN (byteS r).2).2).1)).2.2]) = _
  by_cases hw : (numS mxN (numS mxN (byteS r).2).2).2.why ≠ 0
  · rw [if_pos hw, if_pos hw]
    rfl
  · rw [if_neg hw, if_neg hw]
    have hb0 : (((byteS r).1.toNat : Nat) : Int) = (byteS r).1 := (byteN_int hx).1
    show Ending.returned (.agg #[.int .u8 (byteS r).1, .int .u32 (numS mxN (byteS r).2).1, .int .u32 (numS mxN (numS mxN (byteS r).2).2).1]) = Ending.returned (.agg #[.int .u8 (((byteS r).1.toNat : Nat) : Int), .int .u32 (((numS mxN (byteS r).2).1.toNat : Nat) : Int), .int .u32 (((numS mxN (numS mxN (byteS r).2).2).1.toNat : Nat) : Int)])
    rw [hb0, e1, e2]
    rfl
theorem getReg10 (p : Nat) (vb : Value) (all : List Int) (r : RS) (w : World) (h : CR w p vb all r) :
    Calls Tryz.prog 98 #[.pointer (some ⟨p, 0, none⟩)] w fun e w' => e = .returned (.agg (rgE (rgGot r)).toArray) ∧ CR w' p vb all (regC.dec r).2 ∧ KeepBut (fun k => k = p) w w' := by
  have hx := h.byte'
  obtain ⟨n1, e1, _⟩ := num_rng mxN r hx
  obtain ⟨n2, e2, _⟩ := num_rng mxN (numS mxN r).2 (num_bytes mxN hx)
  refine (getreg_any p vb all r w h).mono ?_
  rintro e w' ⟨rfl, h1, h2⟩
  refine ⟨?_, by rw [regC_dec]; exact h1, h2⟩
  unfold regVal rgGot
  rw [regC_dec]
  show Ending.returned (.agg #[.int .u32 (if (numS mxN (numS mxN r).2).2.why ≠ 0 then ((0, 0) : Int × Int) else ((numS mxN r).1, (numS mxN (numS mxN r).2).1)).1, .int .u32 (if (numS mxN (numS mxN r).2).2.why ≠ 0 then ((0, 0) : Int × Int) else ((numS mxN r).1, (numS mxN (numS mxN r).2).1)).2]) = _
  by_cases hw : (numS mxN (numS mxN r).2).2.why ≠ 0
  · rw [if_pos hw, if_pos hw]
    rfl
  · rw [if_neg hw, if_neg hw]
    show Ending.returned (.agg #[.int .u32 (numS mxN r).1, .int .u32 (numS mxN (numS mxN r).2).1]) = Ending.returned (.agg #[.int .u32 (((numS mxN r).1.toNat : Nat) : Int), .int .u32 (((numS mxN (numS mxN r).2).1.toNat : Nat) : Int)])
    rw [e1, e2]
    rfl
theorem getByte10 (p : Nat) (vb : Value) (all : List Int) (r : RS) (w : World) (h : CR w p vb all r) :
    Calls Tryz.prog 61 #[.pointer (some ⟨p, 0, none⟩)] w fun e w' => e = .returned (.int .u8 ((byteN.dec r).1 : Int)) ∧ CR w' p vb all (byteN.dec r).2 ∧ KeepBut (fun k => k = p) w w' := by
  rw [(byteN_int h.byte').1]
  exact crbyte_any p vb all r w h
theorem getKey10 (p : Nat) (vb : Value) (all : List Int) (r : RS) (w : World) (h : CR w p vb all r) :
    Calls Tryz.prog 83 #[.pointer (some ⟨p, 0, none⟩)] w fun e w' => e = .returned (.agg (eightE (keyC.dec r).1).toArray) ∧ CR w' p vb all (keyC.dec r).2 ∧ KeepBut (fun k => k = p) w w' := by
  have := crkey_any p vb all r w h
  rw [← eightE_map (keyS_length r)] at this
  exact this
/-- What a field's reading leaves. -/
def GotF (w w' : World) (q pr : Nat) (vb : Value) (all : List Int) (r : RS) (m : MsgP) (p : Value) (n : Nat) : Prop :=
  ∃ m' p', Box w' q (msgA m' p') 39 ∧ RSrc wrE w' p' m'.wr ∧ (∀ g, p'.ownBlock = some g → g ≠ pr ∧ g ≠ q) ∧ (p' = p ∨ ∀ g, p'.ownBlock = some g → w.heap.size ≤ g) ∧ CR w' pr vb all (decF n m r).2 ∧ KeepBut (fun k => k = pr ∨ k = q) w w' ∧ m'.kind = m.kind ∧ ((decF n m r).2.why = 0 → m' = (decF n m r).1)
theorem got_of {w w2 w' : World} {q pr : Nat} {vb : Value} {all : List Int} {r r' : RS} {m m' : MsgP} {p : Value} {n : Nat} (hs : RSrc wrE w p m.wr) (hp : ∀ g, p.ownBlock = some g → g ≠ pr ∧ g ≠ q) (hpq : q ≠ pr) (hvq : vb.ownBlock ≠ some q) (hr : (decF n m r).2 = r')
    (h2 : CR w2 pr vb all r' ∧ KeepBut (fun k => k = pr) w w2) (hb : Box w' q (msgA m' p) 39) (hk : KeepBut (fun k => k = q) w2 w') (hw : m'.wr = m.wr) (hkd : m'.kind = m.kind) (hv : r'.why = 0 → m' = (decF n m r).1) : GotF w w' q pr vb all r m p n := by
  have hkk : KeepBut (fun k => k = pr ∨ k = q) w w' := (h2.2.mono (fun k e => .inl e)).trans (hk.mono (S' := fun k => k = pr ∨ k = q) (fun k e => .inr e)) (fun _ _ e => e)
  refine ⟨m', p, hb, ?_, hp, Or.inl rfl, ?_, hkk, hkd, by rw [hr]; exact hv⟩
  · rw [hw]
    exact hs.keep hkk (fun g hg e => by have := hp g hg; omega)
  · rw [hr]
    exact h2.1.keep hk (fun e => hpq e.symm) (fun g hg e => hvq (by rw [hg, e]))
theorem tx_oneL (t : TxN) : (txE t).all (·.oneCell') = true := rfl
theorem rg_oneL (t : Nat × Nat) : (rgE t).all (·.oneCell') = true := rfl
theorem key_oneL (k : List Int) : (eightE k).all (·.oneCell') = true := rfl
theorem it_oneL (i : ItP) : (itE i).all (·.oneCell') = true := rfl
set_option maxRecDepth 100000 in
theorem FA.get_any {lo hi q pr : Nat} {w : World} {vb : Value} {all : List Int} {r : RS} {F : Nat → List Value} {m : MsgP} {p : Value} {n : Nat} (h : FA lo hi q w F) (hb : Box w q (msgA m p) 39) (hs : RSrc wrE w p m.wr) (hp : ∀ g, p.ownBlock = some g → g ≠ pr ∧ g ≠ q) (hcr : CR w pr vb all r) (hpr : pr < lo) (hpq : q ≠ pr) (hvq : vb.ownBlock ≠ some q) (hn : n < 10) :
    ∃ f cap, (F n)[3]? = some (.func (.func f) #[] cap) ∧ FnOk f ∧ Calls Tryz.prog f (#[.pointer (some ⟨pr, 0, none⟩)] ++ cap) w fun e w' => e = .returned (.tuple #[]) ∧ GotF w w' q pr vb all r m p n := by
  have hc : n = 0 ∨ n = 1 ∨ n = 2 ∨ n = 3 ∨ n = 4 ∨ n = 5 ∨ n = 6 ∨ n = 7 ∨ n = 8 ∨ n = 9 := by omega
  have hF := h.f n hn
  clear hn
  rcases hc with rfl | rfl | rfl | rfl | rfl | rfl | rfl | rfl | rfl | rfl
  · obtain ⟨ba, bm, bp, bg, bz, hf⟩ := hF
    rw [hf.eq]
    refine ⟨_, _, rfl, en_m_fieldAt_parrel_api_Tx__4, (fa4_tx pr bg ba q 1 (txE (txGot r)) (msgA m p) 39 _ _ (fun W => CR W pr vb all (txC.dec r).2 ∧ KeepBut (fun k => k = pr) w W) w (hf.g.cell 0 _ rfl) (hf.a.cell 0 _ rfl) rfl (tx_oneL _) hf.g.lt hf.a.lt (by show 1 + 3 ≤ 33; decide) en_i_GetTx (fun W hB => ?_) (fun W hR => ⟨(hf.a.keep hR.2 (fun e => by have := hf.lo; omega)).cell 0 _ rfl, hb.keep hR.2 hpq⟩)).mono ?_⟩
    · rw [arr_app0]
      refine (getTx10 pr vb all r W (hcr.below hB)).mono ?_
      rintro e w' ⟨rfl, g1, g2⟩
      exact ⟨rfl, g1, (KeepBut.of_below _ hB).trans g2 (fun _ _ e => e)⟩
    · rintro e w' ⟨rfl, w2, h2, hb', hk'⟩
      exact ⟨rfl, got_of (m' := { m with tx := txGot r }) hs hp hpq hvq rfl h2 hb' hk' rfl rfl (fun e => (by have e : (txC.dec r).2.why = 0 := e; show ({ m with tx := txGot r } : MsgP) = { m with tx := _ }; unfold txGot; rw [if_neg (by rw [e]; simp)]))⟩
  · obtain ⟨ba, bm, bp, bg, bz, hf⟩ := hF
    rw [hf.eq]
    refine ⟨_, _, rfl, en_m_fieldAt_uint32__4, (fa4_u32 pr bg ba q 4 (((numC mxN).dec r).1 : Int) (msgA m p) 39 _ _ (fun W => CR W pr vb all ((numC mxN).dec r).2 ∧ KeepBut (fun k => k = pr) w W) w (hf.g.cell 0 _ rfl) (hf.a.cell 0 _ rfl) hf.g.lt hf.a.lt (by show 4 + 1 ≤ 33; decide) en_m_getCount (fun W hB => ?_) (fun W hR => ⟨(hf.a.keep hR.2 (fun e => by have := hf.lo; omega)).cell 0 _ rfl, hb.keep hR.2 hpq⟩)).mono ?_⟩
    · rw [arr_app0]
      refine (getCount_any pr vb all r W (hcr.below hB)).mono ?_
      rintro e w' ⟨rfl, g1, g2⟩
      exact ⟨rfl, g1, (KeepBut.of_below _ hB).trans g2 (fun _ _ e => e)⟩
    · rintro e w' ⟨rfl, w2, h2, hb', hk'⟩
      exact ⟨rfl, got_of (m' := { m with time := ((numC mxN).dec r).1 }) hs hp hpq hvq rfl h2 hb' hk' rfl rfl (fun _ => rfl)⟩
  · obtain ⟨ba, bm, bp, bg, bz, hf⟩ := hF
    rw [hf.eq]
    refine ⟨_, _, rfl, en_m_fieldAt_parrel_api_Reg__4, (fa4_reg pr bg ba q 5 (rgE (rgGot r)) (msgA m p) 39 _ _ (fun W => CR W pr vb all (regC.dec r).2 ∧ KeepBut (fun k => k = pr) w W) w (hf.g.cell 0 _ rfl) (hf.a.cell 0 _ rfl) rfl (rg_oneL _) hf.g.lt hf.a.lt (by show 5 + 2 ≤ 33; decide) en_i_GetReg (fun W hB => ?_) (fun W hR => ⟨(hf.a.keep hR.2 (fun e => by have := hf.lo; omega)).cell 0 _ rfl, hb.keep hR.2 hpq⟩)).mono ?_⟩
    · rw [arr_app0]
      refine (getReg10 pr vb all r W (hcr.below hB)).mono ?_
      rintro e w' ⟨rfl, g1, g2⟩
      exact ⟨rfl, g1, (KeepBut.of_below _ hB).trans g2 (fun _ _ e => e)⟩
    · rintro e w' ⟨rfl, w2, h2, hb', hk'⟩
      exact ⟨rfl, got_of (m' := { m with reg := rgGot r }) hs hp hpq hvq rfl h2 hb' hk' rfl rfl (fun e => (by have e : (regC.dec r).2.why = 0 := e; show ({ m with reg := rgGot r } : MsgP) = { m with reg := _ }; unfold rgGot; rw [if_neg (by rw [e]; simp)]))⟩
  · obtain ⟨ba, bm, bp, bg, bz, hf⟩ := hF
    rw [hf.eq]
    refine ⟨_, _, rfl, en_m_fieldAt_parrel_api_Key__4, (fa4_key pr bg ba q 7 (eightE (keyC.dec r).1) (msgA m p) 39 _ _ (fun W => CR W pr vb all (keyC.dec r).2 ∧ KeepBut (fun k => k = pr) w W) w (hf.g.cell 0 _ rfl) (hf.a.cell 0 _ rfl) rfl (key_oneL _) hf.g.lt hf.a.lt (by show 7 + 8 ≤ 33; decide) en_cr_Key (fun W hB => ?_) (fun W hR => ⟨(hf.a.keep hR.2 (fun e => by have := hf.lo; omega)).cell 0 _ rfl, hb.keep hR.2 hpq⟩)).mono ?_⟩
    · rw [arr_app0]
      refine (getKey10 pr vb all r W (hcr.below hB)).mono ?_
      rintro e w' ⟨rfl, g1, g2⟩
      exact ⟨rfl, g1, (KeepBut.of_below _ hB).trans g2 (fun _ _ e => e)⟩
    · rintro e w' ⟨rfl, w2, h2, hb', hk'⟩
      exact ⟨rfl, got_of (m' := { m with key := (keyC.dec r).1 }) hs hp hpq hvq rfl h2 hb' hk' rfl rfl (fun _ => rfl)⟩
  · obtain ⟨ba, bm, bp, bg, bz, hf⟩ := hF
    rw [hf.eq]
    refine ⟨_, _, rfl, en_m_fieldAt_uint8__4, (fa4_u8 pr bg ba q 15 ((byteN.dec r).1 : Int) (msgA m p) 39 _ _ (fun W => CR W pr vb all (byteN.dec r).2 ∧ KeepBut (fun k => k = pr) w W) w (hf.g.cell 0 _ rfl) (hf.a.cell 0 _ rfl) hf.g.lt hf.a.lt (by show 15 + 1 ≤ 33; decide) en_cr_Byte (fun W hB => ?_) (fun W hR => ⟨(hf.a.keep hR.2 (fun e => by have := hf.lo; omega)).cell 0 _ rfl, hb.keep hR.2 hpq⟩)).mono ?_⟩
    · rw [arr_app0]
      refine (getByte10 pr vb all r W (hcr.below hB)).mono ?_
      rintro e w' ⟨rfl, g1, g2⟩
      exact ⟨rfl, g1, (KeepBut.of_below _ hB).trans g2 (fun _ _ e => e)⟩
    · rintro e w' ⟨rfl, w2, h2, hb', hk'⟩
      exact ⟨rfl, got_of (m' := { m with mode := (byteN.dec r).1 }) hs hp hpq hvq rfl h2 hb' hk' rfl rfl (fun _ => rfl)⟩
  · obtain ⟨ba, bm, bp, bg, bz, hf⟩ := hF
    rw [hf.eq]
    refine ⟨_, _, rfl, en_m_fieldAt_uint32__4, (fa4_u32 pr bg ba q 16 (((numC mxN).dec r).1 : Int) (msgA m p) 39 _ _ (fun W => CR W pr vb all ((numC mxN).dec r).2 ∧ KeepBut (fun k => k = pr) w W) w (hf.g.cell 0 _ rfl) (hf.a.cell 0 _ rfl) hf.g.lt hf.a.lt (by show 16 + 1 ≤ 33; decide) en_m_getCount (fun W hB => ?_) (fun W hR => ⟨(hf.a.keep hR.2 (fun e => by have := hf.lo; omega)).cell 0 _ rfl, hb.keep hR.2 hpq⟩)).mono ?_⟩
    · rw [arr_app0]
      refine (getCount_any pr vb all r W (hcr.below hB)).mono ?_
      rintro e w' ⟨rfl, g1, g2⟩
      exact ⟨rfl, g1, (KeepBut.of_below _ hB).trans g2 (fun _ _ e => e)⟩
    · rintro e w' ⟨rfl, w2, h2, hb', hk'⟩
      exact ⟨rfl, got_of (m' := { m with no := ((numC mxN).dec r).1 }) hs hp hpq hvq rfl h2 hb' hk' rfl rfl (fun _ => rfl)⟩
  · obtain ⟨ba, bm, bp, bg, bz, hf⟩ := hF
    rw [hf.eq]
    refine ⟨_, _, rfl, en_m_fieldAt_uint8__4, (fa4_u8 pr bg ba q 17 (((numC 17).dec r).1 : Int) (msgA m p) 39 _ _ (fun W => CR W pr vb all ((numC 17).dec r).2 ∧ KeepBut (fun k => k = pr) w W) w (hf.g.cell 0 _ rfl) (hf.a.cell 0 _ rfl) hf.g.lt hf.a.lt (by show 17 + 1 ≤ 33; decide) en_m_fieldsIn_6 (fun W hB => ?_) (fun W hR => ⟨(hf.a.keep hR.2 (fun e => by have := hf.lo; omega)).cell 0 _ rfl, hb.keep hR.2 hpq⟩)).mono ?_⟩
    · rw [arr_app0]
      refine (getWhy_any pr vb all r W (hcr.below hB)).mono ?_
      rintro e w' ⟨rfl, g1, g2⟩
      exact ⟨rfl, g1, (KeepBut.of_below _ hB).trans g2 (fun _ _ e => e)⟩
    · rintro e w' ⟨rfl, w2, h2, hb', hk'⟩
      exact ⟨rfl, got_of (m' := { m with why := ((numC 17).dec r).1 }) hs hp hpq hvq rfl h2 hb' hk' rfl rfl (fun _ => rfl)⟩
  · obtain ⟨ba, bm, bp, bg, bz, hf⟩ := hF
    rw [hf.eq]
    refine ⟨_, _, rfl, en_m_fieldAt_uint8__4, (fa4_u8 pr bg ba q 18 ((byteN.dec r).1 : Int) (msgA m p) 39 _ _ (fun W => CR W pr vb all (byteN.dec r).2 ∧ KeepBut (fun k => k = pr) w W) w (hf.g.cell 0 _ rfl) (hf.a.cell 0 _ rfl) hf.g.lt hf.a.lt (by show 18 + 1 ≤ 33; decide) en_cr_Byte (fun W hB => ?_) (fun W hR => ⟨(hf.a.keep hR.2 (fun e => by have := hf.lo; omega)).cell 0 _ rfl, hb.keep hR.2 hpq⟩)).mono ?_⟩
    · rw [arr_app0]
      refine (getByte10 pr vb all r W (hcr.below hB)).mono ?_
      rintro e w' ⟨rfl, g1, g2⟩
      exact ⟨rfl, g1, (KeepBut.of_below _ hB).trans g2 (fun _ _ e => e)⟩
    · rintro e w' ⟨rfl, w2, h2, hb', hk'⟩
      exact ⟨rfl, got_of (m' := { m with yes := (byteN.dec r).1 }) hs hp hpq hvq rfl h2 hb' hk' rfl rfl (fun _ => rfl)⟩
  · obtain ⟨ba, bm, bp, bg, bz, hf⟩ := hF
    rw [hf.eq]
    refine ⟨_, _, rfl, en_m_fieldAt_parrel_api_Item__4, (fa4_item pr bg ba q 19 (itE (itGot r)) (msgA m p) 39 _ _ (fun W => CR W pr vb all (itC.dec r).2 ∧ KeepBut (fun k => k = pr) w W) w (hf.g.cell 0 _ rfl) (hf.a.cell 0 _ rfl) rfl (it_oneL _) hf.g.lt hf.a.lt (by show 19 + 13 ≤ 33; decide) en_m_GetItem (fun W hB => ?_) (fun W hR => ⟨(hf.a.keep hR.2 (fun e => by have := hf.lo; omega)).cell 0 _ rfl, hb.keep hR.2 hpq⟩)).mono ?_⟩
    · rw [arr_app0]
      refine (getItem_any pr vb all r W (hcr.below hB)).mono ?_
      rintro e w' ⟨rfl, g1, g2⟩
      exact ⟨rfl, g1, (KeepBut.of_below _ hB).trans g2 (fun _ _ e => e)⟩
    · rintro e w' ⟨rfl, w2, h2, hb', hk'⟩
      exact ⟨rfl, got_of (m' := { m with item := itGot r }) hs hp hpq hvq rfl h2 hb' hk' rfl rfl (fun e => (by have e : (itC.dec r).2.why = 0 := e; show ({ m with item := itGot r } : MsgP) = { m with item := _ }; unfold itGot; rw [if_neg (by rw [e]; simp)]))⟩
  · have hF : F 9 = _ := hF
    rw [hF]
    refine ⟨_, _, rfl, en_m_fieldsIn_10, (wn10_any pr lo q vb all r m p w h.b hb hcr (by omega) hpq hvq).mono ?_⟩
    rintro e w' ⟨rfl, p', ws, g1, ⟨g2, g3, g4, _⟩, g5, g6⟩
    have h1 := hcr.box.lt
    have h2 := hb.lt
    exact ⟨rfl, { m with wr := ws }, p', g1, g2, fun g hg => (by have := g3 g hg; exact ⟨by omega, by omega⟩), Or.inr g3, g5, g6, rfl, fun e => (by show ({ m with wr := ws } : MsgP) = { m with wr := (wsC.dec r).1 }; rw [g4 e])⟩
end
end Go.Proofs.YtoppdelljjapoaaGreat
