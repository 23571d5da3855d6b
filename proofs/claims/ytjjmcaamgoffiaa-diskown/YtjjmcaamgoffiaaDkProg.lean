/-
  The program's disk: New, Append, Force, Cut, Trim, Read, Arm, Fail. Own work.
-/
import Derived.Test.YtjjmcaamgoffiaaDkInner
namespace Go.Proofs.Ytjjmcaamgoffiaa
open Go.RowKit

set_option maxRecDepth 100000 in
theorem dnew_ok (room : Int) (w : World) (h : newOk room = true) :
    Calls Try.prog 10 #[.int .i64 room] w fun e w' => ∃ q F, e = .returned (.tuple #[.pointer (some ⟨q, 0, none⟩), .int .i64 0]) ∧ PD w' q F (newD room.toNat) ∧ (∀ k, F k → w.heap.size ≤ k) ∧ Below w.heap.size w w' := by
  have hr : 1 ≤ room ∧ room ≤ 65536 := by unfold newOk at h; simpa using h
  have d1 : decide (room < 1) = false := decide_eq_false (by omega)
  have d2 : decide (room > 65536) = false := decide_eq_false (by omega)
  have HR := hide hr
  clear h hr
  go_enter Try.func10, Try.ntmps10
  go_wp2
  go_ret2
  have hr := HR.out
  have hc : pc (pdOf (newD room.toNat)) (.slice none 0 0) = #[.int .i64 0, .slice none 0 0, .bool true, .int .i64 room, .int .i64 0, .int .i64 0, .int .i64 (-1), .bool true] := by
    have : ((room.toNat : Nat) : Int) = room := by omega
    simp [pc, pdOf, newD, fuseI, this]
  refine ⟨w.heap.size, usesB w.heap.size (.slice none 0 0), rfl, ⟨.slice none 0 0, ⟨⟨?_, PRow.nil _, fun e => by cases e⟩, newD_ok _ (by omega) (by omega), Nat.zero_le _⟩, fun k => Iff.rfl⟩, fun k hk => ?_, (Below.refl _ _).alloc (Nat.le_refl _) _⟩
  · rw [hc]; exact box_new w _ _
  · rcases hk with hk | hk
    · exact Nat.le_of_eq hk.symm
    · cases hk
theorem dnew_no (room : Int) (w : World) (h : newOk room = false) :
    Calls Try.prog 10 #[.int .i64 room] w fun e w' => e = .returned (.tuple #[.pointer none, .int .i64 1]) ∧ Below w.heap.size w w' := by
  by_cases h1 : room < 1
  · have d1 : decide (room < 1) = true := decide_eq_true h1
    clear h h1
    go_enter Try.func10, Try.ntmps10
    go_wp2
    go_ret2
    exact ⟨rfl, Below.refl _ _⟩
  · have d1 : decide (room < 1) = false := decide_eq_false h1
    have d2 : decide (room > 65536) = true := decide_eq_true (by unfold newOk at h; simp at h; omega)
    clear h h1
    go_enter Try.func10, Try.ntmps10
    go_wp2
    go_ret2
    exact ⟨rfl, Below.refl _ _⟩
theorem on_of {d : Dk} {b : Bool} (h : d.off = b) : (if (pdOf d).on then (0 : Int) else 10) = if b then 10 else 0 := by
  show (if !d.off then (0 : Int) else 10) = _
  rw [h]
  cases b <;> rfl
set_option maxRecDepth 100000 in
set_option maxHeartbeats 1600000 in
theorem dappend_any {F : Nat → Prop} (q : Nat) (vb : Value) (d : Dk) (vx : Value) (xs : List Int) (w : World) (h : PB w q vb d) (hF : ∀ k, F k ↔ usesB q vb k) (hL : Lies .u8 w vx xs) (h8 : ∀ c ∈ xs, 0 ≤ c ∧ c < 256) (hd : d.bs.length ≤ 100000000) :
    Calls Try.prog 28 #[.pointer (some ⟨q, 0, none⟩), vx] w fun e w' => e = .returned (.tuple #[.int .i64 (appA d xs).1, .int .i64 (appA d xs).2]) ∧ Did PD w w' q F (appD d xs) := by
  have hpl := pd_len h.ok
  have hful := h.ok.full
  have hok := h.ok
  have hr2 := hok.r2
  have HH := hide h.rb
  have C := hide (ready_any q vb _ w h.rb)
  have hbn : (pdOf d).f + (pdOf d).rs.length ≤ 200000000 := by show d.fbase + (d.bs.drop d.fbase).length ≤ _; omega
  have CL := hide (dleft_any q vb _ w h.rb hbn hr2)
  have el : ((pdOf d).room : Int) - ((pdOf d).rs.length : Int) = ((d.left : Nat) : Int) := by
    show (d.room : Int) - ((d.bs.drop d.fbase).length : Int) = _
    unfold Dk.left
    omega
  rw [el] at CL
  have HOK := hide hok
  have hfl : d.fbase ≤ d.bs.length := Nat.le_trans hok.b1 hok.b2
  have HL := hide hL
  obtain ⟨ao2, cap2, hvx⟩ := hL.shape
  subst hvx
  clear h hL el hok
  cases ho : d.off
  · rw [on_of ho] at C
    by_cases hl : d.left < xs.length
    · have HE : Hid (appA d xs = (0, 9)) := hide (by unfold appA; rw [ho, if_neg (by simp), if_pos hl])
      have HD : Hid (appD d xs = d) := hide (by unfold appD; rw [ho, if_neg (by simp), if_pos hl])
      have d1 : decide ((xs.length : Int) > ((d.left : Nat) : Int)) = true := decide_eq_true (by omega)
      generalize d.left = lf at *
      go_enter Try.func28, Try.ntmps28
      go_wp2_with fail
      refine C.out.mono ?_
      rintro e w1 ⟨rfl, rfl⟩
      go_wp2_with fail
      refine CL.out.mono ?_
      rintro e w2 ⟨rfl, m, hw2⟩
      have HB2 : Hid (Below w1.heap.size w1 w2) := hide (hw2 ▸ below_drewN7 w1 m)
      clear hw2
      go_wp2_with fail
      go_ret2
      rw [HE.out, HD.out]
      exact ⟨rfl, did_of hF (RBid.of_below HH.out HB2.out) HOK.out (by omega)⟩
    · have HE : Hid (appA d xs = ((d.bs.length : Int), 0)) := hide (by unfold appA; rw [ho, if_neg (by simp), if_neg hl])
      have HD : Hid (appD d xs = { d with bs := d.bs ++ xs }) := hide (by unfold appD; rw [ho, if_neg (by simp), if_neg hl])
      have hok2 := appD_ok HOK.out xs h8
      rw [HD.out] at hok2
      have HO2 := hide hok2
      have HP : Hid (({ pdOf d with rs := (pdOf d).rs ++ xs } : Pd) = pdOf { d with bs := d.bs ++ xs }) := hide (by
        show ({ pdOf d with rs := d.bs.drop d.fbase ++ xs } : Pd) = _
        unfold pdOf fuseI
        simp only
        rw [List.drop_append_of_le_length hfl])
      have hlx : d.bs.length + xs.length ≤ 100100000 := by have hl' := hl; unfold Dk.left at hl'; omega
      have d1 : decide ((xs.length : Int) > ((d.left : Nat) : Int)) = false := decide_eq_false (by omega)
      generalize d.left = lf at *
      clear hok2
      go_enter Try.func28, Try.ntmps28
      go_wp2_with fail
      refine C.out.mono ?_
      rintro e w1 ⟨rfl, rfl⟩
      go_wp2_with fail
      refine CL.out.mono ?_
      rintro e w2 ⟨rfl, m, hw2⟩
      have hB2 : Below w1.heap.size w1 w2 := hw2 ▸ below_drewN7 w1 m
      have HR2 := hide (HH.out.below hB2)
      have HB2 := hide hB2
      have C2 := hide (dend_any q vb _ w2 HR2.out hbn)
      have e2 : (pdOf d).f + (pdOf d).rs.length = d.bs.length := hpl
      rw [e2] at C2
      clear hw2 hB2 CL C e2
      go_wp2_with fail
      refine C2.out.mono ?_
      rintro e w3 ⟨rfl, m3, hw3⟩
      have hB3 : Below w2.heap.size w2 w3 := hw3 ▸ below_drewN7 w2 m3
      have HB3 := hide (HB2.out.trans (hB3.mono HB2.out.size))
      have C3 := hide (dadd_any q vb _ _ xs w3 (HR2.out.below hB3) (HL.out.below (HB2.out.trans (hB3.mono HB2.out.size))) (by show (d.bs.drop d.fbase).length + xs.length ≤ _; omega))
      clear hw3 hB3 C2 HB2 HR2
      go_wp2_with fail
      refine C3.out.mono ?_
      rintro e w4 ⟨rfl, h4⟩
      rw [HP.out] at h4
      have H4 := hide (RBid.before HB3.out h4)
      clear h4 C3
      go_wp2_with fail
      go_ret2
      rw [HE.out, HD.out]
      exact ⟨rfl, did_of hF H4.out HO2.out (by simpa using hlx)⟩
  · rw [on_of ho] at C
    have HE : Hid (appA d xs = (0, 10)) := hide (by unfold appA; rw [ho]; rfl)
    have HD : Hid (appD d xs = d) := hide (by unfold appD; rw [ho]; rfl)
    clear CL
    go_enter Try.func28, Try.ntmps28
    go_wp2_with fail
    refine C.out.mono ?_
    rintro e w1 ⟨rfl, rfl⟩
    go_wp2_with fail
    go_ret2
    rw [HE.out, HD.out]
    exact ⟨rfl, did_of hF (RBid.same HH.out) HOK.out (by omega)⟩
set_option maxRecDepth 100000 in
set_option maxHeartbeats 1600000 in
theorem dForce_any {F : Nat → Prop} (q : Nat) (vb : Value) (d : Dk) (w : World) (h : PB w q vb d) (hF : ∀ k, F k ↔ usesB q vb k) :
    Calls Try.prog 27 #[.pointer (some ⟨q, 0, none⟩)] w fun e w' => e = .returned (.int .i64 (forA d)) ∧ Did PD w w' q F (forD d) := by
  have hpl := pd_len h.ok
  have hle := h.le
  have hok := h.ok
  have hfu := hok.fu
  have HH := hide h.rb
  have HOK := hide hok
  have hb1 := hok.b1
  have hb2 := hok.b2
  have C := hide (ready_any q vb _ w h.rb)
  have HOF := hide (forD_ok hok)
  obtain ⟨m0, m1, m2, m3, m4, m5, m6, m7⟩ := h.rb.at
  have m6' : w.cell? ⟨q, 6, none⟩ = some (.int .i64 (fuseI d)) := m6
  have z6 := h.rb.box.frozen 6
  have z7 := h.rb.box.frozen 7
  clear h hok m0 m1 m2 m3 m4 m5 m6
  have HF0 : Hid (∀ fu : Int, ∀ W v, RB W q v { pdOf d with fuse := fu } → Calls Try.prog 46 #[.pointer (some ⟨q, 0, none⟩)] W fun e w' => e = .returned (.tuple #[]) ∧ RBid W w' q v { pdOf d with fuse := fu, f := d.base, rs := d.bs.drop d.base, sure := d.bs.length }) := hide (fun fu W v hW => by
    have := dforce_any q v _ W hW (by show d.fbase + (d.bs.drop d.fbase).length ≤ _; omega) hb1 (by show d.base ≤ d.fbase + (d.bs.drop d.fbase).length; omega)
    refine this.mono fun e w' ⟨he, hr⟩ => ⟨he, ?_⟩
    have e1 : (d.bs.drop d.fbase).drop (d.base - d.fbase) = d.bs.drop d.base := by rw [List.drop_drop]; congr 1; omega
    have e2 : ({ ({ pdOf d with fuse := fu } : Pd) with f := d.base, rs := (d.bs.drop d.fbase).drop (d.base - d.fbase), sure := d.fbase + (d.bs.drop d.fbase).length } : Pd) = { pdOf d with fuse := fu, f := d.base, rs := d.bs.drop d.base, sure := d.bs.length } := by rw [e1, hpl]
    rw [← e2]
    exact hr)
  cases ho : d.off
  · rw [on_of ho] at C
    cases ha : d.armed
    · have HE : Hid (forA d = 0) := hide (by unfold forA; rw [ho, ha]; rfl)
      have hfi : fuseI d = -1 := by unfold fuseI; rw [ha]; rfl
      have HD : Hid (({ pdOf d with fuse := fuseI d, f := d.base, rs := d.bs.drop d.base, sure := d.bs.length } : Pd) = pdOf (forD d)) := hide (by unfold forD; rw [ho, ha]; simp [pdOf, fuseI, ho, ha])
      have HLL : Hid ((forD d).bs.length ≤ 100100000) := hide (by unfold forD; rw [ho, ha]; simpa using hle)
      rw [hfi] at m6'
      have C1 := hide (HF0.out (fuseI d) w vb HH.out)
      go_enter Try.func27, Try.ntmps27
      go_wp2_with fail
      refine C.out.mono ?_
      rintro e w1 ⟨rfl, rfl⟩
      go_wp2_with fail
      refine C1.out.mono ?_
      rintro e w2 ⟨rfl, h2⟩
      rw [HD.out] at h2
      have H2 := hide h2
      clear h2 C1
      go_wp2_with fail
      go_ret
      exact ⟨ret_int HE.out.symm, did_of hF H2.out HOF.out HLL.out⟩
    · have hfi : fuseI d = (d.fuse : Int) := by unfold fuseI; rw [ha]; rfl
      by_cases hz : d.fuse = 0
      · have HE : Hid (forA d = 10) := hide (by unfold forA; rw [ho, ha, hz]; rfl)
        have HD : Hid (({ pdOf d with on := false } : Pd) = pdOf (forD d)) := hide (by unfold forD; rw [ho, ha, hz]; simp [pdOf, fuseI, ha, hz])
        have HLL : Hid ((forD d).bs.length ≤ 100100000) := hide (by unfold forD; rw [ho, ha, hz]; simpa using hle)
        rw [hfi, hz] at m6'
        clear hz
        go_enter Try.func27, Try.ntmps27
        go_wp2_with fail
        refine C.out.mono ?_
        rintro e w1 ⟨rfl, rfl⟩
        go_wp2_with fail
        go_ret
        refine ⟨ret_int HE.out.symm, did_of hF ?_ HOF.out HLL.out⟩
        rw [← HD.out]
        exact HH.out.putid (i := 7) (v := .bool false) rfl rfl
      · have HE : Hid (forA d = 0) := hide (by unfold forA; rw [ho, ha]; simp [hz])
        have HD : Hid (({ pdOf d with fuse := (d.fuse : Int) - 1, f := d.base, rs := d.bs.drop d.base, sure := d.bs.length } : Pd) = pdOf (forD d)) := hide (by unfold forD; rw [ho, ha]; simp [pdOf, fuseI, ho, ha, hz]; omega)
        have HLL : Hid ((forD d).bs.length ≤ 100100000) := hide (by unfold forD; rw [ho, ha]; simpa [hz] using hle)
        rw [hfi] at m6'
        have hn : ((d.fuse : Int) == 0) = false := by simp; omega
        have hn1 : ((d.fuse : Int) == -1) = false := by simp
        obtain ⟨fm, hfm⟩ : ∃ fm : Int, fm = (d.fuse : Int) - 1 := ⟨_, rfl⟩
        have HFM := hide hfm
        go_enter Try.func27, Try.ntmps27
        go_wp2_with fail
        refine C.out.mono ?_
        rintro e w1 ⟨rfl, rfl⟩
        go_wp2_with fail
        obtain ⟨q1, k1⟩ := HH.out.put (i := 6) (v := .int .i64 ((d.fuse : Int) - 1)) (x' := { pdOf d with fuse := (d.fuse : Int) - 1 }) rfl rfl
        have HQ1 := hide q1
        have HK1 := hide k1
        refine (HF0.out _ _ _ q1).mono ?_
        rintro e w2 ⟨rfl, h2⟩
        rw [HD.out] at h2
        have H2 : Hid (RBid w1 w2 q vb (pdOf (forD d))) := hide (RBid.then (x := { pdOf d with fuse := (d.fuse : Int) - 1 }) ⟨⟨vb, HQ1.out, .inl rfl⟩, HK1.out⟩ (fun vb1 r1 => by
          obtain ⟨⟨v2, r2, p2⟩, kk⟩ := h2
          have e1 : vb1 = vb := by
            have a1 := r1.at.2.1
            have a2 := HQ1.out.at.2.1
            rw [a1] at a2
            exact Option.some.inj a2
          subst e1
          exact ⟨⟨v2, r2, p2⟩, kk⟩))
        clear h2 q1 k1
        go_wp2_with fail
        go_ret
        exact ⟨ret_int HE.out.symm, did_of hF H2.out HOF.out HLL.out⟩
  · rw [on_of ho] at C
    have HE : Hid (forA d = 10) := hide (by unfold forA; rw [ho]; rfl)
    have HD : Hid (forD d = d) := hide (by unfold forD; rw [ho]; rfl)
    go_enter Try.func27, Try.ntmps27
    go_wp2_with fail
    refine C.out.mono ?_
    rintro e w1 ⟨rfl, rfl⟩
    go_wp2_with fail
    go_ret
    rw [HD.out]
    exact ⟨ret_int HE.out.symm, did_of hF (RBid.same HH.out) HOK.out hle⟩
set_option maxRecDepth 100000 in
set_option maxHeartbeats 1600000 in
theorem dCut_any {F : Nat → Prop} (q : Nat) (vb : Value) (d : Dk) (to : Int) (w : World) (h : PB w q vb d) (hF : ∀ k, F k ↔ usesB q vb k) :
    Calls Try.prog 29 #[.pointer (some ⟨q, 0, none⟩), .int .i64 to] w fun e w' => e = .returned (.int .i64 (cutA d to)) ∧ Did PD w w' q F (cutD d to) := by
  have hle := h.le
  have HH := hide h.rb
  have HOK := hide h.ok
  have C := hide (within_any q vb d to w h)
  have HOF := hide (cutD_ok h.ok to)
  clear h
  obtain ⟨ca, hca⟩ : ∃ ca, ca = cutA d to := ⟨_, rfl⟩
  rw [← hca] at C ⊢
  go_enter Try.func29, Try.ntmps29
  go_wp2_with fail
  refine C.out.mono ?_
  rintro e w1 ⟨rfl, m, hw1⟩
  have hB1 : Below w.heap.size w w1 := hw1 ▸ below_drewN7 w m
  have HB1 := hide hB1
  have z4 := (HH.out.below hB1).box.frozen 4
  obtain ⟨m0, m1, m2, m3, m4, m5, m6, m7⟩ := (HH.out.below hB1).at
  clear hw1 hB1 C m0 m1 m2 m3 m5 m6 m7
  by_cases hz' : ca = 0
  · have hz : cutA d to = 0 := by rw [← hca, hz']
    have hi : d.off = false ∧ d.inB to = true := by
      unfold cutA at hz
      cases ho : d.off
      · rw [ho] at hz
        cases hb : d.inB to
        · rw [hb] at hz; simp at hz
        · exact ⟨rfl, rfl⟩
      · rw [ho] at hz; simp at hz
    obtain ⟨n, hn, _, _⟩ := inB_nat hi.2
    have HD : Hid (({ pdOf d with base := n } : Pd) = pdOf (cutD d to)) := hide (by unfold cutD; rw [hi.1, hi.2, hn]; simp [pdOf, fuseI, hi.1])
    have HLL : Hid ((cutD d to).bs.length ≤ 100100000) := hide (by unfold cutD; rw [hi.1, hi.2]; simpa using hle)
    subst hz'
    subst hn
    clear hi hz hca
    go_wp2_with fail
    go_ret
    refine ⟨rfl, did_of hF ?_ HOF.out HLL.out⟩
    rw [← HD.out]
    exact RBid.before HB1.out ((HH.out.below HB1.out).putid (i := 4) (v := .int .i64 (n : Int)) rfl rfl)
  · have HD : Hid (cutD d to = d) := hide (by
      have hz : cutA d to ≠ 0 := by rw [← hca]; exact hz'
      unfold cutA at hz
      unfold cutD
      cases ho : d.off
      · rw [ho] at hz
        cases hb : d.inB to
        · rfl
        · rw [hb] at hz; simp at hz
      · rfl)
    have hn : (ca == 0) = false := by simpa using hz'
    clear hca hz'
    go_wp2_with fail
    go_ret
    rw [HD.out]
    exact ⟨rfl, did_of hF (RBid.of_below HH.out HB1.out) HOK.out hle⟩
set_option maxRecDepth 100000 in
set_option maxHeartbeats 1600000 in
theorem dTrim_any {F : Nat → Prop} (q : Nat) (vb : Value) (d : Dk) (to : Int) (w : World) (h : PB w q vb d) (hF : ∀ k, F k ↔ usesB q vb k) :
    Calls Try.prog 31 #[.pointer (some ⟨q, 0, none⟩), .int .i64 to] w fun e w' => e = .returned (.int .i64 (cutA d to)) ∧ Did PD w w' q F (triD d to) := by
  have hle := h.le
  have hpl := pd_len h.ok
  have HH := hide h.rb
  have HOK := hide h.ok
  have hb1 := h.ok.b1
  have C := hide (within_any q vb d to w h)
  have HOF := hide (triD_ok h.ok to)
  clear h
  obtain ⟨ca, hca⟩ : ∃ ca, ca = cutA d to := ⟨_, rfl⟩
  rw [← hca] at C ⊢
  go_enter Try.func31, Try.ntmps31
  go_wp2_with fail
  refine C.out.mono ?_
  rintro e w1 ⟨rfl, m, hw1⟩
  have hB1 : Below w.heap.size w w1 := hw1 ▸ below_drewN7 w m
  have HB1 := hide hB1
  obtain ⟨m0, m1, m2, m3, m4, m5, m6, m7⟩ := (HH.out.below hB1).at
  clear hw1 hB1 C m1 m2 m3 m4 m6 m7
  by_cases hz' : ca = 0
  · have hz : cutA d to = 0 := by rw [← hca, hz']
    have hi : d.off = false ∧ d.inB to = true := by
      unfold cutA at hz
      cases ho : d.off
      · rw [ho] at hz
        cases hb : d.inB to
        · rw [hb] at hz; simp at hz
        · exact ⟨rfl, rfl⟩
      · rw [ho] at hz; simp at hz
    obtain ⟨n, hn, hn1, hn2⟩ := inB_nat hi.2
    have HD : Hid (({ pdOf d with rs := (d.bs.drop d.fbase).take (n - d.fbase), sure := min d.fend n } : Pd) = pdOf (triD d to)) := hide (by
      unfold triD; rw [hi.1, hi.2, hn]
      simp only [Bool.false_eq_true, if_false, if_true, Int.toNat_natCast]
      simp only [pdOf, fuseI, hi.1]
      rw [← List.drop_take])
    have HLL : Hid ((triD d to).bs.length ≤ 100100000) := hide (by unfold triD; rw [hi.1, hi.2]; simp; omega)
    subst hz'
    subst hn
    have HBd : Hid (Below w.heap.size w w1.drew) := hide HB1.out.drew
    have C1 := hide (dhold_any q vb (pdOf d) d.fbase n w1.drew (HH.out.below HBd.out) (by show d.fbase + (d.bs.drop d.fbase).length ≤ _; omega) (Nat.le_refl _) (by omega) (by show n ≤ d.fbase + (d.bs.drop d.fbase).length; omega))
    have e1 : ({ pdOf d with f := d.fbase, rs := ((pdOf d).rs.drop (d.fbase - (pdOf d).f)).take (n - d.fbase) } : Pd) = { pdOf d with rs := (d.bs.drop d.fbase).take (n - d.fbase) } := by
      show ({ pdOf d with f := d.fbase, rs := ((d.bs.drop d.fbase).drop (d.fbase - d.fbase)).take (n - d.fbase) } : Pd) = _
      rw [Nat.sub_self, List.drop_zero]
      rfl
    rw [e1] at C1
    obtain ⟨ys, hys⟩ : ∃ ys, ys = (d.bs.drop d.fbase).take (n - d.fbase) := ⟨_, rfl⟩
    rw [← hys] at C1 HD
    clear hi hz e1 hys hca
    have m0' : w1.cell? ⟨q, 0, none⟩ = some (.int .i64 (d.fbase : Int)) := m0
    clear m0
    go_wp2_with fail
    go_region_held (fun w' => w'.cell? ⟨q, 0, none⟩ = some (.int .i64 (d.fbase : Int))) (go_keep) (first
      | (go_at_call 44; refine C1.out.mono ?_; rintro e w2 ⟨rfl, h2⟩; have H2 := hide (RBid.before HBd.out h2); have o0 : w2.cell? ⟨q, 0, none⟩ = some (.int .i64 (d.fbase : Int)) := (by obtain ⟨⟨v2, r2, _⟩, _⟩ := h2; exact r2.at.1); have o5 : w2.cell? ⟨q, 5, none⟩ = some (.int .i64 (d.fend : Int)) := (by obtain ⟨⟨v2, r2, _⟩, _⟩ := h2; exact r2.at.2.2.2.2.2.1); have y5 : w2.frozen? ⟨q, 5, none⟩ = false := (by obtain ⟨⟨v2, r2, _⟩, _⟩ := h2; exact r2.box.frozen 5); clear h2))
    go_wp2_with fail
    all_goals go_ret
    all_goals
      refine ⟨rfl, did_of hF ?_ HOF.out HLL.out⟩
      rw [← HD.out]
      refine H2.out.then fun vb1 r1 => ?_
      first
        | exact r1.putid (i := 5) (v := .int .i64 (n : Int)) (by rw [show min d.fend n = n by omega]; rfl) rfl
        | exact r1.putid (i := 5) (v := .int .i64 (d.fend : Int)) (by rw [show min d.fend n = d.fend by omega]; rfl) rfl
  · have HD : Hid (triD d to = d) := hide (by
      have hz : cutA d to ≠ 0 := by rw [← hca]; exact hz'
      unfold cutA at hz
      unfold triD
      cases ho : d.off
      · rw [ho] at hz
        cases hb : d.inB to
        · rfl
        · rw [hb] at hz; simp at hz
      · rfl)
    have hn : (ca == 0) = false := by simpa using hz'
    clear hca hz'
    go_wp2_with fail
    go_ret
    rw [HD.out]
    exact ⟨rfl, did_of hF (RBid.of_below HH.out HB1.out) HOK.out hle⟩
end Go.Proofs.Ytjjmcaamgoffiaa
