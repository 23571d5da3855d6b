/-
  The reference's disk: Cut, Arm, Force, Append, Trim, Read. Own work.
-/
import Derived.Test.YtjjmcaamgoffiaaDkRef
namespace Go.Proofs.Ytjjmcaamgoffiaa
open Go.RowKit

set_option maxRecDepth 100000 in
theorem rcut_any (p : Nat) (vb : Value) (d : Dk) (to : Int) (w : World) (h : RD w p vb d) :
    Calls Try.prog 33 #[.pointer (some ⟨p, 0, none⟩), .int .i64 to] w fun e w' => e = .returned (.int .i64 (cutA d to)) ∧ RDid w w' p vb (cutD d to) := by
  obtain ⟨m0, m1, m2, m3, m4, m5, m6, m7⟩ := h.at
  have hfz := h.box.frozen 2
  have HH := hide h
  obtain ⟨ao, cap, rfl⟩ := h.len
  clear h
  cases ho : d.off
  · rw [ho] at m5
    by_cases h1 : to < (d.base : Int)
    · have HI : Hid (d.inB to = false) := hide (by unfold Dk.inB; rw [decide_eq_false (by omega)]; rfl)
      have HE : Hid (cutA d to = 1) := hide (by unfold cutA; rw [ho, HI.out]; rfl)
      have HD : Hid (cutD d to = d) := hide (by unfold cutD; rw [ho, HI.out]; rfl)
      have d1 : decide (to < (d.base : Int)) = true := decide_eq_true h1
      clear h1
      go_enter Try.func33, Try.ntmps33
      go_wp2
      go_ret
      exact ⟨ret_int HE.out.symm, by rw [HD.out]; exact RDid.same HH.out⟩
    · have d1 : decide (to < (d.base : Int)) = false := decide_eq_false h1
      by_cases h2 : to > (d.bs.length : Int)
      · have HI : Hid (d.inB to = false) := hide (by unfold Dk.inB; rw [decide_eq_false (show ¬ to ≤ (d.bs.length : Int) by omega), Bool.and_false])
        have HE : Hid (cutA d to = 1) := hide (by unfold cutA; rw [ho, HI.out]; rfl)
        have HD : Hid (cutD d to = d) := hide (by unfold cutD; rw [ho, HI.out]; rfl)
        have d2 : decide (to > (d.bs.length : Int)) = true := decide_eq_true h2
        clear h1 h2
        go_enter Try.func33, Try.ntmps33
        go_wp2
        go_ret
        exact ⟨ret_int HE.out.symm, by rw [HD.out]; exact RDid.same HH.out⟩
      · have d2 : decide (to > (d.bs.length : Int)) = false := decide_eq_false h2
        have HI : Hid (d.inB to = true) := hide (by unfold Dk.inB; rw [decide_eq_true (show (d.base : Int) ≤ to by omega), decide_eq_true (show to ≤ (d.bs.length : Int) by omega)]; rfl)
        have HE : Hid (cutA d to = 0) := hide (by unfold cutA; rw [ho, HI.out]; rfl)
        have HD : Hid (cutD d to = { d with base := to.toNat }) := hide (by unfold cutD; rw [ho, HI.out]; cases d; simp_all)
        have HN : Hid (((to.toNat : Nat) : Int) = to) := hide (by omega)
        clear h1 h2
        go_enter Try.func33, Try.ntmps33
        go_wp2
        go_ret
        obtain ⟨q1, q2⟩ := HH.out.put (i := 2) (v := .int .i64 to) (d' := { d with base := to.toNat }) (by unfold rcells; rw [← HN.out]; simp) rfl
        exact ⟨ret_int HE.out.symm, by rw [HD.out]; exact ⟨⟨_, q1, .inl rfl⟩, q2⟩⟩
  · have HE : Hid (cutA d to = 10) := hide (by unfold cutA; rw [ho]; rfl)
    have HD : Hid (cutD d to = d) := hide (by unfold cutD; rw [ho]; rfl)
    rw [ho] at m5
    go_enter Try.func33, Try.ntmps33
    go_wp2
    go_ret
    exact ⟨ret_int HE.out.symm, by rw [HD.out]; exact RDid.same HH.out⟩
theorem rarm_any (p : Nat) (vb : Value) (d : Dk) (n : Int) (w : World) (h : RD w p vb d) :
    Calls Try.prog 35 #[.pointer (some ⟨p, 0, none⟩), .int .i64 n] w fun e w' => e = .returned (.tuple #[]) ∧ RDid w w' p vb (armD d n) := by
  obtain ⟨m0, m1, m2, m3, m4, m5, m6, m7⟩ := h.at
  have hf6 := h.box.frozen 6
  have hf7 := h.box.frozen 7
  have HH := hide h
  clear h
  by_cases hn : 0 ≤ n
  · have d1 : decide (n ≥ 0) = true := decide_eq_true hn
    have d2 : decide (0 ≤ n) = true := decide_eq_true hn
    have HD : Hid (armD d n = { d with armed := true, fuse := n.toNat }) := hide (by unfold armD; rw [d2])
    have HN : Hid (((n.toNat : Nat) : Int) = n) := hide (by omega)
    go_enter Try.func35, Try.ntmps35
    go_wp2
    all_goals go_end0
    all_goals first
      | (exfalso; omega)
      | (obtain ⟨q1, q2⟩ := HH.out.put (i := 6) (v := .bool true) (d' := { d with armed := true }) rfl rfl
         obtain ⟨q3, q4⟩ := q1.put (i := 7) (v := .int .i64 n) (d' := { d with armed := true, fuse := n.toNat }) (by unfold rcells; rw [← HN.out]; simp) rfl
         exact ⟨rfl, by rw [HD.out]; exact ⟨⟨_, q3, .inl rfl⟩, q2.trans q4 (fun _ _ h => h)⟩⟩)
      | (obtain ⟨q1, q2⟩ := HH.out.put (i := 6) (v := .bool true) (d' := { d with armed := true }) rfl rfl
         obtain ⟨q3, q4⟩ := q1.put (i := 7) (v := .int .i64 0) (d' := { d with armed := true, fuse := n.toNat }) (by unfold rcells; rw [show n.toNat = 0 by omega]; simp) rfl
         exact ⟨rfl, by rw [HD.out]; exact ⟨⟨_, q3, .inl rfl⟩, q2.trans q4 (fun _ _ h => h)⟩⟩)
  · have d1 : decide (n ≥ 0) = false := decide_eq_false hn
    have d2 : decide (0 ≤ n) = false := decide_eq_false hn
    have HD : Hid (armD d n = { d with armed := false, fuse := n.toNat }) := hide (by unfold armD; rw [d2])
    go_enter Try.func35, Try.ntmps35
    go_wp2
    all_goals go_end0
    all_goals first
      | (exfalso; omega)
      | (obtain ⟨q1, q2⟩ := HH.out.put (i := 6) (v := .bool false) (d' := { d with armed := false }) rfl rfl
         obtain ⟨q3, q4⟩ := q1.put (i := 7) (v := .int .i64 0) (d' := { d with armed := false, fuse := n.toNat }) (by unfold rcells; rw [show n.toNat = 0 by omega]; simp) rfl
         exact ⟨rfl, by rw [HD.out]; exact ⟨⟨_, q3, .inl rfl⟩, q2.trans q4 (fun _ _ h => h)⟩⟩)
set_option maxRecDepth 100000 in
set_option maxHeartbeats 1600000 in
theorem rappend_any (p : Nat) (vb : Value) (d : Dk) (vx : Value) (xs : List Int) (w : World) (h : RD w p vb d) (hok : d.Ok) (hL : Lies .u8 w vx xs) (hd : d.bs.length ≤ 100000000) (hxl : xs.length ≤ 100000000000000) :
    Calls Try.prog 38 #[.pointer (some ⟨p, 0, none⟩), vx] w fun e w' => e = .returned (.tuple #[.int .i64 (appA d xs).1, .int .i64 (appA d xs).2]) ∧ RDid w w' p vb (appD d xs) := by
  obtain ⟨m0, m1, m2, m3, m4, m5, m6, m7⟩ := h.at
  have hp := h.box.lt
  have HH := hide h
  have HLB := hide (Lies.of_own h.own)
  have CL := hide (rleft_any p vb d w h hok)
  have HLX := hide hL
  obtain ⟨ao, cap, hvb⟩ := h.len
  obtain ⟨ao2, cap2, hvx⟩ := hL.shape
  subst hvb
  subst hvx
  clear h hL
  cases ho : d.off
  · rw [ho] at m5
    by_cases hl : d.left < xs.length
    · have HE : Hid (appA d xs = (0, 9)) := hide (by unfold appA; rw [ho, if_neg (by simp), if_pos hl])
      have HD : Hid (appD d xs = d) := hide (by unfold appD; rw [ho, if_neg (by simp), if_pos hl])
      have d1 : decide ((xs.length : Int) > ((d.left : Nat) : Int)) = true := decide_eq_true (by omega)
      generalize d.left = lf at *
      go_enter Try.func38, Try.ntmps38
      go_wp2_with fail
      refine CL.out.mono ?_
      rintro e w1 ⟨rfl, hB1⟩
      have HB1 := hide hB1
      clear hB1
      go_wp2_with fail
      go_ret2
      rw [HE.out, HD.out]
      exact ⟨rfl, ⟨_, HH.out.below HB1.out, .inl rfl⟩, KeepBut.of_below _ HB1.out⟩
    · have HE : Hid (appA d xs = ((d.bs.length : Int), 0)) := hide (by unfold appA; rw [ho, if_neg (by simp), if_neg hl])
      obtain ⟨ys, hys⟩ : ∃ ys, ys = d.bs ++ xs := ⟨_, rfl⟩
      have HD : Hid (appD d xs = { d with bs := ys }) := hide (by unfold appD; rw [ho, if_neg (by simp), if_neg hl, hys])
      have HYS := hide hys
      clear hys
      have d1 : decide ((xs.length : Int) > ((d.left : Nat) : Int)) = false := decide_eq_false (by omega)
      generalize d.left = lf at *
      go_enter Try.func38, Try.ntmps38
      go_wp2_with fail
      refine CL.out.mono ?_
      rintro e w1 ⟨rfl, hB1⟩
      obtain ⟨n0, n1, n2, n3, n4, n5, n6, n7⟩ := (HH.out.below hB1).at
      have HB1 := hide hB1
      have hs1 := hB1.size
      have HD1 := hide (HH.out.below hB1)
      clear hB1 m0 m1 m2 m3 m4 m5 m6 m7
      go_wp2_with (first
        | (at_builtin; refine append_lies _ rfl _ _ rfl w1.heap.size _ _ 0 [] d.bs rfl (World.ownsRow_nil _ _ _ _) rfl (HLB.out.below HB1.out) (by omega) (Nat.le_refl _) ?_; intro v2 w2 ho2 hg2; have hB2 := (Below.refl w1.heap.size w1).grown hg2 (Nat.le_refl _) (fun k hk => by cases hk); have HO2 := hide ho2; have HB2 := hide hB2; clear ho2 hg2 hB2)
        | (at_builtin; refine append_lies _ rfl _ _ rfl w1.heap.size _ _ _ ([] ++ d.bs) xs rfl HO2.out rfl ((HLX.out.below HB1.out).below HB2.out) (by omega) HB2.out.size ?_; intro v3 w3 ho3 hg3; have hB3 : Below w1.heap.size w1 w3 := HB2.out.grown hg3 HB2.out.size (fun k hk => (HO2.out.lt k hk).1); have hfz := (HD1.out.below hB3).box.frozen 1; have hc3 := (HD1.out.below hB3).at.2.1; have ho4 : w3.ownsRow w1.heap.size 5 1 v3 ys.length (ys.map (Value.int .u8)) := (by rw [HYS.out]; simpa using ho3); obtain ⟨ao3, cap3, hv3⟩ := (Lies.of_own ho4).shape; subst hv3; have HO3 := hide ho4; have HB3 := hide hB3; clear ho3 hg3 hB3 ho4))
      go_ret2
      rw [HE.out, HD.out]
      have hn3 : (Value.slice ao3 ys.length cap3).ownBlock ≠ some p := fun e => by have := (HO3.out.lt p e).1; omega
      obtain ⟨q1, q2⟩ := (HD1.out.below HB3.out).bytes (owns_any7 HO3.out) hn3
      exact ⟨rfl, ⟨_, q1, .inr (fun g hg => by have := (HO3.out.lt g hg).1; omega)⟩, ((KeepBut.of_below (fun k => k = p) HB1.out).trans (KeepBut.of_below (fun k => k = p) HB3.out) (fun _ _ h => h)).trans q2 (fun _ _ h => h)⟩
  · have HE : Hid (appA d xs = (0, 10)) := hide (by unfold appA; rw [ho]; rfl)
    have HD : Hid (appD d xs = d) := hide (by unfold appD; rw [ho]; rfl)
    rw [ho] at m5
    clear CL
    go_enter Try.func38, Try.ntmps38
    go_wp2
    go_ret2
    rw [HE.out, HD.out]
    exact ⟨rfl, RDid.same HH.out⟩
set_option maxRecDepth 100000 in
set_option maxHeartbeats 1600000 in
theorem rforce_any (p : Nat) (vb : Value) (d : Dk) (w : World) (h : RD w p vb d) (hok : d.Ok) :
    Calls Try.prog 32 #[.pointer (some ⟨p, 0, none⟩)] w fun e w' => e = .returned (.int .i64 (forA d)) ∧ RDid w w' p vb (forD d) := by
  obtain ⟨m0, m1, m2, m3, m4, m5, m6, m7⟩ := h.at
  have hf3 := h.box.frozen 3
  have hf4 := h.box.frozen 4
  have hf5 := h.box.frozen 5
  have hf7 := h.box.frozen 7
  have hp := h.box.lt
  have hfu := hok.fu
  have HH := hide h
  obtain ⟨ao, cap, rfl⟩ := h.len
  clear h
  cases ho : d.off
  · rw [ho] at m5
    cases ha : d.armed
    · have HE : Hid (forA d = 0) := hide (by unfold forA; rw [ho, ha]; rfl)
      have HD : Hid (forD d = { d with fbase := d.base, fend := d.bs.length }) := hide (by unfold forD; rw [ho, ha]; cases d; simp_all)
      rw [ha] at m6
      go_enter Try.func32, Try.ntmps32
      go_wp2
      go_region
      all_goals go_wp2
      all_goals go_ret
      all_goals
        obtain ⟨q1, q2⟩ := HH.out.put (i := 3) (v := .int .i64 (d.base : Int)) (d' := { d with fbase := d.base }) rfl rfl
        obtain ⟨q3, q4⟩ := q1.put (i := 4) (v := .int .i64 (d.bs.length : Int)) (d' := { d with fbase := d.base, fend := d.bs.length }) rfl rfl
        exact ⟨ret_int HE.out.symm, by rw [HD.out]; exact ⟨⟨_, q3.below (Below.refl _ _).drew, .inl rfl⟩, (q2.trans q4 (fun _ _ h => h)).drew⟩⟩
    · rw [ha] at m6
      by_cases hz : d.fuse = 0
      · have HE : Hid (forA d = 10) := hide (by unfold forA; rw [ho, ha, hz]; rfl)
        have HD : Hid (forD d = { d with off := true }) := hide (by unfold forD; rw [ho, ha, hz]; rfl)
        rw [hz] at m7
        clear hz
        go_enter Try.func32, Try.ntmps32
        go_wp2
        go_ret
        obtain ⟨q1, q2⟩ := HH.out.put (i := 5) (v := .bool true) (d' := { d with off := true }) rfl rfl
        exact ⟨ret_int HE.out.symm, by rw [HD.out]; exact ⟨⟨_, q1, .inl rfl⟩, q2⟩⟩
      · have HE : Hid (forA d = 0) := hide (by unfold forA; rw [ho, ha]; simp [hz])
        have HD : Hid (forD d = { d with fuse := d.fuse - 1, fbase := d.base, fend := d.bs.length }) := hide (by unfold forD; rw [ho, ha]; cases d; simp_all)
        have hn : ((d.fuse : Int) == 0) = false := by simp; omega
        have HF : Hid (((d.fuse - 1 : Nat) : Int) = (d.fuse : Int) - 1) := hide (by omega)
        go_enter Try.func32, Try.ntmps32
        go_wp2
        go_region
        all_goals go_wp2
        all_goals go_ret
        all_goals
          obtain ⟨q1, q2⟩ := HH.out.put (i := 7) (v := .int .i64 ((d.fuse : Int) - 1)) (d' := { d with fuse := d.fuse - 1 }) (by unfold rcells; rw [HF.out]; rfl) rfl
          obtain ⟨q3, q4⟩ := q1.put (i := 3) (v := .int .i64 (d.base : Int)) (d' := { d with fuse := d.fuse - 1, fbase := d.base }) rfl rfl
          obtain ⟨q5, q6⟩ := q3.put (i := 4) (v := .int .i64 (d.bs.length : Int)) (d' := { d with fuse := d.fuse - 1, fbase := d.base, fend := d.bs.length }) rfl rfl
          exact ⟨ret_int HE.out.symm, by rw [HD.out]; exact ⟨⟨_, q5.below (Below.refl _ _).drew, .inl rfl⟩, ((q2.trans q4 (fun _ _ h => h)).trans q6 (fun _ _ h => h)).drew⟩⟩
  · have HE : Hid (forA d = 10) := hide (by unfold forA; rw [ho]; rfl)
    have HD : Hid (forD d = d) := hide (by unfold forD; rw [ho]; rfl)
    rw [ho] at m5
    go_enter Try.func32, Try.ntmps32
    go_wp2
    go_ret
    exact ⟨ret_int HE.out.symm, by rw [HD.out]; exact RDid.same HH.out⟩
end Go.Proofs.Ytjjmcaamgoffiaa
