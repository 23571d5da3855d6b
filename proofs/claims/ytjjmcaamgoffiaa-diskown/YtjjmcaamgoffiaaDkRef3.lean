/-
  The reference's disk: Trim, Read, New. Own work.
-/
import Derived.Test.YtjjmcaamgoffiaaDkRef2
namespace Go.Proofs.Ytjjmcaamgoffiaa
open Go.RowKit

set_option maxRecDepth 100000 in
set_option maxHeartbeats 1600000 in
theorem rtrim_any (p : Nat) (vb : Value) (d : Dk) (to : Int) (w : World) (h : RD w p vb d) (hd : d.bs.length ≤ 100000000) :
    Calls Try.prog 34 #[.pointer (some ⟨p, 0, none⟩), .int .i64 to] w fun e w' => e = .returned (.int .i64 (cutA d to)) ∧ RDid w w' p vb (triD d to) := by
  obtain ⟨m0, m1, m2, m3, m4, m5, m6, m7⟩ := h.at
  have hp := h.box.lt
  have HH := hide h
  have HLB := hide (Lies.of_own h.own)
  obtain ⟨ao, cap, rfl⟩ := h.len
  clear h
  cases ho : d.off
  · rw [ho] at m5
    by_cases h1 : to < (d.base : Int)
    · have HI : Hid (d.inB to = false) := hide (by unfold Dk.inB; rw [decide_eq_false (by omega)]; rfl)
      have HE : Hid (cutA d to = 1) := hide (by unfold cutA; rw [ho, HI.out]; rfl)
      have HD : Hid (triD d to = d) := hide (by unfold triD; rw [ho, HI.out]; rfl)
      have d1 : decide (to < (d.base : Int)) = true := decide_eq_true h1
      clear h1
      go_enter Try.func34, Try.ntmps34
      go_wp2
      go_ret
      exact ⟨ret_int HE.out.symm, by rw [HD.out]; exact RDid.same HH.out⟩
    · have d1 : decide (to < (d.base : Int)) = false := decide_eq_false h1
      by_cases h2 : to > (d.bs.length : Int)
      · have HI : Hid (d.inB to = false) := hide (by unfold Dk.inB; rw [decide_eq_false (show ¬ to ≤ (d.bs.length : Int) by omega), Bool.and_false])
        have HE : Hid (cutA d to = 1) := hide (by unfold cutA; rw [ho, HI.out]; rfl)
        have HD : Hid (triD d to = d) := hide (by unfold triD; rw [ho, HI.out]; rfl)
        have d2 : decide (to > (d.bs.length : Int)) = true := decide_eq_true h2
        clear h1 h2
        go_enter Try.func34, Try.ntmps34
        go_wp2
        go_ret
        exact ⟨ret_int HE.out.symm, by rw [HD.out]; exact RDid.same HH.out⟩
      · have d2 : decide (to > (d.bs.length : Int)) = false := decide_eq_false h2
        obtain ⟨n, rfl⟩ := Int.eq_ofNat_of_zero_le (show 0 ≤ to by omega)
        have hn : n ≤ d.bs.length := by omega
        have hbn : d.base ≤ n := by omega
        have e1 : decide (n < d.base) = false := decide_eq_false (by omega)
        have e2 : decide (d.bs.length < n) = false := decide_eq_false (by omega)
        have HI : Hid (d.inB (n : Int) = true) := hide (by unfold Dk.inB; rw [decide_eq_true (show (d.base : Int) ≤ (n : Int) by omega), decide_eq_true (show (n : Int) ≤ (d.bs.length : Int) by omega)]; rfl)
        have HE : Hid (cutA d (n : Int) = 0) := hide (by unfold cutA; rw [ho, HI.out]; rfl)
        obtain ⟨ys, hys⟩ : ∃ ys, ys = d.bs.take n := ⟨_, rfl⟩
        have HD : Hid (triD d (n : Int) = { d with bs := ys, fend := min d.fend n }) := hide (by unfold triD; rw [ho, HI.out, hys]; cases d; simp_all)
        have HYS := hide hys
        clear hys h1 h2
        go_enter Try.func34, Try.ntmps34
        go_wp2_with (first
          | (refine wp_to _ rfl _ _ rfl _ d.bs rfl HLB.out .i64 n rfl hn ?_; intro ao2 cap2 hL2; have HL2 := hide hL2; clear hL2)
          | (at_builtin; refine append_lies _ rfl _ _ rfl w.heap.size _ _ 0 [] (d.bs.take n) rfl (World.ownsRow_nil _ _ _ _) rfl HL2.out (by simp; omega) (Nat.le_refl _) ?_; intro v3 w3 ho3 hg3; have hB3 := (Below.refl w.heap.size w).grown hg3 (Nat.le_refl _) (fun k hk => by cases hk); have hfz := (HH.out.below hB3).box.frozen 1; have hc3 := (HH.out.below hB3).at.2.1; have ho4 : w3.ownsRow w.heap.size 5 1 v3 ys.length (ys.map (Value.int .u8)) := (by rw [HYS.out]; have h1 := ho3.1; simp only [List.nil_append] at ho3 h1; have h2 : 0 + (d.bs.take n).length = (d.bs.take n).length := Nat.zero_add _; rw [h2] at ho3; exact ho3); obtain ⟨ao3, cap3, hv3⟩ := (Lies.of_own ho4).shape; subst hv3; have hf4 := (HH.out.below hB3).box.frozen 4; have hc4 := (HH.out.below hB3).at.2.2.2.2.1; have HO3 := hide ho4; have HB3 := hide hB3; clear ho3 hg3 hB3 ho4))
        all_goals go_ret
        all_goals
          have hn3 : (Value.slice ao3 ys.length cap3).ownBlock ≠ some p := fun e => by have := (HO3.out.lt p e).1; omega
          obtain ⟨q1, q2⟩ := (HH.out.below HB3.out).bytes (owns_any7 HO3.out) hn3
        all_goals first
          | (obtain ⟨q3, q4⟩ := q1.put (i := 4) (v := .int .i64 (n : Int)) (d' := { d with bs := ys, fend := min d.fend n }) (by rw [show min d.fend n = n by omega]; rfl) rfl
             exact ⟨ret_int HE.out.symm, by rw [HD.out]; exact ⟨⟨_, q3, .inr (fun g hg => (HO3.out.lt g hg).1)⟩, ((KeepBut.of_below (fun k => k = p) HB3.out).trans q2 (fun _ _ h => h)).trans q4 (fun _ _ h => h)⟩⟩)
          | (obtain ⟨q3, q4⟩ := q1.put (i := 4) (v := .int .i64 (d.fend : Int)) (d' := { d with bs := ys, fend := min d.fend n }) (by rw [show min d.fend n = d.fend by omega]; rfl) rfl
             exact ⟨ret_int HE.out.symm, by rw [HD.out]; exact ⟨⟨_, q3, .inr (fun g hg => (HO3.out.lt g hg).1)⟩, ((KeepBut.of_below (fun k => k = p) HB3.out).trans q2 (fun _ _ h => h)).trans q4 (fun _ _ h => h)⟩⟩)
  · have HE : Hid (cutA d to = 10) := hide (by unfold cutA; rw [ho]; rfl)
    have HD : Hid (triD d to = d) := hide (by unfold triD; rw [ho]; rfl)
    rw [ho] at m5
    go_enter Try.func34, Try.ntmps34
    go_wp2
    go_ret
    exact ⟨ret_int HE.out.symm, by rw [HD.out]; exact RDid.same HH.out⟩
set_option maxRecDepth 100000 in
set_option maxHeartbeats 1600000 in
theorem rread_any (p : Nat) (vb : Value) (d : Dk) (w : World) (h : RD w p vb d) (hok : d.Ok) (hd : d.bs.length ≤ 100000000) :
    Calls Try.prog 16 #[.pointer (some ⟨p, 0, none⟩)] w fun e w' => ∃ v, e = .returned (.tuple #[v, .int .i64 (reaA d)]) ∧ Lies .u8 w' v (reaB d) ∧ Below w.heap.size w w' := by
  obtain ⟨m0, m1, m2, m3, m4, m5, m6, m7⟩ := h.at
  have HLB := hide (Lies.of_own h.own)
  have HH := hide h
  obtain ⟨ao, cap, rfl⟩ := h.len
  have hb := hok.b2
  clear h
  cases ho : d.off
  · rw [ho] at m5
    have HE : Hid (reaA d = 0) := hide (by unfold reaA; rw [ho]; rfl)
    have HR : Hid (reaB d = d.bs.drop d.base) := hide (by unfold reaB; rw [ho]; rfl)
    have hrf := fun W => run_from W ao d.bs.length cap d.base hb
    have HLD := hide (HLB.out.drop (s := d.base) hb)
    generalize (if cap = d.base then ao else ao.map (·.add (d.base * 1))) = ao2 at *
    generalize cap - d.base = cap2 at *
    obtain ⟨ys, hys⟩ : ∃ ys, ys = d.bs.drop d.base := ⟨_, rfl⟩
    have hyl : d.bs.length - d.base = ys.length := by rw [hys]; simp
    rw [hyl] at hrf HLD
    rw [← hys] at HLD HR
    have hyb : ys.length ≤ 100000000 := by omega
    have HLDd := hide (HLD.out.below (Below.refl w.heap.size w).drew)
    clear hys hyl
    go_enter Try.func16, Try.ntmps16
    go_wp2_with fail
    go_region_held_law (fun w' => w'.cell? ⟨p, 1, none⟩ = some (.slice ao d.bs.length cap) ∧ w'.cell? ⟨p, 2, none⟩ = some (.int .i64 (d.base : Int))) (go_keep) ((refine step_lies _ rfl _ _ rfl w.heap.size _ _ 0 [] ys rfl (World.ownsRow_nil _ _ _ _) rfl HLDd.out (by omega) (Nat.le_refl _) ?_; intro v3 w3 ho3 hg3; have hB3 := ((Below.refl w.heap.size w).drew).grown hg3 (Nat.le_refl _) (fun k hk => by cases hk); have n1 := (HH.out.below hB3).at.2.1; have n2 := (HH.out.below hB3).at.2.2.1; have HL3 := hide (Lies.of_own ho3); have HB3 := hide hB3; clear ho3 hg3 hB3))
    all_goals go_wp2
    all_goals (rename_i dd hdd; first | (obtain rfl : 17 = dd := Option.some.inj hdd) | (cases hdd))
    all_goals go_ret2
    all_goals
      rw [HE.out, HR.out]
      exact ⟨_, rfl, by simpa using HL3.out, HB3.out⟩
  · rw [ho] at m5
    have HE : Hid (reaA d = 10) := hide (by unfold reaA; rw [ho]; rfl)
    have HR : Hid (reaB d = []) := hide (by unfold reaB; rw [ho]; rfl)
    go_enter Try.func16, Try.ntmps16
    go_wp2
    go_ret2
    rw [HE.out, HR.out]
    exact ⟨_, rfl, Lies.nil _ _, Below.refl _ _⟩
end Go.Proofs.Ytjjmcaamgoffiaa
