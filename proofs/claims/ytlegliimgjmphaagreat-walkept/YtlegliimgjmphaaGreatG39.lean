/-
  Own texts put together: DkProg2. Own work.
-/
import Derived.Test.YtlegliimgjmphaaGreatG38
namespace Go.Proofs.YtlegliimgjmphaaGreat
section
open Go.RowKit
theorem eql_nil7 (a : Option Addr) (l c : Nat) (w : World) : (binOp .eql 29 (.slice a l c) (.slice none 0 0)).run Tryz.prog w = .ok (.bool a.isNone) w := by
 have h1 : ∀ d, (Op.equalIn (d + 1) 29 (.slice a l c) (.slice none 0 0)).run Tryz.prog w = .ok a.isNone w := by
  intro d
  cases a <;> simp [Op.equalIn, run_underlying Tryz.underlying29]
 have h2 : (Op.equal 29 (.slice a l c) (.slice none 0 0)).run Tryz.prog w = .ok a.isNone w := h1 9999
 simp [binOp, h2]
set_option maxRecDepth 100000 in
set_option maxHeartbeats 800000 in
theorem clone_any7 (v : Value) (xs : List Int) (w : World) (h : Lies .u8 w v xs) (hr : xs.length ≤ 200000000000000) :
  Calls Tryz.prog 60 #[v] w fun e w' => ∃ v', e = .returned v' ∧ w'.ownsRow w.heap.size 5 1 v' xs.length (xs.map (Value.int .u8)) ∧ Below w.heap.size w w' := by
 obtain ⟨ao, cap, hv, hn, _⟩ := h.appendable
 subst hv
 cases ao with
 | none =>
  obtain ⟨h0, rfl⟩ := hn rfl
  rw [h0]
  obtain rfl : xs = [] := List.eq_nil_of_length_eq_zero h0
  clear h hn hr h0
  have hq := fun (w : World) => eql_nil7 none 0 0 w
  go_enter Tryz.func60, Tryz.ntmps60
  go_wp2_with fail
  go_ret
  exact ⟨_, rfl, World.ownsRow_nil _ _ _ _, Below.refl _ _⟩
 | some ad =>
  have HL := hide (h.below ((Below.refl w.heap.size w).alloc (Nat.le_refl _) (.cells #[] 5)))
  have HO := hide (World.ownsRow_made (base := w.heap.size) (e := 5) (size := 1) w #[] 0 (Nat.le_refl _) (by unfold maxLen; omega) rfl)
  have HB := hide ((Below.refl w.heap.size w).alloc (Nat.le_refl _) (.cells #[] 5))
  clear h hn
  have hq := fun (w : World) (n c : Nat) => eql_nil7 (some ad) n c w
  have HS : Hid (w.heap.size ≤ (w.alloc (.cells #[] 5)).heap.size) := hide (HB.out.size)
  go_enter Tryz.func60, Tryz.ntmps60
  go_wp2_with (at_builtin; refine append_lies _ rfl _ _ rfl w.heap.size _ _ 0 [] xs rfl HO.out rfl HL.out (by omega) HS.out ?_; intro v0 w0 hown0 hgrow0; simp only [Nat.zero_add, List.nil_append] at hown0; have H0 := hide hown0; have H1 := hide hgrow0; clear hown0 hgrow0)
  go_ret
  exact ⟨_, rfl, H0.out, HB.out.grown H1.out HS.out (fun k hk => by cases hk; exact Nat.le_refl _)⟩
set_option maxRecDepth 100000 in
set_option maxHeartbeats 1600000 in
theorem dRead_any (q : Nat) (vb : Value) (d : Dk) (w : World) (h : PB w q vb d) :
  Calls Tryz.prog 28 #[.pointer (some ⟨q, 0, none⟩)] w fun e w' => ∃ v, e = .returned (.tuple #[v, .int .i64 (reaA d)]) ∧ w'.ownsRow w.heap.size 5 1 v (reaB d).length ((reaB d).map (Value.int .u8)) ∧ Below w.heap.size w w' := by
 have hle := h.le
 have hpl := pd_len h.ok
 have HH := hide h.rb
 have hb1 := h.ok.b1
 have hb2 := h.ok.b2
 have C := hide (ready_any q vb _ w h.rb)
 have m4 : w.cell? ⟨q, 4, none⟩ = some (.int .i64 (d.base : Int)) := h.rb.at.2.2.2.2.1
 clear h
 cases ho : d.off
 ·rw [on_of ho] at C
  have HE : Hid (reaA d = 0) := hide (by unfold reaA; rw [ho]; rfl)
  obtain ⟨ys, hys⟩ : ∃ ys, ys = d.bs.drop d.base := ⟨_, rfl⟩
  have HR : Hid (reaB d = ys) := hide (by unfold reaB; rw [ho, hys]; rfl)
  have HBd : Hid (Below w.heap.size w w.drew) := hide (Below.refl _ _).drew
  have hbn : (pdOf d).f + (pdOf d).rs.length ≤ 200000000 := by show d.fbase + (d.bs.drop d.fbase).length ≤ _; omega
  have C1 := hide (dend_any q vb _ _ (HH.out.below HBd.out) hbn)
  have e2 : (pdOf d).f + (pdOf d).rs.length = d.bs.length := hpl
  rw [e2] at C1
  have e3 : ((pdOf d).rs.drop (d.base - (pdOf d).f)).take (d.bs.length - d.base) = ys := by
   show ((d.bs.drop d.fbase).drop (d.base - d.fbase)).take (d.bs.length - d.base) = ys
   rw [List.drop_drop, hys, show d.fbase + (d.base - d.fbase) = d.base by omega, List.take_of_length_le (by simp)]
  have C2 := fun (W : World) (hW : RB W q vb (pdOf d)) => dspan_any q vb (pdOf d) d.base d.bs.length W hW hbn hb1 hb2 (by rw [e2]; exact Nat.le_refl _)
  rw [e3] at C2
  have HC2 := hide C2
  have hyl : ys.length ≤ 100100000 := by rw [hys]; simp; omega
  have C3 : Hid (∀ (W : World) (v : Value), PRow W v ys → Calls Tryz.prog 60 #[v] W fun e w' => ∃ v', e = .returned v' ∧ w'.ownsRow W.heap.size 5 1 v' ys.length (ys.map (Value.int .u8)) ∧ Below W.heap.size W w') := hide (fun W v hv => clone_any7 v ys W hv.lies (by omega))
  clear C2 e2 e3 hys hpl hb1 hb2 hbn hle
  go_enter Tryz.func28, Tryz.ntmps28
  go_wp2_with fail
  refine C.out.mono ?_
  rintro e w1 ⟨rfl, rfl⟩
  clear C
  go_wp2_with fail
  go_region_held (fun w' => w'.cell? ⟨q, 4, none⟩ = some (.int .i64 (d.base : Int))) (go_keep) (first
   | (go_at_call 54; refine C1.out.mono ?_; rintro e w2 ⟨rfl, m, hw2⟩; have hB2 : Below w1.heap.size w1 w2 := HBd.out.trans (hw2 ▸ below_drewN7 w1.drew m); have n4 : w2.cell? ⟨q, 4, none⟩ = some (.int .i64 (d.base : Int)) := (HH.out.below hB2).at.2.2.2.2.1; have C5 := hide (HC2.out w2 (HH.out.below hB2)); have HB2 := hide hB2; clear hw2 hB2)
   | (go_at_call 61; refine C5.out.mono ?_; rintro e w3 ⟨v3, rfl, hp3, _, m3, hw3⟩; have hB3 : Below w1.heap.size w1 w3 := HB2.out.trans ((hw3 ▸ below_drewN7 w2 m3 : Below w2.heap.size w2 w3).mono HB2.out.size); have o4 : w3.cell? ⟨q, 4, none⟩ = some (.int .i64 (d.base : Int)) := (HH.out.below hB3).at.2.2.2.2.1; obtain ⟨ao3, cap3, hv3⟩ := hp3.lies.shape; subst hv3; have C6 := hide (C3.out w3 _ hp3); have HB3 := hide hB3; clear hw3 hB3 hp3)
   | (go_at_call 60; refine C6.out.mono ?_; rintro e w4 ⟨v4, rfl, hp4, hB4⟩; have hB5 : Below w1.heap.size w1 w4 := HB3.out.trans (hB4.mono HB3.out.size); have p4 : w4.cell? ⟨q, 4, none⟩ = some (.int .i64 (d.base : Int)) := (HH.out.below hB5).at.2.2.2.2.1; obtain ⟨ao4, cap4, hv4⟩ := (Lies.of_own hp4).shape; subst hv4; have HP4 := hide (owns_base7 hp4 HB3.out.size); have HB4 := hide hB5; clear hB4 hB5 hp4))
  go_wp2_with fail
  go_ret2
  rw [HE.out, HR.out]
  exact ⟨_, rfl, HP4.out, HB4.out⟩
 ·rw [on_of ho] at C
  have HE : Hid (reaA d = 10) := hide (by unfold reaA; rw [ho]; rfl)
  have HR : Hid (reaB d = []) := hide (by unfold reaB; rw [ho]; rfl)
  go_enter Tryz.func28, Tryz.ntmps28
  go_wp2_with fail
  refine C.out.mono ?_
  rintro e w1 ⟨rfl, rfl⟩
  go_wp2_with fail
  go_ret2
  rw [HE.out, HR.out]
  exact ⟨_, rfl, World.ownsRow_nil _ _ _ _, Below.refl _ _⟩
set_option maxRecDepth 100000 in
theorem dArm_any {F : Nat → Prop} (q : Nat) (vb : Value) (d : Dk) (n : Int) (w : World) (h : PB w q vb d) (hF : ∀ k, F k ↔ usesB q vb k) (hn : n ≤ 9223372036854775807) :
  Calls Tryz.prog 14 #[.pointer (some ⟨q, 0, none⟩), .int .i64 n] w fun e w' => e = .returned (.tuple #[]) ∧ Did PD w w' q F (armD d n) := by
 have hle := h.le
 have HH := hide h.rb
 have HOF := hide (armD_ok h.ok n hn)
 have C := hide (given_any q vb _ w h.rb)
 have z6 := h.rb.box.frozen 6
 obtain ⟨m0, m1, m2, m3, m4, m5, m6, m7⟩ := h.rb.at
 clear h m0 m1 m2 m3 m4 m5 m7
 have HD : Hid (({ pdOf d with fuse := if n < -1 then -1 else n } : Pd) = pdOf (armD d n)) := hide (by
  unfold pdOf armD fuseI
  by_cases h0 : 0 ≤ n
  ·simp only [h0, decide_true, if_true]
   rw [if_neg (by omega)]
   congr 1
   omega
  ·simp only [h0, decide_false, Bool.false_eq_true, if_false]
   congr 1
   split <;> omega)
 by_cases hc : n < -1
 ·rw [if_pos hc] at HD
  go_enter Tryz.func14, Tryz.ntmps14
  go_wp2_with fail
  refine C.out.mono ?_
  rintro e w1 ⟨rfl, rfl⟩
  go_wp2_with fail
  all_goals go_end0
  all_goals first
   | (exfalso; omega)
   | (refine ⟨rfl, did_of hF ?_ HOF.out hle⟩
      rw [← HD.out]
      exact HH.out.putid (i := 6) (v := .int .i64 (-1)) rfl rfl)
 ·rw [if_neg hc] at HD
  go_enter Tryz.func14, Tryz.ntmps14
  go_wp2_with fail
  refine C.out.mono ?_
  rintro e w1 ⟨rfl, rfl⟩
  go_wp2_with fail
  all_goals go_end0
  all_goals first
   | (exfalso; omega)
   | (refine ⟨rfl, did_of hF ?_ HOF.out hle⟩
      rw [← HD.out]
      exact HH.out.putid (i := 6) (v := .int .i64 n) rfl rfl)
theorem dFail_any {F : Nat → Prop} (q : Nat) (vb : Value) (d : Dk) (w : World) (h : PB w q vb d) (hF : ∀ k, F k ↔ usesB q vb k) :
  Calls Tryz.prog 21 #[.pointer (some ⟨q, 0, none⟩)] w fun e w' => e = .returned (.int .i64 (faiA d)) ∧ Did PD w w' q F (faiD d) := by
 have hle := h.le
 have HH := hide h.rb
 have HOF := hide (faiD_ok h.ok)
 have C := hide (given_any q vb _ w h.rb)
 have z7 := h.rb.box.frozen 7
 obtain ⟨m0, m1, m2, m3, m4, m5, m6, m7⟩ := h.rb.at
 have m7' : w.cell? ⟨q, 7, none⟩ = some (.bool (!d.off)) := m7
 clear h m0 m1 m2 m3 m4 m5 m6 m7
 have HD : Hid (({ pdOf d with on := false } : Pd) = pdOf (faiD d)) := hide rfl
 cases ho : d.off
 ·rw [ho] at m7'
  have HE : Hid (faiA d = 0) := hide (by unfold faiA; rw [ho]; rfl)
  go_enter Tryz.func21, Tryz.ntmps21
  go_wp2_with fail
  refine C.out.mono ?_
  rintro e w1 ⟨rfl, rfl⟩
  go_wp2_with fail
  go_ret
  refine ⟨ret_int HE.out.symm, did_of hF ?_ HOF.out hle⟩
  rw [← HD.out]
  exact HH.out.putid (i := 7) (v := .bool false) rfl rfl
 ·rw [ho] at m7'
  have HE : Hid (faiA d = 11) := hide (by unfold faiA; rw [ho]; rfl)
  have HD2 : Hid (pdOf (faiD d) = pdOf d) := hide (by unfold pdOf faiD fuseI; simp [ho])
  go_enter Tryz.func21, Tryz.ntmps21
  go_wp2_with fail
  refine C.out.mono ?_
  rintro e w1 ⟨rfl, rfl⟩
  go_wp2_with fail
  go_ret
  refine ⟨ret_int HE.out.symm, did_of hF ?_ HOF.out hle⟩
  rw [HD2.out]
  exact RBid.same HH.out
end
end Go.Proofs.YtlegliimgjmphaaGreat
