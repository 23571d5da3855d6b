/-
  Own texts put together: DkStart. Own work.
-/
import Derived.Test.YtlegliimgjmphaaGreatG39
namespace Go.Proofs.YtlegliimgjmphaaGreat
section
open Go.RowKit
def staM (d : Dk) (keep : Int) (xs : List Int) : Nat := if xs = [] then d.fend + min keep.toNat (d.bs.length - d.fend) else d.fend
theorem staB_eq (d : Dk) (keep : Int) (xs : List Int) : staB d keep xs = d.bs.take (staM d keep xs) ++ xs := by
 unfold staB staM
 by_cases h : xs = []
 ·subst h; simp
 ·rw [if_neg h, if_neg h]
theorem staM_le {d : Dk} (h : d.Ok) (keep : Int) (xs : List Int) : d.fend ≤ staM d keep xs ∧ staM d keep xs ≤ d.bs.length := by
 have := h.f2
 unfold staM
 split <;> omega
theorem staP {d : Dk} (h : d.Ok) (keep : Int) (xs : List Int) : (d.bs.drop d.fbase).take (staM d keep xs - d.fbase) ++ xs = (staB d keep xs).drop d.fbase := by
 have h1 := staM_le h keep xs
 have h2 := h.f1
 rw [staB_eq, List.drop_append_of_le_length (by simp; omega), ← List.drop_take]
set_option maxRecDepth 100000 in
set_option maxHeartbeats 1600000 in
theorem dStart_any {F : Nat → Prop} (q : Nat) (vb : Value) (d : Dk) (keep : Int) (cut : Bool) (vx : Value) (xs : List Int) (w : World) (h : PB w q vb d) (hF : ∀ k, F k ↔ usesB q vb k) (hL : Lies .u8 w vx xs) (h8 : ∀ c ∈ xs, 0 ≤ c ∧ c < 256) (hd : d.bs.length ≤ 100000000) (hk : keep ≤ 9223372036854775807) :
  Calls Tryz.prog 24 #[.pointer (some ⟨q, 0, none⟩), .int .i64 keep, .bool cut, vx] w fun e w' => e = .returned (.int .i64 (staA d xs)) ∧ Did PD w w' q F (staD d keep cut xs) := by
 have hle := h.le
 have hpl := pd_len h.ok
 have hok := h.ok
 have hr2 := hok.r2
 have hf1 := hok.f1
 have hf2 := hok.f2
 have hb1 := hok.b1
 have hb2 := hok.b2
 have hful := hok.full
 have HH := hide h.rb
 have HOK := hide hok
 have HL := hide hL
 have hmx := hL.len
 unfold maxLen at hmx
 have C := hide (given_any q vb _ w h.rb)
 have HOF := hide (staD_ok hok keep cut xs h8)
 obtain ⟨ao2, cap2, hvx⟩ := hL.shape
 subst hvx
 obtain ⟨m0, m1, m2, m3, m4, m5, m6, m7⟩ := h.rb.at
 have n0 : w.cell? ⟨q, 0, none⟩ = some (.int .i64 (d.fbase : Int)) := m0
 have n3 : w.cell? ⟨q, 3, none⟩ = some (.int .i64 (d.room : Int)) := m3
 have n5 : w.cell? ⟨q, 5, none⟩ = some (.int .i64 (d.fend : Int)) := m5
 have n7 : w.cell? ⟨q, 7, none⟩ = some (.bool (!d.off)) := m7
 clear h hL hok m0 m1 m2 m3 m4 m5 m6 m7
 cases ho : d.off
 ·rw [ho] at n7
  have HE : Hid (staA d xs = 11) := hide (by unfold staA; rw [ho]; rfl)
  have HD : Hid (staD d keep cut xs = d) := hide (by unfold staD; rw [ho]; rfl)
  go_enter Tryz.func24, Tryz.ntmps24
  go_wp2_with fail
  refine C.out.mono ?_
  rintro e w1 ⟨rfl, rfl⟩
  go_wp2_with fail
  go_ret
  rw [HD.out]
  exact ⟨ret_int HE.out.symm, did_of hF (RBid.same HH.out) HOK.out hle⟩
 ·rw [ho] at n7
  by_cases hf : d.room - (d.fend - d.fbase) < xs.length
  ·have HE : Hid (staA d xs = 9) := hide (by unfold staA; rw [ho]; simp [hf])
   have HD : Hid (staD d keep cut xs = d) := hide (by unfold staD; rw [ho]; simp [hf])
   have d1 : decide ((xs.length : Int) > (d.room : Int) - ((d.fend : Int) - (d.fbase : Int))) = true := decide_eq_true (by omega)
   go_enter Tryz.func24, Tryz.ntmps24
   go_wp2_with fail
   refine C.out.mono ?_
   rintro e w1 ⟨rfl, rfl⟩
   go_wp2_with fail
   go_quiet (fail)
   go_wp2_with fail
   go_ret
   rw [HD.out]
   exact ⟨ret_int HE.out.symm, did_of hF (RBid.of_below HH.out (below_drewN7 _ _)) HOK.out hle⟩
  ·have HE : Hid (staA d xs = 0) := hide (by unfold staA; rw [ho]; simp [hf])
   have d1 : decide ((xs.length : Int) > (d.room : Int) - ((d.fend : Int) - (d.fbase : Int))) = false := decide_eq_false (by omega)
   have hBl := staB_len HOK.out keep xs (by omega)
   obtain ⟨B, hB⟩ : ∃ B, B = staB d keep xs := ⟨_, rfl⟩
   obtain ⟨E, hE⟩ : ∃ E, E = staE d keep cut xs := ⟨_, rfl⟩
   have HEE : Hid (E = if cut && decide (d.base ≤ B.length) then d.base else d.fbase) := hide (by rw [hE, hB]; rfl)
   have hM := staM_le HOK.out keep xs
   obtain ⟨m, hm⟩ : ∃ m, m = staM d keep xs := ⟨_, rfl⟩
   have hP := staP HOK.out keep xs
   rw [← hm, ← hB] at hP
   rw [← hm] at hM
   rw [← hB] at hBl
   have hrl : d.fbase + (B.drop d.fbase).length = B.length := by simp; omega
   have HD : Hid (({ pdOf d with f := E, rs := B.drop E, base := E, sure := B.length, on := true, fuse := -1 } : Pd) = pdOf (staD d keep cut xs)) := hide (by
    unfold staD; rw [ho, if_neg (by simp), if_neg hf, hE, hB]; rfl)
   have HLL : Hid ((staD d keep cut xs).bs.length ≤ 100100000) := hide (by
    unfold staD; rw [ho, if_neg (by simp), if_neg hf, ← hB]
    show B.length ≤ _
    omega)
   have CEND : Hid (∀ n, Calls Tryz.prog 54 #[.pointer (some ⟨q, 0, none⟩)] (w.drewN n) fun e w' => e = .returned (.int .i64 (d.bs.length : Int)) ∧ ∃ m, w' = (w.drewN n).drewN m) := hide (fun n => by
    have := dend_any q vb (pdOf d) (w.drewN n) HH.out.drewN (by show d.fbase + (d.bs.drop d.fbase).length ≤ _; omega)
    have e2 : (pdOf d).f + (pdOf d).rs.length = d.bs.length := hpl
    rw [e2] at this
    exact this)
   have CHOLD : Hid (∀ W, RB W q vb (pdOf d) → Calls Tryz.prog 55 #[.pointer (some ⟨q, 0, none⟩), .int .i64 (d.fbase : Int), .int .i64 (m : Int)] W fun e w' => e = .returned (.tuple #[]) ∧ RBid W w' q vb { pdOf d with rs := (d.bs.drop d.fbase).take (m - d.fbase) } ∧ KeepBut (fun k => k = q) W w') := hide (fun W hW => by
    have := dhold_keep q vb (pdOf d) d.fbase m W hW (by show d.fbase + (d.bs.drop d.fbase).length ≤ _; omega) (Nat.le_refl _) (by omega) (by show m ≤ d.fbase + (d.bs.drop d.fbase).length; omega)
    have e1 : ({ pdOf d with f := d.fbase, rs := ((pdOf d).rs.drop (d.fbase - (pdOf d).f)).take (m - d.fbase) } : Pd) = { pdOf d with rs := (d.bs.drop d.fbase).take (m - d.fbase) } := by
     show ({ pdOf d with f := d.fbase, rs := ((d.bs.drop d.fbase).drop (d.fbase - d.fbase)).take (m - d.fbase) } : Pd) = _
     rw [Nat.sub_self, List.drop_zero]
     rfl
    rw [e1] at this
    exact this)
   have CADD : Hid (∀ W v, RB W q v { pdOf d with rs := (d.bs.drop d.fbase).take (m - d.fbase) } → Lies .u8 W (.slice ao2 xs.length cap2) xs → Calls Tryz.prog 56 #[.pointer (some ⟨q, 0, none⟩), .slice ao2 xs.length cap2] W fun e w' => e = .returned (.tuple #[]) ∧ RBid W w' q v { pdOf d with rs := B.drop d.fbase }) := hide (fun W v hW hL => by
    have := dadd_any q v _ _ xs W hW hL (by show ((d.bs.drop d.fbase).take (m - d.fbase)).length + xs.length ≤ _; simp; omega)
    have e1 : ({ ({ pdOf d with rs := (d.bs.drop d.fbase).take (m - d.fbase) } : Pd) with rs := ({ pdOf d with rs := (d.bs.drop d.fbase).take (m - d.fbase) } : Pd).rs ++ xs } : Pd) = { pdOf d with rs := B.drop d.fbase } := by
     show ({ pdOf d with rs := (d.bs.drop d.fbase).take (m - d.fbase) ++ xs } : Pd) = _
     rw [hP]
    rw [e1] at this
    exact this)
   have CEND2 : Hid (∀ W v n, RB W q v { pdOf d with rs := B.drop d.fbase } → Calls Tryz.prog 54 #[.pointer (some ⟨q, 0, none⟩)] (W.drewN n) fun e w' => e = .returned (.int .i64 (B.length : Int)) ∧ ∃ m, w' = (W.drewN n).drewN m) := hide (fun W v n hW => by
    have := dend_any q v _ (W.drewN n) hW.drewN (by show d.fbase + (B.drop d.fbase).length ≤ _; omega)
    have e2 : ({ pdOf d with rs := B.drop d.fbase } : Pd).f + ({ pdOf d with rs := B.drop d.fbase } : Pd).rs.length = B.length := hrl
    rw [e2] at this
    exact this)
   have CF : Hid (∀ W v, RB W q v { pdOf d with rs := B.drop d.fbase, base := E, on := true, fuse := -1 } → Calls Tryz.prog 57 #[.pointer (some ⟨q, 0, none⟩)] W fun e w' => e = .returned (.tuple #[]) ∧ RBid W w' q v (pdOf (staD d keep cut xs))) := hide (fun W v hW => by
    have hEl : d.fbase ≤ E ∧ E ≤ B.length := by
     rw [HEE.out]
     split
     ·rename_i h3
      simp only [Bool.and_eq_true, decide_eq_true_eq] at h3
      omega
     ·omega
    have := dforce_any q v _ W hW (by show d.fbase + (B.drop d.fbase).length ≤ _; omega) hEl.1 (by show E ≤ d.fbase + (B.drop d.fbase).length; omega)
    have e1 : ({ ({ pdOf d with rs := B.drop d.fbase, base := E, on := true, fuse := -1 } : Pd) with f := E, rs := (B.drop d.fbase).drop (E - d.fbase), sure := d.fbase + (B.drop d.fbase).length } : Pd) = pdOf (staD d keep cut xs) := by
     rw [← HD.out, hrl, List.drop_drop, show d.fbase + (E - d.fbase) = E by omega]
    rw [← e1]
    exact this)
   have HM := hide hm
   have hBb : B.length ≤ 100100000 := by omega
   have hmb : m ≤ 100100000 := by omega
   clear hP hpl hrl hE hB hm hM hBl
   go_enter Tryz.func24, Tryz.ntmps24
   go_wp2_with fail
   refine C.out.mono ?_
   rintro e w1 ⟨rfl, rfl⟩
   clear C
   go_wp2_with fail
   go_quiet (fail)
   generalize hW2 : w1.drewN nq = w2
   have hB2 : Below w1.heap.size w1 w2 := hW2 ▸ below_drewN7 w1 nq
   have HR2 := hide (HH.out.below hB2)
   have HB2 := hide hB2
   have CE2 : Hid (∀ n, Calls Tryz.prog 54 #[.pointer (some ⟨q, 0, none⟩)] (w2.drewN n) fun e w' => e = .returned (.int .i64 (d.bs.length : Int)) ∧ ∃ m, w' = (w2.drewN n).drewN m) := hide (fun n => by
    have := CEND.out (nq + n)
    rw [← World.drewN_drewN, hW2] at this
    exact this)
   clear hW2 hB2 CEND n0 n3 n5 n7
   have n5 : w2.cell? ⟨q, 5, none⟩ = some (.int .i64 (d.fend : Int)) := HR2.out.at.2.2.2.2.2.1
   go_wp2_with fail
   go_quiet ((go_at_call 54; exact Calls.quiet_of (CE2.out _)))
   generalize hW3 : w2.drewN nq = w3
   have hB3 : Below w1.heap.size w1 w3 := HB2.out.trans ((hW3 ▸ below_drewN7 w2 nq : Below w2.heap.size w2 w3).mono HB2.out.size)
   have HR3 := hide (HH.out.below hB3)
   have HB3 := hide hB3
   clear hW3 hB3 CE2 HB2 HR2 n5
   have n0 : w3.cell? ⟨q, 0, none⟩ = some (.int .i64 (d.fbase : Int)) := HR3.out.at.1
   have n5 : w3.cell? ⟨q, 5, none⟩ = some (.int .i64 (d.fend : Int)) := HR3.out.at.2.2.2.2.2.1
   have HBd : Hid (Below w1.heap.size w1 w3.drew) := hide HB3.out.drew
   have CH3 := hide (CHOLD.out w3.drew (HH.out.below HBd.out))
   generalize hkk : (if keep < 0 then (0 : Int) else keep) = kk
   have hk1 : kk = ((keep.toNat : Nat) : Int) := by rw [← hkk]; split <;> omega
   generalize hmm : (if (d.bs.length : Int) - (d.fend : Int) < kk then (d.bs.length : Int) - (d.fend : Int) else kk) = mm
   have hm1 : mm = ((min keep.toNat (d.bs.length - d.fend) : Nat) : Int) := by rw [← hmm]; split <;> omega
   obtain ⟨st, hst⟩ : ∃ st : Nat, st = min keep.toNat (d.bs.length - d.fend) := ⟨_, rfl⟩
   rw [← hst] at hm1
   have hstb : st ≤ 100000000 := by omega
   subst hm1
   have HST := hide hst
   clear hkk hk1 hmm hst hk CHOLD
   by_cases hx0 : xs = []
   ·subst hx0
    have HMM : Hid (m = d.fend + st) := hide (by rw [HM.out, HST.out]; unfold staM; rw [if_pos rfl])
    have hmst : d.fend + st ≤ 100100000 := by rw [← HMM.out]; exact hmb
    have HWR : Hid (IntKind.i64.wrap ((d.fend : Int) + (st : Int)) = (m : Int)) := hide (by rw [HMM.out]; rw [IntKind.wrap_i64]; omega)
    go_wp2_with fail
    go_region_held (fun w' => w'.cell? ⟨q, 0, none⟩ = some (.int .i64 (d.fbase : Int)) ∧ w'.cell? ⟨q, 5, none⟩ = some (.int .i64 (d.fend : Int))) (go_keep) (first
     | (go_at_call 55; rw [HWR.out]; refine CH3.out.mono ?_; rintro e w4 ⟨rfl, h4, hk4⟩; have H4 := hide (RBid.before HBd.out h4); have HL4 := hide (lies_held (HH.out.below HBd.out) (HL.out.below HBd.out) hk4); have a0 : w4.cell? ⟨q, 0, none⟩ = some (.int .i64 (d.fbase : Int)) := (by obtain ⟨⟨v4, r4, _⟩, _⟩ := h4; exact r4.at.1); have a5 : w4.cell? ⟨q, 5, none⟩ = some (.int .i64 (d.fend : Int)) := (by obtain ⟨⟨v4, r4, _⟩, _⟩ := h4; exact r4.at.2.2.2.2.2.1); clear h4 hk4))
    obtain ⟨⟨v4, r4, p4⟩, k4⟩ := H4.out
    have HR4 := hide r4
    have CA := hide (CADD.out w4 v4 r4 HL4.out)
    clear r4 p4 k4 CH3 CADD n0 n5 HL4
    go_wp2_with fail
    refine CA.out.mono ?_
    rintro e w5 ⟨rfl, h5⟩
    obtain ⟨v5, r5, p5⟩ := h5.st
    have H5 : Hid (RBid w1 w5 q vb { pdOf d with rs := B.drop d.fbase }) := hide (H4.out.after HR4.out h5)
    have HR5 := hide r5
    have CE5 : Hid (∀ n, Calls Tryz.prog 54 #[.pointer (some ⟨q, 0, none⟩)] (w5.drewN n) fun e w' => e = .returned (.int .i64 (B.length : Int)) ∧ ∃ m, w' = (w5.drewN n).drewN m) := hide (fun n => CEND2.out w5 v5 n r5)
    have o4 : w5.cell? ⟨q, 4, none⟩ = some (.int .i64 (d.base : Int)) := r5.at.2.2.2.2.1
    have P5 : Hid (RB w5 q v5 { pdOf d with rs := B.drop d.fbase }) := hide r5
    clear h5 r5 p5 CA CEND2
    cases cut
    ·have HE2 : Hid (E = d.fbase) := hide (by rw [HEE.out]; rfl)
     go_wp2_with fail
     go_quiet (fail)
     generalize hW6 : w5.drewN nq = w6
     have hB6 : Below w5.heap.size w5 w6 := hW6 ▸ below_drewN7 w5 nq
     have HB6 := hide hB6
     have HR6 := hide (HR5.out.below hB6)
     have z4 := HR6.out.box.frozen 4
     have z6 := HR6.out.box.frozen 6
     have z7 := HR6.out.box.frozen 7
     obtain ⟨k0, k1, k2, k3, k4, k5, k6, k7⟩ := HR6.out.at
     have j0 : w6.cell? ⟨q, 0, none⟩ = some (.int .i64 (d.fbase : Int)) := k0
     clear hW6 hB6 k0 k1 k2 k3 k5 o4 CE5 HR5
     have r1 := HR6.out.putid (i := 4) (v := .int .i64 (d.fbase : Int)) (x' := { pdOf d with rs := B.drop d.fbase, base := d.fbase }) rfl rfl
     have r1' := (HR6.out.put (i := 4) (v := .int .i64 (d.fbase : Int)) (x' := { pdOf d with rs := B.drop d.fbase, base := d.fbase }) rfl rfl).1
     have r2' := (r1'.put (i := 7) (v := .bool true) (x' := { pdOf d with rs := B.drop d.fbase, base := d.fbase, on := true }) rfl rfl).1
     have r2 := r1'.putid (i := 7) (v := .bool true) (x' := { pdOf d with rs := B.drop d.fbase, base := d.fbase, on := true }) rfl rfl
     have r3' := (r2'.put (i := 6) (v := .int .i64 (-1)) (x' := { pdOf d with rs := B.drop d.fbase, base := d.fbase, on := true, fuse := -1 }) rfl rfl).1
     have r3 := r2'.putid (i := 6) (v := .int .i64 (-1)) (x' := { pdOf d with rs := B.drop d.fbase, base := d.fbase, on := true, fuse := -1 }) rfl rfl
     have HK3 := hide ((r1.keep.trans r2.keep (fun _ _ h => h)).trans r3.keep (fun _ _ h => h))
     have HQ3 : Hid (RB _ q v5 { pdOf d with rs := B.drop d.fbase, base := E, on := true, fuse := -1 }) := hide (by rw [HE2.out]; exact r3')
     clear r1 r1' r2 r2' r3 r3'
     go_wp2_with fail
     have C7 := CF.out _ v5 HQ3.out
     refine C7.mono ?_
     rintro e w8 ⟨rfl, h8⟩
     have H8 : Hid (RBid w5 w8 q v5 (pdOf (staD d keep false []))) := hide (RBid.before HB6.out (by
      obtain ⟨⟨v9, r9, p9⟩, k9⟩ := h8
      refine ⟨⟨v9, r9, ?_⟩, HK3.out.trans k9 (fun _ _ h => h)⟩
      rcases p9 with p9 | p9
      ·exact .inl p9
      ·exact .inr fun g hg => Nat.le_trans HK3.out.size (p9 g hg)))
     clear h8 C7
     go_wp2_with fail
     go_ret
     refine ⟨ret_int HE.out.symm, did_of hF ?_ HOF.out HLL.out⟩
     exact H5.out.after P5.out H8.out
    ·by_cases hbl : d.base ≤ B.length
     ·have HE2 : Hid (E = d.base) := hide (by rw [HEE.out, decide_eq_true hbl]; rfl)
      have hbd : decide ((d.base : Int) > (B.length : Int)) = false := decide_eq_false (by omega)
      go_wp2_with fail
      go_quiet ((go_at_call 54; exact Calls.quiet_of (CE5.out _)))
      generalize hW6 : w5.drewN nq = w6
      have hB6 : Below w5.heap.size w5 w6 := hW6 ▸ below_drewN7 w5 nq
      have HB6 := hide hB6
      have HR6 := hide (HR5.out.below hB6)
      have z4 := HR6.out.box.frozen 4
      have z6 := HR6.out.box.frozen 6
      have z7 := HR6.out.box.frozen 7
      obtain ⟨k0, k1, k2, k3, k4, k5, k6, k7⟩ := HR6.out.at
      have j0 : w6.cell? ⟨q, 0, none⟩ = some (.int .i64 (d.fbase : Int)) := k0
      clear hW6 hB6 k0 k1 k2 k3 k5 o4 CE5 HR5
      have r2' := (HR6.out.put (i := 7) (v := .bool true) (x' := { pdOf d with rs := B.drop d.fbase, on := true }) rfl rfl).1
      have r2 := HR6.out.putid (i := 7) (v := .bool true) (x' := { pdOf d with rs := B.drop d.fbase, on := true }) rfl rfl
      have r3' := (r2'.put (i := 6) (v := .int .i64 (-1)) (x' := { pdOf d with rs := B.drop d.fbase, on := true, fuse := -1 }) rfl rfl).1
      have r3 := r2'.putid (i := 6) (v := .int .i64 (-1)) (x' := { pdOf d with rs := B.drop d.fbase, on := true, fuse := -1 }) rfl rfl
      have HK3 := hide (r2.keep.trans r3.keep (fun _ _ h => h))
      have HQ3 : Hid (RB _ q v5 { pdOf d with rs := B.drop d.fbase, base := E, on := true, fuse := -1 }) := hide (by rw [HE2.out]; exact r3')
      clear  r2 r2' r3 r3'
      go_wp2_with fail
      have C7 := CF.out _ v5 HQ3.out
      refine C7.mono ?_
      rintro e w8 ⟨rfl, h8⟩
      have H8 : Hid (RBid w5 w8 q v5 (pdOf (staD d keep true []))) := hide (RBid.before HB6.out (by
       obtain ⟨⟨v9, r9, p9⟩, k9⟩ := h8
       refine ⟨⟨v9, r9, ?_⟩, HK3.out.trans k9 (fun _ _ h => h)⟩
       rcases p9 with p9 | p9
       ·exact .inl p9
       ·exact .inr fun g hg => Nat.le_trans HK3.out.size (p9 g hg)))
      clear h8 C7
      go_wp2_with fail
      go_ret
      refine ⟨ret_int HE.out.symm, did_of hF ?_ HOF.out HLL.out⟩
      exact H5.out.after P5.out H8.out
     ·have HE2 : Hid (E = d.fbase) := hide (by rw [HEE.out, decide_eq_false hbl]; rfl)
      have hbd : decide ((d.base : Int) > (B.length : Int)) = true := decide_eq_true (by omega)
      go_wp2_with fail
      go_quiet ((go_at_call 54; exact Calls.quiet_of (CE5.out _)))
      generalize hW6 : w5.drewN nq = w6
      have hB6 : Below w5.heap.size w5 w6 := hW6 ▸ below_drewN7 w5 nq
      have HB6 := hide hB6
      have HR6 := hide (HR5.out.below hB6)
      have z4 := HR6.out.box.frozen 4
      have z6 := HR6.out.box.frozen 6
      have z7 := HR6.out.box.frozen 7
      obtain ⟨k0, k1, k2, k3, k4, k5, k6, k7⟩ := HR6.out.at
      have j0 : w6.cell? ⟨q, 0, none⟩ = some (.int .i64 (d.fbase : Int)) := k0
      clear hW6 hB6 k0 k1 k2 k3 k5 o4 CE5 HR5
      have r1 := HR6.out.putid (i := 4) (v := .int .i64 (d.fbase : Int)) (x' := { pdOf d with rs := B.drop d.fbase, base := d.fbase }) rfl rfl
      have r1' := (HR6.out.put (i := 4) (v := .int .i64 (d.fbase : Int)) (x' := { pdOf d with rs := B.drop d.fbase, base := d.fbase }) rfl rfl).1
      have r2' := (r1'.put (i := 7) (v := .bool true) (x' := { pdOf d with rs := B.drop d.fbase, base := d.fbase, on := true }) rfl rfl).1
      have r2 := r1'.putid (i := 7) (v := .bool true) (x' := { pdOf d with rs := B.drop d.fbase, base := d.fbase, on := true }) rfl rfl
      have r3' := (r2'.put (i := 6) (v := .int .i64 (-1)) (x' := { pdOf d with rs := B.drop d.fbase, base := d.fbase, on := true, fuse := -1 }) rfl rfl).1
      have r3 := r2'.putid (i := 6) (v := .int .i64 (-1)) (x' := { pdOf d with rs := B.drop d.fbase, base := d.fbase, on := true, fuse := -1 }) rfl rfl
      have HK3 := hide ((r1.keep.trans r2.keep (fun _ _ h => h)).trans r3.keep (fun _ _ h => h))
      have HQ3 : Hid (RB _ q v5 { pdOf d with rs := B.drop d.fbase, base := E, on := true, fuse := -1 }) := hide (by rw [HE2.out]; exact r3')
      clear r1 r1' r2 r2' r3 r3'
      go_wp2_with fail
      have C7 := CF.out _ v5 HQ3.out
      refine C7.mono ?_
      rintro e w8 ⟨rfl, h8⟩
      have H8 : Hid (RBid w5 w8 q v5 (pdOf (staD d keep true []))) := hide (RBid.before HB6.out (by
       obtain ⟨⟨v9, r9, p9⟩, k9⟩ := h8
       refine ⟨⟨v9, r9, ?_⟩, HK3.out.trans k9 (fun _ _ h => h)⟩
       rcases p9 with p9 | p9
       ·exact .inl p9
       ·exact .inr fun g hg => Nat.le_trans HK3.out.size (p9 g hg)))
      clear h8 C7
      go_wp2_with fail
      go_ret
      refine ⟨ret_int HE.out.symm, did_of hF ?_ HOF.out HLL.out⟩
      exact H5.out.after P5.out H8.out
   ·have HMM : Hid (m = d.fend) := hide (by rw [HM.out]; unfold staM; rw [if_neg hx0])
    have HWR : Hid (IntKind.i64.wrap ((d.fend : Int) + 0) = (m : Int)) := hide (by rw [HMM.out]; rw [IntKind.wrap_i64]; omega)
    have HWR2 : Hid (IntKind.i64.wrap (d.fend : Int) = (m : Int)) := hide (by rw [HMM.out]; rw [IntKind.wrap_i64]; omega)
    have HWR3 : Hid ((d.fend : Int) = (m : Int)) := hide (by rw [HMM.out])
    have hgn : 0 < xs.length := List.length_pos_iff.2 hx0
    have hgt : decide ((xs.length : Int) > 0) = true := decide_eq_true (by omega)
    go_wp2_with fail
    go_region_held (fun w' => w'.cell? ⟨q, 0, none⟩ = some (.int .i64 (d.fbase : Int)) ∧ w'.cell? ⟨q, 5, none⟩ = some (.int .i64 (d.fend : Int))) (go_keep) (first
     | (go_at_call 55; (first | rw [HWR.out] | rw [HWR2.out] | rw [HWR3.out]); refine CH3.out.mono ?_; rintro e w4 ⟨rfl, h4, hk4⟩; have H4 := hide (RBid.before HBd.out h4); have HL4 := hide (lies_held (HH.out.below HBd.out) (HL.out.below HBd.out) hk4); have a0 : w4.cell? ⟨q, 0, none⟩ = some (.int .i64 (d.fbase : Int)) := (by obtain ⟨⟨v4, r4, _⟩, _⟩ := h4; exact r4.at.1); have a5 : w4.cell? ⟨q, 5, none⟩ = some (.int .i64 (d.fend : Int)) := (by obtain ⟨⟨v4, r4, _⟩, _⟩ := h4; exact r4.at.2.2.2.2.2.1); clear h4 hk4))
    obtain ⟨⟨v4, r4, p4⟩, k4⟩ := H4.out
    have HR4 := hide r4
    have CA := hide (CADD.out w4 v4 r4 HL4.out)
    clear r4 p4 k4 CH3 CADD n0 n5 HL4
    go_wp2_with fail
    refine CA.out.mono ?_
    rintro e w5 ⟨rfl, h5⟩
    obtain ⟨v5, r5, p5⟩ := h5.st
    have H5 : Hid (RBid w1 w5 q vb { pdOf d with rs := B.drop d.fbase }) := hide (H4.out.after HR4.out h5)
    have HR5 := hide r5
    have CE5 : Hid (∀ n, Calls Tryz.prog 54 #[.pointer (some ⟨q, 0, none⟩)] (w5.drewN n) fun e w' => e = .returned (.int .i64 (B.length : Int)) ∧ ∃ m, w' = (w5.drewN n).drewN m) := hide (fun n => CEND2.out w5 v5 n r5)
    have o4 : w5.cell? ⟨q, 4, none⟩ = some (.int .i64 (d.base : Int)) := r5.at.2.2.2.2.1
    have P5 : Hid (RB w5 q v5 { pdOf d with rs := B.drop d.fbase }) := hide r5
    clear h5 r5 p5 CA CEND2
    cases cut
    ·have HE2 : Hid (E = d.fbase) := hide (by rw [HEE.out]; rfl)
     go_wp2_with fail
     go_quiet (fail)
     generalize hW6 : w5.drewN nq = w6
     have hB6 : Below w5.heap.size w5 w6 := hW6 ▸ below_drewN7 w5 nq
     have HB6 := hide hB6
     have HR6 := hide (HR5.out.below hB6)
     have z4 := HR6.out.box.frozen 4
     have z6 := HR6.out.box.frozen 6
     have z7 := HR6.out.box.frozen 7
     obtain ⟨k0, k1, k2, k3, k4, k5, k6, k7⟩ := HR6.out.at
     have j0 : w6.cell? ⟨q, 0, none⟩ = some (.int .i64 (d.fbase : Int)) := k0
     clear hW6 hB6 k0 k1 k2 k3 k5 o4 CE5 HR5
     have r1 := HR6.out.putid (i := 4) (v := .int .i64 (d.fbase : Int)) (x' := { pdOf d with rs := B.drop d.fbase, base := d.fbase }) rfl rfl
     have r1' := (HR6.out.put (i := 4) (v := .int .i64 (d.fbase : Int)) (x' := { pdOf d with rs := B.drop d.fbase, base := d.fbase }) rfl rfl).1
     have r2' := (r1'.put (i := 7) (v := .bool true) (x' := { pdOf d with rs := B.drop d.fbase, base := d.fbase, on := true }) rfl rfl).1
     have r2 := r1'.putid (i := 7) (v := .bool true) (x' := { pdOf d with rs := B.drop d.fbase, base := d.fbase, on := true }) rfl rfl
     have r3' := (r2'.put (i := 6) (v := .int .i64 (-1)) (x' := { pdOf d with rs := B.drop d.fbase, base := d.fbase, on := true, fuse := -1 }) rfl rfl).1
     have r3 := r2'.putid (i := 6) (v := .int .i64 (-1)) (x' := { pdOf d with rs := B.drop d.fbase, base := d.fbase, on := true, fuse := -1 }) rfl rfl
     have HK3 := hide ((r1.keep.trans r2.keep (fun _ _ h => h)).trans r3.keep (fun _ _ h => h))
     have HQ3 : Hid (RB _ q v5 { pdOf d with rs := B.drop d.fbase, base := E, on := true, fuse := -1 }) := hide (by rw [HE2.out]; exact r3')
     clear r1 r1' r2 r2' r3 r3'
     go_wp2_with fail
     have C7 := CF.out _ v5 HQ3.out
     refine C7.mono ?_
     rintro e w8 ⟨rfl, h8⟩
     have H8 : Hid (RBid w5 w8 q v5 (pdOf (staD d keep false xs))) := hide (RBid.before HB6.out (by
      obtain ⟨⟨v9, r9, p9⟩, k9⟩ := h8
      refine ⟨⟨v9, r9, ?_⟩, HK3.out.trans k9 (fun _ _ h => h)⟩
      rcases p9 with p9 | p9
      ·exact .inl p9
      ·exact .inr fun g hg => Nat.le_trans HK3.out.size (p9 g hg)))
     clear h8 C7
     go_wp2_with fail
     go_ret
     refine ⟨ret_int HE.out.symm, did_of hF ?_ HOF.out HLL.out⟩
     exact H5.out.after P5.out H8.out
    ·by_cases hbl : d.base ≤ B.length
     ·have HE2 : Hid (E = d.base) := hide (by rw [HEE.out, decide_eq_true hbl]; rfl)
      have hbd : decide ((d.base : Int) > (B.length : Int)) = false := decide_eq_false (by omega)
      go_wp2_with fail
      go_quiet ((go_at_call 54; exact Calls.quiet_of (CE5.out _)))
      generalize hW6 : w5.drewN nq = w6
      have hB6 : Below w5.heap.size w5 w6 := hW6 ▸ below_drewN7 w5 nq
      have HB6 := hide hB6
      have HR6 := hide (HR5.out.below hB6)
      have z4 := HR6.out.box.frozen 4
      have z6 := HR6.out.box.frozen 6
      have z7 := HR6.out.box.frozen 7
      obtain ⟨k0, k1, k2, k3, k4, k5, k6, k7⟩ := HR6.out.at
      have j0 : w6.cell? ⟨q, 0, none⟩ = some (.int .i64 (d.fbase : Int)) := k0
      clear hW6 hB6 k0 k1 k2 k3 k5 o4 CE5 HR5
      have r2' := (HR6.out.put (i := 7) (v := .bool true) (x' := { pdOf d with rs := B.drop d.fbase, on := true }) rfl rfl).1
      have r2 := HR6.out.putid (i := 7) (v := .bool true) (x' := { pdOf d with rs := B.drop d.fbase, on := true }) rfl rfl
      have r3' := (r2'.put (i := 6) (v := .int .i64 (-1)) (x' := { pdOf d with rs := B.drop d.fbase, on := true, fuse := -1 }) rfl rfl).1
      have r3 := r2'.putid (i := 6) (v := .int .i64 (-1)) (x' := { pdOf d with rs := B.drop d.fbase, on := true, fuse := -1 }) rfl rfl
      have HK3 := hide (r2.keep.trans r3.keep (fun _ _ h => h))
      have HQ3 : Hid (RB _ q v5 { pdOf d with rs := B.drop d.fbase, base := E, on := true, fuse := -1 }) := hide (by rw [HE2.out]; exact r3')
      clear  r2 r2' r3 r3'
      go_wp2_with fail
      have C7 := CF.out _ v5 HQ3.out
      refine C7.mono ?_
      rintro e w8 ⟨rfl, h8⟩
      have H8 : Hid (RBid w5 w8 q v5 (pdOf (staD d keep true xs))) := hide (RBid.before HB6.out (by
       obtain ⟨⟨v9, r9, p9⟩, k9⟩ := h8
       refine ⟨⟨v9, r9, ?_⟩, HK3.out.trans k9 (fun _ _ h => h)⟩
       rcases p9 with p9 | p9
       ·exact .inl p9
       ·exact .inr fun g hg => Nat.le_trans HK3.out.size (p9 g hg)))
      clear h8 C7
      go_wp2_with fail
      go_ret
      refine ⟨ret_int HE.out.symm, did_of hF ?_ HOF.out HLL.out⟩
      exact H5.out.after P5.out H8.out
     ·have HE2 : Hid (E = d.fbase) := hide (by rw [HEE.out, decide_eq_false hbl]; rfl)
      have hbd : decide ((d.base : Int) > (B.length : Int)) = true := decide_eq_true (by omega)
      go_wp2_with fail
      go_quiet ((go_at_call 54; exact Calls.quiet_of (CE5.out _)))
      generalize hW6 : w5.drewN nq = w6
      have hB6 : Below w5.heap.size w5 w6 := hW6 ▸ below_drewN7 w5 nq
      have HB6 := hide hB6
      have HR6 := hide (HR5.out.below hB6)
      have z4 := HR6.out.box.frozen 4
      have z6 := HR6.out.box.frozen 6
      have z7 := HR6.out.box.frozen 7
      obtain ⟨k0, k1, k2, k3, k4, k5, k6, k7⟩ := HR6.out.at
      have j0 : w6.cell? ⟨q, 0, none⟩ = some (.int .i64 (d.fbase : Int)) := k0
      clear hW6 hB6 k0 k1 k2 k3 k5 o4 CE5 HR5
      have r1 := HR6.out.putid (i := 4) (v := .int .i64 (d.fbase : Int)) (x' := { pdOf d with rs := B.drop d.fbase, base := d.fbase }) rfl rfl
      have r1' := (HR6.out.put (i := 4) (v := .int .i64 (d.fbase : Int)) (x' := { pdOf d with rs := B.drop d.fbase, base := d.fbase }) rfl rfl).1
      have r2' := (r1'.put (i := 7) (v := .bool true) (x' := { pdOf d with rs := B.drop d.fbase, base := d.fbase, on := true }) rfl rfl).1
      have r2 := r1'.putid (i := 7) (v := .bool true) (x' := { pdOf d with rs := B.drop d.fbase, base := d.fbase, on := true }) rfl rfl
      have r3' := (r2'.put (i := 6) (v := .int .i64 (-1)) (x' := { pdOf d with rs := B.drop d.fbase, base := d.fbase, on := true, fuse := -1 }) rfl rfl).1
      have r3 := r2'.putid (i := 6) (v := .int .i64 (-1)) (x' := { pdOf d with rs := B.drop d.fbase, base := d.fbase, on := true, fuse := -1 }) rfl rfl
      have HK3 := hide ((r1.keep.trans r2.keep (fun _ _ h => h)).trans r3.keep (fun _ _ h => h))
      have HQ3 : Hid (RB _ q v5 { pdOf d with rs := B.drop d.fbase, base := E, on := true, fuse := -1 }) := hide (by rw [HE2.out]; exact r3')
      clear r1 r1' r2 r2' r3 r3'
      go_wp2_with fail
      have C7 := CF.out _ v5 HQ3.out
      refine C7.mono ?_
      rintro e w8 ⟨rfl, h8⟩
      have H8 : Hid (RBid w5 w8 q v5 (pdOf (staD d keep true xs))) := hide (RBid.before HB6.out (by
       obtain ⟨⟨v9, r9, p9⟩, k9⟩ := h8
       refine ⟨⟨v9, r9, ?_⟩, HK3.out.trans k9 (fun _ _ h => h)⟩
       rcases p9 with p9 | p9
       ·exact .inl p9
       ·exact .inr fun g hg => Nat.le_trans HK3.out.size (p9 g hg)))
      clear h8 C7
      go_wp2_with fail
      go_ret
      refine ⟨ret_int HE.out.symm, did_of hF ?_ HOF.out HLL.out⟩
      exact H5.out.after P5.out H8.out
theorem pd_do : DiskDo PD where
 keep := by
  rintro w w' q F S d ⟨vb, h, hF⟩ hk hS
  exact ⟨vb, ⟨h.rb.keep hk (fun k hu => hS k ((hF k).2 hu)), h.ok, h.le⟩, hF⟩
 lt := by
  rintro w q F d ⟨vb, h, hF⟩ k hk
  rcases (hF k).1 hk with e | e
  ·subst e; exact h.rb.box.lt
  ·exact h.rb.row.lt e
 ok := by
  rintro w q F d ⟨vb, h, hF⟩
  exact h.ok
 new := fun room w h => dnew_ok room w h
 newNo := fun room w h => dnew_no room w h
 app := by
  rintro w q F d vx xs ⟨vb, h, hF⟩ hL h8 _ hd
  exact dappend_any q vb d vx xs w h hF hL h8 hd
 for' := by
  rintro w q F d ⟨vb, h, hF⟩
  exact dForce_any q vb d w h hF
 cut := by
  rintro w q F d to ⟨vb, h, hF⟩
  exact dCut_any q vb d to w h hF
 tri := by
  rintro w q F d to ⟨vb, h, hF⟩
  exact dTrim_any q vb d to w h hF
 rea := by
  rintro w q F d ⟨vb, h, hF⟩
  exact dRead_any q vb d w h
 bas := by
  rintro w q F d ⟨vb, h, hF⟩
  exact (dbase_any q vb _ w h.rb).mono fun e w' ⟨he, hw⟩ => ⟨he, 0, hw⟩
 end' := by
  rintro w q F d ⟨vb, h, hF⟩
  have hpl := pd_len h.ok
  have hle := h.le
  have e2 : (pdOf d).f + (pdOf d).rs.length = d.bs.length := hpl
  have := dEnd_any q vb _ w h.rb (by rw [e2]; omega)
  rw [e2] at this
  exact this
 fcd := by
  rintro w q F d ⟨vb, h, hF⟩
  exact (dforced_any q vb _ w h.rb)
 lef := by
  rintro w q F d ⟨vb, h, hF⟩
  have hpl := pd_len h.ok
  have hle := h.le
  have hful := h.ok.full
  have e2 : (pdOf d).f + (pdOf d).rs.length = d.bs.length := hpl
  have := dleft_any q vb _ w h.rb (by rw [e2]; omega) h.ok.r2
  have el : ((pdOf d).room : Int) - ((pdOf d).rs.length : Int) = ((d.left : Nat) : Int) := by
   show (d.room : Int) - ((d.bs.drop d.fbase).length : Int) = _
   unfold Dk.left
   omega
  rw [el] at this
  exact this
 roo := by
  rintro w q F d ⟨vb, h, hF⟩
  exact (droom_any q vb _ w h.rb).mono fun e w' ⟨he, hw⟩ => ⟨he, 0, hw⟩
 on := by
  rintro w q F d ⟨vb, h, hF⟩
  exact (don_any q vb _ w h.rb).mono fun e w' ⟨he, hw⟩ => ⟨he, 0, hw⟩
 arm := by
  rintro w q F d n ⟨vb, h, hF⟩ hn
  exact dArm_any q vb d n w h hF hn
 fai := by
  rintro w q F d ⟨vb, h, hF⟩
  exact dFail_any q vb d w h hF
 sta := by
  rintro w q F d keep c vx xs ⟨vb, h, hF⟩ hL h8 _ hd hk
  exact dStart_any q vb d keep c vx xs w h hF hL h8 hd hk
end
end Go.Proofs.YtlegliimgjmphaaGreat
