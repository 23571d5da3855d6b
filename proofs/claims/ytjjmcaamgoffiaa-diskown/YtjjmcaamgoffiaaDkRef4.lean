/-
  The reference's disk: New, Start. Own work.
-/
import Derived.Test.YtjjmcaamgoffiaaDkRef3
namespace Go.Proofs.Ytjjmcaamgoffiaa
open Go.RowKit

theorem RD.drewN {w : World} {p n : Nat} {vb : Value} {d : Dk} (h : RD w p vb d) : RD (w.drewN n) p vb d := h.below ⟨rfl, rfl, rfl, Nat.le_refl _, fun _ _ => rfl⟩
theorem below_drewN7 (w : World) (n : Nat) : Below w.heap.size w (w.drewN n) := ⟨rfl, rfl, rfl, Nat.le_refl _, fun _ _ => rfl⟩
/-- What is written at the end of a Start. -/
theorem RD.anew {w : World} {p : Nat} {vb vb' : Value} {d : Dk} {ys : List Int} {e : Nat} (h : RD w p vb d) (ho : w.ownsRow 0 5 1 vb' ys.length (ys.map (Value.int .u8))) (hn : vb'.ownBlock ≠ some p) :
    RD (((((((w.setCell ⟨p, 1, none⟩ vb').setCell ⟨p, 2, none⟩ (.int .i64 (e : Int))).setCell ⟨p, 3, none⟩ (.int .i64 (e : Int))).setCell ⟨p, 4, none⟩ (.int .i64 (ys.length : Int))).setCell ⟨p, 5, none⟩ (.bool false)).setCell ⟨p, 6, none⟩ (.bool false)).setCell ⟨p, 7, none⟩ (.int .i64 0)) p vb' ⟨d.room, ys, e, e, ys.length, false, false, 0⟩ ∧
    KeepBut (fun k => k = p) w (((((((w.setCell ⟨p, 1, none⟩ vb').setCell ⟨p, 2, none⟩ (.int .i64 (e : Int))).setCell ⟨p, 3, none⟩ (.int .i64 (e : Int))).setCell ⟨p, 4, none⟩ (.int .i64 (ys.length : Int))).setCell ⟨p, 5, none⟩ (.bool false)).setCell ⟨p, 6, none⟩ (.bool false)).setCell ⟨p, 7, none⟩ (.int .i64 0)) := by
  obtain ⟨q1, k1⟩ := h.bytes ho hn
  obtain ⟨q2, k2⟩ := q1.put (i := 2) (v := .int .i64 (e : Int)) (d' := { d with bs := ys, base := e }) rfl rfl
  obtain ⟨q3, k3⟩ := q2.put (i := 3) (v := .int .i64 (e : Int)) (d' := { d with bs := ys, base := e, fbase := e }) rfl rfl
  obtain ⟨q4, k4⟩ := q3.put (i := 4) (v := .int .i64 (ys.length : Int)) (d' := { d with bs := ys, base := e, fbase := e, fend := ys.length }) rfl rfl
  obtain ⟨q5, k5⟩ := q4.put (i := 5) (v := .bool false) (d' := { d with bs := ys, base := e, fbase := e, fend := ys.length, off := false }) rfl rfl
  obtain ⟨q6, k6⟩ := q5.put (i := 6) (v := .bool false) (d' := { d with bs := ys, base := e, fbase := e, fend := ys.length, off := false, armed := false }) rfl rfl
  obtain ⟨q7, k7⟩ := q6.put (i := 7) (v := .int .i64 0) (d' := ⟨d.room, ys, e, e, ys.length, false, false, 0⟩) rfl rfl
  exact ⟨q7, (((((k1.trans k2 (fun _ _ h => h)).trans k3 (fun _ _ h => h)).trans k4 (fun _ _ h => h)).trans k5 (fun _ _ h => h)).trans k6 (fun _ _ h => h)).trans k7 (fun _ _ h => h)⟩
set_option maxRecDepth 100000 in
set_option maxHeartbeats 3200000 in
theorem rstart_any (p : Nat) (vb : Value) (d : Dk) (keep : Int) (cut : Bool) (vx : Value) (xs : List Int) (w : World) (h : RD w p vb d) (hok : d.Ok) (hL : Lies .u8 w vx xs) (hd : d.bs.length ≤ 100000000) (hxl : xs.length ≤ 100000000000000) (hk : keep ≤ 9223372036854775807) :
    Calls Try.prog 37 #[.pointer (some ⟨p, 0, none⟩), .int .i64 keep, .bool cut, vx] w fun e w' => e = .returned (.int .i64 (staA d xs)) ∧ RDid w w' p vb (staD d keep cut xs) := by
  obtain ⟨m0, m1, m2, m3, m4, m5, m6, m7⟩ := h.at
  have hp := h.box.lt
  have HH := hide h
  have HLB := hide (Lies.of_own h.own)
  have HLX := hide hL
  obtain ⟨ao, cap, hvb⟩ := h.len
  obtain ⟨ao2, cap2, hvx⟩ := hL.shape
  subst hvb
  subst hvx
  have f1 := hok.f1
  have f2 := hok.f2
  have r2 := hok.r2
  clear h hL
  cases ho : d.off
  · rw [ho] at m5
    have HE : Hid (staA d xs = 11) := hide (by unfold staA; rw [ho]; rfl)
    have HD : Hid (staD d keep cut xs = d) := hide (by unfold staD; rw [ho]; rfl)
    go_enter Try.func37, Try.ntmps37
    go_wp2
    go_ret
    exact ⟨ret_int HE.out.symm, by rw [HD.out]; exact RDid.same HH.out⟩
  · rw [ho] at m5
    by_cases hf : d.room - (d.fend - d.fbase) < xs.length
    · have HE : Hid (staA d xs = 9) := hide (by unfold staA; rw [ho]; simp [hf])
      have HD : Hid (staD d keep cut xs = d) := hide (by unfold staD; rw [ho]; simp [hf])
      have hful := hok.full
      have d1 : decide ((xs.length : Int) > (d.room : Int) - ((d.fend : Int) - (d.fbase : Int))) = true := decide_eq_true (by omega)
      go_enter Try.func37, Try.ntmps37
      go_wp2
      go_quiet (fail)
      go_wp2
      go_ret
      exact ⟨ret_int HE.out.symm, by rw [HD.out]; exact ⟨⟨_, HH.out.drewN, .inl rfl⟩, KeepBut.of_below _ (below_drewN7 _ _)⟩⟩
    · have HE : Hid (staA d xs = 0) := hide (by unfold staA; rw [ho]; simp [hf])
      have hful := hok.full
      have d1 : decide ((xs.length : Int) > (d.room : Int) - ((d.fend : Int) - (d.fbase : Int))) = false := decide_eq_false (by omega)
      go_enter Try.func37, Try.ntmps37
      go_wp2
      go_quiet (fail)
      generalize hW1 : w.drewN nq = W1
      have hB1 : Below w.heap.size w W1 := hW1 ▸ below_drewN7 w nq
      have HR1 := hide (HH.out.below hB1)
      have HB1 := hide hB1
      clear hW1 hB1 m0 m1 m2 m3 m4 m5 m6 m7
      obtain ⟨m0, m1, m2, m3, m4, m5, m6, m7⟩ := HR1.out.at
      go_wp2
      go_quiet (fail)
      generalize hW2 : W1.drewN nq = W2
      have hB2 : Below W1.heap.size W1 W2 := hW2 ▸ below_drewN7 W1 nq
      have hs1 := HB1.out.size
      have hs2 := hB2.size
      have HR2 := hide (HR1.out.below hB2)
      have HB2 := hide (HB1.out.trans (hB2.mono hs1))
      have HL2 := hide ((HLB.out.below HB1.out).below hB2)
      have HX2 := hide ((HLX.out.below HB1.out).below hB2)
      clear hW2 hB2 HR1 HB1 HLB HLX m0 m1 m2 m3 m4 m5 m6 m7
      obtain ⟨m0, m1, m2, m3, m4, m5, m6, m7⟩ := HR2.out.at
      generalize hkk : (if keep < 0 then (0 : Int) else keep) = kk
      have hk1 : kk = ((keep.toNat : Nat) : Int) := by rw [← hkk]; split <;> omega
      generalize hmm : (if (d.bs.length : Int) - (d.fend : Int) < kk then (d.bs.length : Int) - (d.fend : Int) else kk) = mm
      obtain ⟨m, hm⟩ : ∃ m : Nat, m = d.fend + min keep.toNat (d.bs.length - d.fend) := ⟨_, rfl⟩
      have hm2 : (d.fend : Int) + mm = (m : Int) := by rw [← hmm]; split <;> omega
      rw [hm2]
      have hml : m ≤ d.bs.length := by omega
      have HM := hide hm
      clear hkk hk1 hmm hm2 hm hk
      by_cases hx0 : xs = []
      · subst hx0
        obtain ⟨ys, hys⟩ : ∃ ys, ys = d.bs.take m := ⟨_, rfl⟩
        have HB : Hid (staB d keep [] = ys) := hide (by unfold staB; rw [if_pos rfl, hys, HM.out])
        have HYS := hide hys
        clear hys
        have HD : Hid (staD d keep cut [] = ⟨d.room, ys, staE d keep cut [], staE d keep cut [], ys.length, false, false, 0⟩) := hide (by unfold staD; rw [ho, HB.out]; simp)
        have HEE : Hid (staE d keep cut [] = if cut && decide (d.base ≤ ys.length) then d.base else d.fbase) := hide (by unfold staE; rw [HB.out])
        have hto := fun W => run_to W .i64 ao d.bs.length cap m (Nat.le_trans hml HL2.out.cap)
        have HL4 := hide (HL2.out.take hml)
        cases cut
        · have HE2 : Hid (staE d keep false [] = d.fbase) := hide (by rw [HEE.out]; rfl)
          clear HEE
          go_wp2_with (first
            | (at_builtin; refine append_lies _ rfl _ _ rfl W2.heap.size _ _ 0 [] (d.bs.take m) rfl (World.ownsRow_nil _ _ _ _) rfl HL4.out (by simp; omega) (Nat.le_refl _) ?_; intro v3 w3 ho3 hg3; have hBx : Below W2.heap.size W2 w3 := (Below.refl _ _).grown hg3 (Nat.le_refl _) (fun k hk => by cases hk); have ho4 : w3.ownsRow W2.heap.size 5 1 v3 ys.length (ys.map (Value.int .u8)) := (by rw [HYS.out]; have h2 : 0 + (d.bs.take m).length = (d.bs.take m).length := Nat.zero_add _; rw [h2] at ho3; exact ho3); obtain ⟨ao3, cap3, hv3⟩ := (Lies.of_own ho4).shape; subst hv3; obtain ⟨n0, n1, n2, n3, n4, n5, n6, n7⟩ := (HR2.out.below hBx).at; have z1 := (HR2.out.below hBx).box.frozen 1; have z2 := (HR2.out.below hBx).box.frozen 2; have z3 := (HR2.out.below hBx).box.frozen 3; have z4 := (HR2.out.below hBx).box.frozen 4; have z5 := (HR2.out.below hBx).box.frozen 5; have z6 := (HR2.out.below hBx).box.frozen 6; have z7 := (HR2.out.below hBx).box.frozen 7; have HO3 := hide ho4; have HB3 := hide hBx; clear ho3 hg3 hBx ho4))
          go_ret
          have hn3 : (Value.slice ao3 ys.length cap3).ownBlock ≠ some p := fun e => by have := (HO3.out.lt p e).1; omega
          obtain ⟨q, kq⟩ := (HR2.out.below HB3.out).anew (e := d.fbase) (owns_any7 HO3.out) hn3
          refine ⟨ret_int HE.out.symm, ?_⟩
          rw [HD.out, HE2.out]
          exact ⟨⟨_, q, .inr (fun g hg => by have := (HO3.out.lt g hg).1; omega)⟩, ((KeepBut.of_below (fun k => k = p) HB2.out).trans (KeepBut.of_below (fun k => k = p) HB3.out) (fun _ _ h => h)).trans kq (fun _ _ h => h)⟩
        · by_cases hbl : d.base ≤ ys.length
          · have HE2 : Hid (staE d keep true [] = d.base) := hide (by rw [HEE.out, decide_eq_true hbl]; rfl)
            have hbd : decide ((d.base : Int) ≤ (ys.length : Int)) = true := decide_eq_true (by omega)
            clear HEE
            go_wp2_with (first
              | (at_builtin; refine append_lies _ rfl _ _ rfl W2.heap.size _ _ 0 [] (d.bs.take m) rfl (World.ownsRow_nil _ _ _ _) rfl HL4.out (by simp; omega) (Nat.le_refl _) ?_; intro v3 w3 ho3 hg3; have hBx : Below W2.heap.size W2 w3 := (Below.refl _ _).grown hg3 (Nat.le_refl _) (fun k hk => by cases hk); have ho4 : w3.ownsRow W2.heap.size 5 1 v3 ys.length (ys.map (Value.int .u8)) := (by rw [HYS.out]; have h2 : 0 + (d.bs.take m).length = (d.bs.take m).length := Nat.zero_add _; rw [h2] at ho3; exact ho3); obtain ⟨ao3, cap3, hv3⟩ := (Lies.of_own ho4).shape; subst hv3; obtain ⟨n0, n1, n2, n3, n4, n5, n6, n7⟩ := (HR2.out.below hBx).at; have z1 := (HR2.out.below hBx).box.frozen 1; have z2 := (HR2.out.below hBx).box.frozen 2; have z3 := (HR2.out.below hBx).box.frozen 3; have z4 := (HR2.out.below hBx).box.frozen 4; have z5 := (HR2.out.below hBx).box.frozen 5; have z6 := (HR2.out.below hBx).box.frozen 6; have z7 := (HR2.out.below hBx).box.frozen 7; have HO3 := hide ho4; have HB3 := hide hBx; clear ho3 hg3 hBx ho4))
            go_ret
            have hn3 : (Value.slice ao3 ys.length cap3).ownBlock ≠ some p := fun e => by have := (HO3.out.lt p e).1; omega
            obtain ⟨q, kq⟩ := (HR2.out.below HB3.out).anew (e := d.base) (owns_any7 HO3.out) hn3
            refine ⟨ret_int HE.out.symm, ?_⟩
            rw [HD.out, HE2.out]
            exact ⟨⟨_, q, .inr (fun g hg => by have := (HO3.out.lt g hg).1; omega)⟩, ((KeepBut.of_below (fun k => k = p) HB2.out).trans (KeepBut.of_below (fun k => k = p) HB3.out) (fun _ _ h => h)).trans kq (fun _ _ h => h)⟩
          · have HE2 : Hid (staE d keep true [] = d.fbase) := hide (by rw [HEE.out, decide_eq_false hbl]; rfl)
            have hbd : decide ((d.base : Int) ≤ (ys.length : Int)) = false := decide_eq_false (by omega)
            have hbn : decide (d.base ≤ ys.length) = false := decide_eq_false hbl
            clear HEE
            go_wp2_with (first
              | (at_builtin; refine append_lies _ rfl _ _ rfl W2.heap.size _ _ 0 [] (d.bs.take m) rfl (World.ownsRow_nil _ _ _ _) rfl HL4.out (by simp; omega) (Nat.le_refl _) ?_; intro v3 w3 ho3 hg3; have hBx : Below W2.heap.size W2 w3 := (Below.refl _ _).grown hg3 (Nat.le_refl _) (fun k hk => by cases hk); have ho4 : w3.ownsRow W2.heap.size 5 1 v3 ys.length (ys.map (Value.int .u8)) := (by rw [HYS.out]; have h2 : 0 + (d.bs.take m).length = (d.bs.take m).length := Nat.zero_add _; rw [h2] at ho3; exact ho3); obtain ⟨ao3, cap3, hv3⟩ := (Lies.of_own ho4).shape; subst hv3; obtain ⟨n0, n1, n2, n3, n4, n5, n6, n7⟩ := (HR2.out.below hBx).at; have z1 := (HR2.out.below hBx).box.frozen 1; have z2 := (HR2.out.below hBx).box.frozen 2; have z3 := (HR2.out.below hBx).box.frozen 3; have z4 := (HR2.out.below hBx).box.frozen 4; have z5 := (HR2.out.below hBx).box.frozen 5; have z6 := (HR2.out.below hBx).box.frozen 6; have z7 := (HR2.out.below hBx).box.frozen 7; have HO3 := hide ho4; have HB3 := hide hBx; clear ho3 hg3 hBx ho4))
            go_ret
            have hn3 : (Value.slice ao3 ys.length cap3).ownBlock ≠ some p := fun e => by have := (HO3.out.lt p e).1; omega
            obtain ⟨q, kq⟩ := (HR2.out.below HB3.out).anew (e := d.fbase) (owns_any7 HO3.out) hn3
            refine ⟨ret_int HE.out.symm, ?_⟩
            rw [HD.out, HE2.out]
            exact ⟨⟨_, q, .inr (fun g hg => by have := (HO3.out.lt g hg).1; omega)⟩, ((KeepBut.of_below (fun k => k = p) HB2.out).trans (KeepBut.of_below (fun k => k = p) HB3.out) (fun _ _ h => h)).trans kq (fun _ _ h => h)⟩
      · obtain ⟨y1, hy1⟩ : ∃ ys, ys = d.bs.take d.fend := ⟨_, rfl⟩
        obtain ⟨ys, hys⟩ : ∃ ys, ys = y1 ++ xs := ⟨_, rfl⟩
        have HB : Hid (staB d keep xs = ys) := hide (by unfold staB; rw [if_neg hx0, hys, hy1])
        have HYS := hide hys
        have hy1l : y1.length ≤ 100000000 := by rw [hy1]; simp; omega
        have HD : Hid (staD d keep cut xs = ⟨d.room, ys, staE d keep cut xs, staE d keep cut xs, ys.length, false, false, 0⟩) := hide (by unfold staD; rw [ho, HB.out]; simp [hf])
        have HEE : Hid (staE d keep cut xs = if cut && decide (d.base ≤ ys.length) then d.base else d.fbase) := hide (by unfold staE; rw [HB.out])
        have hto := fun W => run_to W .i64 ao d.bs.length cap m (Nat.le_trans hml HL2.out.cap)
        have htf := fun W => run_to W .i64 ao d.bs.length cap d.fend (Nat.le_trans f2 HL2.out.cap)
        have HL4 := hide (HL2.out.take hml)
        have HLF : Hid (Lies .u8 W2 (.slice ao d.fend cap) y1) := hide (by rw [hy1]; exact HL2.out.take f2)
        have hgt : decide ((xs.length : Int) > 0) = true := decide_eq_true (by have := List.length_pos_iff.2 hx0; omega)
        have hgn : 0 < xs.length := List.length_pos_iff.2 hx0
        clear hy1 hys
        go_wp2_with (first
          | (at_builtin; refine append_lies _ rfl _ _ rfl W2.heap.size _ _ 0 [] (d.bs.take m) rfl (World.ownsRow_nil _ _ _ _) rfl HL4.out (by simp; omega) (Nat.le_refl _) ?_; intro v5 w5 ho5 hg5; have hB5 : Below W2.heap.size W2 w5 := (Below.refl _ _).grown hg5 (Nat.le_refl _) (fun k hk => by cases hk); obtain ⟨ao5, cap5, hv5⟩ := (Lies.of_own ho5).shape; subst hv5; have HR5 := hide (HR2.out.below hB5); have HLFd := hide ((HLF.out.below hB5).below (Below.refl w5.heap.size w5).drew); have HXd := hide ((HX2.out.below hB5).below (Below.refl w5.heap.size w5).drew); have HB5 := hide (HB2.out.trans (hB5.mono (by omega))); have hs5 := hB5.size; obtain ⟨n0, n1, n2, n3, n4, n5, n6, n7⟩ := HR5.out.at; clear ho5 hg5 hB5 m0 m1 m2 m3 m4 m5 m6 m7))
        go_region_held_law (fun w' => w'.cell? ⟨p, 1, none⟩ = some (.slice ao d.bs.length cap) ∧ w'.cell? ⟨p, 4, none⟩ = some (.int .i64 (d.fend : Int))) (go_keep) ((first
          | (refine step_lies _ rfl _ _ rfl w5.heap.size _ _ _ ([] ++ y1) xs rfl HO6.out rfl HX6.out (by omega) HS6.out ?_; intro v7 w7 ho7 hg7; have hB7 : Below w5.heap.size w5 w7 := HB6.out.grown hg7 HS6.out (fun k hk => (HO6.out.lt k hk).1); have o1 := (HR5.out.below hB7).at.2.1; have o4 := (HR5.out.below hB7).at.2.2.2.2.1; have HO7 := hide ho7; have HB7 := hide hB7; clear ho7 hg7 hB7)
          | (refine step_lies _ rfl _ _ rfl w5.heap.size _ _ 0 [] y1 rfl (World.ownsRow_nil _ _ _ _) rfl HLFd.out (by omega) (Nat.le_refl _) ?_; intro v6 w6 ho6 hg6; have hB6 : Below w5.heap.size w5 w6 := ((Below.refl w5.heap.size w5).drew).grown hg6 (Nat.le_refl _) (fun k hk => by cases hk); have q1 := (HR5.out.below hB6).at.2.1; have q4 := (HR5.out.below hB6).at.2.2.2.2.1; have HX6 := hide (HXd.out.below ((Below.refl w5.drew.heap.size w5.drew).grown hg6 (Nat.le_refl _) (fun k hk => by cases hk))); have HO6 := hide ho6; have HB6 := hide hB6; have HS6 := hide hB6.size; clear ho6 hg6 hB6)))
        simp only [List.getElem_toArray, List.getElem_cons_succ, List.getElem_cons_zero, List.setIfInBounds_toArray, List.set_cons_succ, List.set_cons_zero]
        have ho8 : w7.ownsRow w5.heap.size 5 1 v7 ys.length (ys.map (Value.int .u8)) := by rw [HYS.out]; simpa using HO7.out
        obtain ⟨ao7, cap7, hv7⟩ := (Lies.of_own ho8).shape
        subst hv7
        have HO8 := hide ho8
        clear ho8 HO7 n0 n1 n2 n3 n4 n5 n6 n7
        obtain ⟨n0, n1, n2, n3, n4, n5, n6, n7⟩ := (HR5.out.below HB7.out).at
        have z1 := (HR5.out.below HB7.out).box.frozen 1
        have z2 := (HR5.out.below HB7.out).box.frozen 2
        have z3 := (HR5.out.below HB7.out).box.frozen 3
        have z4 := (HR5.out.below HB7.out).box.frozen 4
        have z5 := (HR5.out.below HB7.out).box.frozen 5
        have z6 := (HR5.out.below HB7.out).box.frozen 6
        have z7 := (HR5.out.below HB7.out).box.frozen 7
        cases cut
        · have HE2 : Hid (staE d keep false xs = d.fbase) := hide (by rw [HEE.out]; rfl)
          clear HEE
          go_wp2
          go_ret
          have hn3 : (Value.slice ao7 ys.length cap7).ownBlock ≠ some p := fun e => by have := (HO8.out.lt p e).1; omega
          obtain ⟨q, kq⟩ := (HR5.out.below HB7.out).anew (e := d.fbase) (owns_any7 HO8.out) hn3
          refine ⟨ret_int HE.out.symm, ?_⟩
          rw [HD.out, HE2.out]
          exact ⟨⟨_, q, .inr (fun g hg => by have := (HO8.out.lt g hg).1; omega)⟩, ((KeepBut.of_below (fun k => k = p) HB5.out).trans (KeepBut.of_below (fun k => k = p) HB7.out) (fun _ _ h => h)).trans kq (fun _ _ h => h)⟩
        · by_cases hbl : d.base ≤ ys.length
          · have HE2 : Hid (staE d keep true xs = d.base) := hide (by rw [HEE.out, decide_eq_true hbl]; rfl)
            have hbd : decide ((d.base : Int) ≤ (ys.length : Int)) = true := decide_eq_true (by omega)
            clear HEE
            go_wp2
            go_ret
            have hn3 : (Value.slice ao7 ys.length cap7).ownBlock ≠ some p := fun e => by have := (HO8.out.lt p e).1; omega
            obtain ⟨q, kq⟩ := (HR5.out.below HB7.out).anew (e := d.base) (owns_any7 HO8.out) hn3
            refine ⟨ret_int HE.out.symm, ?_⟩
            rw [HD.out, HE2.out]
            exact ⟨⟨_, q, .inr (fun g hg => by have := (HO8.out.lt g hg).1; omega)⟩, ((KeepBut.of_below (fun k => k = p) HB5.out).trans (KeepBut.of_below (fun k => k = p) HB7.out) (fun _ _ h => h)).trans kq (fun _ _ h => h)⟩
          · have HE2 : Hid (staE d keep true xs = d.fbase) := hide (by rw [HEE.out, decide_eq_false hbl]; rfl)
            have hbd : decide ((d.base : Int) ≤ (ys.length : Int)) = false := decide_eq_false (by omega)
            have hbn : decide (d.base ≤ ys.length) = false := decide_eq_false hbl
            clear HEE
            go_wp2
            go_ret
            have hn3 : (Value.slice ao7 ys.length cap7).ownBlock ≠ some p := fun e => by have := (HO8.out.lt p e).1; omega
            obtain ⟨q, kq⟩ := (HR5.out.below HB7.out).anew (e := d.fbase) (owns_any7 HO8.out) hn3
            refine ⟨ret_int HE.out.symm, ?_⟩
            rw [HD.out, HE2.out]
            exact ⟨⟨_, q, .inr (fun g hg => by have := (HO8.out.lt g hg).1; omega)⟩, ((KeepBut.of_below (fun k => k = p) HB5.out).trans (KeepBut.of_below (fun k => k = p) HB7.out) (fun _ _ h => h)).trans kq (fun _ _ h => h)⟩
end Go.Proofs.Ytjjmcaamgoffiaa
