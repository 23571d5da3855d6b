/-
  The reference's reader: Byte, Bool, Text, Key, New. Own work.
-/
import Derived.Test.YtkeedioifjabeaaRReader
namespace Go.Proofs.Ytkeedioifjabeaa
open Go.RowKit

set_option maxRecDepth 100000 in
set_option maxHeartbeats 3200000 in
theorem rbyte_any (q : Nat) (vb : Value) (all : List Int) (a : Nat) (y f : Int) (w : World) (h : RD w q vb all a y f) :
    Calls Try.prog 50 #[.pointer (some ⟨q, 0, none⟩)] w fun e w' => (∃ c : Int, e = .returned (.int .u8 c)) ∧ RX w' q vb all ∧ KeepBut (fun k => k = q) w w' := by
  have hle := h.le
  have hroom := h.room
  have m0 := h.box.cell 0 _ rfl
  have m1 := h.box.cell 1 _ rfl
  have m2 := h.box.cell 2 _ rfl
  have f1 := h.box.frozen 1
  have HH := hide h
  by_cases hy : y = 0
  · subst hy
    by_cases ha : a = all.length
    · obtain ⟨ao, cap, rfl⟩ := (Lies.of_own h.own).shape
      clear h
      have hab : ((a : Int) == (all.length : Int)) = true := by simp; omega
      have CWG := hide (fun w' (h' : RD w' q (.slice ao all.length cap) all a 0 f) => rwrong_any q _ all a 0 f w' h' 4 (a : Nat))
      clear ha
      go_enter Try.func50, Try.ntmps50
      go_wp2_with fail
      go_quiet (fail)
      have HQ := hide (HH.out.below (below_drewN (Below.refl _ _) nq))
      have q1 := HQ.out.box.cell 1 _ rfl
      go_wp2_with fail
      refine (CWG.out _ HQ.out).mono ?_
      rintro e w3 ⟨rfl, ⟨y', f', h3⟩, hk3⟩
      have H3 := hide h3
      have HK3 := hide ((KeepBut.of_below (fun k => k = q) (below_drewN (Below.refl _ w) nq)).trans hk3 (fun _ _ h => h))
      clear h3 hk3
      go_wp2_with fail
      go_ret
      exact ⟨⟨0, rfl⟩, ⟨_, _, _, H3.out⟩, HK3.out⟩
    · have hab : ((a : Int) == (all.length : Int)) = false := by simp; omega
      have hap := h.apart
      rcases Lies.of_own h.own with ⟨e, _⟩ | ⟨_, b, off, cap, e, hb, _, hm, hc⟩
      · rw [e] at hle ha; simp at hle ha; omega
      · subst e
        have hcell := hc a (by omega)
        have hbq : ¬ b = q := fun e => hap (by simp [Value.ownBlock, e])
        have hqb : ¬ q = b := fun e => hbq e.symm
        have hal : (a : Int) < (all.length : Int) := by omega
        generalize all.getD a 0 = x at *
        clear h hc hap ha
        unfold maxLen at hm
        have HM := hide (fun w' (h' : RD w' q (.slice (some ⟨b, off, none⟩) all.length cap) all a 0 f) => h'.moved (a + 1) (by omega))
        go_enter Try.func50, Try.ntmps50
        go_wp2_with fail
        go_quiet (fail)
        have HQ := hide (HH.out.below (below_drewN (Below.refl _ _) nq))
        have q0 := HQ.out.box.cell 0 _ rfl
        have q1 := HQ.out.box.cell 1 _ rfl
        have qf := HQ.out.box.frozen 1
        have HMQ := hide (HM.out _ HQ.out)
        have HKQ := hide ((KeepBut.of_below (fun k => k = q) (below_drewN (Below.refl _ w) nq)).trans HMQ.out.2 (fun _ _ h => h))
        have r0 := HMQ.out.1.box.cell 0 _ rfl
        have r1 := HMQ.out.1.box.cell 1 _ rfl
        rw [Int.natCast_add] at HMQ HKQ r0 r1
        have hc2 := (World.cell?_of_block (a := ⟨b, off + a, none⟩) (HKQ.out.block b hb hbq)).trans hcell
        go_wp2_with fail
        generalize (w.drewN nq).setCell ⟨q, 1, none⟩ (.int .i64 ((a : Int) + 1)) = W2 at *
        go_quiet (fail)
        go_wp2_with fail
        go_ret
        exact ⟨⟨_, rfl⟩, ⟨_, _, _, HMQ.out.1.below (below_drewN (Below.refl _ _) _)⟩, HKQ.out.trans (KeepBut.of_below (fun k => k = q) (below_drewN (Below.refl _ _) _)) (fun _ _ h => h)⟩
  · have hyb : (y != 0) = true := by simpa using hy
    clear h
    go_enter Try.func50, Try.ntmps50
    go_wp2_with fail
    go_ret
    exact ⟨⟨0, rfl⟩, ⟨_, _, _, HH.out⟩, KeepBut.refl _ _⟩
set_option maxRecDepth 100000 in
set_option maxHeartbeats 3200000 in
theorem rbool_any (q : Nat) (vb : Value) (all : List Int) (a : Nat) (y f : Int) (w : World) (h : RD w q vb all a y f) :
    Calls Try.prog 51 #[.pointer (some ⟨q, 0, none⟩)] w fun e w' => (∃ b : Bool, e = .returned (.bool b)) ∧ RX w' q vb all ∧ KeepBut (fun k => k = q) w w' := by
  have hle := h.le
  have m1 := h.box.cell 1 _ rfl
  have CB := hide (rbyte_any q vb all a y f w h)
  clear h
  go_enter Try.func51, Try.ntmps51
  go_wp2_with fail
  refine CB.out.mono ?_
  rintro e w1 ⟨⟨c, rfl⟩, ⟨a1, y1, f1, h1⟩, hk1⟩
  have CWG := hide (rwrong_any q vb all a1 y1 f1 w1 h1 3 (a : Nat))
  have H1 := hide h1
  have HK1 := hide hk1
  clear h1 hk1 CB m1
  by_cases hc : 1 < c
  · go_wp2_with fail
    refine CWG.out.mono ?_
    rintro e w2 ⟨rfl, ⟨y2, f2, h2⟩, hk2⟩
    have g1 := h2.box.cell 1 _ rfl
    have gf := h2.box.frozen 1
    have HM := hide (h2.moved a hle)
    have HK2 := hide (HK1.out.trans hk2 (fun _ _ h => h))
    clear h2 hk2 CWG
    go_wp2_with fail
    go_ret
    exact ⟨⟨false, rfl⟩, ⟨_, _, _, HM.out.1⟩, HK2.out.trans HM.out.2 (fun _ _ h => h)⟩
  · go_wp2_with fail
    go_ret
    exact ⟨⟨_, rfl⟩, ⟨_, _, _, H1.out⟩, HK1.out⟩
/-- 'string(x[lo:hi])' -/
theorem RD.part {w : World} {q : Nat} {all : List Int} {ao : Option Addr} {cap c : Nat} {y f : Int} (h : RD w q (.slice ao all.length cap) all c y f) (lo n : Nat) (hn : lo + n ≤ all.length) :
    ∃ v' s, (∀ w', (Instr.sliceAt 25 (.slice ao all.length cap) (some (.int .i64 (lo : Nat))) (some (.int .i64 ((lo + n : Nat) : Int))) none).run Try.prog w' = .ok v' w') ∧ ∀ k, (convert 25 9 v').run Try.prog (w.drewN k) = .ok (.string s) (w.drewN k) := by
  have hL := Lies.of_own h.own
  have h1 := (hL.take hn)
  have hlen : (all.take (lo + n)).length = lo + n := by rw [List.length_take]; omega
  have h2 : Lies .u8 w (.slice (if cap = lo then ao else ao.map (·.add (lo * 1))) (lo + n - lo) (cap - lo)) ((all.take (lo + n)).drop lo) := by
    have h3 : Lies .u8 w (.slice ao (all.take (lo + n)).length cap) (all.take (lo + n)) := by rw [hlen]; exact h1
    have h4 := h3.drop (s := lo) (by rw [hlen]; omega)
    rw [hlen] at h4
    exact h4
  refine ⟨_, _, fun w' => ?_, fun k => (h2.below (below_drewN (Below.refl _ _) k)).convert⟩
  have hcap := hL.cap
  have e1 : ((0 : Int) ≤ ((lo + n : Nat) : Int) ∧ ((lo + n : Nat) : Int) ≤ (cap : Int)) := by omega
  have e2 : ((0 : Int) ≤ (lo : Int) ∧ (lo : Int) ≤ ((lo + n : Nat) : Int)) := by omega
  simp only [Instr.sliceAt, Instr.slice, run_underlying Try.underlying25, Instr.sliceBounds, Instr.sliceBound, asIntOf, Sem.run_bind, Sem.run_pure, Result.andThen_ok, if_pos e1, if_pos e2, Int.toNat_natCast]
  simp
set_option maxRecDepth 100000 in
set_option maxHeartbeats 6400000 in
theorem rtext_any (q : Nat) (vb : Value) (all : List Int) (a : Nat) (y f : Int) (w : World) (h : RD w q vb all a y f) (most : Int) (hlo : -9223372036854775808 ≤ most) (hhi : most ≤ 9223372036854775807) :
    Calls Try.prog 52 #[.pointer (some ⟨q, 0, none⟩), .int .i64 most] w fun e w' => (∃ s : ByteArray, e = .returned (.string s)) ∧ RX w' q vb all ∧ KeepBut (fun k => k = q) w w' := by
  have hle := h.le
  have hroom := h.room
  have m1 := h.box.cell 1 _ rfl
  have CN := hide (fun m => rnum_any q vb all a y f w h m)
  obtain ⟨ao, cap, rfl⟩ := (Lies.of_own h.own).shape
  clear h
  have h3 : most < 0 ∨ most = 0 ∨ 0 < most := by omega
  rcases h3 with h3 | h3 | h3
  all_goals
    try subst h3
    go_enter Try.func52, Try.ntmps52
    go_wp2_with fail
    refine (CN.out _).mono ?_
    rintro e w1 ⟨⟨n, rfl, hn0, hn1⟩, ⟨a1, y1, f1, h1⟩, hk1⟩
    obtain ⟨N, rfl⟩ := Int.eq_ofNat_of_zero_le hn0
    have H1 := hide h1
    have HK1 := hide hk1
    have k2 := h1.box.cell 2 _ rfl
    have k0 := h1.box.cell 0 _ rfl
    have k1 := h1.box.cell 1 _ rfl
    have hle1 := h1.le
    clear hk1 CN m1
    by_cases hy : y1 = 0
    · subst hy
      by_cases hN : ((all.length - a1 : Nat) : Int) < (N : Int)
      · have hNb : decide ((all.length : Int) - (a1 : Int) < (N : Int)) = true := by simp; omega
        have CWG := hide (fun w' (h' : RD w' q (.slice ao all.length cap) all a1 0 f1) => rwrong_any q _ all a1 0 f1 w' h' 4 (a : Nat))
        clear h1
        go_wp2_with fail
        go_quiet (fail)
        have HQ := hide (H1.out.below (below_drewN (Below.refl _ _) nq))
        go_wp2_with fail
        refine (CWG.out _ HQ.out).mono ?_
        rintro e w2 ⟨rfl, ⟨y2, f2, h2⟩, hk2⟩
        have g1 := h2.box.cell 1 _ rfl
        have gf := h2.box.frozen 1
        have HM := hide (h2.moved a hle)
        have HK2 := hide ((HK1.out.trans (KeepBut.of_below (fun k => k = q) (below_drewN (Below.refl _ w1) nq)) (fun _ _ h => h)).trans hk2 (fun _ _ h => h))
        clear h2 hk2 CWG
        go_wp2_with fail
        go_ret
        exact ⟨⟨_, rfl⟩, ⟨_, _, _, HM.out.1⟩, HK2.out.trans HM.out.2 (fun _ _ h => h)⟩
      · have hNb : decide ((all.length : Int) - (a1 : Int) < (N : Int)) = false := by simp; omega
        have hN2 : (N : Int) ≤ 65536 := by omega
        clear h1
        go_wp2_with fail
        go_quiet (fail)
        have HQ := hide (H1.out.below (below_drewN (Below.refl _ _) nq))
        have q1 := HQ.out.box.cell 1 _ rfl
        have qf := HQ.out.box.frozen 1
        have hmv := HQ.out.moved (a1 + N) (by omega)
        rw [Int.natCast_add] at hmv
        have r0 := hmv.1.box.cell 0 _ rfl
        have r1 := hmv.1.box.cell 1 _ rfl
        rw [Int.natCast_add] at r1
        have HMV := hide hmv
        have HKQ := hide ((HK1.out.trans (KeepBut.of_below (fun k => k = q) (below_drewN (Below.refl _ w1) nq)) (fun _ _ h => h)).trans hmv.2 (fun _ _ h => h))
        clear hmv
        go_wp2_with fail
        generalize (w1.drewN nq).setCell ⟨q, 1, none⟩ (.int .i64 ((a1 : Int) + (N : Int))) = W2 at *
        obtain ⟨v', st, hs1, hs2⟩ := HMV.out.1.part a1 N (by omega)
        simp only [Int.natCast_add] at hs1
        go_quiet (fail)
        go_wp2_with fail
        go_ret
        exact ⟨⟨_, rfl⟩, ⟨_, _, _, HMV.out.1.below (below_drewN (Below.refl _ _) _)⟩, HKQ.out.trans (KeepBut.of_below (fun k => k = q) (below_drewN (Below.refl _ _) _)) (fun _ _ h => h)⟩
    · have hyb : (y1 != 0) = true := by simpa using hy
      clear h1
      go_wp2_with fail
      go_ret
      exact ⟨⟨_, rfl⟩, ⟨_, _, _, H1.out⟩, HK1.out⟩
end Go.Proofs.Ytkeedioifjabeaa
