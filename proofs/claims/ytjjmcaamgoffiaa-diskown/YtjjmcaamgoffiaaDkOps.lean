/-
  The program's disk, its row: end, span, add, hold; Clone. Own work.
-/
import Derived.Test.YtjjmcaamgoffiaaDkRow
import Derived.Deep.RegionHeldLaw
namespace Go.Proofs.Ytjjmcaamgoffiaa
open Go.RowKit

set_option maxRecDepth 100000 in
theorem dend_any (q : Nat) (vb : Value) (x : Pd) (w : World) (h : RB w q vb x) (hb : x.f + x.rs.length ≤ 200000000) :
    Calls Try.prog 42 #[.pointer (some ⟨q, 0, none⟩)] w fun e w' => e = .returned (.int .i64 ((x.f + x.rs.length : Nat) : Int)) ∧ ∃ m, w' = w.drewN m := by
  obtain ⟨m0, m1, m2, m3, m4, m5, m6, m7⟩ := h.at
  obtain ⟨ao, cap, hv⟩ := h.row.lies.shape
  subst hv
  clear h
  go_enter Try.func42, Try.ntmps42
  go_wp2
  go_quiet (fail)
  go_wp2
  go_ret
  exact ⟨ret_int (by omega), _, rfl⟩
set_option maxRecDepth 100000 in
theorem dspan_any (q : Nat) (vb : Value) (x : Pd) (s n : Nat) (w : World) (h : RB w q vb x) (hb : x.f + x.rs.length ≤ 200000000) (h1 : x.f ≤ s) (h2 : s ≤ n) (h3 : n ≤ x.f + x.rs.length) :
    Calls Try.prog 41 #[.pointer (some ⟨q, 0, none⟩), .int .i64 (s : Int), .int .i64 (n : Int)] w fun e w' => ∃ v', e = .returned v' ∧ PRow w' v' ((x.rs.drop (s - x.f)).take (n - s)) ∧ v'.ownBlock = vb.ownBlock ∧ ∃ m, w' = w.drewN m := by
  obtain ⟨m0, m1, m2, m3, m4, m5, m6, m7⟩ := h.at
  obtain ⟨ao, cap, hv⟩ := h.row.lies.shape
  subst hv
  have HR := hide h.row
  have hcap := h.row.lies.cap
  clear h
  obtain ⟨s', hs'⟩ : ∃ s', s' = s - x.f := ⟨_, rfl⟩
  obtain ⟨n', hn'⟩ : ∃ n', n' = n - x.f := ⟨_, rfl⟩
  have e1 : (s : Int) - (x.f : Int) = (s' : Int) := by omega
  have e2 : (n : Int) - (x.f : Int) = (n' : Int) := by omega
  obtain ⟨ao', hao⟩ : ∃ ao', ao' = if n' = s' then ao else ao.map (·.add (s' * 1)) := ⟨_, rfl⟩
  obtain ⟨k', hk'⟩ : ∃ k', k' = n' - s' := ⟨_, rfl⟩
  have HT : Hid (PRow w (.slice ao' k' k') ((x.rs.drop s').take k') ∧ (Value.slice ao' k' k').ownBlock = (Value.slice ao x.rs.length cap).ownBlock) := hide (by rw [hao, hk']; exact HR.out.three (s := s') (n := n') (by omega) (by omega))
  have hto : ∀ W, (Instr.sliceAt 29 (.slice ao x.rs.length cap) (some (.int .i64 s')) (some (.int .i64 n')) (some (.int .i64 n'))).run Try.prog W = .ok (.slice ao' k' k') W := fun W => by rw [hao, hk']; exact run_three W ao x.rs.length cap s' n' (by omega) (by omega)
  have HN : Hid (k' = n - s) := hide (by omega)
  have HS := hide hs'
  clear hs' hn' hao hk'
  go_enter Try.func41, Try.ntmps41
  go_wp2
  go_quiet (fail)
  go_wp2
  go_ret
  rw [← HS.out, ← HN.out]
  exact ⟨_, rfl, HT.out.1.below (below_drewN7 _ _), HT.out.2, _, rfl⟩
set_option maxRecDepth 100000 in
theorem dadd_any (q : Nat) (vb : Value) (x : Pd) (vx : Value) (xs : List Int) (w : World) (h : RB w q vb x) (hL : Lies .u8 w vx xs) (hb : x.rs.length + xs.length ≤ 100000000000000) :
    Calls Try.prog 45 #[.pointer (some ⟨q, 0, none⟩), vx] w fun e w' => e = .returned (.tuple #[]) ∧ RBid w w' q vb { x with rs := x.rs ++ xs } := by
  obtain ⟨m0, m1, m2, m3, m4, m5, m6, m7⟩ := h.at
  obtain ⟨ao, cap, hv⟩ := h.row.lies.shape
  obtain ⟨ao2, cap2, hvx⟩ := hL.shape
  subst hv
  subst hvx
  have HL := hide hL
  have HH := hide h
  have HR := hide h.row
  obtain ⟨rs, hrs⟩ : ∃ rs, rs = x.rs := ⟨_, rfl⟩
  obtain ⟨ys, hys⟩ : ∃ ys, ys = x.rs ++ xs := ⟨_, rfl⟩
  rw [← hys]
  have HYS := hide hys
  clear h hL hys
  go_enter Try.func45, Try.ntmps45
  go_wp2_with (at_builtin; refine append_prow _ rfl _ _ rfl _ _ x.rs xs rfl HR.out rfl HL.out (by omega) ?_; intro v1 w1 hr1 hg1 hp1; rw [← HYS.out] at hr1; have hk1 : KeepBut (fun k => (Value.slice ao x.rs.length cap).ownBlock = some k) w w1 := grown_keep7 hg1 (fun _ e => e); have hbx := HH.out.box.keep hk1 HH.out.apart; have hc1 := hbx.cell 1 _ rfl; have hfz := hbx.frozen 1; obtain ⟨ao1, cap1, hv1⟩ := hr1.lies.shape; subst hv1; have HR1 := hide hr1; have HK1 := hide hk1; have HP1 := hide hp1; have HX1 := hide hbx; clear hr1 hg1 hk1 hp1 hbx)
  go_end0
  have hne : (Value.slice ao1 ys.length cap1).ownBlock ≠ some q := by
    rcases HP1.out with e | e
    · rw [e]; exact HH.out.apart
    · intro e2
      have := e q e2
      have := HH.out.box.lt
      omega
  obtain ⟨q1, q2⟩ := RB.bytes HX1.out HR1.out hne
  refine ⟨rfl, ⟨_, q1, HP1.out⟩, ?_⟩
  exact (HK1.out.mono (fun k e => .inr e)).trans q2 (fun _ _ h => h)
set_option maxRecDepth 100000 in
set_option maxHeartbeats 800000 in
theorem dhold_keep (q : Nat) (vb : Value) (x : Pd) (s n : Nat) (w : World) (h : RB w q vb x) (hb : x.f + x.rs.length ≤ 200000000) (h1 : x.f ≤ s) (h2 : s ≤ n) (h3 : n ≤ x.f + x.rs.length) :
    Calls Try.prog 44 #[.pointer (some ⟨q, 0, none⟩), .int .i64 (s : Int), .int .i64 (n : Int)] w fun e w' => e = .returned (.tuple #[]) ∧ RBid w w' q vb { x with f := s, rs := (x.rs.drop (s - x.f)).take (n - s) } ∧ KeepBut (fun k => k = q) w w' := by
  obtain ⟨m0, m1, m2, m3, m4, m5, m6, m7⟩ := h.at
  have HH := hide h
  have CE := hide (dend_any q vb x w h hb)
  obtain ⟨ao, cap, hv⟩ := h.row.lies.shape
  subst hv
  obtain ⟨ys, hys⟩ : ∃ ys, ys = (x.rs.drop (s - x.f)).take (n - s) := ⟨_, rfl⟩
  rw [← hys]
  have CS := fun (W : World) (hW : RB W q (.slice ao x.rs.length cap) x) => dspan_any q _ x s n W hW hb h1 h2 h3
  rw [← hys] at CS
  have HS := hide CS
  have HYS := hide hys
  clear h CS hys
  obtain ⟨en, hen⟩ : ∃ en, en = x.f + x.rs.length := ⟨_, rfl⟩
  rw [← hen] at CE
  by_cases hs : s = x.f
  · subst hs
    have d1 : ((x.f : Int) == (x.f : Int)) = true := by simp
    go_enter Try.func44, Try.ntmps44
    go_wp2_with fail
    refine CE.out.mono ?_
    rintro e w1 ⟨rfl, m, hw1⟩
    have hB1 : Below w.heap.size w w1 := hw1 ▸ below_drewN7 w m
    have HR1 := hide (HH.out.below hB1)
    have HB1 := hide hB1
    clear hw1 hB1 CE m0 m1 m2 m3 m4 m5 m6 m7
    obtain ⟨m0, m1, m2, m3, m4, m5, m6, m7⟩ := HR1.out.at
    by_cases hn : n = en
    · have d2 : ((n : Int) == (en : Int)) = true := by simp [hn]
      have HE : Hid (ys = x.rs) := hide (by rw [HYS.out, Nat.sub_self, List.drop_zero, List.take_of_length_le (by omega)])
      go_wp2_with fail
      (try simp only [Exit.inBlock, Exit.then]); refine bodyPost_ret (results_none rfl _ _ _) rfl ?_
      rw [HE.out]
      exact ⟨rfl, RBid.of_below HH.out HB1.out, KeepBut.of_below _ HB1.out⟩
    · have d2 : ((n : Int) == (en : Int)) = false := by simp; omega
      have C2 := hide (HS.out _ HR1.out)
      go_wp2_with fail
      refine C2.out.mono ?_
      rintro e w2 ⟨v2, rfl, hr2, ho2, m2, hw2⟩
      have hB2 : Below w1.heap.size w1 w2 := hw2 ▸ below_drewN7 w1 m2
      have HR2 := hide (HR1.out.below hB2)
      obtain ⟨ao2, cap2, hv2⟩ := hr2.lies.shape
      subst hv2
      have HP2 := hide hr2
      have HO2 := hide ho2
      have HB2 := hide (HB1.out.trans (hB2.mono HB1.out.size))
      clear hr2 ho2 hw2 hB2 C2 m0 m1 m2 m3 m4 m5 m6 m7
      obtain ⟨m0, m1, m2, m3, m4, m5, m6, m7⟩ := HR2.out.at
      have z0 := HR2.out.box.frozen 0
      have z1 := HR2.out.box.frozen 1
      go_wp2_with fail
      go_end0
      obtain ⟨q1, k1⟩ := RB.bytes HR2.out.box HP2.out (by rw [HO2.out]; exact HH.out.apart)
      obtain ⟨q2, k2⟩ := q1.put (i := 0) (v := .int .i64 (x.f : Int)) (x' := { x with rs := ys }) rfl rfl
      refine ⟨rfl, ⟨⟨_, q2, .inl HO2.out⟩, ?_⟩, ((KeepBut.of_below (fun k => k = q) HB2.out).setCell (p := ⟨q, 1, none⟩) (.inl rfl) _).setCell (p := ⟨q, 0, none⟩) (.inl rfl) _⟩
      exact ((KeepBut.of_below _ HB2.out).trans k1 (fun _ _ h => h)).trans k2 (fun k _ h => h.imp id (fun e => by rw [← HO2.out]; exact e))
  · have d1 : ((s : Int) == (x.f : Int)) = false := by simp; omega
    have C2 := hide (HS.out _ HH.out)
    go_enter Try.func44, Try.ntmps44
    go_wp2_with fail
    refine C2.out.mono ?_
    rintro e w2 ⟨v2, rfl, hr2, ho2, m2, hw2⟩
    have hB2 : Below w.heap.size w w2 := hw2 ▸ below_drewN7 w m2
    have HR2 := hide (HH.out.below hB2)
    obtain ⟨ao2, cap2, hv2⟩ := hr2.lies.shape
    subst hv2
    have HP2 := hide hr2
    have HO2 := hide ho2
    have HB2 := hide hB2
    clear hr2 ho2 hw2 hB2 C2 CE m0 m1 m2 m3 m4 m5 m6 m7
    obtain ⟨m0, m1, m2, m3, m4, m5, m6, m7⟩ := HR2.out.at
    have z0 := HR2.out.box.frozen 0
    have z1 := HR2.out.box.frozen 1
    go_wp2_with fail
    go_end0
    obtain ⟨q1, k1⟩ := RB.bytes HR2.out.box HP2.out (by rw [HO2.out]; exact HH.out.apart)
    obtain ⟨q2, k2⟩ := q1.put (i := 0) (v := .int .i64 (s : Int)) (x' := { x with f := s, rs := ys }) rfl rfl
    refine ⟨rfl, ⟨⟨_, q2, .inl HO2.out⟩, ?_⟩, ((KeepBut.of_below (fun k => k = q) HB2.out).setCell (p := ⟨q, 1, none⟩) (.inl rfl) _).setCell (p := ⟨q, 0, none⟩) (.inl rfl) _⟩
    exact ((KeepBut.of_below _ HB2.out).trans k1 (fun _ _ h => h)).trans k2 (fun k _ h => h.imp id (fun e => by rw [← HO2.out]; exact e))
theorem dhold_any (q : Nat) (vb : Value) (x : Pd) (s n : Nat) (w : World) (h : RB w q vb x) (hb : x.f + x.rs.length ≤ 200000000) (h1 : x.f ≤ s) (h2 : s ≤ n) (h3 : n ≤ x.f + x.rs.length) :
    Calls Try.prog 44 #[.pointer (some ⟨q, 0, none⟩), .int .i64 (s : Int), .int .i64 (n : Int)] w fun e w' => e = .returned (.tuple #[]) ∧ RBid w w' q vb { x with f := s, rs := (x.rs.drop (s - x.f)).take (n - s) } :=
  (dhold_keep q vb x s n w h hb h1 h2 h3).mono fun _ _ h => ⟨h.1, h.2.1⟩
end Go.Proofs.Ytjjmcaamgoffiaa
