/-
  The program's clock: Stop, Set. Own work.
-/
import Derived.Test.YtgjdlclkibiffaaPkAdd
namespace Go.Proofs.Ytgjdlclkibiffaa
open Go.RowKit Go.Maps

theorem KDid.of_below {w w' : World} {q b : Nat} {sv : Nat → Value} {c : Ck} (h : PCk w q b sv c) (hB : Below w.heap.size w w') : KDid w w' q b sv c := ⟨sv, h.below hB, KeepBut.of_below _ hB, fun _ e => .inl e⟩
theorem KDid.after {w w1 w2 : World} {q b : Nat} {sv : Nat → Value} {c : Ck} (hB : Below w.heap.size w w1) (h : KDid w1 w2 q b sv c) : KDid w w2 q b sv c := by
  obtain ⟨sv', h1, h2, h3⟩ := h
  exact ⟨sv', h1, (KeepBut.of_below _ hB).trans h2 (fun _ _ e => e), fun k e => (h3 k e).imp id (fun e => Nat.le_trans hB.size e)⟩
theorem KDid.trans {w w1 w2 : World} {q b : Nat} {sv sv1 : Nat → Value} {c2 : Ck} (hk : KeepBut (usesC9 q b sv) w w1) (hu : ∀ k, usesC9 q b sv1 k → usesC9 q b sv k ∨ w.heap.size ≤ k) (h : KDid w1 w2 q b sv1 c2) : KDid w w2 q b sv c2 := by
  obtain ⟨sv', h1, h2, h3⟩ := h
  refine ⟨sv', h1, hk.trans h2 (fun k hlt e => (hu k e).elim id (fun h => by omega)), fun k e => ?_⟩
  rcases h3 k e with h | h
  · exact hu k h
  · exact .inr (Nat.le_trans hk.size h)
theorem has_mem {c : Ck} (h : c.Ok) {n : NmP} (hh : c.has n = true) : (n, c.atOf n) ∈ c.l := by
  obtain ⟨x, hx⟩ := (has_iff c n).1 hh
  rw [atOf_mem h hx]
  exact hx
set_option maxRecDepth 100000 in
set_option maxHeartbeats 800000 in
theorem kstop_any (q b : Nat) (sv : Nat → Value) (c : Ck) (n : NmP) (w : World) (h : PCk w q b sv c) (hn : nmOk n) :
    Calls Try.prog 15 #[.pointer (some ⟨q, 0, none⟩), .agg (nmA n)] w fun e w' => e = .returned (.bool (c.has n)) ∧ KDid w w' q b sv (stopD c n) := by
  have hA := alloc_below9 w (.cells (nmA n) 47)
  have hX := box_new w (nmA n) 47
  obtain ⟨w1, hw1⟩ : ∃ w1, w1 = w.alloc (.cells (nmA n) 47) := ⟨_, rfl⟩
  rw [← hw1] at hA hX
  have h1 := h.below hA
  have C1 := hide (kuntil_any q b sv c n w1 h1 hn)
  have x0 := hX.cell 0 _ rfl
  have x1 := hX.cell 1 _ rfl
  have x2 := hX.cell 2 _ rfl
  have x3 := hX.cell 3 _ rfl
  have HX := hide hX
  have HA := hide hA
  have H1 := hide h1
  have hW := hw1.symm
  cases hh : c.has n with
  | false =>
    rw [hh] at C1
    have HE : Hid (stopD c n = c) := hide (stop_gone hh)
    rw [HE.out]
    generalize c.atOf n = a at *
    clear h h1 hX hA hw1 hh
    go_enter Try.func15, Try.ntmps15
    go_wp2_with (first | (go_at_call 20; refine C1.out.mono ?_; rintro e w2 ⟨rfl, hB2⟩; have HB2 := hide hB2; clear hB2))
    go_ret
    exact ⟨rfl, KDid.after HA.out (KDid.of_below H1.out HB2.out)⟩
  | true =>
    rw [hh] at C1
    have hm := has_mem h.ok hh
    have C2 : Hid (∀ w2, Below w1.heap.size w1 w2 → Calls Try.prog 29 #[.pointer (some ⟨q, 0, none⟩), .agg (ptA (n, c.atOf n))] w2 fun e w' => e = .returned (.tuple #[]) ∧ KDid w2 w' q b sv (stopD c n)) := hide (fun w2 hB => krem_any q b sv c n _ w2 (h1.below hB) hm)
    generalize c.atOf n = a at *
    clear h h1 hX hA hw1 hh hm
    go_enter Try.func15, Try.ntmps15
    go_wp2_with (first | (go_at_call 20; refine C1.out.mono ?_; rintro e w2 ⟨rfl, hB2⟩; have HB2 := hide hB2; obtain ⟨y0, y1, y2, y3⟩ := (HX.out.belowI hB2).four; clear hB2) | (go_at_call 29; refine (C2.out w2 HB2.out).mono ?_; rintro e w3 ⟨rfl, h3⟩; have H3 := hide h3; clear h3))
    go_ret
    exact ⟨rfl, KDid.after HA.out (KDid.after HB2.out H3.out)⟩
set_option maxRecDepth 100000 in
set_option maxHeartbeats 1600000 in
theorem kset_any (q b : Nat) (sv : Nat → Value) (c : Ck) (n : NmP) (after : Int) (w : World) (h : PCk w q b sv c) (hn : nmOk n) (ha0 : 0 ≤ after) (ha1 : after < 4294967296) :
    Calls Try.prog 18 #[.pointer (some ⟨q, 0, none⟩), .agg (nmA n), .int .u32 after] w fun e w' => e = .returned (.int .i64 (setA c n after)) ∧ KDid w w' q b sv (setD c n after) := by
  have hA := alloc_below9 w (.cells (nmA n) 47)
  have hX := box_new w (nmA n) 47
  obtain ⟨w1, hw1⟩ : ∃ w1, w1 = w.alloc (.cells (nmA n) 47) := ⟨_, rfl⟩
  rw [← hw1] at hA hX
  have h1 := h.below hA
  have C0 := hide (kgiven_any q b sv c w1 h1)
  have hW := hw1.symm
  have HA := hide hA
  have H1 := hide h1
  have HX := hide hX
  have H0 := hide h
  have hnow := h.ok.now
  have m0 := h1.c0
  have m1 := h1.c1
  have HOK := hide h.ok
  by_cases ha : after = 0
  · have HE : Hid (setA c n after = 1) := hide (by unfold setA; rw [if_pos ha])
    have HD : Hid (setD c n after = c) := hide (by unfold setD; rw [HE.out]; rfl)
    rw [HE.out, HD.out]
    clear h h1 hX hA hw1
    go_enter Try.func18, Try.ntmps18
    go_wp2_with (first | (go_at_call 26; refine C0.out.mono ?_; rintro e w1 ⟨rfl, rfl⟩))
    go_ret
    exact ⟨rfl, KDid.of_below H0.out HA.out⟩
  have haz : (after == 0) = false := by simp [ha]
  have hws : IntKind.u32.wrap (2147483647 - (c.now : Int)) = 2147483647 - (c.now : Int) := by rw [IntKind.wrap_u32]; omega
  by_cases hmx : 2147483647 < (c.now : Int) + after
  · have HE : Hid (setA c n after = 17) := hide (by unfold setA; rw [if_neg ha, if_pos hmx])
    have HD : Hid (setD c n after = c) := hide (by unfold setD; rw [HE.out]; rfl)
    rw [HE.out, HD.out]
    have dg : decide (after > 2147483647 - (c.now : Int)) = true := decide_eq_true (by omega)
    generalize c.now = nw at *
    clear h h1 hX hA hw1 hmx
    go_enter Try.func18, Try.ntmps18
    go_wp2_with (first | (go_at_call 26; refine C0.out.mono ?_; rintro e w1 ⟨rfl, rfl⟩))
    go_ret
    exact ⟨rfl, KDid.of_below H0.out HA.out⟩
  have dg : decide (after > 2147483647 - (c.now : Int)) = false := decide_eq_false (by omega)
  have hlook : (Instr.lookup 65 (.map (some b)) (.agg (nmA n)) true).run Try.prog w1.drew = .ok (.tuple #[.int .u32 (c.atOf n), .bool (c.has n)]) w1.drew := (h1.below (below_drewN9 w1 1)).s.map.look hn
  have hlen : ∀ ty, (Builtin.len_ #[65] ty #[.map (some b)]).run Try.prog w1.drew = .ok (.int .i64 (c.l.length : Int)) w1.drew := fun ty => (h1.below (below_drewN9 w1 1)).s.map.len ty
  have x0 := hX.cell 0 _ rfl
  have x1 := hX.cell 1 _ rfl
  have x2 := hX.cell 2 _ rfl
  have x3 := hX.cell 3 _ rfl
  by_cases hfull : c.has n = false ∧ 1024 ≤ c.l.length
  · have HE : Hid (setA c n after = 5) := hide (by unfold setA; rw [if_neg ha, if_neg hmx, if_pos hfull])
    have HD : Hid (setD c n after = c) := hide (by unfold setD; rw [HE.out]; rfl)
    rw [HE.out, HD.out]
    rw [hfull.1] at hlook
    have dl : decide ((c.l.length : Int) ≥ 1024) = true := decide_eq_true (by have := hfull.2; omega)
    generalize c.now = nw at *
    generalize c.l.length = ln at *
    generalize c.atOf n = an at *
    clear h h1 hX hA hw1 hmx hfull
    go_enter Try.func18, Try.ntmps18
    go_wp2_with (first | (go_at_call 26; refine C0.out.mono ?_; rintro e w1 ⟨rfl, rfl⟩))
    go_region
    go_wp2_with fail
    go_ret
    exact ⟨rfl, KDid.of_below H0.out HA.out.drew⟩
  have hE0 : setA c n after = 0 := by unfold setA; rw [if_neg ha, if_neg hmx, if_neg hfull]
  have C1 := hide (kstop_any q b sv c n w1.drew (h1.below (below_drewN9 w1 1)) hn)
  have hsok := stopD_ok h.ok n
  have hC2 : ∀ (w2 : World) (sv2 : Nat → Value), PCk w2 q b sv2 (stopD c n) → Calls Try.prog 31 #[.pointer (some ⟨q, 0, none⟩), .agg (ptA (n, (c.now : Int) + after))] w2 fun e w' => e = .returned (.tuple #[]) ∧ KDid w2 w' q b sv2 (setD c n after) := fun w2 sv2 hp => by
    refine kadd_any q b sv2 (stopD c n) (setD c n after) (n, (c.now : Int) + after) w2 hp hn (by show 0 ≤ (c.now : Int) + after; omega) (by show (c.now : Int) + after < 4294967296; omega) (fun hm => ?_) (by unfold setD; rw [if_pos hE0]; rfl) (setD_ok h.ok hn ha0)
    obtain ⟨t, ht, e⟩ := List.mem_map.1 hm
    exact ((mem_stop c n t).1 ht).2 e
  have C2 := hide hC2
  have HE : Hid (setA c n after = 0) := hide hE0
  rw [HE.out]
  have hwa : IntKind.u32.wrap ((c.now : Int) + after) = (c.now : Int) + after := by rw [IntKind.wrap_u32]; omega
  have HST : Hid (∀ w2 sv2, PCk w2 q b sv2 (stopD c n) → w2.cell? ⟨q, 0, none⟩ = some (.int .u32 (c.now : Int))) := hide (fun w2 sv2 hp => hp.c0)
  have HNE : Hid (¬ usesC9 q b sv w.heap.size) := hide (fun e => by have := h.lt _ e; omega)
  have HL : Hid (c.has n = true ∨ c.l.length < 1024) := hide (by
    cases hh : c.has n with
    | true => exact .inl rfl
    | false => exact .inr (by rcases Nat.lt_or_ge c.l.length 1024 with h | h; exact h; exact absurd ⟨hh, h⟩ hfull))
  cases hh : c.has n with
  | true =>
    rw [hh] at hlook
    generalize c.now = nw at *
    generalize c.l.length = ln at *
    generalize c.atOf n = an at *
    clear h h1 hX hA hw1 hmx hfull hE0 hsok hC2 hh
    go_enter Try.func18, Try.ntmps18
    go_wp2_with (first | (go_at_call 26; refine C0.out.mono ?_; rintro e w1 ⟨rfl, rfl⟩))
    go_region
    go_wp2_with fail
    refine C1.out.mono ?_
    rintro e w2 ⟨rfl, sv2, hp2, hk2, hu2⟩
    have n0 := HST.out w2 sv2 hp2
    obtain ⟨y0, y1, y2, y3⟩ := ((HX.out.belowI (below_drewN9 w1 1)).keep hk2 HNE.out).four
    have CA := hide (C2.out (w2.drew) sv2 (hp2.below (below_drewN9 w2 1)))
    have HK2 := hide hk2
    have HU2 := hide hu2
    clear hp2 hk2 hu2
    go_wp2_with fail
    go_region_with (first | (go_at_call 31; refine CA.out.mono ?_; rintro e w3 ⟨rfl, h3⟩; have H3 := hide h3; clear h3))
    all_goals go_wp2_with fail
    all_goals go_ret
    all_goals exact ⟨rfl, KDid.after HA.out.drew (KDid.trans HK2.out HU2.out (KDid.after (below_drewN9 w2 1) H3.out))⟩
  | false =>
    rw [hh] at hlook
    have dl : decide ((c.l.length : Int) ≥ 1024) = false := decide_eq_false (by rcases HL.out with e | e; rw [hh] at e; cases e; omega)
    generalize c.now = nw at *
    generalize c.l.length = ln at *
    generalize c.atOf n = an at *
    clear h h1 hX hA hw1 hmx hfull hE0 hsok hC2 hh
    go_enter Try.func18, Try.ntmps18
    go_wp2_with (first | (go_at_call 26; refine C0.out.mono ?_; rintro e w1 ⟨rfl, rfl⟩))
    go_region
    go_wp2_with fail
    refine C1.out.mono ?_
    rintro e w2 ⟨rfl, sv2, hp2, hk2, hu2⟩
    have n0 := HST.out w2 sv2 hp2
    obtain ⟨y0, y1, y2, y3⟩ := ((HX.out.belowI (below_drewN9 w1 1)).keep hk2 HNE.out).four
    have CA := hide (C2.out (w2.drew) sv2 (hp2.below (below_drewN9 w2 1)))
    have HK2 := hide hk2
    have HU2 := hide hu2
    clear hp2 hk2 hu2
    go_wp2_with fail
    go_region_with (first | (go_at_call 31; refine CA.out.mono ?_; rintro e w3 ⟨rfl, h3⟩; have H3 := hide h3; clear h3))
    all_goals go_wp2_with fail
    all_goals go_ret
    all_goals exact ⟨rfl, KDid.after HA.out.drew (KDid.trans HK2.out HU2.out (KDid.after (below_drewN9 w2 1) H3.out))⟩
end Go.Proofs.Ytgjdlclkibiffaa
