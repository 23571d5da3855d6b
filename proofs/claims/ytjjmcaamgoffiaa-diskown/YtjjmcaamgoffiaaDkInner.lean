/-
  The program's disk: given, ready, the small getters, within, force. Own work.
-/
import Derived.Test.YtjjmcaamgoffiaaDkOps
namespace Go.Proofs.Ytjjmcaamgoffiaa
open Go.RowKit

def fuseI (d : Dk) : Int := if d.armed then (d.fuse : Int) else -1
def pdOf (d : Dk) : Pd := ⟨d.fbase, d.bs.drop d.fbase, d.room, d.base, d.fend, fuseI d, !d.off⟩
structure PB (w : World) (q : Nat) (vb : Value) (d : Dk) : Prop where
  rb : RB w q vb (pdOf d)
  ok : d.Ok
  le : d.bs.length ≤ 100100000
/-- The program's disk, with the blocks that it uses. -/
def PD (w : World) (q : Nat) (F : Nat → Prop) (d : Dk) : Prop := ∃ vb, PB w q vb d ∧ ∀ k, F k ↔ usesB q vb k
theorem pd_len {d : Dk} (h : d.Ok) : d.fbase + (d.bs.drop d.fbase).length = d.bs.length := by
  have := h.b1
  have := h.b2
  simp; omega
theorem did_of {w w' : World} {q : Nat} {F : Nat → Prop} {vb : Value} {d' : Dk} (hF : ∀ k, F k ↔ usesB q vb k) (h : RBid w w' q vb (pdOf d')) (hok : d'.Ok) (hl : d'.bs.length ≤ 100100000) : Did PD w w' q F d' := by
  obtain ⟨⟨vb', h1, hp⟩, hk⟩ := h
  refine ⟨usesB q vb', ⟨vb', ⟨h1, hok, hl⟩, fun k => Iff.rfl⟩, hk.mono (fun k => (hF k).2), fun k hu => ?_⟩
  rcases Nat.lt_or_ge k w.heap.size with hlt | hge
  · exact .inl ((hF k).2 (usesB_new hp k hlt hu))
  · exact .inr hge
theorem neq_ptr7 (w : World) (a : Addr) : (binOp .neq 25 (.pointer (some a)) (.pointer none)).run Try.prog w = .ok (.bool true) w := by
  have h1 : ∀ d, (Op.equalIn (d + 1) 25 (.pointer (some a)) (.pointer none)).run Try.prog w = .ok false w := by
    intro d; simp [Op.equalIn, run_underlying Try.underlying25]
  have h2 : (Op.equal 25 (.pointer (some a)) (.pointer none)).run Try.prog w = .ok false w := h1 9999
  simp [binOp, h2]
theorem given_any (q : Nat) (vb : Value) (x : Pd) (w : World) (h : RB w q vb x) :
    Calls Try.prog 43 #[.pointer (some ⟨q, 0, none⟩)] w fun e w' => e = .returned (.bool true) ∧ w' = w := by
  obtain ⟨m0, m1, m2, m3, m4, m5, m6, m7⟩ := h.at
  clear h
  go_enter Try.func43, Try.ntmps43
  go_wp2
  go_ret
  exact ⟨rfl, rfl⟩
theorem ready_any (q : Nat) (vb : Value) (x : Pd) (w : World) (h : RB w q vb x) :
    Calls Try.prog 39 #[.pointer (some ⟨q, 0, none⟩)] w fun e w' => e = .returned (.int .i64 (if x.on then 0 else 10)) ∧ w' = w := by
  obtain ⟨m0, m1, m2, m3, m4, m5, m6, m7⟩ := h.at
  have C := hide (given_any q vb x w h)
  clear h
  cases ho : x.on
  · rw [ho] at m7
    go_enter Try.func39, Try.ntmps39
    go_wp2_with fail
    refine C.out.mono ?_
    rintro e w1 ⟨rfl, rfl⟩
    go_wp2_with fail
    go_ret
    exact ⟨rfl, rfl⟩
  · rw [ho] at m7
    go_enter Try.func39, Try.ntmps39
    go_wp2_with fail
    refine C.out.mono ?_
    rintro e w1 ⟨rfl, rfl⟩
    go_wp2_with fail
    go_ret
    exact ⟨rfl, rfl⟩
theorem dbase_any (q : Nat) (vb : Value) (x : Pd) (w : World) (h : RB w q vb x) :
    Calls Try.prog 19 #[.pointer (some ⟨q, 0, none⟩)] w fun e w' => e = .returned (.int .i64 (x.base : Int)) ∧ w' = w := by
  obtain ⟨m0, m1, m2, m3, m4, m5, m6, m7⟩ := h.at
  have C := hide (given_any q vb x w h)
  clear h
  go_enter Try.func19, Try.ntmps19
  go_wp2_with fail
  refine C.out.mono ?_
  rintro e w1 ⟨rfl, rfl⟩
  go_wp2_with fail
  go_ret
  exact ⟨rfl, rfl⟩
theorem droom_any (q : Nat) (vb : Value) (x : Pd) (w : World) (h : RB w q vb x) :
    Calls Try.prog 23 #[.pointer (some ⟨q, 0, none⟩)] w fun e w' => e = .returned (.int .i64 (x.room : Int)) ∧ w' = w := by
  obtain ⟨m0, m1, m2, m3, m4, m5, m6, m7⟩ := h.at
  have C := hide (given_any q vb x w h)
  clear h
  go_enter Try.func23, Try.ntmps23
  go_wp2_with fail
  refine C.out.mono ?_
  rintro e w1 ⟨rfl, rfl⟩
  go_wp2_with fail
  go_ret
  exact ⟨rfl, rfl⟩
theorem don_any (q : Nat) (vb : Value) (x : Pd) (w : World) (h : RB w q vb x) :
    Calls Try.prog 24 #[.pointer (some ⟨q, 0, none⟩)] w fun e w' => e = .returned (.bool x.on) ∧ w' = w := by
  obtain ⟨m0, m1, m2, m3, m4, m5, m6, m7⟩ := h.at
  have C := hide (given_any q vb x w h)
  clear h
  go_enter Try.func24, Try.ntmps24
  go_wp2_with fail
  refine C.out.mono ?_
  rintro e w1 ⟨rfl, rfl⟩
  go_wp2_with fail
  go_ret
  exact ⟨rfl, rfl⟩
theorem dforced_any (q : Nat) (vb : Value) (x : Pd) (w : World) (h : RB w q vb x) :
    Calls Try.prog 17 #[.pointer (some ⟨q, 0, none⟩)] w fun e w' => e = .returned (.tuple #[.int .i64 (x.f : Int), .int .i64 (x.sure : Int)]) ∧ ∃ m, w' = w.drewN m := by
  obtain ⟨m0, m1, m2, m3, m4, m5, m6, m7⟩ := h.at
  have C := hide (given_any q vb x w h)
  clear h
  go_enter Try.func17, Try.ntmps17
  go_wp2_with fail
  refine C.out.mono ?_
  rintro e w1 ⟨rfl, rfl⟩
  go_wp2_with fail
  go_quiet (fail)
  go_wp2_with fail
  go_ret2
  exact ⟨rfl, _, rfl⟩
theorem dEnd_any (q : Nat) (vb : Value) (x : Pd) (w : World) (h : RB w q vb x) (hb : x.f + x.rs.length ≤ 200000000) :
    Calls Try.prog 20 #[.pointer (some ⟨q, 0, none⟩)] w fun e w' => e = .returned (.int .i64 ((x.f + x.rs.length : Nat) : Int)) ∧ ∃ m, w' = w.drewN m := by
  have C := hide (given_any q vb x w h)
  have C2 := hide (dend_any q vb x w h hb)
  clear h
  obtain ⟨en, hen⟩ : ∃ en, en = x.f + x.rs.length := ⟨_, rfl⟩
  rw [← hen] at C2 ⊢
  go_enter Try.func20, Try.ntmps20
  go_wp2_with fail
  refine C.out.mono ?_
  rintro e w1 ⟨rfl, rfl⟩
  go_wp2_with fail
  refine C2.out.mono ?_
  rintro e w2 ⟨rfl, hw2⟩
  have HW := hide hw2
  clear hw2
  go_wp2_with fail
  go_ret
  exact ⟨ret_int (by omega), HW.out⟩
set_option maxRecDepth 100000 in
theorem dleft_any (q : Nat) (vb : Value) (x : Pd) (w : World) (h : RB w q vb x) (hb : x.f + x.rs.length ≤ 200000000) (hr : x.room ≤ 65536) :
    Calls Try.prog 21 #[.pointer (some ⟨q, 0, none⟩)] w fun e w' => e = .returned (.int .i64 ((x.room : Int) - (x.rs.length : Int))) ∧ ∃ m, w' = w.drewN m := by
  obtain ⟨m0, m1, m2, m3, m4, m5, m6, m7⟩ := h.at
  have C := hide (given_any q vb x w h)
  have C2 : Hid (∀ n, Calls Try.prog 42 #[.pointer (some ⟨q, 0, none⟩)] (w.drewN n) fun e w' => e = .returned (.int .i64 ((x.f + x.rs.length : Nat) : Int)) ∧ ∃ m, w' = (w.drewN n).drewN m) := hide (fun n => dend_any q vb x (w.drewN n) h.drewN hb)
  clear h
  obtain ⟨en, hen⟩ : ∃ en, en = x.f + x.rs.length := ⟨_, rfl⟩
  rw [← hen] at C2
  go_enter Try.func21, Try.ntmps21
  go_wp2_with fail
  refine C.out.mono ?_
  rintro e w1 ⟨rfl, rfl⟩
  go_wp2_with fail
  go_quiet ((go_at_call 42; exact Calls.quiet_of (C2.out _)))
  go_wp2_with fail
  go_ret
  exact ⟨ret_int (by omega), _, rfl⟩
set_option maxRecDepth 100000 in
set_option maxHeartbeats 800000 in
theorem within_any (q : Nat) (vb : Value) (d : Dk) (to : Int) (w : World) (h : PB w q vb d) :
    Calls Try.prog 47 #[.pointer (some ⟨q, 0, none⟩), .int .i64 to] w fun e w' => e = .returned (.int .i64 (cutA d to)) ∧ ∃ m, w' = w.drewN m := by
  have hpl := pd_len h.ok
  have hle := h.le
  obtain ⟨m0, m1, m2, m3, m4, m5, m6, m7⟩ := h.rb.at
  have C := hide (ready_any q vb _ w h.rb)
  have C2 := hide (dend_any q vb _ w h.rb (by show d.fbase + (d.bs.drop d.fbase).length ≤ _; omega))
  have e2 : (pdOf d).f + (pdOf d).rs.length = d.bs.length := hpl
  rw [e2] at C2
  have m4' : w.cell? ⟨q, 4, none⟩ = some (.int .i64 (d.base : Int)) := m4
  clear h e2 hpl m0 m1 m2 m3 m4 m5 m6 m7
  cases ho : d.off
  · have hon : (if (pdOf d).on then (0 : Int) else 10) = 0 := by show (if !d.off then (0 : Int) else 10) = 0; rw [ho]; rfl
    rw [hon] at C
    by_cases h1 : to < (d.base : Int)
    · have HI : Hid (d.inB to = false) := hide (by unfold Dk.inB; rw [decide_eq_false (by omega)]; rfl)
      have HE : Hid (cutA d to = 1) := hide (by unfold cutA; rw [ho, HI.out]; rfl)
      have d1 : decide (to < (d.base : Int)) = true := decide_eq_true h1
      clear h1
      go_enter Try.func47, Try.ntmps47
      go_wp2_with fail
      refine C.out.mono ?_
      rintro e w1 ⟨rfl, rfl⟩
      go_wp2_with fail
      go_ret
      exact ⟨ret_int HE.out.symm, 0, rfl⟩
    · have d1 : decide (to < (d.base : Int)) = false := decide_eq_false h1
      go_enter Try.func47, Try.ntmps47
      go_wp2_with fail
      refine C.out.mono ?_
      rintro e w1 ⟨rfl, rfl⟩
      go_wp2_with fail
      refine C2.out.mono ?_
      rintro e w2 ⟨rfl, hw2⟩
      have HW := hide hw2
      clear hw2 C2 C
      by_cases h2 : to > (d.bs.length : Int)
      · have HI : Hid (d.inB to = false) := hide (by unfold Dk.inB; rw [decide_eq_false (show ¬ to ≤ (d.bs.length : Int) by omega), Bool.and_false])
        have HE : Hid (cutA d to = 1) := hide (by unfold cutA; rw [ho, HI.out]; rfl)
        have d2 : decide (to > (d.bs.length : Int)) = true := decide_eq_true h2
        clear h1 h2
        go_wp2_with fail
        go_ret
        exact ⟨ret_int HE.out.symm, HW.out⟩
      · have d2 : decide (to > (d.bs.length : Int)) = false := decide_eq_false h2
        have HI : Hid (d.inB to = true) := hide (by unfold Dk.inB; rw [decide_eq_true (show (d.base : Int) ≤ to by omega), decide_eq_true (show to ≤ (d.bs.length : Int) by omega)]; rfl)
        have HE : Hid (cutA d to = 0) := hide (by unfold cutA; rw [ho, HI.out]; rfl)
        clear h1 h2
        go_wp2_with fail
        go_ret
        exact ⟨ret_int HE.out.symm, HW.out⟩
  · have hon : (if (pdOf d).on then (0 : Int) else 10) = 10 := by show (if !d.off then (0 : Int) else 10) = 10; rw [ho]; rfl
    rw [hon] at C
    have HE : Hid (cutA d to = 10) := hide (by unfold cutA; rw [ho]; rfl)
    go_enter Try.func47, Try.ntmps47
    go_wp2_with fail
    refine C.out.mono ?_
    rintro e w1 ⟨rfl, rfl⟩
    go_wp2_with fail
    go_ret
    exact ⟨ret_int HE.out.symm, 0, rfl⟩
set_option maxRecDepth 100000 in
set_option maxHeartbeats 800000 in
theorem dforce_any (q : Nat) (vb : Value) (x : Pd) (w : World) (h : RB w q vb x) (hb : x.f + x.rs.length ≤ 200000000) (h1 : x.f ≤ x.base) (h2 : x.base ≤ x.f + x.rs.length) :
    Calls Try.prog 46 #[.pointer (some ⟨q, 0, none⟩)] w fun e w' => e = .returned (.tuple #[]) ∧ RBid w w' q vb { x with f := x.base, rs := x.rs.drop (x.base - x.f), sure := x.f + x.rs.length } := by
  obtain ⟨m0, m1, m2, m3, m4, m5, m6, m7⟩ := h.at
  have HH := hide h
  have HBd : Hid (Below w.heap.size w w.drew) := hide (Below.refl _ _).drew
  have HRd := hide (h.below HBd.out)
  have C1 := hide (dend_any q vb x _ HRd.out hb)
  have C2 : Hid (∀ W, RB W q vb x → Calls Try.prog 44 #[.pointer (some ⟨q, 0, none⟩), .int .i64 (x.base : Int), .int .i64 ((x.f + x.rs.length : Nat) : Int)] W fun e w' => e = .returned (.tuple #[]) ∧ RBid W w' q vb { x with f := x.base, rs := (x.rs.drop (x.base - x.f)).take (x.f + x.rs.length - x.base) }) := hide (fun W hW => dhold_any q vb x x.base (x.f + x.rs.length) W hW hb h1 h2 (Nat.le_refl _))
  have ht : (x.rs.drop (x.base - x.f)).take (x.f + x.rs.length - x.base) = x.rs.drop (x.base - x.f) := List.take_of_length_le (by simp; omega)
  rw [ht] at C2
  have hlen : x.base + (x.rs.drop (x.base - x.f)).length = x.f + x.rs.length := by simp; omega
  obtain ⟨ys, hys⟩ : ∃ ys, ys = x.rs.drop (x.base - x.f) := ⟨_, rfl⟩
  rw [← hys] at C2 hlen ⊢
  obtain ⟨en, hen⟩ : ∃ en, en = x.f + x.rs.length := ⟨_, rfl⟩
  rw [← hen] at C1 C2 hlen ⊢
  have HLE := hide hlen
  have hen2 : en ≤ 200000000 := by omega
  clear h ht hys hen hlen hb h1 h2
  go_enter Try.func46, Try.ntmps46
  go_wp2_with fail
  go_region_held (fun w' => w'.cell? ⟨q, 4, none⟩ = some (.int .i64 (x.base : Int))) (go_keep) (first
    | (go_at_call 42; refine C1.out.mono ?_; rintro e w1 ⟨rfl, m, hw1⟩; have hB1 : Below w.heap.size w w1 := HBd.out.trans (hw1 ▸ below_drewN7 w.drew m); have n4 := (HH.out.below hB1).at.2.2.2.2.1; have C3 := hide (C2.out w1 (HH.out.below hB1)); have HB1 := hide hB1; clear hw1 hB1)
    | (go_at_call 44; refine C3.out.mono ?_; rintro e w2 ⟨rfl, h2⟩; have H2 := hide (RBid.before HB1.out h2); have o4 : w2.cell? ⟨q, 4, none⟩ = some (.int .i64 (x.base : Int)) := (by obtain ⟨⟨v2, r2, _⟩, _⟩ := h2; exact r2.at.2.2.2.2.1); clear h2))
  obtain ⟨⟨v2, r2, p2⟩, k2⟩ := H2.out
  have HR2 := hide r2
  have C4 := hide (dend_any q v2 _ w2 r2 (by show x.base + ys.length ≤ _; rw [HLE.out]; exact hen2))
  have e4 : ({ x with f := x.base, rs := ys } : Pd).f + ({ x with f := x.base, rs := ys } : Pd).rs.length = en := HLE.out
  rw [e4] at C4
  clear r2 p2 k2 e4
  go_wp2_with fail
  refine C4.out.mono ?_
  rintro e w3 ⟨rfl, m, hw3⟩
  have hB3 : Below w2.heap.size w2 w3 := hw3 ▸ below_drewN7 w2 m
  have HR3 := hide (HR2.out.below hB3)
  have HB3 := hide hB3
  have z5 := HR3.out.box.frozen 5
  obtain ⟨n0, n1, n2, n3, n4, n5, n6, n7⟩ := HR3.out.at
  clear hw3 hB3 C4
  go_wp2_with fail
  go_end0
  refine ⟨rfl, H2.out.then fun vb1 r1 => ?_⟩
  refine RBid.before HB3.out ?_
  exact (r1.below HB3.out).putid (i := 5) (v := .int .i64 (en : Int)) rfl rfl
end Go.Proofs.Ytjjmcaamgoffiaa
