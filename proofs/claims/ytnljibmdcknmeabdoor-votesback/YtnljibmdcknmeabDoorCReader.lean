/-
  The program's reader (package code): Fault, Left, End, New; the readings of each kind. Own work.
-/
import Derived.Test.YtnljibmdcknmeabDoorRSpec
import Derived.Test.YtnljibmdcknmeabDoorCWriter
import Derived.Deep.QuietTactic
import Derived.BigQuiet
namespace Go.Proofs.YtnljibmdcknmeabDoor
open Go.RowKit

/-- The program's reader: a variable of its own; its bytes a row of their own that nobody writes. -/
structure CR (w : World) (p : Nat) (vb : Value) (all : List Int) (r : RS) : Prop where
  box : Box w p #[vb, .int .i64 (r.went : Nat), .int .i64 r.why, .int .i64 (r.fat : Nat)] 64
  own : w.ownsRow 0 5 1 vb all.length (all.map (Value.int .u8))
  byte : ∀ c ∈ all, 0 ≤ c ∧ c < 256
  le : r.went ≤ all.length
  bs : r.bs = all.drop r.went
  room : all.length ≤ 200000000000000
theorem CR.apart {w : World} {p : Nat} {vb : Value} {all : List Int} {r : RS} (h : CR w p vb all r) : vb.ownBlock ≠ some p := by
  intro e
  obtain ⟨_, ⟨rfl, _⟩ | ⟨g, cap, cur, rfl, _, hh, _⟩⟩ := h.own
  · cases e
  · cases e
    have := h.box
    unfold Box at this
    rw [hh] at this
    cases this
theorem CR.keep {S : Nat → Prop} {w w' : World} {p : Nat} {vb : Value} {all : List Int} {r : RS} (h : CR w p vb all r) (hk : KeepBut S w w') (hp : ¬ S p) (hg : ∀ g, vb.ownBlock = some g → ¬ S g) : CR w' p vb all r :=
  ⟨h.box.keep hk hp, owns_keep h.own hk hg, h.byte, h.le, h.bs, h.room⟩
theorem CR.below {w w' : World} {p : Nat} {vb : Value} {all : List Int} {r : RS} (h : CR w p vb all r) (hB : Below w.heap.size w w') : CR w' p vb all r :=
  h.keep (KeepBut.of_below (fun _ => False) hB) (fun h => h) (fun _ _ h => h)
/-- A reader's own cells are set anew. -/
theorem CR.set {w w' : World} {p : Nat} {vb : Value} {all : List Int} {r r' : RS} (h : CR w p vb all r) (hk : KeepBut (fun k => k = p) w w') (hb : Box w' p #[vb, .int .i64 (r'.went : Nat), .int .i64 r'.why, .int .i64 (r'.fat : Nat)] 64)
    (hle : r'.went ≤ all.length) (hbs : r'.bs = all.drop r'.went) : CR w' p vb all r' :=
  ⟨hb, owns_keep h.own hk (fun _ hg e => h.apart (e ▸ hg)), h.byte, hle, hbs, h.room⟩
theorem CR.len {w : World} {p : Nat} {vb : Value} {all : List Int} {r : RS} (h : CR w p vb all r) : r.bs.length = all.length - r.went := by rw [h.bs]; simp

set_option maxHeartbeats 800000 in
theorem fault_any (p : Nat) (vb : Value) (all : List Int) (r : RS) (w : World) (h : CR w p vb all r) :
    Calls Tryd.prog 34 #[.pointer (some ⟨p, 0, none⟩)] w fun e w' => e = .returned (.agg #[.int .i64 r.why, .int .i64 (r.fat : Nat)]) ∧ Below w.heap.size w w' := by
  have m2 := h.box.cell 2 _ rfl
  have m3 := h.box.cell 3 _ rfl
  have hlt := h.box.lt
  clear h
  go_enter Tryd.func34, Tryd.ntmps34
  go_wp2_with fail
  exact bodyPost_ret (v := .agg #[.int .i64 r.why, .int .i64 (r.fat : Nat)]) (by simp [results, Tryd.results34, go_sem]) rfl ⟨rfl, (Below.refl _ _).alloc (Nat.le_refl _) _⟩
theorem fault_nil (w : World) :
    Calls Tryd.prog 34 #[.pointer none] w fun e w' => e = .returned (.agg #[.int .i64 4, .int .i64 0]) ∧ Below w.heap.size w w' := by
  go_enter Tryd.func34, Tryd.ntmps34
  go_wp2_with fail
  exact bodyPost_ret (v := .agg #[.int .i64 4, .int .i64 0]) (by simp [results, Tryd.results34, go_sem]) rfl ⟨rfl, (Below.refl _ _).alloc (Nat.le_refl _) _⟩
theorem fld_why (a b : Int) (w : World) : (Instr.field 52 (.agg #[.int .i64 a, .int .i64 b]) 0).run Tryd.prog w = .ok (.int .i64 a) w := by kernel_rfl
theorem fld_at (a b : Int) (w : World) : (Instr.field 52 (.agg #[.int .i64 a, .int .i64 b]) 1).run Tryd.prog w = .ok (.int .i64 b) w := by kernel_rfl
set_option maxRecDepth 100000 in
set_option maxHeartbeats 800000 in
theorem left_any (p : Nat) (vb : Value) (all : List Int) (r : RS) (w : World) (h : CR w p vb all r) :
    Calls Tryd.prog 35 #[.pointer (some ⟨p, 0, none⟩)] w fun e w' => e = .returned (.int .i64 (leftS r : Nat)) ∧ Below w.heap.size w w' := by
  have C := hide (fault_any p vb all r w h)
  have HH := hide h
  have hle := h.le
  have hroom := h.room
  have hlen := hide h.len
  obtain ⟨ao, cap, rfl⟩ := (Lies.of_own h.own).shape
  have hfl := fld_why
  clear h
  by_cases hw : r.why = 0
  · have HE : Hid (leftS r = all.length - r.went) := hide (by unfold leftS; rw [if_neg (by simp [hw]), hlen.out])
    rw [HE.out]
    rw [hw] at C
    go_enter Tryd.func35, Tryd.ntmps35
    go_wp2_with fail
    refine C.out.mono ?_
    rintro e w1 ⟨rfl, hB⟩
    have HB := hide hB
    have h1 := HH.out.below hB
    have m0 := h1.box.cell 0 _ rfl
    have m1 := h1.box.cell 1 _ rfl
    clear h1 hB C
    go_wp2_with fail
    go_quiet (fail)
    go_wp2_with fail
    go_ret
    exact ⟨ret_int (by omega), below_drewN HB.out _⟩
  · have HE : Hid (leftS r = 0) := hide (by unfold leftS; rw [if_pos hw])
    rw [HE.out]
    have hn : (r.why != 0) = true := by simpa using hw
    clear HH
    go_enter Tryd.func35, Tryd.ntmps35
    go_wp2_with fail
    refine C.out.mono ?_
    rintro e w1 ⟨rfl, hB⟩
    have HB := hide hB
    clear hB C
    go_wp2_with fail
    go_ret
    exact ⟨rfl, HB.out⟩
set_option maxHeartbeats 800000 in
theorem left_nil (w : World) : Calls Tryd.prog 35 #[.pointer none] w fun e w' => e = .returned (.int .i64 0) ∧ Below w.heap.size w w' := by
  have hfl := fld_why
  have C := hide (fault_nil w)
  go_enter Tryd.func35, Tryd.ntmps35
  go_wp2_with fail
  refine C.out.mono ?_
  rintro e w1 ⟨rfl, hB⟩
  have HB := hide hB
  clear hB C
  go_wp2_with fail
  go_ret
  exact ⟨rfl, HB.out⟩
theorem infoFault : (Tryd.prog.info? 52).map (fun i => (i.zero, i.size)) = some (some (.agg #[.int .i64 0, .int .i64 0]), 2) := by kernel_rfl
/-- A fault is laid. -/
theorem CR.failed {w : World} {p : Nat} {vb : Value} {all : List Int} {r : RS} (h : CR w p vb all r) (e : Int) :
    CR ((w.setCell ⟨p, 2, none⟩ (.int .i64 e)).setCell ⟨p, 3, none⟩ (.int .i64 (r.went : Nat))) p vb all (r.fail e) ∧ KeepBut (fun k => k = p) w ((w.setCell ⟨p, 2, none⟩ (.int .i64 e)).setCell ⟨p, 3, none⟩ (.int .i64 (r.went : Nat))) := by
  have hk := ((KeepBut.refl (fun k => k = p) w).setCell (p := ⟨p, 2, none⟩) (.inl rfl) (.int .i64 e)).setCell (p := ⟨p, 3, none⟩) (.inl rfl) (.int .i64 (r.went : Nat))
  refine ⟨h.set hk ?_ h.le h.bs, hk⟩
  have := (h.box.set (i := 2) (v := .int .i64 e)).set (i := 3) (v := .int .i64 (r.went : Nat))
  simpa [RS.fail] using this
/-- Bytes went. -/
theorem CR.gone {w : World} {p : Nat} {vb : Value} {all : List Int} {r : RS} (h : CR w p vb all r) (k : Nat) (hk : k ≤ r.bs.length) :
    CR (w.setCell ⟨p, 1, none⟩ (.int .i64 ((r.went + k : Nat) : Int))) p vb all (r.go k) ∧ KeepBut (fun k => k = p) w (w.setCell ⟨p, 1, none⟩ (.int .i64 ((r.went + k : Nat) : Int))) := by
  have hkk := (KeepBut.refl (fun k => k = p) w).setCell (p := ⟨p, 1, none⟩) (.inl rfl) (.int .i64 ((r.went + k : Nat) : Int))
  have hlen := h.len
  refine ⟨h.set hkk ?_ (by have := h.le; simp only [RS.go]; omega) (by simp only [RS.go]; rw [h.bs, List.drop_drop]), hkk⟩
  have := h.box.set (i := 1) (v := .int .i64 ((r.went + k : Nat) : Int))
  simpa [RS.go] using this
set_option maxRecDepth 100000 in
set_option maxHeartbeats 800000 in
theorem end_any (p : Nat) (vb : Value) (all : List Int) (r : RS) (w : World) (h : CR w p vb all r) :
    Calls Tryd.prog 20 #[.pointer (some ⟨p, 0, none⟩)] w fun e w' => e = .returned (.agg #[.int .i64 (endS r).why, .int .i64 ((endS r).fat : Nat)]) ∧ CR w' p vb all (endS r) ∧ KeepBut (fun k => k = p) w w' := by
  have hB0 := (Below.refl w.heap.size w).alloc (Nat.le_refl _) (.cells #[.int .i64 0, .int .i64 0] 52)
  have HH := hide (h.below hB0)
  have HB0 := hide hB0
  have C := hide (left_any p vb all r _ (h.below hB0))
  have hlt := h.box.lt
  have hlen := hide h.len
  have hle := hide h.le
  have hbs := hide h.bs
  have hroom := h.room
  have hleft : leftS r ≤ 200000000000000 := by
    unfold leftS
    split
    · omega
    · rw [hlen.out]; omega
  have HG : Hid (vb.ownBlock ≠ some w.heap.size) := hide (fun e => Nat.lt_irrefl _ (owns_lt h.own e))
  clear h hB0
  generalize hl : leftS r = L at *
  have HLF := hide hl
  clear hl
  have HBX := hide (box_new w #[.int .i64 0, .int .i64 0] 52)
  have hpn : Hid (¬ w.heap.size = p) := hide (by omega)
  have HI := hide ((zero_of_info infoFault).2)
  by_cases hz : 0 < L
  · have hI : (0 : Int) < (L : Int) := by omega
    have HE : Hid (endS r = r.fail 3) := hide (by
      have h1 := HLF.out
      unfold leftS at h1
      unfold endS
      by_cases hw : r.why ≠ 0
      · rw [if_pos hw] at h1; omega
      · rw [if_neg hw] at h1 ⊢
        rw [if_neg (by intro e; rw [e] at h1; simp at h1; omega)])
    rw [HE.out]
    go_enter Tryd.func20, Tryd.ntmps20
    go_wp2_with fail
    refine C.out.mono ?_
    rintro e w1 ⟨rfl, hB⟩
    have HB := hide hB
    have h1 := HH.out.below hB
    have hx1 := hide (HBX.out.keep (KeepBut.of_below (fun _ => False) hB) (fun h => h))
    have m1 := h1.box.cell 1 _ rfl
    have f2 := h1.box.frozen 2
    have f3 := h1.box.frozen 3
    have m2 := h1.box.cell 2 _ rfl
    have m3 := h1.box.cell 3 _ rfl
    have H1 := hide (h1.failed 3)
    clear h1 hB C HH
    go_wp2_with fail
    refine (fault_any p vb all (r.fail 3) _ H1.out.1).mono ?_
    rintro e w2 ⟨rfl, hB2⟩
    have H2 := hide (H1.out.1.below hB2)
    have hx2 := hide ((hx1.out.keep H1.out.2 hpn.out).keep (KeepBut.of_below (fun _ => False) hB2) (fun h => h))
    have HK2 : Hid (KeepBut (fun k => k = p) w w2) := hide ((((KeepBut.of_below (fun k => k = p) HB0.out).trans (KeepBut.of_below (fun k => k = p) HB.out) (fun _ _ h => h)).trans H1.out.2 (fun _ _ h => h)).trans (KeepBut.of_below (fun k => k = p) hB2) (fun _ _ h => h))
    clear hB2 m1 m2 m3 f2 f3 H1
    go_wp2_with (refine wp_store_box rfl rfl _ _ rfl w.heap.size rfl rfl hx2.out rfl HI.out (by simp [Value.oneCell']) ?_; intro w3 hb3 hk3; have HB3 := hide hb3; have HK3 := hide hk3; clear hb3 hk3)
    refine bodyPost_ret (v := .agg #[.int .i64 (r.fail 3).why, .int .i64 ((r.fail 3).fat : Nat)]) (results_box rfl _ _ w.heap.size rfl HB3.out Tryd.underlying52 rfl HI.out) rfl ⟨rfl, H2.out.keep HK3.out (fun e => hpn.out e.symm) (fun g hg e => ?_), HK2.out.trans HK3.out (fun k hk e => absurd hk (by omega))⟩
    subst e
    exact absurd hg HG.out
  · have hI : (L : Int) ≤ 0 := by omega
    have HE : Hid (endS r = r) := hide (by
      have h1 := HLF.out
      unfold leftS at h1
      unfold endS
      by_cases hw : r.why ≠ 0
      · rw [if_pos hw]
      · rw [if_neg hw] at h1 ⊢
        rw [if_pos (List.eq_nil_of_length_eq_zero (by omega))])
    rw [HE.out]
    go_enter Tryd.func20, Tryd.ntmps20
    go_wp2_with fail
    refine C.out.mono ?_
    rintro e w1 ⟨rfl, hB⟩
    have HB := hide hB
    have H1 := hide (HH.out.below hB)
    have hx1 := hide (HBX.out.keep (KeepBut.of_below (fun _ => False) hB) (fun h => h))
    clear hB C HH
    go_wp2_with fail
    refine (fault_any p vb all r _ H1.out).mono ?_
    rintro e w2 ⟨rfl, hB2⟩
    have H2 := hide (H1.out.below hB2)
    have hx2 := hide (hx1.out.keep (KeepBut.of_below (fun _ => False) hB2) (fun h => h))
    have HK2 : Hid (KeepBut (fun k => k = p) w w2) := hide (((KeepBut.of_below (fun k => k = p) HB0.out).trans (KeepBut.of_below (fun k => k = p) HB.out) (fun _ _ h => h)).trans (KeepBut.of_below (fun k => k = p) hB2) (fun _ _ h => h))
    clear hB2 H1
    go_wp2_with (refine wp_store_box rfl rfl _ _ rfl w.heap.size rfl rfl hx2.out rfl HI.out (by simp [Value.oneCell']) ?_; intro w3 hb3 hk3; have HB3 := hide hb3; have HK3 := hide hk3; clear hb3 hk3)
    refine bodyPost_ret (v := .agg #[.int .i64 r.why, .int .i64 (r.fat : Nat)]) (results_box rfl _ _ w.heap.size rfl HB3.out Tryd.underlying52 rfl HI.out) rfl ⟨rfl, H2.out.keep HK3.out (fun e => hpn.out e.symm) (fun g hg e => ?_), HK2.out.trans HK3.out (fun k hk e => absurd hk (by omega))⟩
    subst e
    exact absurd hg HG.out
set_option maxHeartbeats 800000 in
theorem end_nil (w : World) : Calls Tryd.prog 20 #[.pointer none] w fun e w' => e = .returned (.agg #[.int .i64 4, .int .i64 0]) ∧ Below w.heap.size w w' := by
  have hB0 := (Below.refl w.heap.size w).alloc (Nat.le_refl _) (.cells #[.int .i64 0, .int .i64 0] 52)
  have HB0 := hide hB0
  have C := hide (left_nil (w.alloc (.cells #[.int .i64 0, .int .i64 0] 52)))
  have HBX := hide (box_new w #[.int .i64 0, .int .i64 0] 52)
  have HI := hide ((zero_of_info infoFault).2)
  clear hB0
  go_enter Tryd.func20, Tryd.ntmps20
  go_wp2_with fail
  refine C.out.mono ?_
  rintro e w1 ⟨rfl, hB⟩
  have HB := hide (HB0.out.trans (hB.mono HB0.out.size))
  have hx1 := hide (HBX.out.keep (KeepBut.of_below (fun _ => False) hB) (fun h => h))
  clear hB C HB0
  go_wp2_with fail
  refine (fault_nil w1).mono ?_
  rintro e w2 ⟨rfl, hB2⟩
  have hx2 := hide (hx1.out.keep (KeepBut.of_below (fun _ => False) hB2) (fun h => h))
  have HB2 := hide (HB.out.trans (hB2.mono HB.out.size))
  clear hB2 HB hx1
  go_wp2_with (refine wp_store_box rfl rfl _ _ rfl w.heap.size rfl rfl hx2.out rfl HI.out (by simp [Value.oneCell']) ?_; intro w3 hb3 hk3; have HB3 := hide hb3; have HK3 := hide hk3; clear hb3 hk3)
  exact bodyPost_ret (v := .agg #[.int .i64 4, .int .i64 0]) (results_box rfl _ _ w.heap.size rfl HB3.out Tryd.underlying52 rfl HI.out) rfl ⟨rfl, HB2.out.trans (HK3.out.below HB2.out.size (fun k hk => by omega))⟩
/-- A new reader. -/
theorem new_any (v : Value) (xs : List Int) (w : World) (h : Lies .u8 w v xs) (hx : ∀ c ∈ xs, 0 ≤ c ∧ c < 256) (hr : xs.length ≤ 200000000000000) :
    Calls Tryd.prog 17 #[v] w fun e w' => ∃ p vb, e = .returned (.pointer (some ⟨p, 0, none⟩)) ∧ CR w' p vb xs ⟨xs, 0, 0, 0⟩ ∧ w.heap.size ≤ p ∧ (∀ g, vb.ownBlock = some g → w.heap.size ≤ g) ∧ Below w.heap.size w w' := by
  have C := hide (clone_any v xs w h hr)
  clear h
  go_enter Tryd.func17, Tryd.ntmps17
  go_wp2_with fail
  refine C.out.mono ?_
  rintro e w1 ⟨vb, rfl, ho, hB⟩
  obtain ⟨ao, cap, rfl⟩ := (Lies.of_own ho).shape
  have HO := hide ho
  have HB := hide hB
  clear ho hB C
  go_wp2_with fail
  go_ret
  refine ⟨_, _, rfl, ⟨box_new w1 _ _, (owns_any HO.out).alloc _, hx, Nat.zero_le _, by simp, hr⟩, HB.out.size, fun g hg => (HO.out.lt g hg).1, HB.out.alloc HB.out.size _⟩
end Go.Proofs.YtnljibmdcknmeabDoor
