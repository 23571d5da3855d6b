/-
  The reference's clock: Stop, Tick. Own work.
-/
import Derived.Test.YtgjdlclkibiffaaCkRef
namespace Go.Proofs.Ytgjdlclkibiffaa
open Go.RowKit

/-- What a call leaves. -/
def RKid (w w' : World) (p : Nat) (vb : Value) (c' : Ck) : Prop :=
  ∃ vb', RCk w' p vb' c' ∧ KeepBut (fun k => k = p) w w' ∧ (vb'.ownBlock = vb.ownBlock ∨ ∀ g, vb'.ownBlock = some g → w.heap.size ≤ g)
theorem RKid.of_below {w w' : World} {p : Nat} {vb : Value} {c : Ck} (h : RCk w p vb c) (hB : Below w.heap.size w w') : RKid w w' p vb c := ⟨vb, h.below hB, KeepBut.of_below _ hB, .inl rfl⟩
theorem RKid.before {w w1 w2 : World} {p : Nat} {vb : Value} {c : Ck} (hB : Below w.heap.size w w1) (h : RKid w1 w2 p vb c) : RKid w w2 p vb c := by
  obtain ⟨vb', h1, hk, hu⟩ := h
  exact ⟨vb', h1, (KeepBut.of_below (fun k => k = p) hB).trans hk (fun _ _ h => h), hu.imp id (fun h g e => Nat.le_trans hB.size (h g e))⟩
theorem RKid.after {w w1 w2 : World} {p : Nat} {vb : Value} {c : Ck} (h : RKid w w1 p vb c) (hB : Below w1.heap.size w1 w2) : RKid w w2 p vb c := by
  obtain ⟨vb', h1, hk, hu⟩ := h
  exact ⟨vb', h1.below hB, hk.trans (KeepBut.of_below (fun k => k = p) hB) (fun _ _ h => h), hu⟩
/-- Its timers are written anew. -/
theorem RCk.put {w wf : World} {p : Nat} {vb v : Value} {c c' : Ck} (h : RCk w p vb c) (hB : Below w.heap.size w wf) (ho : wf.ownsRow w.heap.size 77 5 v c'.l.length (flat tmE c'.l)) (hok : c'.Ok) (hn : c'.now = c.now) : RKid w (wf.setCell ⟨p, 1, none⟩ v) p vb c' := by
  have hpw := h.box.lt
  have hf : ∀ g, v.ownBlock = some g → w.heap.size ≤ g := fun g e => (ho.lt g e).1
  have hks : KeepBut (fun k => k = p) wf (wf.setCell ⟨p, 1, none⟩ v) := (KeepBut.refl (fun k => k = p) wf).setCell (p := ⟨p, 1, none⟩) (.inl rfl) _
  refine ⟨v, ⟨?_, (RSrc.of_own ho).keep hks (fun g e e2 => by have := hf g e; omega), hok, fun g e => ⟨?_, fun e2 => by have := hf g e; omega⟩⟩, (KeepBut.of_below (fun k => k = p) hB).trans hks (fun _ _ h => h), .inr hf⟩
  · have := (h.box.belowI hB).set (i := 1) (v := v)
    unfold rkc at this ⊢
    rw [hn]
    exact this
  · have := (ho.lt g e).2
    simpa using this
theorem tms_one (l : List TmP) : ∀ x ∈ l, ∀ u ∈ tmE x, u.oneCell' = true := fun x _ => tm_one x
attribute [local go_sem ↓] app_hideH
set_option maxRecDepth 100000 in
set_option maxHeartbeats 3200000 in
theorem rstop_any (p : Nat) (vb : Value) (c : Ck) (n : NmP) (w : World) (h : RCk w p vb c) :
    Calls Try.prog 17 #[.pointer (some ⟨p, 0, none⟩), .agg (nmA n)] w fun e w' => e = .returned (.bool (c.has n)) ∧ RKid w w' p vb (stopD c n) := by
  have hX0 := box_new w (nmA n) 34
  have hA0 := alloc_below9 w (.cells (nmA n) 34)
  obtain ⟨w1, hw1⟩ : ∃ w1, w1 = w.alloc (.cells (nmA n) 34) := ⟨_, rfl⟩
  rw [← hw1] at hX0 hA0
  have hW1 := hw1.symm
  have hR := h.below hA0
  have CP := hide (rplace_any p vb c n w1 hR)
  have x0 := hX0.cell 0 _ rfl
  have x1 := hX0.cell 1 _ rfl
  have x2 := hX0.cell 2 _ rfl
  have x3 := hX0.cell 3 _ rfl
  have HB := hide hA0
  have HR0 := hide h
  have HR := hide hR
  have hhas := place_has c n
  clear h hR hX0 hA0 hw1
  by_cases hp : placeF c.l n < 0
  · have hh : c.has n = false := by rw [hhas]; simp [hp]
    have d1 : decide (placeF c.l n < 0) = true := decide_eq_true hp
    rw [stop_none hh, hh]
    generalize placeF c.l n = pl at *
    clear hhas hh
    go_enter Try.func17, Try.ntmps17
    go_wp2_with fail
    refine CP.out.mono ?_
    rintro e W2 ⟨rfl, hB2⟩
    have HB2 := hide (HB.out.trans (hB2.mono HB.out.size))
    clear hB2 CP
    go_wp2_with fail
    go_ret
    exact ⟨rfl, RKid.of_below HR0.out HB2.out⟩
  · obtain ⟨k, hk1, hk, hkn⟩ := place_yes hp
    have hh : c.has n = true := by rw [hhas]; simp [hp]
    have HSE := hide (stop_erase HR.out.ok hk hkn)
    have HSO := hide (stopD_ok HR.out.ok n)
    have hfew := HR.out.ok.few
    rw [hh]
    rw [hk1] at CP
    have d1 : decide ((k : Int) < 0) = false := decide_eq_false (by omega)
    clear hhas hh hp hk1
    go_enter Try.func17, Try.ntmps17
    go_wp2_with fail
    refine CP.out.mono ?_
    rintro e W2 ⟨rfl, hB2⟩
    have HB2 := hide (HB.out.trans (hB2.mono HB.out.size))
    have hR2 := HR0.out.below HB2.out
    clear hB2 CP x0 x1 x2 x3 hW1 HR HB
    obtain ⟨ao, cap, hvb, hcap, hcm⟩ := hR2.src.shape
    subst hvb
    obtain ⟨L, hL⟩ : ∃ L, L = c.l.length := ⟨_, rfl⟩
    have hto := fun W => run_toR recTM W ao L cap k (by omega)
    have hfr := fun W => run_fromR recTM W ao L cap (k + 1) (by omega)
    obtain ⟨af, haf⟩ : ∃ af, af = if cap = k + 1 then ao else ao.map (·.add ((k + 1) * 5)) := ⟨_, rfl⟩
    rw [← haf] at hfr
    have hs1 := src_takeR hR2.src recTM.len (i := k) (by omega)
    have hs2 := src_dropR hR2.src recTM.len (i := k + 1) (by omega)
    rw [← haf, ← hL] at hs2
    obtain ⟨l2, hl2⟩ : ∃ l2, l2 = L - (k + 1) := ⟨_, rfl⟩
    rw [← hl2] at hfr hs2
    have hwrap : IntKind.i64.wrap ((k : Int) + 1) = ((k + 1 : Nat) : Int) := by rw [IntKind.wrap_i64]; omega
    have hfr2 : ∀ W, (Instr.sliceAt 26 (.slice ao L cap) (some (.int .i64 (IntKind.i64.wrap ((k : Int) + 1)))) none none).run Try.prog W = .ok (.slice af l2 (cap - (k + 1))) W := fun W => by rw [hwrap]; exact hfr W
    have hfr3 : ∀ W, (Instr.sliceAt 26 (.slice ao L cap) (some (.int .i64 ((k : Int) + 1))) none none).run Try.prog W = .ok (.slice af l2 (cap - (k + 1))) W := fun W => by
      have := hfr W
      rw [show ((k + 1 : Nat) : Int) = (k : Int) + 1 by omega] at this
      exact this
    have hBd : Below W2.heap.size W2 W2.drew := (Below.refl _ _).drew
    obtain ⟨v4, w4, hr4, ho4, hg4, _⟩ := run_recsH recTM W2.drew W2.heap.size (.slice none 0 0) (.slice ao k cap) [] (c.l.take k) (World.ownsRow_nil _ _ _ _) (hs1.below hBd) (tms_one _) (by simp; omega) (Nat.le_refl _)
    rw [List.nil_append] at ho4
    have hB4 : Below W2.heap.size W2 w4 := hBd.grown hg4 (Nat.le_refl _) (fun k hk => by cases hk)
    obtain ⟨v5, w5, hr5, ho5, hg5, _⟩ := run_recsH recTM w4 W2.heap.size v4 (.slice af l2 (cap - (k + 1))) (c.l.take k) (c.l.drop (k + 1)) ho4 (hs2.below hB4) (tms_one _) (by simp; omega) hB4.size
    rw [← List.eraseIdx_eq_take_drop_succ, ← HSE.out] at ho5
    have hB5 : Below W2.heap.size W2 w5 := hB4.grown hg5 hB4.size (fun j hj => (ho4.lt j hj).1)
    have HFIN := hide (RKid.before HB2.out (hR2.put hB5 ho5 HSO.out rfl))
    have m1 := hR2.at.2
    have q4 := (hR2.below hB4).at.2
    have q5 := (hR2.below hB5).at.2
    have z5 := (hR2.below hB5).box.frozen 1
    obtain ⟨a4, c4, hv4, _⟩ := owns_shapeR ho4
    subst hv4
    obtain ⟨a5, c5, hv5, _⟩ := owns_shapeR ho5
    subst hv5
    rw [← hL] at m1 q4 q5
    have HLE := hide hL
    obtain ⟨tl, htl⟩ : ∃ tl, tl = (c.l.take k).length := ⟨_, rfl⟩
    obtain ⟨el, hel⟩ : ∃ el, el = (stopD c n).l.length := ⟨_, rfl⟩
    rw [← htl] at hr4 hr5
    rw [← hel] at hr5 HFIN
    have hkL : k < L := by omega
    clear ho4 hg4 hB4 ho5 hg5 hB5 hR2 hs1 hs2 hfr hBd htl hel hL hl2 haf hcm hk hkn hfew hcap hwrap
    go_wp2_with fail
    go_region
    all_goals go_wp2_with fail
    all_goals go_ret
    all_goals exact ⟨rfl, HFIN.out⟩
end Go.Proofs.Ytgjdlclkibiffaa
