/-
  Own texts put together: CFieldKey. Own work.
-/
import Derived.Test.YtlegliimgjmphaaGreatG18
namespace Go.Proofs.YtlegliimgjmphaaGreat
section
open Go.RowKit
theorem eight (l : List Int) (h : l.length = 8) : ∃ c0 c1 c2 c3 c4 c5 c6 c7, l = [c0, c1, c2, c3, c4, c5, c6, c7] := by
 match l, h with
 | [c0, c1, c2, c3, c4, c5, c6, c7], _ => exact ⟨c0, c1, c2, c3, c4, c5, c6, c7, rfl⟩
theorem keyR_length (bs : List Int) : (keyR bs).1.length = 8 := by
 unfold keyR
 split
 ·simp
 ·simp; omega
theorem set8 {w : World} {g : Nat} {t : TypeId} (hb : Box w g #[.int .u8 0, .int .u8 0, .int .u8 0, .int .u8 0, .int .u8 0, .int .u8 0, .int .u8 0, .int .u8 0] t) (c0 c1 c2 c3 c4 c5 c6 c7 : Int) :
  Box ((((((((w.setCell ⟨g, 0, none⟩ (.int .u8 c0)).setCell ⟨g, 1, none⟩ (.int .u8 c1)).setCell ⟨g, 2, none⟩ (.int .u8 c2)).setCell ⟨g, 3, none⟩ (.int .u8 c3)).setCell ⟨g, 4, none⟩ (.int .u8 c4)).setCell ⟨g, 5, none⟩ (.int .u8 c5)).setCell ⟨g, 6, none⟩ (.int .u8 c6)).setCell ⟨g, 7, none⟩ (.int .u8 c7)) g #[.int .u8 c0, .int .u8 c1, .int .u8 c2, .int .u8 c3, .int .u8 c4, .int .u8 c5, .int .u8 c6, .int .u8 c7] t ∧
  KeepBut (fun k => k = g) w ((((((((w.setCell ⟨g, 0, none⟩ (.int .u8 c0)).setCell ⟨g, 1, none⟩ (.int .u8 c1)).setCell ⟨g, 2, none⟩ (.int .u8 c2)).setCell ⟨g, 3, none⟩ (.int .u8 c3)).setCell ⟨g, 4, none⟩ (.int .u8 c4)).setCell ⟨g, 5, none⟩ (.int .u8 c5)).setCell ⟨g, 6, none⟩ (.int .u8 c6)).setCell ⟨g, 7, none⟩ (.int .u8 c7)) := by
 refine ⟨?_, ?_⟩
 ·have := (((((((hb.set (i := 0) (v := .int .u8 c0)).set (i := 1) (v := .int .u8 c1)).set (i := 2) (v := .int .u8 c2)).set (i := 3) (v := .int .u8 c3)).set (i := 4) (v := .int .u8 c4)).set (i := 5) (v := .int .u8 c5)).set (i := 6) (v := .int .u8 c6)).set (i := 7) (v := .int .u8 c7)
  simpa using this
 ·exact ((((((((KeepBut.refl (fun k => k = g) w).setCell (p := ⟨g, 0, none⟩) (.inl rfl) _).setCell (p := ⟨g, 1, none⟩) (.inl rfl) _).setCell (p := ⟨g, 2, none⟩) (.inl rfl) _).setCell (p := ⟨g, 3, none⟩) (.inl rfl) _).setCell (p := ⟨g, 4, none⟩) (.inl rfl) _).setCell (p := ⟨g, 5, none⟩) (.inl rfl) _).setCell (p := ⟨g, 6, none⟩) (.inl rfl) _).setCell (p := ⟨g, 7, none⟩) (.inl rfl) _
structure KeyMid (w W : World) (p g : Nat) (vb : Value) (all : List Int) (r : RS) (c0 c1 c2 c3 c4 c5 c6 c7 : Int) : Prop where
 cr : CR W p vb all r
 bg : Box W g #[.int .u8 c0, .int .u8 c1, .int .u8 c2, .int .u8 c3, .int .u8 c4, .int .u8 c5, .int .u8 c6, .int .u8 c7] 81
 bt : Box W w.heap.size #[.int .u8 0, .int .u8 0, .int .u8 0, .int .u8 0, .int .u8 0, .int .u8 0, .int .u8 0, .int .u8 0] 81
 bn : Box W (w.heap.size + 1) #[.int .u8 0, .int .u8 0, .int .u8 0, .int .u8 0, .int .u8 0, .int .u8 0, .int .u8 0, .int .u8 0] 81
 keep : KeepBut (fun _ => False) w W
 ge : w.heap.size + 1 < g
theorem boxes_two (w : World) (cs ds : Array Value) (t u : TypeId) : Box ((w.alloc (.cells cs t)).alloc (.cells ds u)) w.heap.size cs t ∧ Box ((w.alloc (.cells cs t)).alloc (.cells ds u)) (w.heap.size + 1) ds u := by
 refine ⟨(box_new w cs t).keep ((KeepBut.refl (fun _ => False) _).alloc _) (fun h => h), ?_⟩
 have := box_new (w.alloc (.cells cs t)) ds u
 simpa using this
theorem KeyMid.mkA {w w1 w2 : World} {p : Nat} {vb : Value} {all : List Int} {r : RS} (c0 c1 c2 c3 c4 c5 c6 c7 : Int) (hB1 : Below ((w.alloc (.cells #[.int .u8 0, .int .u8 0, .int .u8 0, .int .u8 0, .int .u8 0, .int .u8 0, .int .u8 0, .int .u8 0] 81)).alloc (.cells #[.int .u8 0, .int .u8 0, .int .u8 0, .int .u8 0, .int .u8 0, .int .u8 0, .int .u8 0, .int .u8 0] 81)).heap.size ((w.alloc (.cells #[.int .u8 0, .int .u8 0, .int .u8 0, .int .u8 0, .int .u8 0, .int .u8 0, .int .u8 0, .int .u8 0] 81)).alloc (.cells #[.int .u8 0, .int .u8 0, .int .u8 0, .int .u8 0, .int .u8 0, .int .u8 0, .int .u8 0, .int .u8 0] 81)) w1)
  (hB2 : Below w1.drew.heap.size w1.drew w2) (h2 : CR w2 p vb all r) : KeyMid w (w2.alloc (.cells #[.int .u8 c0, .int .u8 c1, .int .u8 c2, .int .u8 c3, .int .u8 c4, .int .u8 c5, .int .u8 c6, .int .u8 c7] 81)) p w2.heap.size vb all r c0 c1 c2 c3 c4 c5 c6 c7 := by
 have hb := boxes_two w #[.int .u8 0, .int .u8 0, .int .u8 0, .int .u8 0, .int .u8 0, .int .u8 0, .int .u8 0, .int .u8 0] #[.int .u8 0, .int .u8 0, .int .u8 0, .int .u8 0, .int .u8 0, .int .u8 0, .int .u8 0, .int .u8 0] 81 81
 have k0 : KeepBut (fun _ => False) w ((w.alloc (.cells #[.int .u8 0, .int .u8 0, .int .u8 0, .int .u8 0, .int .u8 0, .int .u8 0, .int .u8 0, .int .u8 0] 81)).alloc (.cells #[.int .u8 0, .int .u8 0, .int .u8 0, .int .u8 0, .int .u8 0, .int .u8 0, .int .u8 0, .int .u8 0] 81)) := ((KeepBut.refl (fun _ => False) w).alloc _).alloc _
 have k1 : KeepBut (fun _ => False) ((w.alloc (.cells #[.int .u8 0, .int .u8 0, .int .u8 0, .int .u8 0, .int .u8 0, .int .u8 0, .int .u8 0, .int .u8 0] 81)).alloc (.cells #[.int .u8 0, .int .u8 0, .int .u8 0, .int .u8 0, .int .u8 0, .int .u8 0, .int .u8 0, .int .u8 0] 81)) (w2.alloc (.cells #[.int .u8 c0, .int .u8 c1, .int .u8 c2, .int .u8 c3, .int .u8 c4, .int .u8 c5, .int .u8 c6, .int .u8 c7] 81)) :=
  ((((KeepBut.of_below (fun _ => False) hB1).drew).trans (KeepBut.of_below (fun _ => False) hB2) (fun _ _ h => h)).alloc _)
 refine ⟨h2.below ((Below.refl _ _).alloc (Nat.le_refl _) _), box_new _ _ _, hb.1.keep k1 (fun h => h), hb.2.keep k1 (fun h => h), k0.trans k1 (fun _ _ h => h), ?_⟩
 have s1 := hB1.size
 have s2 := hB2.size
 have s3 : w1.drew.heap.size = w1.heap.size := rfl
 simp at s1
 omega
theorem KeyMid.mkB {w w1 w2 : World} {p : Nat} {vb : Value} {all : List Int} {r : RS} (c0 c1 c2 c3 c4 c5 c6 c7 : Int) (hB1 : Below ((w.alloc (.cells #[.int .u8 0, .int .u8 0, .int .u8 0, .int .u8 0, .int .u8 0, .int .u8 0, .int .u8 0, .int .u8 0] 81)).alloc (.cells #[.int .u8 0, .int .u8 0, .int .u8 0, .int .u8 0, .int .u8 0, .int .u8 0, .int .u8 0, .int .u8 0] 81)).heap.size ((w.alloc (.cells #[.int .u8 0, .int .u8 0, .int .u8 0, .int .u8 0, .int .u8 0, .int .u8 0, .int .u8 0, .int .u8 0] 81)).alloc (.cells #[.int .u8 0, .int .u8 0, .int .u8 0, .int .u8 0, .int .u8 0, .int .u8 0, .int .u8 0, .int .u8 0] 81)) w1) (h1 : CR w1 p vb all r)
  (hB2 : Below (w1.drew.alloc (.cells #[.int .u8 0, .int .u8 0, .int .u8 0, .int .u8 0, .int .u8 0, .int .u8 0, .int .u8 0, .int .u8 0] 81)).heap.size (w1.drew.alloc (.cells #[.int .u8 0, .int .u8 0, .int .u8 0, .int .u8 0, .int .u8 0, .int .u8 0, .int .u8 0, .int .u8 0] 81)) w2) (h2 : CR w2 p vb all r) : KeyMid w ((((((((w2.setCell ⟨w1.heap.size, 0, none⟩ (.int .u8 c0)).setCell ⟨w1.heap.size, 1, none⟩ (.int .u8 c1)).setCell ⟨w1.heap.size, 2, none⟩ (.int .u8 c2)).setCell ⟨w1.heap.size, 3, none⟩ (.int .u8 c3)).setCell ⟨w1.heap.size, 4, none⟩ (.int .u8 c4)).setCell ⟨w1.heap.size, 5, none⟩ (.int .u8 c5)).setCell ⟨w1.heap.size, 6, none⟩ (.int .u8 c6)).setCell ⟨w1.heap.size, 7, none⟩ (.int .u8 c7)) p w1.heap.size vb all r c0 c1 c2 c3 c4 c5 c6 c7 := by
 have hb := boxes_two w #[.int .u8 0, .int .u8 0, .int .u8 0, .int .u8 0, .int .u8 0, .int .u8 0, .int .u8 0, .int .u8 0] #[.int .u8 0, .int .u8 0, .int .u8 0, .int .u8 0, .int .u8 0, .int .u8 0, .int .u8 0, .int .u8 0] 81 81
 have hz : Box (w1.drew.alloc (.cells #[.int .u8 0, .int .u8 0, .int .u8 0, .int .u8 0, .int .u8 0, .int .u8 0, .int .u8 0, .int .u8 0] 81)) w1.heap.size #[.int .u8 0, .int .u8 0, .int .u8 0, .int .u8 0, .int .u8 0, .int .u8 0, .int .u8 0, .int .u8 0] 81 := box_new w1.drew #[.int .u8 0, .int .u8 0, .int .u8 0, .int .u8 0, .int .u8 0, .int .u8 0, .int .u8 0, .int .u8 0] 81
 have h8 := set8 (hz.keep (KeepBut.of_below (fun _ => False) hB2) (fun h => h)) c0 c1 c2 c3 c4 c5 c6 c7
 have k0 : KeepBut (fun _ => False) w ((w.alloc (.cells #[.int .u8 0, .int .u8 0, .int .u8 0, .int .u8 0, .int .u8 0, .int .u8 0, .int .u8 0, .int .u8 0] 81)).alloc (.cells #[.int .u8 0, .int .u8 0, .int .u8 0, .int .u8 0, .int .u8 0, .int .u8 0, .int .u8 0, .int .u8 0] 81)) := ((KeepBut.refl (fun _ => False) w).alloc _).alloc _
 have k1 : KeepBut (fun _ => False) ((w.alloc (.cells #[.int .u8 0, .int .u8 0, .int .u8 0, .int .u8 0, .int .u8 0, .int .u8 0, .int .u8 0, .int .u8 0] 81)).alloc (.cells #[.int .u8 0, .int .u8 0, .int .u8 0, .int .u8 0, .int .u8 0, .int .u8 0, .int .u8 0, .int .u8 0] 81)) w2 :=
  ((((KeepBut.of_below (fun _ => False) hB1).drew).alloc (.cells #[.int .u8 0, .int .u8 0, .int .u8 0, .int .u8 0, .int .u8 0, .int .u8 0, .int .u8 0, .int .u8 0] 81)).trans (KeepBut.of_below (fun _ => False) hB2) (fun _ _ h => h))
 have hs1 := hB1.size
 simp at hs1
 refine ⟨h2.keep h8.2 (fun e => ?_) (fun g hg e => ?_), h8.1, (hb.1.keep k1 (fun h => h)).keep h8.2 (fun e => ?_), (hb.2.keep k1 (fun h => h)).keep h8.2 (fun e => ?_), (k0.trans k1 (fun _ _ h => h)).trans (S' := fun k => k = w1.heap.size) h8.2 (fun k hk e => ?_), ?_⟩
 ·have := h1.box.lt
  omega
 ·have := owns_lt h1.own hg
  omega
 ·omega
 ·omega
 ·omega
 ·omega
set_option maxRecDepth 100000 in
set_option maxHeartbeats 3200000 in
theorem field_key (p : Nat) (vb : Value) (all : List Int) (r : RS) (w : World) (h : CR w p vb all r) (hS : Sized keyR r.bs) :
  Calls Tryz.prog 205 #[.pointer (some ⟨p, 0, none⟩), .func (.func 206) #[.agg #[]] #[]] w fun e w' => e = .returned (.agg ((fieldS (List.replicate 8 0) keyR r).1.map (Value.int .u8)).toArray) ∧ CR w' p vb all (fieldS (List.replicate 8 0) keyR r).2 ∧ KeepBut (fun k => k = p) w w' := by
 have hfl := fld_why
 have hmf := make_fn
 have hB0 := (((Below.refl w.heap.size w).alloc (Nat.le_refl _) (.cells #[.int .u8 0, .int .u8 0, .int .u8 0, .int .u8 0, .int .u8 0, .int .u8 0, .int .u8 0, .int .u8 0] 81)).alloc (by simp) (.cells #[.int .u8 0, .int .u8 0, .int .u8 0, .int .u8 0, .int .u8 0, .int .u8 0, .int .u8 0, .int .u8 0] 81))
 have C := hide (fault_any p vb all r _ (h.below hB0))
 have HH := hide (h.below hB0)
 have HB0 := hide hB0
 have hplt := h.box.lt
 obtain ⟨ao, cap, av, cv, rfl, hsl, hLL⟩ := h.lies
 have HLL := hide hLL
 have hle := h.le
 have hroom := h.room
 have HN := hide h.len
 have HVN : Hid ((Value.slice ao all.length cap).ownBlock ≠ some w.heap.size) := hide (fun e => Nat.lt_irrefl _ (owns_lt h.own e))
 clear hLL h hB0
 have CB := hide (fun w' (h' : CR w' p (.slice ao all.length cap) all r) => kread_any _ r.bs w' (HLL.out w' h'))
 unfold fieldS
 by_cases hw : r.why = 0
 ·rw [if_neg (by simp [hw])]
  rw [hw] at C
  unfold Sized at hS
  obtain ⟨c0, c1, c2, c3, c4, c5, c6, c7, hV⟩ := eight _ (keyR_length r.bs)
  obtain ⟨K, hK⟩ : ∃ K, (keyR r.bs).2.1 = K := ⟨_, rfl⟩
  obtain ⟨E, hE⟩ : ∃ E, (keyR r.bs).2.2 = E := ⟨_, rfl⟩
  rw [hV, hK, hE] at CB
  rw [hK, hE] at hS
  rw [hV, hK, hE]
  simp only [List.map_cons, List.map_nil] at CB
  clear hV hK hE HLL
  by_cases hE0 : E = 0
  ·obtain ⟨k, rfl, hk⟩ := hS hE0
   subst hE0
   rw [if_neg (by simp), Int.toNat_natCast]
   have HKL := hide hk
   rw [HN.out] at hk
   clear hS
   go_enter Tryz.func205, Tryz.ntmps205
   go_wp2_with fail
   refine C.out.mono ?_
   rintro e w1 ⟨rfl, hB⟩
   have HB := hide hB
   have h1 := HH.out.below hB
   have m0 := h1.box.cell 0 _ rfl
   have m1 := h1.box.cell 1 _ rfl
   have H0 := hide h1
   have H1 := hide (h1.below (Below.refl _ _).drew)
   have H1a := hide (h1.below ((Below.refl w1.heap.size w1).drew.alloc (Nat.le_refl _) (.cells #[.int .u8 0, .int .u8 0, .int .u8 0, .int .u8 0, .int .u8 0, .int .u8 0, .int .u8 0, .int .u8 0] 81)))
   have hbz : Hid (Box (w1.drew.alloc (.cells #[.int .u8 0, .int .u8 0, .int .u8 0, .int .u8 0, .int .u8 0, .int .u8 0, .int .u8 0, .int .u8 0] 81)) w1.heap.size #[.int .u8 0, .int .u8 0, .int .u8 0, .int .u8 0, .int .u8 0, .int .u8 0, .int .u8 0, .int .u8 0] 81) := hide (box_new w1.drew #[.int .u8 0, .int .u8 0, .int .u8 0, .int .u8 0, .int .u8 0, .int .u8 0, .int .u8 0, .int .u8 0] 81)
   have hpw1 : p < w1.heap.size := h1.box.lt
   have hpa : ¬ p = w1.heap.size := by omega
   have hpb : ¬ w1.heap.size = p := by omega
   clear h1 hB C HH
   go_wp2_with fail
   go_region_held (fun w' => w'.cell? ⟨p, 0, none⟩ = some (.slice ao all.length cap) ∧ w'.cell? ⟨p, 1, none⟩ = some (.int .i64 (r.went : Nat))) (go_keep) ((go_at_call 206; first
    | (refine (CB.out _ (by exact H1.out)).mono ?_; rintro e w2 ⟨rfl, hB2⟩; have h2 := H1.out.below hB2; have n0 := h2.box.cell 0 _ rfl; have n1 := h2.box.cell 1 _ rfl; have HM := hide (KeyMid.mkA c0 c1 c2 c3 c4 c5 c6 c7 HB.out hB2 h2); have hpw2 := h2.box.lt; clear h2 hB2)
    | (refine (CB.out _ (by exact H1a.out)).mono ?_; rintro e w2 ⟨rfl, hB2⟩; have h2 := H1a.out.below hB2; have n0 := h2.box.cell 0 _ rfl; have n1 := h2.box.cell 1 _ rfl; have hpw2 := h2.box.lt; have hbz2 := hbz.out.keep (KeepBut.of_below (fun _ => False) hB2) (fun h => h); have HM := hide (KeyMid.mkB c0 c1 c2 c3 c4 c5 c6 c7 HB.out H0.out hB2 h2); have z0 := hbz2.cell 0 _ rfl; have z1 := hbz2.cell 1 _ rfl; have z2 := hbz2.cell 2 _ rfl; have z3 := hbz2.cell 3 _ rfl; have z4 := hbz2.cell 4 _ rfl; have z5 := hbz2.cell 5 _ rfl; have z6 := hbz2.cell 6 _ rfl; have z7 := hbz2.cell 7 _ rfl; have zf := fun i => hbz2.frozen i; clear hbz2 h2 hB2)))
   all_goals
    first
     | (clear n0 n1 hpw2 z0 z1 z2 z3 z4 z5 z6 z7 zf hpa hpb; generalize ((((((((w2.setCell ⟨w1.heap.size, 0, none⟩ (.int .u8 c0)).setCell ⟨w1.heap.size, 1, none⟩ (.int .u8 c1)).setCell ⟨w1.heap.size, 2, none⟩ (.int .u8 c2)).setCell ⟨w1.heap.size, 3, none⟩ (.int .u8 c3)).setCell ⟨w1.heap.size, 4, none⟩ (.int .u8 c4)).setCell ⟨w1.heap.size, 5, none⟩ (.int .u8 c5)).setCell ⟨w1.heap.size, 6, none⟩ (.int .u8 c6)).setCell ⟨w1.heap.size, 7, none⟩ (.int .u8 c7)) = W at *; generalize w1.heap.size = g at *)
     | (clear n0 n1 hpw2; generalize w2.alloc (.cells #[.int .u8 c0, .int .u8 c1, .int .u8 c2, .int .u8 c3, .int .u8 c4, .int .u8 c5, .int .u8 c6, .int .u8 c7] 81) = W at *; generalize w2.heap.size = g at *)
    clear m0 m1 H0 H1 H1a hbz HB
    have hm := HM.out.cr
    have q1 := hm.box.cell 1 _ rfl
    have f1 := hm.box.frozen 1
    have hG := hm.gone k HKL.out
    rw [Int.natCast_add] at hG
    have hgp : ¬ g = p := by
     have := HM.out.ge
     omega
    have HBG := hide (HM.out.bg.keep hG.2 hgp)
    have HBT := hide (HM.out.bt.keep hG.2 (by omega))
    have HG := hide hG
    have HKW := hide ((HM.out.keep.mono (S' := fun k => k = p) (fun _ h => h.elim)).trans hG.2 (fun _ _ h => h))
    have HI := hide ((zero_of_info infoKey).2)
    have HGN : Hid (∀ g, (Value.slice ao all.length cap).ownBlock = some g → ¬ g = w.heap.size) := hide (fun g hg e => by
     subst e
     exact HVN.out hg)
    clear hm hG HM
    go_wp2_with (first
     | (refine wp_load_box rfl _ rfl _ rfl HBG.out Tryz.underlying81 rfl HI.out ?_)
     | (refine wp_store_box rfl rfl _ _ rfl _ rfl rfl HBT.out rfl HI.out (by simp [Value.oneCell']) ?_; intro w3 hb3 hk3; have HB3 := hide hb3; have HK3 := hide hk3; clear hb3 hk3))
    refine bodyPost_ret (v := .agg #[.int .u8 c0, .int .u8 c1, .int .u8 c2, .int .u8 c3, .int .u8 c4, .int .u8 c5, .int .u8 c6, .int .u8 c7]) (results_box Tryz.results205 _ _ w.heap.size rfl HB3.out Tryz.underlying81 rfl HI.out) rfl ⟨rfl, HG.out.1.keep HK3.out (by omega) HGN.out, HKW.out.trans HK3.out (fun k hk e => absurd hk (by omega))⟩
  ·rw [if_pos hE0]
   have hEb : (E != 0) = true := by simpa using hE0
   clear hS hE0
   go_enter Tryz.func205, Tryz.ntmps205
   go_wp2_with fail
   refine C.out.mono ?_
   rintro e w1 ⟨rfl, hB⟩
   have HB := hide hB
   have h1 := HH.out.below hB
   have m0 := h1.box.cell 0 _ rfl
   have m1 := h1.box.cell 1 _ rfl
   have H0 := hide h1
   have H1 := hide (h1.below (Below.refl _ _).drew)
   have H1a := hide (h1.below ((Below.refl w1.heap.size w1).drew.alloc (Nat.le_refl _) (.cells #[.int .u8 0, .int .u8 0, .int .u8 0, .int .u8 0, .int .u8 0, .int .u8 0, .int .u8 0, .int .u8 0] 81)))
   have hbz : Hid (Box (w1.drew.alloc (.cells #[.int .u8 0, .int .u8 0, .int .u8 0, .int .u8 0, .int .u8 0, .int .u8 0, .int .u8 0, .int .u8 0] 81)) w1.heap.size #[.int .u8 0, .int .u8 0, .int .u8 0, .int .u8 0, .int .u8 0, .int .u8 0, .int .u8 0, .int .u8 0] 81) := hide (box_new w1.drew #[.int .u8 0, .int .u8 0, .int .u8 0, .int .u8 0, .int .u8 0, .int .u8 0, .int .u8 0, .int .u8 0] 81)
   have hpw1 : p < w1.heap.size := h1.box.lt
   have hpa : ¬ p = w1.heap.size := by omega
   have hpb : ¬ w1.heap.size = p := by omega
   clear h1 hB C HH
   go_wp2_with fail
   go_region_held (fun w' => w'.cell? ⟨p, 0, none⟩ = some (.slice ao all.length cap) ∧ w'.cell? ⟨p, 1, none⟩ = some (.int .i64 (r.went : Nat))) (go_keep) ((go_at_call 206; first
    | (refine (CB.out _ (by exact H1.out)).mono ?_; rintro e w2 ⟨rfl, hB2⟩; have h2 := H1.out.below hB2; have n0 := h2.box.cell 0 _ rfl; have n1 := h2.box.cell 1 _ rfl; have HM := hide (KeyMid.mkA c0 c1 c2 c3 c4 c5 c6 c7 HB.out hB2 h2); have hpw2 := h2.box.lt; clear h2 hB2)
    | (refine (CB.out _ (by exact H1a.out)).mono ?_; rintro e w2 ⟨rfl, hB2⟩; have h2 := H1a.out.below hB2; have n0 := h2.box.cell 0 _ rfl; have n1 := h2.box.cell 1 _ rfl; have hpw2 := h2.box.lt; have hbz2 := hbz.out.keep (KeepBut.of_below (fun _ => False) hB2) (fun h => h); have HM := hide (KeyMid.mkB c0 c1 c2 c3 c4 c5 c6 c7 HB.out H0.out hB2 h2); have z0 := hbz2.cell 0 _ rfl; have z1 := hbz2.cell 1 _ rfl; have z2 := hbz2.cell 2 _ rfl; have z3 := hbz2.cell 3 _ rfl; have z4 := hbz2.cell 4 _ rfl; have z5 := hbz2.cell 5 _ rfl; have z6 := hbz2.cell 6 _ rfl; have z7 := hbz2.cell 7 _ rfl; have zf := fun i => hbz2.frozen i; clear hbz2 h2 hB2)))
   all_goals
    first
     | (clear n0 n1 hpw2 z0 z1 z2 z3 z4 z5 z6 z7 zf hpa hpb; generalize ((((((((w2.setCell ⟨w1.heap.size, 0, none⟩ (.int .u8 c0)).setCell ⟨w1.heap.size, 1, none⟩ (.int .u8 c1)).setCell ⟨w1.heap.size, 2, none⟩ (.int .u8 c2)).setCell ⟨w1.heap.size, 3, none⟩ (.int .u8 c3)).setCell ⟨w1.heap.size, 4, none⟩ (.int .u8 c4)).setCell ⟨w1.heap.size, 5, none⟩ (.int .u8 c5)).setCell ⟨w1.heap.size, 6, none⟩ (.int .u8 c6)).setCell ⟨w1.heap.size, 7, none⟩ (.int .u8 c7)) = W at *; generalize w1.heap.size = g at *)
     | (clear n0 n1 hpw2; generalize w2.alloc (.cells #[.int .u8 c0, .int .u8 c1, .int .u8 c2, .int .u8 c3, .int .u8 c4, .int .u8 c5, .int .u8 c6, .int .u8 c7] 81) = W at *; generalize w2.heap.size = g at *)
    clear m0 m1 H0 H1 H1a hbz HB
    have hm := HM.out.cr
    have q1 := hm.box.cell 1 _ rfl
    have q2 := hm.box.cell 2 _ rfl
    have q3 := hm.box.cell 3 _ rfl
    have f2 := hm.box.frozen 2
    have f3 := hm.box.frozen 3
    have hG := hm.failed E
    have HBN := hide (HM.out.bn.keep hG.2 (by omega))
    have HBT := hide (HM.out.bt.keep hG.2 (by omega))
    have HG := hide hG
    have HKW := hide ((HM.out.keep.mono (S' := fun k => k = p) (fun _ h => h.elim)).trans hG.2 (fun _ _ h => h))
    have HI := hide ((zero_of_info infoKey).2)
    have HGN : Hid (∀ g, (Value.slice ao all.length cap).ownBlock = some g → ¬ g = w.heap.size) := hide (fun g hg e => by
     subst e
     exact HVN.out hg)
    clear hm hG HM
    go_wp2_with (first
     | (refine wp_load_box rfl _ rfl _ rfl HBN.out Tryz.underlying81 rfl HI.out ?_)
     | (refine wp_store_box rfl rfl _ _ rfl _ rfl rfl HBT.out rfl HI.out (by simp [Value.oneCell']) ?_; intro w3 hb3 hk3; have HB3 := hide hb3; have HK3 := hide hk3; clear hb3 hk3))
    refine bodyPost_ret (v := .agg #[.int .u8 0, .int .u8 0, .int .u8 0, .int .u8 0, .int .u8 0, .int .u8 0, .int .u8 0, .int .u8 0]) (results_box Tryz.results205 _ _ w.heap.size rfl HB3.out Tryz.underlying81 rfl HI.out) rfl ⟨rfl, HG.out.1.keep HK3.out (by omega) HGN.out, HKW.out.trans HK3.out (fun k hk e => absurd hk (by omega))⟩
 ·rw [if_pos hw]
  have hn : (r.why != 0) = true := by simpa using hw
  have HI := hide ((zero_of_info infoKey).2)
  have hb2 := hide (boxes_two w #[.int .u8 0, .int .u8 0, .int .u8 0, .int .u8 0, .int .u8 0, .int .u8 0, .int .u8 0, .int .u8 0] #[.int .u8 0, .int .u8 0, .int .u8 0, .int .u8 0, .int .u8 0, .int .u8 0, .int .u8 0, .int .u8 0] 81 81)
  clear CB HLL hS hw
  go_enter Tryz.func205, Tryz.ntmps205
  go_wp2_with fail
  refine C.out.mono ?_
  rintro e w1 ⟨rfl, hB⟩
  have HB := hide (HB0.out.trans (hB.mono HB0.out.size))
  have H1 := hide (HH.out.below hB)
  have HBT := hide (hb2.out.1.keep (KeepBut.of_below (fun _ => False) hB) (fun h => h))
  have HBN := hide (hb2.out.2.keep (KeepBut.of_below (fun _ => False) hB) (fun h => h))
  have HGN : Hid (∀ g, (Value.slice ao all.length cap).ownBlock = some g → ¬ g = w.heap.size) := hide (fun g hg e => by
   subst e
   exact HVN.out hg)
  clear hB C HH hb2
  go_wp2_with (first
   | (refine wp_load_box rfl _ rfl _ rfl HBN.out Tryz.underlying81 rfl HI.out ?_)
   | (refine wp_store_box rfl rfl _ _ rfl _ rfl rfl HBT.out rfl HI.out (by simp [Value.oneCell']) ?_; intro w3 hb3 hk3; have HB3 := hide hb3; have HK3 := hide hk3; clear hb3 hk3))
  exact bodyPost_ret (v := .agg #[.int .u8 0, .int .u8 0, .int .u8 0, .int .u8 0, .int .u8 0, .int .u8 0, .int .u8 0, .int .u8 0]) (results_box Tryz.results205 _ _ w.heap.size rfl HB3.out Tryz.underlying81 rfl HI.out) rfl ⟨rfl, H1.out.keep HK3.out (by omega) HGN.out, (KeepBut.of_below _ HB.out).trans HK3.out (fun k hk e => absurd hk (by omega))⟩
end
end Go.Proofs.YtlegliimgjmphaaGreat
