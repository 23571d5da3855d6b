/-
  A call of a script done on the reference's network ('would'). Own work.
-/
import Derived.Test.YteehkjdolmmapaaNtRef6
namespace Go.Proofs.Yteehkjdolmmapaa
open Go.RowKit

/-- What 'would' answers and leaves. -/
def RWd (w w' : World) (p : Nat) (vb : Value) (ws : List (Wr × Value)) (n' : Nt) (x : Wr) (A : Int) (e : Ending) : Prop :=
  ∃ sv, e = .returned (.tuple #[.agg (wcs x sv), .int .i64 A]) ∧ RNid w w' p vb ws n' ∧ Lies .u8 w' sv x.b
/-- A variable of the call's own is written. -/
theorem rnid_put {w w2 w3 w4 : World} {p q : Nat} {vb : Value} {ws : List (Wr × Value)} {n n' : Nt} (h0 : RNw w p vb ws n) (hB : Below w.heap.size w w2) (h : RNid w2 w3 p vb ws n') (hk : KeepBut (fun k => k = q) w3 w4) (hq1 : w.heap.size ≤ q) (hq2 : q < w2.heap.size) : RNid w w4 p vb ws n' := by
  obtain ⟨vb', ws', h1, hk1, hu⟩ := h
  have hlt : ∀ k, usesR p vb ws k → k < w.heap.size := fun k hu => by
    rcases hu with h | h | ⟨y, hy, h⟩
    · rw [h]; exact h0.box.lt
    · exact (h0.own.lt k h).2
    · exact (h0.far y hy k h).1
  refine ⟨vb', ws', h1.keep hk (fun k hu' e => ?_), ((KeepBut.of_below (fun k => k = p) hB).trans hk1 (fun _ _ h => h)).trans (hk.mono (S' := fun k => k = p ∨ w.heap.size ≤ k) (fun k e => .inr (by omega))) (fun k hk h => h.elim id (fun h => by omega)), fun k hu' => (hu k hu').imp id (fun h => Nat.le_trans hB.size h)⟩
  rcases hu k hu' with h | h
  · have := hlt k h; omega
  · omega
set_option maxRecDepth 100000 in
set_option maxHeartbeats 3200000 in
theorem would_any8 (p : Nat) (vb : Value) (ws : List (Wr × Value)) (n : Nt) (a : NAct) (sv : Value) (w : World) (h : RNw w p vb ws n) (ha : a.Ok) (hL : Lies .u8 w sv a.b) (hlost : n.lost ≤ 1000000) :
    Calls Try.prog 14 #[.pointer (some ⟨p, 0, none⟩), .agg #[.int .u8 (a.kind : Int), .int .u8 (a.fr : Int), .int .u8 (a.to : Int), .int .i64 a.i, sv]] w fun e w' => RWd w w' p vb ws (nctD n a) (nctW n a) (nctA n a) e := by
  obtain ⟨ao, cap, hsv⟩ := hL.shape
  subst hsv
  have hk := ha.k
  obtain ⟨w1, hw1⟩ : ∃ w1, w1 = w.alloc (.cells #[.int .u8 (a.kind : Int), .int .u8 (a.fr : Int), .int .u8 (a.to : Int), .int .i64 a.i, .slice ao a.b.length cap] 37) := ⟨_, rfl⟩
  obtain ⟨w2, hw2⟩ : ∃ w2, w2 = w1.alloc (.cells #[.int .u8 0, .int .u8 0, .slice none 0 0] 39) := ⟨_, rfl⟩
  have s1 : w1.heap.size = w.heap.size + 1 := by rw [hw1]; simp
  have s2 : w2.heap.size = w.heap.size + 2 := by rw [hw2]; simp [s1]
  have hB1 : Below w.heap.size w w1 := hw1 ▸ alloc_below8 w _
  have hB2 : Below w1.heap.size w1 w2 := hw2 ▸ alloc_below8 w1 _
  have hX1 : Box w1 w.heap.size #[.int .u8 (a.kind : Int), .int .u8 (a.fr : Int), .int .u8 (a.to : Int), .int .i64 a.i, .slice ao a.b.length cap] 37 := hw1 ▸ box_new w _ _
  have hX2 : Box w2 (w.heap.size + 1) #[.int .u8 0, .int .u8 0, .slice none 0 0] 39 := by have := box_new w1 #[.int .u8 0, .int .u8 0, .slice none 0 0] 39; rw [← hw2, s1] at this; exact this
  have HX1 := hide (hX1.below8 hB2)
  have HX2 := hide hX2
  have HB := hide (hB1.trans (hB2.mono hB1.size))
  have HS2 := hide s2
  have HR0 := hide h
  have HR := hide (h.below HB.out)
  have HL := hide (hL.below HB.out)
  have HA := hide ha
  have hrem : (a.kind : Int).tmod 6 = ((a.kind % 6 : Nat) : Int) := by
    rw [Int.tmod_eq_emod_of_nonneg (by omega)]; omega
  have HWK : Hid (nctW n a = if a.kind % 6 = 1 then n.nth a.i else if a.kind % 6 = 2 then n.nth a.i else nilW) := rfl
  have HAK : Hid (nctA n a = if a.kind % 6 = 1 then atA n a.i else if a.kind % 6 = 2 then atA n a.i else if a.kind % 6 = 3 then atA n a.i else if a.kind % 6 = 4 then twiA n a.i else if a.kind % 6 = 5 then atA n a.i else senA n a.wire) := rfl
  have HDK : Hid (nctD n a = if a.kind % 6 = 1 then takD n a.i else if a.kind % 6 = 2 then n else if a.kind % 6 = 3 then droD n a.i else if a.kind % 6 = 4 then twiD n a.i else if a.kind % 6 = 5 then latD n a.i else senD n a.wire) := rfl
  have hr6 : a.kind % 6 < 6 := Nat.mod_lt _ (by decide)
  have HW2 : Hid ((w.alloc (.cells #[.int .u8 (a.kind : Int), .int .u8 (a.fr : Int), .int .u8 (a.to : Int), .int .i64 a.i, .slice ao a.b.length cap] 37)).alloc (.cells #[.int .u8 0, .int .u8 0, .slice none 0 0] 39) = w2) := hide (by rw [hw2, hw1])
  have hpw := h.box.lt
  generalize a.kind % 6 = r at *
  have hcs : r = 0 ∨ r = 1 ∨ r = 2 ∨ r = 3 ∨ r = 4 ∨ r = 5 := by omega
  clear h hL hB1 hB2 hX1 hX2 hw1 hw2 s1 s2 hr6
  rcases hcs with rfl | rfl | rfl | rfl | rfl | rfl
  · have HW : Hid (nctW n a = nilW) := hide (by rw [HWK.out]; simp)
    have HAA : Hid (nctA n a = senA n a.wire) := hide (by rw [HAK.out]; simp)
    have HDD : Hid (nctD n a = senD n a.wire) := hide (by rw [HDK.out]; simp)
    rw [HW.out, HAA.out, HDD.out]
    have C := hide (rsend_any p vb ws n a.wire (.slice ao a.b.length cap) w2 HR.out HA.out.wire HL.out hlost)
    have x0 := HX1.out.cell 0 _ rfl
    have x1 := HX1.out.cell 1 _ rfl
    have x2 := HX1.out.cell 2 _ rfl
    have x3 := HX1.out.cell 3 _ rfl
    have x4 := HX1.out.cell 4 _ rfl
    have hW2 := HW2.out
    clear HWK HAK HDK HW HAA HDD
    go_enter Try.func14, Try.ntmps14
    go_wp2_with fail
    refine C.out.mono ?_
    rintro e w3 ⟨rfl, h3⟩
    have H3 := hide h3
    have HX3 := hide (by obtain ⟨vb', ws', _, hk3, _⟩ := h3; exact HX2.out.keep hk3 (by omega) : Box w3 (w.heap.size + 1) #[.int .u8 0, .int .u8 0, .slice none 0 0] 39)
    clear h3
    clear C HX1 HX2 x0 x1 x2 x3 x4 hW2 HW2
    go_wp2_with (first
      | (refine wp_store_box rfl rfl _ _ rfl (w.heap.size + 1) rfl rfl HX3.out rfl infoRW (wcs_one nilW none 0 0) ?_; intro w4 hb4 hk4; have HX4 := hide hb4; have HK4 := hide hk4; clear hb4 hk4))
    refine bodyPost_ret (results_two8 rfl _ _ (w.heap.size + 1) rfl rfl HX4.out Try.underlying39 rfl infoRW) rfl ?_
    have hfin := rnid_put HR0.out HB.out H3.out HK4.out (by omega) (by have := HS2.out; omega)
    exact ⟨.slice none 0 0, rfl, hfin, Lies.nil _ _⟩
  · have HW : Hid (nctW n a = n.nth a.i) := hide (by rw [HWK.out]; simp)
    have HAA : Hid (nctA n a = atA n a.i) := hide (by rw [HAK.out]; simp)
    have HDD : Hid (nctD n a = takD n a.i) := hide (by rw [HDK.out]; simp)
    rw [HW.out, HAA.out, HDD.out]
    have C := hide (rtake_any p vb ws n a.i w2 HR.out)
    have x0 := HX1.out.cell 0 _ rfl
    have x1 := HX1.out.cell 1 _ rfl
    have x2 := HX1.out.cell 2 _ rfl
    have x3 := HX1.out.cell 3 _ rfl
    have x4 := HX1.out.cell 4 _ rfl
    have hW2 := HW2.out
    clear HWK HAK HDK HW HAA HDD
    go_enter Try.func14, Try.ntmps14
    go_wp2_with fail
    refine C.out.mono ?_
    rintro e w3 ⟨sv3, vb', ws', rfl, hR3, hk3, hL3, hm3, hy3, hn3⟩
    obtain ⟨a3, c3, hv3⟩ := hL3.shape
    subst hv3
    have H3 : Hid (RNid w2 w3 p vb ws (takD n a.i)) := hide ⟨vb', ws', hR3, hk3, RTk.uses hm3 hy3 hn3⟩
    have HF3 : Hid (∀ g, (Value.slice a3 (n.nth a.i).b.length c3).ownBlock = some g → g < w.heap.size) := hide (fun g e => by
      cases hi : n.inN a.i
      · rw [(hn3 hi).1] at e; cases e
      · exact (HR0.out.far _ (hy3 hi).1 g e).1)
    have HL3 := hide hL3
    have HX3 := hide (HX2.out.keep hk3 (by omega))
    clear hR3 hk3 hL3 hm3 hy3 hn3
    clear C HX1 HX2 x0 x1 x2 x3 x4 hW2 HW2
    unfold wcs
    go_wp2_with (first
      | (refine wp_store_box rfl rfl _ _ rfl (w.heap.size + 1) rfl rfl HX3.out rfl infoRW (wcs_one (n.nth a.i) a3 _ c3) ?_; intro w4 hb4 hk4; have HX4 := hide hb4; have HK4 := hide hk4; clear hb4 hk4))
    refine bodyPost_ret (results_two8 rfl _ _ (w.heap.size + 1) rfl rfl HX4.out Try.underlying39 rfl infoRW) rfl ?_
    have hfin := rnid_put HR0.out HB.out H3.out HK4.out (by omega) (by have := HS2.out; omega)
    exact ⟨.slice a3 (n.nth a.i).b.length c3, rfl, hfin, HL3.out.kept8 HK4.out (fun g e e2 => by have := HF3.out g e; omega)⟩
  · have HW : Hid (nctW n a = n.nth a.i) := hide (by rw [HWK.out]; simp)
    have HAA : Hid (nctA n a = atA n a.i) := hide (by rw [HAK.out]; simp)
    have HDD : Hid (nctD n a = n) := hide (by rw [HDK.out]; simp)
    rw [HW.out, HAA.out, HDD.out]
    have C := hide (rat_any p vb ws n a.i w2 HR.out)
    have x0 := HX1.out.cell 0 _ rfl
    have x1 := HX1.out.cell 1 _ rfl
    have x2 := HX1.out.cell 2 _ rfl
    have x3 := HX1.out.cell 3 _ rfl
    have x4 := HX1.out.cell 4 _ rfl
    have hW2 := HW2.out
    clear HWK HAK HDK HW HAA HDD
    go_enter Try.func14, Try.ntmps14
    go_wp2_with fail
    refine C.out.mono ?_
    rintro e w3 ⟨sv3, rfl, hL3, hB3, hy3, hn3⟩
    obtain ⟨a3, c3, hv3⟩ := hL3.shape
    subst hv3
    have H3 : Hid (RNid w2 w3 p vb ws n) := hide (RNid.of_below HR.out hB3)
    have HF3 : Hid (∀ g, (Value.slice a3 (n.nth a.i).b.length c3).ownBlock = some g → g < w.heap.size) := hide (fun g e => by
      cases hi : n.inN a.i
      · rw [hn3 hi] at e; cases e
      · obtain ⟨k, hkw, _, hwk⟩ := hy3 hi
        have hm := List.getElem_mem hkw
        rw [hwk] at hm
        exact (HR0.out.far _ hm g e).1)
    have HL3 := hide hL3
    have HX3 := hide (HX2.out.below8 hB3)
    clear hL3 hB3 hy3 hn3
    clear C HX1 HX2 x0 x1 x2 x3 x4 hW2 HW2
    unfold wcs
    go_wp2_with (first
      | (refine wp_store_box rfl rfl _ _ rfl (w.heap.size + 1) rfl rfl HX3.out rfl infoRW (wcs_one (n.nth a.i) a3 _ c3) ?_; intro w4 hb4 hk4; have HX4 := hide hb4; have HK4 := hide hk4; clear hb4 hk4))
    refine bodyPost_ret (results_two8 rfl _ _ (w.heap.size + 1) rfl rfl HX4.out Try.underlying39 rfl infoRW) rfl ?_
    have hfin := rnid_put HR0.out HB.out H3.out HK4.out (by omega) (by have := HS2.out; omega)
    exact ⟨.slice a3 (n.nth a.i).b.length c3, rfl, hfin, HL3.out.kept8 HK4.out (fun g e e2 => by have := HF3.out g e; omega)⟩
  · have HW : Hid (nctW n a = nilW) := hide (by rw [HWK.out]; simp)
    have HAA : Hid (nctA n a = atA n a.i) := hide (by rw [HAK.out]; simp)
    have HDD : Hid (nctD n a = droD n a.i) := hide (by rw [HDK.out]; simp)
    rw [HW.out, HAA.out, HDD.out]
    have C := hide (rdrop_any p vb ws n a.i w2 HR.out hlost)
    have x0 := HX1.out.cell 0 _ rfl
    have x1 := HX1.out.cell 1 _ rfl
    have x2 := HX1.out.cell 2 _ rfl
    have x3 := HX1.out.cell 3 _ rfl
    have x4 := HX1.out.cell 4 _ rfl
    have hW2 := HW2.out
    clear HWK HAK HDK HW HAA HDD
    go_enter Try.func14, Try.ntmps14
    go_wp2_with fail
    refine C.out.mono ?_
    rintro e w3 ⟨rfl, h3⟩
    have H3 := hide h3
    have HX3 := hide (by obtain ⟨vb', ws', _, hk3, _⟩ := h3; exact HX2.out.keep hk3 (by omega) : Box w3 (w.heap.size + 1) #[.int .u8 0, .int .u8 0, .slice none 0 0] 39)
    clear h3
    clear C HX1 HX2 x0 x1 x2 x3 x4 hW2 HW2
    go_wp2_with (first
      | (refine wp_store_box rfl rfl _ _ rfl (w.heap.size + 1) rfl rfl HX3.out rfl infoRW (wcs_one nilW none 0 0) ?_; intro w4 hb4 hk4; have HX4 := hide hb4; have HK4 := hide hk4; clear hb4 hk4))
    refine bodyPost_ret (results_two8 rfl _ _ (w.heap.size + 1) rfl rfl HX4.out Try.underlying39 rfl infoRW) rfl ?_
    have hfin := rnid_put HR0.out HB.out H3.out HK4.out (by omega) (by have := HS2.out; omega)
    exact ⟨.slice none 0 0, rfl, hfin, Lies.nil _ _⟩
  · have HW : Hid (nctW n a = nilW) := hide (by rw [HWK.out]; simp)
    have HAA : Hid (nctA n a = twiA n a.i) := hide (by rw [HAK.out]; simp)
    have HDD : Hid (nctD n a = twiD n a.i) := hide (by rw [HDK.out]; simp)
    rw [HW.out, HAA.out, HDD.out]
    have C := hide (rtwice_any p vb ws n a.i w2 HR.out)
    have x0 := HX1.out.cell 0 _ rfl
    have x1 := HX1.out.cell 1 _ rfl
    have x2 := HX1.out.cell 2 _ rfl
    have x3 := HX1.out.cell 3 _ rfl
    have x4 := HX1.out.cell 4 _ rfl
    have hW2 := HW2.out
    clear HWK HAK HDK HW HAA HDD
    go_enter Try.func14, Try.ntmps14
    go_wp2_with fail
    refine C.out.mono ?_
    rintro e w3 ⟨rfl, h3⟩
    have H3 := hide h3
    have HX3 := hide (by obtain ⟨vb', ws', _, hk3, _⟩ := h3; exact HX2.out.keep hk3 (by omega) : Box w3 (w.heap.size + 1) #[.int .u8 0, .int .u8 0, .slice none 0 0] 39)
    clear h3
    clear C HX1 HX2 x0 x1 x2 x3 x4 hW2 HW2
    go_wp2_with (first
      | (refine wp_store_box rfl rfl _ _ rfl (w.heap.size + 1) rfl rfl HX3.out rfl infoRW (wcs_one nilW none 0 0) ?_; intro w4 hb4 hk4; have HX4 := hide hb4; have HK4 := hide hk4; clear hb4 hk4))
    refine bodyPost_ret (results_two8 rfl _ _ (w.heap.size + 1) rfl rfl HX4.out Try.underlying39 rfl infoRW) rfl ?_
    have hfin := rnid_put HR0.out HB.out H3.out HK4.out (by omega) (by have := HS2.out; omega)
    exact ⟨.slice none 0 0, rfl, hfin, Lies.nil _ _⟩
  · have HW : Hid (nctW n a = nilW) := hide (by rw [HWK.out]; simp)
    have HAA : Hid (nctA n a = atA n a.i) := hide (by rw [HAK.out]; simp)
    have HDD : Hid (nctD n a = latD n a.i) := hide (by rw [HDK.out]; simp)
    rw [HW.out, HAA.out, HDD.out]
    have C := hide (rlate_any p vb ws n a.i w2 HR.out)
    have x0 := HX1.out.cell 0 _ rfl
    have x1 := HX1.out.cell 1 _ rfl
    have x2 := HX1.out.cell 2 _ rfl
    have x3 := HX1.out.cell 3 _ rfl
    have x4 := HX1.out.cell 4 _ rfl
    have hW2 := HW2.out
    clear HWK HAK HDK HW HAA HDD
    go_enter Try.func14, Try.ntmps14
    go_wp2_with fail
    refine C.out.mono ?_
    rintro e w3 ⟨rfl, h3⟩
    have H3 := hide h3
    have HX3 := hide (by obtain ⟨vb', ws', _, hk3, _⟩ := h3; exact HX2.out.keep hk3 (by omega) : Box w3 (w.heap.size + 1) #[.int .u8 0, .int .u8 0, .slice none 0 0] 39)
    clear h3
    clear C HX1 HX2 x0 x1 x2 x3 x4 hW2 HW2
    go_wp2_with (first
      | (refine wp_store_box rfl rfl _ _ rfl (w.heap.size + 1) rfl rfl HX3.out rfl infoRW (wcs_one nilW none 0 0) ?_; intro w4 hb4 hk4; have HX4 := hide hb4; have HK4 := hide hk4; clear hb4 hk4))
    refine bodyPost_ret (results_two8 rfl _ _ (w.heap.size + 1) rfl rfl HX4.out Try.underlying39 rfl infoRW) rfl ?_
    have hfin := rnid_put HR0.out HB.out H3.out HK4.out (by omega) (by have := HS2.out; omega)
    exact ⟨.slice none 0 0, rfl, hfin, Lies.nil _ _⟩
end Go.Proofs.Yteehkjdolmmapaa
