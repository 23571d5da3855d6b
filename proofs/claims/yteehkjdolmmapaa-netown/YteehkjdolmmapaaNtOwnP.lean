/-
  For NetOwn: rows that are written over; a network that nobody made, as a bundle; 'does' on it. Own work.
-/
import Derived.Test.YteehkjdolmmapaaNtAlive
import Derived.Test.YteehkjdolmmapaaNtCount
namespace Go.Proofs.Yteehkjdolmmapaa
open Go.RowKit

/-- A row of bytes that is written over: its cells are bytes still, all else is as it was. -/
def Over8 (w0 w : World) (v : Value) (n : Nat) : Prop :=
  KeepBut (fun k => v.ownBlock = some k) w0 w ∧ (n = 0 ∨ ∃ (g cap : Nat) (cur : Array Value), v = .slice (some ⟨g, 0, none⟩) n cap ∧ Box w g cur 5 ∧ ∀ t, t < n → ∃ z : Int, cur[t]? = some (.int .u8 z))
theorem Over8.start {w : World} {base n : Nat} {v : Value} {xs : List Int} (h : w.ownsRow base 5 1 v n (xs.map (Value.int .u8))) : Over8 w w v n := by
  refine ⟨KeepBut.refl _ _, ?_⟩
  have hl : xs.length = n := by simpa using h.1
  obtain ⟨_, ⟨_, h0⟩ | ⟨g, cap, cur, rfl, _, hh, hn, _, hsz, htake⟩⟩ := h
  · exact .inl h0
  · refine .inr ⟨g, cap, cur, rfl, hh, fun t ht => ⟨xs.getD t 0, ?_⟩⟩
    have h1 : (cur.toList.take (n * 1))[t]? = (xs.map (Value.int .u8))[t]? := by rw [htake]
    rw [List.getElem?_take_of_lt (by omega)] at h1
    have h2 : cur[t]? = (xs.map (Value.int .u8))[t]? := by simpa using h1
    rw [h2]
    simp [List.getD, show t < xs.length by omega]
theorem Over8.step {w0 w : World} {g n cap k : Nat} {cur : Array Value} (hk : KeepBut (fun k => (Value.slice (some ⟨g, 0, none⟩) n cap).ownBlock = some k) w0 w) (hb : Box w g cur 5) (hc : ∀ t, t < n → ∃ z : Int, cur[t]? = some (.int .u8 z)) (z : Int) :
    Over8 w0 (w.setCell ⟨g, k, none⟩ (.int .u8 z)) (.slice (some ⟨g, 0, none⟩) n cap) n := by
  refine ⟨hk.setCell (p := ⟨g, k, none⟩) (.inl rfl) _, .inr ⟨g, cap, _, rfl, hb.set, fun t ht => ?_⟩⟩
  obtain ⟨z', hz'⟩ := hc t ht
  by_cases e : k = t
  · subst e
    refine ⟨z, ?_⟩
    have hlt : k < cur.size := (Array.getElem?_eq_some_iff.1 hz').1
    simp [hlt]
  · exact ⟨z', by rw [Array.getElem?_setIfInBounds_ne e]; exact hz'⟩
/-- What a network that nobody made must answer. -/
structure NobDo8 (Nb : World → Value → Prop) : Prop where
  below : ∀ {w w' : World} {v : Value}, Nb w v → Below w.heap.size w w' → Nb w' v
  sen : ∀ {w : World} {v : Value} (x : Wr) (ao : Option Addr) (l c : Nat), Nb w v → Calls Try.prog 23 #[v, .agg (wcs x (.slice ao l c))] w fun e w' => e = .returned (.int .i64 2) ∧ Below w.heap.size w w'
  tak : ∀ {w : World} {v : Value} (i : Int), Nb w v → Calls Try.prog 25 #[v, .int .i64 i] w fun e w' => e = .returned (.tuple #[.agg (wcs nilW (.slice none 0 0)), .int .i64 2]) ∧ Below w.heap.size w w'
  at' : ∀ {w : World} {v : Value} (i : Int), Nb w v → Calls Try.prog 21 #[v, .int .i64 i] w fun e w' => e = .returned (.tuple #[.agg (wcs nilW (.slice none 0 0)), .int .i64 2]) ∧ Below w.heap.size w w'
  dro : ∀ {w : World} {v : Value} (i : Int), Nb w v → Calls Try.prog 28 #[v, .int .i64 i] w fun e w' => e = .returned (.int .i64 2) ∧ Below w.heap.size w w'
  twi : ∀ {w : World} {v : Value} (i : Int), Nb w v → Calls Try.prog 24 #[v, .int .i64 i] w fun e w' => e = .returned (.int .i64 2) ∧ Below w.heap.size w w'
  lat : ∀ {w : World} {v : Value} (i : Int), Nb w v → Calls Try.prog 27 #[v, .int .i64 i] w fun e w' => e = .returned (.int .i64 2) ∧ Below w.heap.size w w'
  len : ∀ {w : World} {v : Value}, Nb w v → Calls Try.prog 16 #[v] w fun e w' => e = .returned (.int .i64 0) ∧ Below w.heap.size w w'
  los : ∀ {w : World} {v : Value}, Nb w v → Calls Try.prog 17 #[v] w fun e w' => e = .returned (.int .i64 0) ∧ Below w.heap.size w w'
  to' : ∀ {w : World} {v : Value} (node : Nat), Nb w v → node < 256 → Calls Try.prog 19 #[v, .int .u8 (node : Int)] w fun e w' => ∃ u, e = .returned u ∧ Lies .i64 w' u [] ∧ Below w.heap.size w w'
set_option maxRecDepth 100000 in
set_option maxHeartbeats 3200000 in
theorem does_nob8 {Nb : World → Value → Prop} (H : NobDo8 Nb) (gp : Value) (a : NAct) (ao : Option Addr) (l cap : Nat) (w : World) (h : Nb w gp) (hk : a.kind < 256) :
    Calls Try.prog 13 #[gp, .agg #[.int .u8 (a.kind : Int), .int .u8 (a.fr : Int), .int .u8 (a.to : Int), .int .i64 a.i, .slice ao l cap]] w fun e w' => e = .returned (.tuple #[.agg (wcs nilW (.slice none 0 0)), .int .i64 2]) ∧ Below w.heap.size w w' := by
  obtain ⟨w1, hw1⟩ : ∃ w1, w1 = w.alloc (.cells #[.int .u8 (a.kind : Int), .int .u8 (a.fr : Int), .int .u8 (a.to : Int), .int .i64 a.i, .slice ao l cap] 37) := ⟨_, rfl⟩
  obtain ⟨w2, hw2⟩ : ∃ w2, w2 = w1.alloc (.cells #[.int .u8 0, .int .u8 0, .slice none 0 0] 39) := ⟨_, rfl⟩
  obtain ⟨w3, hw3⟩ : ∃ w3, w3 = w2.alloc (.cells #[.int .u8 0, .int .u8 0, .slice none 0 0] 50) := ⟨_, rfl⟩
  have s1 : w1.heap.size = w.heap.size + 1 := by rw [hw1]; simp
  have s2 : w2.heap.size = w.heap.size + 2 := by rw [hw2]; simp [s1]
  have hB1 : Below w.heap.size w w1 := hw1 ▸ alloc_below8 w _
  have hB2 : Below w1.heap.size w1 w2 := hw2 ▸ alloc_below8 w1 _
  have hB3 : Below w2.heap.size w2 w3 := hw3 ▸ alloc_below8 w2 _
  have hX1 : Box w1 w.heap.size #[.int .u8 (a.kind : Int), .int .u8 (a.fr : Int), .int .u8 (a.to : Int), .int .i64 a.i, .slice ao l cap] 37 := hw1 ▸ box_new w _ _
  have hX2 : Box w2 (w.heap.size + 1) #[.int .u8 0, .int .u8 0, .slice none 0 0] 39 := by have := box_new w1 #[.int .u8 0, .int .u8 0, .slice none 0 0] 39; rw [← hw2, s1] at this; exact this
  have hX3 : Box w3 (w.heap.size + 2) #[.int .u8 0, .int .u8 0, .slice none 0 0] 50 := by have := box_new w2 #[.int .u8 0, .int .u8 0, .slice none 0 0] 50; rw [← hw3, s2] at this; exact this
  have HX1 := hide ((hX1.below8 hB2).below8 hB3)
  have HX2 := hide (hX2.below8 hB3)
  have HX3 := hide hX3
  have HB03 := hide (hB1.trans ((hB2.trans (hB3.mono hB2.size)).mono hB1.size))
  have HN := hide (H.below h HB03.out)
  have hrem : (a.kind : Int).tmod 6 = ((a.kind % 6 : Nat) : Int) := by
    rw [Int.tmod_eq_emod_of_nonneg (by omega)]; omega
  have hr6 : a.kind % 6 < 6 := Nat.mod_lt _ (by decide)
  have HW3 : Hid (((w.alloc (.cells #[.int .u8 (a.kind : Int), .int .u8 (a.fr : Int), .int .u8 (a.to : Int), .int .i64 a.i, .slice ao l cap] 37)).alloc (.cells #[.int .u8 0, .int .u8 0, .slice none 0 0] 39)).alloc (.cells #[.int .u8 0, .int .u8 0, .slice none 0 0] 50) = w3) := hide (by rw [hw3, hw2, hw1])
  generalize a.kind % 6 = r at *
  have hcs : r = 0 ∨ r = 1 ∨ r = 2 ∨ r = 3 ∨ r = 4 ∨ r = 5 := by omega
  clear h hB1 hB2 hB3 hX1 hX2 hX3 hw1 hw2 hw3 s1 s2 hr6
  rcases hcs with rfl | rfl | rfl | rfl | rfl | rfl
  · have C := hide (H.sen a.wire ao l cap HN.out)
    have x0 := HX1.out.cell 0 _ rfl
    have x1 := HX1.out.cell 1 _ rfl
    have x2 := HX1.out.cell 2 _ rfl
    have x3 := HX1.out.cell 3 _ rfl
    have x4 := HX1.out.cell 4 _ rfl
    have hW3 := HW3.out
    go_enter Try.func13, Try.ntmps13
    go_wp2_with fail
    refine C.out.mono ?_
    rintro e w4 ⟨rfl, hB4⟩
    replace HX2 := hide (HX2.out.below8 hB4)
    replace HX3 := hide (HX3.out.below8 hB4)
    have HB4 := hide (HB03.out.trans (hB4.mono HB03.out.size))
    clear hB4 C HN HX1 HB03 x0 x1 x2 x3 x4 hW3 HW3
    go_wp2_with (first
      | (refine wp_load_box rfl _ rfl (w.heap.size + 2) rfl HX3.out Try.underlying50 rfl infoW ?_))
    refine (ours_any nilW none 0 0 w4).mono ?_
    rintro e w6 ⟨rfl, hB6⟩
    have HX26 := hide (HX2.out.below8 hB6)
    have HB6 : Hid (Below w.heap.size w w6) := hide (HB4.out.trans (hB6.mono HB4.out.size))
    clear hB6
    go_wp2_with (first
      | (refine wp_store_box rfl rfl _ _ rfl (w.heap.size + 1) rfl rfl HX26.out rfl infoRW (wcs_one _ _ _ _) ?_; intro w7 hb7 hk7; have HX7 := hide hb7; have HK7 := hide hk7; clear hb7 hk7))
    refine bodyPost_ret (results_two8 rfl _ _ (w.heap.size + 1) rfl rfl HX7.out Try.underlying39 rfl infoRW) rfl ?_
    exact ⟨rfl, HB6.out.trans (HK7.out.below HB6.out.size (fun k e => by omega))⟩
  · have C := hide (H.tak a.i HN.out)
    have x0 := HX1.out.cell 0 _ rfl
    have x1 := HX1.out.cell 1 _ rfl
    have x2 := HX1.out.cell 2 _ rfl
    have x3 := HX1.out.cell 3 _ rfl
    have x4 := HX1.out.cell 4 _ rfl
    have hW3 := HW3.out
    go_enter Try.func13, Try.ntmps13
    go_wp2_with fail
    refine C.out.mono ?_
    rintro e w4 ⟨rfl, hB4⟩
    replace HX2 := hide (HX2.out.below8 hB4)
    replace HX3 := hide (HX3.out.below8 hB4)
    have HB4 := hide (HB03.out.trans (hB4.mono HB03.out.size))
    clear hB4 C HN HX1 HB03 x0 x1 x2 x3 x4 hW3 HW3
    go_wp2_with (first
      | (refine wp_store_box rfl rfl _ _ rfl (w.heap.size + 2) rfl rfl HX3.out rfl infoW (wcs_one _ _ _ _) ?_; intro w5 hb5 hk5; have HX5 := hide hb5; have HK5 := hide hk5; clear hb5 hk5)
      | (refine wp_load_box rfl _ rfl (w.heap.size + 2) rfl HX5.out Try.underlying50 rfl infoW ?_))
    have HX25 := hide (HX2.out.keep HK5.out (by omega))
    refine (ours_any nilW none 0 0 w5).mono ?_
    rintro e w6 ⟨rfl, hB6⟩
    have HX26 := hide (HX25.out.below8 hB6)
    have HB6 : Hid (Below w.heap.size w w6) := hide (HB4.out.trans ((HK5.out.below HB4.out.size (fun k e => by omega)).trans (hB6.mono (Nat.le_trans HB4.out.size HK5.out.size))))
    clear hB6
    go_wp2_with (first
      | (refine wp_store_box rfl rfl _ _ rfl (w.heap.size + 1) rfl rfl HX26.out rfl infoRW (wcs_one _ _ _ _) ?_; intro w7 hb7 hk7; have HX7 := hide hb7; have HK7 := hide hk7; clear hb7 hk7))
    refine bodyPost_ret (results_two8 rfl _ _ (w.heap.size + 1) rfl rfl HX7.out Try.underlying39 rfl infoRW) rfl ?_
    exact ⟨rfl, HB6.out.trans (HK7.out.below HB6.out.size (fun k e => by omega))⟩
  · have C := hide (H.at' a.i HN.out)
    have x0 := HX1.out.cell 0 _ rfl
    have x1 := HX1.out.cell 1 _ rfl
    have x2 := HX1.out.cell 2 _ rfl
    have x3 := HX1.out.cell 3 _ rfl
    have x4 := HX1.out.cell 4 _ rfl
    have hW3 := HW3.out
    go_enter Try.func13, Try.ntmps13
    go_wp2_with fail
    refine C.out.mono ?_
    rintro e w4 ⟨rfl, hB4⟩
    replace HX2 := hide (HX2.out.below8 hB4)
    replace HX3 := hide (HX3.out.below8 hB4)
    have HB4 := hide (HB03.out.trans (hB4.mono HB03.out.size))
    clear hB4 C HN HX1 HB03 x0 x1 x2 x3 x4 hW3 HW3
    go_wp2_with (first
      | (refine wp_store_box rfl rfl _ _ rfl (w.heap.size + 2) rfl rfl HX3.out rfl infoW (wcs_one _ _ _ _) ?_; intro w5 hb5 hk5; have HX5 := hide hb5; have HK5 := hide hk5; clear hb5 hk5)
      | (refine wp_load_box rfl _ rfl (w.heap.size + 2) rfl HX5.out Try.underlying50 rfl infoW ?_))
    have HX25 := hide (HX2.out.keep HK5.out (by omega))
    refine (ours_any nilW none 0 0 w5).mono ?_
    rintro e w6 ⟨rfl, hB6⟩
    have HX26 := hide (HX25.out.below8 hB6)
    have HB6 : Hid (Below w.heap.size w w6) := hide (HB4.out.trans ((HK5.out.below HB4.out.size (fun k e => by omega)).trans (hB6.mono (Nat.le_trans HB4.out.size HK5.out.size))))
    clear hB6
    go_wp2_with (first
      | (refine wp_store_box rfl rfl _ _ rfl (w.heap.size + 1) rfl rfl HX26.out rfl infoRW (wcs_one _ _ _ _) ?_; intro w7 hb7 hk7; have HX7 := hide hb7; have HK7 := hide hk7; clear hb7 hk7))
    refine bodyPost_ret (results_two8 rfl _ _ (w.heap.size + 1) rfl rfl HX7.out Try.underlying39 rfl infoRW) rfl ?_
    exact ⟨rfl, HB6.out.trans (HK7.out.below HB6.out.size (fun k e => by omega))⟩
  · have C := hide (H.dro a.i HN.out)
    have x0 := HX1.out.cell 0 _ rfl
    have x1 := HX1.out.cell 1 _ rfl
    have x2 := HX1.out.cell 2 _ rfl
    have x3 := HX1.out.cell 3 _ rfl
    have x4 := HX1.out.cell 4 _ rfl
    have hW3 := HW3.out
    go_enter Try.func13, Try.ntmps13
    go_wp2_with fail
    refine C.out.mono ?_
    rintro e w4 ⟨rfl, hB4⟩
    replace HX2 := hide (HX2.out.below8 hB4)
    replace HX3 := hide (HX3.out.below8 hB4)
    have HB4 := hide (HB03.out.trans (hB4.mono HB03.out.size))
    clear hB4 C HN HX1 HB03 x0 x1 x2 x3 x4 hW3 HW3
    go_wp2_with (first
      | (refine wp_load_box rfl _ rfl (w.heap.size + 2) rfl HX3.out Try.underlying50 rfl infoW ?_))
    refine (ours_any nilW none 0 0 w4).mono ?_
    rintro e w6 ⟨rfl, hB6⟩
    have HX26 := hide (HX2.out.below8 hB6)
    have HB6 : Hid (Below w.heap.size w w6) := hide (HB4.out.trans (hB6.mono HB4.out.size))
    clear hB6
    go_wp2_with (first
      | (refine wp_store_box rfl rfl _ _ rfl (w.heap.size + 1) rfl rfl HX26.out rfl infoRW (wcs_one _ _ _ _) ?_; intro w7 hb7 hk7; have HX7 := hide hb7; have HK7 := hide hk7; clear hb7 hk7))
    refine bodyPost_ret (results_two8 rfl _ _ (w.heap.size + 1) rfl rfl HX7.out Try.underlying39 rfl infoRW) rfl ?_
    exact ⟨rfl, HB6.out.trans (HK7.out.below HB6.out.size (fun k e => by omega))⟩
  · have C := hide (H.twi a.i HN.out)
    have x0 := HX1.out.cell 0 _ rfl
    have x1 := HX1.out.cell 1 _ rfl
    have x2 := HX1.out.cell 2 _ rfl
    have x3 := HX1.out.cell 3 _ rfl
    have x4 := HX1.out.cell 4 _ rfl
    have hW3 := HW3.out
    go_enter Try.func13, Try.ntmps13
    go_wp2_with fail
    refine C.out.mono ?_
    rintro e w4 ⟨rfl, hB4⟩
    replace HX2 := hide (HX2.out.below8 hB4)
    replace HX3 := hide (HX3.out.below8 hB4)
    have HB4 := hide (HB03.out.trans (hB4.mono HB03.out.size))
    clear hB4 C HN HX1 HB03 x0 x1 x2 x3 x4 hW3 HW3
    go_wp2_with (first
      | (refine wp_load_box rfl _ rfl (w.heap.size + 2) rfl HX3.out Try.underlying50 rfl infoW ?_))
    refine (ours_any nilW none 0 0 w4).mono ?_
    rintro e w6 ⟨rfl, hB6⟩
    have HX26 := hide (HX2.out.below8 hB6)
    have HB6 : Hid (Below w.heap.size w w6) := hide (HB4.out.trans (hB6.mono HB4.out.size))
    clear hB6
    go_wp2_with (first
      | (refine wp_store_box rfl rfl _ _ rfl (w.heap.size + 1) rfl rfl HX26.out rfl infoRW (wcs_one _ _ _ _) ?_; intro w7 hb7 hk7; have HX7 := hide hb7; have HK7 := hide hk7; clear hb7 hk7))
    refine bodyPost_ret (results_two8 rfl _ _ (w.heap.size + 1) rfl rfl HX7.out Try.underlying39 rfl infoRW) rfl ?_
    exact ⟨rfl, HB6.out.trans (HK7.out.below HB6.out.size (fun k e => by omega))⟩
  · have C := hide (H.lat a.i HN.out)
    have x0 := HX1.out.cell 0 _ rfl
    have x1 := HX1.out.cell 1 _ rfl
    have x2 := HX1.out.cell 2 _ rfl
    have x3 := HX1.out.cell 3 _ rfl
    have x4 := HX1.out.cell 4 _ rfl
    have hW3 := HW3.out
    go_enter Try.func13, Try.ntmps13
    go_wp2_with fail
    refine C.out.mono ?_
    rintro e w4 ⟨rfl, hB4⟩
    replace HX2 := hide (HX2.out.below8 hB4)
    replace HX3 := hide (HX3.out.below8 hB4)
    have HB4 := hide (HB03.out.trans (hB4.mono HB03.out.size))
    clear hB4 C HN HX1 HB03 x0 x1 x2 x3 x4 hW3 HW3
    go_wp2_with (first
      | (refine wp_load_box rfl _ rfl (w.heap.size + 2) rfl HX3.out Try.underlying50 rfl infoW ?_))
    refine (ours_any nilW none 0 0 w4).mono ?_
    rintro e w6 ⟨rfl, hB6⟩
    have HX26 := hide (HX2.out.below8 hB6)
    have HB6 : Hid (Below w.heap.size w w6) := hide (HB4.out.trans (hB6.mono HB4.out.size))
    clear hB6
    go_wp2_with (first
      | (refine wp_store_box rfl rfl _ _ rfl (w.heap.size + 1) rfl rfl HX26.out rfl infoRW (wcs_one _ _ _ _) ?_; intro w7 hb7 hk7; have HX7 := hide hb7; have HK7 := hide hk7; clear hb7 hk7))
    refine bodyPost_ret (results_two8 rfl _ _ (w.heap.size + 1) rfl rfl HX7.out Try.underlying39 rfl infoRW) rfl ?_
    exact ⟨rfl, HB6.out.trans (HK7.out.below HB6.out.size (fun k e => by omega))⟩
/-- What NetOwn's calls leave. -/
theorem own_facts8 (b : List Int) (hb : b.length ≤ 4000) : senA (newN 4) ⟨0, 0, b⟩ = 0 ∧ senD (newN 4) ⟨0, 0, b⟩ = ⟨4, [⟨0, 0, b⟩], 0⟩ ∧ twiA ⟨4, [⟨0, 0, b⟩], 0⟩ 0 = 0 ∧ twiD ⟨4, [⟨0, 0, b⟩], 0⟩ 0 = ⟨4, [⟨0, 0, b⟩, ⟨0, 0, b⟩], 0⟩ ∧ (⟨4, [⟨0, 0, b⟩, ⟨0, 0, b⟩], 0⟩ : Nt).nth 0 = ⟨0, 0, b⟩ ∧ atA ⟨4, [⟨0, 0, b⟩, ⟨0, 0, b⟩], 0⟩ 0 = 0 ∧ takD ⟨4, [⟨0, 0, b⟩, ⟨0, 0, b⟩], 0⟩ 0 = ⟨4, [⟨0, 0, b⟩], 0⟩ ∧ (⟨4, [⟨0, 0, b⟩], 0⟩ : Nt).nth 0 = ⟨0, 0, b⟩ ∧ atA ⟨4, [⟨0, 0, b⟩], 0⟩ 0 = 0 := by
  have h2 : ¬ 4096 < b.length := by omega
  refine ⟨?_, ?_, by rfl, by rfl, by rfl, by rfl, by rfl, by rfl, by rfl⟩
  · unfold senA; simp [newN, h2]
  · unfold senD; simp [newN, h2]
end Go.Proofs.Yteehkjdolmmapaa
