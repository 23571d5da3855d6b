/-
  The program's network: At, Take, Drop, Late. Own work.
-/
import Derived.Test.YteehkjdolmmapaaNpOps
namespace Go.Proofs.Yteehkjdolmmapaa
open Go.RowKit

/-- What a call leaves. -/
def PNid (w w' : World) (p : Nat) (vb : Value) (ws : List (Wr × Value)) (n' : Nt) : Prop :=
  ∃ vb' ws', PNw w' p vb' ws' n' ∧ KeepBut (usesP p vb ws) w w' ∧ ∀ k, usesP p vb' ws' k → usesP p vb ws k ∨ w.heap.size ≤ k
theorem PNid.of_below {w w' : World} {p : Nat} {vb : Value} {ws : List (Wr × Value)} {n : Nt} (h : PNw w p vb ws n) (hB : Below w.heap.size w w') : PNid w w' p vb ws n := ⟨vb, ws, h.below hB, KeepBut.of_below _ hB, fun _ h => .inl h⟩
theorem PNid.before {w w1 w2 : World} {p : Nat} {vb : Value} {ws : List (Wr × Value)} {n : Nt} (hB : Below w.heap.size w w1) (h : PNid w1 w2 p vb ws n) : PNid w w2 p vb ws n := by
  obtain ⟨vb', ws', h1, hk, hu⟩ := h
  exact ⟨vb', ws', h1, (KeepBut.of_below (usesP p vb ws) hB).trans hk (fun _ _ h => h), fun k hk => (hu k hk).imp id (fun h => Nat.le_trans hB.size h)⟩
theorem PNid.after {w w1 w2 : World} {p : Nat} {vb : Value} {ws : List (Wr × Value)} {n : Nt} (h : PNid w w1 p vb ws n) (hB : Below w1.heap.size w1 w2) : PNid w w2 p vb ws n := by
  obtain ⟨vb', ws', h1, hk, hu⟩ := h
  exact ⟨vb', ws', h1.below hB, hk.trans (KeepBut.of_below (usesP p vb ws) hB) (fun _ _ h => h), hu⟩
theorem PAdd.id {w w' : World} {p : Nat} {vb : Value} {ws ws' : List (Wr × Value)} {n' : Nt} (h : PAdd w w' p vb ws' n') (hm : ∀ y ∈ ws', ∀ g, y.2.ownBlock = some g → usesP p vb ws g ∨ w.heap.size ≤ g) : PNid w w' p vb ws n' := by
  obtain ⟨vb', h1, hk, hob⟩ := h
  refine ⟨vb', ws', h1, hk.mono (fun k e => e.elim .inl (fun e => .inr (.inl e))), fun k hu => ?_⟩
  rcases hu with e | e | ⟨y, hy, e⟩
  · exact .inl (.inl e)
  · rcases hob with h2 | h2
    · rw [h2] at e; exact .inl (.inr (.inl e))
    · exact .inr (h2 k e)
  · exact hm y hy k e
/-- A call behind another one. -/
theorem PNid.then {w w1 w2 : World} {p : Nat} {vb vb1 : Value} {ws ws1 : List (Wr × Value)} {n' : Nt} (hk : KeepBut (usesP p vb ws) w w1) (hu : ∀ k, usesP p vb1 ws1 k → usesP p vb ws k ∨ w.heap.size ≤ k) (h : PNid w1 w2 p vb1 ws1 n') : PNid w w2 p vb ws n' := by
  obtain ⟨vb', ws', h1, hk2, hu2⟩ := h
  refine ⟨vb', ws', h1, hk.trans (hk2.mono (S' := fun k => usesP p vb ws k ∨ w.heap.size ≤ k) hu) (fun k hk h => h.elim id (fun h => by omega)), fun k hk' => ?_⟩
  rcases hu2 k hk' with e | e
  · exact hu k e
  · exact .inr (Nat.le_trans hk.size e)
theorem inN_yes {n : Nt} {i : Int} (h : n.inN i = true) : atA n i = 0 := by unfold atA; rw [h]; rfl
theorem inN_no {n : Nt} {i : Int} (h : n.inN i = false) : atA n i = 6 := by unfold atA; rw [h]; rfl
set_option maxRecDepth 100000 in
set_option maxHeartbeats 1600000 in
theorem nat_any (p : Nat) (vb : Value) (ws : List (Wr × Value)) (n : Nt) (i : Int) (w : World) (h : PNw w p vb ws n) :
    Calls Try.prog 21 #[.pointer (some ⟨p, 0, none⟩), .int .i64 i] w fun e w' => ∃ sv, e = .returned (.tuple #[.agg (wcs (n.nth i) sv), .int .i64 (atA n i)]) ∧ w'.ownsRow w.heap.size 5 1 sv (n.nth i).b.length ((n.nth i).b.map (Value.int .u8)) ∧ Below w.heap.size w w' := by
  have hA := alloc_below8 w (.cells #[.int .u8 0, .int .u8 0, .slice none 0 0] 50)
  have hX := box_new w #[.int .u8 0, .int .u8 0, .slice none 0 0] 50
  obtain ⟨w1, hw1⟩ : ∃ w1, w1 = w.alloc (.cells #[.int .u8 0, .int .u8 0, .slice none 0 0] 50) := ⟨_, rfl⟩
  have hW1 := hw1.symm
  rw [← hw1] at hA hX
  have hR := h.below hA
  have C := hide (nthere_any p vb ws n i w1 hR)
  have HX := hide hX
  have HB := hide hA
  cases hi : n.inN i
  · have HW : Hid (n.nth i = nilW) := hide (by unfold Nt.nth; rw [hi]; rfl)
    have HE := hide (inN_no hi)
    rw [HE.out] at C ⊢
    clear h hR hA hX hw1 hi
    go_enter Try.func21, Try.ntmps21
    go_wp2_with fail
    refine C.out.mono ?_
    rintro e w2 ⟨rfl, rfl⟩
    go_wp2_with (first
      | (refine wp_store_box rfl rfl _ _ rfl w.heap.size rfl rfl HX.out rfl infoW (wcs_one nilW none 0 0) ?_; intro w4 hb4 hk4; have HX4 := hide hb4; have HK4 := hide hk4; clear hb4 hk4))
    refine bodyPost_ret (results_two8 rfl _ _ w.heap.size rfl rfl HX4.out Try.underlying50 rfl infoW) rfl ?_
    rw [HW.out]
    exact ⟨.slice none 0 0, rfl, World.ownsRow_nil _ _ _ _, HB.out.trans (HK4.out.below HB.out.size (fun k e => by omega))⟩
  · obtain ⟨k, rfl, hk⟩ := inN_nat hi
    have hkw : k < ws.length := by rw [h.len]; exact hk
    have HE := hide (inN_yes hi)
    rw [HE.out] at C ⊢
    obtain ⟨c0, c1, c2⟩ := wcl_at hkw
    have hm := List.getElem_mem hkw
    obtain ⟨a2, cc2, hsv⟩ := (h.by8 _ hm).shape
    have hLx := hR.by8 _ hm
    have hn := h.nth hkw
    rw [hn] at c0 c1 hsv hLx
    rw [hsv] at c2 hLx
    obtain ⟨g, cap, hg, hvb, _⟩ := h.block (by omega)
    have q0 := hR.own.cells hg _ _ c0
    have q1 := hR.own.cells hg _ _ c1
    have q2 := hR.own.cells hg _ _ c2
    rw [Addr.add_lit, Nat.zero_add] at q0 q1 q2
    have m2 := hR.at.2.2.1
    rw [hvb] at m2
    have hkl : (k : Int) < (n.l.length : Int) := by omega
    have hmx : n.l.length ≤ 256 := Nat.le_trans h.ok.full h.ok.r2
    have hxl := (nth_ok h.ok (k : Int)).2
    obtain ⟨x, hx⟩ : ∃ x, x = n.nth (k : Int) := ⟨_, rfl⟩
    rw [← hx] at q0 q1 q2 hLx hxl ⊢
    have CC := hide (ncopied_any x (.slice a2 x.b.length cc2) w1 hLx (by omega))
    unfold wcs at CC
    clear h hR hA hX hw1 hi hx hLx hsv hn hm c0 c1 c2 hg hvb hkw
    go_enter Try.func21, Try.ntmps21
    go_wp2_with fail
    refine C.out.mono ?_
    rintro e w2 ⟨rfl, rfl⟩
    go_wp2_with fail
    refine CC.out.mono ?_
    rintro e w3 ⟨sv3, rfl, ho3, hB3⟩
    obtain ⟨a3, c3, hv3⟩ := (Lies.of_own ho3).shape
    subst hv3
    have HX3 := hide (HX.out.below8 hB3)
    have HO3 := hide ho3
    have HB3 := hide (HB.out.trans (hB3.mono HB.out.size))
    have HS : Hid (w.heap.size < w2.heap.size) := hide HX.out.lt
    clear ho3 hB3 CC C
    go_wp2_with (first
      | (refine wp_store_box rfl rfl _ _ rfl w.heap.size rfl rfl HX3.out rfl infoW (wcs_one x _ _ _) ?_; intro w4 hb4 hk4; have HX4 := hide hb4; have HK4 := hide hk4; clear hb4 hk4))
    refine bodyPost_ret (results_two8 rfl _ _ w.heap.size rfl rfl HX4.out Try.underlying50 rfl infoW) rfl ?_
    refine ⟨_, rfl, owns_keep ?_ HK4.out (fun g' e e2 => ?_), HB3.out.trans (HK4.out.below HB3.out.size (fun k e => by omega))⟩
    · obtain ⟨hl, h0 | ⟨g', cap', cur, e, hg', r⟩⟩ := HO3.out
      · exact ⟨hl, .inl h0⟩
      · exact ⟨hl, .inr ⟨g', cap', cur, e, Nat.le_trans HB.out.size hg', r⟩⟩
    · have := (HO3.out.lt g' e).1
      have := HS.out
      omega
/-- Out of what remove leaves. -/
theorem erase_uses {w : World} {p : Nat} {vb : Value} {ws : List (Wr × Value)} (k : Nat) : ∀ y ∈ ws.eraseIdx k, ∀ g, y.2.ownBlock = some g → usesP p vb ws g ∨ w.heap.size ≤ g := fun y hy _ e => .inl (.inr (.inr ⟨y, List.mem_of_mem_eraseIdx hy, e⟩))
/-- What Take leaves. -/
def PTk (w w' : World) (p : Nat) (vb : Value) (ws : List (Wr × Value)) (n' : Nt) (sv : Value) (bs : List Int) : Prop :=
  ∃ vb' ws', PNw w' p vb' ws' n' ∧ KeepBut (usesP p vb ws) w w' ∧ (∀ k, usesP p vb' ws' k → usesP p vb ws k ∨ w.heap.size ≤ k) ∧ w'.ownsRow 0 5 1 sv bs.length (bs.map (Value.int .u8)) ∧ ∀ g, sv.ownBlock = some g → ¬ usesP p vb' ws' g ∧ (usesP p vb ws g ∨ w.heap.size ≤ g)
set_option maxRecDepth 100000 in
set_option maxHeartbeats 1600000 in
theorem ntake_any (p : Nat) (vb : Value) (ws : List (Wr × Value)) (n : Nt) (i : Int) (w : World) (h : PNw w p vb ws n) :
    Calls Try.prog 25 #[.pointer (some ⟨p, 0, none⟩), .int .i64 i] w fun e w' => ∃ sv, e = .returned (.tuple #[.agg (wcs (n.nth i) sv), .int .i64 (atA n i)]) ∧ PTk w w' p vb ws (takD n i) sv (n.nth i).b := by
  have hA := alloc_below8 w (.cells #[.int .u8 0, .int .u8 0, .slice none 0 0] 50)
  have hX := box_new w #[.int .u8 0, .int .u8 0, .slice none 0 0] 50
  obtain ⟨w1, hw1⟩ : ∃ w1, w1 = w.alloc (.cells #[.int .u8 0, .int .u8 0, .slice none 0 0] 50) := ⟨_, rfl⟩
  have hW1 := hw1.symm
  rw [← hw1] at hA hX
  have hR := h.below hA
  have C := hide (nthere_any p vb ws n i w1 hR)
  have HX := hide hX
  have HB := hide hA
  have HR0 := hide h
  have hne : ∀ j, usesP p vb ws j → ¬ j = w.heap.size := fun j hu e => by have := h.lt j hu; omega
  have HNE := hide hne
  cases hi : n.inN i
  · have HW : Hid (n.nth i = nilW) := hide (by unfold Nt.nth; rw [hi]; rfl)
    have HE := hide (inN_no hi)
    have HT : Hid (takD n i = n) := hide (by unfold takD; rw [hi]; rfl)
    rw [HE.out] at C ⊢
    clear h hR hA hX hw1 hi hne
    go_enter Try.func25, Try.ntmps25
    go_wp2_with fail
    refine C.out.mono ?_
    rintro e w2 ⟨rfl, rfl⟩
    go_wp2_with (first
      | (refine wp_store_box rfl rfl _ _ rfl w.heap.size rfl rfl HX.out rfl infoW (wcs_one nilW none 0 0) ?_; intro w4 hb4 hk4; have HX4 := hide hb4; have HK4 := hide hk4; clear hb4 hk4))
    refine bodyPost_ret (results_two8 rfl _ _ w.heap.size rfl rfl HX4.out Try.underlying50 rfl infoW) rfl ?_
    rw [HW.out, HT.out]
    have hB4 := HB.out.trans (HK4.out.below HB.out.size (fun k e => by omega))
    exact ⟨.slice none 0 0, rfl, vb, ws, HR0.out.below hB4, KeepBut.of_below _ hB4, fun _ h => .inl h, World.ownsRow_nil _ _ _ _, fun g e => by cases e⟩
  · obtain ⟨k, rfl, hk⟩ := inN_nat hi
    have hkw : k < ws.length := by rw [h.len]; exact hk
    have HE := hide (inN_yes hi)
    have HT : Hid (takD n (k : Int) = ⟨n.room, n.l.eraseIdx k, n.lost⟩) := hide (by unfold takD; rw [hi, if_pos rfl, Int.toNat_natCast])
    rw [HE.out, HT.out]
    rw [HE.out] at C
    have hm := List.getElem_mem hkw
    have hn := h.nth hkw
    have CR := hide (nremove_any p vb ws n k w1 hR hkw)
    obtain ⟨a2, cc2, hsv⟩ := (h.by8 _ hm).shape
    have hxl := (nth_ok h.ok (k : Int)).2
    obtain ⟨y, hy⟩ : ∃ y, y = ws[k] := ⟨_, rfl⟩
    rw [← hy] at hn CR hsv hm
    have HLX := hide (hR.by8 _ hm)
    have HFAR := hide (hR.far _ hm)
    obtain ⟨x, sv⟩ := y
    simp only at hn hsv CR HLX HFAR
    subst hsv
    rw [← hn] at hxl ⊢
    clear h hR hA hX hw1 hi hm hy hn hkw hne
    go_enter Try.func25, Try.ntmps25
    go_wp2_with fail
    refine C.out.mono ?_
    rintro e w2 ⟨rfl, rfl⟩
    go_wp2_with fail
    refine CR.out.mono ?_
    rintro e w3 ⟨rfl, h3⟩
    have H3 := hide (h3.id (ws := ws) (erase_uses k))
    obtain ⟨v3, r3, k3, o3⟩ := h3
    have hL3 := HLX.out.keptP k3 (fun g e hw => by
      have hf := HFAR.out g e
      rcases hw with e2 | e2
      · exact hf.2.1 e2
      · exact hf.2.2 e2)
    have CC := hide (ncopied_any x (.slice a2 x.b.length cc2) w3 hL3 (by omega))
    have HX3 := hide (HX.out.keep k3 (fun hw => by
      rcases hw with e2 | e2
      · exact HNE.out p (.inl rfl) e2.symm
      · exact HNE.out _ (.inr (.inl e2)) rfl))
    have HSZ : Hid (w.heap.size < w2.heap.size ∧ w2.heap.size ≤ w3.heap.size) := hide ⟨HX.out.lt, k3.size⟩
    clear C CR HLX HFAR hL3 o3 k3 r3
    go_wp2_with fail
    refine CC.out.mono ?_
    rintro e w4 ⟨sv4, rfl, ho4, hB4⟩
    obtain ⟨a4, c4, hv4⟩ := (Lies.of_own ho4).shape
    subst hv4
    have HX4 := hide (HX3.out.below8 hB4)
    have HO4 := hide ho4
    have H4 := hide hB4
    clear ho4 hB4 CC
    go_wp2_with (first
      | (refine wp_store_box rfl rfl _ _ rfl w.heap.size rfl rfl HX4.out rfl infoW (wcs_one x _ _ _) ?_; intro w5 hb5 hk5; have HX5 := hide hb5; have HK5 := hide hk5; clear hb5 hk5))
    refine bodyPost_ret (results_two8 rfl _ _ w.heap.size rfl rfl HX5.out Try.underlying50 rfl infoW) rfl ?_
    obtain ⟨hs2, hs3⟩ := HSZ.out
    obtain ⟨vb', ws', r, kk, hu⟩ := H3.out
    have hB4 := H4.out
    have hK5 := HK5.out
    have hne2 : ∀ j, usesP p vb' ws' j → ¬ j = w.heap.size := fun j hj e => by
      subst e
      rcases hu _ hj with h | h
      · exact HNE.out _ h rfl
      · omega
    have hO4 := HO4.out
    refine ⟨_, rfl, vb', ws', (r.below hB4).keep hK5 hne2, ?_, fun j hj => (hu j hj).imp id (fun h => by omega), owns_any8 (owns_keep hO4 hK5 (fun g e e2 => by have := (hO4.lt g e).1; omega)), fun g e => ⟨fun hj => ?_, .inr ?_⟩⟩
    · exact ((((KeepBut.of_below (usesP p vb ws) HB.out).trans kk (fun _ _ h => h)).trans (KeepBut.of_below (usesP p vb ws) hB4) (fun _ _ h => h))).trans (hK5.mono (S' := fun j => usesP p vb ws j ∨ w.heap.size ≤ j) (fun j e => .inr (Nat.le_of_eq e.symm))) (fun j hj h => h.elim id (fun h => by omega))
    · have h1 := r.lt g hj
      have h2 := (hO4.lt g e).1
      omega
    · have h2 := (hO4.lt g e).1
      omega
set_option maxRecDepth 100000 in
set_option maxHeartbeats 1600000 in
theorem ndrop_any (p : Nat) (vb : Value) (ws : List (Wr × Value)) (n : Nt) (i : Int) (w : World) (h : PNw w p vb ws n) (hlost : n.lost ≤ 1000000) :
    Calls Try.prog 28 #[.pointer (some ⟨p, 0, none⟩), .int .i64 i] w fun e w' => e = .returned (.int .i64 (atA n i)) ∧ PNid w w' p vb ws (droD n i) := by
  have C := hide (nthere_any p vb ws n i w h)
  have HR0 := hide h
  cases hi : n.inN i
  · have HE := hide (inN_no hi)
    have HT : Hid (droD n i = n) := hide (by unfold droD; rw [hi]; rfl)
    rw [HE.out, HT.out]
    rw [HE.out] at C
    clear h hi
    go_enter Try.func28, Try.ntmps28
    go_wp2_with fail
    refine C.out.mono ?_
    rintro e w2 ⟨rfl, rfl⟩
    go_wp2_with fail
    go_ret
    exact ⟨rfl, PNid.of_below HR0.out (Below.refl _ _)⟩
  · obtain ⟨k, rfl, hk⟩ := inN_nat hi
    have hkw : k < ws.length := by rw [h.len]; exact hk
    have HE := hide (inN_yes hi)
    have HT : Hid (droD n (k : Int) = ⟨n.room, n.l.eraseIdx k, n.lost + 1⟩) := hide (by unfold droD; rw [hi, if_pos rfl, Int.toNat_natCast])
    rw [HE.out, HT.out]
    rw [HE.out] at C
    have CR := hide (nremove_any p vb ws n k w h hkw)
    generalize wcs ws[k].fst ws[k].snd = yv at CR
    clear h hi hkw
    go_enter Try.func28, Try.ntmps28
    go_wp2_with fail
    refine C.out.mono ?_
    rintro e w2 ⟨rfl, rfl⟩
    go_wp2_with fail
    refine CR.out.mono ?_
    rintro e w3 ⟨rfl, h3⟩
    obtain ⟨vb', ws', r, kk, hu⟩ := h3.id (ws := ws) (erase_uses k)
    have CL := hide (nlose_any p vb' ws' _ w3 r (by show n.lost ≤ 1000001; omega))
    have HKK := hide kk
    have HU := hide hu
    clear h3 r kk hu C CR
    go_wp2_with fail
    refine CL.out.mono ?_
    rintro e w4 ⟨rfl, r4, k4⟩
    have HR4 := hide r4
    have HK4 := hide (HKK.out.trans (k4.mono (S' := usesP p vb ws) (fun _ e => .inl e)) (fun _ _ h => h))
    clear r4 k4 CL
    go_wp2_with fail
    go_ret
    exact ⟨rfl, vb', ws', HR4.out, HK4.out, HU.out⟩
set_option maxRecDepth 100000 in
set_option maxHeartbeats 1600000 in
theorem nlate_any (p : Nat) (vb : Value) (ws : List (Wr × Value)) (n : Nt) (i : Int) (w : World) (h : PNw w p vb ws n) :
    Calls Try.prog 27 #[.pointer (some ⟨p, 0, none⟩), .int .i64 i] w fun e w' => e = .returned (.int .i64 (atA n i)) ∧ PNid w w' p vb ws (latD n i) := by
  have C := hide (nthere_any p vb ws n i w h)
  have HR0 := hide h
  have HOK := hide (latD_ok h.ok i)
  cases hi : n.inN i
  · have HE := hide (inN_no hi)
    have HT : Hid (latD n i = n) := hide (by unfold latD; rw [hi]; rfl)
    rw [HE.out, HT.out]
    rw [HE.out] at C
    clear h hi
    go_enter Try.func27, Try.ntmps27
    go_wp2_with fail
    refine C.out.mono ?_
    rintro e w2 ⟨rfl, rfl⟩
    go_wp2_with fail
    go_ret
    exact ⟨rfl, PNid.of_below HR0.out (Below.refl _ _)⟩
  · obtain ⟨k, rfl, hk⟩ := inN_nat hi
    have hkw : k < ws.length := by rw [h.len]; exact hk
    have HE := hide (inN_yes hi)
    have hT : latD n (k : Int) = ⟨n.room, n.l.eraseIdx k ++ [n.nth (k : Int)], n.lost⟩ := by unfold latD; rw [hi, if_pos rfl, Int.toNat_natCast]
    have HT := hide hT
    rw [HE.out, HT.out]
    rw [HE.out] at C
    rw [hT] at HOK
    have hm := List.getElem_mem hkw
    have hn := h.nth hkw
    have CR := hide (nremove_any p vb ws n k w h hkw)
    obtain ⟨y, hy⟩ : ∃ y, y = ws[k] := ⟨_, rfl⟩
    rw [← hy] at hn CR hm
    have HLX := hide (h.by8 _ hm)
    have HFAR := hide (h.far _ hm)
    have HMEM := hide hm
    obtain ⟨x, sv⟩ := y
    simp only at hn CR HLX HFAR
    rw [← hn] at HOK ⊢
    clear h hi hkw hm hn hy hT HT
    go_enter Try.func27, Try.ntmps27
    go_wp2_with fail
    refine C.out.mono ?_
    rintro e w2 ⟨rfl, rfl⟩
    go_wp2_with fail
    refine CR.out.mono ?_
    rintro e w3 ⟨rfl, h3⟩
    obtain ⟨v3, r3, k3, o3⟩ := h3
    have hL3 := HLX.out.keptP k3 (fun g e hw => by
      have hf := HFAR.out g e
      rcases hw with e2 | e2
      · exact hf.2.1 e2
      · exact hf.2.2 e2)
    have hfar3 : ∀ g, sv.ownBlock = some g → g < w3.heap.size ∧ g ≠ p ∧ v3.ownBlock ≠ some g := fun g e => by
      have hf := HFAR.out g e
      refine ⟨Nat.lt_of_lt_of_le hf.1 k3.size, hf.2.1, fun e2 => ?_⟩
      rcases o3 with o | o
      · rw [o] at e2; exact hf.2.2 e2
      · have := o g e2; omega
    have CA := hide (nadd_any p v3 (ws.eraseIdx k) _ x sv w3 r3 hL3 hfar3 HOK.out)
    have HH3 : Hid (PAdd w2 w3 p vb (ws.eraseIdx k) ⟨n.room, n.l.eraseIdx k, n.lost⟩) := hide ⟨v3, r3, k3, o3⟩
    have HK3 := hide k3
    have HO3 := hide o3
    clear hL3 hfar3 r3 k3 o3 C CR HLX HFAR
    go_wp2_with fail
    refine CA.out.mono ?_
    rintro e w4 ⟨rfl, h4⟩
    have H4 : Hid (PNid w2 w4 p vb ws ⟨n.room, n.l.eraseIdx k ++ [x], n.lost⟩) := hide (by
      have hk3 : KeepBut (usesP p vb ws) w2 w3 := HK3.out.mono (fun j e => e.elim .inl (fun e => .inr (.inl e)))
      have hu3 : ∀ j, usesP p v3 (ws.eraseIdx k) j → usesP p vb ws j ∨ w2.heap.size ≤ j := fun j hj => by
        rcases hj with e | e | ⟨y, hy, e⟩
        · exact .inl (.inl e)
        · rcases HO3.out with o | o
          · rw [o] at e; exact .inl (.inr (.inl e))
          · exact .inr (o j e)
        · exact erase_uses k y hy j e
      obtain ⟨vb', r4, k4, o4⟩ := h4
      have h4' : PNid w3 w4 p v3 (ws.eraseIdx k ++ [(x, sv)]) ⟨n.room, n.l.eraseIdx k ++ [x], n.lost⟩ := PAdd.id ⟨vb', r4, k4, o4⟩ (fun y hy g e => .inl (.inr (.inr ⟨y, hy, e⟩)))
      refine PNid.then hk3 (fun j hj => ?_) h4'
      rcases hj with e | e | ⟨y, hy, e⟩
      · exact hu3 j (.inl e)
      · exact hu3 j (.inr (.inl e))
      · rcases List.mem_append.1 hy with hy | hy
        · exact hu3 j (.inr (.inr ⟨y, hy, e⟩))
        · obtain rfl : y = (x, sv) := by simpa using hy
          exact .inl (.inr (.inr ⟨_, HMEM.out, e⟩)))
    clear h4 CA
    go_wp2_with fail
    go_ret
    exact ⟨rfl, H4.out⟩
end Go.Proofs.Yteehkjdolmmapaa
