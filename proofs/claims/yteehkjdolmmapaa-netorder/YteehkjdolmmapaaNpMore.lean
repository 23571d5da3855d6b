/-
  The program's network: Twice, Send, Len, Lost, To, New; it fulfils the bundle. Own work.
-/
import Derived.Test.YteehkjdolmmapaaNpDo
import Derived.Deep.LoopGhost
import Derived.Test.YteehkjdolmmapaaNtRef6
namespace Go.Proofs.Yteehkjdolmmapaa
open Go.RowKit

set_option maxRecDepth 100000 in
set_option maxHeartbeats 1600000 in
theorem ntwice_any (p : Nat) (vb : Value) (ws : List (Wr × Value)) (n : Nt) (i : Int) (w : World) (h : PNw w p vb ws n) :
    Calls Try.prog 24 #[.pointer (some ⟨p, 0, none⟩), .int .i64 i] w fun e w' => e = .returned (.int .i64 (twiA n i)) ∧ PNid w w' p vb ws (twiD n i) := by
  have C := hide (nthere_any p vb ws n i w h)
  have HR0 := hide h
  have HOK := hide (twiD_ok h.ok i)
  have CF := hide (nfull_any p vb ws n w h)
  cases hi : n.inN i
  · have HE := hide (inN_no hi)
    have HE2 : Hid (twiA n i = 6) := hide (by unfold twiA; rw [hi]; rfl)
    have HT : Hid (twiD n i = n) := hide (by unfold twiD; rw [hi]; rfl)
    rw [HE2.out, HT.out]
    rw [HE.out] at C
    clear h hi
    go_enter Try.func24, Try.ntmps24
    go_wp2_with fail
    refine C.out.mono ?_
    rintro e w2 ⟨rfl, rfl⟩
    go_wp2_with fail
    go_ret
    exact ⟨rfl, PNid.of_below HR0.out (Below.refl _ _)⟩
  · obtain ⟨k, rfl, hk⟩ := inN_nat hi
    have hkw : k < ws.length := by rw [h.len]; exact hk
    have HE := hide (inN_yes hi)
    rw [HE.out] at C
    by_cases hfl : n.room ≤ n.l.length
    · have HE2 : Hid (twiA n (k : Int) = 9) := hide (by unfold twiA; rw [hi, if_pos rfl, if_pos hfl])
      have HT : Hid (twiD n (k : Int) = n) := hide (by unfold twiD; rw [hi, if_pos rfl, if_pos hfl])
      rw [HE2.out, HT.out]
      rw [decide_eq_true hfl] at CF
      clear h hi hkw hfl
      go_enter Try.func24, Try.ntmps24
      go_wp2_with fail
      refine C.out.mono ?_
      rintro e w2 ⟨rfl, rfl⟩
      go_wp2_with fail
      refine CF.out.mono ?_
      rintro e w3 ⟨rfl, m, hw3⟩
      have HB3 : Hid (Below w2.heap.size w2 w3) := hide (hw3 ▸ below_drewN8 w2 m)
      clear hw3
      go_wp2_with fail
      go_ret
      exact ⟨rfl, PNid.of_below HR0.out HB3.out⟩
    · have HE2 : Hid (twiA n (k : Int) = 0) := hide (by unfold twiA; rw [hi, if_pos rfl, if_neg hfl])
      have hT : twiD n (k : Int) = ⟨n.room, n.l ++ [n.nth (k : Int)], n.lost⟩ := by unfold twiD; rw [hi, if_pos rfl, if_neg hfl]
      rw [HE2.out, hT]
      rw [hT] at HOK
      rw [decide_eq_false hfl] at CF
      have hkl : (k : Int) < (n.l.length : Int) := by omega
      have hmx : n.l.length ≤ 256 := Nat.le_trans h.ok.full h.ok.r2
      clear h hi hfl hT
      go_enter Try.func24, Try.ntmps24
      go_wp2_with fail
      refine C.out.mono ?_
      rintro e w2 ⟨rfl, rfl⟩
      go_wp2_with fail
      refine CF.out.mono ?_
      rintro e w3 ⟨rfl, m, hw3⟩
      have HB3 : Hid (Below w2.heap.size w2 w3) := hide (hw3 ▸ below_drewN8 w2 m)
      clear hw3 C CF
      have hR := HR0.out.below HB3.out
      obtain ⟨c0, c1, c2⟩ := wcl_at hkw
      have hm := List.getElem_mem hkw
      obtain ⟨a2, cc2, hsv⟩ := (hR.by8 _ hm).shape
      have hn := hR.nth hkw
      obtain ⟨g, cap, hg, hvb, _⟩ := hR.block (by omega)
      obtain ⟨y, hy⟩ : ∃ y, y = ws[k] := ⟨_, rfl⟩
      rw [← hy] at c0 c1 c2 hn hm hsv
      obtain ⟨x, sv⟩ := y
      simp only at c0 c1 c2 hn hm hsv
      subst hsv
      rw [← hn] at HOK
      have HN := hide hn
      have q0 := hR.own.cells hg _ _ c0
      have q1 := hR.own.cells hg _ _ c1
      have q2 := hR.own.cells hg _ _ c2
      rw [Addr.add_lit, Nat.zero_add] at q0 q1 q2
      have m2 := hR.at.2.2.1
      rw [hvb] at m2
      have CA := hide (nadd_any p vb ws n x (.slice a2 x.b.length cc2) w3 hR (hR.by8 _ hm) (hR.far _ hm) HOK.out)
      unfold wcs at CA
      have HMEM := hide hm
      clear hR c0 c1 c2 hm hn hg hvb hy hkw
      go_wp2_with fail
      refine CA.out.mono ?_
      rintro e w4 ⟨rfl, h4⟩
      have H4 := hide (PNid.before HB3.out (h4.id (ws := ws) (fun y hy g e => by
        rcases List.mem_append.1 hy with hy | hy
        · exact .inl (.inr (.inr ⟨y, hy, e⟩))
        · obtain rfl : y = (x, .slice a2 x.b.length cc2) := by simpa using hy
          exact .inl (.inr (.inr ⟨_, HMEM.out, e⟩)))))
      clear h4 CA
      go_wp2_with fail
      go_ret
      exact ⟨rfl, by rw [← HN.out]; exact H4.out⟩
set_option maxRecDepth 100000 in
set_option maxHeartbeats 1600000 in
theorem nsend_any (p : Nat) (vb : Value) (ws : List (Wr × Value)) (n : Nt) (x : Wr) (sv : Value) (w : World) (h : PNw w p vb ws n) (hx : x.Ok) (hL : Lies .u8 w sv x.b) (hlost : n.lost ≤ 1000000) :
    Calls Try.prog 23 #[.pointer (some ⟨p, 0, none⟩), .agg (wcs x sv)] w fun e w' => e = .returned (.int .i64 (senA n x)) ∧ PNid w w' p vb ws (senD n x) := by
  obtain ⟨sa, sc, hsv⟩ := hL.shape
  subst hsv
  have hlm := hL.len
  unfold maxLen at hlm
  unfold wcs
  have HX0 := hide (box_new w #[.int .u8 (x.fr : Int), .int .u8 (x.to : Int), .slice sa x.b.length sc] 50)
  have hB := alloc_below8 w (.cells #[.int .u8 (x.fr : Int), .int .u8 (x.to : Int), .slice sa x.b.length sc] 50)
  obtain ⟨w1, hw1⟩ : ∃ w1, w1 = w.alloc (.cells #[.int .u8 (x.fr : Int), .int .u8 (x.to : Int), .slice sa x.b.length sc] 50) := ⟨_, rfl⟩
  have hW1 := hw1.symm
  rw [← hw1] at HX0 hB
  have HB := hide hB
  have HR1 := hide (h.below hB)
  have HR0 := hide h
  have HL1 := hide (hL.below hB)
  have HOK := hide (senD_ok h.ok hx)
  have C := hide (ngiven_any p vb ws n w1 HR1.out)
  have CF := hide (nfull_any p vb ws n w1 HR1.out)
  have x0 := HX0.out.cell 0 _ rfl
  have x1 := HX0.out.cell 1 _ rfl
  have x2 := HX0.out.cell 2 _ rfl
  have hf := hx.f
  have ht := hx.t
  clear h hx hL hB hw1
  by_cases h1 : 8 ≤ x.fr
  · have HE : Hid (senA n x = 1) := hide (by unfold senA; rw [if_pos (.inl h1)])
    have HT : Hid (senD n x = n) := hide (by unfold senD; rw [if_pos (.inl h1)])
    have d1 : decide ((x.fr : Int) ≥ 8) = true := decide_eq_true (by omega)
    have d1' : 8 ≤ (x.fr : Int) := by omega
    go_enter Try.func23, Try.ntmps23
    go_wp2_with fail
    refine C.out.mono ?_
    rintro e w2 ⟨rfl, rfl⟩
    go_wp2_with fail
    go_ret
    exact ⟨ret_int HE.out.symm, by rw [HT.out]; exact PNid.of_below HR0.out HB.out⟩
  · have d1 : decide ((x.fr : Int) ≥ 8) = false := decide_eq_false (by omega)
    have d1' : ¬ 8 ≤ (x.fr : Int) := by omega
    by_cases h2 : 8 ≤ x.to
    · have HE : Hid (senA n x = 1) := hide (by unfold senA; rw [if_pos (.inr h2)])
      have HT : Hid (senD n x = n) := hide (by unfold senD; rw [if_pos (.inr h2)])
      have d2 : decide ((x.to : Int) ≥ 8) = true := decide_eq_true (by omega)
      have d2' : 8 ≤ (x.to : Int) := by omega
      go_enter Try.func23, Try.ntmps23
      go_wp2_with fail
      refine C.out.mono ?_
      rintro e w2 ⟨rfl, rfl⟩
      go_wp2_with fail
      go_ret
      exact ⟨ret_int HE.out.symm, by rw [HT.out]; exact PNid.of_below HR0.out HB.out⟩
    · have d2 : decide ((x.to : Int) ≥ 8) = false := decide_eq_false (by omega)
      have d2' : ¬ 8 ≤ (x.to : Int) := by omega
      have h12 : ¬ (8 ≤ x.fr ∨ 8 ≤ x.to) := by omega
      by_cases h3 : 4096 < x.b.length
      · have HE : Hid (senA n x = 5) := hide (by unfold senA; rw [if_neg h12, if_pos h3])
        have HT : Hid (senD n x = n) := hide (by unfold senD; rw [if_neg h12, if_pos h3])
        have d3 : decide ((x.b.length : Int) > 4096) = true := decide_eq_true (by omega)
        go_enter Try.func23, Try.ntmps23
        go_wp2_with fail
        refine C.out.mono ?_
        rintro e w2 ⟨rfl, rfl⟩
        go_wp2_with fail
        go_ret
        exact ⟨ret_int HE.out.symm, by rw [HT.out]; exact PNid.of_below HR0.out HB.out⟩
      · have d3 : decide ((x.b.length : Int) > 4096) = false := decide_eq_false (by omega)
        by_cases hfl : n.room ≤ n.l.length
        · have HE : Hid (senA n x = 9) := hide (by unfold senA; rw [if_neg h12, if_neg h3, if_pos hfl])
          have HT : Hid (senD n x = { n with lost := n.lost + 1 }) := hide (by unfold senD; rw [if_neg h12, if_neg h3, if_pos hfl])
          rw [decide_eq_true hfl] at CF
          clear hfl
          go_enter Try.func23, Try.ntmps23
          go_wp2_with fail
          refine C.out.mono ?_
          rintro e w2 ⟨rfl, rfl⟩
          go_wp2_with fail
          refine CF.out.mono ?_
          rintro e w3 ⟨rfl, m, hw3⟩
          have HB3 : Hid (Below w2.heap.size w2 w3) := hide (hw3 ▸ below_drewN8 w2 m)
          have CL := hide (nlose_any p vb ws n w3 (HR1.out.below HB3.out) (by omega))
          clear hw3 C CF x0 x1 x2
          go_wp2_with fail
          refine CL.out.mono ?_
          rintro e w4 ⟨rfl, r4, k4⟩
          have H4 : Hid (PNid w w4 p vb ws { n with lost := n.lost + 1 }) := hide (PNid.before (HB.out.trans (HB3.out.mono HB.out.size)) ⟨vb, ws, r4, k4.mono (fun _ e => .inl e), fun _ h => .inl h⟩)
          clear r4 k4 CL
          go_wp2_with fail
          go_ret
          exact ⟨ret_int HE.out.symm, by rw [HT.out]; exact H4.out⟩
        · have HE : Hid (senA n x = 0) := hide (by unfold senA; rw [if_neg h12, if_neg h3, if_neg hfl])
          have hT : senD n x = ⟨n.room, n.l ++ [x], n.lost⟩ := by unfold senD; rw [if_neg h12, if_neg h3, if_neg hfl]
          have HT := hide hT
          rw [hT] at HOK
          rw [decide_eq_false hfl] at CF
          have hxl : x.b.length ≤ 1000000 := by omega
          clear hfl hT h12 h3
          go_enter Try.func23, Try.ntmps23
          go_wp2_with fail
          refine C.out.mono ?_
          rintro e w2 ⟨rfl, rfl⟩
          go_wp2_with fail
          refine CF.out.mono ?_
          rintro e w3 ⟨rfl, m, hw3⟩
          have HB3 : Hid (Below w2.heap.size w2 w3) := hide (hw3 ▸ below_drewN8 w2 m)
          have HX3 := hide (HX0.out.below8 HB3.out)
          have CC := hide (ncopied_any x (.slice sa x.b.length sc) w3 (HL1.out.below HB3.out) hxl)
          unfold wcs at CC
          clear hw3 C CF x0 x1 x2
          go_wp2_with (first
            | (refine wp_load_box rfl _ rfl w.heap.size rfl HX3.out Try.underlying50 rfl infoW ?_))
          refine CC.out.mono ?_
          rintro e w4 ⟨sv4, rfl, ho4, hB4⟩
          have hR4 := (HR1.out.below HB3.out).below hB4
          have hfar4 : ∀ g, sv4.ownBlock = some g → g < w4.heap.size ∧ g ≠ p ∧ vb.ownBlock ≠ some g := fun g e => by
            have hl := ho4.lt g e
            have hR3 := HR1.out.below HB3.out
            exact ⟨hl.2, fun e2 => by have := hR3.box.lt; omega, fun e2 => by have := (hR3.own.lt g e2).2; omega⟩
          have CA := hide (nadd_any p vb ws n x sv4 w4 hR4 (Lies.of_own ho4) hfar4 HOK.out)
          unfold wcs at CA
          have HB4 := hide (HB.out.trans ((HB3.out.trans (hB4.mono HB3.out.size)).mono HB.out.size))
          have HG4 : Hid (∀ g, sv4.ownBlock = some g → w.heap.size ≤ g) := hide (fun g e => by
            have := (ho4.lt g e).1
            have := HB.out.size
            have := HB3.out.size
            omega)
          obtain ⟨a4, c4, hv4⟩ := (Lies.of_own ho4).shape
          subst hv4
          clear hR4 hfar4 ho4 hB4 CC
          go_wp2_with fail
          refine CA.out.mono ?_
          rintro e w5 ⟨rfl, h5⟩
          have H5 : Hid (PNid w w5 p vb ws ⟨n.room, n.l ++ [x], n.lost⟩) := hide (by
            have hk : KeepBut (usesP p vb ws) w w4 := KeepBut.of_below _ HB4.out
            have h5' := h5.id (ws := ws ++ [(x, .slice a4 x.b.length c4)]) (fun y hy g e => .inl (.inr (.inr ⟨y, hy, e⟩)))
            refine PNid.then hk (fun j hj => ?_) h5'
            rcases hj with e | e | ⟨y, hy, e⟩
            · exact .inl (.inl e)
            · exact .inl (.inr (.inl e))
            · rcases List.mem_append.1 hy with hy | hy
              · exact .inl (.inr (.inr ⟨y, hy, e⟩))
              · obtain rfl : y = (x, .slice a4 x.b.length c4) := by simpa using hy
                exact .inr (HG4.out j e))
          clear h5 CA
          go_wp2_with fail
          go_ret
          exact ⟨ret_int HE.out.symm, by rw [HT.out]; exact H5.out⟩
theorem nlen_any (p : Nat) (vb : Value) (ws : List (Wr × Value)) (n : Nt) (w : World) (h : PNw w p vb ws n) :
    Calls Try.prog 16 #[.pointer (some ⟨p, 0, none⟩)] w fun e w' => e = .returned (.int .i64 (n.l.length : Int)) ∧ w' = w := by
  obtain ⟨m0, m1, m2, m3⟩ := h.at
  obtain ⟨ao, cap, hvb, hcap⟩ := h.shape
  rw [hvb] at m2
  have C := hide (ngiven_any p vb ws n w h)
  clear h
  go_enter Try.func16, Try.ntmps16
  go_wp2_with fail
  refine C.out.mono ?_
  rintro e w2 ⟨rfl, rfl⟩
  go_wp2_with fail
  go_ret
  exact ⟨rfl, rfl⟩
theorem nlost_any (p : Nat) (vb : Value) (ws : List (Wr × Value)) (n : Nt) (w : World) (h : PNw w p vb ws n) (hlost : n.lost ≤ 1000000) :
    Calls Try.prog 17 #[.pointer (some ⟨p, 0, none⟩)] w fun e w' => e = .returned (.int .i64 (n.lost : Int)) ∧ w' = w := by
  obtain ⟨m0, m1, m2, m3⟩ := h.at
  have C := hide (ngiven_any p vb ws n w h)
  clear h
  go_enter Try.func17, Try.ntmps17
  go_wp2_with fail
  refine C.out.mono ?_
  rintro e w2 ⟨rfl, rfl⟩
  go_wp2_with fail
  go_ret
  exact ⟨rfl, rfl⟩
set_option maxRecDepth 100000 in
set_option maxHeartbeats 1600000 in
theorem nto_any (p : Nat) (vb : Value) (ws : List (Wr × Value)) (n : Nt) (node : Nat) (w : World) (h : PNw w p vb ws n) :
    Calls Try.prog 19 #[.pointer (some ⟨p, 0, none⟩), .int .u8 (node : Int)] w fun e w' => ∃ v, e = .returned v ∧ Lies .i64 w' v (toL n node) ∧ Below w.heap.size w w' := by
  obtain ⟨ao, cap, hvb, hcap⟩ := h.shape
  have hmx : n.l.length ≤ 256 := Nat.le_trans h.ok.full h.ok.r2
  have HR := hide h
  have HVB := hide hvb
  obtain ⟨LN, hLN⟩ : ∃ LN, LN = n.l.length := ⟨_, rfl⟩
  have HLN := hide hLN
  have hL256 : LN ≤ 256 := by omega
  obtain ⟨m0, m1, m2, m3⟩ := h.at
  rw [hvb, ← hLN] at m2
  have C := hide (ngiven_any p vb ws n w h)
  clear h hvb hmx hLN m0 m1 m3
  go_enter Try.func19, Try.ntmps19
  go_wp2_with fail
  refine C.out.mono ?_
  rintro e w2 ⟨rfl, rfl⟩
  clear C
  go_wp2_with fail
  go_loopg [5, 16] LN (fun g x i wr => ∃ (k : Nat) (ax : Option Addr) (cx : Nat), k + g = LN ∧ x = .slice ax (toP n node k).length cx ∧ i = .int .i64 k ∧ Hid (wr.ownsRow w2.heap.size 3 1 (.slice ax (toP n node k).length cx) (toP n node k).length ((toP n node k).map (Value.int .i64))) ∧ Hid (Below w2.heap.size w2 wr))
  case atStart => exact ⟨0, none, 0, by omega, rfl, rfl, hide (World.ownsRow_nil _ _ _ _), hide (Below.refl _ _)⟩
  case round =>
    obtain ⟨k, ax, cx, hk, rfl, rfl, HO, HB⟩ := hrel
    have hR := HR.out.below HB.out
    have hpl := toP_len n node k
    have HS := HB.out.size
    cases gk with
    | zero =>
      obtain rfl : k = LN := by omega
      have hz : ¬ ((k : Int) < (k : Int)) := by omega
      have HT : Hid (toP n node k = toL n node) := hide (by rw [HLN.out]; rfl)
      rw [HT.out] at HO ⊢
      clear hR
      go_wp2_with fail
      go_ret
      exact ⟨_, rfl, lies_own64 HO.out, HB.out⟩
    | succ g =>
      have hz : (k : Int) < (LN : Int) := by omega
      have hkw : k < ws.length := by rw [HR.out.len, ← HLN.out]; omega
      obtain ⟨gb, cap2, hg, hvb2, _⟩ := hR.block (by omega)
      obtain ⟨c0, c1, c2⟩ := wcl_at hkw
      obtain ⟨sa, sc, hsv⟩ := (hR.by8 _ (List.getElem_mem hkw)).shape
      rw [hsv] at c2
      have r0 := hR.own.cells hg _ _ c0
      have r1 := hR.own.cells hg _ _ c1
      have r2 := hR.own.cells hg _ _ c2
      rw [Addr.add_lit, Nat.zero_add] at r0 r1 r2
      rw [HR.out.nth hkw] at r0 r1 r2
      have hnt : n.nth (k : Int) = n.l.getD k nilW := by
        have hi : n.inN (k : Int) = true := by unfold Nt.inN; rw [← HLN.out]; simp; omega
        unfold Nt.nth; rw [hi, if_pos rfl, Int.toNat_natCast]
      rw [hnt] at r0 r1 r2
      rw [HVB.out] at hvb2
      rw [← HLN.out] at hvb2
      cases hvb2
      clear hR c0 c1 c2 hg hnt hsv hkw
      by_cases hto : (n.l.getD k nilW).to = node
      · have HY := hide (toP_yes hto)
        rw [hto] at r1
        obtain ⟨ys, hys⟩ : ∃ ys, ys = toP n node k := ⟨_, rfl⟩
        rw [← hys] at HO HY hpl ⊢
        have heq : ((node : Int) == (node : Int)) = true := by simp
        obtain ⟨x, hx⟩ : ∃ x, x = n.l.getD k nilW := ⟨_, rfl⟩
        rw [← hx] at r0 r2
        have hA1 := alloc_below8 wr (.cells #[.int .u8 (x.fr : Int), .int .u8 (node : Int), .slice sa x.b.length sc] 50)
        obtain ⟨wr1, hwr1⟩ : ∃ wr1, wr1 = wr.alloc (.cells #[.int .u8 (x.fr : Int), .int .u8 (node : Int), .slice sa x.b.length sc] 50) := ⟨_, rfl⟩
        have hx1 := (box_new wr #[.int .u8 (x.fr : Int), .int .u8 (node : Int), .slice sa x.b.length sc] 50).cell 1 _ rfl
        rw [← hwr1] at hA1 hx1
        have hW := hwr1.symm
        have HA1 := hide hA1
        clear hto hys hx hA1 hwr1
        go_wp2_with (at_builtin; refine append_int8 _ rfl _ _ rfl w2.heap.size (.slice ax ys.length cx) ys (k : Int) ⟨wr1.heap.size, 0, none⟩ rfl (owns_keep (owns_keep HO.out (KeepBut.of_below (fun _ => False) HA1.out) (fun _ _ h => h)) (KeepBut.of_below (fun _ => False) (alloc_below8 wr1 _)) (fun _ _ h => h)) rfl ((box_new wr1 _ _).cell 0 _ rfl) (by omega) (by have := HA1.out.size; simp; omega) ?_; intro v4 w4 ho4 hg4; obtain ⟨a4, c4, hv4⟩ := owns_shape_i ho4; subst hv4; have HO4 := hide ho4; have HB4 : Hid (Below w2.heap.size w2 w4) := hide (((HB.out.trans (HA1.out.mono HB.out.size)).trans ((alloc_below8 wr1 _).mono (Nat.le_trans HB.out.size HA1.out.size))).grown hg4 (by have := HA1.out.size; simp; omega) (fun k hk => (HO.out.lt k hk).1)); clear ho4 hg4)
        go_roundg g
        case measure => omega
        case rel => exact ⟨k + 1, a4, c4, by omega, by rw [HY.out]; first | rfl | simp, by first | rfl | go_num, by rw [HY.out]; exact HO4, HB4⟩
      · have HY := hide (toP_no hto)
        obtain ⟨x, hx⟩ : ∃ x, x = n.l.getD k nilW := ⟨_, rfl⟩
        rw [← hx] at r0 r1 r2 hto
        have hne : ((x.to : Int) == (node : Int)) = false := by simp; omega
        have hA1 := alloc_below8 wr (.cells #[.int .u8 (x.fr : Int), .int .u8 (x.to : Int), .slice sa x.b.length sc] 50)
        obtain ⟨wr1, hwr1⟩ : ∃ wr1, wr1 = wr.alloc (.cells #[.int .u8 (x.fr : Int), .int .u8 (x.to : Int), .slice sa x.b.length sc] 50) := ⟨_, rfl⟩
        have hx1 := (box_new wr #[.int .u8 (x.fr : Int), .int .u8 (x.to : Int), .slice sa x.b.length sc] 50).cell 1 _ rfl
        rw [← hwr1] at hA1 hx1
        have hW := hwr1.symm
        rw [← HY.out]
        rw [← HY.out] at HO
        have HO1 := hide (owns_keep HO.out (KeepBut.of_below (fun _ => False) hA1) (fun _ _ h => h))
        have HB1 := hide (HB.out.trans (hA1.mono HB.out.size))
        clear hto hx hA1 hwr1
        go_wp2_with fail
        go_roundg g
        case measure => omega
        case rel => exact ⟨k + 1, ax, cx, by omega, rfl, by first | rfl | go_num, HO1, HB1⟩
set_option maxRecDepth 100000 in
theorem nnew_any (room : Int) (w : World) (h : newOk8 room = true) :
    Calls Try.prog 10 #[.int .i64 room] w fun e w' => e = .returned (.tuple #[.pointer (some ⟨w.heap.size, 0, none⟩), .int .i64 0]) ∧ PNw w' w.heap.size (.slice none 0 0) [] (newN room.toNat) ∧ Below w.heap.size w w' := by
  unfold newOk8 at h
  simp only [Bool.and_eq_true, decide_eq_true_eq] at h
  obtain ⟨rn, hrn⟩ : ∃ rn : Nat, rn = room.toNat := ⟨_, rfl⟩
  obtain ⟨h1, h2⟩ := h
  have hrm : room = (rn : Int) := by omega
  rw [← hrn]
  have hA := alloc_below8 w (.cells #[.bool true, .int .i64 (rn : Int), .slice none 0 0, .int .u32 0] 65)
  have hX := box_new w #[.bool true, .int .i64 (rn : Int), .slice none 0 0, .int .u32 0] 65
  have HP : Hid (PNw _ w.heap.size (.slice none 0 0) [] (newN rn)) := hide ⟨hX, World.ownsRow_nil _ _ _ _, by simp, rfl, newN_ok rn (by omega) (by omega), by simp⟩
  have HA := hide hA
  subst hrm
  have d1 : decide ((rn : Int) < 1) = false := decide_eq_false (by omega)
  have d2 : decide ((rn : Int) > 256) = false := decide_eq_false (by omega)
  clear hA hX h1 h2 hrn
  go_enter Try.func10, Try.ntmps10
  go_wp2
  go_ret2
  exact ⟨rfl, HP.out, HA.out⟩
set_option maxRecDepth 100000 in
theorem nnewNo_any (room : Int) (w : World) (h : newOk8 room = false) :
    Calls Try.prog 10 #[.int .i64 room] w fun e w' => e = .returned (.tuple #[.pointer none, .int .i64 1]) ∧ w' = w := by
  by_cases h1 : room < 1
  · have d1 : decide (room < 1) = true := decide_eq_true h1
    clear h h1
    go_enter Try.func10, Try.ntmps10
    go_wp2
    go_ret2
    exact ⟨rfl, rfl⟩
  · have d1 : decide (room < 1) = false := decide_eq_false h1
    have h2 : room > 256 := by
      unfold newOk8 at h
      simp at h
      omega
    have d2 : decide (room > 256) = true := decide_eq_true h2
    clear h h1 h2
    go_enter Try.func10, Try.ntmps10
    go_wp2
    go_ret2
    exact ⟨rfl, rfl⟩
/-- The program's network, with the blocks that it uses. -/
def PN8 (w : World) (q : Nat) (F : Nat → Prop) (n : Nt) : Prop := ∃ vb ws, PNw w q vb ws n ∧ ∀ k, F k ↔ usesP q vb ws k
theorem ndid_of {w w' : World} {q : Nat} {F : Nat → Prop} {vb : Value} {ws : List (Wr × Value)} {n' : Nt} (hF : ∀ k, F k ↔ usesP q vb ws k) (h : PNid w w' q vb ws n') : NDid PN8 w w' q F n' := by
  obtain ⟨vb', ws', h1, hk, hu⟩ := h
  exact ⟨usesP q vb' ws', ⟨vb', ws', h1, fun k => Iff.rfl⟩, hk.mono (fun k => (hF k).2), fun k h => (hu k h).imp (hF k).2 id⟩
/-- The program's network fulfils the bundle. -/
theorem pn_do : NetDo PN8 where
  keep := by
    rintro w w' q F S n ⟨vb, ws, h, hF⟩ hk hS
    exact ⟨vb, ws, h.keep hk (fun k hu => hS k ((hF k).2 hu)), hF⟩
  lt := by
    rintro w q F n ⟨vb, ws, h, hF⟩ k hk
    exact h.lt k ((hF k).1 hk)
  ok := by
    rintro w q F n ⟨vb, ws, h, hF⟩
    exact h.ok
  new := fun room w h => (nnew_any room w h).mono fun e w' h => by
    obtain ⟨h1, h2, h3⟩ := h
    refine ⟨w.heap.size, usesP w.heap.size (.slice none 0 0) [], h1, ⟨_, _, h2, fun k => Iff.rfl⟩, fun k hu => ?_, h3⟩
    rcases hu with e | e | ⟨x, hx, e⟩
    · omega
    · cases e
    · cases hx
  newNo := fun room w h => (nnewNo_any room w h).mono fun e w' h => ⟨h.1, by rw [h.2]; exact Below.refl _ _⟩
  sen := by
    rintro w q F n x sv ⟨vb, ws, h, hF⟩ hx hL hl
    exact (nsend_any q vb ws n x sv w h hx hL hl).mono fun e w' h => ⟨h.1, ndid_of hF h.2⟩
  tak := by
    rintro w q F n i ⟨vb, ws, h, hF⟩
    refine (ntake_any q vb ws n i w h).mono fun e w' h => ?_
    obtain ⟨sv, h1, vb', ws', r, hk, hu, ho, hg⟩ := h
    exact ⟨sv, h1, usesP q vb' ws', ⟨vb', ws', r, fun k => Iff.rfl⟩, hk.mono (fun k => (hF k).2), fun k h => (hu k h).imp (hF k).2 id, ho, fun g e => ⟨(hg g e).1, (hg g e).2.imp (hF g).2 id⟩⟩
  at' := by
    rintro w q F n i ⟨vb, ws, h, hF⟩
    exact nat_any q vb ws n i w h
  dro := by
    rintro w q F n i ⟨vb, ws, h, hF⟩ hl
    exact (ndrop_any q vb ws n i w h hl).mono fun e w' h => ⟨h.1, ndid_of hF h.2⟩
  twi := by
    rintro w q F n i ⟨vb, ws, h, hF⟩
    exact (ntwice_any q vb ws n i w h).mono fun e w' h => ⟨h.1, ndid_of hF h.2⟩
  lat := by
    rintro w q F n i ⟨vb, ws, h, hF⟩
    exact (nlate_any q vb ws n i w h).mono fun e w' h => ⟨h.1, ndid_of hF h.2⟩
  len := by
    rintro w q F n ⟨vb, ws, h, hF⟩
    exact (nlen_any q vb ws n w h).mono fun e w' h => ⟨h.1, 0, by rw [h.2]; rfl⟩
  los := by
    rintro w q F n ⟨vb, ws, h, hF⟩ hl
    exact (nlost_any q vb ws n w h hl).mono fun e w' h => ⟨h.1, 0, by rw [h.2]; rfl⟩
  to' := by
    rintro w q F n node ⟨vb, ws, h, hF⟩ _
    exact nto_any q vb ws n node w h
end Go.Proofs.Yteehkjdolmmapaa
