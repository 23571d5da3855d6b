/-
  The reference's network: Send. Own work.
-/
import Derived.Test.YteehkjdolmmapaaNtRef4
namespace Go.Proofs.Yteehkjdolmmapaa
open Go.RowKit

/-- 'append([]byte(nil), x...)', as a run. -/
theorem app_bytes (w : World) (vx : Value) (xs : List Int) (hL : Lies .u8 w vx xs) (hb : xs.length ≤ 1000000) :
    ∃ v' w', (∀ ty, (appR8 #[35, 35] ty #[.slice none 0 0, vx]).run Try.prog w = .ok v' w') ∧ w'.ownsRow w.heap.size 5 1 v' xs.length (xs.map (Value.int .u8)) ∧ Below w.heap.size w w' := by
  obtain ⟨i0, hi, hz0, hz1, hz2⟩ := info_parts info5
  rcases hL with ⟨rfl, ao, cap, rfl, h0⟩ | ⟨_, b, off, cap, rfl, _, _, _, hc⟩
  · cases ao with
    | none =>
      obtain rfl := h0 rfl
      exact ⟨.slice none 0 0, w, fun ty => run_append_owned_none (P := Try.prog) (w := w) w.heap.size 35 ty 5 i0 1 Try.underlying35 hi _ 0 [] (World.ownsRow_nil _ _ _ _), World.ownsRow_nil _ _ _ _, Below.refl _ _⟩
    | some ad =>
      obtain ⟨v', w', hr, ho, hg, _⟩ := run_append_own_wide (P := Try.prog) w w.heap.size 35 35 5 i0 (.int .u8 0) 1 1 Try.underlying35 hi hz0 hz1 hz2 rfl (by decide) (.slice none 0 0) 0 [] (World.ownsRow_nil _ _ _ _) ad 0 cap [] rfl (fun j u hj => by simp at hj) (fun u hu => by simp at hu) (by unfold maxLen; omega) (by omega) (Nat.le_refl _)
      exact ⟨v', w', fun ty => hr, by simpa using ho, (Below.refl _ _).grown hg (Nat.le_refl _) (fun k hk => by cases hk)⟩
  · obtain ⟨v', w', hr, ho, hg, _⟩ := run_append_own_wide (P := Try.prog) w w.heap.size 35 35 5 i0 (.int .u8 0) 1 1 Try.underlying35 hi hz0 hz1 hz2 rfl (by decide) (.slice none 0 0) 0 [] (World.ownsRow_nil _ _ _ _) ⟨b, off, none⟩ xs.length cap (xs.map (Value.int .u8)) (by simp)
      (fun j u hu => by
        have hj : j < xs.length := by
          have := (List.getElem?_eq_some_iff.1 hu).1
          simpa using this
        rw [Addr.add_lit, hc j hj]
        simp [hj] at hu ⊢
        exact hu) (ints_oneCell _ _) (by unfold maxLen; omega) (by omega) (Nat.le_refl _)
    exact ⟨v', w', fun ty => hr, by simpa using ho, (Below.refl _ _).grown hg (Nat.le_refl _) (fun k hk => by cases hk)⟩
theorem rows_apart {w : World} {b b' n n' g : Nat} {v s : Value} {xs ys : List Value} (h : w.ownsRow b 39 3 v n xs) (h' : w.ownsRow b' 5 1 s n' ys) (e : s.ownBlock = some g) : v.ownBlock ≠ some g := by
  intro e2
  obtain ⟨_, ⟨rfl, _⟩ | ⟨g1, cap, cur, rfl, _, hh, _⟩⟩ := h
  · cases e2
  · obtain ⟨_, ⟨rfl, _⟩ | ⟨g2, cap', cur', rfl, _, hh', _⟩⟩ := h'
    · cases e
    · cases e
      cases e2
      rw [hh] at hh'
      have := Option.some.inj hh'
      injection this with _ h2
      exact absurd h2 (by decide)
theorem owns_below8 {w w' : World} {b e s n : Nat} {v : Value} {xs : List Value} (h : w.ownsRow b e s v n xs) (hB : Below w.heap.size w w') : w'.ownsRow b e s v n xs := owns_keep h (KeepBut.of_below (fun _ => False) hB) (fun _ _ h => h)
theorem owns_low {w : World} {b b' e s n : Nat} {v : Value} {xs : List Value} (h : w.ownsRow b e s v n xs) (hb : b' ≤ b) : w.ownsRow b' e s v n xs := by
  obtain ⟨hl, h0 | ⟨g, cap, cur, rfl, hg, r⟩⟩ := h
  · exact ⟨hl, .inl h0⟩
  · exact ⟨hl, .inr ⟨g, cap, cur, rfl, Nat.le_trans hb hg, r⟩⟩
theorem owns_shape1 {w : World} {base n : Nat} {v : Value} {xs : List Value} (h : w.ownsRow base 5 1 v n xs) : ∃ ao cap, v = .slice ao n cap := by
  obtain ⟨_, ⟨rfl, rfl⟩ | ⟨g, cap, cur, rfl, _⟩⟩ := h
  · exact ⟨none, 0, rfl⟩
  · exact ⟨_, cap, rfl⟩
attribute [local go_sem ↓] app_hide8
set_option maxRecDepth 100000 in
set_option maxHeartbeats 3200000 in
theorem rsend_any (p : Nat) (vb : Value) (ws : List (Wr × Value)) (n : Nt) (x : Wr) (sv : Value) (w : World) (h : RNw w p vb ws n) (hx : x.Ok) (hL : Lies .u8 w sv x.b) (hlost : n.lost ≤ 1000000) :
    Calls Try.prog 34 #[.pointer (some ⟨p, 0, none⟩), .agg (wcs x sv)] w fun e w' => e = .returned (.int .i64 (senA n x)) ∧ RNid w w' p vb ws (senD n x) := by
  obtain ⟨sa, sc, hsv⟩ := hL.shape
  subst hsv
  have hlm := hL.len
  unfold maxLen at hlm
  unfold wcs
  have HX := hide (box_new w #[.int .u8 (x.fr : Int), .int .u8 (x.to : Int), .slice sa x.b.length sc] 39)
  have HB := hide (alloc_below8 w (.cells #[.int .u8 (x.fr : Int), .int .u8 (x.to : Int), .slice sa x.b.length sc] 39))
  have HR0 := hide h
  have HOK := hide (senD_ok h.ok hx)
  have HLX := hide hL
  have hmx : n.l.length ≤ 256 := Nat.le_trans h.ok.full h.ok.r2
  have hr2 := h.ok.r2
  have hf := hx.f
  have ht := hx.t
  clear h hx hL
  by_cases h1 : 8 ≤ x.fr
  · have HE : Hid (senA n x = 1) := hide (by unfold senA; rw [if_pos (.inl h1)])
    have HT : Hid (senD n x = n) := hide (by unfold senD; rw [if_pos (.inl h1)])
    have d1 : decide ((x.fr : Int) ≥ 8) = true := decide_eq_true (by omega)
    have d1' : 8 ≤ (x.fr : Int) := by omega
    go_enter Try.func34, Try.ntmps34
    go_wp2_with fail
    go_ret
    exact ⟨ret_int HE.out.symm, by rw [HT.out]; exact RNid.of_below HR0.out HB.out⟩
  · have d1 : decide ((x.fr : Int) ≥ 8) = false := decide_eq_false (by omega)
    have d1' : ¬ 8 ≤ (x.fr : Int) := by omega
    by_cases h2 : 8 ≤ x.to
    · have HE : Hid (senA n x = 1) := hide (by unfold senA; rw [if_pos (.inr h2)])
      have HT : Hid (senD n x = n) := hide (by unfold senD; rw [if_pos (.inr h2)])
      have d2 : decide ((x.to : Int) ≥ 8) = true := decide_eq_true (by omega)
      have d2' : 8 ≤ (x.to : Int) := by omega
      go_enter Try.func34, Try.ntmps34
      go_wp2_with fail
      go_ret
      exact ⟨ret_int HE.out.symm, by rw [HT.out]; exact RNid.of_below HR0.out HB.out⟩
    · have d2 : decide ((x.to : Int) ≥ 8) = false := decide_eq_false (by omega)
      have d2' : ¬ 8 ≤ (x.to : Int) := by omega
      have h12 : ¬ (8 ≤ x.fr ∨ 8 ≤ x.to) := by omega
      by_cases h3 : 4096 < x.b.length
      · have HE : Hid (senA n x = 5) := hide (by unfold senA; rw [if_neg h12, if_pos h3])
        have HT : Hid (senD n x = n) := hide (by unfold senD; rw [if_neg h12, if_pos h3])
        have d3 : decide ((x.b.length : Int) > 4096) = true := decide_eq_true (by omega)
        go_enter Try.func34, Try.ntmps34
        go_wp2_with fail
        go_ret
        exact ⟨ret_int HE.out.symm, by rw [HT.out]; exact RNid.of_below HR0.out HB.out⟩
      · have d3 : decide ((x.b.length : Int) > 4096) = false := decide_eq_false (by omega)
        have hR1 := HR0.out.below HB.out
        obtain ⟨ao, cap, hvb, hcap⟩ := hR1.shape
        obtain ⟨m0, m1, m2⟩ := hR1.at
        rw [hvb] at m1
        have HVB := hide hvb
        clear hvb
        by_cases hfl : n.room ≤ n.l.length
        · have HE : Hid (senA n x = 9) := hide (by unfold senA; rw [if_neg h12, if_neg h3, if_pos hfl])
          have HT : Hid (senD n x = { n with lost := n.lost + 1 }) := hide (by unfold senD; rw [if_neg h12, if_neg h3, if_pos hfl])
          have d4 : decide ((n.l.length : Int) ≥ (n.room : Int)) = true := decide_eq_true (by omega)
          have d5 : (n.room : Int) ≤ (n.l.length : Int) := by omega
          have z2 := hR1.box.frozen 2
          have HR1 := hide hR1
          clear hR1
          go_enter Try.func34, Try.ntmps34
          go_wp2_with fail
          go_quiet (fail)
          go_wp2_with fail
          go_ret
          have hBq := below_drewN8 (w.alloc (.cells #[.int .u8 (x.fr : Int), .int .u8 (x.to : Int), .slice sa x.b.length sc] 39)) nq
          obtain ⟨q1, k1⟩ := (HR1.out.below hBq).lose
          exact ⟨ret_int HE.out.symm, by rw [HT.out]; exact RNid.before (HB.out.trans (hBq.mono HB.out.size)) ⟨vb, ws, q1, k1, fun _ h => .inl h⟩⟩
        · have HE : Hid (senA n x = 0) := hide (by unfold senA; rw [if_neg h12, if_neg h3, if_neg hfl])
          have hT : senD n x = ⟨n.room, n.l ++ [x], n.lost⟩ := by unfold senD; rw [if_neg h12, if_neg h3, if_neg hfl]
          have HT := hide hT
          rw [hT] at HOK
          have d4 : decide ((n.l.length : Int) ≥ (n.room : Int)) = false := decide_eq_false (by omega)
          have d5 : ¬ (n.room : Int) ≤ (n.l.length : Int) := by omega
          have hxl : x.b.length ≤ 4096 := by omega
          clear hR1 hT h3 hfl h12
          go_enter Try.func34, Try.ntmps34
          go_wp2_with fail
          go_quiet (fail)
          generalize hw3 : (w.alloc (.cells #[.int .u8 (x.fr : Int), .int .u8 (x.to : Int), .slice sa x.b.length sc] 39)).drewN nq = w3
          have hB13 : Below _ _ w3 := hw3 ▸ below_drewN8 (w.alloc (.cells #[.int .u8 (x.fr : Int), .int .u8 (x.to : Int), .slice sa x.b.length sc] 39)) nq
          have HX3 := hide (HX.out.below8 hB13)
          have HB3 := hide (HB.out.trans (hB13.mono HB.out.size))
          clear hw3 hB13 HX HB m0 m1 m2
          have hR3 := HR0.out.below HB3.out
          have hL3 := HLX.out.below HB3.out
          obtain ⟨m0, m1, m2⟩ := hR3.at
          rw [HVB.out] at m1
          have hwl : ws.length ≤ 256 := by rw [HR0.out.len]; exact hmx
          have hsrc := owns_src hR3.own HR0.out.sliced
          have hlt : ∀ g, vb.ownBlock = some g → g < w3.heap.size := fun g e => (hR3.own.lt g e).2
          rw [HVB.out] at hsrc hlt
          have hBd : Below w3.heap.size w3 w3.drew := (Below.refl _ _).drew
          -- (1) the copy, the bytes, the one
          obtain ⟨vA, wA, hrA, hoA, hgA⟩ := app_wires w3.drew w3.heap.size (.slice none 0 0) (.slice ao n.l.length cap) [] ws (World.ownsRow_nil _ _ _ _) (hsrc.below hBd hlt) (by simp; omega) (Nat.le_refl _)
          rw [List.nil_append] at hoA
          have hBA : Below w3.heap.size w3 wA := hBd.grown hgA (Nat.le_refl _) (fun k hk => by cases hk)
          obtain ⟨sA, wA2, hsA, hosA, hBA2⟩ := app_bytes wA (.slice sa x.b.length sc) x.b (hL3.below hBA) (by omega)
          have hBA3 := hBA.trans (hBA2.mono hBA.size)
          obtain ⟨aA, cA, hsAe⟩ := owns_shape1 hosA
          subst hsAe
          obtain ⟨v5, w5, hr5, ho5, hB5, hk5⟩ := copy_push x aA x.b.length cA hBA3 (owns_below8 hoA hBA2) hwl
          -- (2) the bytes, the copy, the one
          obtain ⟨sB, wB, hsB, hosB, hBB'⟩ := app_bytes w3.drew (.slice sa x.b.length sc) x.b (hL3.below hBd) (by omega)
          have hBB : Below w3.heap.size w3 wB := hBd.trans (show Below w3.heap.size w3.drew wB from hBB')
          obtain ⟨aB, cB, hsBe⟩ := owns_shape1 hosB
          subst hsBe
          obtain ⟨vB, wB2, hrB, hoB, hgB⟩ := app_wires wB w3.heap.size (.slice none 0 0) (.slice ao n.l.length cap) [] ws (World.ownsRow_nil _ _ _ _) (hsrc.below hBB hlt) (by simp; omega) hBB.size
          rw [List.nil_append] at hoB
          have hBB1 : Below wB.heap.size wB wB2 := (Below.refl _ _).grown hgB (Nat.le_refl _) (fun k hk => by cases hk)
          have hBB2 := hBB.trans (hBB1.mono hBB.size)
          obtain ⟨v6, w6, hr6, ho6, hB6, hk6⟩ := copy_push x aB x.b.length cB hBB2 hoB hwl
          -- (3) the bytes, the one, the copy
          obtain ⟨wC0, hwC0⟩ : ∃ wC0, wC0 = wB.alloc (.cells #[.int .u8 (x.fr : Int), .int .u8 (x.to : Int), .slice aB x.b.length cB] 39) := ⟨_, rfl⟩
          have hBC0 : Below wB.heap.size wB wC0 := hwC0 ▸ alloc_below8 wB _
          have hs1 : WSrc wC0 (.slice (some ⟨wB.heap.size, 0, none⟩) 1 1) [(x, Value.slice aB x.b.length cB)] := hwC0 ▸ src_one wB x aB x.b.length cB 39
          have hlt1 : wB.heap.size < wC0.heap.size := by rw [hwC0]; simp
          have hBC := hBB.trans (hBC0.mono hBB.size)
          obtain ⟨vC, wC, hrC, hoC, hgC⟩ := app_wires wC0 wC0.heap.size (.slice none 0 0) (.slice ao n.l.length cap) [] ws (World.ownsRow_nil _ _ _ _) (hsrc.below hBC hlt) (by simp; omega) (Nat.le_refl _)
          rw [List.nil_append] at hoC
          have hBC1 : Below wC0.heap.size wC0 wC := (Below.refl _ _).grown hgC (Nat.le_refl _) (fun k hk => by cases hk)
          have hBC2 := hBC.trans (hBC1.mono hBC.size)
          obtain ⟨v7, w7, hr7, ho7, hg7⟩ := app_wires wC w3.heap.size vC (.slice (some ⟨wB.heap.size, 0, none⟩) 1 1) ws [(x, Value.slice aB x.b.length cB)] (owns_low hoC hBC.size) (hs1.below hBC1 (fun g e => by cases e; exact hlt1)) (by simp; omega) hBC2.size
          have hB7 : Below w3.heap.size w3 w7 := hBC2.grown hg7 hBC2.size (fun k hk => Nat.le_trans hBC.size (hoC.lt k hk).1)
          have hBC17 : Below wC0.heap.size wC0 w7 := hBC1.grown hg7 hBC1.size (fun k hk => (hoC.lt k hk).1)
          have hpw := HR0.out.box.lt
          have FIN : ∀ wf v s, Below w3.heap.size w3 wf → wf.ownsRow w3.heap.size 39 3 v (ws ++ [(x, s)]).length (wcl (ws ++ [(x, s)])) → wf.ownsRow w3.heap.size 5 1 s x.b.length (x.b.map (Value.int .u8)) → RNid w (wf.setCell ⟨p, 1, none⟩ v) p vb ws ⟨n.room, n.l ++ [x], n.lost⟩ := fun wf v s hBf hof hos => by
            have hsz := HB3.out.size
            have hf : ∀ g, v.ownBlock = some g → w3.heap.size ≤ g := fun g e => (hof.lt g e).1
            obtain ⟨rn, kn⟩ := hR3.push (KeepBut.of_below (fun _ => False) hBf) (fun h => h) (fun y hy g e => ⟨fun h => h, fun e2 => by have h1 := hf g e2; have h2 := (HR0.out.far y hy g e).1; omega⟩) (owns_any8 hof) (fun e => by have := hf p e; omega) (Lies.of_own hos)
              (fun g e => ⟨(hos.lt g e).2, by have := (hos.lt g e).1; omega, rows_apart hof hos e⟩) HOK.out
            refine ⟨v, _, rn, ((KeepBut.of_below (fun k => k = p) (HB3.out.trans (hBf.mono hsz))).trans kn (fun _ _ h => h)), fun k' hu => ?_⟩
            rcases hu with h | h | ⟨y, hy, h⟩
            · exact .inl (.inl h)
            · exact .inr (Nat.le_trans hsz (hf k' h))
            · rcases List.mem_append.1 hy with hy | hy
              · exact .inl (.inr (.inr ⟨y, hy, h⟩))
              · obtain rfl : y = (x, s) := by simpa using hy
                exact .inr (Nat.le_trans hsz (hos.lt k' h).1)
          have hos5 : w5.ownsRow w3.heap.size 5 1 (.slice aA x.b.length cA) x.b.length (x.b.map (Value.int .u8)) := owns_low (owns_keep hosA hk5 (fun g e e2 => rows_apart (owns_below8 hoA hBA2) hosA e e2)) hBA.size
          have hosB2 := owns_below8 hosB hBB1
          have hos6 : w6.ownsRow w3.heap.size 5 1 (.slice aB x.b.length cB) x.b.length (x.b.map (Value.int .u8)) := owns_keep hosB2 hk6 (fun g e e2 => rows_apart hoB hosB2 e e2)
          have hos7 : w7.ownsRow w3.heap.size 5 1 (.slice aB x.b.length cB) x.b.length (x.b.map (Value.int .u8)) := owns_below8 (owns_below8 hosB hBC0) hBC17
          have H5 := hide (FIN w5 v5 _ hB5 ho5 hos5)
          have H6 := hide (FIN w6 v6 _ hB6 ho6 hos6)
          have H7 := hide (FIN w7 v7 _ hB7 ho7 hos7)
          have qA : wA.cell? ⟨p, 1, none⟩ = some (.slice ao n.l.length cap) := by have := (hR3.below hBA).at.2.1; rw [HVB.out] at this; exact this
          have qA2 : wA2.cell? ⟨p, 1, none⟩ = some (.slice ao n.l.length cap) := by have := (hR3.below hBA3).at.2.1; rw [HVB.out] at this; exact this
          have qB : wB.cell? ⟨p, 1, none⟩ = some (.slice ao n.l.length cap) := by have := (hR3.below hBB).at.2.1; rw [HVB.out] at this; exact this
          have qB2 : wB2.cell? ⟨p, 1, none⟩ = some (.slice ao n.l.length cap) := by have := (hR3.below hBB2).at.2.1; rw [HVB.out] at this; exact this
          have qC0 : wC0.cell? ⟨p, 1, none⟩ = some (.slice ao n.l.length cap) := by have := (hR3.below hBC).at.2.1; rw [HVB.out] at this; exact this
          have q5 := (hR3.below hB5).at.2.1
          have q6 := (hR3.below hB6).at.2.1
          have q7 := (hR3.below hB7).at.2.1
          have z5 := (hR3.below hB5).box.frozen 1
          have z6 := (hR3.below hB6).box.frozen 1
          have z7 := (hR3.below hB7).box.frozen 1
          have t0 := HX3.out.cell 0 _ rfl
          have t1 := HX3.out.cell 1 _ rfl
          have t2 := HX3.out.cell 2 _ rfl
          have u0 := (HX3.out.below8 hBA).cell 0 _ rfl
          have u1 := (HX3.out.below8 hBA).cell 1 _ rfl
          have u2 := (HX3.out.below8 hBA).cell 2 _ rfl
          have y0 := (HX3.out.below8 hBA3).cell 0 _ rfl
          have y1 := (HX3.out.below8 hBA3).cell 1 _ rfl
          have e0 := (HX3.out.below8 hBB).cell 0 _ rfl
          have e1 := (HX3.out.below8 hBB).cell 1 _ rfl
          have e2 := (HX3.out.below8 hBB2).cell 0 _ rfl
          have e3 := (HX3.out.below8 hBB2).cell 1 _ rfl
          obtain ⟨bA, dA, hvA⟩ := owns_shape3 hoA
          obtain ⟨bB, dB, hvB⟩ := owns_shape3 hoB
          obtain ⟨bC, dC, hvC⟩ := owns_shape3 hoC
          obtain ⟨b5, d5', hv5⟩ := owns_shape3 ho5
          obtain ⟨b6, d6, hv6⟩ := owns_shape3 ho6
          obtain ⟨b7, d7, hv7⟩ := owns_shape3 ho7
          subst hvA
          subst hvB
          subst hvC
          subst hv5
          subst hv6
          subst hv7
          obtain ⟨el, hel⟩ : ∃ el, el = (ws ++ [(x, Value.slice aA x.b.length cA)]).length := ⟨_, rfl⟩
          have hel2 : (ws ++ [(x, Value.slice aB x.b.length cB)]).length = el := by rw [hel]; simp
          obtain ⟨yl, hyl⟩ : ∃ yl, yl = ws.length := ⟨_, rfl⟩
          rw [← hel] at hr5 H5
          rw [hel2] at hr6 hr7 H6 H7
          rw [← hyl] at hrA hr5 hrB hr6 hrC hr7
          clear hos5 hosB2 hos6 hos7 hoA hgA hBA ho5 hB5 hs1 hoB hgB hBB ho6 hB6 FIN hel hel2 hyl hsrc hlt hR3 hBd hlt1 m0 m2 hBA2 hBA3 hBB1 hBB2 hBC0 hBC hBC1 hBC2 hB7 hBC17 hoC hgC hg7 ho7 hosA hosB hBB' hk5 hk6 hL3
          subst hwC0
          go_wp2_with fail
          go_region
          all_goals go_wp2_with fail
          all_goals go_ret
          all_goals first
            | exact ⟨ret_int HE.out.symm, by rw [HT.out]; exact H5.out⟩
            | exact ⟨ret_int HE.out.symm, by rw [HT.out]; exact H6.out⟩
            | exact ⟨ret_int HE.out.symm, by rw [HT.out]; exact H7.out⟩
end Go.Proofs.Yteehkjdolmmapaa
