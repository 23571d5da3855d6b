/-
  The reference's network: Drop, Late. Own work.
-/
import Derived.Test.YteehkjdolmmapaaNtRef2
namespace Go.Proofs.Yteehkjdolmmapaa
open Go.RowKit

/-- What a call leaves. -/
def RNid (w w' : World) (p : Nat) (vb : Value) (ws : List (Wr × Value)) (n' : Nt) : Prop :=
  ∃ vb' ws', RNw w' p vb' ws' n' ∧ KeepBut (fun k => k = p) w w' ∧ ∀ k, usesR p vb' ws' k → usesR p vb ws k ∨ w.heap.size ≤ k
theorem RNid.same {w : World} {p : Nat} {vb : Value} {ws : List (Wr × Value)} {n : Nt} (h : RNw w p vb ws n) : RNid w w p vb ws n := ⟨vb, ws, h, KeepBut.refl _ _, fun _ h => .inl h⟩
theorem RNid.of_below {w w' : World} {p : Nat} {vb : Value} {ws : List (Wr × Value)} {n : Nt} (h : RNw w p vb ws n) (hB : Below w.heap.size w w') : RNid w w' p vb ws n := ⟨vb, ws, h.below hB, KeepBut.of_below _ hB, fun _ h => .inl h⟩
theorem RNid.before {w w1 w2 : World} {p : Nat} {vb : Value} {ws : List (Wr × Value)} {n : Nt} (hB : Below w.heap.size w w1) (h : RNid w1 w2 p vb ws n) : RNid w w2 p vb ws n := by
  obtain ⟨vb', ws', h1, hk, hu⟩ := h
  exact ⟨vb', ws', h1, (KeepBut.of_below (fun k => k = p) hB).trans hk (fun _ _ h => h), fun k hk => (hu k hk).imp id (fun h => Nat.le_trans hB.size h)⟩
theorem RNid.after {w w1 w2 : World} {p : Nat} {vb : Value} {ws : List (Wr × Value)} {n : Nt} (h : RNid w w1 p vb ws n) (hB : Below w1.heap.size w1 w2) : RNid w w2 p vb ws n := by
  obtain ⟨vb', ws', h1, hk, hu⟩ := h
  exact ⟨vb', ws', h1.below hB, hk.trans (KeepBut.of_below (fun k => k = p) hB) (fun _ _ h => h), hu⟩
/-- One more is lost. -/
theorem RNw.lose {w : World} {p : Nat} {vb : Value} {ws : List (Wr × Value)} {n : Nt} (h : RNw w p vb ws n) : RNw (w.setCell ⟨p, 2, none⟩ (.int .i64 ((n.lost : Int) + 1))) p vb ws { n with lost := n.lost + 1 } ∧ KeepBut (fun k => k = p) w (w.setCell ⟨p, 2, none⟩ (.int .i64 ((n.lost : Int) + 1))) := by
  have hk : KeepBut (fun k => k = p) w (w.setCell ⟨p, 2, none⟩ (.int .i64 ((n.lost : Int) + 1))) := (KeepBut.refl (fun k => k = p) w).setCell (p := ⟨p, 2, none⟩) (.inl rfl) _
  refine ⟨⟨?_, owns_keep h.own hk (fun g hg e => h.apart (by rw [hg, e])), fun x hx => (h.by8 x hx).kept8 hk (fun g hg => (h.far x hx g hg).2.1), h.eq, ⟨h.ok.r1, h.ok.r2, h.ok.full, h.ok.w, h.ok.b⟩, fun x hx g hg => ⟨by simpa using (h.far x hx g hg).1, (h.far x hx g hg).2⟩⟩, hk⟩
  have := h.box.set (i := 2) (v := .int .i64 ((n.lost : Int) + 1))
  exact this
/-- One wire comes behind the others: its row is a new one, or the one that it had alone. -/
theorem RNw.push {S : Nat → Prop} {w wf : World} {p : Nat} {vb v sv : Value} {ws : List (Wr × Value)} {n : Nt} {x : Wr} (h : RNw w p vb ws n) (hk : KeepBut S w wf) (hp : ¬ S p) (hS : ∀ y ∈ ws, ∀ g, y.2.ownBlock = some g → ¬ S g ∧ v.ownBlock ≠ some g) (ho : wf.ownsRow 0 39 3 v (ws ++ [(x, sv)]).length (wcl (ws ++ [(x, sv)]))) (hvp : v.ownBlock ≠ some p)
    (hL : Lies .u8 wf sv x.b) (hsv : ∀ g, sv.ownBlock = some g → g < wf.heap.size ∧ g ≠ p ∧ v.ownBlock ≠ some g) (hok : (⟨n.room, n.l ++ [x], n.lost⟩ : Nt).Ok) :
    RNw (wf.setCell ⟨p, 1, none⟩ v) p v (ws ++ [(x, sv)]) ⟨n.room, n.l ++ [x], n.lost⟩ ∧ KeepBut (fun k => k = p) wf (wf.setCell ⟨p, 1, none⟩ v) := by
  have hks : KeepBut (fun k => k = p) wf (wf.setCell ⟨p, 1, none⟩ v) := (KeepBut.refl (fun k => k = p) wf).setCell (p := ⟨p, 1, none⟩) (.inl rfl) _
  refine ⟨⟨?_, owns_keep ho hks (fun g hg e => hvp (by rw [hg, e])), fun y hy => ?_, by simp [h.eq], hok, fun y hy g hg => ?_⟩, hks⟩
  · exact (h.box.keep hk hp).set (i := 1) (v := v)
  · rcases List.mem_append.1 hy with hy | hy
    · exact ((h.by8 y hy).kept8 hk (fun g hg => (hS y hy g hg).1)).kept8 hks (fun g hg => (h.far y hy g hg).2.1)
    · obtain rfl : y = (x, sv) := by simpa using hy
      exact hL.kept8 hks (fun g hg => (hsv g hg).2.1)
  · rcases List.mem_append.1 hy with hy | hy
    · exact ⟨by simpa using Nat.lt_of_lt_of_le (h.far y hy g hg).1 hk.size, (h.far y hy g hg).2.1, (hS y hy g hg).2⟩
    · obtain rfl : y = (x, sv) := by simpa using hy
      exact ⟨by simpa using (hsv g hg).1, (hsv g hg).2⟩
theorem owns_up {w : World} {b n : Nat} {v : Value} {xs : List Value} (h : w.ownsRow 0 39 3 v n xs) (hb : ∀ g, v.ownBlock = some g → b ≤ g) : w.ownsRow b 39 3 v n xs := by
  obtain ⟨hl, h0 | ⟨g, cap, cur, rfl, _, r⟩⟩ := h
  · exact ⟨hl, .inl h0⟩
  · exact ⟨hl, .inr ⟨g, cap, cur, rfl, hb g rfl, r⟩⟩
/-- Out of what Take leaves. -/
theorem RTk.uses {w : World} {p : Nat} {vb vb' : Value} {ws ws' : List (Wr × Value)} {n : Nt} {i : Int} {sv : Value} (hm : ∀ x ∈ ws', x ∈ ws) (hy : n.inN i = true → (n.nth i, sv) ∈ ws ∧ ∀ g, vb'.ownBlock = some g → w.heap.size ≤ g) (hn : n.inN i = false → sv = .slice none 0 0 ∧ vb' = vb ∧ ws' = ws) : ∀ k, usesR p vb' ws' k → usesR p vb ws k ∨ w.heap.size ≤ k := by
  intro k hu
  rcases hu with h | h | ⟨y, hy', h⟩
  · exact .inl (.inl h)
  · cases hi : n.inN i
    · rw [(hn hi).2.1] at h; exact .inl (.inr (.inl h))
    · exact .inr ((hy hi).2 k h)
  · exact .inl (.inr (.inr ⟨y, hm y hy', h⟩))
set_option maxRecDepth 100000 in
set_option maxHeartbeats 1600000 in
theorem rdrop_any (p : Nat) (vb : Value) (ws : List (Wr × Value)) (n : Nt) (i : Int) (w : World) (h : RNw w p vb ws n) (hlost : n.lost ≤ 1000000) :
    Calls Try.prog 31 #[.pointer (some ⟨p, 0, none⟩), .int .i64 i] w fun e w' => e = .returned (.int .i64 (atA n i)) ∧ RNid w w' p vb ws (droD n i) := by
  have C := hide (rtake_any p vb ws n i w h)
  clear h
  go_enter Try.func31, Try.ntmps31
  go_wp2_with fail
  refine C.out.mono ?_
  rintro e w1 ⟨sv, vb', ws', rfl, hR, hk, hL, hm, hy, hn⟩
  obtain ⟨a2, c2, hsv⟩ := hL.shape
  subst hsv
  have HU := hide (RTk.uses (w := w) (p := p) hm hy hn)
  unfold wcs
  have hA := alloc_below8 w1 (.cells #[.int .u8 ((n.nth i).fr : Int), .int .u8 ((n.nth i).to : Int), .slice a2 (n.nth i).b.length c2] 39)
  have HR := hide (hR.below hA)
  have HK := hide (hk.trans (KeepBut.of_below (fun k => k = p) hA) (fun _ _ h => h))
  have z2 := (hR.below hA).box.frozen 2
  obtain ⟨m0, m1, m2⟩ := (hR.below hA).at
  clear hR hk hL hm hy hn hA C
  cases hi : n.inN i
  · have hE : atA n i = 6 := by unfold atA; rw [hi]; rfl
    have HT : Hid (takD n i = droD n i) := hide (by unfold takD droD; rw [hi]; rfl)
    have HE := hide hE
    rw [hE]
    clear hi hE
    go_wp2_with fail
    go_ret
    exact ⟨ret_int HE.out.symm, vb', ws', by rw [← HT.out]; exact HR.out, HK.out, HU.out⟩
  · have hE : atA n i = 0 := by unfold atA; rw [hi]; rfl
    have ht : takD n i = { n with l := n.l.eraseIdx i.toNat } := by unfold takD; rw [hi]; rfl
    have HD : Hid (droD n i = { n with l := n.l.eraseIdx i.toNat, lost := n.lost + 1 }) := hide (by unfold droD; rw [hi]; rfl)
    rw [ht] at HR m2
    have m2' : (w1.alloc (.cells #[.int .u8 ((n.nth i).fr : Int), .int .u8 ((n.nth i).to : Int), .slice a2 (n.nth i).b.length c2] 39)).cell? ⟨p, 2, none⟩ = some (.int .i64 (n.lost : Int)) := m2
    have HE := hide hE
    rw [hE]
    clear hi hE ht m0 m1 m2
    go_wp2_with fail
    go_ret
    obtain ⟨q1, k1⟩ := HR.out.lose
    exact ⟨ret_int HE.out.symm, vb', ws', by rw [HD.out]; exact q1, HK.out.trans k1 (fun _ _ h => h), HU.out⟩
attribute [local go_sem ↓] app_hide8
set_option maxRecDepth 100000 in
set_option maxHeartbeats 3200000 in
theorem rlate_any (p : Nat) (vb : Value) (ws : List (Wr × Value)) (n : Nt) (i : Int) (w : World) (h : RNw w p vb ws n) :
    Calls Try.prog 33 #[.pointer (some ⟨p, 0, none⟩), .int .i64 i] w fun e w' => e = .returned (.int .i64 (atA n i)) ∧ RNid w w' p vb ws (latD n i) := by
  have C := hide (rtake_any p vb ws n i w h)
  have HR0 := hide h
  have HOK := hide (latD_ok h.ok i)
  clear h
  go_enter Try.func33, Try.ntmps33
  go_wp2_with fail
  refine C.out.mono ?_
  rintro e w1 ⟨sv, vb', ws', rfl, hR, hk, hL, hm, hy, hn⟩
  obtain ⟨a2, c2, hsv⟩ := hL.shape
  subst hsv
  have HU := hide (RTk.uses (w := w) (p := p) hm hy hn)
  have hA := alloc_below8 w1 (.cells (wcs (n.nth i) (.slice a2 (n.nth i).b.length c2)) 39)
  have hX := box_new w1 (wcs (n.nth i) (.slice a2 (n.nth i).b.length c2)) 39
  have HR := hide (hR.below hA)
  have HK := hide (hk.trans (KeepBut.of_below (fun k => k = p) hA) (fun _ _ h => h))
  have HL := hide (hL.below hA)
  have HX := hide hX
  have HYES := hide hy
  have HM := hide hm
  have HSZ : Hid (w.heap.size ≤ w1.heap.size) := hide hk.size
  obtain ⟨m0, m1, m2⟩ := (hR.below hA).at
  obtain ⟨x, hx⟩ : ∃ x, x = n.nth i := ⟨_, rfl⟩
  rw [← hx] at HR HK HL HX HYES m0 m1 m2 ⊢
  unfold wcs at HR HK HL HX m0 m1 m2 ⊢
  have HXX := hide hx
  clear hR hk hL hm hy hn hA hX C hx
  cases hi : n.inN i
  · have hE : atA n i = 6 := by unfold atA; rw [hi]; rfl
    have HT : Hid (takD n i = latD n i) := hide (by unfold takD latD; rw [hi]; rfl)
    have HE := hide hE
    rw [hE]
    clear hi hE
    go_wp2_with fail
    go_ret
    exact ⟨ret_int HE.out.symm, vb', ws', by rw [← HT.out]; exact HR.out, HK.out, HU.out⟩
  · have hE : atA n i = 0 := by unfold atA; rw [hi]; rfl
    have ht : takD n i = ⟨n.room, n.l.eraseIdx i.toNat, n.lost⟩ := by unfold takD; rw [hi]; rfl
    have hd : latD n i = ⟨n.room, n.l.eraseIdx i.toNat ++ [x], n.lost⟩ := by unfold latD; rw [hi, ← HXX.out]; rfl
    have HD := hide hd
    rw [hd] at HOK
    obtain ⟨hmem, hfresh⟩ := HYES.out hi
    rw [ht] at HR
    have hwl : ws'.length ≤ 256 := by have := HR.out.len; have := HR.out.ok.full; have := HR.out.ok.r2; omega
    have HE := hide hE
    rw [hE]
    have HMEM := hide hmem
    have HFRE := hide hfresh
    clear hi hE ht hd hmem hfresh HYES m0 m2
    go_wp2_with fail
    generalize w1.alloc (.cells #[.int .u8 (x.fr : Int), .int .u8 (x.to : Int), .slice a2 x.b.length c2] 39) = w2 at HR HK HL HX m1 ⊢
    obtain ⟨w3, hw3⟩ : ∃ w3, w3 = (w2.alloc (.cells #[.int .u8 (x.fr : Int), .int .u8 (x.to : Int), .slice a2 x.b.length c2] 39)).drew := ⟨_, rfl⟩
    have hB3 : Below w2.heap.size w2 w3 := hw3 ▸ ((Below.refl w2.heap.size w2).alloc (Nat.le_refl _) _).drew
    have hsrc : WSrc w3 (.slice (some ⟨w2.heap.size, 0, none⟩) 1 1) [(x, .slice a2 x.b.length c2)] := by
      rw [hw3]
      exact (src_one w2 x a2 x.b.length c2 39).below (Below.refl _ _).drew (fun g e => by cases e; show w2.heap.size < _; simp)
    have hR3 := HR.out.below hB3
    have hw02 : w.heap.size ≤ w3.heap.size := Nat.le_trans HK.out.size hB3.size
    obtain ⟨v4, w4, hr4, ho4, hg4⟩ := app_wires w3 w.heap.size vb' (.slice (some ⟨w2.heap.size, 0, none⟩) 1 1) ws' [(x, .slice a2 x.b.length c2)] (owns_up hR3.own HFRE.out) hsrc (by simp; omega) hw02
    have hk24 : KeepBut (fun k => vb'.ownBlock = some k) w2 w4 := (KeepBut.of_below (fun k => vb'.ownBlock = some k) hB3).trans ⟨hg4.os, hg4.tape, hg4.output, hg4.size, fun k hk hS => hg4.block k hk (fun e => hS e.symm)⟩ (fun _ _ h => h)
    have hpw := HR0.out.box.lt
    have hvp : ¬ vb'.ownBlock = some p := fun e => by have := HFRE.out p e; omega
    have hv4f : ∀ g, v4.ownBlock = some g → w.heap.size ≤ g := fun g e => (ho4.lt g e).1
    have hL4 : Lies .u8 w4 (.slice a2 x.b.length c2) x.b := HL.out.kept8 hk24 (fun g e e2 => by have h1 := HFRE.out g e2; have h2 := (HR0.out.far _ HMEM.out g e).1; omega)
    obtain ⟨rn, kn⟩ := HR.out.push hk24 hvp (fun y hy g e => ⟨fun e2 => by have h1 := HFRE.out g e2; have h2 := (HR0.out.far _ (HM.out y hy) g e).1; omega, fun e2 => by have h1 := hv4f g e2; have h2 := (HR0.out.far _ (HM.out y hy) g e).1; omega⟩) (owns_any8 ho4) (fun e => by have := hv4f p e; omega) hL4
      (fun g e => ⟨by have h2 := (HR0.out.far _ HMEM.out g e).1; have := hg4.size; omega, (HR0.out.far _ HMEM.out g e).2.1, fun e2 => by have h1 := hv4f g e2; have h2 := (HR0.out.far _ HMEM.out g e).1; omega⟩) HOK.out
    have hbx4 := (HR.out.box.keep hk24 hvp)
    have q4 := hbx4.cell 1 _ rfl
    have z4 := hbx4.frozen 1
    have q3 := hR3.at.2.1
    have t0 := HX.out.cell 0 _ rfl
    have t1 := HX.out.cell 1 _ rfl
    have t2 := HX.out.cell 2 _ rfl
    have u0 := (HX.out.below8 hB3).cell 0 _ rfl
    have u1 := (HX.out.below8 hB3).cell 1 _ rfl
    have u2 := (HX.out.below8 hB3).cell 2 _ rfl
    have HRN := hide rn
    have HKN : Hid (KeepBut (fun k => k = p) w (w4.setCell ⟨p, 1, none⟩ v4)) := hide ((HK.out.trans (hk24.mono (S' := fun k => k = p ∨ w.heap.size ≤ k) (fun k e => .inr (HFRE.out k e))) (fun k hk h => h.elim id (fun h => by omega))).trans kn (fun _ _ h => h))
    have HUS : Hid (∀ k, usesR p v4 (ws' ++ [(x, .slice a2 x.b.length c2)]) k → usesR p vb ws k ∨ w.heap.size ≤ k) := hide (fun k hu => by
      rcases hu with h | h | ⟨y, hy, h⟩
      · exact .inl (.inl h)
      · exact .inr (hv4f k h)
      · rcases List.mem_append.1 hy with hy | hy
        · exact .inl (.inr (.inr ⟨y, HM.out y hy, h⟩))
        · obtain rfl : y = (x, .slice a2 x.b.length c2) := by simpa using hy
          exact .inl (.inr (.inr ⟨_, HMEM.out, h⟩)))
    obtain ⟨ao', cap', hvb', _⟩ := hR3.shape
    subst hvb'
    obtain ⟨a4, c4, hv4⟩ := owns_shape3 ho4
    subst hv4
    obtain ⟨el, hel⟩ : ∃ el, el = (ws' ++ [(x, Value.slice a2 x.b.length c2)]).length := ⟨_, rfl⟩
    obtain ⟨yl, hyl⟩ : ∃ yl, yl = (⟨n.room, n.l.eraseIdx i.toNat, n.lost⟩ : Nt).l.length := ⟨_, rfl⟩
    rw [← hel] at hr4 HRN HKN HUS
    rw [← hyl] at hr4 q4 q3 m1
    clear ho4 hg4 hk24 hvp hv4f hL4 rn kn hbx4 hsrc hR3 hB3 hel hyl hpw hw02
    subst hw3
    go_region
    all_goals go_wp2_with fail
    all_goals go_ret
    all_goals exact ⟨ret_int HE.out.symm, _, _, by rw [HD.out]; exact HRN.out, HKN.out, HUS.out⟩
end Go.Proofs.Yteehkjdolmmapaa
