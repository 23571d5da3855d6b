/-
  The reference's network: Take. Own work.
-/
import Derived.Test.YteehkjdolmmapaaNtRef
import Derived.BigRegion
namespace Go.Proofs.Yteehkjdolmmapaa
open Go.RowKit

theorem WSrc.below {w w' : World} {v : Value} {ws : List (Wr × Value)} (h : WSrc w v ws) (hB : Below w.heap.size w w') (hlt : ∀ g, v.ownBlock = some g → g < w.heap.size) : WSrc w' v ws := h.keep (KeepBut.of_below (fun _ => False) hB) (fun g hg => ⟨hlt g hg, id⟩)
theorem owns_shape3 {w : World} {base n : Nat} {v : Value} {xs : List Value} (h : w.ownsRow base 39 3 v n xs) : ∃ ao cap, v = .slice ao n cap := by
  obtain ⟨_, ⟨rfl, rfl⟩ | ⟨g, cap, cur, rfl, _⟩⟩ := h
  · exact ⟨none, 0, rfl⟩
  · exact ⟨_, cap, rfl⟩
theorem Lies.kept8 {k : IntKind} {S : Nat → Prop} {w w' : World} {v : Value} {xs : List Int} (h : Lies k w v xs) (hk : KeepBut S w w') (hS : ∀ g, v.ownBlock = some g → ¬ S g) : Lies k w' v xs := by
  rcases h with h | ⟨hx, b, off, cap, rfl, hb, hl, hm, hc⟩
  · exact .inl h
  · refine .inr ⟨hx, b, off, cap, rfl, Nat.lt_of_lt_of_le hb hk.size, hl, hm, fun t ht => ?_⟩
    rw [← hc t ht]
    exact World.cell?_of_block (hk.block b hb (hS b rfl))
/-- 'append', under a name that the walk leaves alone. -/
def appR8 (ats : Array TypeId) (ty : TypeId) (args : Array Value) : Sem Value := Builtin.append_ ats ty args
theorem app_hide8 (ats : Array TypeId) (ty : TypeId) (args : Array Value) : Builtin.append_ ats ty args = appR8 ats ty args := rfl
/-- 'append' of wires onto a row of one's own. -/
theorem app_wires (w : World) (base : Nat) (v vx : Value) (ys xs : List (Wr × Value)) (hown : w.ownsRow base 39 3 v ys.length (wcl ys)) (hL : WSrc w vx xs) (hb : ys.length + xs.length ≤ 1000000) (hbase : base ≤ w.heap.size) :
    ∃ v' w', (∀ ty, (appR8 #[29, 29] ty #[v, vx]).run Try.prog w = .ok v' w') ∧ w'.ownsRow base 39 3 v' (ys ++ xs).length (wcl (ys ++ xs)) ∧ w.grownBy w' v.ownBlock := by
  obtain ⟨i0, hi, hz0, hz1, hz2⟩ := info_parts3 infoRW3
  obtain ⟨hsl, ao, c, rfl, _, hn, hc⟩ := hL
  cases ao with
  | none =>
    obtain ⟨rfl, rfl⟩ := hn rfl
    exact ⟨v, w, fun ty => run_append_owned_none (P := Try.prog) (w := w) base 29 ty 39 i0 3 Try.underlying29 hi v ys.length _ hown, by simpa using hown, World.grownBy.refl _ _⟩
  | some ad =>
    obtain ⟨v', w', hr, ho, hg, _⟩ := run_append_own_wide (P := Try.prog) w base 29 29 39 i0 _ 3 32 Try.underlying29 hi hz0 hz1 hz2 rfl (by decide) v ys.length _ hown ad xs.length c (wcl xs) (wcl_len xs) (hc ad rfl) (wcl_one hsl) (by unfold maxLen; omega) (by omega) hbase
    refine ⟨v', w', fun ty => ?_, by rw [List.length_append, wcl_app]; exact ho, hg⟩
    exact hr
/-- What Take answers and leaves. -/
def RTk (w w' : World) (p : Nat) (vb : Value) (ws : List (Wr × Value)) (n : Nt) (i : Int) (e : Ending) : Prop :=
  ∃ sv vb' ws', e = .returned (.tuple #[.agg (wcs (n.nth i) sv), .int .i64 (atA n i)]) ∧ RNw w' p vb' ws' (takD n i) ∧ KeepBut (fun k => k = p) w w' ∧ Lies .u8 w' sv (n.nth i).b ∧ (∀ x ∈ ws', x ∈ ws) ∧
    (n.inN i = true → (n.nth i, sv) ∈ ws ∧ ∀ g, vb'.ownBlock = some g → w.heap.size ≤ g) ∧ (n.inN i = false → sv = .slice none 0 0 ∧ vb' = vb ∧ ws' = ws)
theorem erase_eq (ws : List (Wr × Value)) (k : Nat) : ws.take k ++ ws.drop (k + 1) = ws.eraseIdx k := by rw [List.eraseIdx_eq_take_drop_succ]
theorem map_erase (ws : List (Wr × Value)) (k : Nat) : (ws.eraseIdx k).map Prod.fst = (ws.map Prod.fst).eraseIdx k := by
  rw [List.eraseIdx_eq_take_drop_succ, List.eraseIdx_eq_take_drop_succ]
  simp
/-- Its wires are written anew. -/
theorem RNw.anew {w : World} {p : Nat} {vb vb' : Value} {ws ws' : List (Wr × Value)} {n n' : Nt} (h : RNw w p vb ws n) (ho : w.ownsRow 0 39 3 vb' ws'.length (wcl ws')) (hp : vb'.ownBlock ≠ some p) (hb : ∀ x ∈ ws', Lies .u8 w x.2 x.1.b) (he : ws'.map Prod.fst = n'.l) (hok : n'.Ok)
    (hf : ∀ x ∈ ws', ∀ g, x.2.ownBlock = some g → g < w.heap.size ∧ g ≠ p ∧ vb'.ownBlock ≠ some g) (hr : n'.room = n.room) (hl : n'.lost = n.lost) : RNw (w.setCell ⟨p, 1, none⟩ vb') p vb' ws' n' ∧ KeepBut (fun k => k = p) w (w.setCell ⟨p, 1, none⟩ vb') := by
  have hk : KeepBut (fun k => k = p) w (w.setCell ⟨p, 1, none⟩ vb') := (KeepBut.refl (fun k => k = p) w).setCell (p := ⟨p, 1, none⟩) (.inl rfl) _
  refine ⟨⟨?_, owns_keep ho hk (fun g hg e => hp (by rw [hg, e])), fun x hx => ?_, he, hok, fun x hx g hg => ⟨by simpa using (hf x hx g hg).1, (hf x hx g hg).2⟩⟩, hk⟩
  · have := h.box.set (i := 1) (v := vb')
    unfold rncells at this ⊢
    rw [hr, hl]
    exact this
  · rcases hb x hx with h1 | ⟨h0, b, off, cap, e, hb', hl', hm, hc⟩
    · exact .inl h1
    · refine .inr ⟨h0, b, off, cap, e, by simpa using hb', hl', hm, fun t ht => ?_⟩
      rw [← hc t ht]
      exact World.cell?_of_block (hk.block b hb' (hf x hx b (by rw [e]; rfl)).2.1)
attribute [local go_sem ↓] app_hide8
set_option maxRecDepth 100000 in
set_option maxHeartbeats 3200000 in
theorem rtake_any (p : Nat) (vb : Value) (ws : List (Wr × Value)) (n : Nt) (i : Int) (w : World) (h : RNw w p vb ws n) :
    Calls Try.prog 29 #[.pointer (some ⟨p, 0, none⟩), .int .i64 i] w fun e w' => RTk w w' p vb ws n i e := by
  have hA := alloc_below8 w (.cells #[.int .u8 0, .int .u8 0, .slice none 0 0] 39)
  have hX := box_new w #[.int .u8 0, .int .u8 0, .slice none 0 0] 39
  have CAT := hide (rat_any p vb ws n i _ (h.below hA))
  have HX1 := hide hX
  have HB1 := hide hA
  have HR := hide h
  have hmx : n.l.length ≤ 256 := Nat.le_trans h.ok.full h.ok.r2
  clear h hA hX
  go_enter Try.func29, Try.ntmps29
  go_wp2_with fail
  revert CAT HX1 HB1
  generalize w.alloc (.cells #[.int .u8 0, .int .u8 0, .slice none 0 0] 39) = w1
  intro CAT HX1 HB1
  refine CAT.out.mono ?_
  rintro e w2 ⟨sv, rfl, hL2, hB2, hyes, hno⟩
  obtain ⟨a2, c2, hsv⟩ := hL2.shape
  subst hsv
  have hA3 := alloc_below8 w2 (.cells (wcs (n.nth i) (.slice a2 (n.nth i).b.length c2)) 39)
  have hX3 := box_new w2 (wcs (n.nth i) (.slice a2 (n.nth i).b.length c2)) 39
  have hB02 : Below w.heap.size w w2 := HB1.out.trans (hB2.mono HB1.out.size)
  have HB3 := hide (hB02.trans (hA3.mono hB02.size))
  have HX13 := hide ((HX1.out.below8 hB2).below8 hA3)
  have HX33 := hide hX3
  have HL3 := hide (hL2.below hA3)
  have HYES := hide hyes
  have HNO := hide hno
  have HRP : Hid (w.heap.size < w2.heap.size) := hide (by have := HX1.out.lt; have := hB2.size; omega)
  obtain ⟨x, hx⟩ : ∃ x, x = n.nth i := ⟨_, rfl⟩
  rw [← hx] at HX33 HL3 HYES HB3 HX13 ⊢
  unfold wcs at HX33 HB3 HX13 HL3 ⊢
  have HXX := hide hx
  clear hA3 hX3 hB02 hL2 hB2 hyes hno CAT HX1 HB1 hx
  cases hi : n.inN i
  · have hE : atA n i = 6 := by unfold atA; rw [hi]; rfl
    have HT : Hid (takD n i = n) := hide (by unfold takD; rw [hi]; rfl)
    have HI := hide hi
    have HE := hide hE
    rw [hE]
    have HR3 := hide (HR.out.below HB3.out)
    clear hi hE
    go_wp2_with (first
      | (refine wp_load_box rfl _ rfl w2.heap.size rfl HX33.out Try.underlying39 rfl infoRW ?_)
      | (refine wp_store_box rfl rfl _ _ rfl w.heap.size rfl rfl HX13.out rfl infoRW (wcs_one x a2 _ c2) ?_; intro w4 hb4 hk4; have HX4 := hide hb4; have HK4 := hide hk4; clear hb4 hk4))
    refine bodyPost_ret (results_two8 rfl _ _ w.heap.size rfl rfl HX4.out Try.underlying39 rfl infoRW) rfl ?_
    have hne : ∀ k, usesR p vb ws k → ¬ k = w.heap.size := fun k hu e => by
      rcases hu with h | h | ⟨y, hy, h⟩
      · have := HR.out.box.lt; omega
      · have := (HR.out.own.lt k h).2; omega
      · have := (HR.out.far y hy k h).1; omega
    refine ⟨.slice a2 x.b.length c2, vb, ws, ?_, ?_, ?_, ?_, fun y hy => hy, fun e => (by rw [HI.out] at e; cases e), fun e => ⟨?_, rfl, rfl⟩⟩
    · rw [← HXX.out, HE.out]; rfl
    · rw [HT.out]; exact HR3.out.keep HK4.out hne
    · exact (KeepBut.of_below (fun k => k = p) HB3.out).trans (HK4.out.mono (S' := fun k => k = p ∨ w.heap.size ≤ k) (fun k e => .inr (Nat.le_of_eq e.symm))) (fun k hk h => h.elim id (fun h => by omega))
    · have hxb : x.b = [] := by rw [HXX.out]; unfold Nt.nth; rw [HI.out]; rfl
      rw [← HXX.out]
      rcases HL3.out with hl | ⟨h0, _⟩
      · exact .inl hl
      · exact absurd hxb h0
    · rw [HXX.out]; exact HNO.out e
  · obtain ⟨k, hkw, hik, hwk⟩ := HYES.out hi
    subst hik
    have hE : atA n (k : Int) = 0 := by unfold atA; rw [hi]; rfl
    have hkl : k < n.l.length := by rw [← HR.out.len]; exact hkw
    have HT : Hid (takD n (k : Int) = { n with l := n.l.eraseIdx k }) := hide (by unfold takD; rw [hi, if_pos rfl, Int.toNat_natCast])
    have HTO := hide (takD_ok HR.out.ok (k : Int))
    obtain ⟨g, cap, hg, hvb, hcap⟩ := HR.out.block (by omega)
    have hto := fun W => run_to8 W (some ⟨g, 0, none⟩) n.l.length cap k (by omega)
    have hfr := fun W => run_from8 W (some ⟨g, 0, none⟩) n.l.length cap (k + 1) (by omega)
    obtain ⟨af, haf⟩ : ∃ af, af = if cap = k + 1 then some (⟨g, 0, none⟩ : Addr) else (some (⟨g, 0, none⟩ : Addr)).map (·.add ((k + 1) * 3)) := ⟨_, rfl⟩
    rw [← haf] at hfr
    have hwrap : IntKind.i64.wrap ((k : Int) + 1) = ((k + 1 : Nat) : Int) := by rw [IntKind.wrap_i64]; omega
    have hfr2 : ∀ W, (Instr.sliceAt 29 (.slice (some ⟨g, 0, none⟩) n.l.length cap) (some (.int .i64 (IntKind.i64.wrap ((k : Int) + 1)))) none none).run Try.prog W = .ok (.slice af (n.l.length - (k + 1)) (cap - (k + 1))) W := fun W => by rw [hwrap]; exact hfr W
    have hfr3 : ∀ W, (Instr.sliceAt 29 (.slice (some ⟨g, 0, none⟩) n.l.length cap) (some (.int .i64 ((k : Int) + 1))) none none).run Try.prog W = .ok (.slice af (n.l.length - (k + 1)) (cap - (k + 1))) W := fun W => by
      have := hfr W
      rw [show ((k + 1 : Nat) : Int) = (k : Int) + 1 by omega] at this
      exact this
    have HGL : Hid (g < w2.heap.size) := hide (by have := (HR.out.own.lt g hg).2; have := HRP.out; omega)
    have HAF : Hid (∀ h, (Value.slice af (n.l.length - (k + 1)) (cap - (k + 1))).ownBlock = some h → h < w2.heap.size) := hide (fun h e => by
      rw [haf] at e
      split at e
      · cases e; exact HGL.out
      · simp [Value.ownBlock, Addr.add] at e; subst e; exact HGL.out)
    have HSZ3 : Hid (w2.heap.size ≤ (w2.alloc (.cells #[.int .u8 (x.fr : Int), .int .u8 (x.to : Int), .slice a2 x.b.length c2] 39)).heap.size) := hide (by simp)
    have hR3 := HR.out.below HB3.out
    have hsrc : WSrc _ vb ws := owns_src hR3.own HR.out.sliced
    have hlen := HR.out.len
    have hne : ws ≠ [] := fun e => by rw [e] at hkw; simp at hkw
    rw [hvb, ← hlen] at hsrc
    have HS1 := hide (src_take hsrc (i := k) (by omega) hne)
    have HS2 := hide (src_drop hsrc (i := k + 1) (by omega) hne)
    rw [hlen, ← haf] at HS2
    obtain ⟨m0, m1, m2⟩ := hR3.at
    rw [hvb] at m1
    have HR3 := hide hR3
    have HI := hide hi
    have HE := hide hE
    have HMEM : Hid ((x, .slice a2 x.b.length c2) ∈ ws) := hide (by rw [← hwk]; exact List.getElem_mem hkw)
    obtain ⟨ln2, hln2⟩ : ∃ l, l = n.l.length - (k + 1) := ⟨_, rfl⟩
    rw [← hln2] at hfr hfr2 hfr3 HS2 HAF
    rw [hE]
    have HHVB := hide hvb
    have HLEN := hide hlen
    have hwl : ws.length ≤ 256 := by omega
    clear hi hE hsrc hR3 hcap haf hwk hvb hfr hln2 hlen hwrap
    have HLTA : Hid (∀ h, (Value.slice af ln2 (cap - (k + 1))).ownBlock = some h → h < w2.heap.size) := hide (fun h e => HAF.out h e)
    go_wp2_with fail
    generalize w2.alloc (.cells #[.int .u8 (x.fr : Int), .int .u8 (x.to : Int), .slice a2 x.b.length c2] 39) = w3 at HX33 HB3 HX13 HL3 HS1 HS2 m0 m1 m2 HR3 HSZ3 ⊢
    have HBd : Hid (Below w3.heap.size w3 w3.drew) := hide (Below.refl _ _).drew
    have hs1d := HS1.out.below HBd.out (fun h e => by cases e; exact Nat.lt_of_lt_of_le HGL.out HSZ3.out)
    obtain ⟨v4, w4, hr4, ho4, hg4⟩ := app_wires w3.drew w3.heap.size (.slice none 0 0) (.slice (some ⟨g, 0, none⟩) k cap) [] (ws.take k) (World.ownsRow_nil _ _ _ _) hs1d (by simp; omega) (Nat.le_refl _)
    rw [List.nil_append] at ho4
    have hB4 : Below w3.heap.size w3 w4 := HBd.out.grown hg4 (Nat.le_refl _) (fun k hk => by cases hk)
    have hs2d := HS2.out.below hB4 (fun h e => Nat.lt_of_lt_of_le (HLTA.out h e) HSZ3.out)
    obtain ⟨v5, w5, hr5, ho5, hg5⟩ := app_wires w4 w3.heap.size v4 (.slice af ln2 (cap - (k + 1))) (ws.take k) (ws.drop (k + 1)) ho4 hs2d (by simp; omega) hB4.size
    rw [erase_eq] at ho5
    have hB5 : Below w3.heap.size w3 w5 := hB4.grown hg5 hB4.size (fun k hk => (ho4.lt k hk).1)
    obtain ⟨a4, c4, hv4⟩ := owns_shape3 ho4
    subst hv4
    obtain ⟨a5, c5, hv5⟩ := owns_shape3 ho5
    subst hv5
    have q4 : w4.cell? ⟨p, 1, none⟩ = some (.slice (some ⟨g, 0, none⟩) n.l.length cap) := (by have := (HR3.out.below hB4).at.2.1; rw [HHVB.out] at this; exact this)
    have q5 : w5.cell? ⟨p, 1, none⟩ = some (.slice (some ⟨g, 0, none⟩) n.l.length cap) := (by have := (HR3.out.below hB5).at.2.1; rw [HHVB.out] at this; exact this)
    have z5 := (HR3.out.below hB5).box.frozen 1
    have HO5 := hide ho5
    have HB5 := hide hB5
    clear m0 m2 ho4 hg4 hB4 hs1d hs2d ho5 hg5 hB5
    obtain ⟨tl, htl⟩ : ∃ tl, tl = (ws.take k).length := ⟨_, rfl⟩
    obtain ⟨el, hel⟩ : ∃ el, el = (ws.eraseIdx k).length := ⟨_, rfl⟩
    rw [← htl] at hr4 hr5
    rw [← hel] at hr5
    have HEL := hide hel
    clear htl hel
    go_region
    all_goals
      have hpl := HR.out.box.lt
      have hw23 : w.heap.size < w3.heap.size := Nat.lt_of_lt_of_le HRP.out HSZ3.out
      have hv5 : Value.slice a5 el c5 = Value.slice a5 (ws.eraseIdx k).length c5 := by rw [HEL.out]
      have hfr5 : ∀ g', (Value.slice a5 el c5).ownBlock = some g' → w3.heap.size ≤ g' := fun g' e => (HO5.out.lt g' (by rw [← hv5]; exact e)).1
      have hmem : ∀ y ∈ ws.eraseIdx k, y ∈ ws := fun y hy => List.mem_of_mem_eraseIdx hy
      obtain ⟨rn, kn⟩ := RNw.anew (HR3.out.below HB5.out) (vb' := .slice a5 el c5) (ws' := ws.eraseIdx k) (n' := { n with l := n.l.eraseIdx k }) (by rw [hv5]; exact owns_any8 HO5.out) (fun e => by have := hfr5 p e; omega) (fun y hy => (HR3.out.below HB5.out).by8 y (hmem y hy)) (by rw [map_erase, HR.out.eq]) (by rw [← HT.out]; exact HTO.out)
        (fun y hy g' e => ⟨((HR3.out.below HB5.out).far y (hmem y hy) g' e).1, (HR.out.far y (hmem y hy) g' e).2.1, fun e2 => by have h1 := hfr5 g' e2; have h2 := (HR.out.far y (hmem y hy) g' e).1; omega⟩) rfl rfl
      have HX36 := hide ((HX33.out.below8 HB5.out).keep kn (by have := HRP.out; omega))
      have HX16 := hide ((HX13.out.below8 HB5.out).keep kn (by omega))
      have HRN := hide rn
      have HK6 : Hid (KeepBut (fun k => k = p) w (w5.setCell ⟨p, 1, none⟩ (.slice a5 el c5))) := hide ((KeepBut.of_below (fun k => k = p) (HB3.out.trans (HB5.out.mono HB3.out.size))).trans kn (fun _ _ h => h))
      have HFR5 := hide hfr5
      have HMM := hide hmem
      have HWW := hide hw23
      have HPL := hide hpl
      clear rn kn hv5 hfr5 hmem hw23 hpl hr4 hr5 q4 q5 z5 m1 hto hfr2 hfr3
      go_wp2_with (first
        | (refine wp_load_box rfl _ rfl w2.heap.size rfl HX36.out Try.underlying39 rfl infoRW ?_)
        | (refine wp_store_box rfl rfl _ _ rfl w.heap.size rfl rfl HX16.out rfl infoRW (wcs_one x a2 _ c2) ?_; intro w7 hb7 hk7; have HX7 := hide hb7; have HK7 := hide hk7; clear hb7 hk7))
      refine bodyPost_ret (results_two8 rfl _ _ w.heap.size rfl rfl HX7.out Try.underlying39 rfl infoRW) rfl ?_
      have hK7 : KeepBut (fun k => k = p) w w7 := HK6.out.trans (HK7.out.mono (S' := fun k => k = p ∨ w.heap.size ≤ k) (fun k e => .inr (Nat.le_of_eq e.symm))) (fun k hk h => h.elim id (fun h => by omega))
      refine ⟨.slice a2 x.b.length c2, .slice a5 el c5, ws.eraseIdx k, ?_, ?_, hK7, ?_, HMM.out, fun _ => ⟨?_, fun g' e => ?_⟩, fun e => (by rw [HI.out] at e; cases e)⟩
      · rw [← HXX.out, HE.out]; rfl
      · rw [HT.out]
        refine HRN.out.keep HK7.out (fun k' hu e => ?_)
        rcases hu with h | h | ⟨y, hy, h⟩
        · have := HPL.out; omega
        · have := HFR5.out k' h; have := HWW.out; omega
        · have := (HR.out.far y (HMM.out y hy) k' h).1; omega
      · rw [← HXX.out]
        exact (HR.out.by8 _ HMEM.out).kept8 hK7 (fun g' e => (HR.out.far _ HMEM.out g' e).2.1)
      · rw [← HXX.out]; exact HMEM.out
      · have := HFR5.out g' e; have := HWW.out; omega
end Go.Proofs.Yteehkjdolmmapaa
