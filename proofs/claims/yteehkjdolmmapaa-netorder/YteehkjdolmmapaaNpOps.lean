/-
  The program's network: add, remove. Own work.
-/
import Derived.Test.YteehkjdolmmapaaNpNet
import Derived.Maps.AppendAt
namespace Go.Proofs.Yteehkjdolmmapaa
open Go.RowKit

/-- 'append' of one wire onto a row of one's own; where the row then lies. -/
theorem app_oneP (w : World) (v vx : Value) (ys : List (Wr × Value)) (q : Wr × Value) (hown : w.ownsRow 0 50 3 v ys.length (wcl ys)) (hL : WSrc w vx [q]) (hb : ys.length ≤ 1000000) :
    ∃ v' w', (∀ ty, (appP8 #[62, 62] ty #[v, vx]).run Try.prog w = .ok v' w') ∧ w'.ownsRow 0 50 3 v' (ys ++ [q]).length (wcl (ys ++ [q])) ∧ w.grownBy w' v.ownBlock ∧ (v'.ownBlock = v.ownBlock ∨ v'.ownBlock = some w.heap.size) := by
  obtain ⟨i0, hi, hz0, hz1, hz2⟩ := info_parts3 infoW3
  obtain ⟨hsl, ao, c, rfl, _, hn, hc⟩ := hL
  cases ao with
  | none =>
    obtain ⟨h, _⟩ := hn rfl
    cases h
  | some ad =>
    obtain ⟨v', w', hr, ho, hg, _, hob⟩ := run_append_own_at (P := Try.prog) w 0 62 62 50 i0 _ 3 32 Try.underlying62 hi hz0 hz1 hz2 rfl (by decide) v ys.length _ hown ad 1 c (wcl [q]) (wcl_len [q]) (hc ad rfl) (wcl_one hsl) (by unfold maxLen; omega) (by omega) (Nat.zero_le _)
    refine ⟨v', w', fun ty => ?_, by rw [List.length_append, wcl_app]; exact ho, hg, hob⟩
    exact hr
/-- One wire comes behind the others: its row is a new one, or the one that it had. -/
theorem PNw.push {S : Nat → Prop} {w wf : World} {p : Nat} {vb v sv : Value} {ws : List (Wr × Value)} {n : Nt} {x : Wr} (h : PNw w p vb ws n) (hk : KeepBut S w wf) (hp : ¬ S p) (hS : ∀ y ∈ ws, ∀ g, y.2.ownBlock = some g → ¬ S g ∧ v.ownBlock ≠ some g) (ho : wf.ownsRow 0 50 3 v (ws ++ [(x, sv)]).length (wcl (ws ++ [(x, sv)]))) (hvp : v.ownBlock ≠ some p)
    (hL : Lies .u8 wf sv x.b) (hsv : ∀ g, sv.ownBlock = some g → g < wf.heap.size ∧ g ≠ p ∧ v.ownBlock ≠ some g) (hok : (⟨n.room, n.l ++ [x], n.lost⟩ : Nt).Ok) :
    PNw (wf.setCell ⟨p, 2, none⟩ v) p v (ws ++ [(x, sv)]) ⟨n.room, n.l ++ [x], n.lost⟩ ∧ KeepBut (fun k => k = p) wf (wf.setCell ⟨p, 2, none⟩ v) := by
  have hks : KeepBut (fun k => k = p) wf (wf.setCell ⟨p, 2, none⟩ v) := (KeepBut.refl (fun k => k = p) wf).setCell (p := ⟨p, 2, none⟩) (.inl rfl) _
  refine ⟨⟨?_, owns_keep ho hks (fun g hg e => hvp (by rw [hg, e])), fun y hy => ?_, by simp [h.eq], hok, fun y hy g hg => ?_⟩, hks⟩
  · exact (h.box.keep hk hp).set (i := 2) (v := v)
  · rcases List.mem_append.1 hy with hy | hy
    · exact ((h.by8 y hy).keptP hk (fun g hg => (hS y hy g hg).1)).keptP hks (fun g hg => (h.far y hy g hg).2.1)
    · obtain rfl : y = (x, sv) := by simpa using hy
      exact hL.keptP hks (fun g hg => (hsv g hg).2.1)
  · rcases List.mem_append.1 hy with hy | hy
    · exact ⟨by simpa using Nat.lt_of_lt_of_le (h.far y hy g hg).1 hk.size, (h.far y hy g hg).2.1, (hS y hy g hg).2⟩
    · obtain rfl : y = (x, sv) := by simpa using hy
      exact ⟨by simpa using (hsv g hg).1, (hsv g hg).2⟩
/-- What a call that adds leaves. -/
def PAdd (w w' : World) (p : Nat) (vb : Value) (ws' : List (Wr × Value)) (n' : Nt) : Prop :=
  ∃ vb', PNw w' p vb' ws' n' ∧ KeepBut (writesP p vb) w w' ∧ (vb'.ownBlock = vb.ownBlock ∨ ∀ g, vb'.ownBlock = some g → w.heap.size ≤ g)
attribute [local go_sem ↓] app_hideP
set_option maxRecDepth 100000 in
set_option maxHeartbeats 1600000 in
theorem nadd_any (p : Nat) (vb : Value) (ws : List (Wr × Value)) (n : Nt) (x : Wr) (sv : Value) (w : World) (h : PNw w p vb ws n) (hL : Lies .u8 w sv x.b) (hsv : ∀ g, sv.ownBlock = some g → g < w.heap.size ∧ g ≠ p ∧ vb.ownBlock ≠ some g) (hok : (⟨n.room, n.l ++ [x], n.lost⟩ : Nt).Ok) :
    Calls Try.prog 40 #[.pointer (some ⟨p, 0, none⟩), .agg (wcs x sv)] w fun e w' => e = .returned (.tuple #[]) ∧ PAdd w w' p vb (ws ++ [(x, sv)]) ⟨n.room, n.l ++ [x], n.lost⟩ := by
  obtain ⟨a2, c2, hsv0⟩ := hL.shape
  subst hsv0
  unfold wcs
  have hA := alloc_below8 w (.cells #[.int .u8 (x.fr : Int), .int .u8 (x.to : Int), .slice a2 x.b.length c2] 50)
  have hX := box_new w #[.int .u8 (x.fr : Int), .int .u8 (x.to : Int), .slice a2 x.b.length c2] 50
  have hwl : ws.length ≤ 256 := by have := h.len; have := h.ok.full; have := h.ok.r2; omega
  obtain ⟨w2, hw2⟩ : ∃ w2, w2 = w.alloc (.cells #[.int .u8 (x.fr : Int), .int .u8 (x.to : Int), .slice a2 x.b.length c2] 50) := ⟨_, rfl⟩
  have hW2 := hw2.symm
  rw [← hw2] at hA hX
  obtain ⟨w3, hw3⟩ : ∃ w3, w3 = (w2.alloc (.cells #[.int .u8 (x.fr : Int), .int .u8 (x.to : Int), .slice a2 x.b.length c2] 50)).drew := ⟨_, rfl⟩
  have hB3 : Below w2.heap.size w2 w3 := hw3 ▸ ((Below.refl w2.heap.size w2).alloc (Nat.le_refl _) _).drew
  have hsrc : WSrc w3 (.slice (some ⟨w2.heap.size, 0, none⟩) 1 1) [(x, .slice a2 x.b.length c2)] := by
    rw [hw3]
    exact (src_one w2 x a2 x.b.length c2 50).keep (KeepBut.of_below (fun _ => False) (Below.refl _ _).drew) (fun g e => by cases e; exact ⟨by show w2.heap.size < _; simp, id⟩)
  have hR2 := h.below hA
  have hR3 := hR2.below hB3
  obtain ⟨v4, w4, hr4, ho4, hg4, hob⟩ := app_oneP w3 vb (.slice (some ⟨w2.heap.size, 0, none⟩) 1 1) ws (x, .slice a2 x.b.length c2) hR3.own hsrc (by omega)
  have hsz3 : w.heap.size ≤ w3.heap.size := Nat.le_trans hA.size hB3.size
  have hk04 : KeepBut (fun k => vb.ownBlock = some k) w w4 := ((KeepBut.of_below (fun k => vb.ownBlock = some k) hA).trans (KeepBut.of_below (fun k => vb.ownBlock = some k) hB3) (fun _ _ h => h)).trans ⟨hg4.os, hg4.tape, hg4.output, hg4.size, fun k hk hS => hg4.block k hk (fun e => hS e.symm)⟩ (fun _ _ h => h)
  have hob' : v4.ownBlock = vb.ownBlock ∨ ∀ g, v4.ownBlock = some g → w.heap.size ≤ g := hob.imp id (fun e g hg => by rw [e] at hg; cases hg; exact hsz3)
  have hne : ∀ g, g < w.heap.size → vb.ownBlock ≠ some g → v4.ownBlock ≠ some g := fun g hlt h1 e => by
    rcases hob' with h2 | h2
    · rw [h2] at e; exact h1 e
    · have := h2 g e; omega
  obtain ⟨rn, kn⟩ := h.push hk04 h.apart (fun y hy g e => ⟨(h.far y hy g e).2.2, hne g (h.far y hy g e).1 (h.far y hy g e).2.2⟩) ho4 (hne p h.box.lt h.apart) (hL.keptP hk04 (fun g e => (hsv g e).2.2))
    (fun g e => ⟨Nat.lt_of_lt_of_le (hsv g e).1 hk04.size, (hsv g e).2.1, hne g (hsv g e).1 (hsv g e).2.2⟩) hok
  have HFIN : Hid (PAdd w (w4.setCell ⟨p, 2, none⟩ v4) p vb (ws ++ [(x, .slice a2 x.b.length c2)]) ⟨n.room, n.l ++ [x], n.lost⟩) := hide ⟨v4, rn, (hk04.mono (S' := writesP p vb) (fun k e => .inr e)).trans kn (fun k _ e => .inl e), hob'⟩
  have hbx4 := h.box.keep hk04 h.apart
  have q4 := hbx4.cell 2 _ rfl
  have z4 := hbx4.frozen 2
  have q2 := hR2.at.2.2.1
  have q3 := hR3.at.2.2.1
  have t0 := hX.cell 0 _ rfl
  have t1 := hX.cell 1 _ rfl
  have t2 := hX.cell 2 _ rfl
  have u0 := (hX.below8 hB3).cell 0 _ rfl
  have u1 := (hX.below8 hB3).cell 1 _ rfl
  have u2 := (hX.below8 hB3).cell 2 _ rfl
  obtain ⟨ao', cap', hvb', _⟩ := hR3.shape
  subst hvb'
  obtain ⟨a4, c4, hv4, _⟩ := owns_shapeP ho4
  subst hv4
  obtain ⟨el, hel⟩ : ∃ el, el = (ws ++ [(x, Value.slice a2 x.b.length c2)]).length := ⟨_, rfl⟩
  obtain ⟨yl, hyl⟩ : ∃ yl, yl = n.l.length := ⟨_, rfl⟩
  rw [← hel] at hr4 HFIN
  rw [← hyl] at hr4 q4 q3 q2 HFIN ⊢
  clear ho4 hg4 hk04 rn kn hbx4 hsrc hR3 hR2 hB3 hel hyl hA hX hob hob' hne hsv hok h hL hw2
  subst hw3
  go_enter Try.func40, Try.ntmps40
  go_wp2_with fail
  go_region
  all_goals go_wp2_with fail
  all_goals go_end0
  all_goals exact ⟨rfl, HFIN.out⟩
theorem map_eraseP (ws : List (Wr × Value)) (k : Nat) : (ws.eraseIdx k).map Prod.fst = (ws.map Prod.fst).eraseIdx k := by
  rw [List.eraseIdx_eq_take_drop_succ, List.eraseIdx_eq_take_drop_succ]
  simp
/-- Some of its wires are left, in the row that it had. -/
theorem PNw.anew {S : Nat → Prop} {w w3 : World} {p : Nat} {vb v : Value} {ws ws' : List (Wr × Value)} {n n' : Nt} (h : PNw w p vb ws n) (hk : KeepBut S w w3) (hp : ¬ S p) (hm : ∀ y ∈ ws', y ∈ ws) (hS : ∀ y ∈ ws, ∀ g, y.2.ownBlock = some g → ¬ S g) (ho : w3.ownsRow 0 50 3 v ws'.length (wcl ws')) (hv : v.ownBlock = vb.ownBlock) (he : ws'.map Prod.fst = n'.l) (hok : n'.Ok) (hr : n'.room = n.room) (hl : n'.lost = n.lost) :
    PNw (w3.setCell ⟨p, 2, none⟩ v) p v ws' n' ∧ KeepBut (fun k => k = p) w3 (w3.setCell ⟨p, 2, none⟩ v) := by
  have hks : KeepBut (fun k => k = p) w3 (w3.setCell ⟨p, 2, none⟩ v) := (KeepBut.refl (fun k => k = p) w3).setCell (p := ⟨p, 2, none⟩) (.inl rfl) _
  refine ⟨⟨?_, owns_keep ho hks (fun g hg e => h.apart (by rw [← hv, hg, e])), fun y hy => ?_, he, hok, fun y hy g hg => ?_⟩, hks⟩
  · have := (h.box.keep hk hp).set (i := 2) (v := v)
    unfold pncells at this ⊢
    rw [hr, hl]
    exact this
  · exact ((h.by8 y (hm y hy)).keptP hk (fun g hg => hS y (hm y hy) g hg)).keptP hks (fun g hg => (h.far y (hm y hy) g hg).2.1)
  · exact ⟨by simpa using Nat.lt_of_lt_of_le (h.far y (hm y hy) g hg).1 hk.size, (h.far y (hm y hy) g hg).2.1, by rw [hv]; exact (h.far y (hm y hy) g hg).2.2⟩
set_option maxRecDepth 100000 in
set_option maxHeartbeats 1600000 in
theorem nremove_any (p : Nat) (vb : Value) (ws : List (Wr × Value)) (n : Nt) (k : Nat) (w : World) (h : PNw w p vb ws n) (hk : k < ws.length) :
    Calls Try.prog 41 #[.pointer (some ⟨p, 0, none⟩), .int .i64 (k : Int)] w fun e w' => e = .returned (.agg (wcs ws[k].1 ws[k].2)) ∧ PAdd w w' p vb (ws.eraseIdx k) ⟨n.room, n.l.eraseIdx k, n.lost⟩ := by
  obtain ⟨c0, c1, c2⟩ := wcl_at hk
  have hm := List.getElem_mem hk
  obtain ⟨a2, cc2, hsv⟩ := (h.by8 _ hm).shape
  obtain ⟨y, hy⟩ : ∃ y, y = ws[k] := ⟨_, rfl⟩
  rw [← hy] at c0 c1 c2 hsv hm ⊢
  obtain ⟨x, sv⟩ := y
  simp only at c0 c1 c2 hsv hm ⊢
  subst hsv
  have hA1 := alloc_below8 w (.cells #[.int .u8 0, .int .u8 0, .slice none 0 0] 50)
  have hX1 := box_new w #[.int .u8 0, .int .u8 0, .slice none 0 0] 50
  obtain ⟨w1, hw1⟩ : ∃ w1, w1 = w.alloc (.cells #[.int .u8 0, .int .u8 0, .slice none 0 0] 50) := ⟨_, rfl⟩
  rw [← hw1] at hA1 hX1
  have hs1 : w1.heap.size = w.heap.size + 1 := by rw [hw1]; simp
  have hA2 := alloc_below8 w1 (.cells #[.int .u8 (x.fr : Int), .int .u8 (x.to : Int), .slice a2 x.b.length cc2] 50)
  have hX2 := box_new w1 #[.int .u8 (x.fr : Int), .int .u8 (x.to : Int), .slice a2 x.b.length cc2] 50
  obtain ⟨w2, hw2⟩ : ∃ w2, w2 = w1.alloc (.cells #[.int .u8 (x.fr : Int), .int .u8 (x.to : Int), .slice a2 x.b.length cc2] 50) := ⟨_, rfl⟩
  rw [← hw2] at hA2 hX2
  have hR1 := h.below hA1
  have hR2 := hR1.below hA2
  obtain ⟨g, cap, hg, hvb, hcap⟩ := h.block (by omega)
  have q0 := hR1.own.cells hg _ _ c0
  have q1 := hR1.own.cells hg _ _ c1
  have q2 := hR1.own.cells hg _ _ c2
  rw [Addr.add_lit, Nat.zero_add] at q0 q1 q2
  have m2 := hR1.at.2.2.1
  have n2 := hR2.at.2.2.1
  have hwl : ws.length ≤ 256 := by have := h.len; have := h.ok.full; have := h.ok.r2; omega
  have CD := hide (del_any vb ws k w2 hR2.own h.sliced hk hwl)
  rw [hvb] at m2 n2 CD
  have hkl : (k : Int) < (n.l.length : Int) := by have := h.len; omega
  have hk0 : (k : Int) + 1 ≤ 256 := by have := h.len; omega
  have hwrap : ((k + 1 : Nat) : Int) = (k : Int) + 1 := by omega
  rw [hwrap] at CD
  have HX1 := hide (hX1.below8 hA2)
  have HX2 := hide hX2
  have HB2 := hide (hA1.trans (hA2.mono hA1.size))
  have HR := hide h
  have HR2 := hide hR2
  have HVB := hide hvb
  have HG := hide hg
  have HS2 : Hid (w2.heap.size = w.heap.size + 2) := hide (by rw [hw2]; simp [hs1])
  have HKW := hide hk
  have hmx : n.l.length ≤ 256 := Nat.le_trans h.ok.full h.ok.r2
  have hW1 := hw1.symm
  have hW2 := hw2.symm
  have HWS1 := hide hs1
  clear h hR1 hR2 hvb hg hcap c0 c1 c2 hm hX1 hX2 hA1 hA2 hwrap hk hw1 hw2 hs1 hy
  go_enter Try.func41, Try.ntmps41
  go_wp2_with fail
  refine CD.out.mono ?_
  rintro e w3 ⟨v3, rfl, ho3, hob3, hk3⟩
  have hkv : KeepBut (fun j => vb.ownBlock = some j) w2 w3 := by rw [HVB.out]; exact hk3
  have hobv : v3.ownBlock = vb.ownBlock := by rw [HVB.out]; exact hob3
  obtain ⟨rn, kn⟩ := HR2.out.anew (ws' := ws.eraseIdx k) (n' := ⟨n.room, n.l.eraseIdx k, n.lost⟩) hkv HR2.out.apart (fun y hy => List.mem_of_mem_eraseIdx hy) (fun y hy g e => (HR2.out.far y hy g e).2.2) ho3 hobv (by rw [map_eraseP, HR.out.eq]) (erase_ok HR.out.ok k n.lost) rfl rfl
  have hbx3 := HR2.out.box.keep hkv HR2.out.apart
  have r3 := hbx3.cell 2 _ rfl
  have z3 := hbx3.frozen 2
  obtain ⟨a3, c3, hv3, _⟩ := owns_shapeP ho3
  subst hv3
  obtain ⟨el, hel⟩ : ∃ el, el = (ws.eraseIdx k).length := ⟨_, rfl⟩
  rw [← hel] at rn kn hobv
  rw [← hel]
  have HRN := hide rn
  have HKN := hide (hkv.mono (S' := writesP p vb) (fun _ e => .inr e) |>.trans kn (fun _ _ e => .inl e))
  have HX13 := hide ((HX1.out.keep hkv (fun e => by have := (HR.out.own.lt _ e).2; omega)).keep kn (by have := HR.out.box.lt; omega))
  have HX23 := hide ((HX2.out.keep hkv (fun e => by have := (HR.out.own.lt _ e).2; have := HWS1.out; omega)).keep kn (by have := HR.out.box.lt; have := HWS1.out; omega))
  have HOB := hide hobv
  clear hkv hobv rn kn ho3 hob3 hk3 hbx3 hel CD m2 n2 q0 q1 q2
  go_wp2_with (first
    | (refine wp_load_box rfl _ rfl w1.heap.size rfl HX23.out Try.underlying50 rfl infoW ?_)
    | (refine wp_store_box rfl rfl _ _ rfl w.heap.size rfl rfl HX13.out rfl infoW (wcs_one x a2 _ cc2) ?_; intro w5 hb5 hk5; have HX5 := hide hb5; have HK5 := hide hk5; clear hb5 hk5))
  refine bodyPost_ret (results_box rfl _ _ w.heap.size rfl HX5.out Try.underlying50 rfl infoW) rfl ?_
  refine ⟨rfl, _, HRN.out.keep HK5.out (fun j hu e => ?_), ?_, .inl HOB.out⟩
  · rcases hu with h | h | ⟨y, hy, h⟩
    · have := HR.out.box.lt; omega
    · rw [HOB.out] at h; have := (HR.out.own.lt _ h).2; omega
    · have := (HR.out.far y (List.mem_of_mem_eraseIdx hy) _ h).1; omega
  · exact ((KeepBut.of_below (writesP p vb) HB2.out).trans HKN.out (fun _ _ h => h)).trans (HK5.out.mono (S' := fun j => writesP p vb j ∨ w.heap.size ≤ j) (fun j e => .inr (Nat.le_of_eq e.symm))) (fun j hj h => h.elim id (fun h => by omega))
end Go.Proofs.Yteehkjdolmmapaa
