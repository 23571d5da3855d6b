/-
  Own texts put together: LkDrop, LkReads. Own work.
-/
import Derived.Test.YtddflccjmigloaaG14
namespace Go.Proofs.Ytddflccjmigloaa
section
open Go.RowKit Go.Maps Classical

section
variable {K E : Type} {mt kt et : TypeId} {kV : K → Value} {kL : K → Lit} {eV : E → Value} {z : E} {w : World} {b n : Nat} {g : K → Option E}
/-- 'range m', as a run. -/
theorem run_range_g (T : MapTy mt kt et kV kL eV z) (h : GMap kt kL eV w b g n) : ∃ w', (Instr.range mt (.map (some b))).run Try.prog w = .ok (.pointer (some ⟨w.heap.size, 0, none⟩)) w' ∧ GRng kt kL eV w' b w.heap.size g g [] ∧ Below w.heap.size w w' ∧ w'.rangeLeft b w.heap.size = n := by
  obtain ⟨R, D, hR, ho, hs, hh, ha⟩ := h.own
  obtain ⟨w', hrun, h1, h2, h3⟩ := ho.range T.keyed T.und
  exact ⟨w', hrun, ⟨⟨R, D, Maps.has D, Maps.size D, _, hR, h1, hh, ha, fun k => by rw [hh k]; simp⟩, List.nodup_nil, (fun k hk => by cases hk), fun k _ => rfl⟩, ⟨h2.os, h2.tape, h2.output, h2.size, fun k hk => h2.block k hk (by simp)⟩, by rw [h1.left_eq, hs]⟩
end
theorem recKey15 : Rec 35 34 8 kyCs := ⟨Try.underlying35, rec_info (z := .agg (eightA [0, 0, 0, 0, 0, 0, 0, 0])) (K := 8) (B := 8) (by kernel_rfl) rfl (by decide), by decide, fun _ => rfl⟩
abbrev KRng (w : World) (b r : Nat) (f : KeyT → Nat) (ks : List KeyT) : Prop := GRng 34 (fun k : KeyT => kyKey k.1) u8V w b r (gM f) (gM f) ks
theorem keys15 {w : World} {b r : Nat} {f : KeyT → Nat} {ks : List KeyT} (h : KRng w b r f ks) (hd : GEnd (gM f) ks) (k : KeyT) : k ∈ ks ↔ f k ≠ 0 := by
  constructor
  · intro hk e
    have := h.was k hk
    simp [gM, e] at this
  · intro hf
    by_cases hk : k ∈ ks
    · exact hk
    · have := hd.all k hk
      simp [gM, hf] at this
theorem drop_len : ∀ {l : List (UsP KeyT)} (_ : l.Pairwise fun a b => txO a.tx b.tx < 0) {x : UsP KeyT} (_ : x ∈ l), (dropU l x.tx).length + 1 = l.length
  | [], _, _, hx => by cases hx
  | y :: l, hr, x, hx => by
    have hr' := List.pairwise_cons.1 hr
    unfold dropU
    by_cases hy : y.tx = x.tx
    · have hf : l.filter (fun u => decide (u.tx ≠ x.tx)) = l := List.filter_eq_self.2 fun v hv => by
        have := hr'.1 v hv
        refine decide_eq_true (fun e => ?_)
        rw [hy, e, (txO_zero _ _).2 rfl] at this
        omega
      rw [List.filter_cons, if_neg (by simp [hy]), hf, List.length_cons]
    · have hxl : x ∈ l := by
        rcases List.mem_cons.1 hx with e | e
        · exact absurd (by rw [e]) hy
        · exact e
      have := drop_len hr'.2 hxl
      unfold dropU at this
      rw [List.filter_cons, if_pos (by simp [hy]), List.length_cons, List.length_cons, this]
theorem gU_drop {l : List (UsP KeyT)} (hb : LkB l) (p : TxN → Nat × Nat) (t k : TxT) : gU (dropU l t.1) p k = if k = t then none else gU l p k := by
  have hbd : LkB (dropU l t.1) := filter_b hb _
  by_cases hk : k = t
  · subst hk
    rw [if_pos rfl]
    have : usL (dropU l k.1) k.1 = none := usL_none.2 fun x hx => by
      have := (List.mem_filter.1 hx).2
      exact of_decide_eq_true this
    show (usL (dropU l k.1) k.1).map _ = none
    rw [this]
    rfl
  · rw [if_neg hk]
    have hk' : k.1 ≠ t.1 := fun e => hk (Subtype.ext e)
    have : usL (dropU l t.1) k.1 = usL l k.1 := by
      cases hu : usL l k.1 with
      | none => exact usL_none.2 fun x hx => usL_none.1 hu x (List.mem_filter.1 hx).1
      | some u =>
        obtain ⟨hm, e⟩ := (usL_some hb).1 hu
        exact (usL_some hbd).2 ⟨List.mem_filter.2 ⟨hm, decide_eq_true (by rw [e]; exact hk')⟩, e⟩
    show (usL (dropU l t.1) k.1).map _ = (usL l k.1).map _
    rw [this]
theorem PLk.dropped {w w' : World} {q b C : Nat} {p : TxN → Nat × Nat} {l : List (UsP KeyT)} (h : PLk w q b C p l) {x : UsP KeyT} (hm : UMap w' b (gU (dropU l x.tx) p) (dropU l x.tx).length) (hk : KeepBut (fun j => j = b) w w') : PLk w' q b C p (dropU l x.tx) :=
  ⟨h.box.keep hk (fun e => h.m.ne h.box e), hm, fun u hu => by
    have hul := (List.mem_filter.1 hu).1
    obtain ⟨n, n', h1, h2, h3⟩ := h.maps u hul
    exact ⟨n, n', h1.keep hk (h.ap u hul).2.1, h2.keep hk (h.ap u hul).2.2, h3⟩, fun u hu => h.ap u (List.mem_filter.1 hu).1, fun u hu v hv => h.ap2 u (List.mem_filter.1 hu).1 v (List.mem_filter.1 hv).1, filter_b h.ok _⟩
theorem key_one15 (k : KeyT) : ∀ u ∈ kyCs k, u.oneCell' = true := fun u hu => by
  simp only [kyCs, eightE, List.mem_cons, List.not_mem_nil, or_false] at hu
  rcases hu with rfl | rfl | rfl | rfl | rfl | rfl | rfl | rfl <;> rfl
set_option maxRecDepth 100000 in
set_option maxHeartbeats 3200000 in
theorem lkDrop_any (q b C : Nat) (p : TxN → Nat × Nat) (l : List (UsP KeyT)) (x : UsP KeyT) (hx : x ∈ l) (w : World) (h : PLk w q b C p l) (hC : C ≤ 100000) :
    Calls Try.prog 34 #[.pointer (some ⟨q, 0, none⟩), txVN x.tx] w fun e w' => ∃ (v : Value) (ks : List KeyT), e = .returned v ∧ w'.ownsRow w.heap.size 34 8 v ks.length (rowK ks) ∧ (∀ k, k ∈ ks ↔ x.h k ≠ 0 ∨ x.w k ≠ 0) ∧ ks.length ≤ C ∧ PLk w' q b C p (dropU l x.tx) ∧ KeepBut (fun j => j = b) w w' := by
  have hxb : TxB x.tx := (h.ok.oks x hx).1
  have hE : (gU l p ⟨x.tx, hxb⟩).getD zE = (x.tm, x.tx, x.pr, some (p x.tx).1, some (p x.tx).2) := by
    have e : gU l p ⟨x.tx, hxb⟩ = some (x.tm, x.tx, x.pr, some (p x.tx).1, some (p x.tx).2) := by show (usL l x.tx).map _ = _; rw [(usL_some h.ok).2 ⟨hx, rfl⟩]; rfl
    rw [e]; rfl
  obtain ⟨⟨m1, m2⟩, hxm⟩ : ∃ m, m = p x.tx := ⟨_, rfl⟩
  rw [← hxm] at hE
  have hA := alloc_below14 w (.cells #[.int .u8 (x.tx.1 : Int), .int .u32 (x.tx.2.1 : Int), .int .u32 (x.tx.2.2 : Int)] 30)
  have HXT := hide (box_new w #[.int .u8 (x.tx.1 : Int), .int .u32 (x.tx.2.1 : Int), .int .u32 (x.tx.2.2 : Int)] 30)
  obtain ⟨w1, hw1⟩ : ∃ w1, w1 = w.alloc (.cells #[.int .u8 (x.tx.1 : Int), .int .u32 (x.tx.2.1 : Int), .int .u32 (x.tx.2.2 : Int)] 30) := ⟨_, rfl⟩
  obtain ⟨p1, hp1⟩ : ∃ p1, p1 = w.heap.size := ⟨_, rfl⟩
  rw [← hw1, ← hp1] at HXT
  rw [← hw1] at hA
  have hW1 := hw1.symm
  have hP1 := hp1.symm
  have H1 := hide (h.below hA)
  have HB := hide hA
  obtain ⟨n, n', hm1, hm2, hnn⟩ := H1.out.maps x hx
  rw [← hxm] at hm1 hm2
  have h0 : w1.cell? ⟨q, 0, none⟩ = some (.map (some b)) := H1.out.box.cell 0 _ rfl
  obtain ⟨k0, k1, k2⟩ := HXT.out.three
  have L1 := (H1.out.m.below (below_drew14 w1)).look1 umTy ⟨x.tx, hxb⟩
  rw [hE] at L1
  have hf2 := field2_us (x.tm, x.tx, x.pr, some m1, some m2)
  have hf3 := field3_us (x.tm, x.tx, x.pr, some m1, some m2)
  obtain ⟨w2, hr1, hg1, hb1, hs1⟩ := run_range_g mmTy (hm1.below (below_drew14 w1))
  have hds : w1.drew.heap.size = w1.heap.size := rfl
  have hb12 : Below w1.heap.size w1 w2 := (below_drew14 w1).trans hb1
  rw [hds] at hr1 hg1 hs1
  obtain ⟨r1, hr1e⟩ : ∃ r, r = w1.heap.size := ⟨_, rfl⟩
  rw [← hr1e] at hr1 hg1 hb12 hs1
  have HR1 := hide hr1e
  have HB12 := hide hb12
  have HM1L : Hid (m1 < r1) := hide (by rw [hr1e]; exact hm1.lt)
  clear hr1e hds hb12
  have HG1 := hide hg1
  have HS1 := hide hs1
  have HM2 := hide hm2
  have HNN := hide hnn
  have HE := hide hE
  have HXB := hide hxb
  have HC := hide hC
  have HXI := hide hx
  clear hg1 hb1 hs1 h hA hw1 hp1 hE hm1 hm2 hnn hC hx
  obtain ⟨⟨xa, xb, xc⟩, xm, xp, xh, xw⟩ := x
  dsimp only at *
  go_enter Try.func34, Try.ntmps34
  go_wp2_with fail
  go_region
  simp only [Exit.then]
  rename_i hK
  refine hK _ _ ?_
  clear hK
  go_wp2_with fail
  go_loopw [5] (fun y wr => ∃ (ks : List KeyT) (ax : Option Addr) (cx : Nat), y = .slice ax ks.length cx ∧ Hid (KRng wr m1 r1 xh ks) ∧ Hid (wr.ownsRow r1 34 8 (.slice ax ks.length cx) ks.length (flat kyCs ks)) ∧ Hid (Below r1 w1 wr) ∧ Hid (ks.length + wr.rangeLeft m1 r1 ≤ n)) (fun _ wr => wr.rangeLeft m1 r1)
  case atStart => exact ⟨[], none, 0, rfl, HG1, hide (World.ownsRow_nil _ _ _ _), HB12, hide (by rw [HS1.out]; simp)⟩
  case round =>
    obtain ⟨ks, ax, cx, rfl, HG, HO, HBW, HLE⟩ := hrel
    go_wp2_with (at_next; refine wp_next_g mmTy _ rfl _ rfl rfl HG.out ?_ ?_)
    · intro hdone
      have HK1 : Hid (∀ k, k ∈ ks ↔ xh k ≠ 0) := hide (keys15 HG.out hdone)
      clear hdone
      have HLE1 : Hid (ks.length ≤ n) := hide (by have := HLE.out; omega)
      have HBR : Hid (Below w1.heap.size w1 wr) := hide (by rw [← HR1.out]; exact HBW.out)
      have HP4 := hide (H1.out.below HBR.out)
      have h0 : wr.cell? ⟨q, 0, none⟩ = some (.map (some b)) := HP4.out.box.cell 0 _ rfl
      obtain ⟨k0, k1, k2⟩ := (HXT.out.belowI HBR.out).three
      have L1 := (HP4.out.m.below (below_drew14 wr)).look1 umTy ⟨(xa, xb, xc), HXB.out⟩
      rw [HE.out] at L1
      obtain ⟨w5, hr1, hg1, hb1, hs1⟩ := run_range_g mmTy ((HM2.out.below HBR.out).below (below_drew14 wr))
      have hds : wr.drew.heap.size = wr.heap.size := rfl
      have hb12 : Below wr.heap.size wr w5 := (below_drew14 wr).trans hb1
      rw [hds] at hr1 hg1 hs1
      obtain ⟨r2, hr2e⟩ : ∃ r, r = wr.heap.size := ⟨_, rfl⟩
      rw [← hr2e] at hr1 hg1 hs1
      have HR12 : Hid (r1 ≤ r2) := hide (by rw [hr2e, HR1.out]; exact HBR.out.size)
      have HB15 : Hid (Below r1 w1 w5) := hide (HBW.out.trans (hb12.mono (by rw [← hr2e]; exact HR12.out)))
      have HM2L : Hid (m2 < r1) := hide (by rw [HR1.out]; exact HM2.out.lt)
      have HO5 := hide (owns_keep HO.out (KeepBut.of_below (fun _ => False) hb12) (fun _ _ h => h))
      have HG2 := hide hg1
      have HS2 := hide hs1
      clear hg1 hb1 hs1 hds hb12 hr2e
      go_wp2_with fail
      go_region
      simp only [Exit.then]
      rename_i hK
      refine hK _ _ ?_
      clear hK
      go_wp2_with fail
      go_loopw [5] (fun y wr => ∃ (kk ks2 : List KeyT) (ax : Option Addr) (cx : Nat), y = .slice ax kk.length cx ∧ Hid (kk = ks ++ ks2) ∧ Hid (KRng wr m2 r2 xw ks2) ∧ Hid (wr.ownsRow r1 34 8 (.slice ax kk.length cx) kk.length (flat kyCs kk)) ∧ Hid (Below r1 w1 wr) ∧ Hid (ks2.length + wr.rangeLeft m2 r2 ≤ n')) (fun _ wr => wr.rangeLeft m2 r2)
      case atStart => exact ⟨ks, [], ax, cx, rfl, hide (by rw [List.append_nil]), HG2, HO5, HB15, hide (by rw [HS2.out]; simp)⟩
      case round =>
        clear HG HO HBW HLE HBR HP4 HO5 HG2 HS2 HB15
        obtain ⟨kk, ks2, ax, cx, rfl, HKK, HG, HO, HBW, HLE⟩ := hrel
        go_wp2_with (at_next; refine wp_next_g mmTy _ rfl _ rfl rfl HG.out ?_ ?_)
        · intro hdone
          have HK2 : Hid (∀ k, k ∈ ks2 ↔ xw k ≠ 0) := hide (keys15 HG.out hdone)
          clear hdone
          have HLE2 : Hid (kk.length ≤ C) := hide (by have h1 := HLE.out; have h2 := HNN.out; have h3 := HLE1.out; rw [HKK.out, List.length_append]; omega)
          have HKA : Hid (∀ k, k ∈ kk ↔ xh k ≠ 0 ∨ xw k ≠ 0) := hide (fun k => by rw [HKK.out, List.mem_append, HK1.out k, HK2.out k])
          have HBR2 : Hid (Below w1.heap.size w1 wr.drew) := hide (by rw [← HR1.out]; exact HBW.out.trans ((below_drew14 wr).mono (by have := HBW.out.size; rw [HR1.out]; exact this)))
          have HP5 := hide (H1.out.below HBR2.out)
          have h05 : wr.drew.cell? ⟨q, 0, none⟩ = some (.map (some b)) := HP5.out.box.cell 0 _ rfl
          obtain ⟨k05, k15, k25⟩ := (HXT.out.belowI HBR2.out).three
          obtain ⟨w7, hrun, hm7, hk7⟩ := HP5.out.m.del umTy ⟨(xa, xb, xc), HXB.out⟩
          have HM7 := hide hm7
          have HK7 := hide hk7
          have HO7 := hide (owns_keep (owns_keep HO.out (KeepBut.of_below (fun _ => False) (below_drew14 wr)) (fun _ _ h => h)) hk7 (fun g hg e => by
            have h1 := (HO.out.lt g hg).1
            have h2 := H1.out.m.lt
            have h3 := HR1.out
            omega))
          clear hm7 hk7
          go_wp2_with fail
          go_region
          go_wp2_with fail
          go_ret
          have hlen := drop_len H1.out.ok.rise HXI.out
          have hsm : (gU l p ⟨(xa, xb, xc), HXB.out⟩).isSome = true := by
            show ((usL l (xa, xb, xc)).map _).isSome = true
            rw [(usL_some H1.out.ok).2 ⟨HXI.out, rfl⟩]
            rfl
          have hm8 := HM7.out.as (g' := gU (dropU l (xa, xb, xc)) p) (fun k => by
            have h1 := gU_drop H1.out.ok p ⟨(xa, xb, xc), HXB.out⟩ k
            by_cases hk : k = ⟨(xa, xb, xc), HXB.out⟩
            · rw [if_pos hk] at h1 ⊢; exact h1.symm
            · rw [if_neg hk] at h1 ⊢; exact h1.symm)
          rw [hsm, if_pos rfl, show l.length - 1 = (dropU l (xa, xb, xc)).length by have : (dropU l (xa, xb, xc)).length + 1 = l.length := hlen; omega] at hm8
          have hrow := owns_base15 HO7.out (by rw [HR1.out]; exact HB.out.size : w.heap.size ≤ r1)
          exact ⟨_, kk, rfl, hrow, HKA.out, HLE2.out, HP5.out.dropped (x := ⟨(xa, xb, xc), xm, xp, xh, xw⟩) hm8 HK7.out, (KeepBut.of_below (fun j => j = b) (HB.out.trans (HBR2.out.mono HB.out.size))).trans HK7.out (fun _ _ h => h)⟩
        · rintro ⟨t, e, w3, hk, he, hrg3, hlt, hkb, hsz, hen⟩
          dsimp only at hen ⊢
          have hbw3 : Below r1 w1 w3 := HBW.out.trans (hkb.below (by have := HBW.out.size; rw [HR1.out]; exact this) (fun j e => by rw [e]; exact HR12.out))
          have HNR0 : Hid (∀ g, (Value.slice ax kk.length cx).ownBlock = some g → g ≠ r2) := hide (fun g e e2 => by
            obtain ⟨_, ⟨h1, _⟩ | ⟨g', cap, cur, h1, _, hb, _⟩⟩ := HO.out
            · rw [h1] at e; cases e
            · rw [h1] at e
              cases e
              obtain ⟨R0, D0, lf, ct, n0, _, ⟨es, clock, since, seen, c0, _, _, _, _, hr0, _⟩, _⟩ := HG.out.own
              subst e2
              rw [hb] at hr0
              cases hr0)
          have HA6 : Hid (Below w3.heap.size w3 ((w3.alloc (.cells (eightA t.1) 34)).alloc (.cells (eightA t.1) 34))) := hide ((alloc_below14 _ _).trans ((alloc_below14 _ _).mono (by simp)))
          have HSZ3 : Hid (r1 ≤ w3.heap.size) := hide (by have := hbw3.size; rw [HR1.out]; exact this)
          have HB6 := hide (hbw3.trans (HA6.out.mono HSZ3.out))
          have HO6 := hide (owns_keep (owns_keep HO.out hkb HNR0.out) (KeepBut.of_below (fun _ => False) HA6.out) (fun _ _ h => h))
          have hg6 := hrg3.below HA6.out
          have HG6 := hide hg6.1
          have HL6 := hide hg6.2
          have HLT := hide hlt
          have HSRC : Hid (RSrc kyCs ((w3.alloc (.cells (eightA t.1) 34)).alloc (.cells (eightA t.1) 34)) (.slice (some ⟨w3.heap.size + 1, 0, none⟩) 1 1) [t]) := hide (by
            have h1 := src_new (enc := kyCs) (w3.alloc (.cells (eightA t.1) 34)) t (eightA t.1) rfl 34
            have e : (w3.alloc (.cells (eightA t.1) 34)).heap.size = w3.heap.size + 1 := by simp
            rw [e] at h1
            exact h1)
          have HTN : Hid ((kk ++ [t]).length = kk.length + 1) := hide (by rw [List.length_append]; rfl)
          have HTN2 : Hid ((ks2 ++ [t]).length = ks2.length + 1) := hide (by rw [List.length_append]; rfl)
          have HKK2 : Hid (kk ++ [t] = ks ++ (ks2 ++ [t])) := hide (by rw [HKK.out, List.append_assoc])
          have HSL : Hid (kk.length + 1 ≤ 1000000) := hide (by have h1 := HLE.out; have h2 := HNN.out; have h3 := HC.out; have h4 := HLE1.out; rw [HKK.out, List.length_append]; omega)
          have HLE2 : Hid ((ks2 ++ [t]).length + w3.rangeLeft m2 r2 ≤ n') := hide (by rw [HTN2.out]; have h1 := HLE.out; have h2 := HLT.out; omega)
          have HBS : Hid (r1 ≤ ((w3.alloc (.cells (eightA t.1) 34)).alloc (.cells (eightA t.1) 34)).heap.size) := hide (Nat.le_trans HSZ3.out HA6.out.size)
          have HNR : Hid (∀ g, (Value.slice ax kk.length cx).ownBlock = some g → g ≠ r2 ∧ g ≠ m2) := hide (fun g hg => ⟨HNR0.out g hg, fun e => by
            have h1 := (HO.out.lt g hg).1
            have h2 := HM2L.out
            omega⟩)
          clear he hk hsz hrg3 hlt hkb hbw3 hg6
          go_wp2_with (at_builtin; refine wp_recs recKey15 _ rfl _ _ rfl r1 (.slice ax kk.length cx) (.slice (some ⟨w3.heap.size + 1, 0, none⟩) 1 1) kk [t] rfl HO6.out rfl HSRC.out ?_ HSL.out HBS.out ?_)
          · exact (fun z hz => by simp at hz; subst hz; exact key_one15 _)
          intro v4 w4 ho4 hg4 _
          obtain ⟨a4, c4, hv4, _⟩ := owns_shapeR ho4
          subst hv4
          have HB4 : Hid (Below r1 w1 w4) := hide (HB6.out.grown hg4 HBS.out (fun j hj => (HO6.out.lt j hj).1))
          have HG4 := hide (HG6.out.keep (kept15 hg4) (fun e => (HNR.out _ e).2 rfl) (fun e => (HNR.out _ e).1 rfl))
          have HO4 := hide ho4
          clear ho4 hg4
          go_wp2_with fail
          go_roundw
          case rel => exact ⟨kk ++ [t], ks2 ++ [t], a4, c4, by rw [HTN.out], HKK2, hide HG4.out.1, hide (by rw [HTN.out]; exact HO4.out), HB4, hide (by rw [HG4.out.2, HL6.out]; exact HLE2.out)⟩
          case measure => rw [HG4.out.2, HL6.out]; exact HLT.out
    · rintro ⟨t, e, w3, hk, he, hrg3, hlt, hkb, hsz, hen⟩
      dsimp only at hen ⊢
      have hbw3 : Below r1 w1 w3 := HBW.out.trans (hkb.below (by have := HBW.out.size; rw [HR1.out]; exact this) (fun j e => by rw [e]; exact Nat.le_refl _))
      have HNR0 : Hid (∀ g, (Value.slice ax ks.length cx).ownBlock = some g → g ≠ r1) := hide (fun g e e2 => by
        obtain ⟨_, ⟨h1, _⟩ | ⟨g', cap, cur, h1, _, hb, _⟩⟩ := HO.out
        · rw [h1] at e; cases e
        · rw [h1] at e
          cases e
          obtain ⟨R0, D0, lf, ct, n0, _, ⟨es, clock, since, seen, c0, _, _, _, _, hr0, _⟩, _⟩ := HG.out.own
          subst e2
          rw [hb] at hr0
          cases hr0)
      have HA6 : Hid (Below w3.heap.size w3 ((w3.alloc (.cells (eightA t.1) 34)).alloc (.cells (eightA t.1) 34))) := hide ((alloc_below14 _ _).trans ((alloc_below14 _ _).mono (by simp)))
      have HSZ3 : Hid (r1 ≤ w3.heap.size) := hide (by have := hbw3.size; rw [HR1.out]; exact this)
      have HB6 := hide (hbw3.trans (HA6.out.mono HSZ3.out))
      have HO6 := hide (owns_keep (owns_keep HO.out hkb HNR0.out) (KeepBut.of_below (fun _ => False) HA6.out) (fun _ _ h => h))
      have hg6 := hrg3.below HA6.out
      have HG6 := hide hg6.1
      have HL6 := hide hg6.2
      have HLT := hide hlt
      have HSRC : Hid (RSrc kyCs ((w3.alloc (.cells (eightA t.1) 34)).alloc (.cells (eightA t.1) 34)) (.slice (some ⟨w3.heap.size + 1, 0, none⟩) 1 1) [t]) := hide (by
        have h1 := src_new (enc := kyCs) (w3.alloc (.cells (eightA t.1) 34)) t (eightA t.1) rfl 34
        have e : (w3.alloc (.cells (eightA t.1) 34)).heap.size = w3.heap.size + 1 := by simp
        rw [e] at h1
        exact h1)
      have HTN : Hid ((ks ++ [t]).length = ks.length + 1) := hide (by rw [List.length_append]; rfl)
      have HSL : Hid (ks.length + 1 ≤ 1000000) := hide (by have h1 := HLE.out; have h2 := HNN.out; have h3 := HC.out; omega)
      have HLE2 : Hid ((ks ++ [t]).length + w3.rangeLeft m1 r1 ≤ n) := hide (by rw [HTN.out]; have h1 := HLE.out; have h2 := HLT.out; omega)
      have HBS : Hid (r1 ≤ ((w3.alloc (.cells (eightA t.1) 34)).alloc (.cells (eightA t.1) 34)).heap.size) := hide (Nat.le_trans HSZ3.out HA6.out.size)
      have HNR : Hid (∀ g, (Value.slice ax ks.length cx).ownBlock = some g → g ≠ r1 ∧ g ≠ m1) := hide (fun g hg => ⟨HNR0.out g hg, fun e => by
        have h1 := (HO.out.lt g hg).1
        have h2 := HM1L.out
        omega⟩)
      clear he hk hsz hrg3 hlt hkb hbw3 hg6
      go_wp2_with (at_builtin; refine wp_recs recKey15 _ rfl _ _ rfl r1 (.slice ax ks.length cx) (.slice (some ⟨w3.heap.size + 1, 0, none⟩) 1 1) ks [t] rfl HO6.out rfl HSRC.out ?_ HSL.out HBS.out ?_)
      · exact (fun z hz => by simp at hz; subst hz; exact key_one15 _)
      intro v4 w4 ho4 hg4 _
      obtain ⟨a4, c4, hv4, _⟩ := owns_shapeR ho4
      subst hv4
      have HB4 : Hid (Below r1 w1 w4) := hide (HB6.out.grown hg4 HBS.out (fun j hj => (HO6.out.lt j hj).1))
      have HG4 := hide (HG6.out.keep (kept15 hg4) (fun e => (HNR.out _ e).2 rfl) (fun e => (HNR.out _ e).1 rfl))
      have HO4 := hide ho4
      clear ho4 hg4
      go_wp2_with fail
      go_roundw
      case rel => exact ⟨ks ++ [t], a4, c4, by rw [HTN.out], hide HG4.out.1, hide (by rw [HTN.out]; exact HO4.out), HB4, hide (by rw [HG4.out.2, HL6.out]; exact HLE2.out)⟩
      case measure => rw [HG4.out.2, HL6.out]; exact HLT.out
end
section
open Go.RowKit Go.Maps Classical

/-- What is left of the modes, those of the keys that have come being dropped if they are to read. -/
def gR (f : KeyT → Nat) (ks : List KeyT) (k : KeyT) : Option Nat := if k ∈ ks ∧ f k = 1 then none else gM f k
def readF (f : KeyT → Nat) (k : KeyT) : Nat := if f k = 1 then 0 else f k
abbrev DRng (w : World) (b r : Nat) (f : KeyT → Nat) (ks : List KeyT) : Prop := GRng 34 (fun k : KeyT => kyKey k.1) u8V w b r (gM f) (gR f ks) ks
theorem gR_nil (f : KeyT → Nat) : gR f [] = gM f := by funext k; simp [gR]
theorem gR_same {f : KeyT → Nat} {ks : List KeyT} {k : KeyT} (h : f k ≠ 1) : gR f (ks ++ [k]) = gR f ks := by
  funext k'
  unfold gR
  by_cases e : k' = k
  · subst e
    rw [if_neg (fun h2 => h h2.2), if_neg (fun h2 => h h2.2)]
  · have : k' ∈ ks ++ [k] ↔ k' ∈ ks := by simp [e]
    simp only [this]
theorem gR_read {f : KeyT → Nat} {ks : List KeyT} {k : KeyT} (h : f k = 1) : gR f (ks ++ [k]) = fun k' => if k' = k then none else gR f ks k' := by
  funext k'
  unfold gR
  by_cases e : k' = k
  · subst e
    simp [h]
  · have : k' ∈ ks ++ [k] ↔ k' ∈ ks := by simp [e]
    simp only [this, if_neg e]
theorem drng_of {w : World} {b r : Nat} {f : KeyT → Nat} {ks : List KeyT} {k : KeyT} {inst : (k' : KeyT) → Decidable (k' = k)} (h1 : f k = 1) (hg : GRng 34 (fun k : KeyT => kyKey k.1) u8V w b r (gM f) (fun k' => @ite (Option Nat) (k' = k) (inst k') none (gR f ks k')) (ks ++ [k])) : DRng w b r f (ks ++ [k]) := by
  have e : (fun k' => @ite (Option Nat) (k' = k) (inst k') none (gR f ks k')) = gR f (ks ++ [k]) := by
    rw [gR_read h1]
    funext k'
    by_cases e : k' = k
    · rw [if_pos e, if_pos e]
    · rw [if_neg e, if_neg e]
  rw [e] at hg
  exact hg
theorem gR_some {f : KeyT → Nat} {ks : List KeyT} {k : KeyT} {e : Nat} (h : gR f ks k = some e) : e = f k ∧ f k ≠ 0 := by
  unfold gR gM at h
  split at h
  · cases h
  · split at h
    · cases h
    · rename_i h0
      exact ⟨(Option.some.inj h).symm, h0⟩
theorem gR_end {f : KeyT → Nat} {ks : List KeyT} (h : ∀ k, k ∉ ks → gR f ks k = none) (k : KeyT) : gR f ks k = gM (readF f) k := by
  by_cases hk : k ∈ ks
  · unfold gR gM readF
    by_cases h1 : f k = 1 <;> simp [h1, hk]
  · have h2 := h k hk
    rw [h2]
    unfold gR at h2
    rw [if_neg (fun e => hk e.1)] at h2
    unfold gM at h2 ⊢
    unfold readF
    by_cases h0 : f k = 0
    · simp [h0]
    · simp [h0] at h2
theorem gR_all {f : KeyT → Nat} {ks : List KeyT} (h : ∀ k, k ∉ ks → gR f ks k = none) (k : KeyT) (hk : f k ≠ 0) : k ∈ ks := by
  by_cases e : k ∈ ks
  · exact e
  · have h2 := h k e
    unfold gR gM at h2
    rw [if_neg (fun e2 => e e2.1), if_neg hk] at h2
    cases h2
theorem gR_map {w : World} {b n : Nat} {f : KeyT → Nat} {ks : List KeyT} (h : GMap 34 (fun k : KeyT => kyKey k.1) u8V w b (gR f ks) n) (hd : ∀ k, k ∉ ks → gR f ks k = none) : MMap w b (readF f) n ∧ n ≤ ks.length :=
  ⟨h.as (gR_end hd), h.few mmTy ks (fun k hk => by
    obtain ⟨e, he⟩ := Option.isSome_iff_exists.1 hk
    exact gR_all hd k (gR_some he).2)⟩
set_option maxRecDepth 100000 in
set_option maxHeartbeats 3200000 in
theorem lkReads_any (tm : Nat) (t : TxN) (pr : Bool) (m1 m2 n : Nat) (f : KeyT → Nat) (w : World) (hm : MMap w m1 f n) (hC : n ≤ 100000) :
    Calls Try.prog 28 #[usV (tm, t, pr, some m1, some m2)] w fun e w' => ∃ (v : Value) (ks : List KeyT), e = .returned v ∧ w'.ownsRow w.heap.size 34 8 v ks.length (rowK ks) ∧ (∀ k, k ∈ ks ↔ f k = 1) ∧ ks.length ≤ n ∧ (∃ n', n' ≤ n ∧ MMap w' m1 (readF f) n') ∧ KeepBut (fun j => j = m1) w w' := by
  have hA := alloc_below14 w (.cells (usA (tm, t, pr, some m1, some m2)) 66)
  have HX := hide (box_new w (usA (tm, t, pr, some m1, some m2)) 66)
  obtain ⟨w1, hw1⟩ : ∃ w1, w1 = w.alloc (.cells (usA (tm, t, pr, some m1, some m2)) 66) := ⟨_, rfl⟩
  obtain ⟨p1, hp1⟩ : ∃ p1, p1 = w.heap.size := ⟨_, rfl⟩
  rw [← hw1, ← hp1] at HX
  rw [← hw1] at hA
  have hW1 := hw1.symm
  have hP1 := hp1.symm
  have HB := hide hA
  have HM := hide (hm.below hA)
  have HC := hide hC
  have y5 : w1.cell? ⟨p1, 5, none⟩ = some (.map (some m1)) := HX.out.cell 5 _ rfl
  clear hA hw1 hp1 hm hC
  have hpm : p1 ≠ m1 := HM.out.ne HX.out
  have HPM := hide hpm
  obtain ⟨w2, hr1, hg1, hb1, hs1⟩ := run_range_g mmTy HM.out
  obtain ⟨r1, hr1e⟩ : ∃ r, r = w1.heap.size := ⟨_, rfl⟩
  rw [← hr1e] at hr1 hg1 hb1 hs1
  have HR1 := hide hr1e
  have HM1L : Hid (m1 < r1) := hide (by rw [hr1e]; exact HM.out.lt)
  have HP1L : Hid (p1 < r1) := hide (by rw [hr1e]; exact HX.out.lt)
  have HG1 : Hid (DRng w2 m1 r1 f []) := hide (by unfold DRng; rw [gR_nil]; exact hg1)
  have HS1 := hide hs1
  have HK1 : Hid (KeepBut (fun j => j = m1) w1 w2) := hide (KeepBut.of_below _ (by rw [← hr1e]; exact hb1))
  clear hr1e hg1 hb1 hs1 hpm
  go_enter Try.func28, Try.ntmps28
  go_wp2_with fail
  go_loopw [3] (fun y wr => ∃ (kk ks : List KeyT) (ax : Option Addr) (cx : Nat), y = .slice ax kk.length cx ∧ Hid (∀ k, k ∈ kk ↔ k ∈ ks ∧ f k = 1) ∧ Hid (kk.length ≤ ks.length) ∧ Hid (DRng wr m1 r1 f ks) ∧ Hid (wr.ownsRow r1 34 8 (.slice ax kk.length cx) kk.length (flat kyCs kk)) ∧ Hid (KeepBut (fun j => j = m1) w1 wr) ∧ Hid (ks.length + wr.rangeLeft m1 r1 ≤ n)) (fun _ wr => wr.rangeLeft m1 r1)
  case atStart => exact ⟨[], [], none, 0, rfl, hide (by simp), hide (Nat.le_refl _), HG1, hide (World.ownsRow_nil _ _ _ _), HK1, hide (by rw [HS1.out]; simp)⟩
  case round =>
    obtain ⟨kk, ks, ax, cx, rfl, HKE, HKL, HG, HO, HKW, HLE⟩ := hrel
    go_wp2_with (at_next; refine wp_next_g mmTy _ rfl _ rfl rfl HG.out ?_ ?_)
    · intro hdone
      have HD := hide hdone.all
      clear hdone
      go_wp2_with fail
      go_ret
      obtain ⟨n', hmap⟩ := HG.out.map
      obtain ⟨hm1, hn1⟩ := gR_map hmap HD.out
      have hl := HLE.out
      have hkl := HKL.out
      have hrow := owns_base15 HO.out (by rw [HR1.out]; exact HB.out.size : w.heap.size ≤ r1)
      have hall : ∀ k, k ∈ kk ↔ f k = 1 := fun k => by
        rw [HKE.out k]
        exact ⟨fun h => h.2, fun h => ⟨gR_all HD.out k (by omega), h⟩⟩
      exact ⟨_, kk, rfl, hrow, hall, by omega, ⟨n', by omega, hm1⟩, (KeepBut.of_below (fun j => j = m1) HB.out).trans HKW.out (fun _ _ h => h)⟩
    · rintro ⟨t, e, w3, hk, he, hrg3, hlt, hkb, hsz, hen⟩
      dsimp only at hen ⊢
      obtain ⟨rfl, hf0⟩ := gR_some he
      have HKW3 : Hid (KeepBut (fun j => j = m1 ∨ j = r1) w1 w3) := hide ((HKW.out.mono (fun j h => .inl h)).trans (hkb.mono (fun j h => .inr h)) (fun _ _ h => h))
      have HKW4 : Hid (KeepBut (fun j => j = m1) w1 w3) := hide ⟨HKW3.out.os, HKW3.out.tape, HKW3.out.output, HKW3.out.size, fun j hj hn => HKW3.out.block j hj (fun h => h.elim hn (fun e => by have := HR1.out; omega))⟩
      have HNR0 : Hid (∀ g, (Value.slice ax kk.length cx).ownBlock = some g → g ≠ r1) := hide (fun g e e2 => by
        obtain ⟨_, ⟨h1, _⟩ | ⟨g', cap, cur, h1, _, hb, _⟩⟩ := HO.out
        · rw [h1] at e; cases e
        · rw [h1] at e
          cases e
          obtain ⟨R0, D0, lf, ct, n0, _, ⟨es, clock, since, seen, c0, _, _, _, _, hr0, _⟩, _⟩ := HG.out.own
          subst e2
          rw [hb] at hr0
          cases hr0)
      have HO3 := hide (owns_keep HO.out hkb HNR0.out)
      have HA5 : Hid (Below w3.heap.size w3 (w3.alloc (.cells (eightA t.1) 34))) := hide (alloc_below14 _ _)
      have hg5 := hrg3.below HA5.out
      have HG5 := hide hg5.1
      have HL5 := hide hg5.2
      have HLT := hide hlt
      have HTN2 : Hid ((ks ++ [t]).length = ks.length + 1) := hide (by rw [List.length_append]; rfl)
      have HLE2 : Hid ((ks ++ [t]).length + w3.rangeLeft m1 r1 ≤ n) := hide (by rw [HTN2.out]; have h1 := HLE.out; have h2 := HLT.out; omega)
      by_cases h1 : f t = 1
      case neg =>
        have hz : ((f t : Nat) : Int) = 1 ↔ False := ⟨fun h => h1 (by omega), False.elim⟩
        have hz2 : (((f t : Nat) : Int) == 1) = false := by simp; omega
        have HG6 : Hid (DRng (w3.alloc (.cells (eightA t.1) 34)) m1 r1 f (ks ++ [t])) := hide (by unfold DRng; rw [gR_same h1]; exact HG5.out)
        have HO5 := hide (owns_keep HO3.out (KeepBut.of_below (fun _ => False) HA5.out) (fun _ _ h => h))
        have HKE2 : Hid (∀ k, k ∈ kk ↔ k ∈ ks ++ [t] ∧ f k = 1) := hide (fun k => by
          rw [HKE.out k, List.mem_append, List.mem_singleton]
          exact ⟨fun h => ⟨.inl h.1, h.2⟩, fun h => ⟨h.1.elim id (fun e => absurd (e ▸ h.2) h1), h.2⟩⟩)
        have HKL2 : Hid (kk.length ≤ (ks ++ [t]).length) := hide (by rw [HTN2.out]; have := HKL.out; omega)
        have HK5 : Hid (KeepBut (fun j => j = m1) w1 (w3.alloc (.cells (eightA t.1) 34))) := hide (HKW4.out.alloc _)
        clear he hk hsz hrg3 hlt hkb hg5 h1
        go_wp2_with fail
        go_roundw
        case rel => exact ⟨kk, ks ++ [t], ax, cx, rfl, HKE2, HKL2, HG6, HO5, HK5, hide (by rw [HL5.out]; exact HLE2.out)⟩
        case measure => rw [HL5.out]; exact HLT.out
      case pos =>
        have hz2 : (((f t : Nat) : Int) == 1) = true := by simp; omega
        have HA6 : Hid (Below w3.heap.size w3 ((w3.alloc (.cells (eightA t.1) 34)).alloc (.cells (eightA t.1) 34))) := hide (HA5.out.trans ((alloc_below14 _ _).mono (by simp)))
        have hg6 := hrg3.below HA6.out
        have HG6 := hide hg6.1
        have HL6 := hide hg6.2
        have HO6 := hide (owns_keep HO3.out (KeepBut.of_below (fun _ => False) HA6.out) (fun _ _ h => h))
        have HSZ3 : Hid (r1 ≤ w3.heap.size) := hide (by rw [HR1.out]; exact HKW4.out.size)
        have HSRC : Hid (RSrc kyCs ((w3.alloc (.cells (eightA t.1) 34)).alloc (.cells (eightA t.1) 34)) (.slice (some ⟨w3.heap.size + 1, 0, none⟩) 1 1) [t]) := hide (by
          have h1 := src_new (enc := kyCs) (w3.alloc (.cells (eightA t.1) 34)) t (eightA t.1) rfl 34
          have e : (w3.alloc (.cells (eightA t.1) 34)).heap.size = w3.heap.size + 1 := by simp
          rw [e] at h1
          exact h1)
        have HTN : Hid ((kk ++ [t]).length = kk.length + 1) := hide (by rw [List.length_append]; rfl)
        have HSL : Hid (kk.length + 1 ≤ 1000000) := hide (by have h1 := HLE.out; have h2 := HKL.out; have h3 := HC.out; omega)
        have HBS : Hid (r1 ≤ ((w3.alloc (.cells (eightA t.1) 34)).alloc (.cells (eightA t.1) 34)).heap.size) := hide (Nat.le_trans HSZ3.out HA6.out.size)
        have HNR : Hid (∀ g, (Value.slice ax kk.length cx).ownBlock = some g → g ≠ r1 ∧ g ≠ m1 ∧ r1 ≤ g ∧ g < w3.heap.size) := hide (fun g hg => by
          have h1 := (HO.out.lt g hg)
          have h2 := HM1L.out
          have h3 := hkb.size
          exact ⟨HNR0.out g hg, by omega, by omega, by omega⟩)
        have HBK : Hid (Box ((w3.alloc (.cells (eightA t.1) 34)).alloc (.cells (eightA t.1) 34)) w3.heap.size (eightA t.1) 34) := hide ((box_new w3 _ _).belowI (alloc_below14 _ _))
        have HKE2 : Hid (∀ k, k ∈ kk ++ [t] ↔ k ∈ ks ++ [t] ∧ f k = 1) := hide (fun k => by
          rw [List.mem_append, HKE.out k, List.mem_append, List.mem_singleton]
          exact ⟨fun h => h.elim (fun h => ⟨.inl h.1, h.2⟩) (fun e => ⟨.inr e, e ▸ h1⟩), fun h => h.1.elim (fun h2 => .inl ⟨h2, h.2⟩) .inr⟩)
        have HKL2 : Hid ((kk ++ [t]).length ≤ (ks ++ [t]).length) := hide (by rw [HTN.out, HTN2.out]; have := HKL.out; omega)
        have HK6 : Hid (KeepBut (fun j => j = m1) w1 ((w3.alloc (.cells (eightA t.1) 34)).alloc (.cells (eightA t.1) 34))) := hide ((HKW4.out.alloc _).alloc _)
        have HF1 := hide h1
        have HMEM : Hid (t ∈ ks ++ [t]) := hide (by simp)
        clear he hk hsz hrg3 hlt hkb hg5 hg6 h1
        go_wp2_with (at_builtin; refine wp_recs recKey15 _ rfl _ _ rfl r1 (.slice ax kk.length cx) (.slice (some ⟨w3.heap.size + 1, 0, none⟩) 1 1) kk [t] rfl HO6.out rfl HSRC.out ?_ HSL.out HBS.out ?_)
        · exact (fun z hz => by simp at hz; subst hz; exact key_one15 _)
        intro v4 w4 ho4 hg4 _
        obtain ⟨a4, c4, hv4, hsh⟩ := owns_shapeR ho4
        subst hv4
        have hk4 := kept15 hg4
        have HG4 := hide (HG6.out.keep hk4 (fun e => (HNR.out _ e).2.1 rfl) (fun e => (HNR.out _ e).1 rfl))
        have HK4 : Hid (KeepBut (fun j => j = m1) w1 w4) := hide (HK6.out.trans hk4 (fun j hj h => by have h1 := (HNR.out j h).2.2.1; have h2 := HR1.out; omega))
        have HX4 := hide (HBK.out.keep hk4 (fun e => by have := (HNR.out _ e).2.2.2; omega))
        have HO4 := hide ho4
        have y54 : w4.cell? ⟨p1, 5, none⟩ = some (.map (some m1)) := (HX.out.keep HK4.out HPM.out).cell 5 _ rfl
        obtain ⟨x0, x1, x2, x3, x4, x5, x6, x7⟩ := box_eight14 HX4.out
        clear ho4 hg4 hk4 hsh
        go_wp2_with (at_delete; refine wp_delete_g mmTy _ rfl _ _ rfl t rfl rfl HG4.out.1 HMEM.out ?_; intro w7 hg7 hl7 hk7; have HG7 := hide (drng_of HF1.out hg7); have HL7 := hide hl7; have HK7 := hide hk7; clear hg7 hl7 hk7; go_frame)
        have HO7 := hide (owns_keep HO4.out HK7.out (fun g e e2 => by
          rcases e2 with e2 | e2
          · have h1 := (HO4.out.lt g e).1
            have h2 := HM1L.out
            omega
          · obtain ⟨_, ⟨h1, _⟩ | ⟨g', cap, cur, h1, _, hb, _⟩⟩ := HO4.out
            · rw [h1] at e; cases e
            · rw [h1] at e
              cases e
              obtain ⟨R0, D0, lf, ct, n0, _, ⟨es, clock, since, seen, c0, _, _, _, _, hr0, _⟩, _⟩ := HG4.out.1.own
              subst e2
              rw [hb] at hr0
              cases hr0))
        have HK17 : Hid (KeepBut (fun j => j = m1) w1 w7) := hide (HK4.out.trans HK7.out (fun j hj h => h.elim id (fun e => by have h2 := HR1.out; omega)))
        have HLL : Hid (w7.rangeLeft m1 r1 ≤ w3.rangeLeft m1 r1) := hide (by rw [← HL6.out, ← HG4.out.2]; exact HL7.out)
        go_roundw
        case rel => exact ⟨kk ++ [t], ks ++ [t], a4, c4, by rw [HTN.out], HKE2, HKL2, HG7, hide (by rw [HTN.out]; exact HO7.out), HK17, hide (by have h1 := HLE2.out; have h2 := HLL.out; omega)⟩
        case measure => exact Nat.lt_of_le_of_lt HLL.out HLT.out
end
end Go.Proofs.Ytddflccjmigloaa
