/-
  Own texts put together: LkReads. Own work.
-/
import Derived.Test.YtiloagmkkhlfjaaGreatG11
namespace Go.Proofs.YtiloagmkkhlfjaaGreat
section
open Go.RowKit Go.Maps Classical
def gR (f : KeyT → Nat) (ks : List KeyT) (k : KeyT) : Option Nat := if k ∈ ks ∧ f k = 1 then none else gM f k
def readF (f : KeyT → Nat) (k : KeyT) : Nat := if f k = 1 then 0 else f k
abbrev DRng (w : World) (b r : Nat) (f : KeyT → Nat) (ks : List KeyT) : Prop := jB 38 (fun k : KeyT => eD k.1) u8V w b r (gM f) (gR f ks) ks
theorem gR_nil (f : KeyT → Nat) : gR f [] = gM f := by funext k; simp [gR]
theorem gR_same {f : KeyT → Nat} {ks : List KeyT} {k : KeyT} (h : f k ≠ 1) : gR f (ks ++ [k]) = gR f ks := by
 funext k'
 unfold gR
 by_cases e : k' = k
 ·subst e
  rw [if_neg (fun h2 => h h2.2), if_neg (fun h2 => h h2.2)]
 ·have : k' ∈ ks ++ [k] ↔ k' ∈ ks := by simp [e]
  simp only [this]
theorem gR_read {f : KeyT → Nat} {ks : List KeyT} {k : KeyT} (h : f k = 1) : gR f (ks ++ [k]) = fun k' => if k' = k then none else gR f ks k' := by
 funext k'
 unfold gR
 by_cases e : k' = k
 ·subst e
  simp [h]
 ·have : k' ∈ ks ++ [k] ↔ k' ∈ ks := by simp [e]
  simp only [this, if_neg e]
theorem drng_of {w : World} {b r : Nat} {f : KeyT → Nat} {ks : List KeyT} {k : KeyT} {inst : (k' : KeyT) → Decidable (k' = k)} (h1 : f k = 1) (hg : jB 38 (fun k : KeyT => eD k.1) u8V w b r (gM f) (fun k' => @ite (Option Nat) (k' = k) (inst k') none (gR f ks k')) (ks ++ [k])) : DRng w b r f (ks ++ [k]) := by
 have e : (fun k' => @ite (Option Nat) (k' = k) (inst k') none (gR f ks k')) = gR f (ks ++ [k]) := by
  rw [gR_read h1]
  funext k'
  by_cases e : k' = k
  ·rw [if_pos e, if_pos e]
  ·rw [if_neg e, if_neg e]
 rw [e] at hg
 exact hg
theorem gR_some {f : KeyT → Nat} {ks : List KeyT} {k : KeyT} {e : Nat} (h : gR f ks k = some e) : e = f k ∧ f k ≠ 0 := by
 unfold gR gM at h
 split at h
 ·cases h
 ·split at h
  ·cases h
  ·rename_i h0
   exact ⟨(Option.some.inj h).symm, h0⟩
theorem gR_end {f : KeyT → Nat} {ks : List KeyT} (h : ∀ k, k ∉ ks → gR f ks k = none) (k : KeyT) : gR f ks k = gM (readF f) k := by
 by_cases hk : k ∈ ks
 ·unfold gR gM readF
  by_cases h1 : f k = 1 <;> simp [h1, hk]
 ·have h2 := h k hk
  rw [h2]
  unfold gR at h2
  rw [if_neg (fun e => hk e.1)] at h2
  unfold gM at h2 ⊢
  unfold readF
  by_cases h0 : f k = 0
  ·simp [h0]
  ·simp [h0] at h2
theorem gR_all {f : KeyT → Nat} {ks : List KeyT} (h : ∀ k, k ∉ ks → gR f ks k = none) (k : KeyT) (hk : f k ≠ 0) : k ∈ ks := by
 by_cases e : k ∈ ks
 ·exact e
 ·have h2 := h k e
  unfold gR gM at h2
  rw [if_neg (fun e2 => e e2.1), if_neg hk] at h2
  cases h2
theorem gR_map {w : World} {b n : Nat} {f : KeyT → Nat} {ks : List KeyT} (h : eT 38 (fun k : KeyT => eD k.1) u8V w b (gR f ks) n) (hd : ∀ k, k ∉ ks → gR f ks k = none) : jD w b (readF f) n ∧ n ≤ ks.length :=
 ⟨h.as (gR_end hd), h.few kB ks (fun k hk => by
  obtain ⟨e, he⟩ := Option.isSome_iff_exists.1 hk
  exact gR_all hd k (gR_some he).2)⟩
set_option maxRecDepth 100000 in
set_option maxHeartbeats 3200000 in
theorem lkReads_any (tm : Nat) (t : TxN) (pr : Bool) (m1 m2 n : Nat) (f : KeyT → Nat) (w : World) (hm : jD w m1 f n) (hC : n ≤ 100000) :
  Calls Tryz.prog 47 #[usV (tm, t, pr, some m1, some m2)] w fun e w' => ∃ (v : Value) (ks : List KeyT), e = .returned v ∧ w'.ownsRow w.heap.size 38 8 v ks.length (gI ks) ∧ (∀ k, k ∈ ks ↔ f k = 1) ∧ ks.length ≤ n ∧ (∃ n', n' ≤ n ∧ jD w' m1 (readF f) n') ∧ aC (fun j => j = m1) w w' := by
 have hA := aE w (.cells (usA (tm, t, pr, some m1, some m2)) 80)
 have HX := aA (aN w (usA (tm, t, pr, some m1, some m2)) 80)
 obtain ⟨w1, hw1⟩ : ∃ w1, w1 = w.alloc (.cells (usA (tm, t, pr, some m1, some m2)) 80) := ⟨_, rfl⟩
 obtain ⟨p1, hp1⟩ : ∃ p1, p1 = w.heap.size := ⟨_, rfl⟩
 rw [← hw1, ← hp1] at HX
 rw [← hw1] at hA
 have hW1 := hw1.symm
 have hP1 := hp1.symm
 have HB := aA hA
 have HM := aA (hm.below hA)
 have HC := aA hC
 have y5 : w1.cell? ⟨p1, 5, none⟩ = some (.map (some m1)) := HX.out.cell 5 _ rfl
 clear hA hw1 hp1 hm hC
 have hpm : p1 ≠ m1 := HM.out.ne HX.out
 have HPM := aA hpm
 obtain ⟨w2, hr1, hg1, hb1, hs1⟩ := run_range_g kB HM.out
 obtain ⟨r1, hr1e⟩ : ∃ r, r = w1.heap.size := ⟨_, rfl⟩
 rw [← hr1e] at hr1 hg1 hb1 hs1
 have HR1 := aA hr1e
 have HM1L : Hid (m1 < r1) := aA (by rw [hr1e]; exact HM.out.lt)
 have HP1L : Hid (p1 < r1) := aA (by rw [hr1e]; exact HX.out.lt)
 have HG1 : Hid (DRng w2 m1 r1 f []) := aA (by unfold DRng; rw [gR_nil]; exact hg1)
 have HS1 := aA hs1
 have HK1 : Hid (aC (fun j => j = m1) w1 w2) := aA (aC.of_below _ (by rw [← hr1e]; exact hb1))
 clear hr1e hg1 hb1 hs1 hpm
 go_enter Tryz.func47, Tryz.ntmps47
 go_wp2_with fail
 go_loopw [3] (fun y wr => ∃ (kk ks : List KeyT) (ax : Option Addr) (cx : Nat), y = .slice ax kk.length cx ∧ Hid (∀ k, k ∈ kk ↔ k ∈ ks ∧ f k = 1) ∧ Hid (kk.length ≤ ks.length) ∧ Hid (DRng wr m1 r1 f ks) ∧ Hid (wr.ownsRow r1 38 8 (.slice ax kk.length cx) kk.length (bR kyCs kk)) ∧ Hid (aC (fun j => j = m1) w1 wr) ∧ Hid (ks.length + wr.rangeLeft m1 r1 ≤ n)) (fun _ wr => wr.rangeLeft m1 r1)
 case atStart => exact ⟨[], [], none, 0, rfl, aA (by simp), aA (Nat.le_refl _), HG1, aA (World.ownsRow_nil _ _ _ _), HK1, aA (by rw [HS1.out]; simp)⟩
 case round =>
  obtain ⟨kk, ks, ax, cx, rfl, HKE, HKL, HG, HO, HKW, HLE⟩ := hrel
  go_wp2_with (at_next; refine gN kB _ rfl _ rfl rfl HG.out ?_ ?_)
  ·intro hdone
   have HD := aA hdone.all
   clear hdone
   go_wp2_with fail
   go_ret
   obtain ⟨n', hmap⟩ := HG.out.map
   obtain ⟨hm1, hn1⟩ := gR_map hmap HD.out
   have hl := HLE.out
   have hkl := HKL.out
   have hrow := dO HO.out (by rw [HR1.out]; exact HB.out.size : w.heap.size ≤ r1)
   have hall : ∀ k, k ∈ kk ↔ f k = 1 := fun k => by
    rw [HKE.out k]
    exact ⟨fun h => h.2, fun h => ⟨gR_all HD.out k (by omega), h⟩⟩
   exact ⟨_, kk, rfl, hrow, hall, by omega, ⟨n', by omega, hm1⟩, (aC.of_below (fun j => j = m1) HB.out).trans HKW.out (fun _ _ h => h)⟩
  ·rintro ⟨t, e, w3, hk, he, hrg3, hlt, hkb, hsz, hen⟩
   dsimp only at hen ⊢
   obtain ⟨rfl, hf0⟩ := gR_some he
   have HKW3 : Hid (aC (fun j => j = m1 ∨ j = r1) w1 w3) := aA ((HKW.out.mono (fun j h => .inl h)).trans (hkb.mono (fun j h => .inr h)) (fun _ _ h => h))
   have HKW4 : Hid (aC (fun j => j = m1) w1 w3) := aA ⟨HKW3.out.os, HKW3.out.tape, HKW3.out.output, HKW3.out.size, fun j hj hn => HKW3.out.block j hj (fun h => h.elim hn (fun e => by have := HR1.out; omega))⟩
   have HNR0 : Hid (∀ g, (Value.slice ax kk.length cx).ownBlock = some g → g ≠ r1) := aA (fun g e e2 => by
    obtain ⟨_, ⟨h1, _⟩ | ⟨g', cap, cur, h1, _, hb, _⟩⟩ := HO.out
    ·rw [h1] at e; cases e
    ·rw [h1] at e
     cases e
     obtain ⟨R0, D0, lf, ct, n0, _, ⟨es, clock, since, seen, c0, _, _, _, _, hr0, _⟩, _⟩ := HG.out.own
     subst e2
     rw [hb] at hr0
     cases hr0)
   have HO3 := aA (aJ HO.out hkb HNR0.out)
   have HA5 : Hid (Below w3.heap.size w3 (w3.alloc (.cells (aK t.1) 38))) := aA (aE _ _)
   have hg5 := hrg3.below HA5.out
   have HG5 := aA hg5.1
   have HL5 := aA hg5.2
   have HLT := aA hlt
   have HTN2 : Hid ((ks ++ [t]).length = ks.length + 1) := aA (by rw [List.length_append]; rfl)
   have HLE2 : Hid ((ks ++ [t]).length + w3.rangeLeft m1 r1 ≤ n) := aA (by rw [HTN2.out]; have h1 := HLE.out; have h2 := HLT.out; omega)
   by_cases h1 : f t = 1
   case neg =>
    have hz : ((f t : Nat) : Int) = 1 ↔ False := ⟨fun h => h1 (by omega), False.elim⟩
    have hz2 : (((f t : Nat) : Int) == 1) = false := by simp; omega
    have HG6 : Hid (DRng (w3.alloc (.cells (aK t.1) 38)) m1 r1 f (ks ++ [t])) := aA (by unfold DRng; rw [gR_same h1]; exact HG5.out)
    have HO5 := aA (aJ HO3.out (aC.of_below (fun _ => False) HA5.out) (fun _ _ h => h))
    have HKE2 : Hid (∀ k, k ∈ kk ↔ k ∈ ks ++ [t] ∧ f k = 1) := aA (fun k => by
     rw [HKE.out k, List.mem_append, List.mem_singleton]
     exact ⟨fun h => ⟨.inl h.1, h.2⟩, fun h => ⟨h.1.elim id (fun e => absurd (e ▸ h.2) h1), h.2⟩⟩)
    have HKL2 : Hid (kk.length ≤ (ks ++ [t]).length) := aA (by rw [HTN2.out]; have := HKL.out; omega)
    have HK5 : Hid (aC (fun j => j = m1) w1 (w3.alloc (.cells (aK t.1) 38))) := aA (HKW4.out.alloc _)
    clear he hk hsz hrg3 hlt hkb hg5 h1
    go_wp2_with fail
    go_roundw
    case rel => exact ⟨kk, ks ++ [t], ax, cx, rfl, HKE2, HKL2, HG6, HO5, HK5, aA (by rw [HL5.out]; exact HLE2.out)⟩
    case measure => rw [HL5.out]; exact HLT.out
   case pos =>
    have hz2 : (((f t : Nat) : Int) == 1) = true := by simp; omega
    have HA6 : Hid (Below w3.heap.size w3 ((w3.alloc (.cells (aK t.1) 38)).alloc (.cells (aK t.1) 38))) := aA (HA5.out.trans ((aE _ _).mono (by simp)))
    have hg6 := hrg3.below HA6.out
    have HG6 := aA hg6.1
    have HL6 := aA hg6.2
    have HO6 := aA (aJ HO3.out (aC.of_below (fun _ => False) HA6.out) (fun _ _ h => h))
    have HSZ3 : Hid (r1 ≤ w3.heap.size) := aA (by rw [HR1.out]; exact HKW4.out.size)
    have HSRC : Hid (bI kyCs ((w3.alloc (.cells (aK t.1) 38)).alloc (.cells (aK t.1) 38)) (.slice (some ⟨w3.heap.size + 1, 0, none⟩) 1 1) [t]) := aA (by
     have h1 := dK (enc := kyCs) (w3.alloc (.cells (aK t.1) 38)) t (aK t.1) rfl 38
     have e : (w3.alloc (.cells (aK t.1) 38)).heap.size = w3.heap.size + 1 := by simp
     rw [e] at h1
     exact h1)
    have HTN : Hid ((kk ++ [t]).length = kk.length + 1) := aA (by rw [List.length_append]; rfl)
    have HSL : Hid (kk.length + 1 ≤ 1000000) := aA (by have h1 := HLE.out; have h2 := HKL.out; have h3 := HC.out; omega)
    have HBS : Hid (r1 ≤ ((w3.alloc (.cells (aK t.1) 38)).alloc (.cells (aK t.1) 38)).heap.size) := aA (Nat.le_trans HSZ3.out HA6.out.size)
    have HNR : Hid (∀ g, (Value.slice ax kk.length cx).ownBlock = some g → g ≠ r1 ∧ g ≠ m1 ∧ r1 ≤ g ∧ g < w3.heap.size) := aA (fun g hg => by
     have h1 := (HO.out.lt g hg)
     have h2 := HM1L.out
     have h3 := hkb.size
     exact ⟨HNR0.out g hg, by omega, by omega, by omega⟩)
    have HBK : Hid (bZ ((w3.alloc (.cells (aK t.1) 38)).alloc (.cells (aK t.1) 38)) w3.heap.size (aK t.1) 38) := aA ((aN w3 _ _).belowI (aE _ _))
    have HKE2 : Hid (∀ k, k ∈ kk ++ [t] ↔ k ∈ ks ++ [t] ∧ f k = 1) := aA (fun k => by
     rw [List.mem_append, HKE.out k, List.mem_append, List.mem_singleton]
     exact ⟨fun h => h.elim (fun h => ⟨.inl h.1, h.2⟩) (fun e => ⟨.inr e, e ▸ h1⟩), fun h => h.1.elim (fun h2 => .inl ⟨h2, h.2⟩) .inr⟩)
    have HKL2 : Hid ((kk ++ [t]).length ≤ (ks ++ [t]).length) := aA (by rw [HTN.out, HTN2.out]; have := HKL.out; omega)
    have HK6 : Hid (aC (fun j => j = m1) w1 ((w3.alloc (.cells (aK t.1) 38)).alloc (.cells (aK t.1) 38))) := aA ((HKW4.out.alloc _).alloc _)
    have HF1 := aA h1
    have HMEM : Hid (t ∈ ks ++ [t]) := aA (by simp)
    clear he hk hsz hrg3 hlt hkb hg5 hg6 h1
    go_wp2_with (at_builtin; refine dS eU _ rfl _ _ rfl r1 (.slice ax kk.length cx) (.slice (some ⟨w3.heap.size + 1, 0, none⟩) 1 1) kk [t] rfl HO6.out rfl HSRC.out ?_ HSL.out HBS.out ?_)
    ·exact (fun z hz => by simp at hz; subst hz; exact key_one15 _)
    intro v4 w4 ho4 hg4 _
    obtain ⟨a4, c4, hv4, hsh⟩ := aQ ho4
    subst hv4
    have hk4 := kept15 hg4
    have HG4 := aA (HG6.out.keep hk4 (fun e => (HNR.out _ e).2.1 rfl) (fun e => (HNR.out _ e).1 rfl))
    have HK4 : Hid (aC (fun j => j = m1) w1 w4) := aA (HK6.out.trans hk4 (fun j hj h => by have h1 := (HNR.out j h).2.2.1; have h2 := HR1.out; omega))
    have HX4 := aA (HBK.out.keep hk4 (fun e => by have := (HNR.out _ e).2.2.2; omega))
    have HO4 := aA ho4
    have y54 : w4.cell? ⟨p1, 5, none⟩ = some (.map (some m1)) := (HX.out.keep HK4.out HPM.out).cell 5 _ rfl
    obtain ⟨x0, x1, x2, x3, x4, x5, x6, x7⟩ := bN HX4.out
    clear ho4 hg4 hk4 hsh
    go_wp2_with (at_delete; refine wp_delete_g kB _ rfl _ _ rfl t rfl rfl HG4.out.1 HMEM.out ?_; intro w7 hg7 hl7 hk7; have HG7 := aA (drng_of HF1.out hg7); have HL7 := aA hl7; have HK7 := aA hk7; clear hg7 hl7 hk7; go_frame)
    have HO7 := aA (aJ HO4.out HK7.out (fun g e e2 => by
     rcases e2 with e2 | e2
     ·have h1 := (HO4.out.lt g e).1
      have h2 := HM1L.out
      omega
     ·obtain ⟨_, ⟨h1, _⟩ | ⟨g', cap, cur, h1, _, hb, _⟩⟩ := HO4.out
      ·rw [h1] at e; cases e
      ·rw [h1] at e
       cases e
       obtain ⟨R0, D0, lf, ct, n0, _, ⟨es, clock, since, seen, c0, _, _, _, _, hr0, _⟩, _⟩ := HG4.out.1.own
       subst e2
       rw [hb] at hr0
       cases hr0))
    have HK17 : Hid (aC (fun j => j = m1) w1 w7) := aA (HK4.out.trans HK7.out (fun j hj h => h.elim id (fun e => by have h2 := HR1.out; omega)))
    have HLL : Hid (w7.rangeLeft m1 r1 ≤ w3.rangeLeft m1 r1) := aA (by rw [← HL6.out, ← HG4.out.2]; exact HL7.out)
    go_roundw
    case rel => exact ⟨kk ++ [t], ks ++ [t], a4, c4, by rw [HTN.out], HKE2, HKL2, HG7, aA (by rw [HTN.out]; exact HO7.out), HK17, aA (by have h1 := HLE2.out; have h2 := HLL.out; omega)⟩
    case measure => exact Nat.lt_of_le_of_lt HLL.out HLT.out
end
end Go.Proofs.YtiloagmkkhlfjaaGreat
