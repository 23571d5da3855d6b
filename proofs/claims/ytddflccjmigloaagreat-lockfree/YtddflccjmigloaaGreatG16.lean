/-
  Own texts put together: LkReads, LkGrant, RecSl. Own work.
-/
import Derived.Test.YtddflccjmigloaaGreatG15
import Derived.Test.YtddflccjmigloaaGreatG09
import Derived.Lib.MinMax
import Derived.ArgAppend
import Derived.Lib.Overlaps
import Derived.Lib.AppendZerosOnto
import Derived.Laws.NewBlocks
import Derived.Shelf.Spec.SlicesInsert
namespace Go.Proofs.YtddflccjmigloaaGreat
section
open Go.RowKit Go.Maps Classical

/-- What is left of the modes, those of the keys that have come being dropped if they are to read. -/
def gR (f : KeyT → Nat) (ks : List KeyT) (k : KeyT) : Option Nat := if k ∈ ks ∧ f k = 1 then none else gM f k
def readF (f : KeyT → Nat) (k : KeyT) : Nat := if f k = 1 then 0 else f k
abbrev DRng (w : World) (b r : Nat) (f : KeyT → Nat) (ks : List KeyT) : Prop := GRng 38 (fun k : KeyT => kyKey k.1) u8V w b r (gM f) (gR f ks) ks
theorem gR_nil (f : KeyT → Nat) : gR f [] = gM f := by funext k; simp [gR]
theorem gR_same {f : KeyT → Nat} {ks : List KeyT} {k : KeyT} (h : f k ≠ 1) : gR f (ks ++ [k]) = gR f ks := by
  funext k'
  unfold gR
  by_cases e : k' = k
  · subst e
    rw [if_neg (fun h2 => h h2.2), if_neg (fun h2 => h h2.2)]
  · have : k' ∈ ks ++ [k] ↔ k' ∈ ks := by simp [e]
    simp only [this]
theorem gR_read {f : KeyT → Nat} {ks : List KeyT} {k : KeyT} (h : f k = 1) : gR f (ks ++ [k]) = fun k' => if k' = k then none else gR f ks k' := by
  funext k'
  unfold gR
  by_cases e : k' = k
  · subst e
    simp [h]
  · have : k' ∈ ks ++ [k] ↔ k' ∈ ks := by simp [e]
    simp only [this, if_neg e]
theorem drng_of {w : World} {b r : Nat} {f : KeyT → Nat} {ks : List KeyT} {k : KeyT} {inst : (k' : KeyT) → Decidable (k' = k)} (h1 : f k = 1) (hg : GRng 38 (fun k : KeyT => kyKey k.1) u8V w b r (gM f) (fun k' => @ite (Option Nat) (k' = k) (inst k') none (gR f ks k')) (ks ++ [k])) : DRng w b r f (ks ++ [k]) := by
  have e : (fun k' => @ite (Option Nat) (k' = k) (inst k') none (gR f ks k')) = gR f (ks ++ [k]) := by
    rw [gR_read h1]
    funext k'
    by_cases e : k' = k
    · rw [if_pos e, if_pos e]
    · rw [if_neg e, if_neg e]
  rw [e] at hg
  exact hg
theorem gR_some {f : KeyT → Nat} {ks : List KeyT} {k : KeyT} {e : Nat} (h : gR f ks k = some e) : e = f k ∧ f k ≠ 0 := by
  unfold gR gM at h
  split at h
  · cases h
  · split at h
    · cases h
    · rename_i h0
      exact ⟨(Option.some.inj h).symm, h0⟩
theorem gR_end {f : KeyT → Nat} {ks : List KeyT} (h : ∀ k, k ∉ ks → gR f ks k = none) (k : KeyT) : gR f ks k = gM (readF f) k := by
  by_cases hk : k ∈ ks
  · unfold gR gM readF
    by_cases h1 : f k = 1 <;> simp [h1, hk]
  · have h2 := h k hk
    rw [h2]
    unfold gR at h2
    rw [if_neg (fun e => hk e.1)] at h2
    unfold gM at h2 ⊢
    unfold readF
    by_cases h0 : f k = 0
    · simp [h0]
    · simp [h0] at h2
theorem gR_all {f : KeyT → Nat} {ks : List KeyT} (h : ∀ k, k ∉ ks → gR f ks k = none) (k : KeyT) (hk : f k ≠ 0) : k ∈ ks := by
  by_cases e : k ∈ ks
  · exact e
  · have h2 := h k e
    unfold gR gM at h2
    rw [if_neg (fun e2 => e e2.1), if_neg hk] at h2
    cases h2
theorem gR_map {w : World} {b n : Nat} {f : KeyT → Nat} {ks : List KeyT} (h : GMap 38 (fun k : KeyT => kyKey k.1) u8V w b (gR f ks) n) (hd : ∀ k, k ∉ ks → gR f ks k = none) : MMap w b (readF f) n ∧ n ≤ ks.length :=
  ⟨h.as (gR_end hd), h.few mmTy ks (fun k hk => by
    obtain ⟨e, he⟩ := Option.isSome_iff_exists.1 hk
    exact gR_all hd k (gR_some he).2)⟩
set_option maxRecDepth 100000 in
set_option maxHeartbeats 3200000 in
theorem lkReads_any (tm : Nat) (t : TxN) (pr : Bool) (m1 m2 n : Nat) (f : KeyT → Nat) (w : World) (hm : MMap w m1 f n) (hC : n ≤ 100000) :
    Calls Tryz.prog 53 #[usV (tm, t, pr, some m1, some m2)] w fun e w' => ∃ (v : Value) (ks : List KeyT), e = .returned v ∧ w'.ownsRow w.heap.size 38 8 v ks.length (rowK ks) ∧ (∀ k, k ∈ ks ↔ f k = 1) ∧ ks.length ≤ n ∧ (∃ n', n' ≤ n ∧ MMap w' m1 (readF f) n') ∧ KeepBut (fun j => j = m1) w w' := by
  have hA := alloc_below14 w (.cells (usA (tm, t, pr, some m1, some m2)) 83)
  have HX := hide (box_new w (usA (tm, t, pr, some m1, some m2)) 83)
  obtain ⟨w1, hw1⟩ : ∃ w1, w1 = w.alloc (.cells (usA (tm, t, pr, some m1, some m2)) 83) := ⟨_, rfl⟩
  obtain ⟨p1, hp1⟩ : ∃ p1, p1 = w.heap.size := ⟨_, rfl⟩
  rw [← hw1, ← hp1] at HX
  rw [← hw1] at hA
  have hW1 := hw1.symm
  have hP1 := hp1.symm
  have HB := hide hA
  have HM := hide (hm.below hA)
  have HC := hide hC
  have y5 : w1.cell? ⟨p1, 5, none⟩ = some (.map (some m1)) := HX.out.cell 5 _ rfl
  clear hA hw1 hp1 hm hC
  have hpm : p1 ≠ m1 := HM.out.ne HX.out
  have HPM := hide hpm
  obtain ⟨w2, hr1, hg1, hb1, hs1⟩ := run_range_g mmTy HM.out
  obtain ⟨r1, hr1e⟩ : ∃ r, r = w1.heap.size := ⟨_, rfl⟩
  rw [← hr1e] at hr1 hg1 hb1 hs1
  have HR1 := hide hr1e
  have HM1L : Hid (m1 < r1) := hide (by rw [hr1e]; exact HM.out.lt)
  have HP1L : Hid (p1 < r1) := hide (by rw [hr1e]; exact HX.out.lt)
  have HG1 : Hid (DRng w2 m1 r1 f []) := hide (by unfold DRng; rw [gR_nil]; exact hg1)
  have HS1 := hide hs1
  have HK1 : Hid (KeepBut (fun j => j = m1) w1 w2) := hide (KeepBut.of_below _ (by rw [← hr1e]; exact hb1))
  clear hr1e hg1 hb1 hs1 hpm
  go_enter Tryz.func53, Tryz.ntmps53
  go_wp2_with fail
  go_loopw [3] (fun y wr => ∃ (kk ks : List KeyT) (ax : Option Addr) (cx : Nat), y = .slice ax kk.length cx ∧ Hid (∀ k, k ∈ kk ↔ k ∈ ks ∧ f k = 1) ∧ Hid (kk.length ≤ ks.length) ∧ Hid (DRng wr m1 r1 f ks) ∧ Hid (wr.ownsRow r1 38 8 (.slice ax kk.length cx) kk.length (flat kyCs kk)) ∧ Hid (KeepBut (fun j => j = m1) w1 wr) ∧ Hid (ks.length + wr.rangeLeft m1 r1 ≤ n)) (fun _ wr => wr.rangeLeft m1 r1)
  case atStart => exact ⟨[], [], none, 0, rfl, hide (by simp), hide (Nat.le_refl _), HG1, hide (World.ownsRow_nil _ _ _ _), HK1, hide (by rw [HS1.out]; simp)⟩
  case round =>
    obtain ⟨kk, ks, ax, cx, rfl, HKE, HKL, HG, HO, HKW, HLE⟩ := hrel
    go_wp2_with (at_next; refine wp_next_g mmTy _ rfl _ rfl rfl HG.out ?_ ?_)
    · intro hdone
      have HD := hide hdone.all
      clear hdone
      go_wp2_with fail
      go_ret
      obtain ⟨n', hmap⟩ := HG.out.map
      obtain ⟨hm1, hn1⟩ := gR_map hmap HD.out
      have hl := HLE.out
      have hkl := HKL.out
      have hrow := owns_base15 HO.out (by rw [HR1.out]; exact HB.out.size : w.heap.size ≤ r1)
      have hall : ∀ k, k ∈ kk ↔ f k = 1 := fun k => by
        rw [HKE.out k]
        exact ⟨fun h => h.2, fun h => ⟨gR_all HD.out k (by omega), h⟩⟩
      exact ⟨_, kk, rfl, hrow, hall, by omega, ⟨n', by omega, hm1⟩, (KeepBut.of_below (fun j => j = m1) HB.out).trans HKW.out (fun _ _ h => h)⟩
    · rintro ⟨t, e, w3, hk, he, hrg3, hlt, hkb, hsz, hen⟩
      dsimp only at hen ⊢
      obtain ⟨rfl, hf0⟩ := gR_some he
      have HKW3 : Hid (KeepBut (fun j => j = m1 ∨ j = r1) w1 w3) := hide ((HKW.out.mono (fun j h => .inl h)).trans (hkb.mono (fun j h => .inr h)) (fun _ _ h => h))
      have HKW4 : Hid (KeepBut (fun j => j = m1) w1 w3) := hide ⟨HKW3.out.os, HKW3.out.tape, HKW3.out.output, HKW3.out.size, fun j hj hn => HKW3.out.block j hj (fun h => h.elim hn (fun e => by have := HR1.out; omega))⟩
      have HNR0 : Hid (∀ g, (Value.slice ax kk.length cx).ownBlock = some g → g ≠ r1) := hide (fun g e e2 => by
        obtain ⟨_, ⟨h1, _⟩ | ⟨g', cap, cur, h1, _, hb, _⟩⟩ := HO.out
        · rw [h1] at e; cases e
        · rw [h1] at e
          cases e
          obtain ⟨R0, D0, lf, ct, n0, _, ⟨es, clock, since, seen, c0, _, _, _, _, hr0, _⟩, _⟩ := HG.out.own
          subst e2
          rw [hb] at hr0
          cases hr0)
      have HO3 := hide (owns_keep HO.out hkb HNR0.out)
      have HA5 : Hid (Below w3.heap.size w3 (w3.alloc (.cells (eightA t.1) 38))) := hide (alloc_below14 _ _)
      have hg5 := hrg3.below HA5.out
      have HG5 := hide hg5.1
      have HL5 := hide hg5.2
      have HLT := hide hlt
      have HTN2 : Hid ((ks ++ [t]).length = ks.length + 1) := hide (by rw [List.length_append]; rfl)
      have HLE2 : Hid ((ks ++ [t]).length + w3.rangeLeft m1 r1 ≤ n) := hide (by rw [HTN2.out]; have h1 := HLE.out; have h2 := HLT.out; omega)
      by_cases h1 : f t = 1
      case neg =>
        have hz : ((f t : Nat) : Int) = 1 ↔ False := ⟨fun h => h1 (by omega), False.elim⟩
        have hz2 : (((f t : Nat) : Int) == 1) = false := by simp; omega
        have HG6 : Hid (DRng (w3.alloc (.cells (eightA t.1) 38)) m1 r1 f (ks ++ [t])) := hide (by unfold DRng; rw [gR_same h1]; exact HG5.out)
        have HO5 := hide (owns_keep HO3.out (KeepBut.of_below (fun _ => False) HA5.out) (fun _ _ h => h))
        have HKE2 : Hid (∀ k, k ∈ kk ↔ k ∈ ks ++ [t] ∧ f k = 1) := hide (fun k => by
          rw [HKE.out k, List.mem_append, List.mem_singleton]
          exact ⟨fun h => ⟨.inl h.1, h.2⟩, fun h => ⟨h.1.elim id (fun e => absurd (e ▸ h.2) h1), h.2⟩⟩)
        have HKL2 : Hid (kk.length ≤ (ks ++ [t]).length) := hide (by rw [HTN2.out]; have := HKL.out; omega)
        have HK5 : Hid (KeepBut (fun j => j = m1) w1 (w3.alloc (.cells (eightA t.1) 38))) := hide (HKW4.out.alloc _)
        clear he hk hsz hrg3 hlt hkb hg5 h1
        go_wp2_with fail
        go_roundw
        case rel => exact ⟨kk, ks ++ [t], ax, cx, rfl, HKE2, HKL2, HG6, HO5, HK5, hide (by rw [HL5.out]; exact HLE2.out)⟩
        case measure => rw [HL5.out]; exact HLT.out
      case pos =>
        have hz2 : (((f t : Nat) : Int) == 1) = true := by simp; omega
        have HA6 : Hid (Below w3.heap.size w3 ((w3.alloc (.cells (eightA t.1) 38)).alloc (.cells (eightA t.1) 38))) := hide (HA5.out.trans ((alloc_below14 _ _).mono (by simp)))
        have hg6 := hrg3.below HA6.out
        have HG6 := hide hg6.1
        have HL6 := hide hg6.2
        have HO6 := hide (owns_keep HO3.out (KeepBut.of_below (fun _ => False) HA6.out) (fun _ _ h => h))
        have HSZ3 : Hid (r1 ≤ w3.heap.size) := hide (by rw [HR1.out]; exact HKW4.out.size)
        have HSRC : Hid (RSrc kyCs ((w3.alloc (.cells (eightA t.1) 38)).alloc (.cells (eightA t.1) 38)) (.slice (some ⟨w3.heap.size + 1, 0, none⟩) 1 1) [t]) := hide (by
          have h1 := src_new (enc := kyCs) (w3.alloc (.cells (eightA t.1) 38)) t (eightA t.1) rfl 38
          have e : (w3.alloc (.cells (eightA t.1) 38)).heap.size = w3.heap.size + 1 := by simp
          rw [e] at h1
          exact h1)
        have HTN : Hid ((kk ++ [t]).length = kk.length + 1) := hide (by rw [List.length_append]; rfl)
        have HSL : Hid (kk.length + 1 ≤ 1000000) := hide (by have h1 := HLE.out; have h2 := HKL.out; have h3 := HC.out; omega)
        have HBS : Hid (r1 ≤ ((w3.alloc (.cells (eightA t.1) 38)).alloc (.cells (eightA t.1) 38)).heap.size) := hide (Nat.le_trans HSZ3.out HA6.out.size)
        have HNR : Hid (∀ g, (Value.slice ax kk.length cx).ownBlock = some g → g ≠ r1 ∧ g ≠ m1 ∧ r1 ≤ g ∧ g < w3.heap.size) := hide (fun g hg => by
          have h1 := (HO.out.lt g hg)
          have h2 := HM1L.out
          have h3 := hkb.size
          exact ⟨HNR0.out g hg, by omega, by omega, by omega⟩)
        have HBK : Hid (Box ((w3.alloc (.cells (eightA t.1) 38)).alloc (.cells (eightA t.1) 38)) w3.heap.size (eightA t.1) 38) := hide ((box_new w3 _ _).belowI (alloc_below14 _ _))
        have HKE2 : Hid (∀ k, k ∈ kk ++ [t] ↔ k ∈ ks ++ [t] ∧ f k = 1) := hide (fun k => by
          rw [List.mem_append, HKE.out k, List.mem_append, List.mem_singleton]
          exact ⟨fun h => h.elim (fun h => ⟨.inl h.1, h.2⟩) (fun e => ⟨.inr e, e ▸ h1⟩), fun h => h.1.elim (fun h2 => .inl ⟨h2, h.2⟩) .inr⟩)
        have HKL2 : Hid ((kk ++ [t]).length ≤ (ks ++ [t]).length) := hide (by rw [HTN.out, HTN2.out]; have := HKL.out; omega)
        have HK6 : Hid (KeepBut (fun j => j = m1) w1 ((w3.alloc (.cells (eightA t.1) 38)).alloc (.cells (eightA t.1) 38))) := hide ((HKW4.out.alloc _).alloc _)
        have HF1 := hide h1
        have HMEM : Hid (t ∈ ks ++ [t]) := hide (by simp)
        clear he hk hsz hrg3 hlt hkb hg5 hg6 h1
        go_wp2_with (at_builtin; refine wp_recs recKey15 _ rfl _ _ rfl r1 (.slice ax kk.length cx) (.slice (some ⟨w3.heap.size + 1, 0, none⟩) 1 1) kk [t] rfl HO6.out rfl HSRC.out ?_ HSL.out HBS.out ?_)
        · exact (fun z hz => by simp at hz; subst hz; exact key_one15 _)
        intro v4 w4 ho4 hg4 _
        obtain ⟨a4, c4, hv4, hsh⟩ := owns_shapeR ho4
        subst hv4
        have hk4 := kept15 hg4
        have HG4 := hide (HG6.out.keep hk4 (fun e => (HNR.out _ e).2.1 rfl) (fun e => (HNR.out _ e).1 rfl))
        have HK4 : Hid (KeepBut (fun j => j = m1) w1 w4) := hide (HK6.out.trans hk4 (fun j hj h => by have h1 := (HNR.out j h).2.2.1; have h2 := HR1.out; omega))
        have HX4 := hide (HBK.out.keep hk4 (fun e => by have := (HNR.out _ e).2.2.2; omega))
        have HO4 := hide ho4
        have y54 : w4.cell? ⟨p1, 5, none⟩ = some (.map (some m1)) := (HX.out.keep HK4.out HPM.out).cell 5 _ rfl
        obtain ⟨x0, x1, x2, x3, x4, x5, x6, x7⟩ := box_eight14 HX4.out
        clear ho4 hg4 hk4 hsh
        go_wp2_with (at_delete; refine wp_delete_g mmTy _ rfl _ _ rfl t rfl rfl HG4.out.1 HMEM.out ?_; intro w7 hg7 hl7 hk7; have HG7 := hide (drng_of HF1.out hg7); have HL7 := hide hl7; have HK7 := hide hk7; clear hg7 hl7 hk7; go_frame)
        have HO7 := hide (owns_keep HO4.out HK7.out (fun g e e2 => by
          rcases e2 with e2 | e2
          · have h1 := (HO4.out.lt g e).1
            have h2 := HM1L.out
            omega
          · obtain ⟨_, ⟨h1, _⟩ | ⟨g', cap, cur, h1, _, hb, _⟩⟩ := HO4.out
            · rw [h1] at e; cases e
            · rw [h1] at e
              cases e
              obtain ⟨R0, D0, lf, ct, n0, _, ⟨es, clock, since, seen, c0, _, _, _, _, hr0, _⟩, _⟩ := HG4.out.1.own
              subst e2
              rw [hb] at hr0
              cases hr0))
        have HK17 : Hid (KeepBut (fun j => j = m1) w1 w7) := hide (HK4.out.trans HK7.out (fun j hj h => h.elim id (fun e => by have h2 := HR1.out; omega)))
        have HLL : Hid (w7.rangeLeft m1 r1 ≤ w3.rangeLeft m1 r1) := hide (by rw [← HL6.out, ← HG4.out.2]; exact HL7.out)
        go_roundw
        case rel => exact ⟨kk ++ [t], ks ++ [t], a4, c4, by rw [HTN.out], HKE2, HKL2, HG7, hide (by rw [HTN.out]; exact HO7.out), HK17, hide (by have h1 := HLE2.out; have h2 := HLL.out; omega)⟩
        case measure => exact Nat.lt_of_le_of_lt HLL.out HLT.out
end
section
open Go.RowKit Go.Maps Classical

theorem usL_upd {l : List (UsP KeyT)} (t : TxN) {f : UsP KeyT → UsP KeyT} (hf : ∀ u, (f u).tx = u.tx) (s : TxN) : usL (updU l t f) s = (usL l s).map fun u => if u.tx = t then f u else u := by
  unfold usL updU
  rw [List.find?_map]
  congr 1
  congr 1
  funext u
  show decide ((if u.tx = t then f u else u).tx = s) = decide (u.tx = s)
  split
  · rw [hf]
  · rfl
theorem gU_upd {l : List (UsP KeyT)} (t : TxN) {f : UsP KeyT → UsP KeyT} (hf : ∀ u, (f u).tx = u.tx ∧ (f u).tm = u.tm ∧ (f u).pr = u.pr) (p : TxN → Nat × Nat) (s : TxT) : gU (updU l t f) p s = gU l p s := by
  show (usL (updU l t f) s.1).map _ = (usL l s.1).map _
  rw [usL_upd t (fun u => (hf u).1), Option.map_map]
  congr 1
  funext u
  show ((if u.tx = t then f u else u).tm, (if u.tx = t then f u else u).tx, (if u.tx = t then f u else u).pr, some (p s.1).1, some (p s.1).2) = (u.tm, u.tx, u.pr, some (p s.1).1, some (p s.1).2)
  by_cases e : u.tx = t
  · rw [if_pos e, (hf u).1, (hf u).2.1, (hf u).2.2]
  · rw [if_neg e]
theorem upd_len (l : List (UsP KeyT)) (t : TxN) (f : UsP KeyT → UsP KeyT) : (updU l t f).length = l.length := by unfold updU; rw [List.length_map]
/-- One user's maps turned. -/
theorem PLk.upd {w w' : World} {q b C C' : Nat} {p : TxN → Nat × Nat} {l : List (UsP KeyT)} {S : Nat → Prop} (h : PLk w q b C p l) {x : UsP KeyT} (hx : x ∈ l) {f : UsP KeyT → UsP KeyT} (hf : ∀ u, (f u).tx = u.tx)
    (hum : UMap w' b (gU (updU l x.tx f) p) l.length) (hk : KeepBut S w w') (hS : ∀ j, S j → j = (p x.tx).1 ∨ j = (p x.tx).2 ∨ j = b) (hm : ∃ n n', MMap w' (p x.tx).1 (f x).h n ∧ MMap w' (p x.tx).2 (f x).w n' ∧ n + n' ≤ C') (hC : C ≤ C') (hb : LkB (updU l x.tx f)) : PLk w' q b C' p (updU l x.tx f) := by
  have hq := h.q_ne
  have hback : ∀ u ∈ updU l x.tx f, ∃ u0 ∈ l, u.tx = u0.tx ∧ (u0 = x ∧ u = f x ∨ u0.tx ≠ x.tx ∧ u = u0) := fun u hu => by
    obtain ⟨u0, hu0, rfl⟩ := updU_mem.1 hu
    by_cases e : u0.tx = x.tx
    · have := rise_eq h.ok.rise hu0 hx e
      subst this
      rw [if_pos rfl]
      exact ⟨_, hu0, hf _, .inl ⟨rfl, rfl⟩⟩
    · rw [if_neg e]
      exact ⟨_, hu0, rfl, .inr ⟨e, rfl⟩⟩
  refine ⟨h.box.keep hk (fun hs => ?_), by rw [upd_len]; exact hum, fun u hu => ?_, fun u hu => ?_, fun u hu v hv e => ?_, hb⟩
  · rcases hS _ hs with e | e | e
    · exact (hq.2 x hx).1 e
    · exact (hq.2 x hx).2 e
    · exact hq.1 e
  · obtain ⟨u0, hu0, e, ⟨rfl, rfl⟩ | ⟨en, rfl⟩⟩ := hback u hu
    · obtain ⟨n, n', h1, h2, h3⟩ := hm
      rw [e]
      exact ⟨n, n', h1, h2, h3⟩
    · obtain ⟨n, n', h1, h2, h3⟩ := h.maps u hu0
      have hp := h.ap u hu0
      have hp2 := h.ap2 u hu0 x hx en
      have hp3 := h.ap2 x hx u hu0 (fun e => en e.symm)
      refine ⟨n, n', h1.keep hk (fun hs => ?_), h2.keep hk (fun hs => ?_), Nat.le_trans h3 hC⟩
      · rcases hS _ hs with e | e | e
        · exact hp2.1 e
        · exact hp2.2.1 e
        · exact hp.2.1 e
      · rcases hS _ hs with e | e | e
        · exact hp3.2.1 e.symm
        · exact hp2.2.2 e
        · exact hp.2.2 e
  · obtain ⟨u0, hu0, e, _⟩ := hback u hu
    rw [e]
    exact h.ap u0 hu0
  · obtain ⟨u0, hu0, e1, _⟩ := hback u hu
    obtain ⟨v0, hv0, e2, _⟩ := hback v hv
    rw [e1, e2]
    exact h.ap2 u0 hu0 v0 hv0 (by rw [← e1, ← e2]; exact e)
theorem gM_of {f : KeyT → Nat} {k : KeyT} {v : Nat} (h : f k = v) (hv : v ≠ 0) : gM f k = some v := by
  unfold gM
  rw [h, if_neg hv]
theorem gM_zero {f : KeyT → Nat} {k : KeyT} (h : f k = 0) : gM f k = none := by
  unfold gM
  rw [h, if_pos rfl]
theorem gM_at {f g : KeyT → Nat} {k : KeyT} (h : f k = g k) : gM f k = gM g k := by
  unfold gM
  rw [h]
/-- m[k] = v, not 0; delete(m, k). -/
theorem mmap_put {w : World} {m n : Nat} {f : KeyT → Nat} (h : MMap w m f n) (hn : n < maxLen) (k : KeyT) (v : Nat) (hv : v ≠ 0) : ∃ w', (Instr.mapUpdate 81 (.map (some m)) (kyV k.1) (.int .u8 (v : Int))).run Tryz.prog w = .ok () w' ∧ MMap w' m (fun k' => if k' = k then v else f k') (if f k = 0 then n + 1 else n) ∧ KeepBut (fun j => j = m) w w' := by
  obtain ⟨w', hr, hg, hk⟩ := h.put mmTy hn k v
  refine ⟨w', hr, ?_, hk⟩
  have e : (if (gM f k).isSome then n else n + 1) = if f k = 0 then n + 1 else n := by
    by_cases h0 : f k = 0
    · rw [if_pos h0, if_neg (fun h1 => (gM_some f k).1 h1 h0)]
    · rw [if_neg h0, if_pos ((gM_some f k).2 h0)]
  rw [e] at hg
  refine hg.as (fun k' => ?_)
  by_cases ek : k' = k
  · rw [if_pos ek]
    exact (gM_of (by rw [if_pos ek]) hv).symm
  · rw [if_neg ek]
    exact (gM_at (by rw [if_neg ek])).symm
theorem mmap_del {w : World} {m n : Nat} {f : KeyT → Nat} (h : MMap w m f n) (k : KeyT) : ∃ w', (∀ ty, (Builtin.delete_ #[81, 38] ty #[.map (some m), kyV k.1]).run Tryz.prog w = .ok (.tuple #[]) w') ∧ MMap w' m (fun k' => if k' = k then 0 else f k') (if f k = 0 then n else n - 1) ∧ KeepBut (fun j => j = m) w w' := by
  obtain ⟨w', hr, hg, hk⟩ := h.del mmTy k
  refine ⟨w', hr, ?_, hk⟩
  have e : (if (gM f k).isSome then n - 1 else n) = if f k = 0 then n else n - 1 := by
    by_cases h0 : f k = 0
    · rw [if_pos h0, if_neg (fun h1 => (gM_some f k).1 h1 h0)]
    · rw [if_neg h0, if_pos ((gM_some f k).2 h0)]
  rw [e] at hg
  refine hg.as (fun k' => ?_)
  by_cases ek : k' = k
  · rw [if_pos ek]
    exact (gM_zero (by rw [if_pos ek])).symm
  · rw [if_neg ek]
    exact (gM_at (by rw [if_neg ek])).symm
abbrev gtA (g : GtP KeyT) : Array Value := #[.int .u8 (g.tx.1 : Int), .int .u32 (g.tx.2.1 : Int), .int .u32 (g.tx.2.2 : Int), .int .u8 (at8 g.key.1 0), .int .u8 (at8 g.key.1 1), .int .u8 (at8 g.key.1 2), .int .u8 (at8 g.key.1 3), .int .u8 (at8 g.key.1 4), .int .u8 (at8 g.key.1 5), .int .u8 (at8 g.key.1 6), .int .u8 (at8 g.key.1 7), .int .u8 (g.mode : Int)]
abbrev zG : Array Value := #[.int .u8 0, .int .u32 0, .int .u32 0, .int .u8 0, .int .u8 0, .int .u8 0, .int .u8 0, .int .u8 0, .int .u8 0, .int .u8 0, .int .u8 0, .int .u8 0]
theorem infoGt15 : (Tryz.prog.info? 76).map (·.size) = some 12 := by kernel_rfl
theorem buildGt (t : TxN) (k : KeyT) (m : Nat) (w : World) : (Instr.build 76 #[(0, txVN t), (1, kyV k.1), (2, .int .u8 (m : Int))]).run Tryz.prog w = .ok (.agg (gtA ⟨t, k, m⟩)) w := by kernel_rfl
/-- A lock stored whole, under a name. -/
def stG (a v : Value) : Sem Unit := Instr.storeAt 76 a v
theorem stG_hide (a v : Value) : Instr.storeAt 76 a v = stG a v := rfl
set_option maxRecDepth 100000 in
theorem run_stG {w : World} {p : Nat} {cs : Array Value} {t0 : TypeId} (h : Box w p cs t0) (hs : cs.size = 12) (g : GtP KeyT) : ∃ w', (stG (.pointer (some ⟨p, 0, none⟩)) (.agg (gtA g))).run Tryz.prog w = .ok () w' ∧ Box w' p (gtA g) t0 ∧ KeepBut (fun k => k = p) w w' := by
  have hr := run_storeVar_row (P := Tryz.prog) w p t0 76 cs (gtA g) h infoGt15 hs (by simp [Value.oneCell'])
  refine ⟨w.setRow p (gtA g), ?_, setRow_heap w p cs _ t0 (0, 0) h, rfl, rfl, rfl, by simp [World.setRow], fun k _ hS => setRow_other w p k _ hS⟩
  unfold stG
  simp only [Instr.storeAt, Instr.sureAddr, Sem.run_bind, Sem.run_pure, Result.andThen_ok, hr]
theorem grU_all (k : KeyT) (u : UsP KeyT) : (grU k u).tx = u.tx ∧ (grU k u).tm = u.tm ∧ (grU k u).pr = u.pr := ⟨rfl, rfl, rfl⟩
attribute [local go_sem ↓] stG_hide stU_hide
set_option maxRecDepth 100000 in
set_option maxHeartbeats 3200000 in
theorem lkGrant_any (q b C : Nat) (p : TxN → Nat × Nat) (l : List (UsP KeyT)) (x : UsP KeyT) (hx : x ∈ l) (k : KeyT) (w : World) (h : PLk w q b C p l) (hw : x.w k ≠ 0) (hC : C ≤ 1000000) :
    Calls Tryz.prog 79 #[.pointer (some ⟨q, 0, none⟩), txVN x.tx, .agg (eightA k.1)] w fun e w' => e = .returned (.agg (gtA ⟨x.tx, k, max (x.h k) (x.w k)⟩)) ∧ PLk w' q b C p (updU l x.tx (grU k)) ∧ KeepBut (fun j => j = (p x.tx).1 ∨ j = (p x.tx).2) w w' := by
  have hxb : TxB x.tx := (h.ok.oks x hx).1
  have hE : (gU l p ⟨x.tx, hxb⟩).getD zE = (x.tm, x.tx, x.pr, some (p x.tx).1, some (p x.tx).2) := by
    have e : gU l p ⟨x.tx, hxb⟩ = some (x.tm, x.tx, x.pr, some (p x.tx).1, some (p x.tx).2) := by show (usL l x.tx).map _ = _; rw [(usL_some h.ok).2 ⟨hx, rfl⟩]; rfl
    rw [e]; rfl
  have hA := alloc_below14 w (.cells #[.int .u8 (x.tx.1 : Int), .int .u32 (x.tx.2.1 : Int), .int .u32 (x.tx.2.2 : Int)] 34)
  have hA2 := alloc_below14 (w.alloc (.cells #[.int .u8 (x.tx.1 : Int), .int .u32 (x.tx.2.1 : Int), .int .u32 (x.tx.2.2 : Int)] 34)) (.cells (eightA k.1) 38)
  have hA3 := alloc_below14 ((w.alloc (.cells #[.int .u8 (x.tx.1 : Int), .int .u32 (x.tx.2.1 : Int), .int .u32 (x.tx.2.2 : Int)] 34)).alloc (.cells (eightA k.1) 38)) (.cells zG 76)
  have HXT := hide (((box_new w #[.int .u8 (x.tx.1 : Int), .int .u32 (x.tx.2.1 : Int), .int .u32 (x.tx.2.2 : Int)] 34).belowI hA2).belowI hA3)
  have HXK : Hid (Box (((w.alloc (.cells #[.int .u8 (x.tx.1 : Int), .int .u32 (x.tx.2.1 : Int), .int .u32 (x.tx.2.2 : Int)] 34)).alloc (.cells (eightA k.1) 38)).alloc (.cells zG 76)) (w.heap.size + 1) (eightA k.1) 38) := hide ((by have := box_new (w.alloc (.cells #[.int .u8 (x.tx.1 : Int), .int .u32 (x.tx.2.1 : Int), .int .u32 (x.tx.2.2 : Int)] 34)) (eightA k.1) 38; simpa using this : Box ((w.alloc (.cells #[.int .u8 (x.tx.1 : Int), .int .u32 (x.tx.2.1 : Int), .int .u32 (x.tx.2.2 : Int)] 34)).alloc (.cells (eightA k.1) 38)) (w.heap.size + 1) (eightA k.1) 38).belowI hA3)
  have HXG : Hid (Box (((w.alloc (.cells #[.int .u8 (x.tx.1 : Int), .int .u32 (x.tx.2.1 : Int), .int .u32 (x.tx.2.2 : Int)] 34)).alloc (.cells (eightA k.1) 38)).alloc (.cells zG 76)) (w.heap.size + 1 + 1) zG 76) := hide (by have := box_new ((w.alloc (.cells #[.int .u8 (x.tx.1 : Int), .int .u32 (x.tx.2.1 : Int), .int .u32 (x.tx.2.2 : Int)] 34)).alloc (.cells (eightA k.1) 38)) zG 76; simpa using this)
  have hB3 := hA.trans ((hA2.trans (hA3.mono hA2.size)).mono hA.size)
  obtain ⟨w1, hw1⟩ : ∃ w1, w1 = ((w.alloc (.cells #[.int .u8 (x.tx.1 : Int), .int .u32 (x.tx.2.1 : Int), .int .u32 (x.tx.2.2 : Int)] 34)).alloc (.cells (eightA k.1) 38)).alloc (.cells zG 76) := ⟨_, rfl⟩
  obtain ⟨p1, hp1⟩ : ∃ p1, p1 = w.heap.size := ⟨_, rfl⟩
  obtain ⟨p2, hp2⟩ : ∃ p2, p2 = p1 + 1 := ⟨_, rfl⟩
  obtain ⟨p3, hp3⟩ : ∃ p3, p3 = p2 + 1 := ⟨_, rfl⟩
  rw [← hw1, ← hp1] at HXT
  rw [← hw1, ← hp1, ← hp2] at HXK
  rw [← hw1, ← hp1, ← hp2, ← hp3] at HXG
  rw [← hw1] at hB3
  have hW1 := hw1.symm
  have hP1 := hp1.symm
  have hP2 := hp2.symm
  have hP3 := hp3.symm
  have H1 := hide (h.below hB3)
  have HB := hide hB3
  obtain ⟨n, n', hm1, hm2, hnn⟩ := H1.out.maps x hx
  have hA4 := alloc_below14 w1 (.cells zU 83)
  have hXU := box_new w1 zU 83
  obtain ⟨w2, hw2⟩ : ∃ w2, w2 = w1.alloc (.cells zU 83) := ⟨_, rfl⟩
  obtain ⟨p4, hp4⟩ : ∃ p4, p4 = w1.heap.size := ⟨_, rfl⟩
  rw [← hw2] at hA4 hXU
  rw [← hp4] at hXU
  have hW2 := hw2.symm
  have hP4 := hp4.symm
  have HB2 := hide hA4
  have H2 := hide (H1.out.below hA4)
  have h0 : w2.cell? ⟨q, 0, none⟩ = some (.map (some b)) := H2.out.box.cell 0 _ rfl
  obtain ⟨k0, k1, k2⟩ := (HXT.out.belowI hA4).three
  have L1 := (H2.out.m.below (below_drew14 w2)).look1 umTy ⟨x.tx, hxb⟩
  rw [hE] at L1
  have h01 : w1.cell? ⟨q, 0, none⟩ = some (.map (some b)) := H1.out.box.cell 0 _ rfl
  obtain ⟨k01, k11, k21⟩ := HXT.out.three
  have L11 := (H1.out.m.below (below_drew14 w1)).look1 umTy ⟨x.tx, hxb⟩
  rw [hE] at L11
  obtain ⟨⟨m1, m2⟩, hxm⟩ : ∃ m, m = p x.tx := ⟨_, rfl⟩
  rw [← hxm] at L1 L11 hm1 hm2
  obtain ⟨w3, hst, hx3, hk3⟩ := run_stU (hXU.belowI (below_drew14 w2)) rfl (x.tm, x.tx, x.pr, some m1, some m2)
  have HX3 := hide hx3
  have HB3 : Hid (Below w1.heap.size w1 w3) := hide ((hA4.trans ((below_drew14 w2).mono hA4.size)).trans (hk3.below hA4.size (fun j e => by rw [e, hp4]; exact Nat.le_refl _)))
  clear hw2 hp4 hA4 hXU hx3 hk3
  have HXM := hide hxm
  have HM1 := hide hm1
  have HM2 := hide hm2
  have HNN := hide hnn
  have HXI := hide hx
  have HC := hide hC
  have HPW := hide h
  have HNW : Hid (w.heap.size ≤ p3) := hide (by omega)
  have HNB : Hid (m1 ≠ b ∧ m2 ≠ b) := hide (by
    have h6 := (h.ap x hx).2
    rw [← hxm] at h6
    exact h6)
  have HNE : Hid (p1 < p2 ∧ p2 < p3 ∧ p3 < p4 ∧ m1 < p1 ∧ m2 < p1 ∧ m1 ≠ m2) := hide (by
    have h1 := HXT.out.lt
    have h2 := HXK.out.lt
    have h3 := HXG.out.lt
    have h4 := h.flt (k := m1) (.inr (.inr ⟨x, hx, .inl (by rw [← hxm])⟩))
    have h5 := h.flt (k := m2) (.inr (.inr ⟨x, hx, .inr (by rw [← hxm])⟩))
    have h6 := (h.ap x hx).1
    rw [← hxm] at h6
    dsimp only at h6
    omega)
  have HWK := hide hw
  have HXB := hide hxb
  clear h hA hA2 hA3 hB3 hw1 hp1 hp2 hp3 hE hm1 hm2 hnn hC hx hxm hw
  obtain ⟨⟨xa, xb, xc⟩, xm, xp, xh, xw⟩ := x
  dsimp only at *
  obtain ⟨V, hV⟩ : ∃ V, V = max (xh k) (xw k) := ⟨_, rfl⟩
  have HV := hide hV
  rw [← hV]
  clear hV
  go_enter Tryz.func79, Tryz.ntmps79
  go_wp2_with fail
  go_region
  clear h0 k0 k1 k2 h01 k01 k11 k21 L1 L11 hst hW1 hW2 hP1 hP2 hP3
  simp only [Exit.then]
  rename_i hK
  refine hK _ _ ?_
  clear hK
  have hV := HV.out
  have hmx : ((V : Nat) : Int) = max ((xh k : Nat) : Int) ((xw k : Nat) : Int) := by omega
  have HXK3 := hide (HXK.out.belowI HB3.out)
  have HXT3 := hide (HXT.out.belowI HB3.out)
  have HXG3 := hide (HXG.out.belowI HB3.out)
  have H3 := hide (H1.out.below HB3.out)
  have HM13 := hide (HM1.out.below HB3.out)
  have HM23 := hide (HM2.out.below HB3.out)
  have HBB3 : Hid (Below w.heap.size w w3) := hide (HB.out.trans (HB3.out.mono HB.out.size))
  obtain ⟨x0, x1, x2, x3, x4, x5, x6, x7⟩ := box_eight14 HXK3.out
  have y5 : w3.cell? ⟨p4, 5, none⟩ = some (.map (some m1)) := HX3.out.cell 5 _ rfl
  have y6 : w3.cell? ⟨p4, 6, none⟩ = some (.map (some m2)) := HX3.out.cell 6 _ rfl
  have L2 := (MRead.look (.inr ⟨_, _, rfl, HM13.out.below (below_drew14 w3)⟩) k : (Instr.lookup 81 (.map (some m1)) (kyV k.1) false).run Tryz.prog w3.drew = _)
  have L3 := (MRead.look (.inr ⟨_, _, rfl, HM23.out.below (below_drew14 w3)⟩) k : (Instr.lookup 81 (.map (some m2)) (kyV k.1) false).run Tryz.prog w3.drew = _)
  obtain ⟨w4, hput, hmp, hkp⟩ := mmap_put (HM13.out.below (below_drew14 w3)) (by have := HNN.out; have := HC.out; unfold maxLen; omega) k V (by have := HWK.out; omega)
  rw [hmx] at hput
  have HM14 := hide hmp
  clear hmx
  have HK34 : Hid (KeepBut (fun j => j = m1) w3 w4) := hide ((KeepBut.of_below (fun j => j = m1) (below_drew14 w3)).trans hkp (fun _ _ h => h))
  clear hV hmp hkp
  have HXK4 := hide (HXK3.out.keep HK34.out (fun e => by have := HNE.out; omega))
  have HXT4 := hide (HXT3.out.keep HK34.out (fun e => by have := HNE.out; omega))
  have HXG4 := hide (HXG3.out.keep HK34.out (fun e => by have := HNE.out; omega))
  have HX4 := hide (HX3.out.keep HK34.out (fun e => by have := HNE.out; omega))
  have HM24 := hide (HM23.out.keep HK34.out (fun e => by have := HNE.out; omega))
  obtain ⟨z0, z1, z2, z3, z4, z5, z6, z7⟩ := box_eight14 HXK4.out
  have u5 : w4.cell? ⟨p4, 5, none⟩ = some (.map (some m1)) := HX4.out.cell 5 _ rfl
  have u6 : w4.cell? ⟨p4, 6, none⟩ = some (.map (some m2)) := HX4.out.cell 6 _ rfl
  go_wp2_with fail
  go_region_held (fun w' => w'.cell? ⟨p2, 0, none⟩ = some (.int .u8 (at8 k.1 0)) ∧ w'.cell? ⟨p2, 1, none⟩ = some (.int .u8 (at8 k.1 1)) ∧ w'.cell? ⟨p2, 2, none⟩ = some (.int .u8 (at8 k.1 2)) ∧ w'.cell? ⟨p2, 3, none⟩ = some (.int .u8 (at8 k.1 3)) ∧ w'.cell? ⟨p2, 4, none⟩ = some (.int .u8 (at8 k.1 4)) ∧ w'.cell? ⟨p2, 5, none⟩ = some (.int .u8 (at8 k.1 5)) ∧ w'.cell? ⟨p2, 6, none⟩ = some (.int .u8 (at8 k.1 6)) ∧ w'.cell? ⟨p2, 7, none⟩ = some (.int .u8 (at8 k.1 7)) ∧ w'.cell? ⟨p4, 5, none⟩ = some (.map (some m1)) ∧ w'.cell? ⟨p4, 6, none⟩ = some (.map (some m2))) (go_keep) (fail)
  all_goals rename_i hS9
  all_goals clear hS9 x0 x1 x2 x3 x4 x5 x6 x7 y5 y6 L2 L3 hput
  all_goals obtain ⟨w5, hdel, hmd, hkd⟩ := mmap_del HM24.out k
  all_goals have HM25 := hide hmd
  all_goals have HK45 := hide hkd
  all_goals clear hmd hkd
  all_goals go_wp2_with fail
  all_goals
    have HM15 := hide (HM14.out.keep HK45.out (fun e => by have := HNE.out; omega))
    have HXK5 := hide (HXK4.out.keep HK45.out (fun e => by have := HNE.out; omega))
    have HXT5 := hide (HXT4.out.keep HK45.out (fun e => by have := HNE.out; omega))
    have HXG5 := hide (HXG4.out.keep HK45.out (fun e => by have := HNE.out; omega))
    have HX5 := hide (HX4.out.keep HK45.out (fun e => by have := HNE.out; omega))
    obtain ⟨x0, x1, x2, x3, x4, x5, x6, x7⟩ := box_eight14 HXK5.out
    obtain ⟨k0, k1, k2⟩ := HXT5.out.three
    have y5 : w5.cell? ⟨p4, 5, none⟩ = some (.map (some m1)) := HX5.out.cell 5 _ rfl
    have L4 := (MRead.look (.inr ⟨_, _, rfl, HM15.out.below (below_drew14 w5)⟩) k : (Instr.lookup 81 (.map (some m1)) (kyV k.1) false).run Tryz.prog w5.drew = _)
    rw [if_pos rfl] at L4
    have hbu := fun W => buildGt (xa, xb, xc) k V W
    obtain ⟨w6, hstg, hx6, hk6⟩ := run_stG (HXG5.out.belowI (below_drew14 w5)) rfl ⟨(xa, xb, xc), k, V⟩
    have HX6 := hide hx6
    have HK56 : Hid (KeepBut (fun j => j = p3) w5 w6) := hide ((KeepBut.of_below (fun j => j = p3) (below_drew14 w5)).trans hk6 (fun _ _ h => h))
    have HXK6 := hide (HXK5.out.keep HK56.out (fun e => by have := HNE.out; omega))
    have HXT6 := hide (HXT5.out.keep HK56.out (fun e => by have := HNE.out; omega))
    have HXX6 := hide (HX5.out.keep HK56.out (fun e => by have := HNE.out; omega))
    obtain ⟨v0, v1, v2, v3, v4, v5, v6, v7⟩ := box_eight14 HXK6.out
    obtain ⟨j0, j1, j2⟩ := HXT6.out.three
    have i5 : w6.cell? ⟨p4, 5, none⟩ = some (.map (some m1)) := HXX6.out.cell 5 _ rfl
    clear hx6 hk6 z0 z1 z2 z3 z4 z5 z6 z7 u5 u6 hdel
  all_goals go_region_held (fun w' => w'.cell? ⟨p2, 0, none⟩ = some (.int .u8 (at8 k.1 0)) ∧ w'.cell? ⟨p2, 1, none⟩ = some (.int .u8 (at8 k.1 1)) ∧ w'.cell? ⟨p2, 2, none⟩ = some (.int .u8 (at8 k.1 2)) ∧ w'.cell? ⟨p2, 3, none⟩ = some (.int .u8 (at8 k.1 3)) ∧ w'.cell? ⟨p2, 4, none⟩ = some (.int .u8 (at8 k.1 4)) ∧ w'.cell? ⟨p2, 5, none⟩ = some (.int .u8 (at8 k.1 5)) ∧ w'.cell? ⟨p2, 6, none⟩ = some (.int .u8 (at8 k.1 6)) ∧ w'.cell? ⟨p2, 7, none⟩ = some (.int .u8 (at8 k.1 7)) ∧ w'.cell? ⟨p4, 5, none⟩ = some (.map (some m1)) ∧ w'.cell? ⟨p1, 0, none⟩ = some (.int .u8 (xa : Int)) ∧ w'.cell? ⟨p1, 1, none⟩ = some (.int .u32 (xb : Int)) ∧ w'.cell? ⟨p1, 2, none⟩ = some (.int .u32 (xc : Int))) (go_keep) (fail)
  all_goals rename_i hS8
  all_goals clear hS8
  all_goals go_wp2_with fail
  all_goals refine bodyPost_ret (v := .agg (gtA ⟨(xa, xb, xc), k, V⟩)) (results_box Tryz.results79 _ _ p3 rfl HX6.out Tryz.underlying76 rfl infoGt15) rfl ⟨rfl, ?_⟩
  all_goals
    have hk26 : KeepBut (fun j => j = m1 ∨ j = m2) w w6 := by
      have a1 := (KeepBut.of_below (fun j => j = m1 ∨ j = m2) HBB3.out).trans (HK34.out.mono (fun j e => .inl e)) (fun _ _ h => h)
      have a2 := a1.trans (HK45.out.mono (fun j e => .inr e)) (fun _ _ h => h)
      exact ⟨HK56.out.os.trans a2.os, HK56.out.tape.trans a2.tape, HK56.out.output.trans a2.output, Nat.le_trans a2.size HK56.out.size, fun j hj hn => (HK56.out.block j (Nat.lt_of_lt_of_le hj a2.size) (fun e => by have := HNW.out; omega)).trans (a2.block j hj hn)⟩
    have hxm := HXM.out
    have e1 : (p (xa, xb, xc)).1 = m1 := by rw [← hxm]
    have e2 : (p (xa, xb, xc)).2 = m2 := by rw [← hxm]
    rw [e1, e2]
    have hmm : ∃ n n', MMap w6 (p (xa, xb, xc)).1 (grU k ⟨(xa, xb, xc), xm, xp, xh, xw⟩).h n ∧ MMap w6 (p (xa, xb, xc)).2 (grU k ⟨(xa, xb, xc), xm, xp, xh, xw⟩).w n' ∧ n + n' ≤ C := by
      rw [e1, e2]
      have b1 := HM15.out.keep HK56.out (fun e => by have := HNE.out; omega)
      have b2 := HM25.out.keep HK56.out (fun e => by have := HNE.out; omega)
      rw [HV.out] at b1
      refine ⟨_, _, b1, b2, ?_⟩
      have := HNN.out
      have := HWK.out
      have b3 : n' ≠ 0 := fun e => by
        have := (gmap_pos mmTy HM2.out).2 ⟨k, (gM_some xw k).2 HWK.out⟩
        omega
      rw [if_neg HWK.out]
      split <;> omega
    have hum : UMap w6 b (gU (updU l (xa, xb, xc) (grU k)) p) l.length := by
      refine (HPW.out.m.keep hk26 (fun e => ?_)).as (fun s => (gU_upd (xa, xb, xc) (grU_all k) p s).symm)
      have := HNB.out
      omega
    exact ⟨HPW.out.upd HXI.out (fun u => (grU_all k u).1) hum hk26 (fun j e => by rw [e1, e2]; exact e.elim .inl (fun e => .inr (.inl e))) hmm (Nat.le_refl _) (updU_b HPW.out.ok _ _ (grU_ok HPW.out.ok k)), hk26⟩
end
section
open Go.RowKit

/-- Cells written one behind the other. -/
def layC (cs : Array Value) : Nat → List Value → Array Value
  | _, [] => cs
  | o, v :: r => layC (cs.setIfInBounds o v) (o + 1) r
theorem Box.setCells {g : Nat} {t : TypeId} : ∀ (vs : List Value) (o : Nat) (w : World) (cs : Array Value), Box w g cs t → Box (w.setCells g o vs) g (layC cs o vs) t
  | [], _, _, _, h => h
  | _ :: r, o, _, _, h => Box.setCells r (o + 1) _ _ h.set
theorem KeepBut.setCells {S : Nat → Prop} {g : Nat} : ∀ (vs : List Value) (o : Nat) (a w : World), KeepBut S a w → (S g ∨ a.heap.size ≤ g) → KeepBut S a (w.setCells g o vs)
  | [], _, _, _, h, _ => h
  | v :: r, o, a, _, h, hS => KeepBut.setCells r (o + 1) a _ (h.setCell (p := ⟨g, o, none⟩) hS v) hS
theorem layC_size : ∀ (vs : List Value) (o : Nat) (cs : Array Value), (layC cs o vs).size = cs.size
  | [], _, _ => rfl
  | v :: r, o, cs => by rw [layC, layC_size r]; simp
section
variable {α : Type} {t e : TypeId} {K : Nat} {enc : α → List Value}
theorem Rec.sizeOf (R : Rec t e K enc) (w : World) : (Go.sizeOf e).run Tryz.prog w = .ok K w := by
  obtain ⟨i0, z, B, hi, hz0, hz1, hz2, hzs, hB⟩ := R.info
  simp [Go.sizeOf, typeInfo, hi, hz1]
theorem run_fromB (R : Rec t e K enc) (w : World) (g n cap s : Nat) (hs : s ≤ n) (hc : s < cap) : (Instr.sliceAt t (.slice (some ⟨g, 0, none⟩) n cap) (some (.int .i64 s)) none none).run Tryz.prog w = .ok (.slice (some ⟨g, s * K, none⟩) (n - s) (cap - s)) w := by
  rw [run_fromR R w _ n cap s hs, if_neg (by omega)]
  simp [Addr.add_lit]
/-- The cells of an element's zero are single. -/
def ZeroOne (e : TypeId) : Prop := ∀ i z, Tryz.prog.info? e = some i → i.zero = some z → ∀ v ∈ z.cells.toList, v.oneCell' = true
theorem zero_one_of {e : TypeId} {z : Value} (h : (Tryz.prog.info? e).map (·.zero) = some (some z)) (h1 : z.cells.all (·.oneCell') = true) : ZeroOne e := by
  intro i z' hi hz v hv
  rw [hi] at h
  simp only [Option.map_some, hz, Option.some.injEq] at h
  subst h
  rw [Array.all_eq_true'] at h1
  exact h1 v (by simpa using hv)
theorem zeros_one {e : TypeId} (h : ZeroOne e) {i : TypeInfo} {z : Value} (hi : Tryz.prog.info? e = some i) (hz : i.zero = some z) (hp : 0 < z.cells.size) (n : Nat) : ∀ v ∈ (Builtin.zeroCells z.cells n).toList, v.oneCell' = true := by
  intro v hv
  simp only [Builtin.zeroCells, Array.toList_map, List.mem_map] at hv
  obtain ⟨j, _, rfl⟩ := hv
  have hlt : j % z.cells.size < z.cells.size := Nat.mod_lt _ hp
  rw [getElem!_pos z.cells _ hlt]
  exact h i z hi hz _ (by simp)
/-- clear(x) -/
theorem run_clearR (R : Rec t e K enc) (hzo : ZeroOne e) (w : World) (g o n c : Nat) (cs : Array Value) (hb : Box w g cs e) (ho : o + n * K ≤ cs.size) (hn : 0 < n) : ∃ zs : List Value, zs.length = n * K ∧ ∀ ty, (Builtin.clear_ #[t] ty #[.slice (some ⟨g, o, none⟩) n c]).run Tryz.prog w = .ok (.tuple #[]) (w.setCells g o zs) := by
  obtain ⟨i0, z, B, hi, hz0, hz1, hz2, hzs, hB⟩ := R.info
  have hzv : (zeroValue e).run Tryz.prog w = .ok z w := by simp [zeroValue, typeInfo, hi, hz0]
  have hl : (Builtin.zeroCells z.cells n).toList.length = n * K := by simp [size_zeroCells, hzs]
  have hone := zeros_one hzo hi hz0 (by rw [hzs]; exact R.pos) n
  refine ⟨_, hl, fun ty => ?_⟩
  have hst := run_storeCells_cells (P := Tryz.prog) g o (Builtin.zeroCells z.cells n).toList 0 w (fun j hj => by
      have hlt : o + 0 + j < cs.size := by omega
      rw [hb.cell _ _ (Array.getElem?_eq_getElem hlt)]; rfl) (fun j hj => hb.frozen _) hone
  simp only [Nat.add_zero] at hst
  obtain ⟨m, rfl⟩ : ∃ m, n = m + 1 := ⟨n - 1, by omega⟩
  simp [Builtin.clear_, run_underlying R.und, hzv, hst]
end
end
end Go.Proofs.YtddflccjmigloaaGreat
