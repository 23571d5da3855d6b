/-
  Own texts put together: LkFree, LkWay, LkDrop. Own work.
-/
import Derived.Test.YtiloagmkkhlfjaaGreatG10
namespace Go.Proofs.YtiloagmkkhlfjaaGreat
set_option maxRecDepth 100000
section
open Go.RowKit Go.Maps Classical
def apB (a b : Nat) : Bool := decide (cI a b)
theorem apartB (a b : Nat) (w : World) : Calls Tryz.prog 71 #[.int .u8 (a : Int), .int .u8 (b : Int)] w fun e w' => e = .returned (.bool (apB a b)) ∧ w' = w := apart15 a b w
set_option maxHeartbeats 3200000 in
theorem lkFree_any (q b C : Nat) (p : TxN → Nat × Nat) (l : List (aS KeyT)) (x : aS KeyT) (hx : x ∈ l) (k : KeyT) (w : World) (h : fJ w q b C p l) :
  Calls Tryz.prog 75 #[.pointer (some ⟨q, 0, none⟩), aV x.tx, .agg (aK k.1)] w fun e w' => e = .returned (.bool (decide (¬ NF l x k))) ∧ Below w.heap.size w w' := by
 have hxb : kJ x.tx := (h.ok.oks x hx).1
 have hE : (gU l p ⟨x.tx, hxb⟩).getD zE = (x.tm, x.tx, x.pr, some (p x.tx).1, some (p x.tx).2) := by
  have e : gU l p ⟨x.tx, hxb⟩ = some (x.tm, x.tx, x.pr, some (p x.tx).1, some (p x.tx).2) := by show (cM l x.tx).map _ = _; rw [(bT h.ok).2 ⟨hx, rfl⟩]; rfl
  rw [e]; rfl
 obtain ⟨⟨xm1, xm2⟩, hxm⟩ : ∃ m, m = p x.tx := ⟨_, rfl⟩
 rw [← hxm] at hE
 have hA := aE w (.cells #[.int .u8 (x.tx.1 : Int), .int .u32 (x.tx.2.1 : Int), .int .u32 (x.tx.2.2 : Int)] 34)
 have hA2 := aE (w.alloc (.cells #[.int .u8 (x.tx.1 : Int), .int .u32 (x.tx.2.1 : Int), .int .u32 (x.tx.2.2 : Int)] 34)) (.cells (aK k.1) 38)
 have hB2 := hA.trans (hA2.mono hA.size)
 have HXT := aA ((aN w #[.int .u8 (x.tx.1 : Int), .int .u32 (x.tx.2.1 : Int), .int .u32 (x.tx.2.2 : Int)] 34).belowI hA2)
 have HXK : Hid (bZ ((w.alloc (.cells #[.int .u8 (x.tx.1 : Int), .int .u32 (x.tx.2.1 : Int), .int .u32 (x.tx.2.2 : Int)] 34)).alloc (.cells (aK k.1) 38)) (w.heap.size + 1) (aK k.1) 38) := aA (by have := aN (w.alloc (.cells #[.int .u8 (x.tx.1 : Int), .int .u32 (x.tx.2.1 : Int), .int .u32 (x.tx.2.2 : Int)] 34)) (aK k.1) 38; simpa using this)
 obtain ⟨w1, hw1⟩ : ∃ w1, w1 = (w.alloc (.cells #[.int .u8 (x.tx.1 : Int), .int .u32 (x.tx.2.1 : Int), .int .u32 (x.tx.2.2 : Int)] 34)).alloc (.cells (aK k.1) 38) := ⟨_, rfl⟩
 obtain ⟨p1, hp1⟩ : ∃ p1, p1 = w.heap.size := ⟨_, rfl⟩
 obtain ⟨p2, hp2⟩ : ∃ p2, p2 = p1 + 1 := ⟨_, rfl⟩
 rw [← hw1, ← hp1] at HXT
 rw [← hw1, ← hp1, ← hp2] at HXK
 rw [← hw1] at hB2
 have hW1 := hw1.symm
 have hP1 := hp1.symm
 have hP2 := hp2.symm
 have H1 := aA (h.below hB2)
 have HB := aA hB2
 obtain ⟨n, n', _, hm2, _⟩ := H1.out.maps x hx
 rw [← hxm] at hm2
 have h0 : w1.cell? ⟨q, 0, none⟩ = some (.map (some b)) := H1.out.box.cell 0 _ rfl
 obtain ⟨k0, k1, k2⟩ := HXT.out.three
 obtain ⟨x0, x1, x2, x3, x4, x5, x6, x7⟩ := bN HXK.out
 have L1 := (H1.out.m.below (aG w1)).look1 fM ⟨x.tx, hxb⟩
 rw [hE] at L1
 have hf3 := field3_us (x.tm, x.tx, x.pr, some xm1, some xm2)
 have L2 := (eN.look (.inr ⟨_, _, rfl, hm2.below (aG w1)⟩) k : (Instr.lookup 78 (.map (some xm2)) (kyV k.1) false).run Tryz.prog w1.drew = _)
 obtain ⟨R, hR⟩ : ∃ R, R = decide (¬ NF l x k) := ⟨_, rfl⟩
 have HR := aA hR
 rw [← hR]
 clear h hA hA2 hB2 hw1 hp1 hp2 hE hR hm2 hxm
 have HXB := aA hxb
 have HGX := aA (bH H1.out.ok hx)
 obtain ⟨⟨xa, xb, xc⟩, xm, xp, xh, xw⟩ := x
 dsimp only at *
 go_enter Tryz.func75, Tryz.ntmps75
 go_wp2_with fail
 go_region
 have HB2 : Hid (Below w.heap.size w w1.drew) := aA (HB.out.trans ((aG w1).mono HB.out.size))
 have H2 := aA (H1.out.below (aG w1))
 have HXT2 := aA (HXT.out.belowI (aG w1))
 have HXK2 := aA (HXK.out.belowI (aG w1))
 have h02 : w1.drew.cell? ⟨q, 0, none⟩ = some (.map (some b)) := H2.out.box.cell 0 _ rfl
 have HZ1 : Hid (p1 < w1.drew.heap.size ∧ p2 < w1.drew.heap.size) := aA ⟨HXT2.out.lt, HXK2.out.lt⟩
 clear h0 k0 k1 k2 x0 x1 x2 x3 x4 x5 x6 x7 L1 L2 hf3 H1 HB HXT HXK
 generalize w1.drew = w2 at *
 go_wp2_with (at_range; refine kP fM _ rfl _ rfl rfl H2.out.m ?_; intro w3 hrg hb2 hs2)
 go_frame
 obtain ⟨r, hr⟩ : ∃ r, r = w2.heap.size := ⟨_, rfl⟩
 rw [← hr] at hrg ⊢
 have HRG := aA hrg
 have HB3 := aA hb2
 have HRR := aA hr
 clear hrg hb2 hs2 h02 hr
 go_loopw [8] (fun _ wr => ∃ ks : List TxT, Hid (URng wr b r l p ks) ∧ Hid (∀ t ∈ ks, ∀ v ∈ l, v.tx = t.1 → ¬ (v.tx ≠ (xa, xb, xc) ∧ (cI (xw k) (v.h k) ∨ (Old v ⟨(xa, xb, xc), xm, xp, xh, xw⟩ ∧ cI (xw k) (v.w k))))) ∧ Hid (Below w2.heap.size w2 wr)) (fun _ wr => wr.rangeLeft b r)
 case atStart => exact ⟨[], HRG, aA (fun t ht => by cases ht), HB3⟩
 case round =>
  obtain ⟨ks, HG, HZ, HBW⟩ := hrel
  go_wp2_with (at_next; refine gN fM _ rfl _ rfl rfl HG.out ?_ ?_)
  ·intro hdone
   have HF : Hid (R = true) := aA (by
    rw [HR.out, decide_eq_true_eq]
    rintro ⟨u, hu, h1⟩
    obtain ⟨t, ht, e⟩ := gU_none hdone.all H2.out.ok u hu
    exact HZ.out t ht u hu e.symm h1)
   clear hdone
   go_wp2_with fail
   go_ret
   exact ⟨by rw [HF.out]; rfl, HB2.out.trans (HBW.out.mono HB2.out.size)⟩
  ·rintro ⟨t, e, w3, hk, he, hrg3, hlt, hkb, hsz, hen⟩
   dsimp only at hen ⊢
   obtain ⟨u, hu, hut, rfl⟩ := kU H2.out.ok he
   have hbw3 : Below w2.heap.size w2 w3 := HBW.out.trans (hkb.below HBW.out.size (fun j e => by rw [e, HRR.out]; exact Nat.le_refl _))
   obtain ⟨n1, n2, hm1, hm2, _⟩ := (H2.out.below hbw3).maps u hu
   obtain ⟨⟨y1, y2, y3⟩, ht⟩ := t
   dsimp only at *
   rw [hut] at hm1 hm2
   obtain ⟨⟨m1, m2⟩, hmm⟩ : ∃ m, m = p (y1, y2, y3) := ⟨_, rfl⟩
   rw [← hmm] at hen hm1 hm2
   have HN : Hid (∀ v ∈ l, v.tx = (y1, y2, y3) → v = u) := aA (fun v hv e => cR H2.out.ok.rise hv hu (e.trans hut.symm))
   have HGU : Hid (aT l (y1, y2, y3) = u) := aA (by rw [← hut]; exact bH H2.out.ok hu)
   have HUU := aA hu
   obtain ⟨ut, um, up, uh, uw⟩ := u
   dsimp only at *
   subst hut
   have HA5 : Hid (Below w3.heap.size w3 ((w3.alloc (.cells #[.int .u8 (y1 : Int), .int .u32 (y2 : Int), .int .u32 (y3 : Int)] 34)).alloc (.cells #[.int .u32 (um : Int), .int .u8 (y1 : Int), .int .u32 (y2 : Int), .int .u32 (y3 : Int), .bool up, .map (some m1), .map (some m2)] 80))) := aA ((aE _ _).trans ((aE _ _).mono (by simp)))
   have HB5 := aA (hbw3.trans (HA5.out.mono hbw3.size))
   obtain ⟨k0, k1, k2⟩ := (HXT2.out.belowI HB5.out).three
   obtain ⟨x0, x1, x2, x3, x4, x5, x6, x7⟩ := bN (HXK2.out.belowI HB5.out)
   have L1 := (eN.look (.inr ⟨_, _, rfl, hm1.below HA5.out⟩) k : (Instr.lookup 78 (.map (some m1)) (kyV k.1) false).run Tryz.prog ((w3.alloc (.cells #[.int .u8 (y1 : Int), .int .u32 (y2 : Int), .int .u32 (y3 : Int)] 34)).alloc (.cells #[.int .u32 (um : Int), .int .u8 (y1 : Int), .int .u32 (y2 : Int), .int .u32 (y3 : Int), .bool up, .map (some m1), .map (some m2)] 80)) = _)
   have HM2 := aA (hm2.below HA5.out)
   have hg5 := hrg3.below HA5.out
   have HG5 := aA hg5.1
   have HL5 := aA hg5.2
   have HLT := aA hlt
   have HX5 : Hid (bZ ((w3.alloc (.cells #[.int .u8 (y1 : Int), .int .u32 (y2 : Int), .int .u32 (y3 : Int)] 34)).alloc (.cells #[.int .u32 (um : Int), .int .u8 (y1 : Int), .int .u32 (y2 : Int), .int .u32 (y3 : Int), .bool up, .map (some m1), .map (some m2)] 80)) (w3.heap.size + 1) (usA (um, (y1, y2, y3), up, some m1, some m2)) 80) := aA (by have := aN (w3.alloc (.cells #[.int .u8 (y1 : Int), .int .u32 (y2 : Int), .int .u32 (y3 : Int)] 34)) (usA (um, (y1, y2, y3), up, some m1, some m2)) 80; simpa using this)
   clear he hrg3 hkb hsz hbw3 hm1 hm2 hlt hmm hk hg5 hu
   have HST : Hid (¬ (((y1, y2, y3) : TxN) ≠ (xa, xb, xc) ∧ (cI (xw k) (uh k) ∨ (Old (⟨(y1, y2, y3), um, up, uh, uw⟩ : aS KeyT) (⟨(xa, xb, xc), xm, xp, xh, xw⟩ : aS KeyT) ∧ cI (xw k) (uw k)))) → ∀ t ∈ ks ++ [⟨(y1, y2, y3), ht⟩], ∀ v ∈ l, v.tx = t.1 → ¬ (v.tx ≠ (xa, xb, xc) ∧ (cI (xw k) (v.h k) ∨ (Old v ⟨(xa, xb, xc), xm, xp, xh, xw⟩ ∧ cI (xw k) (v.w k))))) := aA (fun hno t' ht' v hv e => by
    rcases List.mem_append.1 ht' with h2 | h2
    ·exact HZ.out t' h2 v hv e
    ·rw [List.mem_singleton] at h2
     subst h2
     rw [HN.out v hv e]
     exact hno)
   have HBAD : Hid (((y1, y2, y3) : TxN) ≠ (xa, xb, xc) ∧ (cI (xw k) (uh k) ∨ (Old (⟨(y1, y2, y3), um, up, uh, uw⟩ : aS KeyT) (⟨(xa, xb, xc), xm, xp, xh, xw⟩ : aS KeyT) ∧ cI (xw k) (uw k))) → R = false) := aA (fun hb => by
    rw [HR.out, decide_eq_false_iff_not]
    exact fun h => h ⟨_, HUU.out, hb⟩)
   obtain ⟨S, hS⟩ : ∃ S, S = fO ((⟨(y1, y2, y3), um, up, uh, uw⟩ : aS KeyT)).ag ((⟨(xa, xb, xc), xm, xp, xh, xw⟩ : aS KeyT)).ag := ⟨_, rfl⟩
   have CB : Hid (∀ W, fJ W q b C p l → Calls Tryz.prog 37 #[.pointer (some ⟨q, 0, none⟩), aV (y1, y2, y3), aV (xa, xb, xc)] W fun e w' => e = .returned (.int .i64 S) ∧ dN W w') := aA (fun W hW => by
    have := byAge15 q b C p l (y1, y2, y3) (xa, xb, xc) W hW ht HXB.out
    rw [HGU.out, HGX.out, ← hS] at this
    exact this)
   have HS : Hid (Old (⟨(y1, y2, y3), um, up, uh, uw⟩ : aS KeyT) (⟨(xa, xb, xc), xm, xp, xh, xw⟩ : aS KeyT) ↔ S < 0) := aA (by rw [hS])
   have HPL := aA (H2.out.below HB5.out)
   have HC8 : Hid (∀ W, Below ((w3.alloc (.cells #[.int .u8 (y1 : Int), .int .u32 (y2 : Int), .int .u32 (y3 : Int)] 34)).alloc (.cells #[.int .u32 (um : Int), .int .u8 (y1 : Int), .int .u32 (y2 : Int), .int .u32 (y3 : Int), .bool up, .map (some m1), .map (some m2)] 80)).heap.size ((w3.alloc (.cells #[.int .u8 (y1 : Int), .int .u32 (y2 : Int), .int .u32 (y3 : Int)] 34)).alloc (.cells #[.int .u32 (um : Int), .int .u8 (y1 : Int), .int .u32 (y2 : Int), .int .u32 (y3 : Int), .bool up, .map (some m1), .map (some m2)] 80)) W → (W.cell? ⟨w3.heap.size + 1, 6, none⟩ = some (.map (some m2)) ∧ W.cell? ⟨p2, 0, none⟩ = some (.int .u8 (aZ k.1 0)) ∧ W.cell? ⟨p2, 1, none⟩ = some (.int .u8 (aZ k.1 1)) ∧ W.cell? ⟨p2, 2, none⟩ = some (.int .u8 (aZ k.1 2)) ∧ W.cell? ⟨p2, 3, none⟩ = some (.int .u8 (aZ k.1 3)) ∧ W.cell? ⟨p2, 4, none⟩ = some (.int .u8 (aZ k.1 4)) ∧ W.cell? ⟨p2, 5, none⟩ = some (.int .u8 (aZ k.1 5)) ∧ W.cell? ⟨p2, 6, none⟩ = some (.int .u8 (aZ k.1 6)) ∧ W.cell? ⟨p2, 7, none⟩ = some (.int .u8 (aZ k.1 7))) ∧ (Instr.lookup 78 (.map (some m2)) (kyV k.1) false).run Tryz.prog W = .ok (.int .u8 ((uw k : Nat) : Int)) W) := aA (fun W hW => ⟨⟨(HX5.out.belowI hW).cell 6 _ rfl, bN ((HXK2.out.belowI HB5.out).belowI hW)⟩, eN.look (.inr ⟨_, _, rfl, HM2.out.below hW⟩) k⟩)
   have HEQ := eql_tx (y1 : Int) (y2 : Int) (y3 : Int) (xa : Int) (xb : Int) (xc : Int)
   obtain ⟨Z, hZ⟩ : ∃ Z, Z = ((y1 : Int) == (xa : Int) && (y2 : Int) == (xb : Int) && (y3 : Int) == (xc : Int)) := ⟨_, rfl⟩
   rw [← hZ] at HEQ
   have HZE : Hid (Z = true ↔ ((y1, y2, y3) : TxN) = (xa, xb, xc)) := aA (by
    rw [hZ]
    simp only [Bool.and_eq_true, beq_iff_eq, Prod.mk.injEq]
    omega)
   clear hS hZ
   cases Z with
   | true =>
    have HZ2 := aA (HST.out (fun h => h.1 (HZE.out.1 rfl)))
    go_wp2_with fail
    go_roundw
    case rel => exact ⟨ks ++ [⟨(y1, y2, y3), ht⟩], HG5, HZ2, HB5⟩
    case measure => rw [HL5.out]; exact HLT.out
   | false =>
    have HNE : Hid (((y1, y2, y3) : TxN) ≠ (xa, xb, xc)) := aA (fun e => by have := HZE.out.2 e; cases this)
    have HA1 : Hid (apB (xw k) (uh k) = true ↔ cI (xw k) (uh k)) := aA decide_eq_true_iff
    have HA2 : Hid (apB (xw k) (uw k) = true ↔ cI (xw k) (uw k)) := aA decide_eq_true_iff
    cases a1 : apB (xw k) (uh k) with
    | true =>
     have HF := aA (HBAD.out ⟨HNE.out, .inl (HA1.out.1 a1)⟩)
     go_wp2_with (go_at_call 71; refine (apartB _ _ _).mono ?_; rintro e w' ⟨rfl, rfl⟩)
     go_ret
     have hfin := HB2.out.trans (HB5.out.mono HB2.out.size)
     exact ⟨by rw [HF.out]; rfl, hfin⟩
    | false =>
     have HN1 : Hid (¬ cI (xw k) (uh k)) := aA (fun h => by have := HA1.out.2 h; rw [a1] at this; cases this)
     by_cases hS : S < 0
     case neg =>
      have HZ2 := aA (HST.out (fun h => h.2.elim HN1.out (fun h => hS (HS.out.1 h.1))))
      go_wp2_with (first | (go_at_call 71; refine (apartB _ _ _).mono ?_; rintro e w' ⟨rfl, rfl⟩) | (go_at_call 37; refine (CB.out _ HPL.out).mono ?_; rintro e w8 ⟨rfl, hG⟩; have HB8 := aA hG.below; have hc8 := HC8.out w8 hG.below; obtain ⟨⟨hc6, c0, c1, c2, c3, c4, c5, c6, c7⟩, L8⟩ := hc8; clear hG))
      have HGZ := aA (HG5.out.below HB8.out)
      go_roundw
      case rel => exact ⟨ks ++ [⟨(y1, y2, y3), ht⟩], aA HGZ.out.1, HZ2, aA (HB5.out.trans (HB8.out.mono HB5.out.size))⟩
      case measure => rw [HGZ.out.2, HL5.out]; exact HLT.out
     case pos =>
     cases a2 : apB (xw k) (uw k) with
     | false =>
      have HZ2 := aA (HST.out (fun h => h.2.elim HN1.out (fun h => by have := HA2.out.2 h.2; rw [a2] at this; cases this)))
      go_wp2_with (first | (go_at_call 71; refine (apartB _ _ _).mono ?_; rintro e w' ⟨rfl, rfl⟩) | (go_at_call 37; refine (CB.out _ HPL.out).mono ?_; rintro e w8 ⟨rfl, hG⟩; have HB8 := aA hG.below; have hc8 := HC8.out w8 hG.below; obtain ⟨⟨hc6, c0, c1, c2, c3, c4, c5, c6, c7⟩, L8⟩ := hc8; clear hG))
      have HGZ := aA (HG5.out.below HB8.out)
      go_roundw
      case rel => exact ⟨ks ++ [⟨(y1, y2, y3), ht⟩], aA HGZ.out.1, HZ2, aA (HB5.out.trans (HB8.out.mono HB5.out.size))⟩
      case measure => rw [HGZ.out.2, HL5.out]; exact HLT.out
     | true =>
      have HF := aA (HBAD.out ⟨HNE.out, .inr ⟨HS.out.2 hS, HA2.out.1 a2⟩⟩)
      go_wp2_with (first | (go_at_call 71; refine (apartB _ _ _).mono ?_; rintro e w' ⟨rfl, rfl⟩) | (go_at_call 37; refine (CB.out _ HPL.out).mono ?_; rintro e w8 ⟨rfl, hG⟩; have HB8 := aA hG.below; have hc8 := HC8.out w8 hG.below; obtain ⟨⟨hc6, c0, c1, c2, c3, c4, c5, c6, c7⟩, L8⟩ := hc8; clear hG))
      go_ret
      have hfin := HB2.out.trans ((HB5.out.trans (HB8.out.mono HB5.out.size)).mono HB2.out.size)
      exact ⟨by rw [HF.out]; rfl, hfin⟩
end
section
open Go.RowKit Go.Maps Classical
def whoP (P : TxN → Bool) (ks : List TxT) : List TxN := (ks.map (·.1)).filter P
theorem whoP_app (P : TxN → Bool) (ks : List TxT) (t : TxT) : whoP P (ks ++ [t]) = whoP P ks ++ (if P t.1 then [t.1] else []) := by
 unfold whoP
 rw [List.map_append, List.filter_append]
 congr 1
 by_cases h : P t.1
 ·simp [h]
 ·simp [h]
theorem whoP_nodup {P : TxN → Bool} {ks : List TxT} (h : ks.Nodup) : (whoP P ks).Nodup := by
 unfold whoP
 rw [List.nodup_iff_pairwise_ne]
 refine List.Pairwise.filter _ ?_
 rw [List.pairwise_map]
 exact (List.nodup_iff_pairwise_ne.1 h).imp (fun {a b} hab e => hab (Subtype.ext e))
def wayP (l : List (aS KeyT)) (x : aS KeyT) (k : KeyT) (t : TxN) : Bool := decide ((aT l t).pr = false ∧ Old x (aT l t) ∧ cI (x.w k) ((aT l t).h k))
theorem wndU_old {l : List (aS KeyT)} (h : dD l) (t : TxN) (k : KeyT) : (dX l t k).Pairwise (dI l) := iP h _
theorem wndU_nd {l : List (aS KeyT)} (hb : dD l) (t : TxN) (k : KeyT) : (dX l t k).Nodup := (wndU_old hb t k).imp fun {x y} hxy e => by subst e; exact hxy.asymm hxy
theorem whoP_all {l : List (aS KeyT)} (hb : dD l) {x : aS KeyT} {k : KeyT} {ks : List TxT} (hall : ∀ u ∈ l, ∃ t ∈ ks, t.1 = u.tx) (hwas : ∀ t ∈ ks, ∃ u ∈ l, u.tx = t.1) (t : TxN) : t ∈ whoP (wayP l x k) ks ↔ ∃ y ∈ l, (y.pr = false ∧ Old x y ∧ cI (x.w k) (y.h k)) ∧ y.tx = t := by
 unfold whoP
 rw [List.mem_filter]
 constructor
 ·rintro ⟨h1, h2⟩
  obtain ⟨t', ht', rfl⟩ := List.mem_map.1 h1
  obtain ⟨u, hu, e⟩ := hwas t' ht'
  rw [← e] at h2 ⊢
  unfold wayP at h2
  rw [bH hb hu] at h2
  exact ⟨u, hu, of_decide_eq_true h2, rfl⟩
 ·rintro ⟨u, hu, hw, rfl⟩
  obtain ⟨t', ht', e⟩ := hall u hu
  refine ⟨List.mem_map.2 ⟨t', ht', e⟩, ?_⟩
  unfold wayP
  rw [bH hb hu]
  exact decide_eq_true hw
set_option maxHeartbeats 3200000 in
theorem lkWay_any (N : Nat) (HS : SortB N) (q b C : Nat) (p : TxN → Nat × Nat) (l : List (aS KeyT)) (x : aS KeyT) (hx : x ∈ l) (k : KeyT) (w : World) (h : fJ w q b C p l) (hN : (dX l x.tx k).length ≤ N) :
  Calls Tryz.prog 44 #[.pointer (some ⟨q, 0, none⟩), aV x.tx, .agg (aK k.1)] w fun e w' => ∃ v, e = .returned v ∧ w'.ownsRow w.heap.size 34 3 v (dX l x.tx k).length (bR txCs ((dX l x.tx k).map txI)) ∧ Below w.heap.size w w' := by
 have HNN := aA hN
 have HSS := aA HS
 have HFL := aA (fun g hg => h.flt (k := g) hg)
 have HOK := aA h.ok
 clear hN HS
 have hxb : kJ x.tx := (h.ok.oks x hx).1
 have hE : (gU l p ⟨x.tx, hxb⟩).getD zE = (x.tm, x.tx, x.pr, some (p x.tx).1, some (p x.tx).2) := by
  have e : gU l p ⟨x.tx, hxb⟩ = some (x.tm, x.tx, x.pr, some (p x.tx).1, some (p x.tx).2) := by show (cM l x.tx).map _ = _; rw [(bT h.ok).2 ⟨hx, rfl⟩]; rfl
  rw [e]; rfl
 obtain ⟨⟨xm1, xm2⟩, hxm⟩ : ∃ m, m = p x.tx := ⟨_, rfl⟩
 rw [← hxm] at hE
 have hA := aE w (.cells #[.int .u8 (x.tx.1 : Int), .int .u32 (x.tx.2.1 : Int), .int .u32 (x.tx.2.2 : Int)] 34)
 have hA2 := aE (w.alloc (.cells #[.int .u8 (x.tx.1 : Int), .int .u32 (x.tx.2.1 : Int), .int .u32 (x.tx.2.2 : Int)] 34)) (.cells (aK k.1) 38)
 have hB2 := hA.trans (hA2.mono hA.size)
 have HXT := aA ((aN w #[.int .u8 (x.tx.1 : Int), .int .u32 (x.tx.2.1 : Int), .int .u32 (x.tx.2.2 : Int)] 34).belowI hA2)
 have HXK : Hid (bZ ((w.alloc (.cells #[.int .u8 (x.tx.1 : Int), .int .u32 (x.tx.2.1 : Int), .int .u32 (x.tx.2.2 : Int)] 34)).alloc (.cells (aK k.1) 38)) (w.heap.size + 1) (aK k.1) 38) := aA (by have := aN (w.alloc (.cells #[.int .u8 (x.tx.1 : Int), .int .u32 (x.tx.2.1 : Int), .int .u32 (x.tx.2.2 : Int)] 34)) (aK k.1) 38; simpa using this)
 obtain ⟨w1, hw1⟩ : ∃ w1, w1 = (w.alloc (.cells #[.int .u8 (x.tx.1 : Int), .int .u32 (x.tx.2.1 : Int), .int .u32 (x.tx.2.2 : Int)] 34)).alloc (.cells (aK k.1) 38) := ⟨_, rfl⟩
 obtain ⟨p1, hp1⟩ : ∃ p1, p1 = w.heap.size := ⟨_, rfl⟩
 obtain ⟨p2, hp2⟩ : ∃ p2, p2 = p1 + 1 := ⟨_, rfl⟩
 rw [← hw1, ← hp1] at HXT
 rw [← hw1, ← hp1, ← hp2] at HXK
 rw [← hw1] at hB2
 have hW1 := hw1.symm
 have hP1 := hp1.symm
 have hP2 := hp2.symm
 have H1 := aA (h.below hB2)
 have HB := aA hB2
 obtain ⟨n, n', _, hm2, _⟩ := H1.out.maps x hx
 rw [← hxm] at hm2
 have h0 : w1.cell? ⟨q, 0, none⟩ = some (.map (some b)) := H1.out.box.cell 0 _ rfl
 obtain ⟨k0, k1, k2⟩ := HXT.out.three
 obtain ⟨x0, x1, x2, x3, x4, x5, x6, x7⟩ := bN HXK.out
 have L1 := (H1.out.m.below (aG w1)).look1 fM ⟨x.tx, hxb⟩
 rw [hE] at L1
 have hf3 := field3_us (x.tm, x.tx, x.pr, some xm1, some xm2)
 have L2 := (eN.look (.inr ⟨_, _, rfl, hm2.below (aG w1)⟩) k : (Instr.lookup 78 (.map (some xm2)) (kyV k.1) false).run Tryz.prog w1.drew = _)
 clear h hA hA2 hB2 hw1 hp1 hp2 hE hm2 hxm
 have HXB := aA hxb
 have HGX := aA (bH H1.out.ok hx)
 obtain ⟨⟨xa, xb, xc⟩, xm, xp, xh, xw⟩ := x
 dsimp only at *
 go_enter Tryz.func44, Tryz.ntmps44
 go_wp2_with fail
 go_region
 have HB2 : Hid (Below w.heap.size w w1.drew) := aA (HB.out.trans ((aG w1).mono HB.out.size))
 have H2 := aA (H1.out.below (aG w1))
 have HXT2 := aA (HXT.out.belowI (aG w1))
 have HXK2 := aA (HXK.out.belowI (aG w1))
 have h02 : w1.drew.cell? ⟨q, 0, none⟩ = some (.map (some b)) := H2.out.box.cell 0 _ rfl
 have HZ1 : Hid (p1 < w1.drew.heap.size ∧ p2 < w1.drew.heap.size) := aA ⟨HXT2.out.lt, HXK2.out.lt⟩
 clear h0 k0 k1 k2 x0 x1 x2 x3 x4 x5 x6 x7 L1 L2 hf3 H1 HB HXT HXK
 generalize w1.drew = w2 at *
 go_wp2_with (at_range; refine kP fM _ rfl _ rfl rfl H2.out.m ?_; intro w3 hrg hb2 hs2)
 go_frame
 obtain ⟨r, hr⟩ : ∃ r, r = w2.heap.size := ⟨_, rfl⟩
 rw [← hr] at hrg ⊢
 have HRG := aA hrg
 have HB3 := aA hb2
 have HRR := aA hr
 have HSZ : Hid (w.heap.size ≤ w2.heap.size) := aA HB2.out.size
 have HWM : Hid (∀ t, t ∈ dX l (xa, xb, xc) k ↔ ∃ y ∈ l, (y.pr = false ∧ Old (⟨(xa, xb, xc), xm, xp, xh, xw⟩ : aS KeyT) y ∧ cI (xw k) (y.h k)) ∧ y.tx = t) := aA (fun t => by rw [jA, HGX.out])
 clear hrg hb2 hs2 h02 hr
 go_loopw [8] (fun y wr => ∃ (ks : List TxT) (ss : List TxN) (ax : Option Addr) (cx : Nat), y = .slice ax ss.length cx ∧ Hid (ss = whoP (wayP l (⟨(xa, xb, xc), xm, xp, xh, xw⟩ : aS KeyT) k) ks) ∧ Hid (URng wr b r l p ks) ∧ Hid (wr.ownsRow w2.heap.size 34 3 (.slice ax ss.length cx) ss.length (bR txCs (ss.map txI))) ∧ Hid (Below w2.heap.size w2 wr)) (fun _ wr => wr.rangeLeft b r)
 case atStart => exact ⟨[], [], none, 0, rfl, aA rfl, HRG, aA (World.ownsRow_nil _ _ _ _), HB3⟩
 case round =>
  obtain ⟨ks, ss, ax, cx, rfl, HSE, HG, HO, HBW⟩ := hrel
  go_wp2_with (at_next; refine gN fM _ rfl _ rfl rfl HG.out ?_ ?_)
  ·intro hdone
   have HKW : Hid (∀ t ∈ ks, ∃ u ∈ l, u.tx = t.1) := aA (fun t' ht' => by
    obtain ⟨e', he'⟩ := Option.isSome_iff_exists.1 (HG.out.was t' ht')
    obtain ⟨u', hu', ht2, _⟩ := kU HOK.out he'
    exact ⟨u', hu', ht2⟩)
   have HIF : Hid (∀ t, t ∈ ss ↔ t ∈ dX l (xa, xb, xc) k) := aA (fun t => by
    rw [HSE.out, HWM.out t]
    exact whoP_all HOK.out (gU_none hdone.all HOK.out) HKW.out t)
   have HND : Hid ss.Nodup := aA (by rw [HSE.out]; exact whoP_nodup HG.out.nodup)
   have HLE : Hid (ss.length ≤ N) := aA (by
    have e : ss.length = (dX l (xa, xb, xc) k).length := ((List.perm_ext_iff_of_nodup HND.out (wndU_nd HOK.out _ k)).2 HIF.out).length_eq
    rw [e]; exact HNN.out)
   have CS := aA (HSS.out wr q b C p l w2.heap.size (.slice ax ss.length cx) ss (H2.out.below HBW.out) HO.out (fun t ht => by
    obtain ⟨u, hu, _, e⟩ := (HWM.out t).1 ((HIF.out t).1 ht)
    exact ⟨u, hu, e⟩) HND.out HLE.out (fun g hg hF => by
    have h1 := (HO.out.lt g hg).1
    have h2 := HFL.out g hF
    have h3 := HB2.out.size
    omega))
   have HLTG : Hid (∀ j, (Value.slice ax ss.length cx).ownBlock = some j → w2.heap.size ≤ j) := aA (fun j hj => (HO.out.lt j hj).1)
   clear hdone
   go_wp2_with (go_at_call 36; refine CS.out.mono ?_; rintro e w6 ⟨rfl, ss', hm6, hp6, ho6, hk6⟩; have HQE : Hid (ss' = dX l (xa, xb, xc) k) := aA (iQ hp6 (wndU_old HOK.out _ k) (fun t => (hm6 t).trans (HIF.out t))); have HO6 := aA ho6; have HB6 := aA (HBW.out.trans (hk6.below HBW.out.size HLTG.out)); clear hm6 hp6 ho6 hk6)
   go_ret
   have hfin := HO6.out
   have hlen : ss'.length = (dX l (xa, xb, xc) k).length := by rw [HQE.out]
   rw [hlen] at hfin
   rw [HQE.out] at hfin
   exact ⟨_, rfl, dO hfin HSZ.out, HB2.out.trans (HB6.out.mono HB2.out.size)⟩
  ·rintro ⟨t, e, w3, hk, he, hrg3, hlt, hkb, hsz, hen⟩
   dsimp only at hen ⊢
   obtain ⟨u, hu, hut, rfl⟩ := kU H2.out.ok he
   have hbw3 : Below w2.heap.size w2 w3 := HBW.out.trans (hkb.below HBW.out.size (fun j e => by rw [e, HRR.out]; exact Nat.le_refl _))
   have HNR0 : Hid (∀ g, (Value.slice ax ss.length cx).ownBlock = some g → g ≠ r) := aA (fun g e e2 => by
    obtain ⟨_, ⟨h1, _⟩ | ⟨g', cap, cur, h1, _, hb, _⟩⟩ := HO.out
    ·rw [h1] at e; cases e
    ·rw [h1] at e
     cases e
     obtain ⟨R0, D0, lf, ct, n0, _, ⟨es, clock, since, seen, c0, _, _, _, _, hr0, _⟩, _⟩ := HG.out.own
     subst e2
     rw [hb] at hr0
     cases hr0)
   have HO3 := aA (aJ HO.out hkb HNR0.out)
   have HB33 := aA hbw3
   have HKL := aA (ks_le (l := l) hrg3.nodup (fun t' ht' => by
    obtain ⟨e', he'⟩ := Option.isSome_iff_exists.1 (hrg3.was t' ht')
    obtain ⟨u', hu', ht2, _⟩ := kU HOK.out he'
    exact ⟨u', hu', ht2⟩))
   obtain ⟨n1, n2, hm1, hm2, _⟩ := (H2.out.below hbw3).maps u hu
   obtain ⟨⟨y1, y2, y3⟩, ht⟩ := t
   dsimp only at *
   rw [hut] at hm1 hm2
   obtain ⟨⟨m1, m2⟩, hmm⟩ : ∃ m, m = p (y1, y2, y3) := ⟨_, rfl⟩
   rw [← hmm] at hen hm1 hm2
   have HN : Hid (∀ v ∈ l, v.tx = (y1, y2, y3) → v = u) := aA (fun v hv e => cR H2.out.ok.rise hv hu (e.trans hut.symm))
   have HGU : Hid (aT l (y1, y2, y3) = u) := aA (by rw [← hut]; exact bH H2.out.ok hu)
   have HUU := aA hu
   obtain ⟨ut, um, up, uh, uw⟩ := u
   dsimp only at *
   subst hut
   have HA5 : Hid (Below w3.heap.size w3 ((w3.alloc (.cells #[.int .u8 (y1 : Int), .int .u32 (y2 : Int), .int .u32 (y3 : Int)] 34)).alloc (.cells #[.int .u32 (um : Int), .int .u8 (y1 : Int), .int .u32 (y2 : Int), .int .u32 (y3 : Int), .bool up, .map (some m1), .map (some m2)] 80))) := aA ((aE _ _).trans ((aE _ _).mono (by simp)))
   have HB5 := aA (hbw3.trans (HA5.out.mono hbw3.size))
   obtain ⟨k0, k1, k2⟩ := (HXT2.out.belowI HB5.out).three
   obtain ⟨x0, x1, x2, x3, x4, x5, x6, x7⟩ := bN (HXK2.out.belowI HB5.out)
   have HM1 := aA (hm1.below HA5.out)
   have hg5 := hrg3.below HA5.out
   have HG5 := aA hg5.1
   have HL5 := aA hg5.2
   have HLT := aA hlt
   have HX5 : Hid (bZ ((w3.alloc (.cells #[.int .u8 (y1 : Int), .int .u32 (y2 : Int), .int .u32 (y3 : Int)] 34)).alloc (.cells #[.int .u32 (um : Int), .int .u8 (y1 : Int), .int .u32 (y2 : Int), .int .u32 (y3 : Int), .bool up, .map (some m1), .map (some m2)] 80)) (w3.heap.size + 1) (usA (um, (y1, y2, y3), up, some m1, some m2)) 80) := aA (by have := aN (w3.alloc (.cells #[.int .u8 (y1 : Int), .int .u32 (y2 : Int), .int .u32 (y3 : Int)] 34)) (usA (um, (y1, y2, y3), up, some m1, some m2)) 80; simpa using this)
   clear he hrg3 hkb hsz hbw3 hm1 hm2 hlt hmm hk hg5 hu
   have HO5 := aA (aJ HO3.out (aC.of_below (fun _ => False) HA5.out) (fun _ _ h => h))
   have HX6 : Hid (bZ ((w3.alloc (.cells #[.int .u8 (y1 : Int), .int .u32 (y2 : Int), .int .u32 (y3 : Int)] 34)).alloc (.cells #[.int .u32 (um : Int), .int .u8 (y1 : Int), .int .u32 (y2 : Int), .int .u32 (y3 : Int), .bool up, .map (some m1), .map (some m2)] 80)) w3.heap.size #[.int .u8 (y1 : Int), .int .u32 (y2 : Int), .int .u32 (y3 : Int)] 34) := aA ((aN w3 _ _).belowI (aE _ _))
   have HWP : Hid (wayP l (⟨(xa, xb, xc), xm, xp, xh, xw⟩ : aS KeyT) k (y1, y2, y3) = decide (up = false ∧ Old (⟨(xa, xb, xc), xm, xp, xh, xw⟩ : aS KeyT) (⟨(y1, y2, y3), um, up, uh, uw⟩ : aS KeyT) ∧ cI (xw k) (uh k))) := aA (by unfold wayP; rw [HGU.out])
   have HNO : Hid (¬ (up = false ∧ Old (⟨(xa, xb, xc), xm, xp, xh, xw⟩ : aS KeyT) (⟨(y1, y2, y3), um, up, uh, uw⟩ : aS KeyT) ∧ cI (xw k) (uh k)) → ss = whoP (wayP l (⟨(xa, xb, xc), xm, xp, xh, xw⟩ : aS KeyT) k) (ks ++ [⟨(y1, y2, y3), ht⟩])) := aA (fun h => by rw [whoP_app, HWP.out, decide_eq_false h]; simpa using HSE.out)
   have HYES : Hid ((up = false ∧ Old (⟨(xa, xb, xc), xm, xp, xh, xw⟩ : aS KeyT) (⟨(y1, y2, y3), um, up, uh, uw⟩ : aS KeyT) ∧ cI (xw k) (uh k)) → ss ++ [(y1, y2, y3)] = whoP (wayP l (⟨(xa, xb, xc), xm, xp, xh, xw⟩ : aS KeyT) k) (ks ++ [⟨(y1, y2, y3), ht⟩])) := aA (fun h => by rw [whoP_app, HWP.out, decide_eq_true h, ← HSE.out]; rfl)
   obtain ⟨S, hS⟩ : ∃ S, S = fO ((⟨(xa, xb, xc), xm, xp, xh, xw⟩ : aS KeyT)).ag ((⟨(y1, y2, y3), um, up, uh, uw⟩ : aS KeyT)).ag := ⟨_, rfl⟩
   have CB : Hid (∀ W, fJ W q b C p l → Calls Tryz.prog 37 #[.pointer (some ⟨q, 0, none⟩), aV (xa, xb, xc), aV (y1, y2, y3)] W fun e w' => e = .returned (.int .i64 S) ∧ dN W w') := aA (fun W hW => by
    have := byAge15 q b C p l (xa, xb, xc) (y1, y2, y3) W hW HXB.out ht
    rw [HGU.out, HGX.out, ← hS] at this
    exact this)
   have HS : Hid (Old (⟨(xa, xb, xc), xm, xp, xh, xw⟩ : aS KeyT) (⟨(y1, y2, y3), um, up, uh, uw⟩ : aS KeyT) ↔ S < 0) := aA (by rw [hS])
   have HPL := aA (H2.out.below HB5.out)
   have HC8 : Hid (∀ W, Below ((w3.alloc (.cells #[.int .u8 (y1 : Int), .int .u32 (y2 : Int), .int .u32 (y3 : Int)] 34)).alloc (.cells #[.int .u32 (um : Int), .int .u8 (y1 : Int), .int .u32 (y2 : Int), .int .u32 (y3 : Int), .bool up, .map (some m1), .map (some m2)] 80)).heap.size ((w3.alloc (.cells #[.int .u8 (y1 : Int), .int .u32 (y2 : Int), .int .u32 (y3 : Int)] 34)).alloc (.cells #[.int .u32 (um : Int), .int .u8 (y1 : Int), .int .u32 (y2 : Int), .int .u32 (y3 : Int), .bool up, .map (some m1), .map (some m2)] 80)) W → (W.cell? ⟨w3.heap.size + 1, 5, none⟩ = some (.map (some m1)) ∧ W.cell? ⟨p2, 0, none⟩ = some (.int .u8 (aZ k.1 0)) ∧ W.cell? ⟨p2, 1, none⟩ = some (.int .u8 (aZ k.1 1)) ∧ W.cell? ⟨p2, 2, none⟩ = some (.int .u8 (aZ k.1 2)) ∧ W.cell? ⟨p2, 3, none⟩ = some (.int .u8 (aZ k.1 3)) ∧ W.cell? ⟨p2, 4, none⟩ = some (.int .u8 (aZ k.1 4)) ∧ W.cell? ⟨p2, 5, none⟩ = some (.int .u8 (aZ k.1 5)) ∧ W.cell? ⟨p2, 6, none⟩ = some (.int .u8 (aZ k.1 6)) ∧ W.cell? ⟨p2, 7, none⟩ = some (.int .u8 (aZ k.1 7))) ∧ (Instr.lookup 78 (.map (some m1)) (kyV k.1) false).run Tryz.prog W = .ok (.int .u8 ((uh k : Nat) : Int)) W) := aA (fun W hW => ⟨⟨(HX5.out.belowI hW).cell 5 _ rfl, bN ((HXK2.out.belowI HB5.out).belowI hW)⟩, eN.look (.inr ⟨_, _, rfl, HM1.out.below hW⟩) k⟩)
   have HC9 : Hid (∀ W, Below ((w3.alloc (.cells #[.int .u8 (y1 : Int), .int .u32 (y2 : Int), .int .u32 (y3 : Int)] 34)).alloc (.cells #[.int .u32 (um : Int), .int .u8 (y1 : Int), .int .u32 (y2 : Int), .int .u32 (y3 : Int), .bool up, .map (some m1), .map (some m2)] 80)).heap.size ((w3.alloc (.cells #[.int .u8 (y1 : Int), .int .u32 (y2 : Int), .int .u32 (y3 : Int)] 34)).alloc (.cells #[.int .u32 (um : Int), .int .u8 (y1 : Int), .int .u32 (y2 : Int), .int .u32 (y3 : Int), .bool up, .map (some m1), .map (some m2)] 80)) W → _) := aA (fun W hW => (HX6.out.belowI hW).three)
   clear hS
   cases up with
   | true =>
    have HS2 := aA (HNO.out (fun h => by cases h.1))
    go_wp2_with fail
    go_roundw
    case rel => exact ⟨ks ++ [⟨(y1, y2, y3), ht⟩], ss, ax, cx, rfl, HS2, HG5, HO5, HB5⟩
    case measure => rw [HL5.out]; exact HLT.out
   | false =>
    by_cases hS : S < 0
    case neg =>
     have HS2 := aA (HNO.out (fun h => hS (HS.out.1 h.2.1)))
     go_wp2_with (first | (go_at_call 71; refine (apartB _ _ _).mono ?_; rintro e w' ⟨rfl, rfl⟩) | (go_at_call 37; refine (CB.out _ HPL.out).mono ?_; rintro e w8 ⟨rfl, hG⟩; have HB8 := aA hG.below; have hc8 := HC8.out w8 hG.below; obtain ⟨⟨hc6, c0, c1, c2, c3, c4, c5, c6, c7⟩, L8⟩ := hc8; obtain ⟨t0, t1, t2⟩ := HC9.out w8 hG.below; clear hG))
     have HGZ := aA (HG5.out.below HB8.out)
     have HOZ := aA (aJ HO5.out (aC.of_below (fun _ => False) HB8.out) (fun _ _ h => h))
     go_roundw
     case rel => exact ⟨ks ++ [⟨(y1, y2, y3), ht⟩], ss, ax, cx, rfl, HS2, aA HGZ.out.1, HOZ, aA (HB5.out.trans (HB8.out.mono HB5.out.size))⟩
     case measure => rw [HGZ.out.2, HL5.out]; exact HLT.out
    case pos =>
    have HA1 : Hid (apB (xw k) (uh k) = true ↔ cI (xw k) (uh k)) := aA decide_eq_true_iff
    cases a1 : apB (xw k) (uh k) with
    | false =>
     have HS2 := aA (HNO.out (fun h => by have := HA1.out.2 h.2.2; rw [a1] at this; cases this))
     go_wp2_with (first | (go_at_call 71; refine (apartB _ _ _).mono ?_; rintro e w' ⟨rfl, rfl⟩) | (go_at_call 37; refine (CB.out _ HPL.out).mono ?_; rintro e w8 ⟨rfl, hG⟩; have HB8 := aA hG.below; have hc8 := HC8.out w8 hG.below; obtain ⟨⟨hc6, c0, c1, c2, c3, c4, c5, c6, c7⟩, L8⟩ := hc8; obtain ⟨t0, t1, t2⟩ := HC9.out w8 hG.below; clear hG))
     have HGZ := aA (HG5.out.below HB8.out)
     have HOZ := aA (aJ HO5.out (aC.of_below (fun _ => False) HB8.out) (fun _ _ h => h))
     go_roundw
     case rel => exact ⟨ks ++ [⟨(y1, y2, y3), ht⟩], ss, ax, cx, rfl, HS2, aA HGZ.out.1, HOZ, aA (HB5.out.trans (HB8.out.mono HB5.out.size))⟩
     case measure => rw [HGZ.out.2, HL5.out]; exact HLT.out
    | true =>
     have HS2 := aA (HYES.out ⟨rfl, HS.out.2 hS, HA1.out.1 a1⟩)
     have HTL : Hid ((ss.map txI).length = ss.length) := aA (by rw [List.length_map])
     have HTN : Hid ((ss ++ [(y1, y2, y3)]).length = ss.length + 1) := aA (by rw [List.length_append]; rfl)
     have HTM : Hid (ss.map txI ++ [txI (y1, y2, y3)] = (ss ++ [(y1, y2, y3)]).map txI) := aA (by rw [List.map_append]; rfl)
     have HSL : Hid (ss.length + 1 ≤ 1000000) := aA (by
      have h1 : ss.length ≤ ks.length := by rw [HSE.out]; unfold whoP; exact Nat.le_trans (List.length_filter_le _ _) (by rw [List.length_map]; exact Nat.le_refl _)
      have h2 := HKL.out
      rw [List.length_append] at h2
      have h3 := HOK.out.few
      omega)
     have HNR : Hid (∀ g, (Value.slice ax ss.length cx).ownBlock = some g → g ≠ r ∧ g ≠ b) := aA (fun g hg => ⟨HNR0.out g hg, fun e => by
      have h1 := (HO.out.lt g hg).1
      have h2 := H2.out.m.lt
      omega⟩)
     go_wp2_with (first | (at_builtin; refine dS recTX15 _ rfl _ _ rfl w2.heap.size (.slice ax ss.length cx) (.slice (some ⟨w8.heap.size, 0, none⟩) 1 1) (ss.map txI) [txI (y1, y2, y3)] rfl ?_ rfl HSRC.out ?_ ?_ HBS.out ?_) | (go_at_call 71; refine (apartB _ _ _).mono ?_; rintro e w' ⟨rfl, hw'⟩; rw [hw']; clear hw' w') | (go_at_call 37; refine (CB.out _ HPL.out).mono ?_; rintro e w8 ⟨rfl, hG⟩; have HB8 := aA hG.below; have hc8 := HC8.out w8 hG.below; obtain ⟨⟨hc6, c0, c1, c2, c3, c4, c5, c6, c7⟩, L8⟩ := hc8; obtain ⟨t0, t1, t2⟩ := HC9.out w8 hG.below; have HA9 := aA (HB8.out.trans ((aE w8 (.cells #[.int .u8 (y1 : Int), .int .u32 (y2 : Int), .int .u32 (y3 : Int)] 34)).mono HB8.out.size)); have HSRC := aA (dK (enc := txCs) w8 (txI (y1, y2, y3)) _ (txCs_arr15 (y1, y2, y3)) 34); have HO9 := aA (aJ HO5.out (aC.of_below (fun _ => False) HA9.out) (fun _ _ h => h)); have HB9 := aA (HB5.out.trans (HA9.out.mono HB5.out.size)); have HBS := aA HB9.out.size; have HG9 := aA (HG5.out.below HA9.out); clear hG))
     ·rw [HTL.out]; exact HO9.out
     ·exact (fun z hz => by simp at hz; subst hz; exact tx_one15 _)
     ·rw [HTL.out]; exact HSL.out
     intro v4 w4 ho4 hg4 _
     rw [HTM.out] at ho4
     obtain ⟨a4, c4, hv4, _⟩ := aQ ho4
     subst hv4
     have HB4 : Hid (Below w2.heap.size w2 w4) := aA (HB9.out.grown hg4 HBS.out (fun j hj => (HO9.out.lt j hj).1))
     have HG4 := aA (HG9.out.1.keep (kept15 hg4) (fun e => (HNR.out _ e).2 rfl) (fun e => (HNR.out _ e).1 rfl))
     have HO4 := aA ho4
     clear ho4 hg4
     go_wp2_with fail
     go_roundw
     case rel => exact ⟨ks ++ [⟨(y1, y2, y3), ht⟩], ss ++ [(y1, y2, y3)], a4, c4, by rw [HTN.out], HS2, aA HG4.out.1, aA (by rw [HTN.out]; exact HO4.out), HB4⟩
     case measure => rw [HG4.out.2, HG9.out.2, HL5.out]; exact HLT.out
end
section
open Go.RowKit Go.Maps Classical
section
variable {K E : Type} {mt kt et : TypeId} {kV : K → Value} {kL : K → Lit} {eV : E → Value} {z : E} {w : World} {b n : Nat} {g : K → Option E}
theorem run_range_g (T : jN mt kt et kV kL eV z) (h : eT kt kL eV w b g n) : ∃ w', (Instr.range mt (.map (some b))).run Tryz.prog w = .ok (.pointer (some ⟨w.heap.size, 0, none⟩)) w' ∧ jB kt kL eV w' b w.heap.size g g [] ∧ Below w.heap.size w w' ∧ w'.rangeLeft b w.heap.size = n := by
 obtain ⟨R, D, hR, ho, hs, hh, ha⟩ := h.own
 obtain ⟨w', hrun, h1, h2, h3⟩ := ho.range T.keyed T.und
 exact ⟨w', hrun, ⟨⟨R, D, Maps.has D, Maps.size D, _, hR, h1, hh, ha, fun k => by rw [hh k]; simp⟩, List.nodup_nil, (fun k hk => by cases hk), fun k _ => rfl⟩, ⟨h2.os, h2.tape, h2.output, h2.size, fun k hk => h2.block k hk (by simp)⟩, by rw [h1.left_eq, hs]⟩
end
theorem eU : Rec 39 38 8 kyCs := ⟨Tryz.underlying39, jC (z := .agg (aK [0, 0, 0, 0, 0, 0, 0, 0])) (K := 8) (B := 8) (by kernel_rfl) rfl (by decide), by decide, fun _ => rfl⟩
abbrev KRng (w : World) (b r : Nat) (f : KeyT → Nat) (ks : List KeyT) : Prop := jB 38 (fun k : KeyT => eD k.1) u8V w b r (gM f) (gM f) ks
theorem keys15 {w : World} {b r : Nat} {f : KeyT → Nat} {ks : List KeyT} (h : KRng w b r f ks) (hd : GEnd (gM f) ks) (k : KeyT) : k ∈ ks ↔ f k ≠ 0 := by
 constructor
 ·intro hk e
  have := h.was k hk
  simp [gM, e] at this
 ·intro hf
  by_cases hk : k ∈ ks
  ·exact hk
  ·have := hd.all k hk
   simp [gM, hf] at this
theorem drop_len : ∀ {l : List (aS KeyT)} (_ : l.Pairwise fun a b => jZ a.tx b.tx < 0) {x : aS KeyT} (_ : x ∈ l), (cN l x.tx).length + 1 = l.length
 | [], _, _, hx => by cases hx
 | y :: l, hr, x, hx => by
  have hr' := List.pairwise_cons.1 hr
  unfold cN
  by_cases hy : y.tx = x.tx
  ·have hf : l.filter (fun u => decide (u.tx ≠ x.tx)) = l := List.filter_eq_self.2 fun v hv => by
    have := hr'.1 v hv
    refine decide_eq_true (fun e => ?_)
    rw [hy, e, (fR _ _).2 rfl] at this
    omega
   rw [List.filter_cons, if_neg (by simp [hy]), hf, List.length_cons]
  ·have hxl : x ∈ l := by
    rcases List.mem_cons.1 hx with e | e
    ·exact absurd (by rw [e]) hy
    ·exact e
   have := drop_len hr'.2 hxl
   unfold cN at this
   rw [List.filter_cons, if_pos (by simp [hy]), List.length_cons, List.length_cons, this]
theorem gU_drop {l : List (aS KeyT)} (hb : dD l) (p : TxN → Nat × Nat) (t k : TxT) : gU (cN l t.1) p k = if k = t then none else gU l p k := by
 have hbd : dD (cN l t.1) := eS hb _
 by_cases hk : k = t
 ·subst hk
  rw [if_pos rfl]
  have : cM (cN l k.1) k.1 = none := eR.2 fun x hx => by
   have := (List.mem_filter.1 hx).2
   exact of_decide_eq_true this
  show (cM (cN l k.1) k.1).map _ = none
  rw [this]
  rfl
 ·rw [if_neg hk]
  have hk' : k.1 ≠ t.1 := fun e => hk (Subtype.ext e)
  have : cM (cN l t.1) k.1 = cM l k.1 := by
   cases hu : cM l k.1 with
   | none => exact eR.2 fun x hx => eR.1 hu x (List.mem_filter.1 hx).1
   | some u =>
    obtain ⟨hm, e⟩ := (bT hb).1 hu
    exact (bT hbd).2 ⟨List.mem_filter.2 ⟨hm, decide_eq_true (by rw [e]; exact hk')⟩, e⟩
  show (cM (cN l t.1) k.1).map _ = (cM l k.1).map _
  rw [this]
theorem fJ.dropped {w w' : World} {q b C : Nat} {p : TxN → Nat × Nat} {l : List (aS KeyT)} (h : fJ w q b C p l) {x : aS KeyT} (hm : UMap w' b (gU (cN l x.tx) p) (cN l x.tx).length) (hk : aC (fun j => j = b) w w') : fJ w' q b C p (cN l x.tx) :=
 ⟨h.box.keep hk (fun e => h.m.ne h.box e), hm, fun u hu => by
  have hul := (List.mem_filter.1 hu).1
  obtain ⟨n, n', h1, h2, h3⟩ := h.maps u hul
  exact ⟨n, n', h1.keep hk (h.ap u hul).2.1, h2.keep hk (h.ap u hul).2.2, h3⟩, fun u hu => h.ap u (List.mem_filter.1 hu).1, fun u hu v hv => h.ap2 u (List.mem_filter.1 hu).1 v (List.mem_filter.1 hv).1, eS h.ok _⟩
theorem key_one15 (k : KeyT) : ∀ u ∈ kyCs k, u.oneCell' = true := fun u hu => by
 simp only [kyCs, bP, List.mem_cons, List.not_mem_nil, or_false] at hu
 rcases hu with rfl | rfl | rfl | rfl | rfl | rfl | rfl | rfl <;> rfl
set_option maxHeartbeats 3200000 in
theorem lkDrop_any (q b C : Nat) (p : TxN → Nat × Nat) (l : List (aS KeyT)) (x : aS KeyT) (hx : x ∈ l) (w : World) (h : fJ w q b C p l) (hC : C ≤ 100000) :
  Calls Tryz.prog 45 #[.pointer (some ⟨q, 0, none⟩), aV x.tx] w fun e w' => ∃ (v : Value) (ks : List KeyT), e = .returned v ∧ w'.ownsRow w.heap.size 38 8 v ks.length (gI ks) ∧ (∀ k, k ∈ ks ↔ x.h k ≠ 0 ∨ x.w k ≠ 0) ∧ ks.length ≤ C ∧ fJ w' q b C p (cN l x.tx) ∧ aC (fun j => j = b) w w' := by
 have hxb : kJ x.tx := (h.ok.oks x hx).1
 have hE : (gU l p ⟨x.tx, hxb⟩).getD zE = (x.tm, x.tx, x.pr, some (p x.tx).1, some (p x.tx).2) := by
  have e : gU l p ⟨x.tx, hxb⟩ = some (x.tm, x.tx, x.pr, some (p x.tx).1, some (p x.tx).2) := by show (cM l x.tx).map _ = _; rw [(bT h.ok).2 ⟨hx, rfl⟩]; rfl
  rw [e]; rfl
 obtain ⟨⟨m1, m2⟩, hxm⟩ : ∃ m, m = p x.tx := ⟨_, rfl⟩
 rw [← hxm] at hE
 have hA := aE w (.cells #[.int .u8 (x.tx.1 : Int), .int .u32 (x.tx.2.1 : Int), .int .u32 (x.tx.2.2 : Int)] 34)
 have HXT := aA (aN w #[.int .u8 (x.tx.1 : Int), .int .u32 (x.tx.2.1 : Int), .int .u32 (x.tx.2.2 : Int)] 34)
 obtain ⟨w1, hw1⟩ : ∃ w1, w1 = w.alloc (.cells #[.int .u8 (x.tx.1 : Int), .int .u32 (x.tx.2.1 : Int), .int .u32 (x.tx.2.2 : Int)] 34) := ⟨_, rfl⟩
 obtain ⟨p1, hp1⟩ : ∃ p1, p1 = w.heap.size := ⟨_, rfl⟩
 rw [← hw1, ← hp1] at HXT
 rw [← hw1] at hA
 have hW1 := hw1.symm
 have hP1 := hp1.symm
 have H1 := aA (h.below hA)
 have HB := aA hA
 obtain ⟨n, n', hm1, hm2, hnn⟩ := H1.out.maps x hx
 rw [← hxm] at hm1 hm2
 have h0 : w1.cell? ⟨q, 0, none⟩ = some (.map (some b)) := H1.out.box.cell 0 _ rfl
 obtain ⟨k0, k1, k2⟩ := HXT.out.three
 have L1 := (H1.out.m.below (aG w1)).look1 fM ⟨x.tx, hxb⟩
 rw [hE] at L1
 have hf2 := field2_us (x.tm, x.tx, x.pr, some m1, some m2)
 have hf3 := field3_us (x.tm, x.tx, x.pr, some m1, some m2)
 obtain ⟨w2, hr1, hg1, hb1, hs1⟩ := run_range_g kB (hm1.below (aG w1))
 have hds : w1.drew.heap.size = w1.heap.size := rfl
 have hb12 : Below w1.heap.size w1 w2 := (aG w1).trans hb1
 rw [hds] at hr1 hg1 hs1
 obtain ⟨r1, hr1e⟩ : ∃ r, r = w1.heap.size := ⟨_, rfl⟩
 rw [← hr1e] at hr1 hg1 hb12 hs1
 have HR1 := aA hr1e
 have HB12 := aA hb12
 have HM1L : Hid (m1 < r1) := aA (by rw [hr1e]; exact hm1.lt)
 clear hr1e hds hb12
 have HG1 := aA hg1
 have HS1 := aA hs1
 have HM2 := aA hm2
 have HNN := aA hnn
 have HE := aA hE
 have HXB := aA hxb
 have HC := aA hC
 have HXI := aA hx
 clear hg1 hb1 hs1 h hA hw1 hp1 hE hm1 hm2 hnn hC hx
 obtain ⟨⟨xa, xb, xc⟩, xm, xp, xh, xw⟩ := x
 dsimp only at *
 go_enter Tryz.func45, Tryz.ntmps45
 go_wp2_with fail
 go_region
 simp only [Exit.then]
 rename_i hK
 refine hK _ _ ?_
 clear hK
 go_wp2_with fail
 go_loopw [5] (fun y wr => ∃ (ks : List KeyT) (ax : Option Addr) (cx : Nat), y = .slice ax ks.length cx ∧ Hid (KRng wr m1 r1 xh ks) ∧ Hid (wr.ownsRow r1 38 8 (.slice ax ks.length cx) ks.length (bR kyCs ks)) ∧ Hid (Below r1 w1 wr) ∧ Hid (ks.length + wr.rangeLeft m1 r1 ≤ n)) (fun _ wr => wr.rangeLeft m1 r1)
 case atStart => exact ⟨[], none, 0, rfl, HG1, aA (World.ownsRow_nil _ _ _ _), HB12, aA (by rw [HS1.out]; simp)⟩
 case round =>
  obtain ⟨ks, ax, cx, rfl, HG, HO, HBW, HLE⟩ := hrel
  go_wp2_with (at_next; refine gN kB _ rfl _ rfl rfl HG.out ?_ ?_)
  ·intro hdone
   have HK1 : Hid (∀ k, k ∈ ks ↔ xh k ≠ 0) := aA (keys15 HG.out hdone)
   clear hdone
   have HLE1 : Hid (ks.length ≤ n) := aA (by have := HLE.out; omega)
   have HBR : Hid (Below w1.heap.size w1 wr) := aA (by rw [← HR1.out]; exact HBW.out)
   have HP4 := aA (H1.out.below HBR.out)
   have h0 : wr.cell? ⟨q, 0, none⟩ = some (.map (some b)) := HP4.out.box.cell 0 _ rfl
   obtain ⟨k0, k1, k2⟩ := (HXT.out.belowI HBR.out).three
   have L1 := (HP4.out.m.below (aG wr)).look1 fM ⟨(xa, xb, xc), HXB.out⟩
   rw [HE.out] at L1
   obtain ⟨w5, hr1, hg1, hb1, hs1⟩ := run_range_g kB ((HM2.out.below HBR.out).below (aG wr))
   have hds : wr.drew.heap.size = wr.heap.size := rfl
   have hb12 : Below wr.heap.size wr w5 := (aG wr).trans hb1
   rw [hds] at hr1 hg1 hs1
   obtain ⟨r2, hr2e⟩ : ∃ r, r = wr.heap.size := ⟨_, rfl⟩
   rw [← hr2e] at hr1 hg1 hs1
   have HR12 : Hid (r1 ≤ r2) := aA (by rw [hr2e, HR1.out]; exact HBR.out.size)
   have HB15 : Hid (Below r1 w1 w5) := aA (HBW.out.trans (hb12.mono (by rw [← hr2e]; exact HR12.out)))
   have HM2L : Hid (m2 < r1) := aA (by rw [HR1.out]; exact HM2.out.lt)
   have HO5 := aA (aJ HO.out (aC.of_below (fun _ => False) hb12) (fun _ _ h => h))
   have HG2 := aA hg1
   have HS2 := aA hs1
   clear hg1 hb1 hs1 hds hb12 hr2e
   go_wp2_with fail
   go_region
   simp only [Exit.then]
   rename_i hK
   refine hK _ _ ?_
   clear hK
   go_wp2_with fail
   go_loopw [5] (fun y wr => ∃ (kk ks2 : List KeyT) (ax : Option Addr) (cx : Nat), y = .slice ax kk.length cx ∧ Hid (kk = ks ++ ks2) ∧ Hid (KRng wr m2 r2 xw ks2) ∧ Hid (wr.ownsRow r1 38 8 (.slice ax kk.length cx) kk.length (bR kyCs kk)) ∧ Hid (Below r1 w1 wr) ∧ Hid (ks2.length + wr.rangeLeft m2 r2 ≤ n')) (fun _ wr => wr.rangeLeft m2 r2)
   case atStart => exact ⟨ks, [], ax, cx, rfl, aA (by rw [List.append_nil]), HG2, HO5, HB15, aA (by rw [HS2.out]; simp)⟩
   case round =>
    clear HG HO HBW HLE HBR HP4 HO5 HG2 HS2 HB15
    obtain ⟨kk, ks2, ax, cx, rfl, HKK, HG, HO, HBW, HLE⟩ := hrel
    go_wp2_with (at_next; refine gN kB _ rfl _ rfl rfl HG.out ?_ ?_)
    ·intro hdone
     have HK2 : Hid (∀ k, k ∈ ks2 ↔ xw k ≠ 0) := aA (keys15 HG.out hdone)
     clear hdone
     have HLE2 : Hid (kk.length ≤ C) := aA (by have h1 := HLE.out; have h2 := HNN.out; have h3 := HLE1.out; rw [HKK.out, List.length_append]; omega)
     have HKA : Hid (∀ k, k ∈ kk ↔ xh k ≠ 0 ∨ xw k ≠ 0) := aA (fun k => by rw [HKK.out, List.mem_append, HK1.out k, HK2.out k])
     have HBR2 : Hid (Below w1.heap.size w1 wr.drew) := aA (by rw [← HR1.out]; exact HBW.out.trans ((aG wr).mono (by have := HBW.out.size; rw [HR1.out]; exact this)))
     have HP5 := aA (H1.out.below HBR2.out)
     have h05 : wr.drew.cell? ⟨q, 0, none⟩ = some (.map (some b)) := HP5.out.box.cell 0 _ rfl
     obtain ⟨k05, k15, k25⟩ := (HXT.out.belowI HBR2.out).three
     obtain ⟨w7, hrun, hm7, hk7⟩ := HP5.out.m.del fM ⟨(xa, xb, xc), HXB.out⟩
     have HM7 := aA hm7
     have HK7 := aA hk7
     have HO7 := aA (aJ (aJ HO.out (aC.of_below (fun _ => False) (aG wr)) (fun _ _ h => h)) hk7 (fun g hg e => by
      have h1 := (HO.out.lt g hg).1
      have h2 := H1.out.m.lt
      have h3 := HR1.out
      omega))
     clear hm7 hk7
     go_wp2_with fail
     go_region
     go_wp2_with fail
     go_ret
     have hlen := drop_len H1.out.ok.rise HXI.out
     have hsm : (gU l p ⟨(xa, xb, xc), HXB.out⟩).isSome = true := by
      show ((cM l (xa, xb, xc)).map _).isSome = true
      rw [(bT H1.out.ok).2 ⟨HXI.out, rfl⟩]
      rfl
     have hm8 := HM7.out.as (g' := gU (cN l (xa, xb, xc)) p) (fun k => by
      have h1 := gU_drop H1.out.ok p ⟨(xa, xb, xc), HXB.out⟩ k
      by_cases hk : k = ⟨(xa, xb, xc), HXB.out⟩
      ·rw [if_pos hk] at h1 ⊢; exact h1.symm
      ·rw [if_neg hk] at h1 ⊢; exact h1.symm)
     rw [hsm, if_pos rfl, show l.length - 1 = (cN l (xa, xb, xc)).length by have : (cN l (xa, xb, xc)).length + 1 = l.length := hlen; omega] at hm8
     have hrow := dO HO7.out (by rw [HR1.out]; exact HB.out.size : w.heap.size ≤ r1)
     exact ⟨_, kk, rfl, hrow, HKA.out, HLE2.out, HP5.out.dropped (x := ⟨(xa, xb, xc), xm, xp, xh, xw⟩) hm8 HK7.out, (aC.of_below (fun j => j = b) (HB.out.trans (HBR2.out.mono HB.out.size))).trans HK7.out (fun _ _ h => h)⟩
    ·rintro ⟨t, e, w3, hk, he, hrg3, hlt, hkb, hsz, hen⟩
     dsimp only at hen ⊢
     have hbw3 : Below r1 w1 w3 := HBW.out.trans (hkb.below (by have := HBW.out.size; rw [HR1.out]; exact this) (fun j e => by rw [e]; exact HR12.out))
     have HNR0 : Hid (∀ g, (Value.slice ax kk.length cx).ownBlock = some g → g ≠ r2) := aA (fun g e e2 => by
      obtain ⟨_, ⟨h1, _⟩ | ⟨g', cap, cur, h1, _, hb, _⟩⟩ := HO.out
      ·rw [h1] at e; cases e
      ·rw [h1] at e
       cases e
       obtain ⟨R0, D0, lf, ct, n0, _, ⟨es, clock, since, seen, c0, _, _, _, _, hr0, _⟩, _⟩ := HG.out.own
       subst e2
       rw [hb] at hr0
       cases hr0)
     have HA6 : Hid (Below w3.heap.size w3 ((w3.alloc (.cells (aK t.1) 38)).alloc (.cells (aK t.1) 38))) := aA ((aE _ _).trans ((aE _ _).mono (by simp)))
     have HSZ3 : Hid (r1 ≤ w3.heap.size) := aA (by have := hbw3.size; rw [HR1.out]; exact this)
     have HB6 := aA (hbw3.trans (HA6.out.mono HSZ3.out))
     have HO6 := aA (aJ (aJ HO.out hkb HNR0.out) (aC.of_below (fun _ => False) HA6.out) (fun _ _ h => h))
     have hg6 := hrg3.below HA6.out
     have HG6 := aA hg6.1
     have HL6 := aA hg6.2
     have HLT := aA hlt
     have HSRC : Hid (bI kyCs ((w3.alloc (.cells (aK t.1) 38)).alloc (.cells (aK t.1) 38)) (.slice (some ⟨w3.heap.size + 1, 0, none⟩) 1 1) [t]) := aA (by
      have h1 := dK (enc := kyCs) (w3.alloc (.cells (aK t.1) 38)) t (aK t.1) rfl 38
      have e : (w3.alloc (.cells (aK t.1) 38)).heap.size = w3.heap.size + 1 := by simp
      rw [e] at h1
      exact h1)
     have HTN : Hid ((kk ++ [t]).length = kk.length + 1) := aA (by rw [List.length_append]; rfl)
     have HTN2 : Hid ((ks2 ++ [t]).length = ks2.length + 1) := aA (by rw [List.length_append]; rfl)
     have HKK2 : Hid (kk ++ [t] = ks ++ (ks2 ++ [t])) := aA (by rw [HKK.out, List.append_assoc])
     have HSL : Hid (kk.length + 1 ≤ 1000000) := aA (by have h1 := HLE.out; have h2 := HNN.out; have h3 := HC.out; have h4 := HLE1.out; rw [HKK.out, List.length_append]; omega)
     have HLE2 : Hid ((ks2 ++ [t]).length + w3.rangeLeft m2 r2 ≤ n') := aA (by rw [HTN2.out]; have h1 := HLE.out; have h2 := HLT.out; omega)
     have HBS : Hid (r1 ≤ ((w3.alloc (.cells (aK t.1) 38)).alloc (.cells (aK t.1) 38)).heap.size) := aA (Nat.le_trans HSZ3.out HA6.out.size)
     have HNR : Hid (∀ g, (Value.slice ax kk.length cx).ownBlock = some g → g ≠ r2 ∧ g ≠ m2) := aA (fun g hg => ⟨HNR0.out g hg, fun e => by
      have h1 := (HO.out.lt g hg).1
      have h2 := HM2L.out
      omega⟩)
     clear he hk hsz hrg3 hlt hkb hbw3 hg6
     go_wp2_with (at_builtin; refine dS eU _ rfl _ _ rfl r1 (.slice ax kk.length cx) (.slice (some ⟨w3.heap.size + 1, 0, none⟩) 1 1) kk [t] rfl HO6.out rfl HSRC.out ?_ HSL.out HBS.out ?_)
     ·exact (fun z hz => by simp at hz; subst hz; exact key_one15 _)
     intro v4 w4 ho4 hg4 _
     obtain ⟨a4, c4, hv4, _⟩ := aQ ho4
     subst hv4
     have HB4 : Hid (Below r1 w1 w4) := aA (HB6.out.grown hg4 HBS.out (fun j hj => (HO6.out.lt j hj).1))
     have HG4 := aA (HG6.out.keep (kept15 hg4) (fun e => (HNR.out _ e).2 rfl) (fun e => (HNR.out _ e).1 rfl))
     have HO4 := aA ho4
     clear ho4 hg4
     go_wp2_with fail
     go_roundw
     case rel => exact ⟨kk ++ [t], ks2 ++ [t], a4, c4, by rw [HTN.out], HKK2, aA HG4.out.1, aA (by rw [HTN.out]; exact HO4.out), HB4, aA (by rw [HG4.out.2, HL6.out]; exact HLE2.out)⟩
     case measure => rw [HG4.out.2, HL6.out]; exact HLT.out
  ·rintro ⟨t, e, w3, hk, he, hrg3, hlt, hkb, hsz, hen⟩
   dsimp only at hen ⊢
   have hbw3 : Below r1 w1 w3 := HBW.out.trans (hkb.below (by have := HBW.out.size; rw [HR1.out]; exact this) (fun j e => by rw [e]; exact Nat.le_refl _))
   have HNR0 : Hid (∀ g, (Value.slice ax ks.length cx).ownBlock = some g → g ≠ r1) := aA (fun g e e2 => by
    obtain ⟨_, ⟨h1, _⟩ | ⟨g', cap, cur, h1, _, hb, _⟩⟩ := HO.out
    ·rw [h1] at e; cases e
    ·rw [h1] at e
     cases e
     obtain ⟨R0, D0, lf, ct, n0, _, ⟨es, clock, since, seen, c0, _, _, _, _, hr0, _⟩, _⟩ := HG.out.own
     subst e2
     rw [hb] at hr0
     cases hr0)
   have HA6 : Hid (Below w3.heap.size w3 ((w3.alloc (.cells (aK t.1) 38)).alloc (.cells (aK t.1) 38))) := aA ((aE _ _).trans ((aE _ _).mono (by simp)))
   have HSZ3 : Hid (r1 ≤ w3.heap.size) := aA (by have := hbw3.size; rw [HR1.out]; exact this)
   have HB6 := aA (hbw3.trans (HA6.out.mono HSZ3.out))
   have HO6 := aA (aJ (aJ HO.out hkb HNR0.out) (aC.of_below (fun _ => False) HA6.out) (fun _ _ h => h))
   have hg6 := hrg3.below HA6.out
   have HG6 := aA hg6.1
   have HL6 := aA hg6.2
   have HLT := aA hlt
   have HSRC : Hid (bI kyCs ((w3.alloc (.cells (aK t.1) 38)).alloc (.cells (aK t.1) 38)) (.slice (some ⟨w3.heap.size + 1, 0, none⟩) 1 1) [t]) := aA (by
    have h1 := dK (enc := kyCs) (w3.alloc (.cells (aK t.1) 38)) t (aK t.1) rfl 38
    have e : (w3.alloc (.cells (aK t.1) 38)).heap.size = w3.heap.size + 1 := by simp
    rw [e] at h1
    exact h1)
   have HTN : Hid ((ks ++ [t]).length = ks.length + 1) := aA (by rw [List.length_append]; rfl)
   have HSL : Hid (ks.length + 1 ≤ 1000000) := aA (by have h1 := HLE.out; have h2 := HNN.out; have h3 := HC.out; omega)
   have HLE2 : Hid ((ks ++ [t]).length + w3.rangeLeft m1 r1 ≤ n) := aA (by rw [HTN.out]; have h1 := HLE.out; have h2 := HLT.out; omega)
   have HBS : Hid (r1 ≤ ((w3.alloc (.cells (aK t.1) 38)).alloc (.cells (aK t.1) 38)).heap.size) := aA (Nat.le_trans HSZ3.out HA6.out.size)
   have HNR : Hid (∀ g, (Value.slice ax ks.length cx).ownBlock = some g → g ≠ r1 ∧ g ≠ m1) := aA (fun g hg => ⟨HNR0.out g hg, fun e => by
    have h1 := (HO.out.lt g hg).1
    have h2 := HM1L.out
    omega⟩)
   clear he hk hsz hrg3 hlt hkb hbw3 hg6
   go_wp2_with (at_builtin; refine dS eU _ rfl _ _ rfl r1 (.slice ax ks.length cx) (.slice (some ⟨w3.heap.size + 1, 0, none⟩) 1 1) ks [t] rfl HO6.out rfl HSRC.out ?_ HSL.out HBS.out ?_)
   ·exact (fun z hz => by simp at hz; subst hz; exact key_one15 _)
   intro v4 w4 ho4 hg4 _
   obtain ⟨a4, c4, hv4, _⟩ := aQ ho4
   subst hv4
   have HB4 : Hid (Below r1 w1 w4) := aA (HB6.out.grown hg4 HBS.out (fun j hj => (HO6.out.lt j hj).1))
   have HG4 := aA (HG6.out.keep (kept15 hg4) (fun e => (HNR.out _ e).2 rfl) (fun e => (HNR.out _ e).1 rfl))
   have HO4 := aA ho4
   clear ho4 hg4
   go_wp2_with fail
   go_roundw
   case rel => exact ⟨ks ++ [t], a4, c4, by rw [HTN.out], aA HG4.out.1, aA (by rw [HTN.out]; exact HO4.out), HB4, aA (by rw [HG4.out.2, HL6.out]; exact HLE2.out)⟩
   case measure => rw [HG4.out.2, HL6.out]; exact HLT.out
end
end Go.Proofs.YtiloagmkkhlfjaaGreat
