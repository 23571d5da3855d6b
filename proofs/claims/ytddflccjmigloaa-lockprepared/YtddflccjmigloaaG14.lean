/-
  Own texts put together: LkFree, LkWay. Own work.
-/
import Derived.Test.YtddflccjmigloaaG13
namespace Go.Proofs.Ytddflccjmigloaa
section
open Go.RowKit Go.Maps Classical

def apB (a b : Nat) : Bool := decide (Apart a b)
theorem apartB (a b : Nat) (w : World) : Calls Try.prog 53 #[.int .u8 (a : Int), .int .u8 (b : Int)] w fun e w' => e = .returned (.bool (apB a b)) ∧ w' = w := apart15 a b w
set_option maxRecDepth 100000 in
set_option maxHeartbeats 3200000 in
theorem lkFree_any (q b C : Nat) (p : TxN → Nat × Nat) (l : List (UsP KeyT)) (x : UsP KeyT) (hx : x ∈ l) (k : KeyT) (w : World) (h : PLk w q b C p l) :
    Calls Try.prog 47 #[.pointer (some ⟨q, 0, none⟩), txVN x.tx, .agg (eightA k.1)] w fun e w' => e = .returned (.bool (decide (¬ NF l x k))) ∧ Below w.heap.size w w' := by
  have hxb : TxB x.tx := (h.ok.oks x hx).1
  have hE : (gU l p ⟨x.tx, hxb⟩).getD zE = (x.tm, x.tx, x.pr, some (p x.tx).1, some (p x.tx).2) := by
    have e : gU l p ⟨x.tx, hxb⟩ = some (x.tm, x.tx, x.pr, some (p x.tx).1, some (p x.tx).2) := by show (usL l x.tx).map _ = _; rw [(usL_some h.ok).2 ⟨hx, rfl⟩]; rfl
    rw [e]; rfl
  obtain ⟨⟨xm1, xm2⟩, hxm⟩ : ∃ m, m = p x.tx := ⟨_, rfl⟩
  rw [← hxm] at hE
  have hA := alloc_below14 w (.cells #[.int .u8 (x.tx.1 : Int), .int .u32 (x.tx.2.1 : Int), .int .u32 (x.tx.2.2 : Int)] 30)
  have hA2 := alloc_below14 (w.alloc (.cells #[.int .u8 (x.tx.1 : Int), .int .u32 (x.tx.2.1 : Int), .int .u32 (x.tx.2.2 : Int)] 30)) (.cells (eightA k.1) 34)
  have hB2 := hA.trans (hA2.mono hA.size)
  have HXT := hide ((box_new w #[.int .u8 (x.tx.1 : Int), .int .u32 (x.tx.2.1 : Int), .int .u32 (x.tx.2.2 : Int)] 30).belowI hA2)
  have HXK : Hid (Box ((w.alloc (.cells #[.int .u8 (x.tx.1 : Int), .int .u32 (x.tx.2.1 : Int), .int .u32 (x.tx.2.2 : Int)] 30)).alloc (.cells (eightA k.1) 34)) (w.heap.size + 1) (eightA k.1) 34) := hide (by have := box_new (w.alloc (.cells #[.int .u8 (x.tx.1 : Int), .int .u32 (x.tx.2.1 : Int), .int .u32 (x.tx.2.2 : Int)] 30)) (eightA k.1) 34; simpa using this)
  obtain ⟨w1, hw1⟩ : ∃ w1, w1 = (w.alloc (.cells #[.int .u8 (x.tx.1 : Int), .int .u32 (x.tx.2.1 : Int), .int .u32 (x.tx.2.2 : Int)] 30)).alloc (.cells (eightA k.1) 34) := ⟨_, rfl⟩
  obtain ⟨p1, hp1⟩ : ∃ p1, p1 = w.heap.size := ⟨_, rfl⟩
  obtain ⟨p2, hp2⟩ : ∃ p2, p2 = p1 + 1 := ⟨_, rfl⟩
  rw [← hw1, ← hp1] at HXT
  rw [← hw1, ← hp1, ← hp2] at HXK
  rw [← hw1] at hB2
  have hW1 := hw1.symm
  have hP1 := hp1.symm
  have hP2 := hp2.symm
  have H1 := hide (h.below hB2)
  have HB := hide hB2
  obtain ⟨n, n', _, hm2, _⟩ := H1.out.maps x hx
  rw [← hxm] at hm2
  have h0 : w1.cell? ⟨q, 0, none⟩ = some (.map (some b)) := H1.out.box.cell 0 _ rfl
  obtain ⟨k0, k1, k2⟩ := HXT.out.three
  obtain ⟨x0, x1, x2, x3, x4, x5, x6, x7⟩ := box_eight14 HXK.out
  have L1 := (H1.out.m.below (below_drew14 w1)).look1 umTy ⟨x.tx, hxb⟩
  rw [hE] at L1
  have hf3 := field3_us (x.tm, x.tx, x.pr, some xm1, some xm2)
  have L2 := (MRead.look (.inr ⟨_, _, rfl, hm2.below (below_drew14 w1)⟩) k : (Instr.lookup 64 (.map (some xm2)) (kyV k.1) false).run Try.prog w1.drew = _)
  obtain ⟨R, hR⟩ : ∃ R, R = decide (¬ NF l x k) := ⟨_, rfl⟩
  have HR := hide hR
  rw [← hR]
  clear h hA hA2 hB2 hw1 hp1 hp2 hE hR hm2 hxm
  have HXB := hide hxb
  have HGX := hide (getU_of H1.out.ok hx)
  obtain ⟨⟨xa, xb, xc⟩, xm, xp, xh, xw⟩ := x
  dsimp only at *
  go_enter Try.func47, Try.ntmps47
  go_wp2_with fail
  go_region
  have HB2 : Hid (Below w.heap.size w w1.drew) := hide (HB.out.trans ((below_drew14 w1).mono HB.out.size))
  have H2 := hide (H1.out.below (below_drew14 w1))
  have HXT2 := hide (HXT.out.belowI (below_drew14 w1))
  have HXK2 := hide (HXK.out.belowI (below_drew14 w1))
  have h02 : w1.drew.cell? ⟨q, 0, none⟩ = some (.map (some b)) := H2.out.box.cell 0 _ rfl
  have HZ1 : Hid (p1 < w1.drew.heap.size ∧ p2 < w1.drew.heap.size) := hide ⟨HXT2.out.lt, HXK2.out.lt⟩
  clear h0 k0 k1 k2 x0 x1 x2 x3 x4 x5 x6 x7 L1 L2 hf3 H1 HB HXT HXK
  generalize w1.drew = w2 at *
  go_wp2_with (at_range; refine wp_range_g umTy _ rfl _ rfl rfl H2.out.m ?_; intro w3 hrg hb2 hs2)
  go_frame
  obtain ⟨r, hr⟩ : ∃ r, r = w2.heap.size := ⟨_, rfl⟩
  rw [← hr] at hrg ⊢
  have HRG := hide hrg
  have HB3 := hide hb2
  have HRR := hide hr
  clear hrg hb2 hs2 h02 hr
  go_loopw [8] (fun _ wr => ∃ ks : List TxT, Hid (URng wr b r l p ks) ∧ Hid (∀ t ∈ ks, ∀ v ∈ l, v.tx = t.1 → ¬ (v.tx ≠ (xa, xb, xc) ∧ (Apart (xw k) (v.h k) ∨ (Old v ⟨(xa, xb, xc), xm, xp, xh, xw⟩ ∧ Apart (xw k) (v.w k))))) ∧ Hid (Below w2.heap.size w2 wr)) (fun _ wr => wr.rangeLeft b r)
  case atStart => exact ⟨[], HRG, hide (fun t ht => by cases ht), HB3⟩
  case round =>
    obtain ⟨ks, HG, HZ, HBW⟩ := hrel
    go_wp2_with (at_next; refine wp_next_g umTy _ rfl _ rfl rfl HG.out ?_ ?_)
    · intro hdone
      have HF : Hid (R = true) := hide (by
        rw [HR.out, decide_eq_true_eq]
        rintro ⟨u, hu, h1⟩
        obtain ⟨t, ht, e⟩ := gU_none hdone.all H2.out.ok u hu
        exact HZ.out t ht u hu e.symm h1)
      clear hdone
      go_wp2_with fail
      go_ret
      exact ⟨by rw [HF.out]; rfl, HB2.out.trans (HBW.out.mono HB2.out.size)⟩
    · rintro ⟨t, e, w3, hk, he, hrg3, hlt, hkb, hsz, hen⟩
      dsimp only at hen ⊢
      obtain ⟨u, hu, hut, rfl⟩ := gU_some H2.out.ok he
      have hbw3 : Below w2.heap.size w2 w3 := HBW.out.trans (hkb.below HBW.out.size (fun j e => by rw [e, HRR.out]; exact Nat.le_refl _))
      obtain ⟨n1, n2, hm1, hm2, _⟩ := (H2.out.below hbw3).maps u hu
      obtain ⟨⟨y1, y2, y3⟩, ht⟩ := t
      dsimp only at *
      rw [hut] at hm1 hm2
      obtain ⟨⟨m1, m2⟩, hmm⟩ : ∃ m, m = p (y1, y2, y3) := ⟨_, rfl⟩
      rw [← hmm] at hen hm1 hm2
      have HN : Hid (∀ v ∈ l, v.tx = (y1, y2, y3) → v = u) := hide (fun v hv e => rise_eq H2.out.ok.rise hv hu (e.trans hut.symm))
      have HGU : Hid (getU l (y1, y2, y3) = u) := hide (by rw [← hut]; exact getU_of H2.out.ok hu)
      have HUU := hide hu
      obtain ⟨ut, um, up, uh, uw⟩ := u
      dsimp only at *
      subst hut
      have HA5 : Hid (Below w3.heap.size w3 ((w3.alloc (.cells #[.int .u8 (y1 : Int), .int .u32 (y2 : Int), .int .u32 (y3 : Int)] 30)).alloc (.cells #[.int .u32 (um : Int), .int .u8 (y1 : Int), .int .u32 (y2 : Int), .int .u32 (y3 : Int), .bool up, .map (some m1), .map (some m2)] 66))) := hide ((alloc_below14 _ _).trans ((alloc_below14 _ _).mono (by simp)))
      have HB5 := hide (hbw3.trans (HA5.out.mono hbw3.size))
      obtain ⟨k0, k1, k2⟩ := (HXT2.out.belowI HB5.out).three
      obtain ⟨x0, x1, x2, x3, x4, x5, x6, x7⟩ := box_eight14 (HXK2.out.belowI HB5.out)
      have L1 := (MRead.look (.inr ⟨_, _, rfl, hm1.below HA5.out⟩) k : (Instr.lookup 64 (.map (some m1)) (kyV k.1) false).run Try.prog ((w3.alloc (.cells #[.int .u8 (y1 : Int), .int .u32 (y2 : Int), .int .u32 (y3 : Int)] 30)).alloc (.cells #[.int .u32 (um : Int), .int .u8 (y1 : Int), .int .u32 (y2 : Int), .int .u32 (y3 : Int), .bool up, .map (some m1), .map (some m2)] 66)) = _)
      have HM2 := hide (hm2.below HA5.out)
      have hg5 := hrg3.below HA5.out
      have HG5 := hide hg5.1
      have HL5 := hide hg5.2
      have HLT := hide hlt
      have HX5 : Hid (Box ((w3.alloc (.cells #[.int .u8 (y1 : Int), .int .u32 (y2 : Int), .int .u32 (y3 : Int)] 30)).alloc (.cells #[.int .u32 (um : Int), .int .u8 (y1 : Int), .int .u32 (y2 : Int), .int .u32 (y3 : Int), .bool up, .map (some m1), .map (some m2)] 66)) (w3.heap.size + 1) (usA (um, (y1, y2, y3), up, some m1, some m2)) 66) := hide (by have := box_new (w3.alloc (.cells #[.int .u8 (y1 : Int), .int .u32 (y2 : Int), .int .u32 (y3 : Int)] 30)) (usA (um, (y1, y2, y3), up, some m1, some m2)) 66; simpa using this)
      clear he hrg3 hkb hsz hbw3 hm1 hm2 hlt hmm hk hg5 hu
      have HST : Hid (¬ (((y1, y2, y3) : TxN) ≠ (xa, xb, xc) ∧ (Apart (xw k) (uh k) ∨ (Old (⟨(y1, y2, y3), um, up, uh, uw⟩ : UsP KeyT) (⟨(xa, xb, xc), xm, xp, xh, xw⟩ : UsP KeyT) ∧ Apart (xw k) (uw k)))) → ∀ t ∈ ks ++ [⟨(y1, y2, y3), ht⟩], ∀ v ∈ l, v.tx = t.1 → ¬ (v.tx ≠ (xa, xb, xc) ∧ (Apart (xw k) (v.h k) ∨ (Old v ⟨(xa, xb, xc), xm, xp, xh, xw⟩ ∧ Apart (xw k) (v.w k))))) := hide (fun hno t' ht' v hv e => by
        rcases List.mem_append.1 ht' with h2 | h2
        · exact HZ.out t' h2 v hv e
        · rw [List.mem_singleton] at h2
          subst h2
          rw [HN.out v hv e]
          exact hno)
      have HBAD : Hid (((y1, y2, y3) : TxN) ≠ (xa, xb, xc) ∧ (Apart (xw k) (uh k) ∨ (Old (⟨(y1, y2, y3), um, up, uh, uw⟩ : UsP KeyT) (⟨(xa, xb, xc), xm, xp, xh, xw⟩ : UsP KeyT) ∧ Apart (xw k) (uw k))) → R = false) := hide (fun hb => by
        rw [HR.out, decide_eq_false_iff_not]
        exact fun h => h ⟨_, HUU.out, hb⟩)
      obtain ⟨S, hS⟩ : ∃ S, S = stsF ((⟨(y1, y2, y3), um, up, uh, uw⟩ : UsP KeyT)).ag ((⟨(xa, xb, xc), xm, xp, xh, xw⟩ : UsP KeyT)).ag := ⟨_, rfl⟩
      have CB : Hid (∀ W, PLk W q b C p l → Calls Try.prog 30 #[.pointer (some ⟨q, 0, none⟩), txVN (y1, y2, y3), txVN (xa, xb, xc)] W fun e w' => e = .returned (.int .i64 S) ∧ Grown W w') := hide (fun W hW => by
        have := byAge15 q b C p l (y1, y2, y3) (xa, xb, xc) W hW ht HXB.out
        rw [HGU.out, HGX.out, ← hS] at this
        exact this)
      have HS : Hid (Old (⟨(y1, y2, y3), um, up, uh, uw⟩ : UsP KeyT) (⟨(xa, xb, xc), xm, xp, xh, xw⟩ : UsP KeyT) ↔ S < 0) := hide (by rw [hS])
      have HPL := hide (H2.out.below HB5.out)
      have HC8 : Hid (∀ W, Below ((w3.alloc (.cells #[.int .u8 (y1 : Int), .int .u32 (y2 : Int), .int .u32 (y3 : Int)] 30)).alloc (.cells #[.int .u32 (um : Int), .int .u8 (y1 : Int), .int .u32 (y2 : Int), .int .u32 (y3 : Int), .bool up, .map (some m1), .map (some m2)] 66)).heap.size ((w3.alloc (.cells #[.int .u8 (y1 : Int), .int .u32 (y2 : Int), .int .u32 (y3 : Int)] 30)).alloc (.cells #[.int .u32 (um : Int), .int .u8 (y1 : Int), .int .u32 (y2 : Int), .int .u32 (y3 : Int), .bool up, .map (some m1), .map (some m2)] 66)) W → (W.cell? ⟨w3.heap.size + 1, 6, none⟩ = some (.map (some m2)) ∧ W.cell? ⟨p2, 0, none⟩ = some (.int .u8 (at8 k.1 0)) ∧ W.cell? ⟨p2, 1, none⟩ = some (.int .u8 (at8 k.1 1)) ∧ W.cell? ⟨p2, 2, none⟩ = some (.int .u8 (at8 k.1 2)) ∧ W.cell? ⟨p2, 3, none⟩ = some (.int .u8 (at8 k.1 3)) ∧ W.cell? ⟨p2, 4, none⟩ = some (.int .u8 (at8 k.1 4)) ∧ W.cell? ⟨p2, 5, none⟩ = some (.int .u8 (at8 k.1 5)) ∧ W.cell? ⟨p2, 6, none⟩ = some (.int .u8 (at8 k.1 6)) ∧ W.cell? ⟨p2, 7, none⟩ = some (.int .u8 (at8 k.1 7))) ∧ (Instr.lookup 64 (.map (some m2)) (kyV k.1) false).run Try.prog W = .ok (.int .u8 ((uw k : Nat) : Int)) W) := hide (fun W hW => ⟨⟨(HX5.out.belowI hW).cell 6 _ rfl, box_eight14 ((HXK2.out.belowI HB5.out).belowI hW)⟩, MRead.look (.inr ⟨_, _, rfl, HM2.out.below hW⟩) k⟩)
      have HEQ := eql_tx (y1 : Int) (y2 : Int) (y3 : Int) (xa : Int) (xb : Int) (xc : Int)
      obtain ⟨Z, hZ⟩ : ∃ Z, Z = ((y1 : Int) == (xa : Int) && (y2 : Int) == (xb : Int) && (y3 : Int) == (xc : Int)) := ⟨_, rfl⟩
      rw [← hZ] at HEQ
      have HZE : Hid (Z = true ↔ ((y1, y2, y3) : TxN) = (xa, xb, xc)) := hide (by
        rw [hZ]
        simp only [Bool.and_eq_true, beq_iff_eq, Prod.mk.injEq]
        omega)
      clear hS hZ
      cases Z with
      | true =>
        have HZ2 := hide (HST.out (fun h => h.1 (HZE.out.1 rfl)))
        go_wp2_with fail
        go_roundw
        case rel => exact ⟨ks ++ [⟨(y1, y2, y3), ht⟩], HG5, HZ2, HB5⟩
        case measure => rw [HL5.out]; exact HLT.out
      | false =>
        have HNE : Hid (((y1, y2, y3) : TxN) ≠ (xa, xb, xc)) := hide (fun e => by have := HZE.out.2 e; cases this)
        have HA1 : Hid (apB (xw k) (uh k) = true ↔ Apart (xw k) (uh k)) := hide decide_eq_true_iff
        have HA2 : Hid (apB (xw k) (uw k) = true ↔ Apart (xw k) (uw k)) := hide decide_eq_true_iff
        cases a1 : apB (xw k) (uh k) with
        | true =>
          have HF := hide (HBAD.out ⟨HNE.out, .inl (HA1.out.1 a1)⟩)
          go_wp2_with (go_at_call 53; refine (apartB _ _ _).mono ?_; rintro e w' ⟨rfl, rfl⟩)
          go_ret
          have hfin := HB2.out.trans (HB5.out.mono HB2.out.size)
          exact ⟨by rw [HF.out]; rfl, hfin⟩
        | false =>
          have HN1 : Hid (¬ Apart (xw k) (uh k)) := hide (fun h => by have := HA1.out.2 h; rw [a1] at this; cases this)
          by_cases hS : S < 0
          case neg =>
            have HZ2 := hide (HST.out (fun h => h.2.elim HN1.out (fun h => hS (HS.out.1 h.1))))
            go_wp2_with (first | (go_at_call 53; refine (apartB _ _ _).mono ?_; rintro e w' ⟨rfl, rfl⟩) | (go_at_call 30; refine (CB.out _ HPL.out).mono ?_; rintro e w8 ⟨rfl, hG⟩; have HB8 := hide hG.below; have hc8 := HC8.out w8 hG.below; obtain ⟨⟨hc6, c0, c1, c2, c3, c4, c5, c6, c7⟩, L8⟩ := hc8; clear hG))
            have HGZ := hide (HG5.out.below HB8.out)
            go_roundw
            case rel => exact ⟨ks ++ [⟨(y1, y2, y3), ht⟩], hide HGZ.out.1, HZ2, hide (HB5.out.trans (HB8.out.mono HB5.out.size))⟩
            case measure => rw [HGZ.out.2, HL5.out]; exact HLT.out
          case pos =>
          cases a2 : apB (xw k) (uw k) with
          | false =>
            have HZ2 := hide (HST.out (fun h => h.2.elim HN1.out (fun h => by have := HA2.out.2 h.2; rw [a2] at this; cases this)))
            go_wp2_with (first | (go_at_call 53; refine (apartB _ _ _).mono ?_; rintro e w' ⟨rfl, rfl⟩) | (go_at_call 30; refine (CB.out _ HPL.out).mono ?_; rintro e w8 ⟨rfl, hG⟩; have HB8 := hide hG.below; have hc8 := HC8.out w8 hG.below; obtain ⟨⟨hc6, c0, c1, c2, c3, c4, c5, c6, c7⟩, L8⟩ := hc8; clear hG))
            have HGZ := hide (HG5.out.below HB8.out)
            go_roundw
            case rel => exact ⟨ks ++ [⟨(y1, y2, y3), ht⟩], hide HGZ.out.1, HZ2, hide (HB5.out.trans (HB8.out.mono HB5.out.size))⟩
            case measure => rw [HGZ.out.2, HL5.out]; exact HLT.out
          | true =>
            have HF := hide (HBAD.out ⟨HNE.out, .inr ⟨HS.out.2 hS, HA2.out.1 a2⟩⟩)
            go_wp2_with (first | (go_at_call 53; refine (apartB _ _ _).mono ?_; rintro e w' ⟨rfl, rfl⟩) | (go_at_call 30; refine (CB.out _ HPL.out).mono ?_; rintro e w8 ⟨rfl, hG⟩; have HB8 := hide hG.below; have hc8 := HC8.out w8 hG.below; obtain ⟨⟨hc6, c0, c1, c2, c3, c4, c5, c6, c7⟩, L8⟩ := hc8; clear hG))
            go_ret
            have hfin := HB2.out.trans ((HB5.out.trans (HB8.out.mono HB5.out.size)).mono HB2.out.size)
            exact ⟨by rw [HF.out]; rfl, hfin⟩
end
section
open Go.RowKit Go.Maps Classical

/-- Those of the keys that have come of whom P holds. -/
def whoP (P : TxN → Bool) (ks : List TxT) : List TxN := (ks.map (·.1)).filter P
theorem whoP_app (P : TxN → Bool) (ks : List TxT) (t : TxT) : whoP P (ks ++ [t]) = whoP P ks ++ (if P t.1 then [t.1] else []) := by
  unfold whoP
  rw [List.map_append, List.filter_append]
  congr 1
  by_cases h : P t.1
  · simp [h]
  · simp [h]
theorem whoP_nodup {P : TxN → Bool} {ks : List TxT} (h : ks.Nodup) : (whoP P ks).Nodup := by
  unfold whoP
  rw [List.nodup_iff_pairwise_ne]
  refine List.Pairwise.filter _ ?_
  rw [List.pairwise_map]
  exact (List.nodup_iff_pairwise_ne.1 h).imp (fun {a b} hab e => hab (Subtype.ext e))
/-- It has to give way. -/
def wayP (l : List (UsP KeyT)) (x : UsP KeyT) (k : KeyT) (t : TxN) : Bool := decide ((getU l t).pr = false ∧ Old x (getU l t) ∧ Apart (x.w k) ((getU l t).h k))
theorem wndU_old {l : List (UsP KeyT)} (h : LkB l) (t : TxN) (k : KeyT) : (wndU l t k).Pairwise (OldN l) := sorted_names h _
theorem wndU_nd {l : List (UsP KeyT)} (hb : LkB l) (t : TxN) (k : KeyT) : (wndU l t k).Nodup := (wndU_old hb t k).imp fun {x y} hxy e => by subst e; exact hxy.asymm hxy
theorem whoP_all {l : List (UsP KeyT)} (hb : LkB l) {x : UsP KeyT} {k : KeyT} {ks : List TxT} (hall : ∀ u ∈ l, ∃ t ∈ ks, t.1 = u.tx) (hwas : ∀ t ∈ ks, ∃ u ∈ l, u.tx = t.1) (t : TxN) : t ∈ whoP (wayP l x k) ks ↔ ∃ y ∈ l, (y.pr = false ∧ Old x y ∧ Apart (x.w k) (y.h k)) ∧ y.tx = t := by
  unfold whoP
  rw [List.mem_filter]
  constructor
  · rintro ⟨h1, h2⟩
    obtain ⟨t', ht', rfl⟩ := List.mem_map.1 h1
    obtain ⟨u, hu, e⟩ := hwas t' ht'
    rw [← e] at h2 ⊢
    unfold wayP at h2
    rw [getU_of hb hu] at h2
    exact ⟨u, hu, of_decide_eq_true h2, rfl⟩
  · rintro ⟨u, hu, hw, rfl⟩
    obtain ⟨t', ht', e⟩ := hall u hu
    refine ⟨List.mem_map.2 ⟨t', ht', e⟩, ?_⟩
    unfold wayP
    rw [getU_of hb hu]
    exact decide_eq_true hw
set_option maxRecDepth 100000 in
set_option maxHeartbeats 3200000 in
theorem lkWay_any (N : Nat) (HS : SortB N) (q b C : Nat) (p : TxN → Nat × Nat) (l : List (UsP KeyT)) (x : UsP KeyT) (hx : x ∈ l) (k : KeyT) (w : World) (h : PLk w q b C p l) (hN : (wndU l x.tx k).length ≤ N) :
    Calls Try.prog 33 #[.pointer (some ⟨q, 0, none⟩), txVN x.tx, .agg (eightA k.1)] w fun e w' => ∃ v, e = .returned v ∧ w'.ownsRow w.heap.size 30 3 v (wndU l x.tx k).length (flat txCs ((wndU l x.tx k).map txI)) ∧ Below w.heap.size w w' := by
  have HNN := hide hN
  have HSS := hide HS
  have HFL := hide (fun g hg => h.flt (k := g) hg)
  have HOK := hide h.ok
  clear hN HS
  have hxb : TxB x.tx := (h.ok.oks x hx).1
  have hE : (gU l p ⟨x.tx, hxb⟩).getD zE = (x.tm, x.tx, x.pr, some (p x.tx).1, some (p x.tx).2) := by
    have e : gU l p ⟨x.tx, hxb⟩ = some (x.tm, x.tx, x.pr, some (p x.tx).1, some (p x.tx).2) := by show (usL l x.tx).map _ = _; rw [(usL_some h.ok).2 ⟨hx, rfl⟩]; rfl
    rw [e]; rfl
  obtain ⟨⟨xm1, xm2⟩, hxm⟩ : ∃ m, m = p x.tx := ⟨_, rfl⟩
  rw [← hxm] at hE
  have hA := alloc_below14 w (.cells #[.int .u8 (x.tx.1 : Int), .int .u32 (x.tx.2.1 : Int), .int .u32 (x.tx.2.2 : Int)] 30)
  have hA2 := alloc_below14 (w.alloc (.cells #[.int .u8 (x.tx.1 : Int), .int .u32 (x.tx.2.1 : Int), .int .u32 (x.tx.2.2 : Int)] 30)) (.cells (eightA k.1) 34)
  have hB2 := hA.trans (hA2.mono hA.size)
  have HXT := hide ((box_new w #[.int .u8 (x.tx.1 : Int), .int .u32 (x.tx.2.1 : Int), .int .u32 (x.tx.2.2 : Int)] 30).belowI hA2)
  have HXK : Hid (Box ((w.alloc (.cells #[.int .u8 (x.tx.1 : Int), .int .u32 (x.tx.2.1 : Int), .int .u32 (x.tx.2.2 : Int)] 30)).alloc (.cells (eightA k.1) 34)) (w.heap.size + 1) (eightA k.1) 34) := hide (by have := box_new (w.alloc (.cells #[.int .u8 (x.tx.1 : Int), .int .u32 (x.tx.2.1 : Int), .int .u32 (x.tx.2.2 : Int)] 30)) (eightA k.1) 34; simpa using this)
  obtain ⟨w1, hw1⟩ : ∃ w1, w1 = (w.alloc (.cells #[.int .u8 (x.tx.1 : Int), .int .u32 (x.tx.2.1 : Int), .int .u32 (x.tx.2.2 : Int)] 30)).alloc (.cells (eightA k.1) 34) := ⟨_, rfl⟩
  obtain ⟨p1, hp1⟩ : ∃ p1, p1 = w.heap.size := ⟨_, rfl⟩
  obtain ⟨p2, hp2⟩ : ∃ p2, p2 = p1 + 1 := ⟨_, rfl⟩
  rw [← hw1, ← hp1] at HXT
  rw [← hw1, ← hp1, ← hp2] at HXK
  rw [← hw1] at hB2
  have hW1 := hw1.symm
  have hP1 := hp1.symm
  have hP2 := hp2.symm
  have H1 := hide (h.below hB2)
  have HB := hide hB2
  obtain ⟨n, n', _, hm2, _⟩ := H1.out.maps x hx
  rw [← hxm] at hm2
  have h0 : w1.cell? ⟨q, 0, none⟩ = some (.map (some b)) := H1.out.box.cell 0 _ rfl
  obtain ⟨k0, k1, k2⟩ := HXT.out.three
  obtain ⟨x0, x1, x2, x3, x4, x5, x6, x7⟩ := box_eight14 HXK.out
  have L1 := (H1.out.m.below (below_drew14 w1)).look1 umTy ⟨x.tx, hxb⟩
  rw [hE] at L1
  have hf3 := field3_us (x.tm, x.tx, x.pr, some xm1, some xm2)
  have L2 := (MRead.look (.inr ⟨_, _, rfl, hm2.below (below_drew14 w1)⟩) k : (Instr.lookup 64 (.map (some xm2)) (kyV k.1) false).run Try.prog w1.drew = _)
  clear h hA hA2 hB2 hw1 hp1 hp2 hE hm2 hxm
  have HXB := hide hxb
  have HGX := hide (getU_of H1.out.ok hx)
  obtain ⟨⟨xa, xb, xc⟩, xm, xp, xh, xw⟩ := x
  dsimp only at *
  go_enter Try.func33, Try.ntmps33
  go_wp2_with fail
  go_region
  have HB2 : Hid (Below w.heap.size w w1.drew) := hide (HB.out.trans ((below_drew14 w1).mono HB.out.size))
  have H2 := hide (H1.out.below (below_drew14 w1))
  have HXT2 := hide (HXT.out.belowI (below_drew14 w1))
  have HXK2 := hide (HXK.out.belowI (below_drew14 w1))
  have h02 : w1.drew.cell? ⟨q, 0, none⟩ = some (.map (some b)) := H2.out.box.cell 0 _ rfl
  have HZ1 : Hid (p1 < w1.drew.heap.size ∧ p2 < w1.drew.heap.size) := hide ⟨HXT2.out.lt, HXK2.out.lt⟩
  clear h0 k0 k1 k2 x0 x1 x2 x3 x4 x5 x6 x7 L1 L2 hf3 H1 HB HXT HXK
  generalize w1.drew = w2 at *
  go_wp2_with (at_range; refine wp_range_g umTy _ rfl _ rfl rfl H2.out.m ?_; intro w3 hrg hb2 hs2)
  go_frame
  obtain ⟨r, hr⟩ : ∃ r, r = w2.heap.size := ⟨_, rfl⟩
  rw [← hr] at hrg ⊢
  have HRG := hide hrg
  have HB3 := hide hb2
  have HRR := hide hr
  have HSZ : Hid (w.heap.size ≤ w2.heap.size) := hide HB2.out.size
  have HWM : Hid (∀ t, t ∈ wndU l (xa, xb, xc) k ↔ ∃ y ∈ l, (y.pr = false ∧ Old (⟨(xa, xb, xc), xm, xp, xh, xw⟩ : UsP KeyT) y ∧ Apart (xw k) (y.h k)) ∧ y.tx = t) := hide (fun t => by rw [wndU_mem, HGX.out])
  clear hrg hb2 hs2 h02 hr
  go_loopw [8] (fun y wr => ∃ (ks : List TxT) (ss : List TxN) (ax : Option Addr) (cx : Nat), y = .slice ax ss.length cx ∧ Hid (ss = whoP (wayP l (⟨(xa, xb, xc), xm, xp, xh, xw⟩ : UsP KeyT) k) ks) ∧ Hid (URng wr b r l p ks) ∧ Hid (wr.ownsRow w2.heap.size 30 3 (.slice ax ss.length cx) ss.length (flat txCs (ss.map txI))) ∧ Hid (Below w2.heap.size w2 wr)) (fun _ wr => wr.rangeLeft b r)
  case atStart => exact ⟨[], [], none, 0, rfl, hide rfl, HRG, hide (World.ownsRow_nil _ _ _ _), HB3⟩
  case round =>
    obtain ⟨ks, ss, ax, cx, rfl, HSE, HG, HO, HBW⟩ := hrel
    go_wp2_with (at_next; refine wp_next_g umTy _ rfl _ rfl rfl HG.out ?_ ?_)
    · intro hdone
      have HKW : Hid (∀ t ∈ ks, ∃ u ∈ l, u.tx = t.1) := hide (fun t' ht' => by
        obtain ⟨e', he'⟩ := Option.isSome_iff_exists.1 (HG.out.was t' ht')
        obtain ⟨u', hu', ht2, _⟩ := gU_some HOK.out he'
        exact ⟨u', hu', ht2⟩)
      have HIF : Hid (∀ t, t ∈ ss ↔ t ∈ wndU l (xa, xb, xc) k) := hide (fun t => by
        rw [HSE.out, HWM.out t]
        exact whoP_all HOK.out (gU_none hdone.all HOK.out) HKW.out t)
      have HND : Hid ss.Nodup := hide (by rw [HSE.out]; exact whoP_nodup HG.out.nodup)
      have HLE : Hid (ss.length ≤ N) := hide (by
        have e : ss.length = (wndU l (xa, xb, xc) k).length := ((List.perm_ext_iff_of_nodup HND.out (wndU_nd HOK.out _ k)).2 HIF.out).length_eq
        rw [e]; exact HNN.out)
      have CS := hide (HSS.out wr q b C p l w2.heap.size (.slice ax ss.length cx) ss (H2.out.below HBW.out) HO.out (fun t ht => by
        obtain ⟨u, hu, _, e⟩ := (HWM.out t).1 ((HIF.out t).1 ht)
        exact ⟨u, hu, e⟩) HND.out HLE.out (fun g hg hF => by
        have h1 := (HO.out.lt g hg).1
        have h2 := HFL.out g hF
        have h3 := HB2.out.size
        omega))
      have HLTG : Hid (∀ j, (Value.slice ax ss.length cx).ownBlock = some j → w2.heap.size ≤ j) := hide (fun j hj => (HO.out.lt j hj).1)
      clear hdone
      go_wp2_with (go_at_call 29; refine CS.out.mono ?_; rintro e w6 ⟨rfl, ss', hm6, hp6, ho6, hk6⟩; have HQE : Hid (ss' = wndU l (xa, xb, xc) k) := hide (names_unique hp6 (wndU_old HOK.out _ k) (fun t => (hm6 t).trans (HIF.out t))); have HO6 := hide ho6; have HB6 := hide (HBW.out.trans (hk6.below HBW.out.size HLTG.out)); clear hm6 hp6 ho6 hk6)
      go_ret
      have hfin := HO6.out
      have hlen : ss'.length = (wndU l (xa, xb, xc) k).length := by rw [HQE.out]
      rw [hlen] at hfin
      rw [HQE.out] at hfin
      exact ⟨_, rfl, owns_base15 hfin HSZ.out, HB2.out.trans (HB6.out.mono HB2.out.size)⟩
    · rintro ⟨t, e, w3, hk, he, hrg3, hlt, hkb, hsz, hen⟩
      dsimp only at hen ⊢
      obtain ⟨u, hu, hut, rfl⟩ := gU_some H2.out.ok he
      have hbw3 : Below w2.heap.size w2 w3 := HBW.out.trans (hkb.below HBW.out.size (fun j e => by rw [e, HRR.out]; exact Nat.le_refl _))
      have HNR0 : Hid (∀ g, (Value.slice ax ss.length cx).ownBlock = some g → g ≠ r) := hide (fun g e e2 => by
        obtain ⟨_, ⟨h1, _⟩ | ⟨g', cap, cur, h1, _, hb, _⟩⟩ := HO.out
        · rw [h1] at e; cases e
        · rw [h1] at e
          cases e
          obtain ⟨R0, D0, lf, ct, n0, _, ⟨es, clock, since, seen, c0, _, _, _, _, hr0, _⟩, _⟩ := HG.out.own
          subst e2
          rw [hb] at hr0
          cases hr0)
      have HO3 := hide (owns_keep HO.out hkb HNR0.out)
      have HB33 := hide hbw3
      have HKL := hide (ks_le (l := l) hrg3.nodup (fun t' ht' => by
        obtain ⟨e', he'⟩ := Option.isSome_iff_exists.1 (hrg3.was t' ht')
        obtain ⟨u', hu', ht2, _⟩ := gU_some HOK.out he'
        exact ⟨u', hu', ht2⟩))
      obtain ⟨n1, n2, hm1, hm2, _⟩ := (H2.out.below hbw3).maps u hu
      obtain ⟨⟨y1, y2, y3⟩, ht⟩ := t
      dsimp only at *
      rw [hut] at hm1 hm2
      obtain ⟨⟨m1, m2⟩, hmm⟩ : ∃ m, m = p (y1, y2, y3) := ⟨_, rfl⟩
      rw [← hmm] at hen hm1 hm2
      have HN : Hid (∀ v ∈ l, v.tx = (y1, y2, y3) → v = u) := hide (fun v hv e => rise_eq H2.out.ok.rise hv hu (e.trans hut.symm))
      have HGU : Hid (getU l (y1, y2, y3) = u) := hide (by rw [← hut]; exact getU_of H2.out.ok hu)
      have HUU := hide hu
      obtain ⟨ut, um, up, uh, uw⟩ := u
      dsimp only at *
      subst hut
      have HA5 : Hid (Below w3.heap.size w3 ((w3.alloc (.cells #[.int .u8 (y1 : Int), .int .u32 (y2 : Int), .int .u32 (y3 : Int)] 30)).alloc (.cells #[.int .u32 (um : Int), .int .u8 (y1 : Int), .int .u32 (y2 : Int), .int .u32 (y3 : Int), .bool up, .map (some m1), .map (some m2)] 66))) := hide ((alloc_below14 _ _).trans ((alloc_below14 _ _).mono (by simp)))
      have HB5 := hide (hbw3.trans (HA5.out.mono hbw3.size))
      obtain ⟨k0, k1, k2⟩ := (HXT2.out.belowI HB5.out).three
      obtain ⟨x0, x1, x2, x3, x4, x5, x6, x7⟩ := box_eight14 (HXK2.out.belowI HB5.out)
      have HM1 := hide (hm1.below HA5.out)
      have hg5 := hrg3.below HA5.out
      have HG5 := hide hg5.1
      have HL5 := hide hg5.2
      have HLT := hide hlt
      have HX5 : Hid (Box ((w3.alloc (.cells #[.int .u8 (y1 : Int), .int .u32 (y2 : Int), .int .u32 (y3 : Int)] 30)).alloc (.cells #[.int .u32 (um : Int), .int .u8 (y1 : Int), .int .u32 (y2 : Int), .int .u32 (y3 : Int), .bool up, .map (some m1), .map (some m2)] 66)) (w3.heap.size + 1) (usA (um, (y1, y2, y3), up, some m1, some m2)) 66) := hide (by have := box_new (w3.alloc (.cells #[.int .u8 (y1 : Int), .int .u32 (y2 : Int), .int .u32 (y3 : Int)] 30)) (usA (um, (y1, y2, y3), up, some m1, some m2)) 66; simpa using this)
      clear he hrg3 hkb hsz hbw3 hm1 hm2 hlt hmm hk hg5 hu
      have HO5 := hide (owns_keep HO3.out (KeepBut.of_below (fun _ => False) HA5.out) (fun _ _ h => h))
      have HX6 : Hid (Box ((w3.alloc (.cells #[.int .u8 (y1 : Int), .int .u32 (y2 : Int), .int .u32 (y3 : Int)] 30)).alloc (.cells #[.int .u32 (um : Int), .int .u8 (y1 : Int), .int .u32 (y2 : Int), .int .u32 (y3 : Int), .bool up, .map (some m1), .map (some m2)] 66)) w3.heap.size #[.int .u8 (y1 : Int), .int .u32 (y2 : Int), .int .u32 (y3 : Int)] 30) := hide ((box_new w3 _ _).belowI (alloc_below14 _ _))
      have HWP : Hid (wayP l (⟨(xa, xb, xc), xm, xp, xh, xw⟩ : UsP KeyT) k (y1, y2, y3) = decide (up = false ∧ Old (⟨(xa, xb, xc), xm, xp, xh, xw⟩ : UsP KeyT) (⟨(y1, y2, y3), um, up, uh, uw⟩ : UsP KeyT) ∧ Apart (xw k) (uh k))) := hide (by unfold wayP; rw [HGU.out])
      have HNO : Hid (¬ (up = false ∧ Old (⟨(xa, xb, xc), xm, xp, xh, xw⟩ : UsP KeyT) (⟨(y1, y2, y3), um, up, uh, uw⟩ : UsP KeyT) ∧ Apart (xw k) (uh k)) → ss = whoP (wayP l (⟨(xa, xb, xc), xm, xp, xh, xw⟩ : UsP KeyT) k) (ks ++ [⟨(y1, y2, y3), ht⟩])) := hide (fun h => by rw [whoP_app, HWP.out, decide_eq_false h]; simpa using HSE.out)
      have HYES : Hid ((up = false ∧ Old (⟨(xa, xb, xc), xm, xp, xh, xw⟩ : UsP KeyT) (⟨(y1, y2, y3), um, up, uh, uw⟩ : UsP KeyT) ∧ Apart (xw k) (uh k)) → ss ++ [(y1, y2, y3)] = whoP (wayP l (⟨(xa, xb, xc), xm, xp, xh, xw⟩ : UsP KeyT) k) (ks ++ [⟨(y1, y2, y3), ht⟩])) := hide (fun h => by rw [whoP_app, HWP.out, decide_eq_true h, ← HSE.out]; rfl)
      obtain ⟨S, hS⟩ : ∃ S, S = stsF ((⟨(xa, xb, xc), xm, xp, xh, xw⟩ : UsP KeyT)).ag ((⟨(y1, y2, y3), um, up, uh, uw⟩ : UsP KeyT)).ag := ⟨_, rfl⟩
      have CB : Hid (∀ W, PLk W q b C p l → Calls Try.prog 30 #[.pointer (some ⟨q, 0, none⟩), txVN (xa, xb, xc), txVN (y1, y2, y3)] W fun e w' => e = .returned (.int .i64 S) ∧ Grown W w') := hide (fun W hW => by
        have := byAge15 q b C p l (xa, xb, xc) (y1, y2, y3) W hW HXB.out ht
        rw [HGU.out, HGX.out, ← hS] at this
        exact this)
      have HS : Hid (Old (⟨(xa, xb, xc), xm, xp, xh, xw⟩ : UsP KeyT) (⟨(y1, y2, y3), um, up, uh, uw⟩ : UsP KeyT) ↔ S < 0) := hide (by rw [hS])
      have HPL := hide (H2.out.below HB5.out)
      have HC8 : Hid (∀ W, Below ((w3.alloc (.cells #[.int .u8 (y1 : Int), .int .u32 (y2 : Int), .int .u32 (y3 : Int)] 30)).alloc (.cells #[.int .u32 (um : Int), .int .u8 (y1 : Int), .int .u32 (y2 : Int), .int .u32 (y3 : Int), .bool up, .map (some m1), .map (some m2)] 66)).heap.size ((w3.alloc (.cells #[.int .u8 (y1 : Int), .int .u32 (y2 : Int), .int .u32 (y3 : Int)] 30)).alloc (.cells #[.int .u32 (um : Int), .int .u8 (y1 : Int), .int .u32 (y2 : Int), .int .u32 (y3 : Int), .bool up, .map (some m1), .map (some m2)] 66)) W → (W.cell? ⟨w3.heap.size + 1, 5, none⟩ = some (.map (some m1)) ∧ W.cell? ⟨p2, 0, none⟩ = some (.int .u8 (at8 k.1 0)) ∧ W.cell? ⟨p2, 1, none⟩ = some (.int .u8 (at8 k.1 1)) ∧ W.cell? ⟨p2, 2, none⟩ = some (.int .u8 (at8 k.1 2)) ∧ W.cell? ⟨p2, 3, none⟩ = some (.int .u8 (at8 k.1 3)) ∧ W.cell? ⟨p2, 4, none⟩ = some (.int .u8 (at8 k.1 4)) ∧ W.cell? ⟨p2, 5, none⟩ = some (.int .u8 (at8 k.1 5)) ∧ W.cell? ⟨p2, 6, none⟩ = some (.int .u8 (at8 k.1 6)) ∧ W.cell? ⟨p2, 7, none⟩ = some (.int .u8 (at8 k.1 7))) ∧ (Instr.lookup 64 (.map (some m1)) (kyV k.1) false).run Try.prog W = .ok (.int .u8 ((uh k : Nat) : Int)) W) := hide (fun W hW => ⟨⟨(HX5.out.belowI hW).cell 5 _ rfl, box_eight14 ((HXK2.out.belowI HB5.out).belowI hW)⟩, MRead.look (.inr ⟨_, _, rfl, HM1.out.below hW⟩) k⟩)
      have HC9 : Hid (∀ W, Below ((w3.alloc (.cells #[.int .u8 (y1 : Int), .int .u32 (y2 : Int), .int .u32 (y3 : Int)] 30)).alloc (.cells #[.int .u32 (um : Int), .int .u8 (y1 : Int), .int .u32 (y2 : Int), .int .u32 (y3 : Int), .bool up, .map (some m1), .map (some m2)] 66)).heap.size ((w3.alloc (.cells #[.int .u8 (y1 : Int), .int .u32 (y2 : Int), .int .u32 (y3 : Int)] 30)).alloc (.cells #[.int .u32 (um : Int), .int .u8 (y1 : Int), .int .u32 (y2 : Int), .int .u32 (y3 : Int), .bool up, .map (some m1), .map (some m2)] 66)) W → _) := hide (fun W hW => (HX6.out.belowI hW).three)
      clear hS
      cases up with
      | true =>
        have HS2 := hide (HNO.out (fun h => by cases h.1))
        go_wp2_with fail
        go_roundw
        case rel => exact ⟨ks ++ [⟨(y1, y2, y3), ht⟩], ss, ax, cx, rfl, HS2, HG5, HO5, HB5⟩
        case measure => rw [HL5.out]; exact HLT.out
      | false =>
        by_cases hS : S < 0
        case neg =>
          have HS2 := hide (HNO.out (fun h => hS (HS.out.1 h.2.1)))
          go_wp2_with (first | (go_at_call 53; refine (apartB _ _ _).mono ?_; rintro e w' ⟨rfl, rfl⟩) | (go_at_call 30; refine (CB.out _ HPL.out).mono ?_; rintro e w8 ⟨rfl, hG⟩; have HB8 := hide hG.below; have hc8 := HC8.out w8 hG.below; obtain ⟨⟨hc6, c0, c1, c2, c3, c4, c5, c6, c7⟩, L8⟩ := hc8; obtain ⟨t0, t1, t2⟩ := HC9.out w8 hG.below; clear hG))
          have HGZ := hide (HG5.out.below HB8.out)
          have HOZ := hide (owns_keep HO5.out (KeepBut.of_below (fun _ => False) HB8.out) (fun _ _ h => h))
          go_roundw
          case rel => exact ⟨ks ++ [⟨(y1, y2, y3), ht⟩], ss, ax, cx, rfl, HS2, hide HGZ.out.1, HOZ, hide (HB5.out.trans (HB8.out.mono HB5.out.size))⟩
          case measure => rw [HGZ.out.2, HL5.out]; exact HLT.out
        case pos =>
        have HA1 : Hid (apB (xw k) (uh k) = true ↔ Apart (xw k) (uh k)) := hide decide_eq_true_iff
        cases a1 : apB (xw k) (uh k) with
        | false =>
          have HS2 := hide (HNO.out (fun h => by have := HA1.out.2 h.2.2; rw [a1] at this; cases this))
          go_wp2_with (first | (go_at_call 53; refine (apartB _ _ _).mono ?_; rintro e w' ⟨rfl, rfl⟩) | (go_at_call 30; refine (CB.out _ HPL.out).mono ?_; rintro e w8 ⟨rfl, hG⟩; have HB8 := hide hG.below; have hc8 := HC8.out w8 hG.below; obtain ⟨⟨hc6, c0, c1, c2, c3, c4, c5, c6, c7⟩, L8⟩ := hc8; obtain ⟨t0, t1, t2⟩ := HC9.out w8 hG.below; clear hG))
          have HGZ := hide (HG5.out.below HB8.out)
          have HOZ := hide (owns_keep HO5.out (KeepBut.of_below (fun _ => False) HB8.out) (fun _ _ h => h))
          go_roundw
          case rel => exact ⟨ks ++ [⟨(y1, y2, y3), ht⟩], ss, ax, cx, rfl, HS2, hide HGZ.out.1, HOZ, hide (HB5.out.trans (HB8.out.mono HB5.out.size))⟩
          case measure => rw [HGZ.out.2, HL5.out]; exact HLT.out
        | true =>
          have HS2 := hide (HYES.out ⟨rfl, HS.out.2 hS, HA1.out.1 a1⟩)
          have HTL : Hid ((ss.map txI).length = ss.length) := hide (by rw [List.length_map])
          have HTN : Hid ((ss ++ [(y1, y2, y3)]).length = ss.length + 1) := hide (by rw [List.length_append]; rfl)
          have HTM : Hid (ss.map txI ++ [txI (y1, y2, y3)] = (ss ++ [(y1, y2, y3)]).map txI) := hide (by rw [List.map_append]; rfl)
          have HSL : Hid (ss.length + 1 ≤ 1000000) := hide (by
            have h1 : ss.length ≤ ks.length := by rw [HSE.out]; unfold whoP; exact Nat.le_trans (List.length_filter_le _ _) (by rw [List.length_map]; exact Nat.le_refl _)
            have h2 := HKL.out
            rw [List.length_append] at h2
            have h3 := HOK.out.few
            omega)
          have HNR : Hid (∀ g, (Value.slice ax ss.length cx).ownBlock = some g → g ≠ r ∧ g ≠ b) := hide (fun g hg => ⟨HNR0.out g hg, fun e => by
            have h1 := (HO.out.lt g hg).1
            have h2 := H2.out.m.lt
            omega⟩)
          go_wp2_with (first | (at_builtin; refine wp_recs recTX15 _ rfl _ _ rfl w2.heap.size (.slice ax ss.length cx) (.slice (some ⟨w8.heap.size, 0, none⟩) 1 1) (ss.map txI) [txI (y1, y2, y3)] rfl ?_ rfl HSRC.out ?_ ?_ HBS.out ?_) | (go_at_call 53; refine (apartB _ _ _).mono ?_; rintro e w' ⟨rfl, hw'⟩; rw [hw']; clear hw' w') | (go_at_call 30; refine (CB.out _ HPL.out).mono ?_; rintro e w8 ⟨rfl, hG⟩; have HB8 := hide hG.below; have hc8 := HC8.out w8 hG.below; obtain ⟨⟨hc6, c0, c1, c2, c3, c4, c5, c6, c7⟩, L8⟩ := hc8; obtain ⟨t0, t1, t2⟩ := HC9.out w8 hG.below; have HA9 := hide (HB8.out.trans ((alloc_below14 w8 (.cells #[.int .u8 (y1 : Int), .int .u32 (y2 : Int), .int .u32 (y3 : Int)] 30)).mono HB8.out.size)); have HSRC := hide (src_new (enc := txCs) w8 (txI (y1, y2, y3)) _ (txCs_arr15 (y1, y2, y3)) 30); have HO9 := hide (owns_keep HO5.out (KeepBut.of_below (fun _ => False) HA9.out) (fun _ _ h => h)); have HB9 := hide (HB5.out.trans (HA9.out.mono HB5.out.size)); have HBS := hide HB9.out.size; have HG9 := hide (HG5.out.below HA9.out); clear hG))
          · rw [HTL.out]; exact HO9.out
          · exact (fun z hz => by simp at hz; subst hz; exact tx_one15 _)
          · rw [HTL.out]; exact HSL.out
          intro v4 w4 ho4 hg4 _
          rw [HTM.out] at ho4
          obtain ⟨a4, c4, hv4, _⟩ := owns_shapeR ho4
          subst hv4
          have HB4 : Hid (Below w2.heap.size w2 w4) := hide (HB9.out.grown hg4 HBS.out (fun j hj => (HO9.out.lt j hj).1))
          have HG4 := hide (HG9.out.1.keep (kept15 hg4) (fun e => (HNR.out _ e).2 rfl) (fun e => (HNR.out _ e).1 rfl))
          have HO4 := hide ho4
          clear ho4 hg4
          go_wp2_with fail
          go_roundw
          case rel => exact ⟨ks ++ [⟨(y1, y2, y3), ht⟩], ss ++ [(y1, y2, y3)], a4, c4, by rw [HTN.out], HS2, hide HG4.out.1, hide (by rw [HTN.out]; exact HO4.out), HB4⟩
          case measure => rw [HG4.out.2, HG9.out.2, HL5.out]; exact HLT.out
end
end Go.Proofs.Ytddflccjmigloaa
