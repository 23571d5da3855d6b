/-
  NetOrder: others stay in their order, whatever one does. The walk, by the bundle. Own work.
-/
import Derived.Test.YteehkjdolmmapaaNtAlive
import Derived.Test.YteehkjdolmmapaaNtCount
import Derived.Test.YteehkjdolmmapaaNtOrdP
import Derived.Deep.LoopGhost
namespace Go.Proofs.Yteehkjdolmmapaa
open Go.RowKit

section
variable {D : World → Nat → (Nat → Prop) → Nt → Prop}
set_option maxRecDepth 100000 in
set_option maxHeartbeats 3200000 in
theorem Lies.below0 {w w' : World} {p : Nat} {v : Value} {xs : List Int} {w0 : World} (h : Lies .u8 w v xs) (hk : KeepBut (fun k => k = p) w w') (h0 : Lies .u8 w0 v xs) (hp : w0.heap.size ≤ p := by exact Nat.le_refl _) : Lies .u8 w' v xs := by
  rcases h with h | ⟨hx, b, off, cap, rfl, hb, hl, hm, hc⟩
  · exact .inl h
  · refine .inr ⟨hx, b, off, cap, rfl, Nat.lt_of_lt_of_le hb hk.size, hl, hm, fun t ht => ?_⟩
    have hlt : b < w0.heap.size := by
      rcases h0 with ⟨e, _⟩ | ⟨_, b', off', cap', e, hb', _⟩
      · exact absurd e hx
      · cases e; exact hb'
    rw [← hc t ht]
    exact World.cell?_of_block (hk.block b hb (by omega))
set_option maxRecDepth 100000 in
set_option maxHeartbeats 3200000 in
theorem walkR8 (H : NetDo D) (m0 : Nat) (a : NAct) (sv0 : Value) (w : World) (hm0 : m0 < 256) (ha : a.Ok) (hLa : Lies .u8 w sv0 a.b) :
    Calls Try.prog 5 #[.int .u8 (m0 : Int), .agg (ncells a sv0)] w fun e w' => e = .returned (.bool true) ∧ Below w.heap.size w w' := by
  obtain ⟨sa, sc, hsv⟩ := hLa.shape
  subst hsv
  have hlm := hLa.len
  unfold maxLen at hlm
  have CA := hide (fun W => alive_by8 H W)
  have HLA0 := hide hLa
  have HA := hide ha
  have hak := ha.k
  obtain ⟨kk, hkk⟩ : ∃ kk : Nat, kk = m0 % 30 + 1 := ⟨_, rfl⟩
  have hk1 : (m0 : Int) % 30 + 1 = (kk : Int) := by omega
  have hkb : 1 ≤ kk ∧ kk ≤ 30 := by omega
  unfold ncells
  have hA0 := alloc_below8 w (.cells #[.int .u8 (a.kind : Int), .int .u8 (a.fr : Int), .int .u8 (a.to : Int), .int .i64 a.i, .slice sa a.b.length sc] 37)
  have hX0 := box_new w #[.int .u8 (a.kind : Int), .int .u8 (a.fr : Int), .int .u8 (a.to : Int), .int .i64 a.i, .slice sa a.b.length sc] 37
  have HX0 := hide hX0
  have HB00 := hide hA0
  clear hkk hLa ha hX0 hA0
  by_cases hbig : 5000 < a.b.length
  · have dbig : decide ((a.b.length : Int) > 5000) = true := decide_eq_true (by omega)
    go_enter Try.func5, Try.ntmps5
    go_wp2_with fail
    revert HX0 HB00
    generalize w.alloc (.cells #[.int .u8 (a.kind : Int), .int .u8 (a.fr : Int), .int .u8 (a.to : Int), .int .i64 a.i, .slice sa a.b.length sc] 37) = w1
    intro HX0 HB00
    have HB := HB00
    refine (H.new 40 w1 (by decide)).mono ?_
    rintro e w2 ⟨q, F0, rfl, hD, hF, hB⟩
    have HX2 := hide (HX0.out.below8 hB)
    replace HB := hide (HB.out.trans (hB.mono HB.out.size))
    have x4 := HX2.out.cell 4 _ rfl
    clear hB hD hF
    go_wp2_with fail
    refine (CA.out w2).mono ?_
    rintro e we ⟨rfl, hB⟩
    replace HB := hide (HB.out.trans (hB.mono HB.out.size))
    clear hB
    go_wp2_with fail
    go_ret
    exact ⟨rfl, HB.out⟩
  · have dbig : decide ((a.b.length : Int) > 5000) = false := decide_eq_false (by omega)
    obtain ⟨qq, hqq⟩ : ∃ qq : Int, qq = a.i.tmod (kk : Int) := ⟨_, rfl⟩
    have hq1 : -30 < qq ∧ qq < 30 := by
      have h1 := Int.tmod_lt_of_pos a.i (show (0 : Int) < (kk : Int) by omega)
      have h2 := Int.lt_tmod_of_pos a.i (show (0 : Int) < (kk : Int) by omega)
      omega
    have hqk : 0 < qq + (kk : Int) := by
      have h2 := Int.lt_tmod_of_pos a.i (show (0 : Int) < (kk : Int) by omega)
      omega
    obtain ⟨j, hj⟩ : ∃ j : Nat, (j : Int) = (qq + (kk : Int)) % (kk : Int) := ⟨((qq + (kk : Int)) % (kk : Int)).toNat, by have := Int.emod_nonneg (qq + (kk : Int)) (show (kk : Int) ≠ 0 by omega); omega⟩
    have hjk : j < kk := by have := Int.emod_lt_of_pos (qq + (kk : Int)) (show (0 : Int) < (kk : Int) by omega); omega
    have hj1 : (qq + (kk : Int)) % (kk : Int) = (j : Int) := hj.symm
    have hj2 : (qq + (kk : Int)).tmod (kk : Int) = (j : Int) := by rw [Int.tmod_eq_emod_of_nonneg (by omega)]; exact hj1
    have hq2 : a.i.tmod (kk : Int) = qq := hqq.symm
    have hk0 : ((kk : Int) == 0) = false := by simp; omega
    clear hj hqq hqk
    go_enter Try.func5, Try.ntmps5
    go_wp2_with fail
    revert HX0 HB00
    generalize w.alloc (.cells #[.int .u8 (a.kind : Int), .int .u8 (a.fr : Int), .int .u8 (a.to : Int), .int .i64 a.i, .slice sa a.b.length sc] 37) = w1
    intro HX0 HB00
    have HB := HB00
    refine (H.new 40 w1 (by decide)).mono ?_
    rintro e w2 ⟨q, F0, rfl, hD, hF, hB⟩
    have HX2 := hide (HX0.out.below8 hB)
    have HX := HX2
    have HS0 : Hid (Since8 D w1 q (ordN 0) w2) := hide ⟨F0, hD, hF, hB⟩
    have x4 := HX2.out.cell 4 _ rfl
    clear hB hD hF HX2 HX
    go_wp2_with fail
    clear x4
    go_loopg [39] kk (fun g i wr => ∃ k : Nat, k + g = kk ∧ i = .int .i64 k ∧ Hid (Since8 D w1 q (ordN k) wr))
    case atStart => exact ⟨0, by omega, rfl, HS0⟩
    case round =>
      obtain ⟨k, hk, rfl, HS⟩ := hrel
      obtain ⟨F, hD, hF, hB⟩ := HS.out
      have HD := hide hD
      have HF := hide hF
      have HB1 := hide hB
      clear hD hF hB HS HS0
      cases gk with
      | succ g =>
        have hz : (k : Int) < (kk : Int) := by omega
        have hk30 : k < 30 := by omega
        have hA := alloc_below8 wr (.cells #[.int .u8 (k : Int)] 5)
        have C : Hid (Calls Try.prog 23 #[.pointer (some ⟨q, 0, none⟩), .agg #[.int .u8 0, .int .u8 0, .slice (some ⟨wr.heap.size, 0, none⟩) 1 1]] (wr.alloc (.cells #[.int .u8 (k : Int)] 5)) fun e w' => e = .returned (.int .i64 0) ∧ NDid D (wr.alloc (.cells #[.int .u8 (k : Int)] 5)) w' q F (ordN (k + 1))) := hide (by
          have := H.sen (oneW k) (.slice (some ⟨wr.heap.size, 0, none⟩) 1 1) (H.below HD.out hA) (oneW_ok (by omega)) (build1n wr (k : Int) (0, 0)) (Nat.zero_le _)
          rw [(ord_send (show k < 40 by omega)).1, (ord_send (show k < 40 by omega)).2] at this
          exact this)
        have HA1 := hide hA
        clear hA
        go_wp2_with fail
        refine C.out.mono ?_
        rintro e W2 ⟨rfl, h2⟩
        have HS2 : Hid (Since8 D w1 q (ordN (k + 1)) W2) := hide (Since8.did (HB1.out.trans (HA1.out.mono HB1.out.size)) HF.out h2)
        clear h2 C HA1 HD HF HB1
        go_wp2_with fail
        go_roundg g
        case measure => omega
        case rel => exact ⟨k + 1, by omega, by first | rfl | go_num, HS2⟩
      | zero =>
        obtain rfl : k = kk := by omega
        have hz : ¬ ((k : Int) < (k : Int)) := by omega
        have hXr := HX0.out.below8 HB1.out
        have x0 := hXr.cell 0 _ rfl
        have x1 := hXr.cell 1 _ rfl
        have x2 := hXr.cell 2 _ rfl
        have x3 := hXr.cell 3 _ rfl
        have x4 := hXr.cell 4 _ rfl
        have z3 := hXr.frozen 3
        have hXs := hXr.set (i := 3) (v := .int .i64 (j : Int))
        have hks : KeepBut (fun k => k = w.heap.size) wr (wr.setCell ⟨w.heap.size, 3, none⟩ (.int .i64 (j : Int))) := (KeepBut.refl (fun k => k = w.heap.size) wr).setCell (p := ⟨w.heap.size, 3, none⟩) (.inl rfl) _
        have hFw : ∀ k, F k → ¬ k = w.heap.size := fun k hf e => by have h1 := HF.out k hf; have h2 := HX0.out.lt; omega
        have HDs := hide (H.keep HD.out hks hFw)
        obtain ⟨a', ha'⟩ : ∃ a' : NAct, a' = ⟨a.kind, a.fr, a.to, (j : Int), a.b⟩ := ⟨_, rfl⟩
        have HOKA : Hid a'.Ok := hide (by rw [ha']; exact ⟨HA.out.k, HA.out.f, HA.out.t, by simp only; omega, by simp only; omega, HA.out.b⟩)
        have HRI : Hid (Rising (nctD (ordN k) a').l k j (a'.kind % 6)) := hide (ord_act (by omega) hjk a' (by rw [ha']))
        have HLs : Hid (Lies .u8 (wr.setCell ⟨w.heap.size, 3, none⟩ (.int .i64 (j : Int))) (.slice sa a.b.length sc) a.b) := hide (by
          have hBw : Below w.heap.size w wr := HB00.out.trans (HB1.out.mono HB00.out.size)
          exact (HLA0.out.below hBw).below0 hks HLA0.out)
        have C := does_any8 H q F (ordN k) a' (.slice sa a.b.length sc) _ HDs.out HOKA.out (by rw [ha']; exact HLs.out) (Nat.zero_le _)
        have hak' : a'.kind = a.kind := by rw [ha']
        rw [hak'] at HRI
        have e1 : a'.fr = a.fr := by rw [ha']
        have e2 : a'.to = a.to := by rw [ha']
        have e3 : a'.i = (j : Int) := by rw [ha']
        rw [hak', e1, e2, e3] at C
        have HC := hide C
        have HXs := hide hXs
        have HKS := hide hks
        have HFW := hide hFw
        clear C hXr hXs hks hFw ha' hak' e1 e2 e3
        go_wp2_with fail
        refine HC.out.mono ?_
        rintro e W3 ⟨sv3, rfl, h3⟩
        obtain ⟨F3, hD3, hk3, hF3, _, _⟩ := h3
        have HX3 := hide (HXs.out.keep hk3 (fun hf => HFW.out _ hf rfl))
        have HB3 : Hid (Below w.heap.size w W3) := hide ((HB00.out.trans (HB1.out.mono HB00.out.size)).trans ((HKS.out.below (Nat.le_trans HB00.out.size HB1.out.size) (fun k e => Nat.le_of_eq e.symm)).trans (hk3.below (by simpa using Nat.le_trans HB00.out.size HB1.out.size) (fun k hf => Nat.le_trans HB00.out.size (HF.out k hf)))))
        have HD3 := hide hD3
        have HF3 : Hid (∀ k, F3 k → w1.heap.size ≤ k) := hide (fun k hf => by
          rcases hF3 k hf with h | h
          · exact HF.out k h
          · exact Nat.le_trans HB1.out.size (by simpa using h))
        clear hD3 hk3 hF3 HC HXs HKS HFW HDs HLs HD HF x0 x1 x2 x3 x4 z3
        generalize (nctD (ordN k) a') = n' at *
        generalize (nctW (ordN k) a') = wx at *
        generalize (nctA (ordN k) a') = ex at *
        go_wp2_with fail
        refine (H.len HD3.out).mono ?_
        rintro e W4 ⟨rfl, m, hw⟩
        have hB : Below W3.heap.size W3 W4 := hw ▸ below_drewN8 W3 m
        replace HD3 := hide (H.below HD3.out hB)
        replace HB3 := hide (HB3.out.trans (hB.mono HB3.out.size))
        replace HX3 := hide (HX3.out.below8 hB)
        clear hw hB
        obtain ⟨LN, hLN⟩ : ∃ LN : Nat, LN = n'.l.length := ⟨_, rfl⟩
        rw [← hLN]
        have hok3 := H.ok HD3.out
        have hL40 : LN ≤ 256 := by rw [hLN]; exact Nat.le_trans hok3.full hok3.r2
        have HLN := hide hLN
        clear hLN hok3
        go_wp2_with fail
        go_loopg [9, 64] LN (fun g x i wr => ∃ (t : Nat) (la : Int), t + g = LN ∧ x = .int .i64 la ∧ i = .int .i64 t ∧ -1 ≤ la ∧ la < 256 ∧ Hid (∀ i v : Nat, t ≤ i → i < LN → i < k → (n'.l.getD i nilW).b = [(v : Int)] → v ≠ j → la < (v : Int)) ∧ Hid (D wr q F3 n') ∧ Hid (Below w.heap.size w wr) ∧ Hid (Box wr w.heap.size (#[.int .u8 (a.kind : Int), .int .u8 (a.fr : Int), .int .u8 (a.to : Int), .int .i64 (j : Int), .slice sa a.b.length sc]) 37))
        case atStart => exact ⟨0, -1, by omega, rfl, rfl, by omega, by omega, hide (fun i v _ _ _ _ _ => by omega), HD3, HB3, HX3⟩
        case round =>
          obtain ⟨t, la, ht, rfl, rfl, hla1, hla2, HLT, HD, HB, HX⟩ := hrel
          clear HD3 HB3 HX3
          cases gk with
          | zero =>
            obtain rfl : t = LN := by omega
            have hzz : ¬ ((t : Int) < (t : Int)) := by omega
            go_wp2_with fail
            refine (CA.out wr).mono ?_
            rintro e we ⟨rfl, hB⟩
            replace HB := hide (HB.out.trans (hB.mono HB.out.size))
            clear hB
            go_wp2_with fail
            go_ret
            exact ⟨rfl, HB.out⟩
          | succ g =>
            have hzz : (t : Int) < (LN : Int) := by omega
            have hin : n'.inN (t : Int) = true := by unfold Nt.inN; rw [← HLN.out]; simp; omega
            have hat : atA n' (t : Int) = 0 := by unfold atA; rw [hin]; rfl
            have hnt : n'.nth (t : Int) = n'.l.getD t nilW := by unfold Nt.nth; rw [hin, if_pos rfl, Int.toNat_natCast]
            have C := H.at' (t : Int) HD.out
            rw [hat, hnt] at C
            obtain ⟨wv, hwv⟩ : ∃ wv, wv = n'.l.getD t nilW := ⟨_, rfl⟩
            rw [← hwv] at C
            have HWV := hide hwv
            have HC := hide C
            clear C hin hat hnt hwv
            go_wp2_with fail
            refine HC.out.mono ?_
            rintro e W5 ⟨sv5, rfl, ho5, hB5⟩
            obtain ⟨a5, c5, hv5⟩ := (Lies.of_own ho5).shape
            subst hv5
            have HL5 := hide (Lies.of_own ho5)
            replace HD := hide (H.below HD.out hB5)
            replace HB := hide (HB.out.trans (hB5.mono HB.out.size))
            replace HX := hide (HX.out.below8 hB5)
            clear ho5 hB5 HC
            unfold wcs
            have hA6 := alloc_below8 W5 (.cells #[.int .u8 (wv.fr : Int), .int .u8 (wv.to : Int), .slice a5 wv.b.length c5] 50)
            have hX6 := box_new W5 #[.int .u8 (wv.fr : Int), .int .u8 (wv.to : Int), .slice a5 wv.b.length c5] 50
            replace HD := hide (H.below HD.out hA6)
            replace HB := hide (HB.out.trans (hA6.mono HB.out.size))
            replace HX := hide (HX.out.below8 hA6)
            replace HL5 := hide (HL5.out.below hA6)
            have x0 : (W5.alloc (.cells #[.int .u8 (wv.fr : Int), .int .u8 (wv.to : Int), .slice a5 wv.b.length c5] 50)).cell? ⟨w.heap.size, 0, none⟩ = some (.int .u8 (a.kind : Int)) := HX.out.cell 0 _ rfl
            have x3 : (W5.alloc (.cells #[.int .u8 (wv.fr : Int), .int .u8 (wv.to : Int), .slice a5 wv.b.length c5] 50)).cell? ⟨w.heap.size, 3, none⟩ = some (.int .i64 (j : Int)) := HX.out.cell 3 _ rfl
            have y2 := hX6.cell 2 _ rfl
            have HQ : Hid (∀ n, D ((W5.alloc (.cells #[.int .u8 (wv.fr : Int), .int .u8 (wv.to : Int), .slice a5 wv.b.length c5] 50)).drewN n) q F3 n' ∧ Below w.heap.size w ((W5.alloc (.cells #[.int .u8 (wv.fr : Int), .int .u8 (wv.to : Int), .slice a5 wv.b.length c5] 50)).drewN n) ∧ Box ((W5.alloc (.cells #[.int .u8 (wv.fr : Int), .int .u8 (wv.to : Int), .slice a5 wv.b.length c5] 50)).drewN n) w.heap.size (#[.int .u8 (a.kind : Int), .int .u8 (a.fr : Int), .int .u8 (a.to : Int), .int .i64 (j : Int), .slice sa a.b.length sc]) 37) := hide (fun n => ⟨H.below HD.out (below_drewN8 _ n), HB.out.trans ((below_drewN8 _ n).mono HB.out.size), HX.out.below8 (below_drewN8 _ n)⟩)
            clear hA6 hX6 HD HB HX
            by_cases htk : t < k
            · obtain ⟨v, hv, hv256⟩ := HRI.out.one t (by rw [← HLN.out]; omega) htk
              rw [← HWV.out] at hv
              have hlen1 : wv.b.length = 1 := by rw [hv]; rfl
              have hc0 : ∃ bb oo cc, a5 = some ⟨bb, oo, none⟩ ∧ c5 = cc ∧ (W5.alloc (.cells #[.int .u8 (wv.fr : Int), .int .u8 (wv.to : Int), .slice a5 wv.b.length c5] 50)).cell? ⟨bb, oo, none⟩ = some (.int .u8 (v : Int)) := by
                rcases HL5.out with ⟨e, _⟩ | ⟨_, bb, oo, cc, e, _, _, _, hc⟩
                · rw [e] at hlen1; simp at hlen1
                · cases e
                  refine ⟨bb, oo, c5, rfl, rfl, ?_⟩
                  have h0 := hc 0 (by omega)
                  have e0 : wv.b.getD 0 0 = (v : Int) := by rw [hv]; rfl
                  rw [e0] at h0
                  simpa using h0
              obtain ⟨bb, oo, cc, rfl, rfl, hcell⟩ := hc0
              rw [hlen1] at y2 hcell x0 x3 HQ ⊢
              have htk2 : decide ((t : Int) ≥ (k : Int)) = false := decide_eq_false (by omega)
              have htk3 : ¬ ((k : Int) ≤ (t : Int)) := by omega
              clear hlen1 HL5
              have hwr : IntKind.i64.wrap (v : Int) = (v : Int) := by rw [IntKind.wrap_i64]; omega
              by_cases hvj : v = j
              · subst hvj
                have ej : (IntKind.i64.wrap (v : Int) == (v : Int)) = true := by rw [hwr]; simp
                go_wp2_with fail
                go_quiet (fail)
                go_wp2_with fail
                go_roundg g
                case measure => omega
                case rel => exact ⟨t + 1, la, by omega, rfl, by first | rfl | go_num, hla1, hla2, hide (fun i v' h1 h2 h3 h4 h5 => HLT.out i v' (by omega) h2 h3 h4 h5), hide (HQ.out nq).1, hide (HQ.out nq).2.1, hide (HQ.out nq).2.2⟩
              · have ej : (IntKind.i64.wrap (v : Int) == (j : Int)) = false := by rw [hwr]; simp; omega
                have ej2 : ((v : Int) == (j : Int)) = false := by simp; omega
                have hlv : la < (v : Int) := HLT.out t v (Nat.le_refl _) (by omega) htk (by rw [← HWV.out]; exact hv) hvj
                have dl : decide ((v : Int) ≤ la) = false := decide_eq_false (by omega)
                have hlv2 : ¬ ((v : Int) ≤ la) := by omega
                have HUP : Hid (∀ i v' : Nat, t + 1 ≤ i → i < LN → i < k → (n'.l.getD i nilW).b = [(v' : Int)] → v' ≠ j → (v : Int) < (v' : Int)) := hide (fun i v' h1 h2 h3 h4 h5 => by
                  have := HRI.out.up t i v v' (by omega) (by rw [← HLN.out]; exact h2) h3 (by rw [← HWV.out]; exact hv) h4 hvj h5
                  omega)
                go_wp2_with fail
                go_quiet (fail)
                go_wp2_with fail
                go_roundg g
                case measure => omega
                case rel => exact ⟨t + 1, (v : Int), by omega, by first | rfl | go_num, by first | rfl | go_num, by omega, by omega, HUP, hide (HQ.out nq).1, hide (HQ.out nq).2.1, hide (HQ.out nq).2.2⟩
            · have htk2 : decide ((t : Int) ≥ (k : Int)) = true := decide_eq_true (by omega)
              have htk3 : (k : Int) ≤ (t : Int) := by omega
              by_cases hr0 : a.kind % 6 = 0
              · have hrem : (a.kind : Int).tmod 6 = 0 := by rw [Int.tmod_eq_emod_of_nonneg (by omega)]; omega
                have hrem' : (a.kind : Int) % 6 = 0 := by omega
                by_cases hl1 : wv.b.length = 1
                · rw [hl1] at x0 x3 y2 HQ ⊢
                  clear hl1 HL5
                  go_wp2_with fail
                  go_quiet (fail)
                  go_wp2_with fail
                  go_roundg g
                  case measure => omega
                  case rel => exact ⟨t + 1, la, by omega, rfl, by first | rfl | go_num, hla1, hla2, hide (fun i v' h1 h2 h3 h4 h5 => HLT.out i v' (by omega) h2 h3 h4 h5), hide (HQ.out nq).1, hide (HQ.out nq).2.1, hide (HQ.out nq).2.2⟩
                · have el : ((wv.b.length : Int) != 1) = true := by simp; omega
                  go_wp2_with fail
                  go_quiet (fail)
                  go_wp2_with fail
                  go_roundg g
                  case measure => omega
                  case rel => exact ⟨t + 1, la, by omega, rfl, by first | rfl | go_num, hla1, hla2, hide (fun i v' h1 h2 h3 h4 h5 => HLT.out i v' (by omega) h2 h3 h4 h5), hide (HQ.out nq).1, hide (HQ.out nq).2.1, hide (HQ.out nq).2.2⟩
              · have hl1 : wv.b.length = 1 := by rw [HWV.out]; exact HRI.out.rest hr0 t (by rw [← HLN.out]; omega)
                rw [hl1] at x0 x3 y2 HQ ⊢
                clear hl1 HL5
                go_wp2_with fail
                go_quiet (fail)
                go_wp2_with fail
                go_roundg g
                case measure => omega
                case rel => exact ⟨t + 1, la, by omega, rfl, by first | rfl | go_num, hla1, hla2, hide (fun i v' h1 h2 h3 h4 h5 => HLT.out i v' (by omega) h2 h3 h4 h5), hide (HQ.out nq).1, hide (HQ.out nq).2.1, hide (HQ.out nq).2.2⟩
end
end Go.Proofs.Yteehkjdolmmapaa
