/-
  DiskFull: bytes have room up to the room. The walk, by the bundle. Own work.
-/
import Derived.Test.YtjjmcaamgoffiaaDkAlive
import Derived.Test.YtjjmcaamgoffiaaDkFullP
import Derived.Test.YtjjmcaamgoffiaaDkFacts
import Derived.Test.YtjjmcaamgoffiaaDkOpen
import Derived.Deep.LoopGhost
namespace Go.Proofs.Ytjjmcaamgoffiaa
open Go.RowKit Go.ChangeShapes Go.WideShapes Go.ChangeAt

section
variable {D : World → Nat → (Nat → Prop) → Dk → Prop}
set_option maxRecDepth 100000 in
set_option maxHeartbeats 3200000 in
theorem walkF (H : DiskDo D) (m0 m2 : Nat) (v : Value) (xs : List Int) (w : World) (hL : Lies .u16 w v xs) (h16 : ∀ c ∈ xs, 0 ≤ c ∧ c < 65536) (hm0 : m0 < 65536) (hm2 : m2 < 65536) :
    Calls Try.prog 6 #[.int .u16 (m0 : Int), v, .int .u16 (m2 : Int)] w fun e w' => e = .returned (.bool true) ∧ Below w.heap.size w w' := by
  have CA := hide (fun W => alive_by H W)
  obtain ⟨ao, cap, hv, hn0, _⟩ := hL.appendable
  subst hv
  have hcap := hL.cap
  have hmx := hL.len
  unfold maxLen at hmx
  have HL := hide hL
  have H16 := hide h16
  obtain ⟨nn, hnn⟩ : ∃ nn : Nat, nn = m0 % 2000 + 1 := ⟨_, rfl⟩
  have hn1 : (m0 : Int) % 2000 + 1 = (nn : Int) := by omega
  have hnb : 1 ≤ nn ∧ nn ≤ 2000 := by omega
  have HNEW : Hid (newOk (nn : Int) = true) := hide (by unfold newOk; simp; omega)
  obtain ⟨N, hN⟩ : ∃ N, N = min xs.length 50 := ⟨_, rfl⟩
  have hNl : N ≤ xs.length ∧ N ≤ 50 := by omega
  have hto := fun W => run_toU W ao xs.length cap N (by omega)
  have hmin : (if (50 : Int) < (xs.length : Int) then (50 : Int) else (xs.length : Int)) = (N : Int) := by split <;> omega
  clear hL h16 hnn hN
  go_enter Try.func6, Try.ntmps6
  go_wp2_with fail
  refine (H.new (nn : Int) w HNEW.out).mono ?_
  rintro e w2 ⟨q, F0, rfl, hD, hF, hB⟩
  rw [Int.toNat_natCast] at hD
  have HS0 : Hid (Since7 D w q (fullD nn 0) w2) := hide ⟨F0, hD, hF, hB⟩
  clear hB hD hF
  go_wp2_with fail
  go_loopg [10, 40] N (fun g x i wr => ∃ k h : Nat, k + g = N ∧ x = .int .i64 (h : Int) ∧ i = .int .i64 k ∧ Hid (Since7 D w q (fullD nn h) wr) ∧ h ≤ nn)
  case atStart => exact ⟨0, 0, by omega, rfl, rfl, HS0, by omega⟩
  case round =>
    obtain ⟨k, h, hk, rfl, rfl, HS, hh⟩ := hrel
    obtain ⟨F, hD, hF, hB⟩ := HS.out
    have HD := hide hD
    have HF := hide hF
    have HB := hide hB
    clear hD hF hB HS HS0
    cases gk with
    | zero =>
      obtain rfl : k = N := by omega
      have hz : ¬ ((k : Int) < (k : Int)) := by omega
      obtain ⟨t, ht⟩ : ∃ t : Nat, t = m2 % (h + 1) := ⟨_, rfl⟩
      have hth : t ≤ h := by have := Nat.mod_lt m2 (show 0 < h + 1 by omega); omega
      have hrem2 : (m2 : Int) % ((h : Int) + 1) = (t : Int) := by rw [ht]; simp
      have hrem2' : ((m2 : Int)).tmod ((h : Int) + 1) = (t : Int) := by
        rw [Int.tmod_eq_emod_of_nonneg (by omega), hrem2]
      have hz1 : ((h : Int) + 1 == 0) = false := by simp; omega
      obtain ⟨f1, f2⟩ := full_cut (n := nn) hth
      obtain ⟨f3, f4⟩ := full_force nn h t
      have HF12 := hide (And.intro f1 (And.intro f2 (And.intro f3 f4)))
      clear ht f1 f2 f3 f4
      go_wp2_with fail
      have C := H.cut (t : Int) HD.out
      rw [HF12.out.1, HF12.out.2.1] at C
      refine C.mono ?_
      rintro e W1 ⟨rfl, F2, hD2, hk2, hF2⟩
      have HS2 : Hid (Since7 D w q _ W1) := hide (Since7.did HB.out HF.out ⟨F2, hD2, hk2, hF2⟩)
      clear hD2 hk2 hF2 HD HF HB C
      obtain ⟨F, hD, hF, hB⟩ := HS2.out
      have HD := hide hD
      have HF := hide hF
      have HB := hide hB
      clear hD hF hB HS2
      go_wp2_with fail
      have hl1 : (((fullC nn h t).left : Nat) : Int) = (nn : Int) - (h : Int) := by simp [Dk.left, fullC, zeros_len]; omega
      have C := H.lef HD.out
      rw [hl1] at C
      refine (C).mono ?_
      rintro e W2 ⟨rfl, m, hw⟩
      have hB : Below W1.heap.size W1 W2 := hw ▸ below_drewN7 W1 m
      replace HD := hide (H.below HD.out hB)
      replace HB := hide (HB.out.trans (hB.mono HB.out.size))
      clear hw hB C hl1
      go_wp2_with fail
      have C := H.for' HD.out
      rw [HF12.out.2.2.1, HF12.out.2.2.2] at C
      refine C.mono ?_
      rintro e W3 ⟨rfl, F2, hD2, hk2, hF2⟩
      have HS2 : Hid (Since7 D w q _ W3) := hide (Since7.did HB.out HF.out ⟨F2, hD2, hk2, hF2⟩)
      clear hD2 hk2 hF2 HD HF HB C
      obtain ⟨F, hD, hF, hB⟩ := HS2.out
      have HD := hide hD
      have HF := hide hF
      have HB := hide hB
      clear hD hF hB HS2
      go_wp2_with fail
      have hl1 : (((fullF nn h t).left : Nat) : Int) = (nn : Int) - (h : Int) + (t : Int) := by simp [Dk.left, fullF, zeros_len]; omega
      have C := H.lef HD.out
      rw [hl1] at C
      refine (C).mono ?_
      rintro e W4 ⟨rfl, m, hw⟩
      have hB : Below W3.heap.size W3 W4 := hw ▸ below_drewN7 W3 m
      replace HD := hide (H.below HD.out hB)
      replace HB := hide (HB.out.trans (hB.mono HB.out.size))
      clear hw hB C hl1
      go_wp2_with fail
      have hr1 : reaA (fullF nn h t) = 0 := rfl
      have hr2 : (reaB (fullF nn h t)).length = h - t := by simp [reaB, fullF, zeros_len]
      have C := H.rea HD.out
      rw [hr1] at C
      refine C.mono ?_
      rintro e W5 ⟨v9, rfl, hO, hB⟩
      replace HD := hide (H.below HD.out hB)
      replace HB := hide (HB.out.trans (hB.mono HB.out.size))
      obtain ⟨a9, c9, hv⟩ := (Lies.of_own hO).shape
      subst hv
      rw [hr2]
      have hsub : ((h - t : Nat) : Int) = (h : Int) - (t : Int) := by omega
      clear hO hB C hr1 hr2
      go_wp2_with fail
      refine (H.bas HD.out).mono ?_
      rintro e W6 ⟨rfl, m, hw⟩
      have hB : Below W5.heap.size W5 W6 := hw ▸ below_drewN7 W5 m
      replace HD := hide (H.below HD.out hB)
      replace HB := hide (HB.out.trans (hB.mono HB.out.size))
      clear hw hB
      go_wp2_with fail
      refine (CA.out W6).mono ?_
      rintro e we ⟨rfl, hB⟩
      replace HB := hide (HB.out.trans (hB.mono HB.out.size))
      clear hB
      go_wp2_with fail
      go_ret
      exact ⟨rfl, HB.out⟩
    | succ g =>
      have hz : (k : Int) < (N : Int) := by omega
      have hcell : ∃ (b off cp : Nat) (c : Nat), (Value.slice ao xs.length cap) = .slice (some ⟨b, off, none⟩) xs.length cp ∧ b < w.heap.size ∧ w.cell? ⟨b, off + k, none⟩ = some (.int .u16 (c : Int)) ∧ c < 65536 := by
        rcases HL.out with ⟨e, _⟩ | ⟨_, b, off, cp, e, hb, _, _, hc⟩
        · subst e; simp at hNl; omega
        · have h1 := hc k (by omega)
          have hmem : xs.getD k 0 ∈ xs := by
            have hkl : k < xs.length := by omega
            simp [List.getD, hkl]
          have h2 := H16.out _ hmem
          refine ⟨b, off, cp, (xs.getD k 0).toNat, e, hb, ?_, by omega⟩
          rw [h1, Int.toNat_of_nonneg h2.1]
      obtain ⟨b, off, cp, c, e, hb, hc, hc16⟩ := hcell
      cases e
      have hcw := (HB.out.cell (p := ⟨b, off + k, none⟩) hb).trans hc
      obtain ⟨kk, hkk⟩ : ∃ kk : Nat, kk = c % 700 := ⟨_, rfl⟩
      have hkb : kk < 700 := by omega
      have hrem3 : (c : Int) % 700 = (kk : Int) := by omega
      have hrem3' : ((c : Int)).tmod 700 = (kk : Int) := by
        rw [Int.tmod_eq_emod_of_nonneg (by omega), hrem3]
      clear hc hkk
      go_wp2_with (at_make; refine wp_make7 _ rfl _ _ rfl kk rfl rfl (by omega) ?_; intro W1 hL1 hB; have HL1 := hide hL1; replace HD := hide (H.below HD.out hB); replace HB := hide (HB.out.trans (hB.mono HB.out.size)); clear hL1 hB)
      by_cases hfit : h + kk ≤ nn
      · have hf1 := full_app hfit
        have d1 : decide ((h : Int) + (kk : Int) ≤ (nn : Int)) = true := decide_eq_true (by omega)
        have HF1 := hide hf1
        clear hf1
        have C := H.app _ (zeros kk) HD.out HL1.out (by intro c hc; simp [zeros] at hc; omega) (by rw [zeros_len]; omega) (by simp [fullD, zeros_len]; omega)
        rw [HF1.out.1, HF1.out.2] at C
        refine C.mono ?_
        rintro e W2 ⟨rfl, F2, hD2, hk2, hF2⟩
        have HS2 : Hid (Since7 D w q _ W2) := hide (Since7.did HB.out HF.out ⟨F2, hD2, hk2, hF2⟩)
        clear hD2 hk2 hF2 HD HF HB C HL1 HF1
        obtain ⟨F, hD, hF, hB⟩ := HS2.out
        have HD := hide hD
        have HF := hide hF
        have HB := hide hB
        clear hD hF hB HS2
        go_wp2_with fail
        have hl1 : (((fullD nn (h + kk)).left : Nat) : Int) = (nn : Int) - ((h : Int) + (kk : Int)) := by rw [full_left]; omega
        have C := H.lef HD.out
        rw [hl1] at C
        refine (C).mono ?_
        rintro e W3 ⟨rfl, m, hw⟩
        have hB : Below W2.heap.size W2 W3 := hw ▸ below_drewN7 W2 m
        replace HD := hide (H.below HD.out hB)
        replace HB := hide (HB.out.trans (hB.mono HB.out.size))
        clear hw hB C hl1
        go_wp2_with fail
        have hl1 : (((fullD nn (h + kk)).bs.length : Nat) : Int) = ((h : Int) + (kk : Int)) := by simp [fullD, zeros_len]
        have C := H.end' HD.out
        rw [hl1] at C
        refine (C).mono ?_
        rintro e W4 ⟨rfl, m, hw⟩
        have hB : Below W3.heap.size W3 W4 := hw ▸ below_drewN7 W3 m
        replace HD := hide (H.below HD.out hB)
        replace HB := hide (HB.out.trans (hB.mono HB.out.size))
        clear hw hB C hl1
        go_wp2_with fail
        go_roundg g
        case measure => omega
        case rel => exact ⟨k + 1, h + kk, by omega, by first | rfl | go_num | simp, by first | rfl | go_num, hide ⟨F, HD.out, HF.out, HB.out⟩, by omega⟩
      · have hf1 := full_app_no (n := nn) (h := h) (k := kk) (by omega) hh
        have d1 : decide ((h : Int) + (kk : Int) ≤ (nn : Int)) = false := decide_eq_false (by omega)
        have HF1 := hide hf1
        clear hf1
        have C := H.app _ (zeros kk) HD.out HL1.out (by intro c hc; simp [zeros] at hc; omega) (by rw [zeros_len]; omega) (by simp [fullD, zeros_len]; omega)
        rw [HF1.out.1, HF1.out.2] at C
        refine C.mono ?_
        rintro e W2 ⟨rfl, F2, hD2, hk2, hF2⟩
        have HS2 : Hid (Since7 D w q _ W2) := hide (Since7.did HB.out HF.out ⟨F2, hD2, hk2, hF2⟩)
        clear hD2 hk2 hF2 HD HF HB C HL1 HF1
        obtain ⟨F, hD, hF, hB⟩ := HS2.out
        have HD := hide hD
        have HF := hide hF
        have HB := hide hB
        clear hD hF hB HS2
        go_wp2_with fail
        have hl1 : (((fullD nn h).left : Nat) : Int) = (nn : Int) - (h : Int) := by rw [full_left]; omega
        have C := H.lef HD.out
        rw [hl1] at C
        refine (C).mono ?_
        rintro e W3 ⟨rfl, m, hw⟩
        have hB : Below W2.heap.size W2 W3 := hw ▸ below_drewN7 W2 m
        replace HD := hide (H.below HD.out hB)
        replace HB := hide (HB.out.trans (hB.mono HB.out.size))
        clear hw hB C hl1
        go_wp2_with fail
        have hl1 : (((fullD nn h).bs.length : Nat) : Int) = (h : Int) := by simp [fullD, zeros_len]
        have C := H.end' HD.out
        rw [hl1] at C
        refine (C).mono ?_
        rintro e W4 ⟨rfl, m, hw⟩
        have hB : Below W3.heap.size W3 W4 := hw ▸ below_drewN7 W3 m
        replace HD := hide (H.below HD.out hB)
        replace HB := hide (HB.out.trans (hB.mono HB.out.size))
        clear hw hB C hl1
        go_wp2_with fail
        go_roundg g
        case measure => omega
        case rel => exact ⟨k + 1, h, by omega, by first | rfl | go_num | simp, by first | rfl | go_num, hide ⟨F, HD.out, HF.out, HB.out⟩, by omega⟩
end
end Go.Proofs.Ytjjmcaamgoffiaa
