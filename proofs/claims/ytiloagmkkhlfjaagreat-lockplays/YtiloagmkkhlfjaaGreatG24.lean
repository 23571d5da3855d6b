/-
  Own texts put together: LkPins. Own work.
-/
import Derived.Test.YtiloagmkkhlfjaaGreatG21
import Derived.Deep.CutBlock
import Derived.Deep.DeepCutAuto
import Derived.Deep.LoopGhost
import Derived.Sort.WalkC
import Derived.Sort.WalkC4
import Derived.Sort.WalkA6
namespace Go.Proofs.YtiloagmkkhlfjaaGreat
section
open Go.RowKit Go.Maps Go.Shelf Go.Sort Classical
structure PinsR (l : List (aS KeyT)) (g : Nat) (w0 w' : World) (n : Nat) (r : Array TxN × Bool) (e : Ending) : Prop where
 ex : ∃ (x : Array TxN × Bool), e = .returned (.bool x.2) ∧ r = x ∧ bJ l g w0 w' n x.1
attribute [local go_sem ↓] fT
set_option maxRecDepth 100000 in
set_option maxHeartbeats 6400000 in
theorem pinsB {l : List (aS KeyT)} {q g n : Nat} {w0 w : World} {d : Array TxN} (cap a b : Nat) (hC : iB l q g w0) (h : bJ l g w0 w n d) (hab : a < b) (hb : b ≤ n) (hsz : n ≤ 100) :
  Calls Tryz.prog 94 #[.slice (some ⟨g, 0, none⟩) n cap, .int .i64 (a : Int), .int .i64 (b : Int), ageV q] w fun e w' => PinsR l g w0 w' n (partialInsertionSort (ltOf (bA l)) d a b) e := by
 have H := aA h
 have HC := aA hC
 have mixed : Tryz.prog.follows .mixedOrders = true := by kernel_rfl
 clear h hC
 obtain ⟨R, hR⟩ : ∃ R, R = partialInsertionSort (ltOf (bA l)) d a b := ⟨_, rfl⟩
 have HR : Hid (R = partialIns (ltOf (bA l)) a b (5 - 0) (a + 1) d) := aA hR
 rw [← hR]
 clear hR
 obtain ⟨m, hm⟩ : ∃ m, m = b - a := ⟨_, rfl⟩
 have gm : (b : Int) - (a : Int) = (m : Int) := by omega
 have HM := aA hm
 have hm1 : m ≤ 100 := by omega
 clear hm
 go_enter Tryz.func94, Tryz.ntmps94
 go_wp2_with fail
 go_loopg [9, 10] 5 (fun gh x y wr => ∃ (i s : Nat) (xi yj : Int) (dr : Array TxN), x = .int .i64 xi ∧ y = .int .i64 yj ∧ xi = (i : Int) ∧ yj = (s : Int) ∧ gh = 5 - s ∧ s ≤ 5 ∧ a < i ∧ i ≤ b ∧ Hid (bJ l g w0 wr n dr) ∧ Hid (R = partialIns (ltOf (bA l)) a b (5 - s) i dr))
 case atStart => exact ⟨a + 1, 0, (a : Int) + 1, 0, d, rfl, rfl, by omega, by omega, by omega, by omega, by omega, by omega, H, HR⟩
 case round =>
  clear H HR
  obtain ⟨i, s, xi, yj, dr, rfl, rfl, rfl, rfl, hgh, hs5, hai, hib, HT, HO⟩ := hrel
  by_cases hs : s < 5
  ·have hz5 : (s : Int) < 5 := by omega
   go_upto_block 2 with fail
   go_cut [9] (fun x wx => ∃ (k : Nat) (xi : Int), x = .int .i64 xi ∧ xi = (k : Int) ∧ i ≤ k ∧ k ≤ b ∧ Hid (bJ l g w0 wx n dr) ∧ Hid (scanSorted (ltOf (bA l)) dr b i = k))
   case first =>
    go_wp2_with fail
    go_loopw [9] (fun x wx => ∃ (k : Nat) (xi : Int), x = .int .i64 xi ∧ xi = (k : Int) ∧ i ≤ k ∧ k ≤ b ∧ Hid (bJ l g w0 wx n dr) ∧ Hid (scanSorted (ltOf (bA l)) dr b k = scanSorted (ltOf (bA l)) dr b i)) (fun x _ => ctK b x)
    case atStart => exact ⟨i, i, rfl, rfl, by omega, by omega, HT, aA rfl⟩
    case round =>
     clear HT
     obtain ⟨k, xi, rfl, rfl, hk1, hk2, HTk, HOk⟩ := hrel
     by_cases hle : k < b
     ·have hz : (k : Int) < (b : Int) := by omega
      have hd : decide ((k : Int) < (b : Int)) = true := decide_eq_true (by omega)
      obtain ⟨kp, hkp⟩ : ∃ kp, kp = k - 1 := ⟨_, rfl⟩
      have HKP := aA hkp
      have gkp : (k : Int) - 1 = (kp : Int) := by omega
      have lkp : kp < n := by omega
      have rkp : (kp : Int) < (n : Int) := by omega
      have rk : (k : Int) < (n : Int) := by omega
      have vkp : IntKind.i64.wrap ((k : Int) - 1) = (kp : Int) := by rw [IntKind.wrap_i64]; omega
      have ykp : IntKind.i64.wrap (kp : Int) = (kp : Int) := by rw [IntKind.wrap_i64]; omega
      have yk : IntKind.i64.wrap (k : Int) = (k : Int) := by rw [IntKind.wrap_i64]; omega
      clear hkp
      obtain ⟨Xa, Ya, Aa, HXa, ⟨x0a, x1a, x2a⟩, ⟨y0a, y1a, y2a⟩, CBa⟩ := iM HC.out HTk.out (i := k) (j := kp) (by omega) (by omega)
      by_cases hneg : Aa < 0
      ·have hdd : decide (Aa < 0) = true := decide_eq_true (by omega)
       have HG : Hid (scanSorted (ltOf (bA l)) dr b i = k) := aA (by
        have h1 := HXa.out.2.2.1 hneg
        have e := HKP.out
        rw [e] at h1
        rw [← HOk.out]
        exact scanSorted_stop _ _ _ _ (.inr h1))
       go_wp2_with fail
       go_region_held (fun w' => w'.cell? ⟨g, k * 3, none⟩ = some (.int .u8 (Xa.1 : Int)) ∧ w'.cell? ⟨g, k * 3 + 1, none⟩ = some (.int .u32 (Xa.2.1 : Int)) ∧ w'.cell? ⟨g, k * 3 + 2, none⟩ = some (.int .u32 (Xa.2.2 : Int)) ∧ w'.cell? ⟨g, kp * 3, none⟩ = some (.int .u8 (Ya.1 : Int)) ∧ w'.cell? ⟨g, kp * 3 + 1, none⟩ = some (.int .u32 (Ya.2.1 : Int)) ∧ w'.cell? ⟨g, kp * 3 + 2, none⟩ = some (.int .u32 (Ya.2.2 : Int))) (go_keep) (first
        | (go_at_call 37; refine CBa.out.mono ?_; rintro e w3 ⟨rfl, Hw3, ssa, tta⟩))
       all_goals rename_i w3 Hw3 ssa tta hSa
       all_goals clear hSa x0a x1a x2a y0a y1a y2a CBa
       all_goals go_wp2_with fail
       all_goals go_meet
       all_goals exact ⟨k, (k : Int), rfl, rfl, by omega, by omega, Hw3, HG⟩
      ·have hdd : decide (Aa < 0) = false := decide_eq_false (by omega)
       have HG : Hid (scanSorted (ltOf (bA l)) dr b (k + 1) = scanSorted (ltOf (bA l)) dr b i) := aA (by
        have h1 := HXa.out.2.2.2 hneg
        have e := HKP.out
        rw [e] at h1
        rw [← HOk.out]
        exact (scanSorted_go _ _ _ _ hle h1).symm)
       go_wp2_with fail
       go_region_held (fun w' => w'.cell? ⟨g, k * 3, none⟩ = some (.int .u8 (Xa.1 : Int)) ∧ w'.cell? ⟨g, k * 3 + 1, none⟩ = some (.int .u32 (Xa.2.1 : Int)) ∧ w'.cell? ⟨g, k * 3 + 2, none⟩ = some (.int .u32 (Xa.2.2 : Int)) ∧ w'.cell? ⟨g, kp * 3, none⟩ = some (.int .u8 (Ya.1 : Int)) ∧ w'.cell? ⟨g, kp * 3 + 1, none⟩ = some (.int .u32 (Ya.2.1 : Int)) ∧ w'.cell? ⟨g, kp * 3 + 2, none⟩ = some (.int .u32 (Ya.2.2 : Int))) (go_keep) (first
        | (go_at_call 37; refine CBa.out.mono ?_; rintro e w3 ⟨rfl, Hw3, ssa, tta⟩))
       all_goals rename_i w3 Hw3 ssa tta hSa
       all_goals clear hSa x0a x1a x2a y0a y1a y2a CBa
       all_goals go_wp2_with fail
       all_goals exact ⟨⟨k + 1, (k : Int) + 1, rfl, by omega, by omega, by omega, Hw3, HG⟩, by rw [show (k : Int) + 1 = ((k + 1 : Nat) : Int) from by omega, cB, cB]; omega⟩
     ·have hz : ¬ (k : Int) < (b : Int) := by omega
      have hd : decide ((k : Int) < (b : Int)) = false := decide_eq_false (by omega)
      have HG : Hid (scanSorted (ltOf (bA l)) dr b i = k) := aA (by rw [← HOk.out]; exact scanSorted_stop _ _ _ _ (.inl hle))
      have HTk2 := aA HTk.out.drew
      go_wp2_with fail
      go_big_region_o
      all_goals go_wp2_with fail
      all_goals go_meet
      all_goals exact ⟨k, (k : Int), rfl, rfl, by omega, by omega, HTk2, HG⟩
   case rest =>
    clear HT
    obtain ⟨k, xi, rfl, rfl, hk1, hk2, HT, HK⟩ := hcut
    by_cases hkb : k = b
    ·have hz : (k : Int) = (b : Int) := by omega
     have HE : Hid (R = (dr, true)) := aA (by rw [HO.out]; exact pi_true _ a b s i dr hs (by rw [HK.out]; exact hkb))
     subst hkb
     clear hz
     go_wp2_with fail
     go_ret
     exact ⟨⟨(dr, true), rfl, HE.out, HT.out⟩⟩
    ·have hz : ¬ (k : Int) = (b : Int) := by omega
     by_cases h50 : m < 50
     ·have hz2 : (m : Int) < 50 := by omega
      have HE : Hid (R = (dr, false)) := aA (by rw [HO.out]; exact pi_short _ a b s i dr hs (by rw [HK.out]; exact hkb) (by have := HM.out; omega))
      go_wp2_with fail
      go_ret
      exact ⟨⟨(dr, false), rfl, HE.out, HT.out⟩⟩
     ·have hz2 : ¬ (m : Int) < 50 := by omega
      have HE : Hid (R = partialIns (ltOf (bA l)) a b (5 - (s + 1)) k (fixUp (ltOf (bA l)) b k (fixDown (ltOf (bA l)) a k (swp dr k (k - 1))))) := aA (by rw [HO.out]; exact pi_go _ a b s i k dr hs HK.out hkb (by have := HM.out; omega))
      clear HO HK
      obtain ⟨ma, hma⟩ : ∃ ma, ma = k - a := ⟨_, rfl⟩
      obtain ⟨mb, hmb⟩ : ∃ mb, mb = b - k := ⟨_, rfl⟩
      obtain ⟨ku, hku⟩ : ∃ ku, ku = k + 1 := ⟨_, rfl⟩
      have HMA := aA hma
      have HMB := aA hmb
      have HKU := aA hku
      have gma : (k : Int) - (a : Int) = (ma : Int) := by omega
      have gmb : (b : Int) - (k : Int) = (mb : Int) := by omega
      have gku : (k : Int) + 1 = (ku : Int) := by omega
      have hku1 : ku ≤ b := by omega
      have hlk : a < k ∧ k < b := by omega
      clear hma hmb hku
      obtain ⟨kp, hkp⟩ : ∃ kp, kp = k - 1 := ⟨_, rfl⟩
      have HKP := aA hkp
      have gkp : (k : Int) - 1 = (kp : Int) := by omega
      have lkp : kp < n := by omega
      have rkp : (kp : Int) < (n : Int) := by omega
      have rk : (k : Int) < (n : Int) := by omega
      have vkp : IntKind.i64.wrap ((k : Int) - 1) = (kp : Int) := by rw [IntKind.wrap_i64]; omega
      have ykp : IntKind.i64.wrap (kp : Int) = (kp : Int) := by rw [IntKind.wrap_i64]; omega
      have yk : IntKind.i64.wrap (k : Int) = (k : Int) := by rw [IntKind.wrap_i64]; omega
      clear hkp
      obtain ⟨Xa, Ya, HXa, ssa, tta⟩ := twoAt HT.out (i := k) (j := kp) (by omega) (by omega)
      rw [← HKP.out] at HE
      go_wp2_with fail
      all_goals
       obtain ⟨st1, st2, HN⟩ := gE HT.out (i := k) (j := kp) (by omega) (by omega) HXa.out.1 HXa.out.2.1
       obtain ⟨e0, e1, e2⟩ := ssa
       obtain ⟨e3, e4, e5⟩ := tta
      all_goals go_region
      all_goals (first | simp only [Exit.then] | simp only [Exit.inBlock, Exit.then] | skip)
      all_goals rename_i hK
      all_goals refine hK _ _ ?_
      all_goals clear hK st1 st2 e0 e1 e2 e3 e4 e5
      obtain ⟨d1, hd1⟩ : ∃ d1, d1 = swp dr k kp := ⟨_, rfl⟩
      rw [← hd1] at HN HE
      have H1 := HN
      clear HN HT HXa hd1
      by_cases hA : 2 ≤ ma
      ·have hzA : (2 : Int) ≤ (ma : Int) := by omega
       go_upto_block 4 with fail
       go_cut [11] (fun x wx => ∃ (dj : Array TxN), Hid (bJ l g w0 wx n dj) ∧ Hid (shiftDown (ltOf (bA l)) kp d1 = dj))
       case first =>
        go_wp2_with fail
        go_loopw [11] (fun x wx => ∃ (j : Nat) (xi : Int) (dj : Array TxN), x = .int .i64 xi ∧ xi = (j : Int) ∧ j ≤ kp ∧ Hid (bJ l g w0 wx n dj) ∧ Hid (shiftDown (ltOf (bA l)) j dj = shiftDown (ltOf (bA l)) kp d1)) (fun x _ => dnK x)
        case atStart => exact ⟨kp, kp, d1, rfl, rfl, by omega, H1, aA rfl⟩
        case round =>
         clear H1
         obtain ⟨j, xi, dj, rfl, rfl, hj1, HTj, HOj⟩ := hrel
         by_cases hge : 1 ≤ j
         ·have hz : (1 : Int) ≤ (j : Int) := by omega
          obtain ⟨jp, hjp⟩ : ∃ jp, jp = j - 1 := ⟨_, rfl⟩
          have HJP := aA hjp
          have gjp : (j : Int) - 1 = (jp : Int) := by omega
          have ljp : jp < n := by omega
          have rjp : (jp : Int) < (n : Int) := by omega
          have rj : (j : Int) < (n : Int) := by omega
          have vjp : IntKind.i64.wrap ((j : Int) - 1) = (jp : Int) := by rw [IntKind.wrap_i64]; omega
          have yjp : IntKind.i64.wrap (jp : Int) = (jp : Int) := by rw [IntKind.wrap_i64]; omega
          have yj : IntKind.i64.wrap (j : Int) = (j : Int) := by rw [IntKind.wrap_i64]; omega
          clear hjp
          obtain ⟨Xa, Ya, Aa, HXa, ⟨x0a, x1a, x2a⟩, ⟨y0a, y1a, y2a⟩, CBa⟩ := iM HC.out HTj.out (i := j) (j := jp) (by omega) (by omega)
          by_cases hneg : Aa < 0
          ·have hdd : decide (Aa < 0) = true := decide_eq_true (by omega)
           have HG : Hid (shiftDown (ltOf (bA l)) (jp) (swp dj j jp) = shiftDown (ltOf (bA l)) kp d1) := aA (by
            have h1 := HXa.out.2.2.1 hneg
            rw [← HOj.out]
            have e := HJP.out
            rw [e] at h1 ⊢
            exact (shiftDown_go _ _ _ hge h1).symm)
           go_wp2_with fail
           go_region_held (fun w' => w'.cell? ⟨g, j * 3, none⟩ = some (.int .u8 (Xa.1 : Int)) ∧ w'.cell? ⟨g, j * 3 + 1, none⟩ = some (.int .u32 (Xa.2.1 : Int)) ∧ w'.cell? ⟨g, j * 3 + 2, none⟩ = some (.int .u32 (Xa.2.2 : Int)) ∧ w'.cell? ⟨g, jp * 3, none⟩ = some (.int .u8 (Ya.1 : Int)) ∧ w'.cell? ⟨g, jp * 3 + 1, none⟩ = some (.int .u32 (Ya.2.1 : Int)) ∧ w'.cell? ⟨g, jp * 3 + 2, none⟩ = some (.int .u32 (Ya.2.2 : Int))) (go_keep) (first
            | (go_at_call 37; refine CBa.out.mono ?_; rintro e w3 ⟨rfl, Hw3, ssa, tta⟩))
           all_goals rename_i w3 Hw3 ssa tta hSa
           all_goals clear hSa x0a x1a x2a y0a y1a y2a CBa
           all_goals go_wp2_with fail
           all_goals
            obtain ⟨st1, st2, HN⟩ := gE Hw3.out (i := j) (j := jp) (by omega) (by omega) HXa.out.1 HXa.out.2.1
            obtain ⟨e0, e1, e2⟩ := ssa
            obtain ⟨e3, e4, e5⟩ := tta
           all_goals go_region
           all_goals (first | simp only [Exit.then] | simp only [Exit.inBlock, Exit.then] | skip)
           all_goals rename_i hK
           all_goals refine hK _ _ ?_
           all_goals clear hK st1 st2 e0 e1 e2 e3 e4 e5
           all_goals go_wp2_with fail
           all_goals exact ⟨⟨jp, (jp : Int), _, rfl, by omega, by omega, HN, HG⟩, by rw [iG, iG]; omega⟩
          ·have hdd : decide (Aa < 0) = false := decide_eq_false (by omega)
           have HG : Hid (shiftDown (ltOf (bA l)) kp d1 = dj) := aA (by
            have h1 := HXa.out.2.2.2 hneg
            rw [← HOj.out]
            have e := HJP.out
            rw [e] at h1
            exact shiftDown_stop _ _ _ (.inr h1))
           go_wp2_with fail
           go_region_held (fun w' => w'.cell? ⟨g, j * 3, none⟩ = some (.int .u8 (Xa.1 : Int)) ∧ w'.cell? ⟨g, j * 3 + 1, none⟩ = some (.int .u32 (Xa.2.1 : Int)) ∧ w'.cell? ⟨g, j * 3 + 2, none⟩ = some (.int .u32 (Xa.2.2 : Int)) ∧ w'.cell? ⟨g, jp * 3, none⟩ = some (.int .u8 (Ya.1 : Int)) ∧ w'.cell? ⟨g, jp * 3 + 1, none⟩ = some (.int .u32 (Ya.2.1 : Int)) ∧ w'.cell? ⟨g, jp * 3 + 2, none⟩ = some (.int .u32 (Ya.2.2 : Int))) (go_keep) (first
            | (go_at_call 37; refine CBa.out.mono ?_; rintro e w3 ⟨rfl, Hw3, ssa, tta⟩))
           all_goals rename_i w3 Hw3 ssa tta hSa
           all_goals clear hSa x0a x1a x2a y0a y1a y2a CBa
           all_goals go_wp2_with fail
           all_goals go_meet
           all_goals exact ⟨dj, Hw3, HG⟩
         ·have hz : ¬ (1 : Int) ≤ (j : Int) := by omega
          have HG : Hid (shiftDown (ltOf (bA l)) kp d1 = dj) := aA (by rw [← HOj.out]; exact shiftDown_stop _ _ _ (.inl (by omega)))
          go_wp2_with fail
          go_meet
          exact ⟨dj, HTj, HG⟩
       case rest =>
        clear H1
        obtain ⟨d2, H2, HSH⟩ := hcut
        have HE2 : Hid (R = partialIns (ltOf (bA l)) a b (5 - (s + 1)) k (fixUp (ltOf (bA l)) b k d2)) := aA (by rw [HE.out]; unfold fixDown; rw [if_pos (by have := HMA.out; omega), ← HKP.out, HSH.out])
        clear HE HSH
        by_cases hB : 2 ≤ mb
        ·have hzB : (2 : Int) ≤ (mb : Int) := by omega
         go_wp2_with fail
         go_loopw [12] (fun x wx => ∃ (j : Nat) (xi : Int) (dj : Array TxN), x = .int .i64 xi ∧ xi = (j : Int) ∧ ku ≤ j ∧ j ≤ b ∧ Hid (bJ l g w0 wx n dj) ∧ Hid (shiftUp (ltOf (bA l)) b j dj = shiftUp (ltOf (bA l)) b ku d2)) (fun x _ => ctK b x)
         case atStart => exact ⟨ku, ku, d2, rfl, rfl, by omega, by omega, H2, aA rfl⟩
         case round =>
          clear H2
          obtain ⟨j, xi, dj, rfl, rfl, hj1, hj2, HTj, HOj⟩ := hrel
          by_cases hge : j < b
          ·have hz : (j : Int) < (b : Int) := by omega
           obtain ⟨jp, hjp⟩ : ∃ jp, jp = j - 1 := ⟨_, rfl⟩
           have HJP := aA hjp
           have gjp : (j : Int) - 1 = (jp : Int) := by omega
           have ljp : jp < n := by omega
           have rjp : (jp : Int) < (n : Int) := by omega
           have rj : (j : Int) < (n : Int) := by omega
           have vjp : IntKind.i64.wrap ((j : Int) - 1) = (jp : Int) := by rw [IntKind.wrap_i64]; omega
           have yjp : IntKind.i64.wrap (jp : Int) = (jp : Int) := by rw [IntKind.wrap_i64]; omega
           have yj : IntKind.i64.wrap (j : Int) = (j : Int) := by rw [IntKind.wrap_i64]; omega
           clear hjp
           obtain ⟨Xa, Ya, Aa, HXa, ⟨x0a, x1a, x2a⟩, ⟨y0a, y1a, y2a⟩, CBa⟩ := iM HC.out HTj.out (i := j) (j := jp) (by omega) (by omega)
           by_cases hneg : Aa < 0
           ·have hdd : decide (Aa < 0) = true := decide_eq_true (by omega)
            have HG : Hid (shiftUp (ltOf (bA l)) b (j + 1) (swp dj j jp) = shiftUp (ltOf (bA l)) b ku d2) := aA (by
             have h1 := HXa.out.2.2.1 hneg
             rw [← HOj.out]
             have e := HJP.out
             rw [e] at h1 ⊢
             exact (shiftUp_go _ _ _ _ hge h1).symm)
            go_wp2_with fail
            go_region_held (fun w' => w'.cell? ⟨g, j * 3, none⟩ = some (.int .u8 (Xa.1 : Int)) ∧ w'.cell? ⟨g, j * 3 + 1, none⟩ = some (.int .u32 (Xa.2.1 : Int)) ∧ w'.cell? ⟨g, j * 3 + 2, none⟩ = some (.int .u32 (Xa.2.2 : Int)) ∧ w'.cell? ⟨g, jp * 3, none⟩ = some (.int .u8 (Ya.1 : Int)) ∧ w'.cell? ⟨g, jp * 3 + 1, none⟩ = some (.int .u32 (Ya.2.1 : Int)) ∧ w'.cell? ⟨g, jp * 3 + 2, none⟩ = some (.int .u32 (Ya.2.2 : Int))) (go_keep) (first
             | (go_at_call 37; refine CBa.out.mono ?_; rintro e w3 ⟨rfl, Hw3, ssa, tta⟩))
            all_goals rename_i w3 Hw3 ssa tta hSa
            all_goals clear hSa x0a x1a x2a y0a y1a y2a CBa
            all_goals go_wp2_with fail
            all_goals
             obtain ⟨st1, st2, HN⟩ := gE Hw3.out (i := j) (j := jp) (by omega) (by omega) HXa.out.1 HXa.out.2.1
             obtain ⟨e0, e1, e2⟩ := ssa
             obtain ⟨e3, e4, e5⟩ := tta
            all_goals go_region
            all_goals (first | simp only [Exit.then] | simp only [Exit.inBlock, Exit.then] | skip)
            all_goals rename_i hK
            all_goals refine hK _ _ ?_
            all_goals clear hK st1 st2 e0 e1 e2 e3 e4 e5
            all_goals go_wp2_with fail
            all_goals exact ⟨⟨j + 1, (j : Int) + 1, _, rfl, by omega, by omega, by omega, HN, HG⟩, by rw [show (j : Int) + 1 = (((j + 1) : Nat) : Int) from by omega, cB, cB]; omega⟩
           ·have hdd : decide (Aa < 0) = false := decide_eq_false (by omega)
            have HG : Hid (shiftUp (ltOf (bA l)) b ku d2 = dj) := aA (by
             have h1 := HXa.out.2.2.2 hneg
             rw [← HOj.out]
             have e := HJP.out
             rw [e] at h1
             exact shiftUp_stop _ _ _ _ (.inr h1))
            go_wp2_with fail
            go_region_held (fun w' => w'.cell? ⟨g, j * 3, none⟩ = some (.int .u8 (Xa.1 : Int)) ∧ w'.cell? ⟨g, j * 3 + 1, none⟩ = some (.int .u32 (Xa.2.1 : Int)) ∧ w'.cell? ⟨g, j * 3 + 2, none⟩ = some (.int .u32 (Xa.2.2 : Int)) ∧ w'.cell? ⟨g, jp * 3, none⟩ = some (.int .u8 (Ya.1 : Int)) ∧ w'.cell? ⟨g, jp * 3 + 1, none⟩ = some (.int .u32 (Ya.2.1 : Int)) ∧ w'.cell? ⟨g, jp * 3 + 2, none⟩ = some (.int .u32 (Ya.2.2 : Int))) (go_keep) (first
             | (go_at_call 37; refine CBa.out.mono ?_; rintro e w3 ⟨rfl, Hw3, ssa, tta⟩))
            all_goals rename_i w3 Hw3 ssa tta hSa
            all_goals clear hSa x0a x1a x2a y0a y1a y2a CBa
            all_goals go_wp2_with fail
            have HE3 : Hid (R = partialIns (ltOf (bA l)) a b (5 - (s + 1)) k dj) := aA (by rw [HE2.out]; unfold fixUp; rw [if_pos (by have := HMB.out; omega), ← HKU.out, HG.out])
            go_roundg (5 - (s + 1))
            case measure => omega
            case rel => exact ⟨k, s + 1, (k : Int), (s : Int) + 1, dj, rfl, rfl, rfl, by omega, rfl, by omega, by omega, by omega, Hw3, HE3⟩
          ·have hz : ¬ (j : Int) < (b : Int) := by omega
           have HG : Hid (shiftUp (ltOf (bA l)) b ku d2 = dj) := aA (by rw [← HOj.out]; exact shiftUp_stop _ _ _ _ (.inl hge))
           go_wp2_with fail
           have HE3 : Hid (R = partialIns (ltOf (bA l)) a b (5 - (s + 1)) k dj) := aA (by rw [HE2.out]; unfold fixUp; rw [if_pos (by have := HMB.out; omega), ← HKU.out, HG.out])
           go_roundg (5 - (s + 1))
           case measure => omega
           case rel => exact ⟨k, s + 1, (k : Int), (s : Int) + 1, dj, rfl, rfl, rfl, by omega, rfl, by omega, by omega, by omega, HTj, HE3⟩
        ·have hzB : ¬ (2 : Int) ≤ (mb : Int) := by omega
         have HE3 : Hid (R = partialIns (ltOf (bA l)) a b (5 - (s + 1)) k d2) := aA (by rw [HE2.out]; unfold fixUp; rw [if_neg (by have := HMB.out; omega)])
         go_wp2_with fail
         go_roundg (5 - (s + 1))
         case measure => omega
         case rel => exact ⟨k, s + 1, (k : Int), (s : Int) + 1, d2, rfl, rfl, rfl, by omega, rfl, by omega, by omega, by omega, H2, HE3⟩
      ·have hzA : ¬ (2 : Int) ≤ (ma : Int) := by omega
       have HE2 : Hid (R = partialIns (ltOf (bA l)) a b (5 - (s + 1)) k (fixUp (ltOf (bA l)) b k d1)) := aA (by rw [HE.out]; unfold fixDown; rw [if_neg (by have := HMA.out; omega)])
       clear HE
       obtain ⟨d2, hd2⟩ : ∃ d2, d2 = d1 := ⟨_, rfl⟩
       have H2 := H1
       rw [← hd2] at H2 HE2
       clear H1 hd2
       by_cases hB : 2 ≤ mb
       ·have hzB : (2 : Int) ≤ (mb : Int) := by omega
        go_wp2_with fail
        go_loopw [12] (fun x wx => ∃ (j : Nat) (xi : Int) (dj : Array TxN), x = .int .i64 xi ∧ xi = (j : Int) ∧ ku ≤ j ∧ j ≤ b ∧ Hid (bJ l g w0 wx n dj) ∧ Hid (shiftUp (ltOf (bA l)) b j dj = shiftUp (ltOf (bA l)) b ku d2)) (fun x _ => ctK b x)
        case atStart => exact ⟨ku, ku, d2, rfl, rfl, by omega, by omega, H2, aA rfl⟩
        case round =>
         clear H2
         obtain ⟨j, xi, dj, rfl, rfl, hj1, hj2, HTj, HOj⟩ := hrel
         by_cases hge : j < b
         ·have hz : (j : Int) < (b : Int) := by omega
          obtain ⟨jp, hjp⟩ : ∃ jp, jp = j - 1 := ⟨_, rfl⟩
          have HJP := aA hjp
          have gjp : (j : Int) - 1 = (jp : Int) := by omega
          have ljp : jp < n := by omega
          have rjp : (jp : Int) < (n : Int) := by omega
          have rj : (j : Int) < (n : Int) := by omega
          have vjp : IntKind.i64.wrap ((j : Int) - 1) = (jp : Int) := by rw [IntKind.wrap_i64]; omega
          have yjp : IntKind.i64.wrap (jp : Int) = (jp : Int) := by rw [IntKind.wrap_i64]; omega
          have yj : IntKind.i64.wrap (j : Int) = (j : Int) := by rw [IntKind.wrap_i64]; omega
          clear hjp
          obtain ⟨Xa, Ya, Aa, HXa, ⟨x0a, x1a, x2a⟩, ⟨y0a, y1a, y2a⟩, CBa⟩ := iM HC.out HTj.out (i := j) (j := jp) (by omega) (by omega)
          by_cases hneg : Aa < 0
          ·have hdd : decide (Aa < 0) = true := decide_eq_true (by omega)
           have HG : Hid (shiftUp (ltOf (bA l)) b (j + 1) (swp dj j jp) = shiftUp (ltOf (bA l)) b ku d2) := aA (by
            have h1 := HXa.out.2.2.1 hneg
            rw [← HOj.out]
            have e := HJP.out
            rw [e] at h1 ⊢
            exact (shiftUp_go _ _ _ _ hge h1).symm)
           go_wp2_with fail
           go_region_held (fun w' => w'.cell? ⟨g, j * 3, none⟩ = some (.int .u8 (Xa.1 : Int)) ∧ w'.cell? ⟨g, j * 3 + 1, none⟩ = some (.int .u32 (Xa.2.1 : Int)) ∧ w'.cell? ⟨g, j * 3 + 2, none⟩ = some (.int .u32 (Xa.2.2 : Int)) ∧ w'.cell? ⟨g, jp * 3, none⟩ = some (.int .u8 (Ya.1 : Int)) ∧ w'.cell? ⟨g, jp * 3 + 1, none⟩ = some (.int .u32 (Ya.2.1 : Int)) ∧ w'.cell? ⟨g, jp * 3 + 2, none⟩ = some (.int .u32 (Ya.2.2 : Int))) (go_keep) (first
            | (go_at_call 37; refine CBa.out.mono ?_; rintro e w3 ⟨rfl, Hw3, ssa, tta⟩))
           all_goals rename_i w3 Hw3 ssa tta hSa
           all_goals clear hSa x0a x1a x2a y0a y1a y2a CBa
           all_goals go_wp2_with fail
           all_goals
            obtain ⟨st1, st2, HN⟩ := gE Hw3.out (i := j) (j := jp) (by omega) (by omega) HXa.out.1 HXa.out.2.1
            obtain ⟨e0, e1, e2⟩ := ssa
            obtain ⟨e3, e4, e5⟩ := tta
           all_goals go_region
           all_goals (first | simp only [Exit.then] | simp only [Exit.inBlock, Exit.then] | skip)
           all_goals rename_i hK
           all_goals refine hK _ _ ?_
           all_goals clear hK st1 st2 e0 e1 e2 e3 e4 e5
           all_goals go_wp2_with fail
           all_goals exact ⟨⟨j + 1, (j : Int) + 1, _, rfl, by omega, by omega, by omega, HN, HG⟩, by rw [show (j : Int) + 1 = (((j + 1) : Nat) : Int) from by omega, cB, cB]; omega⟩
          ·have hdd : decide (Aa < 0) = false := decide_eq_false (by omega)
           have HG : Hid (shiftUp (ltOf (bA l)) b ku d2 = dj) := aA (by
            have h1 := HXa.out.2.2.2 hneg
            rw [← HOj.out]
            have e := HJP.out
            rw [e] at h1
            exact shiftUp_stop _ _ _ _ (.inr h1))
           go_wp2_with fail
           go_region_held (fun w' => w'.cell? ⟨g, j * 3, none⟩ = some (.int .u8 (Xa.1 : Int)) ∧ w'.cell? ⟨g, j * 3 + 1, none⟩ = some (.int .u32 (Xa.2.1 : Int)) ∧ w'.cell? ⟨g, j * 3 + 2, none⟩ = some (.int .u32 (Xa.2.2 : Int)) ∧ w'.cell? ⟨g, jp * 3, none⟩ = some (.int .u8 (Ya.1 : Int)) ∧ w'.cell? ⟨g, jp * 3 + 1, none⟩ = some (.int .u32 (Ya.2.1 : Int)) ∧ w'.cell? ⟨g, jp * 3 + 2, none⟩ = some (.int .u32 (Ya.2.2 : Int))) (go_keep) (first
            | (go_at_call 37; refine CBa.out.mono ?_; rintro e w3 ⟨rfl, Hw3, ssa, tta⟩))
           all_goals rename_i w3 Hw3 ssa tta hSa
           all_goals clear hSa x0a x1a x2a y0a y1a y2a CBa
           all_goals go_wp2_with fail
           have HE3 : Hid (R = partialIns (ltOf (bA l)) a b (5 - (s + 1)) k dj) := aA (by rw [HE2.out]; unfold fixUp; rw [if_pos (by have := HMB.out; omega), ← HKU.out, HG.out])
           go_roundg (5 - (s + 1))
           case measure => omega
           case rel => exact ⟨k, s + 1, (k : Int), (s : Int) + 1, dj, rfl, rfl, rfl, by omega, rfl, by omega, by omega, by omega, Hw3, HE3⟩
         ·have hz : ¬ (j : Int) < (b : Int) := by omega
          have HG : Hid (shiftUp (ltOf (bA l)) b ku d2 = dj) := aA (by rw [← HOj.out]; exact shiftUp_stop _ _ _ _ (.inl hge))
          go_wp2_with fail
          have HE3 : Hid (R = partialIns (ltOf (bA l)) a b (5 - (s + 1)) k dj) := aA (by rw [HE2.out]; unfold fixUp; rw [if_pos (by have := HMB.out; omega), ← HKU.out, HG.out])
          go_roundg (5 - (s + 1))
          case measure => omega
          case rel => exact ⟨k, s + 1, (k : Int), (s : Int) + 1, dj, rfl, rfl, rfl, by omega, rfl, by omega, by omega, by omega, HTj, HE3⟩
       ·have hzB : ¬ (2 : Int) ≤ (mb : Int) := by omega
        have HE3 : Hid (R = partialIns (ltOf (bA l)) a b (5 - (s + 1)) k d2) := aA (by rw [HE2.out]; unfold fixUp; rw [if_neg (by have := HMB.out; omega)])
        go_wp2_with fail
        go_roundg (5 - (s + 1))
        case measure => omega
        case rel => exact ⟨k, s + 1, (k : Int), (s : Int) + 1, d2, rfl, rfl, rfl, by omega, rfl, by omega, by omega, by omega, H2, HE3⟩
  ·obtain rfl : s = 5 := by omega
   have hz5 : ¬ ((5 : Nat) : Int) < 5 := by omega
   have HE : Hid (R = (dr, false)) := aA (by rw [HO.out]; exact pi_end _ a b i dr)
   go_wp2_with fail
   go_ret
   exact ⟨⟨(dr, false), rfl, HE.out, HT.out⟩⟩
end
end Go.Proofs.YtiloagmkkhlfjaaGreat
