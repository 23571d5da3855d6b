/-
  Own texts put together: LkPart. Own work.
-/
import Derived.Test.YtiloagmkkhlfjaaGreatG21
import Derived.Deep.CutBlock
import Derived.Deep.DeepCutAuto
import Derived.Deep.LoopGhost
import Derived.Sort.WalkC
import Derived.Sort.WalkC4
namespace Go.Proofs.YtiloagmkkhlfjaaGreat
section
open Go.RowKit Go.Maps Go.Shelf Go.Sort Classical
def partFS (a : Nat) (x : Nat × Array TxN) : Nat × Bool × Array TxN := (x.1, false, swp x.2 x.1 a)
attribute [local go_sem ↓] fT
set_option maxRecDepth 100000 in
set_option maxHeartbeats 6400000 in
theorem partS {l : List (aS KeyT)} {q g n : Nat} {w0 w : World} {d : Array TxN} (cap a b pv : Nat) (hC : iB l q g w0) (h : bJ l g w0 w n d) (hap : a ≤ pv) (hpb : pv < b) (hb : b ≤ n) (hsz : n ≤ 100) :
  Calls Tryz.prog 96 #[.slice (some ⟨g, 0, none⟩) n cap, .int .i64 (a : Int), .int .i64 (b : Int), .int .i64 (pv : Int), ageV q] w fun e w' => ∃ (p : Nat) (ap : Bool) (d' : Array TxN), e = .returned (.tuple #[.int .i64 (p : Int), .bool ap]) ∧ Go.Sort.partition (ltOf (bA l)) d a b pv = (p, ap, d') ∧ bJ l g w0 w' n d' := by
 have H := aA h
 have HC := aA hC
 have mixed : Tryz.prog.follows .mixedOrders = true := by kernel_rfl
 clear h hC
 obtain ⟨R, hR⟩ : ∃ R, R = Go.Sort.partition (ltOf (bA l)) d a b pv := ⟨_, rfl⟩
 have HR := aA hR
 rw [← hR]
 clear hR
 obtain ⟨i, hi⟩ : ∃ i, i = a + 1 := ⟨_, rfl⟩
 obtain ⟨j, hj⟩ : ∃ j, j = b - 1 := ⟨_, rfl⟩
 have HI := aA hi
 have HJ := aA hj
 have g1 : (a : Int) + 1 = (i : Int) := by omega
 have g2 : (b : Int) - 1 = (j : Int) := by omega
 have k1 : a < i ∧ i ≤ j + 1 ∧ j < b := by omega
 obtain ⟨k1, k2, k3⟩ := k1
 clear hi hj
 have z1 : (a : Int) < (n : Int) := by omega
 have z2 : (pv : Int) < (n : Int) := by omega
 have v1 : IntKind.i64.wrap (a : Int) = (a : Int) := by rw [IntKind.wrap_i64]; omega
 have v2 : IntKind.i64.wrap (pv : Int) = (pv : Int) := by rw [IntKind.wrap_i64]; omega
 go_enter Tryz.func96, Tryz.ntmps96
 obtain ⟨Xa, Ya, HXa, ssa, tta⟩ := twoAt H.out (i := a) (j := pv) (by omega) (by omega)
 go_wp2_with fail
 all_goals
  obtain ⟨st1, st2, HN⟩ := gE H.out (i := a) (j := pv) (by omega) (by omega) HXa.out.1 HXa.out.2.1
  obtain ⟨e0, e1, e2⟩ := ssa
  obtain ⟨e3, e4, e5⟩ := tta
 all_goals go_region
 all_goals (first | simp only [Exit.then] | simp only [Exit.inBlock, Exit.then] | skip)
 all_goals rename_i hK
 all_goals refine hK _ _ ?_
 all_goals clear hK st1 st2 e0 e1 e2 e3 e4 e5
 obtain ⟨dr, hdr⟩ : ∃ dr, dr = swp d a pv := ⟨_, rfl⟩
 rw [← hdr] at HN
 have HDR := aA hdr
 clear z1 z2 v1 v2 HXa hdr
 clear H
 go_upto_block 0 with fail
 go_cut [12] (fun x wx => ∃ (k : Nat) (xi : Int), x = .int .i64 xi ∧ xi = (k : Int) ∧ i ≤ k ∧ k ≤ j + 1 ∧ Hid (bJ l g w0 wx n dr) ∧ Hid (scanUp (fun x => ltOf (bA l) x dr[a]!) dr j i = k))
 case first =>
  go_wp2_with fail
  go_loopw [12] (fun x wx => ∃ (k : Nat) (xi : Int), x = .int .i64 xi ∧ xi = (k : Int) ∧ i ≤ k ∧ k ≤ j + 1 ∧ Hid (bJ l g w0 wx n dr) ∧ Hid (scanUp (fun x => ltOf (bA l) x dr[a]!) dr j k = scanUp (fun x => ltOf (bA l) x dr[a]!) dr j i)) (fun x _ => ctK (j + 2) x)
  case atStart => exact ⟨i, i, rfl, rfl, by omega, by omega, HN, aA rfl⟩
  case round =>
   clear HN
   obtain ⟨k, xi, rfl, rfl, hk1, hk2, HTk, HOk⟩ := hrel
   by_cases hle : k ≤ j
   ·have hz : (k : Int) ≤ (j : Int) := by omega
    have hd : decide ((k : Int) ≤ (j : Int)) = true := decide_eq_true (by omega)
    have z1 : (k : Int) < (n : Int) := by omega
    have z2 : (a : Int) < (n : Int) := by omega
    have v1 : IntKind.i64.wrap (k : Int) = (k : Int) := by rw [IntKind.wrap_i64]; omega
    have v2 : IntKind.i64.wrap (a : Int) = (a : Int) := by rw [IntKind.wrap_i64]; omega
    obtain ⟨Xa, Ya, Aa, HXa, ⟨x0a, x1a, x2a⟩, ⟨y0a, y1a, y2a⟩, CBa⟩ := iM HC.out HTk.out (i := k) (j := a) (by omega) (by omega)
    by_cases hneg : Aa < 0
    ·have hdd : decide (Aa < 0) = true := decide_eq_true (by omega)
     have HG : Hid (scanUp (fun x => ltOf (bA l) x dr[a]!) dr j (k + 1) = scanUp (fun x => ltOf (bA l) x dr[a]!) dr j i) := aA (by rw [← HOk.out]; exact (scanUp_go _ _ _ _ hle (by simp [HXa.out.2.2.1 hneg])).symm)
     go_wp2_with fail
     go_region_held (fun w' => w'.cell? ⟨g, k * 3, none⟩ = some (.int .u8 (Xa.1 : Int)) ∧ w'.cell? ⟨g, k * 3 + 1, none⟩ = some (.int .u32 (Xa.2.1 : Int)) ∧ w'.cell? ⟨g, k * 3 + 2, none⟩ = some (.int .u32 (Xa.2.2 : Int)) ∧ w'.cell? ⟨g, a * 3, none⟩ = some (.int .u8 (Ya.1 : Int)) ∧ w'.cell? ⟨g, a * 3 + 1, none⟩ = some (.int .u32 (Ya.2.1 : Int)) ∧ w'.cell? ⟨g, a * 3 + 2, none⟩ = some (.int .u32 (Ya.2.2 : Int))) (go_keep) (first
      | (go_at_call 37; refine CBa.out.mono ?_; rintro e w3 ⟨rfl, Hw3, ssa, tta⟩))
     all_goals rename_i w3 Hw3 ssa tta hSa
     all_goals clear hSa x0a x1a x2a y0a y1a y2a CBa
     all_goals go_wp2_with fail
     all_goals exact ⟨⟨k + 1, (k : Int) + 1, rfl, by omega, by omega, by omega, Hw3, HG⟩, by rw [show (k : Int) + 1 = (((k + 1) : Nat) : Int) from by omega, cB, cB]; omega⟩
    ·have hdd : decide (Aa < 0) = false := decide_eq_false (by omega)
     have HG : Hid (scanUp (fun x => ltOf (bA l) x dr[a]!) dr j i = k) := aA (by rw [← HOk.out]; exact scanUp_end _ _ _ _ (.inr (by simp [HXa.out.2.2.2 hneg])))
     go_wp2_with fail
     go_region_held (fun w' => w'.cell? ⟨g, k * 3, none⟩ = some (.int .u8 (Xa.1 : Int)) ∧ w'.cell? ⟨g, k * 3 + 1, none⟩ = some (.int .u32 (Xa.2.1 : Int)) ∧ w'.cell? ⟨g, k * 3 + 2, none⟩ = some (.int .u32 (Xa.2.2 : Int)) ∧ w'.cell? ⟨g, a * 3, none⟩ = some (.int .u8 (Ya.1 : Int)) ∧ w'.cell? ⟨g, a * 3 + 1, none⟩ = some (.int .u32 (Ya.2.1 : Int)) ∧ w'.cell? ⟨g, a * 3 + 2, none⟩ = some (.int .u32 (Ya.2.2 : Int))) (go_keep) (first
      | (go_at_call 37; refine CBa.out.mono ?_; rintro e w3 ⟨rfl, Hw3, ssa, tta⟩))
     all_goals rename_i w3 Hw3 ssa tta hSa
     all_goals clear hSa x0a x1a x2a y0a y1a y2a CBa
     all_goals go_wp2_with fail
     all_goals go_meet
     all_goals exact ⟨k, (k : Int), rfl, rfl, by omega, by omega, Hw3, HG⟩
   ·have hz : ¬ (k : Int) ≤ (j : Int) := by omega
    have hd : decide ((k : Int) ≤ (j : Int)) = false := decide_eq_false (by omega)
    have HG : Hid (scanUp (fun x => ltOf (bA l) x dr[a]!) dr j i = k) := aA (by rw [← HOk.out]; exact scanUp_end _ _ _ _ (.inl hle))
    have HTk2 := aA HTk.out.drew
    go_wp2_with fail
    go_big_region_o
    all_goals go_wp2_with fail
    all_goals go_meet
    all_goals exact ⟨k, (k : Int), rfl, rfl, by omega, by omega, HTk2, HG⟩
 case rest =>
  clear HN
  obtain ⟨i2, xi, rfl, rfl, hi21, hi22, HTi2, HKi2⟩ := hcut
  go_upto_block 2 with fail
  go_cut [13] (fun x wx => ∃ (k : Nat) (xi : Int), x = .int .i64 xi ∧ xi = (k : Int) ∧ k ≤ j ∧ i2 ≤ k + 1 ∧ Hid (bJ l g w0 wx n dr) ∧ Hid (scanDown (fun x => !ltOf (bA l) x dr[a]!) dr i2 j = k))
  case first =>
   go_wp2_with fail
   go_loopw [13] (fun x wx => ∃ (k : Nat) (xi : Int), x = .int .i64 xi ∧ xi = (k : Int) ∧ k ≤ j ∧ i2 ≤ k + 1 ∧ Hid (bJ l g w0 wx n dr) ∧ Hid (scanDown (fun x => !ltOf (bA l) x dr[a]!) dr i2 k = scanDown (fun x => !ltOf (bA l) x dr[a]!) dr i2 j)) (fun x _ => dnK x)
   case atStart => exact ⟨j, j, rfl, rfl, by omega, by omega, HTi2, aA rfl⟩
   case round =>
    clear HTi2
    obtain ⟨k, xi, rfl, rfl, hk1, hk2, HTk, HOk⟩ := hrel
    by_cases hle : i2 ≤ k
    ·have hz : (i2 : Int) ≤ (k : Int) := by omega
     have hd : decide ((i2 : Int) ≤ (k : Int)) = true := decide_eq_true (by omega)
     have z1 : (k : Int) < (n : Int) := by omega
     have z2 : (a : Int) < (n : Int) := by omega
     have v1 : IntKind.i64.wrap (k : Int) = (k : Int) := by rw [IntKind.wrap_i64]; omega
     have v2 : IntKind.i64.wrap (a : Int) = (a : Int) := by rw [IntKind.wrap_i64]; omega
     obtain ⟨Xa, Ya, Aa, HXa, ⟨x0a, x1a, x2a⟩, ⟨y0a, y1a, y2a⟩, CBa⟩ := iM HC.out HTk.out (i := k) (j := a) (by omega) (by omega)
     by_cases hneg : Aa < 0
     ·have hdd : decide (Aa < 0) = true := decide_eq_true (by omega)
      have HG : Hid (scanDown (fun x => !ltOf (bA l) x dr[a]!) dr i2 j = k) := aA (by rw [← HOk.out]; exact scanDown_end _ _ _ _ (.inr (by simp [HXa.out.2.2.1 hneg])))
      go_wp2_with fail
      go_region_held (fun w' => w'.cell? ⟨g, k * 3, none⟩ = some (.int .u8 (Xa.1 : Int)) ∧ w'.cell? ⟨g, k * 3 + 1, none⟩ = some (.int .u32 (Xa.2.1 : Int)) ∧ w'.cell? ⟨g, k * 3 + 2, none⟩ = some (.int .u32 (Xa.2.2 : Int)) ∧ w'.cell? ⟨g, a * 3, none⟩ = some (.int .u8 (Ya.1 : Int)) ∧ w'.cell? ⟨g, a * 3 + 1, none⟩ = some (.int .u32 (Ya.2.1 : Int)) ∧ w'.cell? ⟨g, a * 3 + 2, none⟩ = some (.int .u32 (Ya.2.2 : Int))) (go_keep) (first
       | (go_at_call 37; refine CBa.out.mono ?_; rintro e w3 ⟨rfl, Hw3, ssa, tta⟩))
      all_goals rename_i w3 Hw3 ssa tta hSa
      all_goals clear hSa x0a x1a x2a y0a y1a y2a CBa
      all_goals go_wp2_with fail
      all_goals go_meet
      all_goals exact ⟨k, (k : Int), rfl, rfl, by omega, by omega, Hw3, HG⟩
     ·have hdd : decide (Aa < 0) = false := decide_eq_false (by omega)
      have HG : Hid (scanDown (fun x => !ltOf (bA l) x dr[a]!) dr i2 (k - 1) = scanDown (fun x => !ltOf (bA l) x dr[a]!) dr i2 j) := aA (by rw [← HOk.out]; exact (scanDown_go _ _ _ _ hle (by omega) (by simp [HXa.out.2.2.2 hneg])).symm)
      go_wp2_with fail
      go_region_held (fun w' => w'.cell? ⟨g, k * 3, none⟩ = some (.int .u8 (Xa.1 : Int)) ∧ w'.cell? ⟨g, k * 3 + 1, none⟩ = some (.int .u32 (Xa.2.1 : Int)) ∧ w'.cell? ⟨g, k * 3 + 2, none⟩ = some (.int .u32 (Xa.2.2 : Int)) ∧ w'.cell? ⟨g, a * 3, none⟩ = some (.int .u8 (Ya.1 : Int)) ∧ w'.cell? ⟨g, a * 3 + 1, none⟩ = some (.int .u32 (Ya.2.1 : Int)) ∧ w'.cell? ⟨g, a * 3 + 2, none⟩ = some (.int .u32 (Ya.2.2 : Int))) (go_keep) (first
       | (go_at_call 37; refine CBa.out.mono ?_; rintro e w3 ⟨rfl, Hw3, ssa, tta⟩))
      all_goals rename_i w3 Hw3 ssa tta hSa
      all_goals clear hSa x0a x1a x2a y0a y1a y2a CBa
      all_goals go_wp2_with fail
      all_goals exact ⟨⟨k - 1, (k : Int) - 1, rfl, by omega, by omega, by omega, Hw3, HG⟩, by rw [show (k : Int) - 1 = (((k - 1) : Nat) : Int) from by omega, iG, iG]; omega⟩
    ·have hz : ¬ (i2 : Int) ≤ (k : Int) := by omega
     have hd : decide ((i2 : Int) ≤ (k : Int)) = false := decide_eq_false (by omega)
     have HG : Hid (scanDown (fun x => !ltOf (bA l) x dr[a]!) dr i2 j = k) := aA (by rw [← HOk.out]; exact scanDown_end _ _ _ _ (.inl hle))
     have HTk2 := aA HTk.out.drew
     go_wp2_with fail
     go_big_region_o
     all_goals go_wp2_with fail
     all_goals go_meet
     all_goals exact ⟨k, (k : Int), rfl, rfl, by omega, by omega, HTk2, HG⟩
  case rest =>
   clear HTi2
   obtain ⟨j2, xi, rfl, rfl, hj21, hj22, HTj2, HKj2⟩ := hcut
   by_cases hgt : j2 < i2
   ·have hz : (j2 : Int) < (i2 : Int) := by omega
    have HE : Hid (R = (j2, true, swp dr j2 a)) := aA (by rw [HR.out]; exact part_first_break _ d a b pv HI.out HJ.out HDR.out HKi2.out.symm HKj2.out.symm hgt)
    have z1 : (j2 : Int) < (n : Int) := by omega
    have z2 : (a : Int) < (n : Int) := by omega
    have v1 : IntKind.i64.wrap (j2 : Int) = (j2 : Int) := by rw [IntKind.wrap_i64]; omega
    have v2 : IntKind.i64.wrap (a : Int) = (a : Int) := by rw [IntKind.wrap_i64]; omega
    obtain ⟨Xb, Yb, HXb, ssb, ttb⟩ := twoAt HTj2.out (i := j2) (j := a) (by omega) (by omega)
    go_wp2_with fail
    all_goals
     obtain ⟨st1, st2, HN⟩ := gE HTj2.out (i := j2) (j := a) (by omega) (by omega) HXb.out.1 HXb.out.2.1
     obtain ⟨e0, e1, e2⟩ := ssb
     obtain ⟨e3, e4, e5⟩ := ttb
    all_goals go_region
    all_goals (first | simp only [Exit.then] | simp only [Exit.inBlock, Exit.then] | skip)
    all_goals rename_i hK
    all_goals refine hK _ _ ?_
    all_goals clear hK st1 st2 e0 e1 e2 e3 e4 e5
    all_goals go_wp2_with fail
    go_ret2
    exact ⟨j2, true, _, rfl, HE.out, HN.out⟩
   ·have hz : ¬ (j2 : Int) < (i2 : Int) := by omega
    have hlt : i2 < j2 := part_scans_lt _ a i j dr (by omega) HKi2.out.symm HKj2.out.symm (by omega)
    have HE : Hid (R = partFS a (partLoop (ltOf (bA l)) a (i2 + 1) (j2 - 1) (swp dr i2 j2))) := aA (by rw [HR.out]; exact part_first_go _ d a b pv HI.out HJ.out HDR.out HKi2.out.symm HKj2.out.symm (by omega))
    clear HR
    have z1 : (i2 : Int) < (n : Int) := by omega
    have z2 : (j2 : Int) < (n : Int) := by omega
    have v1 : IntKind.i64.wrap (i2 : Int) = (i2 : Int) := by rw [IntKind.wrap_i64]; omega
    have v2 : IntKind.i64.wrap (j2 : Int) = (j2 : Int) := by rw [IntKind.wrap_i64]; omega
    obtain ⟨Xb, Yb, HXb, ssb, ttb⟩ := twoAt HTj2.out (i := i2) (j := j2) (by omega) (by omega)
    go_wp2_with fail
    all_goals
     obtain ⟨st1, st2, HN⟩ := gE HTj2.out (i := i2) (j := j2) (by omega) (by omega) HXb.out.1 HXb.out.2.1
     obtain ⟨e0, e1, e2⟩ := ssb
     obtain ⟨e3, e4, e5⟩ := ttb
    all_goals go_region
    all_goals (first | simp only [Exit.then] | simp only [Exit.inBlock, Exit.then] | skip)
    all_goals rename_i hK
    all_goals refine hK _ _ ?_
    all_goals clear hK st1 st2 e0 e1 e2 e3 e4 e5
    clear HTj2 HKi2 HKj2 HDR HI HJ g1 g2 z1 z2 v1 v2 hz hgt HXb
    go_wp2_with fail
    obtain ⟨i0, hi0⟩ : ∃ i0, i0 = i2 + 1 := ⟨_, rfl⟩
    obtain ⟨j0, hj0⟩ : ∃ j0, j0 = j2 - 1 := ⟨_, rfl⟩
    rw [← hi0, ← hj0] at HE
    have q1 : a < i0 ∧ i0 ≤ j0 + 1 ∧ j0 < b ∧ (i0 : Int) = (i2 : Int) + 1 ∧ (j0 : Int) = (j2 : Int) - 1 := by omega
    have Q1 := aA q1
    clear hi0 hj0 q1
    go_loopg [12, 13] (j0 + 1 - i0) (fun gh x y wr => ∃ (i j : Nat) (xi yj : Int) (dr : Array TxN), x = .int .i64 xi ∧ y = .int .i64 yj ∧ xi = (i : Int) ∧ yj = (j : Int) ∧ gh = j + 1 - i ∧ a < i ∧ i ≤ j + 1 ∧ j < b ∧ Hid (bJ l g w0 wr n dr) ∧ Hid (R = partFS a (partLoop (ltOf (bA l)) a i j dr)))
    case atStart => exact ⟨i0, j0, (i2 : Int) + 1, (j2 : Int) - 1, _, rfl, rfl, Q1.out.2.2.2.1.symm, Q1.out.2.2.2.2.symm, rfl, Q1.out.1, Q1.out.2.1, Q1.out.2.2.1, HN, HE⟩
    case round =>
     clear HN HE Q1 hlt hi21 hi22 hj21 hj22 k1 k2 k3
     obtain ⟨i, j, xi, yj, dr, rfl, rfl, rfl, rfl, hgh, hai, hij, hjb, HT, HO⟩ := hrel
     go_upto_block 6 with fail
     go_cut [12] (fun x wx => ∃ (k : Nat) (xi : Int), x = .int .i64 xi ∧ xi = (k : Int) ∧ i ≤ k ∧ k ≤ j + 1 ∧ Hid (bJ l g w0 wx n dr) ∧ Hid (scanUp (fun x => ltOf (bA l) x dr[a]!) dr j i = k))
     case first =>
      go_wp2_with fail
      go_loopw [12] (fun x wx => ∃ (k : Nat) (xi : Int), x = .int .i64 xi ∧ xi = (k : Int) ∧ i ≤ k ∧ k ≤ j + 1 ∧ Hid (bJ l g w0 wx n dr) ∧ Hid (scanUp (fun x => ltOf (bA l) x dr[a]!) dr j k = scanUp (fun x => ltOf (bA l) x dr[a]!) dr j i)) (fun x _ => ctK (j + 2) x)
      case atStart => exact ⟨i, i, rfl, rfl, by omega, by omega, HT, aA rfl⟩
      case round =>
       clear HT
       obtain ⟨k, xi, rfl, rfl, hk1, hk2, HTk, HOk⟩ := hrel
       by_cases hle : k ≤ j
       ·have hz : (k : Int) ≤ (j : Int) := by omega
        have hd : decide ((k : Int) ≤ (j : Int)) = true := decide_eq_true (by omega)
        have z1 : (k : Int) < (n : Int) := by omega
        have z2 : (a : Int) < (n : Int) := by omega
        have v1 : IntKind.i64.wrap (k : Int) = (k : Int) := by rw [IntKind.wrap_i64]; omega
        have v2 : IntKind.i64.wrap (a : Int) = (a : Int) := by rw [IntKind.wrap_i64]; omega
        obtain ⟨Xa, Ya, Aa, HXa, ⟨x0a, x1a, x2a⟩, ⟨y0a, y1a, y2a⟩, CBa⟩ := iM HC.out HTk.out (i := k) (j := a) (by omega) (by omega)
        by_cases hneg : Aa < 0
        ·have hdd : decide (Aa < 0) = true := decide_eq_true (by omega)
         have HG : Hid (scanUp (fun x => ltOf (bA l) x dr[a]!) dr j (k + 1) = scanUp (fun x => ltOf (bA l) x dr[a]!) dr j i) := aA (by rw [← HOk.out]; exact (scanUp_go _ _ _ _ hle (by simp [HXa.out.2.2.1 hneg])).symm)
         go_wp2_with fail
         go_region_held (fun w' => w'.cell? ⟨g, k * 3, none⟩ = some (.int .u8 (Xa.1 : Int)) ∧ w'.cell? ⟨g, k * 3 + 1, none⟩ = some (.int .u32 (Xa.2.1 : Int)) ∧ w'.cell? ⟨g, k * 3 + 2, none⟩ = some (.int .u32 (Xa.2.2 : Int)) ∧ w'.cell? ⟨g, a * 3, none⟩ = some (.int .u8 (Ya.1 : Int)) ∧ w'.cell? ⟨g, a * 3 + 1, none⟩ = some (.int .u32 (Ya.2.1 : Int)) ∧ w'.cell? ⟨g, a * 3 + 2, none⟩ = some (.int .u32 (Ya.2.2 : Int))) (go_keep) (first
          | (go_at_call 37; refine CBa.out.mono ?_; rintro e w3 ⟨rfl, Hw3, ssa, tta⟩))
         all_goals rename_i w3 Hw3 ssa tta hSa
         all_goals clear hSa x0a x1a x2a y0a y1a y2a CBa
         all_goals go_wp2_with fail
         all_goals exact ⟨⟨k + 1, (k : Int) + 1, rfl, by omega, by omega, by omega, Hw3, HG⟩, by rw [show (k : Int) + 1 = (((k + 1) : Nat) : Int) from by omega, cB, cB]; omega⟩
        ·have hdd : decide (Aa < 0) = false := decide_eq_false (by omega)
         have HG : Hid (scanUp (fun x => ltOf (bA l) x dr[a]!) dr j i = k) := aA (by rw [← HOk.out]; exact scanUp_end _ _ _ _ (.inr (by simp [HXa.out.2.2.2 hneg])))
         go_wp2_with fail
         go_region_held (fun w' => w'.cell? ⟨g, k * 3, none⟩ = some (.int .u8 (Xa.1 : Int)) ∧ w'.cell? ⟨g, k * 3 + 1, none⟩ = some (.int .u32 (Xa.2.1 : Int)) ∧ w'.cell? ⟨g, k * 3 + 2, none⟩ = some (.int .u32 (Xa.2.2 : Int)) ∧ w'.cell? ⟨g, a * 3, none⟩ = some (.int .u8 (Ya.1 : Int)) ∧ w'.cell? ⟨g, a * 3 + 1, none⟩ = some (.int .u32 (Ya.2.1 : Int)) ∧ w'.cell? ⟨g, a * 3 + 2, none⟩ = some (.int .u32 (Ya.2.2 : Int))) (go_keep) (first
          | (go_at_call 37; refine CBa.out.mono ?_; rintro e w3 ⟨rfl, Hw3, ssa, tta⟩))
         all_goals rename_i w3 Hw3 ssa tta hSa
         all_goals clear hSa x0a x1a x2a y0a y1a y2a CBa
         all_goals go_wp2_with fail
         all_goals go_meet
         all_goals exact ⟨k, (k : Int), rfl, rfl, by omega, by omega, Hw3, HG⟩
       ·have hz : ¬ (k : Int) ≤ (j : Int) := by omega
        have hd : decide ((k : Int) ≤ (j : Int)) = false := decide_eq_false (by omega)
        have HG : Hid (scanUp (fun x => ltOf (bA l) x dr[a]!) dr j i = k) := aA (by rw [← HOk.out]; exact scanUp_end _ _ _ _ (.inl hle))
        have HTk2 := aA HTk.out.drew
        go_wp2_with fail
        go_big_region_o
        all_goals go_wp2_with fail
        all_goals go_meet
        all_goals exact ⟨k, (k : Int), rfl, rfl, by omega, by omega, HTk2, HG⟩
     case rest =>
      clear HT
      obtain ⟨i2, xi, rfl, rfl, hi21, hi22, HTi2, HKi2⟩ := hcut
      go_upto_block 8 with fail
      go_cut [13] (fun x wx => ∃ (k : Nat) (xi : Int), x = .int .i64 xi ∧ xi = (k : Int) ∧ k ≤ j ∧ i2 ≤ k + 1 ∧ Hid (bJ l g w0 wx n dr) ∧ Hid (scanDown (fun x => !ltOf (bA l) x dr[a]!) dr i2 j = k))
      case first =>
       go_wp2_with fail
       go_loopw [13] (fun x wx => ∃ (k : Nat) (xi : Int), x = .int .i64 xi ∧ xi = (k : Int) ∧ k ≤ j ∧ i2 ≤ k + 1 ∧ Hid (bJ l g w0 wx n dr) ∧ Hid (scanDown (fun x => !ltOf (bA l) x dr[a]!) dr i2 k = scanDown (fun x => !ltOf (bA l) x dr[a]!) dr i2 j)) (fun x _ => dnK x)
       case atStart => exact ⟨j, j, rfl, rfl, by omega, by omega, HTi2, aA rfl⟩
       case round =>
        clear HTi2
        obtain ⟨k, xi, rfl, rfl, hk1, hk2, HTk, HOk⟩ := hrel
        by_cases hle : i2 ≤ k
        ·have hz : (i2 : Int) ≤ (k : Int) := by omega
         have hd : decide ((i2 : Int) ≤ (k : Int)) = true := decide_eq_true (by omega)
         have z1 : (k : Int) < (n : Int) := by omega
         have z2 : (a : Int) < (n : Int) := by omega
         have v1 : IntKind.i64.wrap (k : Int) = (k : Int) := by rw [IntKind.wrap_i64]; omega
         have v2 : IntKind.i64.wrap (a : Int) = (a : Int) := by rw [IntKind.wrap_i64]; omega
         obtain ⟨Xa, Ya, Aa, HXa, ⟨x0a, x1a, x2a⟩, ⟨y0a, y1a, y2a⟩, CBa⟩ := iM HC.out HTk.out (i := k) (j := a) (by omega) (by omega)
         by_cases hneg : Aa < 0
         ·have hdd : decide (Aa < 0) = true := decide_eq_true (by omega)
          have HG : Hid (scanDown (fun x => !ltOf (bA l) x dr[a]!) dr i2 j = k) := aA (by rw [← HOk.out]; exact scanDown_end _ _ _ _ (.inr (by simp [HXa.out.2.2.1 hneg])))
          go_wp2_with fail
          go_region_held (fun w' => w'.cell? ⟨g, k * 3, none⟩ = some (.int .u8 (Xa.1 : Int)) ∧ w'.cell? ⟨g, k * 3 + 1, none⟩ = some (.int .u32 (Xa.2.1 : Int)) ∧ w'.cell? ⟨g, k * 3 + 2, none⟩ = some (.int .u32 (Xa.2.2 : Int)) ∧ w'.cell? ⟨g, a * 3, none⟩ = some (.int .u8 (Ya.1 : Int)) ∧ w'.cell? ⟨g, a * 3 + 1, none⟩ = some (.int .u32 (Ya.2.1 : Int)) ∧ w'.cell? ⟨g, a * 3 + 2, none⟩ = some (.int .u32 (Ya.2.2 : Int))) (go_keep) (first
           | (go_at_call 37; refine CBa.out.mono ?_; rintro e w3 ⟨rfl, Hw3, ssa, tta⟩))
          all_goals rename_i w3 Hw3 ssa tta hSa
          all_goals clear hSa x0a x1a x2a y0a y1a y2a CBa
          all_goals go_wp2_with fail
          all_goals go_meet
          all_goals exact ⟨k, (k : Int), rfl, rfl, by omega, by omega, Hw3, HG⟩
         ·have hdd : decide (Aa < 0) = false := decide_eq_false (by omega)
          have HG : Hid (scanDown (fun x => !ltOf (bA l) x dr[a]!) dr i2 (k - 1) = scanDown (fun x => !ltOf (bA l) x dr[a]!) dr i2 j) := aA (by rw [← HOk.out]; exact (scanDown_go _ _ _ _ hle (by omega) (by simp [HXa.out.2.2.2 hneg])).symm)
          go_wp2_with fail
          go_region_held (fun w' => w'.cell? ⟨g, k * 3, none⟩ = some (.int .u8 (Xa.1 : Int)) ∧ w'.cell? ⟨g, k * 3 + 1, none⟩ = some (.int .u32 (Xa.2.1 : Int)) ∧ w'.cell? ⟨g, k * 3 + 2, none⟩ = some (.int .u32 (Xa.2.2 : Int)) ∧ w'.cell? ⟨g, a * 3, none⟩ = some (.int .u8 (Ya.1 : Int)) ∧ w'.cell? ⟨g, a * 3 + 1, none⟩ = some (.int .u32 (Ya.2.1 : Int)) ∧ w'.cell? ⟨g, a * 3 + 2, none⟩ = some (.int .u32 (Ya.2.2 : Int))) (go_keep) (first
           | (go_at_call 37; refine CBa.out.mono ?_; rintro e w3 ⟨rfl, Hw3, ssa, tta⟩))
          all_goals rename_i w3 Hw3 ssa tta hSa
          all_goals clear hSa x0a x1a x2a y0a y1a y2a CBa
          all_goals go_wp2_with fail
          all_goals exact ⟨⟨k - 1, (k : Int) - 1, rfl, by omega, by omega, by omega, Hw3, HG⟩, by rw [show (k : Int) - 1 = (((k - 1) : Nat) : Int) from by omega, iG, iG]; omega⟩
        ·have hz : ¬ (i2 : Int) ≤ (k : Int) := by omega
         have hd : decide ((i2 : Int) ≤ (k : Int)) = false := decide_eq_false (by omega)
         have HG : Hid (scanDown (fun x => !ltOf (bA l) x dr[a]!) dr i2 j = k) := aA (by rw [← HOk.out]; exact scanDown_end _ _ _ _ (.inl hle))
         have HTk2 := aA HTk.out.drew
         go_wp2_with fail
         go_big_region_o
         all_goals go_wp2_with fail
         all_goals go_meet
         all_goals exact ⟨k, (k : Int), rfl, rfl, by omega, by omega, HTk2, HG⟩
      case rest =>
       clear HTi2
       obtain ⟨j2, xi, rfl, rfl, hj21, hj22, HTj2, HKj2⟩ := hcut
       by_cases hgt : j2 < i2
       ·have hz : (j2 : Int) < (i2 : Int) := by omega
        have HE : Hid (R = (j2, false, swp dr j2 a)) := aA (by rw [HO.out, part_break _ a i j dr HKi2.out.symm HKj2.out.symm hgt]; rfl)
        have z1 : (j2 : Int) < (n : Int) := by omega
        have z2 : (a : Int) < (n : Int) := by omega
        have v1 : IntKind.i64.wrap (j2 : Int) = (j2 : Int) := by rw [IntKind.wrap_i64]; omega
        have v2 : IntKind.i64.wrap (a : Int) = (a : Int) := by rw [IntKind.wrap_i64]; omega
        obtain ⟨Xb, Yb, HXb, ssb, ttb⟩ := twoAt HTj2.out (i := j2) (j := a) (by omega) (by omega)
        go_wp2_with fail
        all_goals
         obtain ⟨st1, st2, HN⟩ := gE HTj2.out (i := j2) (j := a) (by omega) (by omega) HXb.out.1 HXb.out.2.1
         obtain ⟨e0, e1, e2⟩ := ssb
         obtain ⟨e3, e4, e5⟩ := ttb
        all_goals go_region
        all_goals (first | simp only [Exit.then] | simp only [Exit.inBlock, Exit.then] | skip)
        all_goals rename_i hK
        all_goals refine hK _ _ ?_
        all_goals clear hK st1 st2 e0 e1 e2 e3 e4 e5
        all_goals go_wp2_with fail
        go_ret2
        exact ⟨j2, false, _, rfl, HE.out, HN.out⟩
       ·have hz : ¬ (j2 : Int) < (i2 : Int) := by omega
        have hlt : i2 < j2 := part_scans_lt _ a i j dr (by omega) HKi2.out.symm HKj2.out.symm (by omega)
        have HE : Hid (R = partFS a (partLoop (ltOf (bA l)) a (i2 + 1) (j2 - 1) (swp dr i2 j2))) := aA (by rw [HO.out, part_go _ a i j dr HKi2.out.symm HKj2.out.symm (by omega)])
        have z1 : (i2 : Int) < (n : Int) := by omega
        have z2 : (j2 : Int) < (n : Int) := by omega
        have v1 : IntKind.i64.wrap (i2 : Int) = (i2 : Int) := by rw [IntKind.wrap_i64]; omega
        have v2 : IntKind.i64.wrap (j2 : Int) = (j2 : Int) := by rw [IntKind.wrap_i64]; omega
        obtain ⟨Xb, Yb, HXb, ssb, ttb⟩ := twoAt HTj2.out (i := i2) (j := j2) (by omega) (by omega)
        go_wp2_with fail
        all_goals
         obtain ⟨st1, st2, HN⟩ := gE HTj2.out (i := i2) (j := j2) (by omega) (by omega) HXb.out.1 HXb.out.2.1
         obtain ⟨e0, e1, e2⟩ := ssb
         obtain ⟨e3, e4, e5⟩ := ttb
        all_goals go_region
        all_goals (first | simp only [Exit.then] | simp only [Exit.inBlock, Exit.then] | skip)
        all_goals rename_i hK
        all_goals refine hK _ _ ?_
        all_goals clear hK st1 st2 e0 e1 e2 e3 e4 e5
        all_goals go_wp2_with fail
        go_roundg (j2 - 1 + 1 - (i2 + 1))
        case measure => omega
        case rel => exact ⟨i2 + 1, j2 - 1, (i2 : Int) + 1, (j2 : Int) - 1, _, rfl, rfl, by omega, by omega, rfl, by omega, by omega, by omega, HN, HE⟩
end
end Go.Proofs.YtiloagmkkhlfjaaGreat
