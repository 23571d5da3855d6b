/-
  Own texts put together: LkSift2. Own work.
-/
import Derived.Test.YtiloagmkkhlfjaaGreatG19
import Derived.Test.YtiloagmkkhlfjaaGreatG17
namespace Go.Proofs.YtiloagmkkhlfjaaGreat
section
open Go.RowKit Go.Maps Go.Shelf Go.Sort Classical
attribute [local go_sem ↓] fT
set_option maxRecDepth 100000 in
set_option maxHeartbeats 6400000 in
theorem siftB (l : List (aS KeyT)) (q g cap lo hi first n : Nat) (d : Array TxN) (w0 w : World) (hC : iB l q g w0) (h : bJ l g w0 w n d) (hlo : lo ≤ hi) (hb : first + hi ≤ n) (hsz : n ≤ 100) :
  Calls Tryz.prog 106 #[.slice (some ⟨g, 0, none⟩) n cap, .int .i64 (lo : Int), .int .i64 (hi : Int), .int .i64 (first : Int), ageV q] w fun e w' => e = .returned (.tuple #[]) ∧ bJ l g w0 w' n (siftDown (ltOf (bA l)) hi first lo d) := by
 have H := aA h
 have HC := aA hC
 have mixed : Tryz.prog.follows .mixedOrders = true := by kernel_rfl
 clear h hC
 go_enter Tryz.func106, Tryz.ntmps106
 go_wp2_with fail
 go_loopw [10] (fun x wr => ∃ (r : Nat) (dr : Array TxN), x = .int .i64 (r : Int) ∧ r ≤ hi ∧ Hid (bJ l g w0 wr n dr) ∧ Hid (siftDown (ltOf (bA l)) hi first r dr = siftDown (ltOf (bA l)) hi first lo d)) (fun x _ => ctK (hi + 1) x)
 case atStart => exact ⟨lo, d, rfl, hlo, H, aA rfl⟩
 case round =>
  obtain ⟨r, dr, rfl, hr, HT, HO⟩ := hrel
  by_cases hend : 2 * r + 1 ≥ hi
  ·have hz : (hi : Int) ≤ 2 * (r : Int) + 1 := by omega
   go_wp2_with fail
   go_end0
   have h1 := HT.out
   rw [← sift_end (lt := ltOf (bA l)) (first := first) (d := dr) hend, HO.out] at h1
   exact ⟨rfl, h1⟩
  ·have hz : ¬ (hi : Int) ≤ 2 * (r : Int) + 1 := by omega
   obtain ⟨c, hc⟩ : ∃ c, c = 2 * r + 1 := ⟨_, rfl⟩
   obtain ⟨f1, hf1⟩ : ∃ f1, f1 = first + c := ⟨_, rfl⟩
   obtain ⟨fr, hfr⟩ : ∃ fr, fr = first + r := ⟨_, rfl⟩
   have i1 : 2 * (r : Int) + 1 = (c : Int) := by omega
   have i2 : (first : Int) + (c : Int) = (f1 : Int) := by omega
   have i3 : (first : Int) + (r : Int) = (fr : Int) := by omega
   have HCC : Hid (c = 2 * r + 1 ∧ f1 = first + c ∧ fr = first + r) := aA ⟨hc, hf1, hfr⟩
   have hch : c < hi := by omega
   have hf1n : f1 < n := by omega
   have hfrn : fr < n := by omega
   have z1 : (f1 : Int) < (n : Int) := by omega
   have z5 : (fr : Int) < (n : Int) := by omega
   have v0 : IntKind.i64.wrap ((c : Int) + 1) = (c : Int) + 1 := by rw [IntKind.wrap_i64]; omega
   have v1 : IntKind.i64.wrap ((first : Int) + (c : Int)) = (f1 : Int) := by rw [IntKind.wrap_i64]; omega
   have v2 : IntKind.i64.wrap ((f1 : Int) + 1) = (f1 : Int) + 1 := by rw [IntKind.wrap_i64]; omega
   have v3 : IntKind.i64.wrap ((first : Int) + (r : Int)) = (fr : Int) := by rw [IntKind.wrap_i64]; omega
   have v4 : IntKind.i64.wrap ((f1 : Int)) = (f1 : Int) := by rw [IntKind.wrap_i64]; omega
   have v5 : IntKind.i64.wrap ((fr : Int)) = (fr : Int) := by rw [IntKind.wrap_i64]; omega
   have v6 : IntKind.i64.wrap ((c : Int)) = (c : Int) := by rw [IntKind.wrap_i64]; omega
   clear hc hf1 hfr
   by_cases hg : c + 1 < hi
   ·have hg1 : (c : Int) + 1 < (hi : Int) := by omega
    have hg2 : decide ((c : Int) + 1 < (hi : Int)) = true := decide_eq_true hg1
    have hf2n : f1 + 1 < n := by have := HCC.out; omega
    have z2 : (f1 : Int) + 1 < (n : Int) := by omega
    have z3 : (0 : Int) ≤ (f1 : Int) + 1 := by omega
    have z4 : ((f1 : Int) + 1).toNat = f1 + 1 := by omega
    obtain ⟨Xa, Ya, Aa, HXa, ⟨x0a, x1a, x2a⟩, ⟨y0a, y1a, y2a⟩, CBa⟩ := iM HC.out HT.out (i := f1) (j := (f1 + 1)) (by omega) (by omega)
    by_cases hneg : Aa < 0
    ·have HCH : Hid (Chos (ltOf (bA l)) hi first r (c + 1) dr) := aA (.inl ⟨by have := HCC.out; omega, by have := HCC.out; omega, by have h1 := HXa.out.2.2.1 hneg; rw [HCC.out.2.1, HCC.out.1] at h1; exact h1⟩)
     go_wp2_with fail
     go_region_held (fun w' => w'.cell? ⟨g, f1 * 3, none⟩ = some (.int .u8 (Xa.1 : Int)) ∧ w'.cell? ⟨g, f1 * 3 + 1, none⟩ = some (.int .u32 (Xa.2.1 : Int)) ∧ w'.cell? ⟨g, f1 * 3 + 2, none⟩ = some (.int .u32 (Xa.2.2 : Int)) ∧ w'.cell? ⟨g, (f1 + 1) * 3, none⟩ = some (.int .u8 (Ya.1 : Int)) ∧ w'.cell? ⟨g, (f1 + 1) * 3 + 1, none⟩ = some (.int .u32 (Ya.2.1 : Int)) ∧ w'.cell? ⟨g, (f1 + 1) * 3 + 2, none⟩ = some (.int .u32 (Ya.2.2 : Int))) (go_keep) (first
      | (go_at_call 37; refine CBa.out.mono ?_; rintro e w3 ⟨rfl, Hw3, ssa, tta⟩))
     all_goals rename_i w3 Hw3 ssa tta hSa
     all_goals clear hSa x0a x1a x2a y0a y1a y2a CBa
     all_goals
      clear ssa tta
      clear HT
      obtain ⟨Xb, Yb, Ab, HXb, ⟨x0b, x1b, x2b⟩, ⟨y0b, y1b, y2b⟩, CBb⟩ := iM HC.out Hw3.out (i := fr) (j := (f1 + 1)) (by omega) (by omega)
      have v8 : IntKind.i64.wrap ((first : Int) + ((c : Int) + 1)) = (f1 : Int) + 1 := by rw [IntKind.wrap_i64]; omega
      have v9 : IntKind.i64.wrap ((f1 : Int) + 1) = (f1 : Int) + 1 := by rw [IntKind.wrap_i64]; omega
      have i4 : (first : Int) + ((c : Int) + 1) = (f1 : Int) + 1 := by omega
      by_cases hneg2 : Ab < 0
      ·have HG : Hid (siftDown (ltOf (bA l)) hi first (c + 1) (swp dr fr (f1 + 1)) = siftDown (ltOf (bA l)) hi first lo d) := aA (by
        have h1 := HXb.out.2.2.1 hneg2
        have h2 := sift_go HCH.out (by
         have e1 : first + r = fr := by omega
         have e2 : first + (c + 1) = f1 + 1 := by omega
         rw [e1, e2]; exact h1)
        have e1 : first + r = fr := by omega
        have e2 : first + (c + 1) = f1 + 1 := by omega
        rw [e1, e2] at h2
        rw [← h2, HO.out])
       go_wp2_with fail
       have hd : decide (Ab < 0) = true := decide_eq_true (by omega)
       go_region_held (fun w' => w'.cell? ⟨g, fr * 3, none⟩ = some (.int .u8 (Xb.1 : Int)) ∧ w'.cell? ⟨g, fr * 3 + 1, none⟩ = some (.int .u32 (Xb.2.1 : Int)) ∧ w'.cell? ⟨g, fr * 3 + 2, none⟩ = some (.int .u32 (Xb.2.2 : Int)) ∧ w'.cell? ⟨g, (f1 + 1) * 3, none⟩ = some (.int .u8 (Yb.1 : Int)) ∧ w'.cell? ⟨g, (f1 + 1) * 3 + 1, none⟩ = some (.int .u32 (Yb.2.1 : Int)) ∧ w'.cell? ⟨g, (f1 + 1) * 3 + 2, none⟩ = some (.int .u32 (Yb.2.2 : Int))) (go_keep) (first
        | (go_at_call 37; refine CBb.out.mono ?_; rintro e w4 ⟨rfl, Hw4, ssb, ttb⟩))
       all_goals rename_i w4 Hw4 ssb ttb hSb
       all_goals clear hSb x0b x1b x2b y0b y1b y2b CBb
       all_goals go_wp2_with fail
       all_goals
        obtain ⟨st1, st2, HN⟩ := gE Hw4.out (i := fr) (j := (f1 + 1)) (by omega) (by omega) HXb.out.1 HXb.out.2.1
        obtain ⟨e0, e1, e2⟩ := ssb
        obtain ⟨e3, e4, e5⟩ := ttb
       all_goals go_region
       all_goals (first | simp only [Exit.then] | simp only [Exit.inBlock, Exit.then] | skip)
       all_goals rename_i hK
       all_goals refine hK _ _ ?_
       all_goals clear hK st1 st2 e0 e1 e2 e3 e4 e5
       all_goals go_wp2_with fail
       all_goals exact ⟨⟨c + 1, swp dr fr (f1 + 1), by first | rfl | go_num, by omega, HN, HG⟩, by rw [show ((c : Int) + 1) = ((c + 1 : Nat) : Int) from by omega, cB, cB]; have := HCC.out; omega⟩
      ·have HG : Hid (siftDown (ltOf (bA l)) hi first r dr = dr) := aA (by
        have h1 := HXb.out.2.2.2 hneg2
        have e1 : first + r = fr := by omega
        have e2 : first + (c + 1) = f1 + 1 := by omega
        exact sift_stop HCH.out (by rw [e1, e2]; exact h1))
       go_wp2_with fail
       have hd : decide (Ab < 0) = false := decide_eq_false (by omega)
       go_region_held (fun w' => w'.cell? ⟨g, fr * 3, none⟩ = some (.int .u8 (Xb.1 : Int)) ∧ w'.cell? ⟨g, fr * 3 + 1, none⟩ = some (.int .u32 (Xb.2.1 : Int)) ∧ w'.cell? ⟨g, fr * 3 + 2, none⟩ = some (.int .u32 (Xb.2.2 : Int)) ∧ w'.cell? ⟨g, (f1 + 1) * 3, none⟩ = some (.int .u8 (Yb.1 : Int)) ∧ w'.cell? ⟨g, (f1 + 1) * 3 + 1, none⟩ = some (.int .u32 (Yb.2.1 : Int)) ∧ w'.cell? ⟨g, (f1 + 1) * 3 + 2, none⟩ = some (.int .u32 (Yb.2.2 : Int))) (go_keep) (first
        | (go_at_call 37; refine CBb.out.mono ?_; rintro e w4 ⟨rfl, Hw4, ssb, ttb⟩))
       all_goals rename_i w4 Hw4 ssb ttb hSb
       all_goals clear hSb x0b x1b x2b y0b y1b y2b CBb
       all_goals go_wp2_with fail
       all_goals
        (try simp only [Exit.inBlock, Exit.then])
        refine bodyPost_ret (results_none rfl _ _ _) rfl ?_
        have h1 := Hw4.out
        rw [← HG.out, HO.out] at h1
        exact ⟨rfl, h1⟩
    ·have HCH : Hid (Chos (ltOf (bA l)) hi first r c dr) := aA (.inr ⟨HCC.out.1, by have := HCC.out; omega, fun _ => by have h1 := HXa.out.2.2.2 hneg; rw [HCC.out.2.1, HCC.out.1] at h1; exact h1⟩)
     go_wp2_with fail
     go_region_held (fun w' => w'.cell? ⟨g, f1 * 3, none⟩ = some (.int .u8 (Xa.1 : Int)) ∧ w'.cell? ⟨g, f1 * 3 + 1, none⟩ = some (.int .u32 (Xa.2.1 : Int)) ∧ w'.cell? ⟨g, f1 * 3 + 2, none⟩ = some (.int .u32 (Xa.2.2 : Int)) ∧ w'.cell? ⟨g, (f1 + 1) * 3, none⟩ = some (.int .u8 (Ya.1 : Int)) ∧ w'.cell? ⟨g, (f1 + 1) * 3 + 1, none⟩ = some (.int .u32 (Ya.2.1 : Int)) ∧ w'.cell? ⟨g, (f1 + 1) * 3 + 2, none⟩ = some (.int .u32 (Ya.2.2 : Int))) (go_keep) (first
      | (go_at_call 37; refine CBa.out.mono ?_; rintro e w3 ⟨rfl, Hw3, ssa, tta⟩))
     all_goals rename_i w3 Hw3 ssa tta hSa
     all_goals clear hSa x0a x1a x2a y0a y1a y2a CBa
     all_goals
      clear ssa tta
      clear HT
      obtain ⟨Xb, Yb, Ab, HXb, ⟨x0b, x1b, x2b⟩, ⟨y0b, y1b, y2b⟩, CBb⟩ := iM HC.out Hw3.out (i := fr) (j := (f1)) (by omega) (by omega)
      by_cases hneg2 : Ab < 0
      ·have HG : Hid (siftDown (ltOf (bA l)) hi first (c) (swp dr fr (f1)) = siftDown (ltOf (bA l)) hi first lo d) := aA (by
        have h1 := HXb.out.2.2.1 hneg2
        have h2 := sift_go HCH.out (by
         have e1 : first + r = fr := by omega
         have e2 : first + (c) = f1 := by omega
         rw [e1, e2]; exact h1)
        have e1 : first + r = fr := by omega
        have e2 : first + (c) = f1 := by omega
        rw [e1, e2] at h2
        rw [← h2, HO.out])
       go_wp2_with fail
       have hd : decide (Ab < 0) = true := decide_eq_true (by omega)
       go_region_held (fun w' => w'.cell? ⟨g, fr * 3, none⟩ = some (.int .u8 (Xb.1 : Int)) ∧ w'.cell? ⟨g, fr * 3 + 1, none⟩ = some (.int .u32 (Xb.2.1 : Int)) ∧ w'.cell? ⟨g, fr * 3 + 2, none⟩ = some (.int .u32 (Xb.2.2 : Int)) ∧ w'.cell? ⟨g, (f1) * 3, none⟩ = some (.int .u8 (Yb.1 : Int)) ∧ w'.cell? ⟨g, (f1) * 3 + 1, none⟩ = some (.int .u32 (Yb.2.1 : Int)) ∧ w'.cell? ⟨g, (f1) * 3 + 2, none⟩ = some (.int .u32 (Yb.2.2 : Int))) (go_keep) (first
        | (go_at_call 37; refine CBb.out.mono ?_; rintro e w4 ⟨rfl, Hw4, ssb, ttb⟩))
       all_goals rename_i w4 Hw4 ssb ttb hSb
       all_goals clear hSb x0b x1b x2b y0b y1b y2b CBb
       all_goals go_wp2_with fail
       all_goals
        obtain ⟨st1, st2, HN⟩ := gE Hw4.out (i := fr) (j := (f1)) (by omega) (by omega) HXb.out.1 HXb.out.2.1
        obtain ⟨e0, e1, e2⟩ := ssb
        obtain ⟨e3, e4, e5⟩ := ttb
       all_goals go_region
       all_goals (first | simp only [Exit.then] | simp only [Exit.inBlock, Exit.then] | skip)
       all_goals rename_i hK
       all_goals refine hK _ _ ?_
       all_goals clear hK st1 st2 e0 e1 e2 e3 e4 e5
       all_goals go_wp2_with fail
       all_goals exact ⟨⟨c, swp dr fr (f1), by first | rfl | go_num, by omega, HN, HG⟩, by rw [show ((c : Int)) = ((c : Nat) : Int) from by omega, cB, cB]; have := HCC.out; omega⟩
      ·have HG : Hid (siftDown (ltOf (bA l)) hi first r dr = dr) := aA (by
        have h1 := HXb.out.2.2.2 hneg2
        have e1 : first + r = fr := by omega
        have e2 : first + (c) = f1 := by omega
        exact sift_stop HCH.out (by rw [e1, e2]; exact h1))
       go_wp2_with fail
       have hd : decide (Ab < 0) = false := decide_eq_false (by omega)
       go_region_held (fun w' => w'.cell? ⟨g, fr * 3, none⟩ = some (.int .u8 (Xb.1 : Int)) ∧ w'.cell? ⟨g, fr * 3 + 1, none⟩ = some (.int .u32 (Xb.2.1 : Int)) ∧ w'.cell? ⟨g, fr * 3 + 2, none⟩ = some (.int .u32 (Xb.2.2 : Int)) ∧ w'.cell? ⟨g, (f1) * 3, none⟩ = some (.int .u8 (Yb.1 : Int)) ∧ w'.cell? ⟨g, (f1) * 3 + 1, none⟩ = some (.int .u32 (Yb.2.1 : Int)) ∧ w'.cell? ⟨g, (f1) * 3 + 2, none⟩ = some (.int .u32 (Yb.2.2 : Int))) (go_keep) (first
        | (go_at_call 37; refine CBb.out.mono ?_; rintro e w4 ⟨rfl, Hw4, ssb, ttb⟩))
       all_goals rename_i w4 Hw4 ssb ttb hSb
       all_goals clear hSb x0b x1b x2b y0b y1b y2b CBb
       all_goals go_wp2_with fail
       all_goals
        (try simp only [Exit.inBlock, Exit.then])
        refine bodyPost_ret (results_none rfl _ _ _) rfl ?_
        have h1 := Hw4.out
        rw [← HG.out, HO.out] at h1
        exact ⟨rfl, h1⟩
   ·have hg1 : ¬ (c : Int) + 1 < (hi : Int) := by omega
    have hg2 : decide ((c : Int) + 1 < (hi : Int)) = false := decide_eq_false hg1
    have HCH : Hid (Chos (ltOf (bA l)) hi first r c dr) := aA (.inr ⟨HCC.out.1, by have := HCC.out; omega, fun h => by have := HCC.out; omega⟩)
    have Hw3 := aA HT.out.drew
    go_wp2_with fail
    go_big_region_o
    clear HT
    obtain ⟨Xb, Yb, Ab, HXb, ⟨x0b, x1b, x2b⟩, ⟨y0b, y1b, y2b⟩, CBb⟩ := iM HC.out Hw3.out (i := fr) (j := (f1)) (by omega) (by omega)
    by_cases hneg2 : Ab < 0
    ·have HG : Hid (siftDown (ltOf (bA l)) hi first (c) (swp dr fr (f1)) = siftDown (ltOf (bA l)) hi first lo d) := aA (by
      have h1 := HXb.out.2.2.1 hneg2
      have h2 := sift_go HCH.out (by
       have e1 : first + r = fr := by omega
       have e2 : first + (c) = f1 := by omega
       rw [e1, e2]; exact h1)
      have e1 : first + r = fr := by omega
      have e2 : first + (c) = f1 := by omega
      rw [e1, e2] at h2
      rw [← h2, HO.out])
     go_wp2_with fail
     have hd : decide (Ab < 0) = true := decide_eq_true (by omega)
     go_region_held (fun w' => w'.cell? ⟨g, fr * 3, none⟩ = some (.int .u8 (Xb.1 : Int)) ∧ w'.cell? ⟨g, fr * 3 + 1, none⟩ = some (.int .u32 (Xb.2.1 : Int)) ∧ w'.cell? ⟨g, fr * 3 + 2, none⟩ = some (.int .u32 (Xb.2.2 : Int)) ∧ w'.cell? ⟨g, (f1) * 3, none⟩ = some (.int .u8 (Yb.1 : Int)) ∧ w'.cell? ⟨g, (f1) * 3 + 1, none⟩ = some (.int .u32 (Yb.2.1 : Int)) ∧ w'.cell? ⟨g, (f1) * 3 + 2, none⟩ = some (.int .u32 (Yb.2.2 : Int))) (go_keep) (first
      | (go_at_call 37; refine CBb.out.mono ?_; rintro e w4 ⟨rfl, Hw4, ssb, ttb⟩))
     all_goals rename_i w4 Hw4 ssb ttb hSb
     all_goals clear hSb x0b x1b x2b y0b y1b y2b CBb
     all_goals go_wp2_with fail
     all_goals
      obtain ⟨st1, st2, HN⟩ := gE Hw4.out (i := fr) (j := (f1)) (by omega) (by omega) HXb.out.1 HXb.out.2.1
      obtain ⟨e0, e1, e2⟩ := ssb
      obtain ⟨e3, e4, e5⟩ := ttb
     all_goals go_region
     all_goals (first | simp only [Exit.then] | simp only [Exit.inBlock, Exit.then] | skip)
     all_goals rename_i hK
     all_goals refine hK _ _ ?_
     all_goals clear hK st1 st2 e0 e1 e2 e3 e4 e5
     all_goals go_wp2_with fail
     all_goals exact ⟨⟨c, swp dr fr (f1), by first | rfl | go_num, by omega, HN, HG⟩, by rw [show ((c : Int)) = ((c : Nat) : Int) from by omega, cB, cB]; have := HCC.out; omega⟩
    ·have HG : Hid (siftDown (ltOf (bA l)) hi first r dr = dr) := aA (by
      have h1 := HXb.out.2.2.2 hneg2
      have e1 : first + r = fr := by omega
      have e2 : first + (c) = f1 := by omega
      exact sift_stop HCH.out (by rw [e1, e2]; exact h1))
     go_wp2_with fail
     have hd : decide (Ab < 0) = false := decide_eq_false (by omega)
     go_region_held (fun w' => w'.cell? ⟨g, fr * 3, none⟩ = some (.int .u8 (Xb.1 : Int)) ∧ w'.cell? ⟨g, fr * 3 + 1, none⟩ = some (.int .u32 (Xb.2.1 : Int)) ∧ w'.cell? ⟨g, fr * 3 + 2, none⟩ = some (.int .u32 (Xb.2.2 : Int)) ∧ w'.cell? ⟨g, (f1) * 3, none⟩ = some (.int .u8 (Yb.1 : Int)) ∧ w'.cell? ⟨g, (f1) * 3 + 1, none⟩ = some (.int .u32 (Yb.2.1 : Int)) ∧ w'.cell? ⟨g, (f1) * 3 + 2, none⟩ = some (.int .u32 (Yb.2.2 : Int))) (go_keep) (first
      | (go_at_call 37; refine CBb.out.mono ?_; rintro e w4 ⟨rfl, Hw4, ssb, ttb⟩))
     all_goals rename_i w4 Hw4 ssb ttb hSb
     all_goals clear hSb x0b x1b x2b y0b y1b y2b CBb
     all_goals go_wp2_with fail
     all_goals
      (try simp only [Exit.inBlock, Exit.then])
      refine bodyPost_ret (results_none rfl _ _ _) rfl ?_
      have h1 := Hw4.out
      rw [← HG.out, HO.out] at h1
      exact ⟨rfl, h1⟩
end
end Go.Proofs.YtiloagmkkhlfjaaGreat
