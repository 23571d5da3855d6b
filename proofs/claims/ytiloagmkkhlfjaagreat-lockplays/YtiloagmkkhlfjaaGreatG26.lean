/-
  Own texts put together: LkPdq. Own work.
-/
import Derived.Test.YtiloagmkkhlfjaaGreatG18
import Derived.Test.YtiloagmkkhlfjaaGreatG21
import Derived.Test.YtiloagmkkhlfjaaGreatG22
import Derived.Test.YtiloagmkkhlfjaaGreatG23
import Derived.Test.YtiloagmkkhlfjaaGreatG24
import Derived.Test.YtiloagmkkhlfjaaGreatG25
import Derived.Sort.AssemblyPlain
import Derived.Deep.DeepCutAuto
import Derived.Deep.LoopGhost
namespace Go.Proofs.YtiloagmkkhlfjaaGreat
section
open Go.RowKit Go.Maps Go.Shelf Go.Sort Classical
structure PqAt (lt : TxN → TxN → Bool) (n a b : Nat) (d : Array TxN) (x y : Nat) (dk : Array TxN) : Prop where
 sz : dk.size = n
 le : x ≤ y ∧ y ≤ n
 bel : Below lt x y dk
 go : ∀ R, PermIn x y dk R → SortedIn lt x y R → PermIn a b d R ∧ SortedIn lt a b R
theorem PqAt.perm {lt : TxN → TxN → Bool} {n a b : Nat} {d : Array TxN} {x y : Nat} {dk D : Array TxN} (h : PqAt lt n a b d x y dk) (hp : PermIn x y dk D) : PqAt lt n a b d x y D :=
 ⟨by rw [hp.1]; exact h.sz, h.le, h.bel.perm (by rw [h.sz]; exact h.le.2) hp, fun R h1 h2 => h.go R (permIn_trans _ _ _ _ _ hp h1) h2⟩
structure PdqR (l : List (aS KeyT)) (g : Nat) (w0 : World) (n a b : Nat) (d : Array TxN) (e : Ending) (w' : World) : Prop where
 ex : ∃ d', e = .returned (.tuple #[]) ∧ bJ l g w0 w' n d' ∧ PermIn a b d d' ∧ SortedIn (ltOf (bA l)) a b d'
def IsB (v : Value) : Prop := ∃ c : Bool, v = .bool c
def IsC (v : Value) (p : Prop) : Prop := ∃ c : Bool, v = .bool c ∧ (c = true → p)
attribute [local go_sem ↓] fT
set_option maxRecDepth 100000 in
set_option maxHeartbeats 6400000 in
theorem pdqB {l : List (aS KeyT)} {q g n : Nat} {w0 : World} (cap : Nat) (hC : iB l q g w0) (hg : g < w0.heap.size) (hsz : n ≤ 100) : ∀ (N a b limit : Nat) (d : Array TxN) (w : World), b - a < N → bJ l g w0 w n d → a ≤ b → b ≤ n → Below (ltOf (bA l)) a b d → limit ≤ 100 →
  Calls Tryz.prog 66 #[.slice (some ⟨g, 0, none⟩) n cap, .int .i64 (a : Int), .int .i64 (b : Int), .int .i64 (limit : Int), ageV q] w fun e w' => PdqR l g w0 n a b d e w' := by
 have HC := aA hC
 clear hC
 have mixed : Tryz.prog.follows .mixedOrders = true := by kernel_rfl
 intro N
 induction N with
 | zero => intro _ _ _ _ _ h; exact absurd h (Nat.not_lt_zero _)
 | succ N ih =>
  have IH := aA ih
  clear ih
  intro a b limit d w hN h hab hb hBel hlim
  have H := aA h
  have HQ0 : Hid (PqAt (ltOf (bA l)) n a b d a b d) := aA ⟨h.sz, ⟨hab, hb⟩, hBel, fun R h1 h2 => ⟨h1, h2⟩⟩
  clear h hBel
  go_enter Tryz.func66, Tryz.ntmps66
  go_wp2_with fail
  go_loopg [1, 2, 3, 10, 11] (b - a) (fun gh s1 s2 s3 s4 s5 wr => ∃ (x y lim : Nat) (xi yi li : Int) (wb wp : Bool) (dk : Array TxN), s1 = .int .i64 xi ∧ s2 = .int .i64 yi ∧ s3 = .int .i64 li ∧ s4 = .bool wb ∧ s5 = .bool wp ∧ xi = (x : Int) ∧ yi = (y : Int) ∧ li = (lim : Int) ∧ gh = y - x ∧ x ≤ y ∧ y ≤ n ∧ y - x ≤ b - a ∧ lim ≤ 100 ∧ Hid (bJ l g w0 wr n dk) ∧ Hid (PqAt (ltOf (bA l)) n a b d x y dk))
  case atStart => exact ⟨a, b, limit, a, b, limit, true, true, d, rfl, rfl, rfl, rfl, rfl, rfl, rfl, rfl, rfl, hab, hb, Nat.le_refl _, hlim, H, HQ0⟩
  case round =>
   clear H HQ0
   obtain ⟨x, y, lim, xi, yi, li, wb, wp, dk, rfl, rfl, rfl, rfl, rfl, rfl, rfl, rfl, hgh, hxy, hyn, hyx, hl100, HT, HQ⟩ := hrel
   obtain ⟨m, hm⟩ : ∃ m, m = y - x := ⟨_, rfl⟩
   have gm : (y : Int) - (x : Int) = (m : Int) := by omega
   have HM := aA hm
   have hmN : m ≤ b - a := by omega
   clear hm
   by_cases h12 : m ≤ 12
   ·have hz : (m : Int) ≤ 12 := by omega
    go_wp2_with fail
    refine (insR cap x y HC.out HT.out hxy hyn hsz).mono ?_
    rintro e w1 ⟨rfl, h9⟩
    have H9 := aA h9
    clear h9
    go_wp2_with fail
    (try simp only [Exit.inBlock, Exit.then])
    refine bodyPost_ret (results_none rfl _ _ _) rfl ?_
    have hi := insertionSort_holds (ageSWO l) dk x y hxy (by rw [HQ.out.sz]; exact hyn)
    have hr := HQ.out.go _ hi.1 hi.2
    exact ⟨⟨_, rfl, H9.out, hr.1, hr.2⟩⟩
   ·have hz : ¬ (m : Int) ≤ 12 := by omega
    by_cases hl0 : lim = 0
    ·subst hl0
     go_wp2_with fail
     refine (heapB cap x y HC.out HT.out (by have := HM.out; omega) hyn hsz).mono ?_
     rintro e w1 ⟨rfl, h9⟩
     have H9 := aA h9
     clear h9
     go_wp2_with fail
     (try simp only [Exit.inBlock, Exit.then])
     refine bodyPost_ret (results_none rfl _ _ _) rfl ?_
     have hi := heapSort_holds (ageSWO l) dk x y hxy (by rw [HQ.out.sz]; exact hyn)
     have hr := HQ.out.go _ hi.1 hi.2
     exact ⟨⟨_, rfl, H9.out, hr.1, hr.2⟩⟩
    ·have hl1 : ¬ (lim : Int) = 0 := by omega
     have hm12 : 12 < y - x := by have := HM.out; omega
     go_upto_if 39 with fail
     go_cut [3] (fun s wx => ∃ (L1 : Nat) (xi : Int) (D1 : Array TxN), s = .int .i64 xi ∧ xi = (L1 : Int) ∧ L1 ≤ 100 ∧ Hid (bJ l g w0 wx n D1) ∧ Hid (PermIn x y dk D1))
     case first =>
      cases wb
      ·go_wp2_with fail
       refine (brkB cap x y HC.out HT.out hg (by omega) hyn hsz).mono ?_
       rintro e w1 ⟨rfl, h9⟩
       have H9 := aA h9
       clear h9
       go_wp2_with fail
       go_meet
       exact ⟨lim - 1, (lim : Int) - 1, _, rfl, by omega, by omega, H9, aA (breakPatterns_holds dk x y hxy (by rw [HQ.out.sz]; exact hyn))⟩
      ·go_wp2_with fail
       go_meet
       exact ⟨lim, (lim : Int), dk, rfl, rfl, hl100, HT, aA (permIn_refl _ _ _)⟩
     case rest =>
      obtain ⟨L1, xi, D1, rfl, rfl, hL1, HT1, HP1⟩ := hcut
      have HQ1 := aA (HQ.out.perm HP1.out)
      clear HT HQ HP1 hl1 hl0 hl100
      go_wp2_with fail
      refine (pivB cap x y HC.out HT1.out hg hm12 hyn hsz).mono ?_
      rintro e w2 ⟨p, hn, rfl, ep, h9⟩
      have hpr := choosePivot_holds (ltOf (bA l)) D1 x y (by omega)
      rw [ep] at hpr
      dsimp only at hpr
      obtain ⟨hp1, hp2⟩ := hpr
      have HT2 := aA h9
      obtain ⟨hc, hhc⟩ : ∃ hc : Int, hc = hintN hn := ⟨_, rfl⟩
      rw [← hhc]
      clear h9 ep hhc HT1
      go_upto_if 56 with fail
      go_cut [13, 14] (fun s t wx => ∃ (p2 : Nat) (xi hk : Int) (D2 : Array TxN), s = .int .i64 xi ∧ t = .int .i64 hk ∧ xi = (p2 : Int) ∧ x ≤ p2 ∧ p2 < y ∧ Hid (bJ l g w0 wx n D2) ∧ Hid (PqAt (ltOf (bA l)) n a b d x y D2))
      case first =>
       by_cases h2 : hc = 2
       ·subst h2
        go_wp2_with fail
        refine (turnB cap x y HC.out HT2.out (by omega) hyn hsz).mono ?_
        rintro e w3 ⟨rfl, h9⟩
        have H9 := aA h9
        clear h9
        have HQ2 := aA (HQ1.out.perm (reverseRange_holds D1 x y hxy (by rw [HQ1.out.sz]; exact hyn)))
        obtain ⟨pm, hpm⟩ : ∃ pm, pm = p - x := ⟨_, rfl⟩
        have gp : (p : Int) - (x : Int) = (pm : Int) := by omega
        have hpm1 : pm < y - x := by omega
        clear hpm
        go_wp2_with fail
        go_meet
        exact ⟨y - 1 - pm, (y : Int) - 1 - (pm : Int), 1, _, rfl, rfl, by omega, by omega, by omega, H9, HQ2⟩
       ·have h2b : (hc == 2) = false := by simpa using h2
        go_wp2_with fail
        go_meet
        exact ⟨p, (p : Int), hc, D1, rfl, rfl, rfl, hp1, hp2, HT2, HQ1⟩
      case rest =>
       clear HT2 HQ1 hp1 hp2
       obtain ⟨p2, xi, hk, D2, rfl, rfl, rfl, hp1, hp2, HT2, HQ2⟩ := hcut
       go_upto_region 15 with fail
       go_cut [75] (fun s wx => IsB s ∧ Hid (bJ l g w0 wx n D2))
       case first =>
        cases wb <;> cases wp
        all_goals go_wp2_with fail
        all_goals go_meet
        all_goals exact ⟨⟨_, rfl⟩, HT2⟩
       case rest =>
        clear HT2
        obtain ⟨⟨c, rfl⟩, HT2⟩ := hcut
        go_upto_if 75 with fail
        go_cut [] (fun wx => ∃ (D3 : Array TxN), Hid (bJ l g w0 wx n D3) ∧ Hid (PqAt (ltOf (bA l)) n a b d x y D3))
        case first =>
         cases c
         ·go_wp2_with fail
          go_meet
          exact ⟨D2, HT2, HQ2⟩
         ·go_wp2_with fail
          refine (pinsB cap x y HC.out HT2.out (by omega) hyn hsz).mono ?_
          rintro e w3 ⟨⟨⟨D3, ok⟩, rfl, e3, h9⟩⟩
          have hpi := partialInsertionSort_holds (ageSWO l) D2 x y (by omega) (by rw [HQ2.out.sz]; exact hyn) HQ2.out.bel
          rw [e3] at hpi
          dsimp only at hpi h9 ⊢
          have H9 := aA h9
          have HPI := aA hpi
          clear h9 e3 hpi
          cases ok
          ·go_wp2_with fail
           go_meet
           exact ⟨D3, H9, aA (HQ2.out.perm HPI.out.1)⟩
          ·go_wp2_with fail
           (try simp only [Exit.inBlock, Exit.then])
           refine bodyPost_ret (results_none rfl _ _ _) rfl ?_
           have hr := HQ2.out.go _ HPI.out.1 (HPI.out.2 trivial)
           exact ⟨⟨_, rfl, H9.out, hr.1, hr.2⟩⟩
        case rest =>
         clear HT2 HQ2
         obtain ⟨D3, HT3, HQ3⟩ := hcut
         go_upto_region 17 with fail
         go_cut [97] (fun s wx => IsC s (0 < x ∧ ltOf (bA l) D3[x - 1]! D3[p2]! = false) ∧ Hid (bJ l g w0 wx n D3))
         case first =>
          by_cases hx0 : 0 < x
          ·have hz1 : decide ((0 : Int) < (x : Int)) = true := decide_eq_true (by omega)
           have hz2 : (0 : Int) < (x : Int) := by omega
           have hp2n : p2 < n := by omega
           have rp2 : (p2 : Int) < (n : Int) := by omega
           have yp2 : IntKind.i64.wrap (p2 : Int) = (p2 : Int) := by rw [IntKind.wrap_i64]; omega
           have hxn : x < n := by omega
           obtain ⟨xp, hxp⟩ : ∃ xp, xp = x - 1 := ⟨_, rfl⟩
           have HXP := aA hxp
           have gxp : (x : Int) - 1 = (xp : Int) := by omega
           have lxp : xp < n := by omega
           have rxp : (xp : Int) < (n : Int) := by omega
           have rx : (x : Int) < (n : Int) := by omega
           have vxp : IntKind.i64.wrap ((x : Int) - 1) = (xp : Int) := by rw [IntKind.wrap_i64]; omega
           have yxp : IntKind.i64.wrap (xp : Int) = (xp : Int) := by rw [IntKind.wrap_i64]; omega
           have yx : IntKind.i64.wrap (x : Int) = (x : Int) := by rw [IntKind.wrap_i64]; omega
           clear hxp
           obtain ⟨Xa, Ya, Aa, HXa, ⟨x0a, x1a, x2a⟩, ⟨y0a, y1a, y2a⟩, CBa⟩ := iM HC.out HT3.out (i := xp) (j := p2) (by omega) (by omega)
           by_cases hneg : Aa < 0
           ·have hdd : decide (Aa < 0) = true := decide_eq_true (by omega)
            go_wp2_with fail
            go_region_held (fun w' => w'.cell? ⟨g, xp * 3, none⟩ = some (.int .u8 (Xa.1 : Int)) ∧ w'.cell? ⟨g, xp * 3 + 1, none⟩ = some (.int .u32 (Xa.2.1 : Int)) ∧ w'.cell? ⟨g, xp * 3 + 2, none⟩ = some (.int .u32 (Xa.2.2 : Int)) ∧ w'.cell? ⟨g, p2 * 3, none⟩ = some (.int .u8 (Ya.1 : Int)) ∧ w'.cell? ⟨g, p2 * 3 + 1, none⟩ = some (.int .u32 (Ya.2.1 : Int)) ∧ w'.cell? ⟨g, p2 * 3 + 2, none⟩ = some (.int .u32 (Ya.2.2 : Int))) (go_keep) (first
             | (go_at_call 37; refine CBa.out.mono ?_; rintro e w3 ⟨rfl, Hw3, ssa, tta⟩))
            all_goals rename_i w3 Hw3 ssa tta hSa
            all_goals clear hSa x0a x1a x2a y0a y1a y2a CBa
            all_goals go_wp2_with fail
            all_goals go_meet
            all_goals exact ⟨⟨false, rfl, fun h => by cases h⟩, Hw3⟩
           ·have hdd : decide (Aa < 0) = false := decide_eq_false (by omega)
            have HL : Hid (ltOf (bA l) D3[x - 1]! D3[p2]! = false) := aA (by have h1 := HXa.out.2.2.2 hneg; rw [HXP.out] at h1; exact h1)
            go_wp2_with fail
            go_region_held (fun w' => w'.cell? ⟨g, xp * 3, none⟩ = some (.int .u8 (Xa.1 : Int)) ∧ w'.cell? ⟨g, xp * 3 + 1, none⟩ = some (.int .u32 (Xa.2.1 : Int)) ∧ w'.cell? ⟨g, xp * 3 + 2, none⟩ = some (.int .u32 (Xa.2.2 : Int)) ∧ w'.cell? ⟨g, p2 * 3, none⟩ = some (.int .u8 (Ya.1 : Int)) ∧ w'.cell? ⟨g, p2 * 3 + 1, none⟩ = some (.int .u32 (Ya.2.1 : Int)) ∧ w'.cell? ⟨g, p2 * 3 + 2, none⟩ = some (.int .u32 (Ya.2.2 : Int))) (go_keep) (first
             | (go_at_call 37; refine CBa.out.mono ?_; rintro e w3 ⟨rfl, Hw3, ssa, tta⟩))
            all_goals rename_i w3 Hw3 ssa tta hSa
            all_goals clear hSa x0a x1a x2a y0a y1a y2a CBa
            all_goals go_wp2_with fail
            all_goals go_meet
            all_goals exact ⟨⟨true, rfl, fun _ => ⟨hx0, HL.out⟩⟩, Hw3⟩
          ·have hz1 : decide ((0 : Int) < (x : Int)) = false := decide_eq_false (by omega)
           have hz2 : ¬ (0 : Int) < (x : Int) := by omega
           have HTd := aA HT3.out.drew
           go_wp2_with fail
           go_big_region_o
           all_goals go_wp2_with fail
           all_goals go_meet
           all_goals exact ⟨⟨false, rfl, fun h => by cases h⟩, HTd⟩
         case rest =>
          clear HT3
          obtain ⟨⟨c2, rfl, hc2⟩, HT3⟩ := hcut
          cases c2
          ·clear hc2
           go_wp2_with fail
           refine (partS cap x y p2 HC.out HT3.out hp1 hp2 hyn hsz).mono ?_
           rintro e w5 ⟨mid, ap, D4, rfl, e4, h9⟩
           have hrp := round_part (ageSWO l) (partition_holds _) hp1 hp2 (by rw [HQ3.out.sz]; exact hyn) HQ3.out.bel e4
           obtain ⟨m1, m2, m3, m4, m5, m6, m7⟩ := hrp
           have H5 := aA h9
           have M3 := aA m3
           have M4 := aA m4
           have M5 := aA m5
           have M6 := aA m6
           have M7 := aA m7
           clear h9 e4 m3 m4 m5 m6 m7
           obtain ⟨ml, hml⟩ : ∃ ml, ml = mid - x := ⟨_, rfl⟩
           obtain ⟨mr, hmr⟩ : ∃ mr, mr = y - mid := ⟨_, rfl⟩
           obtain ⟨m8, hm8⟩ : ∃ m8, m8 = m / 8 := ⟨_, rfl⟩
           have gml : (mid : Int) - (x : Int) = (ml : Int) := by omega
           have gmr : (y : Int) - (mid : Int) = (mr : Int) := by omega
           have gm8 : (m : Int).tdiv 8 = (m8 : Int) := by rw [Int.tdiv_eq_ediv_of_nonneg (by omega)]; omega
           have HML := aA hml
           have HMR := aA hmr
           obtain ⟨mp, hmp⟩ : ∃ mp, mp = mid + 1 := ⟨_, rfl⟩
           have gmp : (mid : Int) + 1 = (mp : Int) := by omega
           have HMP := aA hmp
           have hmy : mp ≤ y := by omega
           have hmx : x ≤ mid := m1
           clear hml hmr hm8 hmp
           by_cases hlr : ml < mr
           ·have hz5 : (ml : Int) < (mr : Int) := by omega
            go_wp2_with fail
            refine (IH.out x mid L1 D4 _ (by have := HM.out; omega) H5.out m1 (by omega) M4.out hL1).mono ?_
            rintro e w6 ⟨⟨D5, rfl, h9, h10, h11⟩⟩
            have H6 := aA h9
            have HQ5 : Hid (PqAt (ltOf (bA l)) n a b d mp y D5) := aA (by
             have h12 := M6.out D5 h10 h11
             rw [HMP.out]
             refine ⟨by rw [h10.1, M3.out]; exact HQ3.out.sz, ⟨by omega, hyn⟩, h12.1, fun R r1 r2 => ?_⟩
             have h13 := h12.2 R r1 r2
             exact HQ3.out.go R h13.1 h13.2)
            clear h9 h10 h11
            go_wp2_with fail
            go_roundg (y - mp)
            case measure => have := HMP.out; omega
            case rel => exact ⟨mp, y, L1, (mp : Int), (y : Int), (L1 : Int), _, ap, D5, rfl, rfl, rfl, rfl, rfl, rfl, rfl, rfl, rfl, hmy, hyn, by have := HMP.out; omega, hL1, H6, HQ5⟩
           ·have hz5 : ¬ (ml : Int) < (mr : Int) := by omega
            go_wp2_with fail
            refine (IH.out mp y L1 D4 _ (by have := HM.out; have := HMP.out; omega) H5.out hmy hyn (by rw [HMP.out]; exact M5.out) hL1).mono ?_
            rintro e w6 ⟨⟨D5, rfl, h9, h10, h11⟩⟩
            have H6 := aA h9
            have HQ5 : Hid (PqAt (ltOf (bA l)) n a b d x mid D5) := aA (by
             rw [HMP.out] at h10 h11
             have h12 := M7.out D5 h10 h11
             refine ⟨by rw [h10.1, M3.out]; exact HQ3.out.sz, ⟨m1, by omega⟩, h12.1, fun R r1 r2 => ?_⟩
             have h13 := h12.2 R r1 r2
             exact HQ3.out.go R h13.1 h13.2)
            clear h9 h10 h11
            go_wp2_with fail
            go_roundg (mid - x)
            case measure => omega
            case rel => exact ⟨x, mid, L1, (x : Int), (mid : Int), (L1 : Int), _, ap, D5, rfl, rfl, rfl, rfl, rfl, rfl, rfl, rfl, rfl, m1, by omega, by omega, hL1, H6, HQ5⟩
          ·have HL := aA (hc2 rfl)
           clear hc2
           go_wp2_with fail
           refine (peqB cap x y p2 HC.out HT3.out hp1 hp2 hyn hsz).mono ?_
           rintro e w5 ⟨mid, D4, rfl, e4, h9⟩
           have hre := round_eq (ageSWO l) (partitionEqual_holds _) HL.out.1 hp1 hp2 (by rw [HQ3.out.sz]; exact hyn) HQ3.out.bel HL.out.2 e4
           obtain ⟨m1, m2, m3, m4, m5⟩ := hre
           have H5 := aA h9
           have HQ5 : Hid (PqAt (ltOf (bA l)) n a b d mid y D4) := aA ⟨by rw [m3]; exact HQ3.out.sz, ⟨m2, hyn⟩, m4, fun R r1 r2 => by
            have h13 := m5 R r1 r2
            exact HQ3.out.go R h13.1 h13.2⟩
           clear h9 e4 m3 m4 m5
           go_wp2_with fail
           go_roundg (y - mid)
           case measure => omega
           case rel => exact ⟨mid, y, L1, (mid : Int), (y : Int), (L1 : Int), wb, wp, D4, rfl, rfl, rfl, rfl, rfl, rfl, rfl, rfl, rfl, m2, hyn, by omega, hL1, H5, HQ5⟩
end
end Go.Proofs.YtiloagmkkhlfjaaGreat
