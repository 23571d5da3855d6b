/-
  Own texts put together: LkInsR. Own work.
-/
import Derived.Test.YtiloagmkkhlfjaaGreatG17
namespace Go.Proofs.YtiloagmkkhlfjaaGreat
section
open Go.RowKit Go.Maps Go.Shelf Go.Sort Classical
attribute [local go_sem ↓] fT
set_option maxRecDepth 100000 in
set_option maxHeartbeats 6400000 in
theorem insR {l : List (aS KeyT)} {q g n : Nat} {w0 w : World} {d : Array TxN} (cap a b : Nat) (hC : iB l q g w0) (h : bJ l g w0 w n d) (hab : a ≤ b) (hb : b ≤ n) (hsz : n ≤ 100) :
  Calls Tryz.prog 89 #[.slice (some ⟨g, 0, none⟩) n cap, .int .i64 (a : Int), .int .i64 (b : Int), ageV q] w fun e w' => e = .returned (.tuple #[]) ∧ bJ l g w0 w' n (Go.Sort.insertionSort (ltOf (bA l)) d a b) := by
 have H := aA h
 have HC := aA hC
 have mixed : Tryz.prog.follows .mixedOrders = true := by kernel_rfl
 clear h hC
 obtain ⟨R, hR⟩ : ∃ R, R = Go.Sort.insertionSort (ltOf (bA l)) d a b := ⟨_, rfl⟩
 have HR : Hid (R = insOuter (ltOf (bA l)) a b (a + 1) d) := aA hR
 rw [← hR]
 clear hR
 go_enter Tryz.func89, Tryz.ntmps89
 go_wp2_with fail
 go_loopw [8] (fun x wr => ∃ (i : Nat) (xi : Int) (dk : Array TxN), x = .int .i64 xi ∧ xi = (i : Int) ∧ a < i ∧ i ≤ b + 1 ∧ Hid (bJ l g w0 wr n dk) ∧ Hid (R = insOuter (ltOf (bA l)) a b i dk)) (fun x _ => ctK (b + 1) x)
 case atStart => exact ⟨a + 1, (a : Int) + 1, d, rfl, by omega, by omega, by omega, H, HR⟩
 case round =>
  clear H HR
  obtain ⟨i, xi, dk, rfl, rfl, hai, hib, HT, HO⟩ := hrel
  by_cases hlt : i < b
  ·have hz : (i : Int) < (b : Int) := by omega
   have HO2 : Hid (R = insOuter (ltOf (bA l)) a b (i + 1) (insInner (ltOf (bA l)) a i dk)) := aA (by rw [HO.out, insOuter_go _ _ _ _ _ hlt])
   go_wp2_with fail
   go_loopw [9] (fun y wr => ∃ (j : Nat) (yj : Int) (dj : Array TxN), y = .int .i64 yj ∧ yj = (j : Int) ∧ a ≤ j ∧ j ≤ i ∧ Hid (bJ l g w0 wr n dj) ∧ Hid (R = insOuter (ltOf (bA l)) a b (i + 1) (insInner (ltOf (bA l)) a j dj))) (fun y _ => dnK y)
   case atStart => exact ⟨i, (i : Int), dk, rfl, rfl, by omega, Nat.le_refl _, HT, HO2⟩
   case round =>
    clear HT HO HO2
    obtain ⟨j, yj, dj, rfl, rfl, haj, hji, HT, HO⟩ := hrel
    by_cases hja : a < j
    ·have hg1 : decide ((j : Int) > (a : Int)) = true := decide_eq_true (by omega)
     have hg2 : (a : Int) < (j : Int) := by omega
     have hg3 : decide ((a : Int) < (j : Int)) = true := decide_eq_true (by omega)
     obtain ⟨jp, hjp⟩ : ∃ jp, jp = j - 1 := ⟨_, rfl⟩
     have HJP := aA hjp
     have gjp : (j : Int) - 1 = (jp : Int) := by omega
     have ljp : jp < n := by omega
     have rjp : (jp : Int) < (n : Int) := by omega
     have rj : (j : Int) < (n : Int) := by omega
     have vjp : IntKind.i64.wrap ((j : Int) - 1) = (jp : Int) := by rw [IntKind.wrap_i64]; omega
     have yjp : IntKind.i64.wrap (jp : Int) = (jp : Int) := by rw [IntKind.wrap_i64]; omega
     have yj : IntKind.i64.wrap (j : Int) = (j : Int) := by rw [IntKind.wrap_i64]; omega
     clear hjp
     obtain ⟨Xa, Ya, Aa, HXa, ⟨x0a, x1a, x2a⟩, ⟨y0a, y1a, y2a⟩, CBa⟩ := iM HC.out HT.out (i := j) (j := jp) (by omega) (by omega)
     by_cases hneg : Aa < 0
     ·have hdd : decide (Aa < 0) = true := decide_eq_true (by omega)
      have HG : Hid (R = insOuter (ltOf (bA l)) a b (i + 1) (insInner (ltOf (bA l)) a jp (swp dj j jp))) := aA (by
       have h1 := HXa.out.2.2.1 hneg
       have e := HJP.out
       rw [e] at h1 ⊢
       rw [HO.out, insInner_go _ _ _ _ hja h1])
      go_wp2_with fail
      go_region_held (fun w' => w'.cell? ⟨g, j * 3, none⟩ = some (.int .u8 (Xa.1 : Int)) ∧ w'.cell? ⟨g, j * 3 + 1, none⟩ = some (.int .u32 (Xa.2.1 : Int)) ∧ w'.cell? ⟨g, j * 3 + 2, none⟩ = some (.int .u32 (Xa.2.2 : Int)) ∧ w'.cell? ⟨g, jp * 3, none⟩ = some (.int .u8 (Ya.1 : Int)) ∧ w'.cell? ⟨g, jp * 3 + 1, none⟩ = some (.int .u32 (Ya.2.1 : Int)) ∧ w'.cell? ⟨g, jp * 3 + 2, none⟩ = some (.int .u32 (Ya.2.2 : Int))) (go_keep) (first
       | (go_at_call 37; refine CBa.out.mono ?_; rintro e w3 ⟨rfl, Hw3, ssa, tta⟩))
      all_goals rename_i w3 Hw3 ssa tta hSa
      all_goals clear hSa x0a x1a x2a y0a y1a y2a CBa
      all_goals go_wp2_with fail
      all_goals
       obtain ⟨st1, st2, HN⟩ := gE Hw3.out (i := j) (j := jp) (by omega) (by omega) HXa.out.1 HXa.out.2.1
       obtain ⟨e0, e1, e2⟩ := ssa
       obtain ⟨e3, e4, e5⟩ := tta
      all_goals go_region
      all_goals (first | simp only [Exit.then] | simp only [Exit.inBlock, Exit.then] | skip)
      all_goals rename_i hK
      all_goals refine hK _ _ ?_
      all_goals clear hK st1 st2 e0 e1 e2 e3 e4 e5
      all_goals go_wp2_with fail
      all_goals exact ⟨⟨jp, (jp : Int), _, rfl, rfl, by omega, by omega, HN, HG⟩, by rw [iG, iG]; omega⟩
     ·have hdd : decide (Aa < 0) = false := decide_eq_false (by omega)
      have HG : Hid (R = insOuter (ltOf (bA l)) a b (i + 1) dj) := aA (by
       have h1 := HXa.out.2.2.2 hneg
       have e := HJP.out
       rw [e] at h1
       rw [HO.out, insInner_stop _ _ _ _ (.inr h1)])
      go_wp2_with fail
      go_region_held (fun w' => w'.cell? ⟨g, j * 3, none⟩ = some (.int .u8 (Xa.1 : Int)) ∧ w'.cell? ⟨g, j * 3 + 1, none⟩ = some (.int .u32 (Xa.2.1 : Int)) ∧ w'.cell? ⟨g, j * 3 + 2, none⟩ = some (.int .u32 (Xa.2.2 : Int)) ∧ w'.cell? ⟨g, jp * 3, none⟩ = some (.int .u8 (Ya.1 : Int)) ∧ w'.cell? ⟨g, jp * 3 + 1, none⟩ = some (.int .u32 (Ya.2.1 : Int)) ∧ w'.cell? ⟨g, jp * 3 + 2, none⟩ = some (.int .u32 (Ya.2.2 : Int))) (go_keep) (first
       | (go_at_call 37; refine CBa.out.mono ?_; rintro e w3 ⟨rfl, Hw3, ssa, tta⟩))
      all_goals rename_i w3 Hw3 ssa tta hSa
      all_goals clear hSa x0a x1a x2a y0a y1a y2a CBa
      all_goals go_wp2_with fail
      all_goals exact ⟨⟨i + 1, (i : Int) + 1, dj, rfl, by omega, by omega, by omega, Hw3, HG⟩, by rw [show (i : Int) + 1 = ((i + 1 : Nat) : Int) from by omega, cB, cB]; omega⟩
    ·have hg1 : decide ((j : Int) > (a : Int)) = false := decide_eq_false (by omega)
     have hg2 : ¬ (a : Int) < (j : Int) := by omega
     have hg3 : decide ((a : Int) < (j : Int)) = false := decide_eq_false (by omega)
     have HG : Hid (R = insOuter (ltOf (bA l)) a b (i + 1) dj) := aA (by rw [HO.out, insInner_stop _ _ _ _ (.inl (by omega))])
     have HTd := aA HT.out.drew
     go_wp2_with fail
     go_big_region_o
     all_goals go_wp2_with fail
     all_goals exact ⟨⟨i + 1, (i : Int) + 1, dj, rfl, by omega, by omega, by omega, HTd, HG⟩, by rw [show (i : Int) + 1 = ((i + 1 : Nat) : Int) from by omega, cB, cB]; omega⟩
  ·have hz : ¬ (i : Int) < (b : Int) := by omega
   have HG : Hid (R = dk) := aA (by rw [HO.out, insOuter_stop _ _ _ _ _ hlt])
   go_wp2_with fail
   go_end0
   have h1 := HT.out
   rw [← HG.out] at h1
   exact ⟨rfl, h1⟩
end
end Go.Proofs.YtiloagmkkhlfjaaGreat
