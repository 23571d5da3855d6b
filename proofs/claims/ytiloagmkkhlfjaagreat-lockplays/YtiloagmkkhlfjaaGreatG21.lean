/-
  Own texts put together: LkHeap, LkTurn, LkPiv, LkMed, LkPick. Own work.
-/
import Derived.Test.YtiloagmkkhlfjaaGreatG20
namespace Go.Proofs.YtiloagmkkhlfjaaGreat
set_option maxRecDepth 100000
section
open Go.RowKit Go.Maps Go.Shelf Go.Sort Classical
theorem twoAt {l : List (aS KeyT)} {g n : Nat} {w0 w : World} {d : Array TxN} (h : bJ l g w0 w n d) {i j : Nat} (hi : i < n) (hj : j < n) :
  ∃ (X Y : TxN), Hid (X = d[i]! ∧ Y = d[j]! ∧ True) ∧ C3 w g i X ∧ C3 w g j Y := by
 have hs := h.sz
 exact ⟨_, _, aA ⟨rfl, rfl, trivial⟩, h.row.cells (by omega), h.row.cells (by omega)⟩
def dnK1 (x : Value) : Nat := match x with | .int _ i => (i + 1).toNat | _ => 0
theorem dnK1_at (i : Int) (k : IntKind) : dnK1 (.int k i) = (i + 1).toNat := rfl
theorem half15 {m : Nat} (h : 0 < m) : ((m : Int) - 1).tdiv 2 = (((m - 1) / 2 : Nat) : Int) := by
 rw [Int.tdiv_eq_ediv_of_nonneg (by omega)]; omega
attribute [local go_sem ↓] fT
set_option maxHeartbeats 6400000 in
theorem heapB {l : List (aS KeyT)} {q g n : Nat} {w0 w : World} {d : Array TxN} (cap a b : Nat) (hC : iB l q g w0) (h : bJ l g w0 w n d) (hab : a < b) (hb : b ≤ n) (hsz : n ≤ 100) :
  Calls Tryz.prog 90 #[.slice (some ⟨g, 0, none⟩) n cap, .int .i64 (a : Int), .int .i64 (b : Int), ageV q] w fun e w' => e = .returned (.tuple #[]) ∧ bJ l g w0 w' n (heapSort (ltOf (bA l)) d a b) := by
 have H := aA h
 have HC := aA hC
 have mixed : Tryz.prog.follows .mixedOrders = true := by kernel_rfl
 clear h hC
 obtain ⟨m, hm⟩ : ∃ m, m = b - a := ⟨_, rfl⟩
 have hm2 : (b : Int) - (a : Int) = (m : Int) := by omega
 have hm3 : IntKind.i64.wrap ((m : Int) - 1) = (m : Int) - 1 := by rw [IntKind.wrap_i64]; omega
 have hm4 : IntKind.i64.wrap (m : Int) = (m : Int) := by rw [IntKind.wrap_i64]; omega
 have hm0 : 0 < m := by omega
 obtain ⟨hf, hhf⟩ : ∃ hf, hf = (m - 1) / 2 := ⟨_, rfl⟩
 have hq : ((m : Int) - 1).tdiv 2 = (hf : Int) := by rw [half15 hm0, hhf]
 have hhm : hf < m := by omega
 have HHS : Hid (heapSort (ltOf (bA l)) d a b = heapPop (ltOf (bA l)) a m (heapBuild (ltOf (bA l)) m a (hf + 1) d)) := aA (by rw [hhf, hm]; rfl)
 have hbn : a + m ≤ n := by omega
 obtain ⟨R, hR⟩ : ∃ R, R = heapSort (ltOf (bA l)) d a b := ⟨_, rfl⟩
 rw [← hR] at HHS ⊢
 clear hhf hm hR
 go_enter Tryz.func90, Tryz.ntmps90
 go_wp2_with fail
 go_loopw [11] (fun x wr => ∃ (k : Nat) (i : Int) (dr : Array TxN), x = .int .i64 i ∧ i + 1 = (k : Int) ∧ k ≤ hf + 1 ∧ Hid (bJ l g w0 wr n dr) ∧ Hid (R = heapPop (ltOf (bA l)) a m (heapBuild (ltOf (bA l)) m a k dr))) (fun x _ => dnK1 x)
 case atStart => exact ⟨hf + 1, hf, d, rfl, by omega, by omega, H, HHS⟩
 case round =>
  obtain ⟨k, i, dr, rfl, hik, hk, HT, HO⟩ := hrel
  match k, hik, hk, HO with
  | 0, hik, hk, HO =>
   have hz : ¬ (0 : Int) ≤ i := by omega
   clear H
   have HO2 : Hid (R = heapPop (ltOf (bA l)) a m dr) := HO
   clear HO HHS
   go_wp2_with fail
   go_loopw [12] (fun x wr => ∃ (k : Nat) (i : Int) (dr : Array TxN), x = .int .i64 i ∧ i + 1 = (k : Int) ∧ k ≤ m ∧ Hid (bJ l g w0 wr n dr) ∧ Hid (R = heapPop (ltOf (bA l)) a k dr)) (fun x _ => dnK1 x)
   case atStart => exact ⟨m, (m : Int) - 1, dr, rfl, by omega, by omega, HT, HO2⟩
   case round =>
    clear HT HO2
    obtain ⟨k, i, dr, rfl, hik, hk, HT, HO⟩ := hrel
    match k, hik, hk, HO with
    | 0, hik, hk, HO =>
     have hz : ¬ (0 : Int) ≤ i := by omega
     go_wp2_with fail
     go_end0
     have h1 := HT.out
     have h2 : R = dr := HO.out
     rw [← h2] at h1
     exact ⟨rfl, h1⟩
    | k + 1, hik, hk, HO =>
     obtain rfl : i = (k : Int) := by omega
     clear hik
     have hz : (0 : Int) ≤ (k : Int) := by omega
     obtain ⟨f1, hf1⟩ : ∃ f1, f1 = a + k := ⟨_, rfl⟩
     have i2 : (a : Int) + (k : Int) = (f1 : Int) := by omega
     have hf1n : f1 < n := by omega
     have z1 : (f1 : Int) < (n : Int) := by omega
     have z2 : (a : Int) < (n : Int) := by omega
     have v1 : IntKind.i64.wrap ((a : Int) + (k : Int)) = (f1 : Int) := by rw [IntKind.wrap_i64]; omega
     have v2 : IntKind.i64.wrap (f1 : Int) = (f1 : Int) := by rw [IntKind.wrap_i64]; omega
     have v3 : IntKind.i64.wrap (a : Int) = (a : Int) := by rw [IntKind.wrap_i64]; omega
     obtain ⟨Xa, Ya, HXa, ssa, tta⟩ := twoAt HT.out (i := a) (j := f1) (by omega) (by omega)
     obtain ⟨dn, hdn⟩ : ∃ dn, dn = swp dr a f1 := ⟨_, rfl⟩
     have HO3 : Hid (R = heapPop (ltOf (bA l)) a k (siftDown (ltOf (bA l)) k a 0 dn)) := aA (by rw [HO.out, hdn, hf1]; rfl)
     clear hf1
     have HDN := aA hdn
     clear hdn
     go_wp2_with fail
     all_goals
      obtain ⟨st1, st2, HN⟩ := gE HT.out (i := a) (j := f1) (by omega) (by omega) HXa.out.1 HXa.out.2.1
      obtain ⟨e0, e1, e2⟩ := ssa
      obtain ⟨e3, e4, e5⟩ := tta
     all_goals go_region
     all_goals (first | simp only [Exit.then] | simp only [Exit.inBlock, Exit.then] | skip)
     all_goals rename_i hK
     all_goals refine hK _ _ ?_
     all_goals clear hK st1 st2 e0 e1 e2 e3 e4 e5
     all_goals rw [← HDN.out] at HN
     all_goals go_wp2_with (go_at_call 106; refine (siftB l q g cap 0 k a n dn w0 _ HC.out HN.out (by omega) (by omega) (by omega)).mono ?_; rintro e w4 ⟨rfl, h9⟩; have H4 := aA h9; clear h9)
     all_goals exact ⟨⟨k, (k : Int) - 1, _, by first | rfl | go_num, by omega, by omega, H4, HO3⟩, by rw [dnK1_at, dnK1_at]; omega⟩
  | k + 1, hik, hk, HO =>
   obtain rfl : i = (k : Int) := by omega
   clear hik
   have hz : (0 : Int) ≤ (k : Int) := by omega
   go_wp2_with (go_at_call 106; refine (siftB l q g cap k m a n dr w0 _ HC.out HT.out (by omega) (by omega) (by omega)).mono ?_; rintro e w3 ⟨rfl, h9⟩; have H3 := aA h9; clear h9)
   exact ⟨⟨k, (k : Int) - 1, _, by first | rfl | go_num, by omega, by omega, H3, HO⟩, by rw [dnK1_at, dnK1_at]; omega⟩
end
section
open Go.RowKit Go.Maps Go.Shelf Go.Sort Classical
attribute [local go_sem ↓] fT
set_option maxHeartbeats 6400000 in
theorem turnB {l : List (aS KeyT)} {q g n : Nat} {w0 w : World} {d : Array TxN} (cap a b : Nat) (hC : iB l q g w0) (h : bJ l g w0 w n d) (hab : a < b) (hb : b ≤ n) (hsz : n ≤ 100) :
  Calls Tryz.prog 93 #[.slice (some ⟨g, 0, none⟩) n cap, .int .i64 (a : Int), .int .i64 (b : Int), ageV q] w fun e w' => e = .returned (.tuple #[]) ∧ bJ l g w0 w' n (reverseRange d a b) := by
 have H := aA h
 have HC := aA hC
 have mixed : Tryz.prog.follows .mixedOrders = true := by kernel_rfl
 clear h hC
 obtain ⟨R, hR⟩ : ∃ R, R = reverseRange d a b := ⟨_, rfl⟩
 have HR : Hid (R = reverseLoop a (b - 1) d) := aA hR
 rw [← hR]
 clear hR
 go_enter Tryz.func93, Tryz.ntmps93
 go_wp2_with fail
 go_loopw [8, 9] (fun x y wr => ∃ (i j : Nat) (xi yj : Int) (dr : Array TxN), x = .int .i64 xi ∧ y = .int .i64 yj ∧ xi = (i : Int) ∧ yj = (j : Int) ∧ a ≤ i ∧ j < b ∧ Hid (bJ l g w0 wr n dr) ∧ Hid (R = reverseLoop i j dr)) (fun _ y _ => dnK y)
 case atStart => exact ⟨a, b - 1, a, (b : Int) - 1, d, rfl, rfl, rfl, by omega, by omega, by omega, H, HR⟩
 case round =>
  obtain ⟨i, j, xi, yj, dr, rfl, rfl, rfl, rfl, hai, hjb, HT, HO⟩ := hrel
  by_cases hlt : i < j
  ·have hz : (i : Int) < (j : Int) := by omega
   have z1 : (i : Int) < (n : Int) := by omega
   have z2 : (j : Int) < (n : Int) := by omega
   have v1 : IntKind.i64.wrap (i : Int) = (i : Int) := by rw [IntKind.wrap_i64]; omega
   have v2 : IntKind.i64.wrap (j : Int) = (j : Int) := by rw [IntKind.wrap_i64]; omega
   obtain ⟨Xa, Ya, HXa, ssa, tta⟩ := twoAt HT.out (i := i) (j := j) (by omega) (by omega)
   have HO3 : Hid (R = reverseLoop (i + 1) (j - 1) (swp dr i j)) := aA (by rw [HO.out, reverseLoop, if_pos hlt])
   go_wp2_with fail
   all_goals
    obtain ⟨st1, st2, HN⟩ := gE HT.out (i := i) (j := j) (by omega) (by omega) HXa.out.1 HXa.out.2.1
    obtain ⟨e0, e1, e2⟩ := ssa
    obtain ⟨e3, e4, e5⟩ := tta
   all_goals go_region
   all_goals (first | simp only [Exit.then] | simp only [Exit.inBlock, Exit.then] | skip)
   all_goals rename_i hK
   all_goals refine hK _ _ ?_
   all_goals clear hK st1 st2 e0 e1 e2 e3 e4 e5
   all_goals go_wp2_with fail
   all_goals exact ⟨⟨i + 1, j - 1, (i : Int) + 1, (j : Int) - 1, _, rfl, rfl, by omega, by omega, by omega, by omega, HN, HO3⟩, by rw [show (j : Int) - 1 = ((j - 1 : Nat) : Int) from by omega, iG, iG]; omega⟩
  ·have hz : ¬ (i : Int) < (j : Int) := by omega
   have h2 : Hid (R = dr) := aA (by rw [HO.out, reverseLoop, if_neg hlt])
   go_wp2_with fail
   go_end0
   have h1 := HT.out
   rw [← h2.out] at h1
   exact ⟨rfl, h1⟩
end
section
open Go.RowKit Go.Maps Go.Shelf Go.Sort Classical
theorem cmpAt2 {l : List (aS KeyT)} {q g n : Nat} {w0 w : World} {d : Array TxN} (hC : iB l q g w0) (h : bJ l g w0 w n d) {i j : Nat} (hi : i < n) (hj : j < n) :
  ∃ (X Y : TxN) (A : Int), Hid (X = d[i]! ∧ Y = d[j]! ∧ (A < 0 → ltOf (bA l) d[i]! d[j]! = true) ∧ (¬ A < 0 → ltOf (bA l) d[i]! d[j]! = false)) ∧ C3 w g i X ∧ C3 w g j Y ∧
   Hid (Calls Tryz.prog 37 #[.pointer (some ⟨q, 0, none⟩), aV X, aV Y] w.drew fun e w' => e = .returned (.int .i64 A) ∧ Hid (bJ l g w0 w' n d ∧ Below w.heap.size w w') ∧ C3 w' g i X ∧ C3 w' g j Y) := by
 have hs := h.sz
 refine ⟨d[i]!, d[j]!, bA l d[i]! d[j]!, aA ⟨rfl, rfl, fun h => by rw [lt_age]; exact h, fun h => by rw [nlt_age]; exact h⟩, h.row.cells (by omega), h.row.cells (by omega), aA ?_⟩
 refine (hC w.drew _ _ h.drew.kb (h.us i (by omega)) (h.us j (by omega))).mono ?_
 rintro e w' ⟨rfl, hG⟩
 have h2 := h.drew.below hG.below
 exact ⟨rfl, aA ⟨h2, (aG w).trans hG.below⟩, h2.row.cells (by omega), h2.row.cells (by omega)⟩
structure jF (w0 w : World) (g sb s : Nat) : Prop where
 bx : bZ w sb #[.int .i64 (s : Int)] 3
 old : w0.heap.size ≤ sb
 g : g < w0.heap.size
theorem jF.below {w0 w w' : World} {g sb s : Nat} (h : jF w0 w g sb s) (hB : Below w.heap.size w w') : jF w0 w' g sb s := ⟨h.bx.belowI hB, h.old, h.g⟩
theorem bJ.count {l : List (aS KeyT)} {g n sb s : Nat} {w0 w : World} {d : Array TxN} (h : bJ l g w0 w n d) (hc : jF w0 w g sb s) (u : Value) : bJ l g w0 (w.setCell ⟨sb, 0, none⟩ u) n d :=
 h.keepS (S := fun j => j = sb) (aC.setCell (S := fun j => j = sb) (aC.refl _ w) (p := ⟨sb, 0, none⟩) (.inl rfl) u) (fun e => by have := hc.old; have := hc.g; omega) (h.kb.setCell (p := ⟨sb, 0, none⟩) (.inr hc.old) u)
theorem jF.up {w0 w : World} {g sb s t : Nat} (hc : jF w0 w g sb s) {u : Int} (hu : u = (t : Int)) : jF w0 (w.setCell ⟨sb, 0, none⟩ (.int .i64 u)) g sb t := ⟨by
 have h := hc.bx.set (i := 0) (v := .int .i64 u)
 subst hu
 exact h, hc.old, hc.g⟩
theorem ord2_lt {lt : TxN → TxN → Bool} {d : Array TxN} {a b s n : Nat} (ha : a < n) (hb : b < n) : (order2 lt d a b s).1 < n ∧ (order2 lt d a b s).2.1 < n ∧ (order2 lt d a b s).2.2 ≤ s + 1 := by
 unfold order2
 split
 ·exact ⟨hb, ha, Nat.le_refl _⟩
 ·exact ⟨ha, hb, Nat.le_succ _⟩
attribute [local go_sem ↓] fT
set_option maxHeartbeats 6400000 in
theorem ord2B {l : List (aS KeyT)} {q g n sb s : Nat} {w0 w : World} {d : Array TxN} (cap a b : Nat) (hC : iB l q g w0) (h : bJ l g w0 w n d) (hc : jF w0 w g sb s) (ha : a < n) (hb : b < n) (hs : s ≤ 100) (hsz : n ≤ 100) :
  Calls Tryz.prog 122 #[.slice (some ⟨g, 0, none⟩) n cap, .int .i64 (a : Int), .int .i64 (b : Int), .pointer (some ⟨sb, 0, none⟩), ageV q] w fun e w' => ∃ (p r t : Nat), e = .returned (.tuple #[.int .i64 (p : Int), .int .i64 (r : Int)]) ∧ order2 (ltOf (bA l)) d a b s = (p, r, t) ∧ bJ l g w0 w' n d ∧ jF w0 w' g sb t := by
 have H := aA h
 have HC := aA hC
 have HCN := aA hc
 clear h hC hc
 have z1 : (a : Int) < (n : Int) := by omega
 have z2 : (b : Int) < (n : Int) := by omega
 have v1 : IntKind.i64.wrap (a : Int) = (a : Int) := by rw [IntKind.wrap_i64]; omega
 have v2 : IntKind.i64.wrap (b : Int) = (b : Int) := by rw [IntKind.wrap_i64]; omega
 obtain ⟨Xa, Ya, Aa, HXa, ⟨x0a, x1a, x2a⟩, ⟨y0a, y1a, y2a⟩, CBa⟩ := cmpAt2 HC.out H.out (i := b) (j := a) (by omega) (by omega)
 go_enter Tryz.func122, Tryz.ntmps122
 by_cases hneg : Aa < 0
 ·have HE : Hid (order2 (ltOf (bA l)) d a b s = (b, a, s + 1)) := aA (by unfold order2; rw [if_pos (HXa.out.2.2.1 hneg)])
  have hd : decide (Aa < 0) = true := decide_eq_true (by omega)
  go_wp2_with fail
  go_region_held (fun w' => w'.cell? ⟨g, b * 3, none⟩ = some (.int .u8 (Xa.1 : Int)) ∧ w'.cell? ⟨g, b * 3 + 1, none⟩ = some (.int .u32 (Xa.2.1 : Int)) ∧ w'.cell? ⟨g, b * 3 + 2, none⟩ = some (.int .u32 (Xa.2.2 : Int)) ∧ w'.cell? ⟨g, a * 3, none⟩ = some (.int .u8 (Ya.1 : Int)) ∧ w'.cell? ⟨g, a * 3 + 1, none⟩ = some (.int .u32 (Ya.2.1 : Int)) ∧ w'.cell? ⟨g, a * 3 + 2, none⟩ = some (.int .u32 (Ya.2.2 : Int))) (go_keep) (first
   | (go_at_call 37; refine CBa.out.mono ?_; rintro e w3 ⟨rfl, Hw3, ssa, tta⟩))
  all_goals rename_i w3 Hw3 ssa tta hSa
  all_goals clear hSa x0a x1a x2a y0a y1a y2a CBa
  all_goals
   have HC3 := aA (HCN.out.below Hw3.out.2)
   have c0 : w3.cell? ⟨sb, 0, none⟩ = some (.int .i64 (s : Int)) := HC3.out.bx.cell 0 _ rfl
   have c1 : w3.frozen? ⟨sb, 0, none⟩ = false := HC3.out.bx.frozen 0
  all_goals go_wp2_with fail
  all_goals go_ret2
  all_goals exact ⟨b, a, s + 1, rfl, HE.out, Hw3.out.1.count HC3.out _, HC3.out.up (by omega)⟩
 ·have HE : Hid (order2 (ltOf (bA l)) d a b s = (a, b, s)) := aA (by unfold order2; rw [if_neg (by rw [HXa.out.2.2.2 hneg]; exact Bool.false_ne_true)])
  have hd : decide (Aa < 0) = false := decide_eq_false (by omega)
  go_wp2_with fail
  go_region_held (fun w' => w'.cell? ⟨g, b * 3, none⟩ = some (.int .u8 (Xa.1 : Int)) ∧ w'.cell? ⟨g, b * 3 + 1, none⟩ = some (.int .u32 (Xa.2.1 : Int)) ∧ w'.cell? ⟨g, b * 3 + 2, none⟩ = some (.int .u32 (Xa.2.2 : Int)) ∧ w'.cell? ⟨g, a * 3, none⟩ = some (.int .u8 (Ya.1 : Int)) ∧ w'.cell? ⟨g, a * 3 + 1, none⟩ = some (.int .u32 (Ya.2.1 : Int)) ∧ w'.cell? ⟨g, a * 3 + 2, none⟩ = some (.int .u32 (Ya.2.2 : Int))) (go_keep) (first
   | (go_at_call 37; refine CBa.out.mono ?_; rintro e w3 ⟨rfl, Hw3, ssa, tta⟩))
  all_goals rename_i w3 Hw3 ssa tta hSa
  all_goals clear hSa x0a x1a x2a y0a y1a y2a CBa
  all_goals go_wp2_with fail
  all_goals go_ret2
  all_goals exact ⟨a, b, s, rfl, HE.out, Hw3.out.1, HCN.out.below Hw3.out.2⟩
end
section
open Go.RowKit Go.Maps Go.Shelf Go.Sort Classical
set_option maxHeartbeats 3200000 in
theorem medB {l : List (aS KeyT)} {q g n sb s : Nat} {w0 w : World} {d : Array TxN} (cap a b c : Nat) (hC : iB l q g w0) (h : bJ l g w0 w n d) (hc : jF w0 w g sb s) (ha : a < n) (hb : b < n) (hcn : c < n) (hs : s ≤ 50) (hsz : n ≤ 100) :
  Calls Tryz.prog 110 #[.slice (some ⟨g, 0, none⟩) n cap, .int .i64 (a : Int), .int .i64 (b : Int), .int .i64 (c : Int), .pointer (some ⟨sb, 0, none⟩), ageV q] w fun e w' => ∃ (p t : Nat), e = .returned (.int .i64 (p : Int)) ∧ median (ltOf (bA l)) d a b c s = (p, t) ∧ p < n ∧ t ≤ s + 3 ∧ bJ l g w0 w' n d ∧ jF w0 w' g sb t := by
 have H := aA h
 have HC := aA hC
 have HCN := aA hc
 clear h hC hc
 go_enter Tryz.func110, Tryz.ntmps110
 go_wp2_with fail
 refine (ord2B cap a b HC.out H.out HCN.out ha hb (by omega) (by omega)).mono ?_
 rintro e w1 ⟨p1, r1, t1, rfl, e1, h9, c9⟩
 have H1 := aA h9
 have C1 := aA c9
 have E1 := aA e1
 have n1 := ord2_lt (lt := ltOf (bA l)) (d := d) (s := s) ha hb
 rw [e1] at n1
 dsimp only at n1
 obtain ⟨na1, nb1, nc1⟩ := n1
 clear h9 c9 e1
 go_wp2_with fail
 refine (ord2B cap r1 c HC.out H1.out C1.out nb1 hcn (by omega) (by omega)).mono ?_
 rintro e w2 ⟨p2, r2, t2, rfl, e2, h9, c9⟩
 have H2 := aA h9
 have C2 := aA c9
 have E2 := aA e2
 have n2 := ord2_lt (lt := ltOf (bA l)) (d := d) (s := t1) nb1 hcn
 rw [e2] at n2
 dsimp only at n2
 obtain ⟨na2, nb2, nc2⟩ := n2
 clear h9 c9 e2
 go_wp2_with fail
 refine (ord2B cap p1 p2 HC.out H2.out C2.out na1 na2 (by omega) (by omega)).mono ?_
 rintro e w3 ⟨p3, r3, t3, rfl, e3, h9, c9⟩
 have H3 := aA h9
 have C3 := aA c9
 have E3 := aA e3
 have n3 := ord2_lt (lt := ltOf (bA l)) (d := d) (s := t2) na1 na2
 rw [e3] at n3
 dsimp only at n3
 obtain ⟨na3, nb3, nc3⟩ := n3
 clear h9 c9 e3
 go_wp2_with fail
 go_ret
 refine ⟨r3, t3, rfl, ?_, nb3, by omega, H3.out, C3.out⟩
 unfold median
 simp only [E1.out, E2.out, E3.out]
set_option maxHeartbeats 3200000 in
theorem adjB {l : List (aS KeyT)} {q g n sb s : Nat} {w0 w : World} {d : Array TxN} (cap a : Nat) (hC : iB l q g w0) (h : bJ l g w0 w n d) (hc : jF w0 w g sb s) (ha : a + 1 < n) (h0 : 0 < a) (hs : s ≤ 50) (hsz : n ≤ 100) :
  Calls Tryz.prog 109 #[.slice (some ⟨g, 0, none⟩) n cap, .int .i64 (a : Int), .pointer (some ⟨sb, 0, none⟩), ageV q] w fun e w' => ∃ (p t : Nat), e = .returned (.int .i64 (p : Int)) ∧ medianAdjacent (ltOf (bA l)) d a s = (p, t) ∧ p < n ∧ t ≤ s + 3 ∧ bJ l g w0 w' n d ∧ jF w0 w' g sb t := by
 have H := aA h
 have HC := aA hC
 have HCN := aA hc
 clear h hC hc
 obtain ⟨b, rfl⟩ : ∃ b, a = b + 1 := ⟨a - 1, by omega⟩
 have i1 : ((b + 1 : Nat) : Int) - 1 = (b : Int) := by omega
 have i2 : ((b + 1 : Nat) : Int) + 1 = ((b + 2 : Nat) : Int) := by omega
 have CM := aA (fun W (hW : bJ l g w0 W n d ∧ jF w0 W g sb s) => medB cap b (b + 1) (b + 2) HC.out hW.1 hW.2 (by omega) (by omega) (by omega) hs hsz)
 obtain ⟨bi, hbi⟩ : ∃ bi : Int, bi = ((b + 1 : Nat) : Int) := ⟨_, rfl⟩
 obtain ⟨b2, hb2⟩ : ∃ b2 : Int, b2 = ((b + 2 : Nat) : Int) := ⟨_, rfl⟩
 obtain ⟨b0, hb0⟩ : ∃ b0 : Int, b0 = ((b : Nat) : Int) := ⟨_, rfl⟩
 rw [← hbi, ← hb2, ← hb0] at CM
 rw [← hbi]
 rw [← hbi, ← hb0] at i1
 rw [← hbi, ← hb2] at i2
 have hbd : 0 ≤ bi ∧ bi ≤ 100 := by omega
 obtain ⟨hbd1, hbd2⟩ := hbd
 clear hbi hb2 hb0
 go_enter Tryz.func109, Tryz.ntmps109
 go_wp2_with fail
 refine (CM.out _ ⟨H.out, HCN.out⟩).mono ?_
 rintro e w1 ⟨p1, t1, rfl, e1, l1, l2, h9, c9⟩
 have H1 := aA h9
 have C1 := aA c9
 clear h9 c9
 have E1 := aA e1
 clear e1
 go_wp2_with fail
 go_ret
 exact ⟨p1, t1, rfl, E1.out, l1, l2, H1.out, C1.out⟩
end
section
open Go.RowKit Go.Maps Go.Shelf Go.Sort Classical
def hintOf (t : Nat) : Hint := if t = 0 then .increasing else if t = 12 then .decreasing else .unknown
def hintN : Hint → Int
 | .unknown => 0
 | .increasing => 1
 | .decreasing => 2
theorem piv_small {lt : TxN → TxN → Bool} {d : Array TxN} {a b p t : Nat} (h8 : 8 ≤ b - a) (h50 : ¬ 50 ≤ b - a) (h : median lt d (a + (b - a) / 4 * 1) (a + (b - a) / 4 * 2) (a + (b - a) / 4 * 3) 0 = (p, t)) : choosePivot lt d a b = (p, hintOf t) := by
 unfold choosePivot
 simp only [if_pos h8, if_neg h50, h]
 rfl
theorem piv_big {lt : TxN → TxN → Bool} {d : Array TxN} {a b p1 t1 p2 t2 p3 t3 p t : Nat} (h8 : 8 ≤ b - a) (h50 : 50 ≤ b - a) (h1 : medianAdjacent lt d (a + (b - a) / 4 * 1) 0 = (p1, t1)) (h2 : medianAdjacent lt d (a + (b - a) / 4 * 2) t1 = (p2, t2)) (h3 : medianAdjacent lt d (a + (b - a) / 4 * 3) t2 = (p3, t3)) (h : median lt d p1 p2 p3 t3 = (p, t)) : choosePivot lt d a b = (p, hintOf t) := by
 unfold choosePivot
 simp only [if_pos h8, if_pos h50, h1, h2, h3, h]
 rfl
set_option maxHeartbeats 3200000 in
theorem pivB {l : List (aS KeyT)} {q g n : Nat} {w0 w : World} {d : Array TxN} (cap a b : Nat) (hC : iB l q g w0) (h : bJ l g w0 w n d) (hg : g < w0.heap.size) (hab : 12 < b - a) (hb : b ≤ n) (hsz : n ≤ 100) :
  Calls Tryz.prog 92 #[.slice (some ⟨g, 0, none⟩) n cap, .int .i64 (a : Int), .int .i64 (b : Int), ageV q] w fun e w' => ∃ p hn, e = .returned (.tuple #[.int .i64 ((p : Nat) : Int), .int .i64 (hintN hn)]) ∧ choosePivot (ltOf (bA l)) d a b = (p, hn) ∧ bJ l g w0 w' n d := by
 have HC := aA hC
 have hA := aE w (.cells #[.int .i64 0] 3)
 obtain ⟨w1, hw1⟩ : ∃ w1, w1 = w.alloc (.cells #[.int .i64 0] 3) := ⟨_, rfl⟩
 have H1 := aA (h.below hA)
 have hbx := aN w #[.int .i64 0] 3
 obtain ⟨sb, hsb⟩ : ∃ sb, sb = w.heap.size := ⟨_, rfl⟩
 have hC1 : jF w0 w1 g sb 0 := ⟨by rw [hw1, hsb]; exact hbx, by rw [hsb]; exact h.kb.size, hg⟩
 have C1 := aA hC1
 rw [← hw1] at H1
 have hW1 := hw1.symm
 have hSB := hsb.symm
 obtain ⟨m, hm⟩ : ∃ m, m = b - a := ⟨_, rfl⟩
 obtain ⟨mq, hmq⟩ : ∃ mq, mq = m / 4 := ⟨_, rfl⟩
 obtain ⟨i1, hi1⟩ : ∃ i1, i1 = a + m / 4 * 1 := ⟨_, rfl⟩
 obtain ⟨i2, hi2⟩ : ∃ i2, i2 = a + m / 4 * 2 := ⟨_, rfl⟩
 obtain ⟨i3, hi3⟩ : ∃ i3, i3 = a + m / 4 * 3 := ⟨_, rfl⟩
 have HI : Hid (m = b - a ∧ i1 = a + m / 4 * 1 ∧ i2 = a + m / 4 * 2 ∧ i3 = a + m / 4 * 3) := aA ⟨hm, hi1, hi2, hi3⟩
 have g1 : (b : Int) - (a : Int) = (m : Int) := by omega
 have g2 : (m : Int).tdiv 4 = (mq : Int) := by rw [Int.tdiv_eq_ediv_of_nonneg (by omega)]; omega
 have g3 : (a : Int) + (mq : Int) = (i1 : Int) := by omega
 have g4 : (a : Int) + (mq : Int) * 2 = (i2 : Int) := by omega
 have g5 : (a : Int) + (mq : Int) * 3 = (i3 : Int) := by omega
 have b1 : 0 < i1 ∧ i1 + 1 < n := by omega
 have b2 : 0 < i2 ∧ i2 + 1 < n := by omega
 have b3 : 0 < i3 ∧ i3 + 1 < n := by omega
 have bm : 12 < m ∧ m ≤ 100 ∧ mq ≤ 100 ∧ a ≤ 100 ∧ b ≤ 100 := by omega
 obtain ⟨bm1, bm2, bm3, bm4, bm5⟩ := bm
 have h8 : (8 : Int) ≤ (m : Int) := by omega
 clear hw1 hsb hm hmq hi1 hi2 hi3 hbx hC1 hC h hA
 go_enter Tryz.func92, Tryz.ntmps92
 by_cases h50 : 50 ≤ m
 ·have d50 : (50 : Int) ≤ (m : Int) := by omega
  go_wp2_with fail
  refine (adjB cap i1 HC.out H1.out C1.out b1.2 b1.1 (by omega) (by omega)).mono ?_
  rintro e w2 ⟨pa, ta, rfl, ea, npa, nta, h9, c9⟩
  have Ha := aA h9
  have Ca := aA c9
  have Ea := aA ea
  clear h9 c9 ea
  go_wp2_with fail
  refine (adjB cap i2 HC.out Ha.out Ca.out b2.2 b2.1 (by omega) (by omega)).mono ?_
  rintro e w3 ⟨pb, tb, rfl, eb, npb, ntb, h9, c9⟩
  have Hb := aA h9
  have Cb := aA c9
  have Eb := aA eb
  clear h9 c9 eb
  go_wp2_with fail
  refine (adjB cap i3 HC.out Hb.out Cb.out b3.2 b3.1 (by omega) (by omega)).mono ?_
  rintro e w4 ⟨pc, tc, rfl, ec, npc, ntc, h9, c9⟩
  have Hc := aA h9
  have Cc := aA c9
  have Ec := aA ec
  clear h9 c9 ec
  go_wp2_with fail
  refine (medB cap pa pb pc HC.out Hc.out Cc.out npa npb npc (by omega) (by omega)).mono ?_
  rintro e w5 ⟨p5, t5, rfl, e5, np5, nt5, h9, c9⟩
  have H5 := aA h9
  have C5 := aA c9
  have E5 : Hid (choosePivot (ltOf (bA l)) d a b = (p5, hintOf t5)) := aA (piv_big (by have := HI.out; omega) (by have := HI.out; omega) (by have := HI.out; rw [← this.1, ← this.2.1]; exact Ea.out) (by have := HI.out; rw [← this.1, ← this.2.2.1]; exact Eb.out) (by have := HI.out; rw [← this.1, ← this.2.2.2]; exact Ec.out) e5)
  clear h9 c9 e5
  have c0 : w5.cell? ⟨sb, 0, none⟩ = some (.int .i64 (t5 : Int)) := C5.out.bx.cell 0 _ rfl
  by_cases k0 : t5 = 0
  ·subst k0
   go_wp2_with fail
   go_ret2
   exact ⟨p5, .increasing, rfl, E5.out, H5.out⟩
  ·have k1 : ¬ (t5 : Int) = 0 := by omega
   by_cases k2 : t5 = 12
   ·subst k2
    go_wp2_with fail
    go_ret2
    exact ⟨p5, .decreasing, rfl, E5.out, H5.out⟩
   ·have k3 : ¬ (t5 : Int) = 12 := by omega
    have E6 : Hid (choosePivot (ltOf (bA l)) d a b = (p5, .unknown)) := aA (by rw [E5.out]; unfold hintOf; rw [if_neg k0, if_neg k2])
    go_wp2_with fail
    go_ret2
    exact ⟨p5, .unknown, rfl, E6.out, H5.out⟩
 ·have d50 : ¬ (50 : Int) ≤ (m : Int) := by omega
  go_wp2_with fail
  refine (medB cap i1 i2 i3 HC.out H1.out C1.out (by omega) (by omega) (by omega) (by omega) (by omega)).mono ?_
  rintro e w5 ⟨p5, t5, rfl, e5, np5, nt5, h9, c9⟩
  have H5 := aA h9
  have C5 := aA c9
  have E5 : Hid (choosePivot (ltOf (bA l)) d a b = (p5, hintOf t5)) := aA (piv_small (by have := HI.out; omega) (by have := HI.out; omega) (by have := HI.out; rw [← this.1, ← this.2.1, ← this.2.2.1, ← this.2.2.2]; exact e5))
  clear h9 c9 e5
  have c0 : w5.cell? ⟨sb, 0, none⟩ = some (.int .i64 (t5 : Int)) := C5.out.bx.cell 0 _ rfl
  by_cases k0 : t5 = 0
  ·subst k0
   go_wp2_with fail
   go_ret2
   exact ⟨p5, .increasing, rfl, E5.out, H5.out⟩
  ·have k1 : ¬ (t5 : Int) = 0 := by omega
   by_cases k2 : t5 = 12
   ·subst k2
    go_wp2_with fail
    go_ret2
    exact ⟨p5, .decreasing, rfl, E5.out, H5.out⟩
   ·have k3 : ¬ (t5 : Int) = 12 := by omega
    have E6 : Hid (choosePivot (ltOf (bA l)) d a b = (p5, .unknown)) := aA (by rw [E5.out]; unfold hintOf; rw [if_neg k0, if_neg k2])
    go_wp2_with fail
    go_ret2
    exact ⟨p5, .unknown, rfl, E6.out, H5.out⟩
end
end Go.Proofs.YtiloagmkkhlfjaaGreat
