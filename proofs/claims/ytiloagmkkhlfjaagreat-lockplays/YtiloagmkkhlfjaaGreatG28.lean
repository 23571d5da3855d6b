/-
  Own texts put together: LkLaw, LkLone. Own work.
-/
import Derived.Test.YtiloagmkkhlfjaaGreatG27
import Derived.Test.YtiloagmkkhlfjaaGreatG16
import Derived.Test.YtiloagmkkhlfjaaGreatG06
import Derived.Deep.LoopGhost
namespace Go.Proofs.YtiloagmkkhlfjaaGreat
set_option maxRecDepth 100000
section
open Go.RowKit Go.Maps Classical
theorem short_any15 (v : Value) (fs : List LActV) (w w0 : World) (h : bI lactE w0 v fs) :
  Calls Tryz.prog 7 #[v] w fun e w' => ∃ v', e = .returned v' ∧ w' = w ∧ bI lactE w0 v' (fs.take 60) := by
 obtain ⟨ao, cap, rfl, hc, hm⟩ := h.shape
 unfold maxLen at hm
 have HH := aA h
 clear h
 by_cases hl : fs.length ≤ 60
 ·have hto := fun W => gD recLA W ao fs.length cap fs.length hc
  have HT : Hid (bI lactE w0 (.slice ao fs.length cap) (fs.take 60)) := aA (by rw [List.take_of_length_le hl]; exact HH.out)
  have d1 : ¬ ((60 : Int) < (fs.length : Int)) := by omega
  have d2 : min (fs.length : Int) 60 = (fs.length : Int) := by omega
  go_enter Tryz.func7, Tryz.ntmps7
  go_wp2
  go_ret
  exact ⟨_, rfl, rfl, HT.out⟩
 ·have hto := fun W => gD recLA W ao fs.length cap 60 (by omega)
  have HT : Hid (bI lactE w0 (.slice ao 60 cap) (fs.take 60)) := aA (fL HH.out recLA.len (by omega))
  have d1 : (60 : Int) < (fs.length : Int) := by omega
  have d2 : min (fs.length : Int) 60 = 60 := by omega
  go_enter Tryz.func7, Tryz.ntmps7
  go_wp2
  go_ret
  exact ⟨_, rfl, rfl, HT.out⟩
def jH (a : LActV) : Bool := decide (30 < a.a.ks.length)
def farL (l : List LActV) : Bool := (l.take 60).any jH
theorem take_any15 {α : Type} (f : α → Bool) (l : List α) {k : Nat} (h : k < l.length) : (l.take (k + 1)).any f = ((l.take k).any f || f l[k]) := by
 rw [List.take_succ_eq_append_getElem h, List.any_append]
 simp only [List.any_cons, List.any_nil, Bool.or_false]
theorem infoLA : (Tryz.prog.info? 41).map (·.size) = some 15 := by kernel_rfl
set_option maxHeartbeats 3200000 in
theorem far_any15 (v : Value) (fs : List LActV) (w : World) (h : bI lactE w v fs) (hok : ∀ a ∈ fs, LvOk w a) :
  Calls Tryz.prog 5 #[v] w fun e w' => e = .returned (.bool (farL fs)) ∧ Below w.heap.size w w' := by
 have HSH := aA (fun W => short_any15 v fs W w h)
 obtain ⟨R, hR⟩ : ∃ R, R = farL fs := ⟨_, rfl⟩
 rw [← hR]
 obtain ⟨ts, hts⟩ : ∃ ts, ts = fs.take 60 := ⟨_, rfl⟩
 have hKl : ts.length ≤ 60 := by rw [hts, List.length_take]; omega
 have HOK : Hid (∀ a ∈ ts, LvOk w a) := aA (fun a ha => hok a (List.mem_of_mem_take (by rw [← hts]; exact ha)))
 have HR : Hid (R = ts.any jH) := aA (by rw [hR, hts]; rfl)
 have HTS := aA hts
 obtain ⟨LN, hLN⟩ : ∃ LN, LN = ts.length := ⟨_, rfl⟩
 rw [← hLN] at hKl
 have HLN := aA hLN
 clear hR hts hok h hLN
 go_enter Tryz.func5, Tryz.ntmps5
 go_wp2_with (go_at_call 7; refine (HSH.out _).mono ?_; rintro e Y1 ⟨v1, rfl, rfl, hT⟩; rw [← HTS.out] at hT; obtain ⟨ao, cap, e1, _, _⟩ := hT.shape; rw [← HLN.out] at e1; subst e1; have HT := aA hT; clear hT)
 go_loopg [8] LN (fun g i wr => ∃ (k : Nat), k + g = LN ∧ i = .int .i64 k ∧ Hid ((ts.take k).any jH = false) ∧ Hid (Below Y1.heap.size Y1 wr))
 case atStart => exact ⟨0, by omega, rfl, aA (by simp), aA (Below.refl _ _)⟩
 case round =>
  obtain ⟨k, hk, rfl, HS, HB⟩ := hrel
  cases gk with
  | zero =>
   obtain rfl : k = LN := by omega
   have hz : ¬ ((k : Int) < (k : Int)) := by omega
   have HE : Hid (ts.take k = ts) := aA (by rw [HLN.out]; exact List.take_length)
   rw [HE.out] at HS
   have HV : Hid (R = false) := aA (by rw [HR.out, HS.out])
   go_wp2
   go_ret
   exact ⟨by rw [HV.out]; rfl, HB.out⟩
  | succ g =>
   have hz : (k : Int) < (LN : Int) := by omega
   have hkn : k < ts.length := by rw [← HLN.out]; omega
   obtain ⟨en, b, off, rfl, hb, hcl⟩ := (HT.out.below HB.out).at recLA.len hkn
   have HRg : Hid (wr.rangeAt b (off + k * 15) (lactE ts[k])) := aA (fun j v hv => hcl j v hv)
   have HOA := aA (HOK.out _ (List.getElem_mem hkn))
   have HSS : Hid (((ts.take (k + 1)).any jH = ((ts.take k).any jH || jH ts[k])) ∧ (jH ts[k] = true → ts.any jH = true)) := aA ⟨take_any15 _ _ hkn, fun h => List.any_eq_true.mpr ⟨_, List.getElem_mem hkn, h⟩⟩
   generalize ts[k] = a at *
   obtain ⟨a, pv⟩ := a
   obtain ⟨ro, rc, e1, hrc, _⟩ := HOA.out.src.shape
   dsimp only at e1
   subst e1
   obtain ⟨LR, hLR⟩ : ∃ LR, LR = a.ks.length := ⟨_, rfl⟩
   have HAB : Hid (jH ⟨a, .slice ro a.ks.length rc⟩ = decide (30 < LR)) := aA (by rw [hLR]; rfl)
   rw [HAB.out] at HSS
   rw [← hLR] at HRg
   clear HOA HAB hLR hcl en hb hrc
   have HZ := aA (aN wr (eO jG.a jG.p) 41)
   have HZB : Hid (Below Y1.heap.size Y1 (wr.alloc (.cells (eO jG.a jG.p) 41))) := aA (HB.out.alloc HB.out.size _)
   have HWS := HB.out.size
   by_cases hc : 30 < LR
   ·have HW : Hid (R = true) := aA (by rw [HR.out, HSS.out.2 (by simp [hc])])
    have d8 : (30 : Int) < (LR : Int) := by omega
    go_wp2_with (first | (refine wpList_load_mid rfl 41 _ rfl b (off + k * 15) rfl (lactE ⟨a, .slice ro LR rc⟩) _ HRg.out Tryz.underlying41 rfl infoLA ?_) | (refine aP rfl rfl _ _ rfl wr.heap.size rfl (cs' := eO a (.slice ro LR rc)) rfl HZ.out rfl infoLA (by simp [Value.oneCell']) ?_; intro w3 hb3 hk3; have y14 := hb3.cell 14 (.slice ro LR rc) rfl; have HK3 : Hid (Below Y1.heap.size Y1 w3) := aA (HZB.out.trans (hk3.below HZB.out.size (fun k hk => by omega))); clear hb3 hk3))
    go_ret
    exact ⟨by rw [HW.out]; rfl, HK3.out⟩
   ·have d8 : ¬ ((30 : Int) < (LR : Int)) := by omega
    have HNB : Hid ((ts.take (k + 1)).any jH = false) := aA (by rw [HSS.out.1, HS.out, decide_eq_false hc]; rfl)
    go_wp2_with (first | (refine wpList_load_mid rfl 41 _ rfl b (off + k * 15) rfl (lactE ⟨a, .slice ro LR rc⟩) _ HRg.out Tryz.underlying41 rfl infoLA ?_) | (refine aP rfl rfl _ _ rfl wr.heap.size rfl (cs' := eO a (.slice ro LR rc)) rfl HZ.out rfl infoLA (by simp [Value.oneCell']) ?_; intro w3 hb3 hk3; have y14 := hb3.cell 14 (.slice ro LR rc) rfl; have HK3 : Hid (Below Y1.heap.size Y1 w3) := aA (HZB.out.trans (hk3.below HZB.out.size (fun k hk => by omega))); clear hb3 hk3))
    go_roundg g
    case measure => omega
    case rel => exact ⟨k + 1, by omega, by first | rfl | go_num, HNB, HK3⟩
theorem stamp_any15 (n : Nat) (hn : n < 4294967295) (w : World) :
  Calls Tryz.prog 24 #[.int .u32 (n : Int)] w fun e w' => e = .returned (stV15 n (0, 1, n + 1)) ∧ Below w.heap.size w w' := by
 have HX := aA (aN w #[.int .u32 0, .int .u8 0, .int .u32 0, .int .u32 0] 36)
 have HB := aA (aE w (.cells #[.int .u32 0, .int .u8 0, .int .u32 0, .int .u32 0] 36))
 have hw : IntKind.u32.wrap ((n : Int) + 1) = ((n + 1 : Nat) : Int) := by rw [IntKind.wrap_u32]; omega
 go_enter Tryz.func24, Tryz.ntmps24
 go_wp2_with (refine aP rfl rfl _ _ rfl w.heap.size rfl (cs' := #[.int .u32 (n : Int), .int .u8 0, .int .u32 1, .int .u32 ((n + 1 : Nat) : Int)]) (by first | rfl | simp) HX.out rfl infoSt15 (by simp [Value.oneCell']) ?_; intro w5 hb5 hk5; have HX5 := aA hb5; have HB5 := aA (HB.out.trans (hk5.below HB.out.size (fun j e => by omega))); clear hb5 hk5)
 (try simp only [Exit.inBlock, Exit.then])
 exact bodyPost_ret (v := stV15 n (0, 1, n + 1)) (eL Tryz.results24 _ _ w.heap.size rfl HX5.out Tryz.underlying36 rfl infoSt15) rfl ⟨rfl, HB5.out⟩
def DoesR (a : LAct) (l : List (aS KeyT)) (er : Int) (l' : List (aS KeyT)) (wn : List TxN) (gr : List (cD KeyT)) : Prop :=
 (a.kd % 5 = 2 ∧ PrepR cQ l a.t er l' gr ∧ wn = []) ∨ (a.kd % 5 = 3 ∧ RelR cQ l a.t er l' gr ∧ wn = []) ∨ (a.kd % 5 = 4 ∧ RestR (fF a.t a.ks) l a.t a.ks er l' ∧ wn = [] ∧ gr = []) ∨
  ((a.kd % 5 ≠ 2 ∧ a.kd % 5 ≠ 3 ∧ a.kd % 5 ≠ 4) ∧ AskR cQ (dG a.tm a.t a.k a.m) l a.t a.tm a.k a.m er l' wn gr)
structure DoesV (D : World → Nat → (Nat → Prop) → Nat → List (aS KeyT) → Prop) (a : LAct) (w : World) (q : Nat) (F : Nat → Prop) (C : Nat) (l : List (aS KeyT)) (e : Ending) (w' : World) : Prop where
 ex : ∃ vw vg er wn gr l' C', e = .returned (.tuple #[outV15 vw vg, .int .i64 er]) ∧ DoesR a l er l' wn gr ∧ C' ≤ max (C + 1) 30 ∧ fP D w w' q F C' l' ∧
  w'.ownsRow w.heap.size 34 3 vw wn.length (bV (wn.map txI)) ∧ w'.ownsRow w.heap.size 73 12 vg gr.length (bR gtE gr)
section
variable {D : World → Nat → (Nat → Prop) → Nat → List (aS KeyT) → Prop}
theorem ldid_out (HL : eH D) {w w1 w2 w5 : World} {q p2 C C' : Nat} {F : Nat → Prop} {l l' : List (aS KeyT)} (h : D w q F C l) (hB : Below w.heap.size w w1) (hp : w.heap.size ≤ p2) (hp1 : p2 < w1.heap.size) (hd : fP D w1 w2 q F C' l') (hk : aC (fun k => k = p2) w2 w5) : fP D w w5 q F C' l' := by
 obtain ⟨F', h1, hk1, h2⟩ := hd
 have hn : ¬ F' p2 := fun e => (h2 p2 e).elim (fun e => by have := HL.lt h p2 e; omega) (fun e => by omega)
 refine ⟨F', HL.keep h1 hk (fun k e1 e2 => hn (e2 ▸ e1)), ((aC.of_below F hB).trans hk1 (fun _ _ e => e)).trans hk (fun k e1 e2 => by omega), fun k e => (h2 k e).imp id (fun e2 => Nat.le_trans hB.size e2)⟩
theorem iD {w w1 w2 w5 : World} {p2 e size n : Nat} {v : Value} {xs : List Value} (hB : w.heap.size ≤ w1.heap.size) (hp1 : p2 < w1.heap.size) (ho : w2.ownsRow w1.heap.size e size v n xs) (hk : aC (fun k => k = p2) w2 w5) : w5.ownsRow w.heap.size e size v n xs :=
 aJ (dO ho hB) hk (fun g hg e => by have := (ho.lt g hg).1; omega)
set_option maxHeartbeats 3200000 in
theorem does_any15 (HL : eH D) (a : LAct) (u : Value) {w : World} {q C : Nat} {F : Nat → Prop} {l : List (aS KeyT)} (h : D w q F C l) (hC : C ≤ 150) (hok : LvOk w ⟨a, u⟩) (hks : a.ks.length ≤ 30) :
  Calls Tryz.prog 8 #[cG q, .agg (eO a u)] w fun e w' => DoesV D a w q F C l e w' := by
 have hA := aE w (.cells (eO a u) 41)
 have hA2 := aE (w.alloc (.cells (eO a u) 41)) (.cells zO 45)
 have HXA := aA ((aN w (eO a u) 41).belowI hA2)
 have HXO : Hid (bZ ((w.alloc (.cells (eO a u) 41)).alloc (.cells zO 45)) (w.heap.size + 1) zO 45) := aA (by have := aN (w.alloc (.cells (eO a u) 41)) zO 45; simpa using this)
 have hB2 := hA.trans (hA2.mono hA.size)
 have hsz : ((w.alloc (.cells (eO a u) 41)).alloc (.cells zO 45)).heap.size = w.heap.size + 2 := by simp
 obtain ⟨w1, hw1⟩ : ∃ w1, w1 = (w.alloc (.cells (eO a u) 41)).alloc (.cells zO 45) := ⟨_, rfl⟩
 obtain ⟨p1, hp1⟩ : ∃ p1, p1 = w.heap.size := ⟨_, rfl⟩
 obtain ⟨p2, hp2⟩ : ∃ p2, p2 = p1 + 1 := ⟨_, rfl⟩
 rw [← hw1, ← hp1] at HXA
 rw [← hw1, ← hp1, ← hp2] at HXO
 rw [← hw1] at hB2 hsz
 have hW1 := hw1.symm
 have hP1 := hp1.symm
 have hP2 := hp2.symm
 have HB := aA hB2
 have HNUM : Hid (w.heap.size ≤ p2 ∧ p2 < w1.heap.size) := aA ⟨by omega, by omega⟩
 have hD1 := HL.keep h (aC.of_below (fun _ => False) hB2) (fun _ _ e => e)
 have HD := aA h
 have HLT : Hid (¬ F p2) := aA (fun e => by have := HL.lt h p2 e; omega)
 have CP := aA (HL.prep a.t hD1 hC hok.tx)
 have CR := aA (HL.rel a.t hD1 hC hok.tx)
 have CS := aA (HL.rest a.t a.ks u hD1 hC (by omega) hok.tx (hok.src.below hB2))
 have CA := aA (HL.ask a.tm a.t a.k a.m hD1 hC hok.tx hok.tm hok.m)
 have hbu0 := buildOut0
 have c0 : w1.cell? ⟨p1, 0, none⟩ = some (.int .u8 (a.kd : Int)) := HXA.out.cell 0 _ rfl
 have c1 : w1.cell? ⟨p1, 1, none⟩ = some (.int .u32 (a.tm : Int)) := HXA.out.cell 1 _ rfl
 have c2 : w1.cell? ⟨p1, 2, none⟩ = some (.int .u8 (a.t.1 : Int)) := HXA.out.cell 2 _ rfl
 have c3 : w1.cell? ⟨p1, 3, none⟩ = some (.int .u32 (a.t.2.1 : Int)) := HXA.out.cell 3 _ rfl
 have c4 : w1.cell? ⟨p1, 4, none⟩ = some (.int .u32 (a.t.2.2 : Int)) := HXA.out.cell 4 _ rfl
 have c5 : w1.cell? ⟨p1, 5, none⟩ = some (.int .u8 (aZ a.k.1 0)) := HXA.out.cell 5 _ rfl
 have c6 : w1.cell? ⟨p1, 6, none⟩ = some (.int .u8 (aZ a.k.1 1)) := HXA.out.cell 6 _ rfl
 have c7 : w1.cell? ⟨p1, 7, none⟩ = some (.int .u8 (aZ a.k.1 2)) := HXA.out.cell 7 _ rfl
 have c8 : w1.cell? ⟨p1, 8, none⟩ = some (.int .u8 (aZ a.k.1 3)) := HXA.out.cell 8 _ rfl
 have c9 : w1.cell? ⟨p1, 9, none⟩ = some (.int .u8 (aZ a.k.1 4)) := HXA.out.cell 9 _ rfl
 have c10 : w1.cell? ⟨p1, 10, none⟩ = some (.int .u8 (aZ a.k.1 5)) := HXA.out.cell 10 _ rfl
 have c11 : w1.cell? ⟨p1, 11, none⟩ = some (.int .u8 (aZ a.k.1 6)) := HXA.out.cell 11 _ rfl
 have c12 : w1.cell? ⟨p1, 12, none⟩ = some (.int .u8 (aZ a.k.1 7)) := HXA.out.cell 12 _ rfl
 have c13 : w1.cell? ⟨p1, 13, none⟩ = some (.int .u8 (a.m : Int)) := HXA.out.cell 13 _ rfl
 have c14 : w1.cell? ⟨p1, 14, none⟩ = some (u) := HXA.out.cell 14 _ rfl
 have HKS : Hid (max C a.ks.length ≤ max (C + 1) 30) := aA (by omega)
 have hrem : (a.kd : Int).tmod 5 = ((a.kd % 5 : Nat) : Int) := by
  rw [Int.tmod_eq_emod_of_nonneg (by omega)]; omega
 obtain ⟨r, hr⟩ : ∃ r, r = a.kd % 5 := ⟨_, rfl⟩
 rw [← hr] at hrem
 have HRR := aA hr
 have hr5 : r < 5 := by omega
 clear h hD1 hok hks hA hA2 hB2 hw1 hp1 hp2 hr hsz
 go_enter Tryz.func8, Tryz.ntmps8
 by_cases h2 : r = 2
 ·have hz2 : (r : Int) = 2 := by omega
  subst h2
  clear hr5
  go_wp2_with fail
  refine CP.out.mono ?_
  rintro e w2 ⟨vg, er, gr, l', rfl, hR, hd, ho⟩
  have HD2 : Hid (DoesR a l er l' [] gr) := aA (.inl ⟨HRR.out.symm, hR, rfl⟩)
  have how : w2.ownsRow w1.heap.size 34 3 (.slice none 0 0) ([] : List TxN).length (bV (([] : List TxN).map txI)) := ⟨rfl, .inl ⟨rfl, rfl⟩⟩
  obtain ⟨ag, cg, rfl, _⟩ := aQ ho
  have HC' : Hid (C ≤ max (C + 1) 30) := (aA (Nat.le_trans (Nat.le_succ _) (Nat.le_max_left _ _)))
  have HXO2 : Hid (bZ w2 p2 zO 45) := aA (by obtain ⟨F', _, hk1, _⟩ := hd; exact HXO.out.keep hk1 HLT.out)
  have HDD := aA hd
  have HOW := aA how
  have HOG := aA ho
  clear hR hd how ho
  go_wp2_with (refine aP rfl rfl _ _ rfl p2 rfl (cs' := #[.slice none 0 0, .slice ag gr.length cg]) rfl HXO2.out rfl bX (by simp [Value.oneCell']) ?_; intro w5 hb5 hk5; have HX5 := aA hb5; have HK5 := aA hk5; clear hb5 hk5)
  exact bodyPost_ret (v := .tuple #[outV15 (.slice none 0 0) (.slice ag gr.length cg), .int .i64 er]) (bB Tryz.results8 _ _ p2 rfl rfl HX5.out Tryz.underlying45 rfl bX) rfl ⟨⟨(.slice none 0 0), (.slice ag gr.length cg), er, [], gr, l', C, rfl, HD2.out, HC'.out, ldid_out HL HD.out HB.out HNUM.out.1 HNUM.out.2 HDD.out HK5.out, iD HB.out.size HNUM.out.2 HOW.out HK5.out, iD HB.out.size HNUM.out.2 HOG.out HK5.out⟩⟩
 ·have hz2 : ¬ (r : Int) = 2 := by omega
  by_cases h3 : r = 3
  ·have hz3 : (r : Int) = 3 := by omega
   subst h3
   clear hr5
   go_wp2_with fail
   refine CR.out.mono ?_
   rintro e w2 ⟨vg, er, gr, l', rfl, hR, hd, ho⟩
   have HD2 : Hid (DoesR a l er l' [] gr) := aA (.inr (.inl ⟨HRR.out.symm, hR, rfl⟩))
   have how : w2.ownsRow w1.heap.size 34 3 (.slice none 0 0) ([] : List TxN).length (bV (([] : List TxN).map txI)) := ⟨rfl, .inl ⟨rfl, rfl⟩⟩
   obtain ⟨ag, cg, rfl, _⟩ := aQ ho
   have HC' : Hid (C ≤ max (C + 1) 30) := (aA (Nat.le_trans (Nat.le_succ _) (Nat.le_max_left _ _)))
   have HXO2 : Hid (bZ w2 p2 zO 45) := aA (by obtain ⟨F', _, hk1, _⟩ := hd; exact HXO.out.keep hk1 HLT.out)
   have HDD := aA hd
   have HOW := aA how
   have HOG := aA ho
   clear hR hd how ho
   go_wp2_with (refine aP rfl rfl _ _ rfl p2 rfl (cs' := #[.slice none 0 0, .slice ag gr.length cg]) rfl HXO2.out rfl bX (by simp [Value.oneCell']) ?_; intro w5 hb5 hk5; have HX5 := aA hb5; have HK5 := aA hk5; clear hb5 hk5)
   exact bodyPost_ret (v := .tuple #[outV15 (.slice none 0 0) (.slice ag gr.length cg), .int .i64 er]) (bB Tryz.results8 _ _ p2 rfl rfl HX5.out Tryz.underlying45 rfl bX) rfl ⟨⟨(.slice none 0 0), (.slice ag gr.length cg), er, [], gr, l', C, rfl, HD2.out, HC'.out, ldid_out HL HD.out HB.out HNUM.out.1 HNUM.out.2 HDD.out HK5.out, iD HB.out.size HNUM.out.2 HOW.out HK5.out, iD HB.out.size HNUM.out.2 HOG.out HK5.out⟩⟩
  ·have hz3 : ¬ (r : Int) = 3 := by omega
   by_cases h4 : r = 4
   ·have hz4 : (r : Int) = 4 := by omega
    subst h4
    clear hr5
    go_wp2_with fail
    refine CS.out.mono ?_
    rintro e w2 ⟨er, l', rfl, hR, hd⟩
    have HD2 : Hid (DoesR a l er l' [] []) := aA (.inr (.inr (.inl ⟨HRR.out.symm, hR, rfl, rfl⟩)))
    have ho : w2.ownsRow w1.heap.size 73 12 (.slice none 0 0) ([] : List (cD KeyT)).length (bR gtE []) := ⟨rfl, .inl ⟨rfl, rfl⟩⟩
    have how : w2.ownsRow w1.heap.size 34 3 (.slice none 0 0) ([] : List TxN).length (bV (([] : List TxN).map txI)) := ⟨rfl, .inl ⟨rfl, rfl⟩⟩
    have HC' : Hid (max C a.ks.length ≤ max (C + 1) 30) := HKS
    have HXO2 : Hid (bZ w2 p2 zO 45) := aA (by obtain ⟨F', _, hk1, _⟩ := hd; exact HXO.out.keep hk1 HLT.out)
    have HDD := aA hd
    have HOW := aA how
    have HOG := aA ho
    clear hR hd how ho
    go_wp2_with (refine aP rfl rfl _ _ rfl p2 rfl (cs' := #[.slice none 0 0, .slice none 0 0]) rfl HXO2.out rfl bX (by simp [Value.oneCell']) ?_; intro w5 hb5 hk5; have HX5 := aA hb5; have HK5 := aA hk5; clear hb5 hk5)
    exact bodyPost_ret (v := .tuple #[outV15 (.slice none 0 0) (.slice none 0 0), .int .i64 er]) (bB Tryz.results8 _ _ p2 rfl rfl HX5.out Tryz.underlying45 rfl bX) rfl ⟨⟨(.slice none 0 0), (.slice none 0 0), er, [], [], l', max C a.ks.length, rfl, HD2.out, HC'.out, ldid_out HL HD.out HB.out HNUM.out.1 HNUM.out.2 HDD.out HK5.out, iD HB.out.size HNUM.out.2 HOW.out HK5.out, iD HB.out.size HNUM.out.2 HOG.out HK5.out⟩⟩
   ·have hz4 : ¬ (r : Int) = 4 := by omega
    go_wp2_with fail
    refine CA.out.mono ?_
    rintro e w2 ⟨vw, vg, er, wn, gr, l', rfl, hR, hd, how, ho⟩
    have HD2 : Hid (DoesR a l er l' wn gr) := aA (.inr (.inr (.inr ⟨⟨by rw [← HRR.out]; exact h2, by rw [← HRR.out]; exact h3, by rw [← HRR.out]; exact h4⟩, hR⟩)))
    obtain ⟨aw, cw, rfl, _⟩ := aQ how
    obtain ⟨ag, cg, rfl, _⟩ := aQ ho
    have HC' : Hid (C + 1 ≤ max (C + 1) 30) := (aA (Nat.le_max_left _ _))
    have HXO2 : Hid (bZ w2 p2 zO 45) := aA (by obtain ⟨F', _, hk1, _⟩ := hd; exact HXO.out.keep hk1 HLT.out)
    have HDD := aA hd
    have HOW := aA how
    have HOG := aA ho
    clear hR hd how ho
    go_wp2_with (refine aP rfl rfl _ _ rfl p2 rfl (cs' := #[.slice aw wn.length cw, .slice ag gr.length cg]) rfl HXO2.out rfl bX (by simp [Value.oneCell']) ?_; intro w5 hb5 hk5; have HX5 := aA hb5; have HK5 := aA hk5; clear hb5 hk5)
    exact bodyPost_ret (v := .tuple #[outV15 (.slice aw wn.length cw) (.slice ag gr.length cg), .int .i64 er]) (bB Tryz.results8 _ _ p2 rfl rfl HX5.out Tryz.underlying45 rfl bX) rfl ⟨⟨(.slice aw wn.length cw), (.slice ag gr.length cg), er, wn, gr, l', C + 1, rfl, HD2.out, HC'.out, ldid_out HL HD.out HB.out HNUM.out.1 HNUM.out.2 HDD.out HK5.out, iD HB.out.size HNUM.out.2 HOW.out HK5.out, iD HB.out.size HNUM.out.2 HOG.out HK5.out⟩⟩
end
end
section
section
variable {K : Type}
theorem usL_one (u : aS K) : cM [u] u.tx = some u := by unfold cM; simp
theorem getU_one (u : aS K) : aT [u] u.tx = u := by unfold aT; rw [usL_one]; rfl
theorem sort_one (u : aS K) : sortU [u] = [u] := by unfold sortU; simp
theorem ks_one {ko : K → K → Int} (hko : ∀ k, ¬ ko k k < 0) {ks : List K} {k : K} {P : K → Prop} (h : KsOk ko ks P) (hP : ∀ k', P k' ↔ k' = k) : ks = [k] := by
 have hm : ∀ x, x ∈ ks ↔ x = k := fun x => (h.2 x).trans (hP x)
 match ks, h.1, hm with
 | [], _, hm => have := (hm k).2 rfl; cases this
 | [a], _, hm => rw [(hm a).1 List.mem_cons_self]
 | a :: b :: r, hp, hm =>
  have ha := (hm a).1 List.mem_cons_self
  have hb := (hm b).1 (List.mem_cons_of_mem _ List.mem_cons_self)
  have := (List.pairwise_cons.1 hp).1 b List.mem_cons_self
  rw [ha, hb] at this
  exact absurd this (hko k)
end
section
variable {K : Type} [DecidableEq K]
theorem lone_on (u : aS K) (k : K) (hw : u.w k ≠ 0) : gA [u] [k] = [iL k u] ∧ (fX [u] [k]).length = 1 := by
 have hq : cS [u] k = [u.tx] := by
  unfold cS
  rw [List.filter_cons_of_pos (by simpa using hw), List.filter_nil, sort_one]
  rfl
 have hn : ¬ NF [u] (aT [u] u.tx) k := by
  rw [getU_one]
  rintro ⟨v, hv, hne, _⟩
  rw [List.mem_singleton.1 hv] at hne
  exact hne rfl
 have hs : cJ [u] u.tx k = [iL k u] := by
  unfold cJ
  rw [if_neg hn]
  unfold bG
  simp
 refine ⟨?_, ?_⟩
 ·show gA (onS1 [u] k) [] = _
  show onS1 [u] k = _
  unfold onS1
  rw [hq]
  show j9 k (cJ [u] u.tx k) [] = _
  rw [hs]
  rfl
 ·show (onG1 [u] k ++ fX (onS1 [u] k) []).length = 1
  unfold onG1
  rw [hq]
  show ((fN [u] u.tx k ++ onQG k _ []) ++ []).length = 1
  unfold fN
  rw [if_neg hn]
  rfl
def kX (t : TxN) (tm : Nat) : aS K := ⟨t, tm, false, fun _ => 0, fun _ => 0⟩
theorem alone_ask {ko : K → K → Int} (hko : ∀ k, ¬ ko k k < 0) {l' : List (aS K)} {t : TxN} {tm : Nat} {k : K} {m : Nat} {e : Int} {wn : List TxN} {gr : List (cD K)} (hm : 0 < m) (hR : AskR ko true [] t tm k m e l' wn gr) :
  e = 0 ∧ wn = [] ∧ gr.length = 1 ∧ l' = [iL k (bF k m (kX t tm))] := by
 have hu : cM ([] : List (aS K)) t = none := rfl
 have hg : aT ([] : List (aS K)) t = zeroU := dA hu
 rcases hR with ⟨_, _, _, h | ⟨_, h | h | h⟩⟩ | ⟨_, _, _, _, he, hwn, ks, hks, hgr, hl⟩
 ·cases h.1
 ·rw [hg] at h; cases h.1
 ·have := h.2.1; simp at this
 ·obtain ⟨⟨x, hx, _⟩, _⟩ := h; rw [hu] at hx; cases hx
 ·have h1 : bG (cZ ([] : List (aS K)) t tm) t (bF k m) = [bF k m (kX t tm)] := by
   unfold cZ
   rw [hu]
   show bG (dH [] (kX t tm)) t (bF k m) = _
   unfold dH bG
   simp [kX]
  rw [h1] at hwn hks hgr hl
  have hw0 : wn = [] := by
   rw [hwn]
   refine List.eq_nil_iff_forall_not_mem.2 (fun x hx => ?_)
   obtain ⟨y, hy, ⟨_, _, ha⟩, _⟩ := jA.1 hx
   rw [List.mem_singleton.1 hy] at ha
   exact ha.2.1 rfl
  have hk1 : ks = [k] := ks_one hko hks (fun k' => ⟨fun h => h.elim id (fun ⟨y, _, hy, _⟩ => by rw [hw0] at hy; cases hy), fun h => .inl h⟩)
  have hle : cY [bF k m (kX t tm)] wn = [bF k m (kX t tm)] := by unfold cY; rw [hw0]; simp
  rw [hle, hk1] at hgr hl
  have hl2 := lone_on (bF k m (kX t tm)) k (by
   show (if k = k then max 0 m else 0) ≠ 0
   rw [if_pos rfl]; omega)
  exact ⟨he, hw0, by rw [hgr]; exact hl2.2, by rw [hl]; exact hl2.1⟩
theorem alone_wound {ko : K → K → Int} (hko : ∀ k, ¬ ko k k < 0) {u : aS K} {l' : List (aS K)} {t : TxN} {tm : Nat} {k : K} {m : Nat} {e : Int} {wn : List TxN} {gr : List (cD K)} (hm : 0 < m) (hne : u.tx ≠ t) (hp : u.pr = false) (hh : ∀ k', k' ≠ k → u.h k' = 0) (hw : ∀ k', u.w k' = 0) (ha : cI m (u.h k)) (ho : Old (kX (K := K) t tm) u)
  (hR : AskR ko true [u] t tm k m e l' wn gr) : e = 0 ∧ wn = [u.tx] ∧ gr.length = 1 ∧ l' = [iL k (bF k m (kX t tm))] := by
 have hu : cM [u] t = none := by unfold cM; simp [hne]
 have hg : aT [u] t = zeroU := dA hu
 rcases hR with ⟨_, _, _, h | ⟨_, h | h | h⟩⟩ | ⟨_, _, _, _, he, hwn, ks, hks, hgr, hl⟩
 ·cases h.1
 ·rw [hg] at h; cases h.1
 ·have := h.2.1; simp at this
 ·obtain ⟨⟨x, hx, _⟩, _⟩ := h; rw [hu] at hx; cases hx
 ·obtain ⟨x, hx⟩ : ∃ x, x = bF k m (kX (K := K) t tm) := ⟨_, rfl⟩
  have ext : x.tx = t := by rw [hx]; rfl
  have exh : ∀ k', x.h k' = 0 := fun k' => by rw [hx]; rfl
  have exw : x.w k = m := by
   rw [hx]
   show (if k = k then max 0 m else 0) = m
   rw [if_pos rfl]; omega
  have h1 : bG (cZ [u] t tm) t (bF k m) = [x, u] ∨ bG (cZ [u] t tm) t (bF k m) = [u, x] := by
   unfold cZ
   rw [hu]
   show bG (dH [u] (kX t tm)) t (bF k m) = _ ∨ bG (dH [u] (kX t tm)) t (bF k m) = _
   unfold dH bG
   have e1 : (if u.tx = t then bF k m u else u) = u := if_neg hne
   have e2 : (if (kX (K := K) t tm).tx = t then bF k m (kX t tm) else kX t tm) = x := by rw [hx]; exact if_pos rfl
   by_cases hd : jZ u.tx (kX (K := K) t tm).tx < 0
   ·refine .inr ?_
    rw [List.takeWhile_cons_of_pos (by simpa using hd), List.dropWhile_cons_of_pos (by simpa using hd)]
    simp only [List.takeWhile_nil, List.dropWhile_nil, List.cons_append, List.nil_append, List.map_cons, List.map_nil, e1, e2]
   ·refine .inl ?_
    rw [List.takeWhile_cons_of_neg (by simpa using hd), List.dropWhile_cons_of_neg (by simpa using hd)]
    simp only [List.nil_append, List.map_cons, List.map_nil, e1, e2]
  have hgx : aT (bG (cZ [u] t tm) t (bF k m)) t = x := by
   unfold aT cM
   rcases h1 with h1 | h1
   ·rw [h1]; simp [ext]
   ·rw [h1]; simp [ext, hne]
  have hold : Old x u := by
   have : x.ag = (kX (K := K) t tm).ag := by rw [hx]; rfl
   unfold Old
   rw [this]
   exact ho
  have hmm : ∀ y, y ∈ bG (cZ [u] t tm) t (bF k m) ↔ y = x ∨ y = u := fun y => by
   rcases h1 with h1 | h1
   ·rw [h1]; simp
   ·rw [h1]; simp [or_comm]
  have hw1 : wn = [u.tx] := by
   rw [hwn]
   unfold dX
   have hc : (bG (cZ [u] t tm) t (bF k m)).filter (fun y => decide (y.pr = false ∧ Old (aT (bG (cZ [u] t tm) t (bF k m)) t) y ∧ cI ((aT (bG (cZ [u] t tm) t (bF k m)) t).w k) (y.h k))) = [u] := by
    rw [hgx, exw]
    have f1 : decide (x.pr = false ∧ Old x x ∧ cI m (x.h k)) = false := decide_eq_false (fun h => h.2.2.2.1 (exh k))
    have f2 : decide (u.pr = false ∧ Old x u ∧ cI m (u.h k)) = true := decide_eq_true ⟨hp, hold, ha⟩
    rcases h1 with h1 | h1
    ·rw [h1, List.filter_cons_of_neg (by rw [f1]; exact Bool.false_ne_true), List.filter_cons_of_pos (by exact f2), List.filter_nil]
    ·rw [h1, List.filter_cons_of_pos (by exact f2), List.filter_cons_of_neg (by rw [f1]; exact Bool.false_ne_true), List.filter_nil]
   rw [hc, sort_one]
   rfl
  have hk1 : ks = [k] := ks_one hko hks (fun k' => ⟨fun h => h.elim id (fun ⟨y, hy, hyw, hor⟩ => by
   rw [hw1, List.mem_singleton] at hyw
   rcases (hmm y).1 hy with rfl | rfl
   ·exact absurd (hyw.symm.trans ext) hne
   ·refine Classical.byContradiction (fun hn => ?_)
    rcases hor with h | h
    ·exact h (hh k' hn)
    ·exact h (hw k')), fun h => .inl h⟩)
  have hle : cY (bG (cZ [u] t tm) t (bF k m)) wn = [x] := by
   unfold cY
   rw [hw1]
   have f1 : decide (x.tx ∉ [u.tx]) = true := decide_eq_true (by rw [List.mem_singleton, ext]; exact fun e => hne e.symm)
   have f2 : decide (u.tx ∉ [u.tx]) = false := decide_eq_false (by simp)
   rcases h1 with h1 | h1
   ·rw [h1, List.filter_cons_of_pos (by exact f1), List.filter_cons_of_neg (by rw [f2]; exact Bool.false_ne_true), List.filter_nil]
   ·rw [h1, List.filter_cons_of_neg (by rw [f2]; exact Bool.false_ne_true), List.filter_cons_of_pos (by exact f1), List.filter_nil]
  rw [hle, hk1] at hgr hl
  have hl2 := lone_on x k (by rw [exw]; omega)
  exact ⟨he, hw1, by rw [hgr]; exact hl2.2, by rw [hl, ← hx]; exact hl2.1⟩
end
end
end Go.Proofs.YtiloagmkkhlfjaaGreat
