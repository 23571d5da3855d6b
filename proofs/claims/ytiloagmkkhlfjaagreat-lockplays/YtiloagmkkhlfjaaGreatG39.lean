/-
  Own texts put together: LrRel. Own work.
-/
import Derived.Test.YtiloagmkkhlfjaaGreatG38
namespace Go.Proofs.YtiloagmkkhlfjaaGreat
section
open Go.RowKit Go.Maps Classical
theorem rl_keep {w w' : World} {r C : Nat} {F S : Nat → Prop} {l : List (aS KeyT)} (h : dR w r F C l) (hk : aC S w w') (hS : ∀ k, F k → ¬ S k) : dR w' r F C l := by
 obtain ⟨vL, vH, vW, L, H, W, h1, h2, h3, h4, h5⟩ := h
 exact ⟨vL, vH, vW, L, H, W, h1.keep hk (fun k hk => hS k ((h5 k).2 hk)), h2, h3, h4, h5⟩
theorem rl_below {w w' : World} {r C : Nat} {F : Nat → Prop} {l : List (aS KeyT)} (h : dR w r F C l) (hB : Below w.heap.size w w') : dR w' r F C l := rl_keep h (aC.of_below (fun _ => False) hB) (fun _ _ h => h)
theorem rl_lt {w : World} {r C : Nat} {F : Nat → Prop} {l : List (aS KeyT)} (h : dR w r F C l) : ∀ k, F k → k < w.heap.size := by
 obtain ⟨vL, vH, vW, L, H, W, h1, h2, h3, h4, h5⟩ := h
 intro k hk
 rcases (h5 k).1 hk with rfl | e
 ·exact h1.box.lt
 ·exact (h1.far k e).1
theorem rl_more {w : World} {r C C' : Nat} {F : Nat → Prop} {l : List (aS KeyT)} (h : dR w r F C l) (hC : C ≤ C') : dR w r F C' l := by
 obtain ⟨vL, vH, vW, L, H, W, h1, h2, h3, h4, h5⟩ := h
 exact ⟨vL, vH, vW, L, H, W, h1, h2, h3, Nat.le_trans h4 hC, h5⟩
section
variable {w w1 w2 : World} {r C C' : Nat} {F : Nat → Prop} {l l' : List (aS KeyT)}
theorem rd_same (h : dR w r F C l) (hB : Below w.heap.size w w1) : fP dR w w1 r F C l := ⟨F, rl_below h hB, aC.of_below _ hB, fun _ hk => .inl hk⟩
theorem rd_before (hB : Below w.heap.size w w1) (hd : fP dR w1 w2 r F C l) : fP dR w w2 r F C l := by
 obtain ⟨F', h1, hk, h2⟩ := hd
 exact ⟨F', h1, (aC.of_below F hB).trans hk (fun _ _ e => e), fun k e => (h2 k e).imp id (fun e2 => Nat.le_trans hB.size e2)⟩
theorem rd_box {w5 : World} {p : Nat} (h : dR w r F C l) (hB : Below w.heap.size w w1) (hp : w.heap.size ≤ p) (hp1 : p < w1.heap.size) (hd : fP dR w1 w2 r F C' l') (hk : aC (fun k => k = p) w2 w5) : fP dR w w5 r F C' l' := by
 obtain ⟨F', h1, hk1, h2⟩ := hd
 have hn : ¬ F' p := fun e => (h2 p e).elim (fun e => by have := rl_lt h p e; omega) (fun e => by omega)
 exact ⟨F', rl_keep h1 hk (fun k e1 e2 => hn (e2 ▸ e1)), ((aC.of_below F hB).trans hk1 (fun _ _ e => e)).trans hk (fun k e1 e2 => by omega), fun k e => (h2 k e).imp id (fun e2 => Nat.le_trans hB.size e2)⟩
theorem gW {w5 : World} {p e size n : Nat} {v : Value} {xs : List Value} (hB : w.heap.size ≤ w1.heap.size) (hp1 : p < w1.heap.size) (ho : w2.ownsRow w1.heap.size e size v n xs) (hk : aC (fun k => k = p) w2 w5) : w5.ownsRow w.heap.size e size v n xs :=
 aJ (bQ ho hB) hk (fun g hg e => by have := (ho.lt g hg).1; omega)
theorem rd_step (hd : fP dR w w1 r F C l) : ∃ F1, dR w1 r F1 C l ∧ (∀ k, F1 k → F k ∨ w.heap.size ≤ k) ∧ aC F w w1 ∧ ∀ w2 C2 l2, fP dR w1 w2 r F1 C2 l2 → fP dR w w2 r F C2 l2 := by
 obtain ⟨F1, h1, hk, h2⟩ := hd
 refine ⟨F1, h1, h2, hk, fun w2 C2 l2 ⟨F2, g1, gk, g2⟩ => ⟨F2, g1, hk.trans gk (fun k hk' e => (h2 k e).resolve_right (by omega)), fun k e => ?_⟩⟩
 rcases g2 k e with e | e
 ·exact h2 k e
 ·exact .inr (Nat.le_trans hk.size e)
end
def RRel (l : List (aS KeyT)) (t : TxN) (er : Int) (l' : List (aS KeyT)) (gr : List (cD KeyT)) : Prop := (l' = l ∧ gr = [] ∧ cM l t = none ∧ er = 6) ∨ ∃ x, cM l t = some x ∧ er = 0 ∧ OnR cQ (cN l t) gr l'
def RelQ (w : World) (r : Nat) (F : Nat → Prop) (C : Nat) (l : List (aS KeyT)) (t : TxN) (vg : Value) (er : Int) (w' : World) : Prop := ∃ gr l', RRel l t er l' gr ∧ fP dR w w' r F C l' ∧ w'.ownsRow w.heap.size 62 12 vg gr.length (bR gtE gr)
theorem drop_rep {l : List (aS KeyT)} {L : List UsR} {H W : List (cD KeyT)} (h : eF l L H W) (t : TxN) : eF (cN l t) ((cN l t).map usR) (H.filter fun g => decide (g.tx ≠ t)) (W.filter fun g => decide (g.tx ≠ t)) := ⟨rfl, h.h.drop t, h.w.drop t⟩
abbrev jL : Array Value := #[.slice none 0 0, .slice none 0 0]
theorem lD (w : World) : (Instr.build 50 #[]).run Tryz.prog w = .ok (.agg jL) w := by kernel_rfl
theorem buildOut1R (a : Option Addr) (n c : Nat) (w : World) : (Instr.build 50 #[(1, .slice a n c)]).run Tryz.prog w = .ok (.agg #[.slice none 0 0, .slice a n c]) w := by kernel_rfl
theorem buildOut2R (a : Option Addr) (n c : Nat) (w : World) : (Instr.build 50 #[(0, .slice a n c)]).run Tryz.prog w = .ok (.agg #[.slice a n c, .slice none 0 0]) w := by kernel_rfl
set_option maxRecDepth 100000 in
set_option maxHeartbeats 3200000 in
theorem rrel_any15 (r C : Nat) (F : Nat → Prop) (l : List (aS KeyT)) (t : TxN) (w : World) (h : dR w r F C l) (hC : C ≤ 10000) :
  Calls Tryz.prog 29 #[.pointer (some ⟨r, 0, none⟩), aV t] w fun e w' => ∃ vg er, e = .returned (.tuple #[.agg #[.slice none 0 0, vg], .int .i64 er]) ∧ RelQ w r F C l t vg er w' := by
 have hA0 := aE w (.cells #[.int .u8 (t.1 : Int), .int .u32 (t.2.1 : Int), .int .u32 (t.2.2 : Int)] 34)
 have hA1 := aE (w.alloc (.cells #[.int .u8 (t.1 : Int), .int .u32 (t.2.1 : Int), .int .u32 (t.2.2 : Int)] 34)) (.cells #[.slice none 0 0, .slice none 0 0] 50)
 have hB0 := hA0
 have hB1 := hB0.trans (hA1.mono hB0.size)
 have HXp3 : Hid (bZ ((w.alloc (.cells #[.int .u8 (t.1 : Int), .int .u32 (t.2.1 : Int), .int .u32 (t.2.2 : Int)] 34)).alloc (.cells #[.slice none 0 0, .slice none 0 0] 50)) (w.heap.size) #[.int .u8 (t.1 : Int), .int .u32 (t.2.1 : Int), .int .u32 (t.2.2 : Int)] 34) := aA ((aN w #[.int .u8 (t.1 : Int), .int .u32 (t.2.1 : Int), .int .u32 (t.2.2 : Int)] 34).belowI hA1)
 have HXp4 : Hid (bZ ((w.alloc (.cells #[.int .u8 (t.1 : Int), .int .u32 (t.2.1 : Int), .int .u32 (t.2.2 : Int)] 34)).alloc (.cells #[.slice none 0 0, .slice none 0 0] 50)) (w.heap.size + 1) #[.slice none 0 0, .slice none 0 0] 50) := aA (by have := aN (w.alloc (.cells #[.int .u8 (t.1 : Int), .int .u32 (t.2.1 : Int), .int .u32 (t.2.2 : Int)] 34)) #[.slice none 0 0, .slice none 0 0] 50; simpa using this)
 obtain ⟨W1, hw1⟩ : ∃ W1, W1 = ((w.alloc (.cells #[.int .u8 (t.1 : Int), .int .u32 (t.2.1 : Int), .int .u32 (t.2.2 : Int)] 34)).alloc (.cells #[.slice none 0 0, .slice none 0 0] 50)) := ⟨_, rfl⟩
 obtain ⟨p3, hp3⟩ : ∃ p3, p3 = w.heap.size := ⟨_, rfl⟩
 obtain ⟨p4, hp4⟩ : ∃ p4, p4 = w.heap.size + 1 := ⟨_, rfl⟩
 rw [← hw1] at HXp3 HXp4 hB1
 rw [← hp3] at HXp3
 rw [← hp4] at HXp4
 have HW1 := aA hw1
 have HEp3 := aA hp3
 have HEp4 := aA hp4
 have HB := aA hB1
 have HNp3 : Hid (w.heap.size ≤ p3 ∧ p3 < W1.heap.size) := aA ⟨by omega, HXp3.out.lt⟩
 have HNp4 : Hid (w.heap.size ≤ p4 ∧ p4 < W1.heap.size) := aA ⟨by omega, HXp4.out.lt⟩
 clear hw1 hA0 hB0 hA1 hB1 hp3 hp4
 have HR0 := aA h
 obtain ⟨vL, vH, vW, L, H, W, hT, hrep, hb, hcc, hF⟩ := h
 obtain rfl := hrep.us
 have HT := aA (hT.below HB.out)
 have hlen : (l.map usR).length ≤ 100 := by rw [List.length_map]; have := hb.few; omega
 have CF := aA (dZ r vL vH vW _ H W t W1 HT.out hlen)
 have hb0 := lD
 have hb1 := buildOut1R
 have HN3 : Hid (∀ k, F k → k ≠ p3 ∧ k ≠ p4) := aA (fun k hk => by have h1 := rl_lt HR0.out k hk; have h2 := HNp3.out.1; have h3 := HNp4.out.1; omega)
 obtain ⟨x0, x1, x2⟩ := HXp3.out.three
 cases hu : cM l t with
 | none =>
  rw [plU_no hu] at CF
  have HU := aA hu
  clear hT hrep hb hcc hF hlen hu
  go_enter Tryz.func29, Tryz.ntmps29
  go_wp2_with fail
  rw [← HW1.out, ← HEp4.out, ← HEp3.out]
  refine CF.out.mono ?_
  rintro e W2 ⟨rfl, hB2⟩
  have HB2 := aA (HB.out.trans (hB2.mono HB.out.size))
  have HX4 := aA (HXp4.out.belowI hB2)
  clear hB2 CF
  go_wp2_with (refine aP rfl rfl _ _ rfl p4 rfl (cs' := jL) rfl HX4.out rfl bM (by simp [Value.oneCell']) ?_; intro w4 hb4 hk4; have HX5 := aA hb4; have HK4 := aA hk4; clear hb4 hk4)
  exact bodyPost_ret (v := .tuple #[.agg jL, .int .i64 6]) (bB Tryz.results29 _ _ p4 rfl rfl HX5.out Tryz.underlying50 rfl bM) rfl ⟨_, _, rfl, [], l, .inl ⟨rfl, rfl, HU.out, rfl⟩, rd_same HR0.out (HB2.out.trans (HK4.out.below HB2.out.size (fun k e => by rw [e]; exact HNp4.out.1))), World.ownsRow_nil _ _ _ _⟩
 | some x =>
  obtain ⟨hx, ext⟩ := (bT hb).1 hu
  subst ext
  obtain ⟨ka, hk1, hk, hk2, hk3⟩ := plU_on hu
  rw [hk1] at CF
  have HU := aA hu
  have HREP := aA hrep
  have HLB := aA hb
  have HXM := aA hx
  have HCC := aA hcc
  have HF := aA hF
  have HLB2 := aA (eS hb (fun u => decide (u.tx ≠ x.tx)))
  have hka0 : ¬ (ka : Int) < 0 := by omega
  have hka1 : (0 : Int) ≤ (ka : Int) := by omega
  have CG : Hid (∀ V, iU V r vL vH vW (l.map usR) H W → Calls Tryz.prog 53 #[.pointer (some ⟨r, 0, none⟩), aV x.tx] V fun e w' => e = .returned (.tuple #[]) ∧ fP dR V w' r F C (cN l x.tx)) := aA (fun V hV => (rgone_any15 r vL vH vW _ l H W x V hV hrep hb hx (by omega)).mono (fun e w' ⟨he, vL', vH', vW', hP⟩ => ⟨he, rl_of hF hP (drop_rep hrep x.tx) (eS hb _) (Nat.le_trans (Nat.add_le_add (List.length_filter_le _ _) (List.length_filter_le _ _)) hcc)⟩))
  clear hk2 hk3 hT hrep hb hcc hF hlen hu hx hk hk1
  go_enter Tryz.func29, Tryz.ntmps29
  go_wp2_with fail
  rw [← HW1.out, ← HEp4.out, ← HEp3.out]
  refine CF.out.mono ?_
  rintro e W2 ⟨rfl, hB2⟩
  have HB12 := aA hB2
  have HX3 := HXp3.out.belowI hB2
  obtain ⟨y0, y1, y2⟩ := HX3.three
  clear hB2 CF x0 x1 x2 HX3
  go_wp2_with fail
  refine (CG.out W2 (HT.out.below HB12.out)).mono ?_
  rintro e W3 ⟨rfl, hd⟩
  obtain ⟨F1, hr1, hs1, hkk, hcomp⟩ := rd_step hd
  have CO := aA (ron_any15 r C F1 _ W3 hr1 hC)
  have HCM := aA hcomp
  have HK23 := aA hkk
  clear hd hr1 hs1 hcomp hkk CG y0 y1 y2
  go_wp2_with fail
  refine CO.out.mono ?_
  rintro e W4 ⟨v, rfl, gr, l', hon, hld, hown⟩
  obtain ⟨av, cv, hv, _⟩ := aQ hown
  subst hv
  obtain ⟨ng, hng⟩ : ∃ ng, ng = gr.length := ⟨_, rfl⟩
  rw [← hng] at hown ⊢
  have HNG := aA hng
  have HLD := aA (rd_before HB12.out (HCM.out W4 _ _ hld))
  have HOW := aA (bQ hown (Nat.le_trans HB12.out.size HK23.out.size))
  have HON := aA hon
  have HK14 : Hid (aC F W1 W4) := aA (by obtain ⟨_, _, hk, _⟩ := HLD.out; exact hk)
  have HX4 := aA (HXp4.out.keep HK14.out (fun e => (HN3.out p4 e).2 rfl))
  clear hon hld hown CO HCM HK23 hng
  go_wp2_with (refine aP rfl rfl _ _ rfl p4 rfl (cs' := #[.slice none 0 0, .slice av ng cv]) rfl HX4.out rfl bM (by simp [Value.oneCell']) ?_; intro w5 hb5 hk5; have HX5 := aA hb5; have HK5 := aA hk5; clear hb5 hk5)
  exact bodyPost_ret (v := .tuple #[.agg #[.slice none 0 0, .slice av ng cv], .int .i64 0]) (bB Tryz.results29 _ _ p4 rfl rfl HX5.out Tryz.underlying50 rfl bM) rfl ⟨_, _, rfl, gr, l', .inr ⟨x, HU.out, rfl, HON.out⟩, rd_box HR0.out HB.out HNp4.out.1 HNp4.out.2 HLD.out HK5.out, by rw [← HNG.out]; exact gW HB.out.size HNp4.out.2 HOW.out HK5.out⟩
end
end Go.Proofs.YtiloagmkkhlfjaaGreat
