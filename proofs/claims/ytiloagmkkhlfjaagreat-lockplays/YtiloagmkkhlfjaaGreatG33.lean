/-
  Own texts put together: LrFree, LrRuns. Own work.
-/
import Derived.Test.YtiloagmkkhlfjaaGreatG32
import Derived.Test.YtiloagmkkhlfjaaGreatG10
import Derived.Test.YtiloagmkkhlfjaaGreatG08
import Derived.Test.YtiloagmkkhlfjaaGreatG07
import Derived.Test.YtiloagmkkhlfjaaGreatG30
namespace Go.Proofs.YtiloagmkkhlfjaaGreat
set_option maxRecDepth 100000
section
open Go.RowKit Go.Maps Classical
theorem cT (g : cD KeyT) {w : World} {b o : Nat} (h : w.rangeAt b o (gtE g)) : w.rangeAt b (o + 3) (bP g.key.1) := fun j v hv => by
 rw [Nat.add_assoc]
 refine h (3 + j) v ?_
 match j, hv with
 | 0, hv => exact hv
 | 1, hv => exact hv
 | 2, hv => exact hv
 | 3, hv => exact hv
 | 4, hv => exact hv
 | 5, hv => exact hv
 | 6, hv => exact hv
 | 7, hv => exact hv
 | j + 8, hv => simp at hv
theorem fI (g : cD KeyT) {w : World} {b o : Nat} (h : w.rangeAt b o (gtE g)) : w.rangeAt b o (txE3 g.tx) := fun j v hv => by
 refine h j v ?_
 match j, hv with
 | 0, hv => exact hv
 | 1, hv => exact hv
 | 2, hv => exact hv
 | j + 3, hv => simp at hv
theorem bE {w : World} {p : Nat} {g : cD KeyT} {t : TypeId} (h : bZ w p (bW g) t) : w.rangeAt p 0 (gtE g) := fun j v hv => by
 rw [Nat.zero_add]
 exact h.cell j v (by unfold gtE at hv; simpa using hv)
theorem aO {ops : Array Oper} {rest : List Oper} {op : Oper} {a : Act} {w : World} {Q : Exit → Act → World → Prop} {t : TypeId} {d : TypeDesc} (hgd : Region.wanted op (yielded ops a.tmps) = true) (x : Operand) (ho : op.op = .load t x)
  (p o : Nat) (hx : a.eval x = .pointer (some ⟨p, o, none⟩)) (cs : List Value) (hr : w.rangeAt p o cs) (hu : Tryz.prog.underlying t = some d) (hd : d.isRow = true) (hi : (Tryz.prog.info? t).map (·.size) = some cs.length)
  (h : wpList Tryz.prog ops Q rest (a.put op.dst (.agg cs.toArray)) w) : wpList Tryz.prog ops Q (op :: rest) a w :=
 wpList_wanted hgd fun _ hK => wp_load_mid t x ho p o hx cs d hr hu hd hi (hK _ _ h)
section
variable {ρ : Operand → Value} {w : World} {dst : Option Tmp} {ty : TypeId} {pos : String} {aft : Array Edge} {gd : Option (Nat × Bool)}
theorem f9 (x : Operand) {p o : Nat} {g : cD KeyT} (hx : ρ x = .pointer (some ⟨p, o, none⟩)) (hr : w.rangeAt p o (gtE g)) : (execOp ρ ⟨dst, .load 62 x, ty, pos, aft, gd⟩).run Tryz.prog w = .ok (.value (.agg (bW g))) w := by
 have := eI (P := Tryz.prog) (dst := dst) (ty := ty) (pos := pos) (aft := aft) (gd := gd) 62 x hx hr Tryz.underlying62 rfl bS
 exact this
theorem fQ (x : Operand) {p o : Nat} {k : KeyT} (hx : ρ x = .pointer (some ⟨p, o, none⟩)) (hr : w.rangeAt p o (bP k.1)) : (execOp ρ ⟨dst, .load 38 x, ty, pos, aft, gd⟩).run Tryz.prog w = .ok (.value (.agg (aK k.1))) w := by
 have := eI (P := Tryz.prog) (dst := dst) (ty := ty) (pos := pos) (aft := aft) (gd := gd) 38 x hx hr Tryz.underlying38 rfl cE
 exact this
theorem gG (x : Operand) {p o : Nat} {t : TxN} (hx : ρ x = .pointer (some ⟨p, o, none⟩)) (hr : w.rangeAt p o (txE3 t)) : (execOp ρ ⟨dst, .load 34 x, ty, pos, aft, gd⟩).run Tryz.prog w = .ok (.value (aV t)) w := by
 have := eI (P := Tryz.prog) (dst := dst) (ty := ty) (pos := pos) (aft := aft) (gd := gd) 34 x hx hr Tryz.underlying34 rfl dL
 exact this
end
set_option maxHeartbeats 3200000 in
theorem rfree_any15 (r : Nat) (vL vH vW : Value) (L : List UsR) (l : List (aS KeyT)) (H W : List (cD KeyT)) (g : cD KeyT) (w : World) (h : iU w r vL vH vW L H W) (hr : eF l L H W) (hb : dD l) (hg : g ∈ W) (hfew : H.length + W.length ≤ 10000) :
  Calls Tryz.prog 80 #[.pointer (some ⟨r, 0, none⟩), .agg (bW g)] w fun e w' => e = .returned (.bool (decide (¬ NF l (aT l g.tx) g.key))) ∧ Below w.heap.size w w' := by
 have hA0 := aE w (.cells (bW g) 62)
 have hB0 := hA0
 have HXp3 : Hid (bZ (w.alloc (.cells (bW g) 62)) (w.heap.size) (bW g) 62) := aA (by have := aN w (bW g) 62; simpa using this)
 obtain ⟨W1, hw1⟩ : ∃ W1, W1 = (w.alloc (.cells (bW g) 62)) := ⟨_, rfl⟩
 obtain ⟨p3, hp3⟩ : ∃ p3, p3 = w.heap.size := ⟨_, rfl⟩
 rw [← hw1] at HXp3 hB0
 rw [← hp3] at HXp3
 have HW1 := aA hw1
 have HEp3 := aA hp3
 have HB := aA hB0
 have HNp3 : Hid (w.heap.size ≤ p3 ∧ p3 < W1.heap.size) := aA ⟨by omega, HXp3.out.lt⟩
 clear hw1 hA0 hB0 hp3
 obtain rfl := hr.us
 have HR := aA (h.below HB.out)
 obtain ⟨aH, capH, hvH, hcap, _⟩ := HR.out.sH.shape
 obtain ⟨aW, capW, hvW, hcap2, _⟩ := HR.out.sW.shape
 subst hvH
 subst hvW
 obtain ⟨B, hBo⟩ : ∃ B, B = decide (¬ NF l (aT l g.tx) g.key) := ⟨_, rfl⟩
 have HNF := aA (free_nf hr hb hg)
 have HF0 : Hid (NF l (aT l g.tx) g.key → B = false) := aA (fun h => by rw [hBo, decide_eq_false (fun h2 => h2 h)])
 have HF1 : Hid (¬ NF l (aT l g.tx) g.key → B = true) := aA (fun h => by rw [hBo, decide_eq_true h])
 rw [← hBo]
 obtain ⟨N, hN⟩ : ∃ N, N = H.length := ⟨_, rfl⟩
 obtain ⟨M, hM⟩ : ∃ M, M = W.length := ⟨_, rfl⟩
 have HLH := aA hN
 have HLM := aA hM
 have hNb : N ≤ 10000 := by omega
 have hMb : M ≤ 10000 := by omega
 have HRP := aA hr
 have HLB := aA hb
 have HGW := aA hg
 have HSH : Hid (bI gtE W1 (.slice aH N capH) H) := aA (by rw [hN]; exact HR.out.sH)
 have HSW : Hid (bI gtE W1 (.slice aW M capW) W) := aA (by rw [hM]; exact HR.out.sW)
 have HC1 : Hid (∀ V, Below W1.heap.size W1 V → V.cell? ⟨r, 1, none⟩ = some (.slice aH N capH)) := aA (fun V hV => by rw [hN]; exact (HR.out.below hV).c1)
 have HC2 : Hid (∀ V, Below W1.heap.size W1 V → V.cell? ⟨r, 2, none⟩ = some (.slice aW M capW)) := aA (fun V hV => by rw [hM]; exact (HR.out.below hV).c2)
 clear h hr hb hg hBo hN hM hcap hcap2 hfew
 go_enter Tryz.func80, Tryz.ntmps80
 go_wp2_with fail
 rw [← HW1.out, ← HEp3.out]
 go_loopg [5] N (fun gf i wr => ∃ k : Nat, k + gf = N ∧ i = .int .i64 k ∧ Hid (∀ j (hj : j < H.length), j < k → ¬ (H[j].key = g.key ∧ togB H[j] g = false)) ∧ Hid (Below W1.heap.size W1 wr))
 case atStart => exact ⟨0, by omega, rfl, aA (fun j _ hj => by omega), aA (Below.refl _ _)⟩
 case round =>
  obtain ⟨k, hk, rfl, HNO, HBr⟩ := hrel
  have m1 := HC1.out wr HBr.out
  cases gk with
  | zero =>
   obtain rfl : k = N := by omega
   have hz : ¬ ((k : Int) < (k : Int)) := by omega
   have HNH : Hid (¬ ∃ x ∈ H, x.key = g.key ∧ togB x g = false) := aA (by
    rintro ⟨x, hx, e⟩
    obtain ⟨j, hj, rfl⟩ := List.getElem_of_mem hx
    exact HNO.out j hj (by have := HLH.out; omega) e)
   go_wp2_with fail
   go_loopg [6] M (fun gf i V => ∃ m : Nat, m + gf = M ∧ i = .int .i64 m ∧ Hid (∀ j (hj : j < W.length), j < m → ¬ (W[j].key = g.key ∧ togB W[j] g = false ∧ Old (aT l W[j].tx) (aT l g.tx))) ∧ Hid (Below W1.heap.size W1 V))
   case atStart => exact ⟨0, by omega, rfl, aA (fun j _ hj => by omega), HBr⟩
   case round =>
    obtain ⟨m, hm, rfl, HNW, HBV⟩ := hrel
    have m2 := HC2.out wr HBV.out
    cases gk with
    | zero =>
     obtain rfl : m = M := by omega
     have hzm : ¬ ((m : Int) < (m : Int)) := by omega
     have HFA : Hid (B = true) := aA (HF1.out (fun hnf => by
      rcases HNF.out.1 hnf with h | ⟨x, hx, e⟩
      ·exact HNH.out h
      ·obtain ⟨j, hj, rfl⟩ := List.getElem_of_mem hx
       exact HNW.out j hj (by have := HLM.out; omega) e))
     go_wp2_with fail
     go_ret
     exact ⟨by rw [HFA.out]; rfl, HB.out.trans (HBV.out.mono HB.out.size)⟩
    | succ gf =>
     have hmI : (m : Int) < (M : Int) := by omega
     have hmn : m < W.length := by rw [← HLM.out]; omega
     obtain ⟨en, b, off, hao, hbl, hc⟩ := (HSW.out.below HBV.out).at dJ.len hmn
     subst hao
     have HRX : Hid (wr.rangeAt b (off + m * 12) (gtE W[m])) := aA (fun j v hv => hc j v hv)
     have HST : Hid (¬ (W[m].key = g.key ∧ togB W[m] g = false ∧ Old (aT l W[m].tx) (aT l g.tx)) → ∀ j (hj : j < W.length), j < m + 1 → ¬ (W[j].key = g.key ∧ togB W[j] g = false ∧ Old (aT l W[j].tx) (aT l g.tx))) := aA (fun e j hj hjk => by
      by_cases ej : j = m
      ·subst ej; exact e
      ·exact HNW.out j hj (by omega))
     have HXM := aA (List.getElem_mem hmn)
     generalize W[m] = x at *
     have CT := aA (fun V => rtog_any15 x g V)
     have hqk := fun V => kG x.key g.key V
     have HZ : Hid (bZ (wr.alloc (.cells #[.int .u8 0, .int .u32 0, .int .u32 0, .int .u8 0, .int .u8 0, .int .u8 0, .int .u8 0, .int .u8 0, .int .u8 0, .int .u8 0, .int .u8 0, .int .u8 0] 62)) wr.heap.size #[.int .u8 0, .int .u32 0, .int .u32 0, .int .u8 0, .int .u8 0, .int .u8 0, .int .u8 0, .int .u8 0, .int .u8 0, .int .u8 0, .int .u8 0, .int .u8 0] 62) := aA (aN wr _ 62)
     have HZB : Hid (Below W1.heap.size W1 (wr.alloc (.cells #[.int .u8 0, .int .u32 0, .int .u32 0, .int .u8 0, .int .u8 0, .int .u8 0, .int .u8 0, .int .u8 0, .int .u8 0, .int .u8 0, .int .u8 0, .int .u8 0] 62)) ∧ W1.heap.size ≤ wr.heap.size) := aA ⟨HBV.out.trans ((aE wr _).mono HBV.out.size), HBV.out.size⟩
     clear hc en hbl
     by_cases ek : x.key = g.key
     ·rw [decide_eq_true ek] at hqk
      have HEK := aA ek
      obtain ⟨T, hT⟩ : ∃ T, T = togB x g := ⟨_, rfl⟩
      rw [← hT] at CT
      have HT := aA hT
      clear ek hT
      cases T with
      | true =>
       have HNW2 := aA (HST.out (fun h => by rw [← HT.out] at h; exact absurd h.2.1 (by simp)))
       clear HST
       go_wp2_with (first | (refine aO rfl _ (t := 62) rfl (b) (off + m * 12) rfl (gtE x) HRX.out Tryz.underlying62 rfl bS ?_) | (refine aP rfl rfl _ _ rfl wr.heap.size rfl (cs' := bW x) rfl HZ.out rfl bS (by simp [Value.oneCell']) ?_; intro w3 hb3 hk3; have HX7 := aA hb3; have HB3 : Hid (Below W1.heap.size W1 w3) := aA (HZB.out.1.trans (hk3.below HZB.out.1.size (fun k hk => by rw [hk]; exact HZB.out.2))); have HX3 := aA (HXp3.out.belowI HB3.out); clear hb3 hk3) | (refine aO rfl _ (t := 38) rfl (wr.heap.size) (3) rfl (bP x.key.1) (by simpa using cT x (bE HX7.out)) Tryz.underlying38 rfl cE ?_) | (refine aO rfl _ (t := 38) rfl (p3) (3) rfl (bP g.key.1) (by simpa using cT g (bE HX3.out)) Tryz.underlying38 rfl cE ?_) | (refine aO rfl _ (t := 62) rfl (wr.heap.size) (0) rfl (gtE x) (bE HX7.out) Tryz.underlying62 rfl bS ?_) | (refine aO rfl _ (t := 62) rfl (p3) (0) rfl (gtE g) (bE HX3.out) Tryz.underlying62 rfl bS ?_) | (refine aO rfl _ (t := 34) rfl (wr.heap.size) (0) rfl (txE3 x.tx) (fI x (bE HX7.out)) Tryz.underlying34 rfl dL ?_) | (refine aO rfl _ (t := 34) rfl (p3) (0) rfl (txE3 g.tx) (fI g (bE HX3.out)) Tryz.underlying34 rfl dL ?_) | (go_at_call 85; refine (CT.out _).mono ?_; rintro e w4 ⟨rfl, hB4⟩; replace HX7 := aA (HX7.out.belowI hB4); replace HX3 := aA (HX3.out.belowI hB4); replace HB3 := aA (HB3.out.trans (hB4.mono HB3.out.size)); clear hB4))
       go_roundg gf
       case measure => omega
       case rel => exact ⟨m + 1, by omega, by first | rfl | go_num, HNW2, HB3⟩
      | false =>
       have hgx := HRP.out.w.got HLB.out HXM.out
       have hgg := HRP.out.w.got HLB.out HGW.out
       have CO : Hid (∀ V, Below W1.heap.size W1 V → Calls Tryz.prog 38 #[.pointer (some ⟨r, 0, none⟩), aV x.tx, aV g.tx] V fun e w' => e = .returned (.bool (decide (Old (aT l x.tx) (aT l g.tx)))) ∧ Below V.heap.size V w') := aA (fun V hV => by
        have := gF r _ _ _ l H W (aT l x.tx) (aT l g.tx) V (HR.out.below hV) HLB.out hgx.1 hgg.1
        rw [hgx.2.1, hgg.2.1] at this
        exact this)
       obtain ⟨O, hO⟩ : ∃ O, O = decide (Old (aT l x.tx) (aT l g.tx)) := ⟨_, rfl⟩
       rw [← hO] at CO
       have HO := aA hO
       clear hO hgx hgg
       cases O with
       | true =>
        have HFA : Hid (B = false) := aA (HF0.out (HNF.out.2 (.inr ⟨x, HXM.out, HEK.out, HT.out.symm, of_decide_eq_true HO.out.symm⟩)))
        clear HST
        go_wp2_with (first | (refine aO rfl _ (t := 62) rfl (b) (off + m * 12) rfl (gtE x) HRX.out Tryz.underlying62 rfl bS ?_) | (refine aP rfl rfl _ _ rfl wr.heap.size rfl (cs' := bW x) rfl HZ.out rfl bS (by simp [Value.oneCell']) ?_; intro w3 hb3 hk3; have HX7 := aA hb3; have HB3 : Hid (Below W1.heap.size W1 w3) := aA (HZB.out.1.trans (hk3.below HZB.out.1.size (fun k hk => by rw [hk]; exact HZB.out.2))); have HX3 := aA (HXp3.out.belowI HB3.out); clear hb3 hk3) | (refine aO rfl _ (t := 38) rfl (wr.heap.size) (3) rfl (bP x.key.1) (by simpa using cT x (bE HX7.out)) Tryz.underlying38 rfl cE ?_) | (refine aO rfl _ (t := 38) rfl (p3) (3) rfl (bP g.key.1) (by simpa using cT g (bE HX3.out)) Tryz.underlying38 rfl cE ?_) | (refine aO rfl _ (t := 62) rfl (wr.heap.size) (0) rfl (gtE x) (bE HX7.out) Tryz.underlying62 rfl bS ?_) | (refine aO rfl _ (t := 62) rfl (p3) (0) rfl (gtE g) (bE HX3.out) Tryz.underlying62 rfl bS ?_) | (refine aO rfl _ (t := 34) rfl (wr.heap.size) (0) rfl (txE3 x.tx) (fI x (bE HX7.out)) Tryz.underlying34 rfl dL ?_) | (refine aO rfl _ (t := 34) rfl (p3) (0) rfl (txE3 g.tx) (fI g (bE HX3.out)) Tryz.underlying34 rfl dL ?_) | (go_at_call 85; refine (CT.out _).mono ?_; rintro e w4 ⟨rfl, hB4⟩; replace HX7 := aA (HX7.out.belowI hB4); replace HX3 := aA (HX3.out.belowI hB4); replace HB3 := aA (HB3.out.trans (hB4.mono HB3.out.size)); clear hB4) | (go_at_call 38; refine (CO.out _ HB3.out).mono ?_; rintro e w4 ⟨rfl, hB4⟩; replace HX7 := aA (HX7.out.belowI hB4); replace HX3 := aA (HX3.out.belowI hB4); replace HB3 := aA (HB3.out.trans (hB4.mono HB3.out.size)); clear hB4))
        go_ret
        exact ⟨by rw [HFA.out]; rfl, HB.out.trans (HB3.out.mono HB.out.size)⟩
       | false =>
        have HNW2 := aA (HST.out (fun h => absurd h.2.2 (of_decide_eq_false HO.out.symm)))
        clear HST
        go_wp2_with (first | (refine aO rfl _ (t := 62) rfl (b) (off + m * 12) rfl (gtE x) HRX.out Tryz.underlying62 rfl bS ?_) | (refine aP rfl rfl _ _ rfl wr.heap.size rfl (cs' := bW x) rfl HZ.out rfl bS (by simp [Value.oneCell']) ?_; intro w3 hb3 hk3; have HX7 := aA hb3; have HB3 : Hid (Below W1.heap.size W1 w3) := aA (HZB.out.1.trans (hk3.below HZB.out.1.size (fun k hk => by rw [hk]; exact HZB.out.2))); have HX3 := aA (HXp3.out.belowI HB3.out); clear hb3 hk3) | (refine aO rfl _ (t := 38) rfl (wr.heap.size) (3) rfl (bP x.key.1) (by simpa using cT x (bE HX7.out)) Tryz.underlying38 rfl cE ?_) | (refine aO rfl _ (t := 38) rfl (p3) (3) rfl (bP g.key.1) (by simpa using cT g (bE HX3.out)) Tryz.underlying38 rfl cE ?_) | (refine aO rfl _ (t := 62) rfl (wr.heap.size) (0) rfl (gtE x) (bE HX7.out) Tryz.underlying62 rfl bS ?_) | (refine aO rfl _ (t := 62) rfl (p3) (0) rfl (gtE g) (bE HX3.out) Tryz.underlying62 rfl bS ?_) | (refine aO rfl _ (t := 34) rfl (wr.heap.size) (0) rfl (txE3 x.tx) (fI x (bE HX7.out)) Tryz.underlying34 rfl dL ?_) | (refine aO rfl _ (t := 34) rfl (p3) (0) rfl (txE3 g.tx) (fI g (bE HX3.out)) Tryz.underlying34 rfl dL ?_) | (go_at_call 85; refine (CT.out _).mono ?_; rintro e w4 ⟨rfl, hB4⟩; replace HX7 := aA (HX7.out.belowI hB4); replace HX3 := aA (HX3.out.belowI hB4); replace HB3 := aA (HB3.out.trans (hB4.mono HB3.out.size)); clear hB4) | (go_at_call 38; refine (CO.out _ HB3.out).mono ?_; rintro e w4 ⟨rfl, hB4⟩; replace HX7 := aA (HX7.out.belowI hB4); replace HX3 := aA (HX3.out.belowI hB4); replace HB3 := aA (HB3.out.trans (hB4.mono HB3.out.size)); clear hB4))
        go_roundg gf
        case measure => omega
        case rel => exact ⟨m + 1, by omega, by first | rfl | go_num, HNW2, HB3⟩
     ·rw [decide_eq_false ek] at hqk
      have HNW2 := aA (HST.out (fun h => ek h.1))
      clear ek HST
      go_wp2_with (first | (refine aO rfl _ (t := 62) rfl (b) (off + m * 12) rfl (gtE x) HRX.out Tryz.underlying62 rfl bS ?_) | (refine aP rfl rfl _ _ rfl wr.heap.size rfl (cs' := bW x) rfl HZ.out rfl bS (by simp [Value.oneCell']) ?_; intro w3 hb3 hk3; have HX7 := aA hb3; have HB3 : Hid (Below W1.heap.size W1 w3) := aA (HZB.out.1.trans (hk3.below HZB.out.1.size (fun k hk => by rw [hk]; exact HZB.out.2))); have HX3 := aA (HXp3.out.belowI HB3.out); clear hb3 hk3) | (refine aO rfl _ (t := 38) rfl (wr.heap.size) (3) rfl (bP x.key.1) (by simpa using cT x (bE HX7.out)) Tryz.underlying38 rfl cE ?_) | (refine aO rfl _ (t := 38) rfl (p3) (3) rfl (bP g.key.1) (by simpa using cT g (bE HX3.out)) Tryz.underlying38 rfl cE ?_) | (refine aO rfl _ (t := 62) rfl (wr.heap.size) (0) rfl (gtE x) (bE HX7.out) Tryz.underlying62 rfl bS ?_) | (refine aO rfl _ (t := 62) rfl (p3) (0) rfl (gtE g) (bE HX3.out) Tryz.underlying62 rfl bS ?_) | (refine aO rfl _ (t := 34) rfl (wr.heap.size) (0) rfl (txE3 x.tx) (fI x (bE HX7.out)) Tryz.underlying34 rfl dL ?_) | (refine aO rfl _ (t := 34) rfl (p3) (0) rfl (txE3 g.tx) (fI g (bE HX3.out)) Tryz.underlying34 rfl dL ?_))
      go_roundg gf
      case measure => omega
      case rel => exact ⟨m + 1, by omega, by first | rfl | go_num, HNW2, HB3⟩
  | succ gf =>
   have hkI : (k : Int) < (N : Int) := by omega
   have hkN : k < N := by omega
   have hkn : k < H.length := by rw [← HLH.out]; omega
   obtain ⟨en, b, off, hao, hbl, hc⟩ := (HSH.out.below HBr.out).at dJ.len hkn
   subst hao
   have HRX : Hid (∀ V, Below wr.heap.size wr V → V.rangeAt b (off + k * 12) (gtE H[k])) := aA (fun V hV j v hv => (hV.cell (p := ⟨b, off + k * 12 + j, none⟩) hbl).trans (hc j v hv))
   have HXq : Hid (∀ V, Below wr.heap.size wr V → bZ V p3 (bW g) 62) := aA (fun V hV => (HXp3.out.belowI HBr.out).belowI hV)
   have HC : Hid (∀ V, Below wr.heap.size wr V → V.cell? ⟨r, 1, none⟩ = some (.slice (some ⟨b, off, none⟩) N capH)) := aA (fun V hV => HC1.out V (HBr.out.trans (hV.mono HBr.out.size)))
   have HST : Hid (¬ (H[k].key = g.key ∧ togB H[k] g = false) → ∀ j (hj : j < H.length), j < k + 1 → ¬ (H[j].key = g.key ∧ togB H[j] g = false)) := aA (fun e j hj hjk => by
    by_cases ej : j = k
    ·subst ej; exact e
    ·exact HNO.out j hj (by omega))
   have HXM := aA (List.getElem_mem hkn)
   generalize H[k] = x at *
   have CT := aA (fun V => rtog_any15 x g V)
   have hqk := fun V => kG x.key g.key V
   clear hc en hbl
   by_cases ek : x.key = g.key
   ·rw [decide_eq_true ek] at hqk
    obtain ⟨T, hT⟩ : ∃ T, T = togB x g := ⟨_, rfl⟩
    rw [← hT] at CT
    cases T with
    | true =>
     have HNO2 := aA (HST.out (fun h => by rw [← hT] at h; exact absurd h.2 (by simp)))
     clear ek hT HST
     go_wp2_with fail
     refine bD (by kernel_rfl) [(17, .pointer (some ⟨r, 0, none⟩)), (18, .pointer (some ⟨r, 0, none⟩)), (19, .pointer (some ⟨r, 1, none⟩)), (20, .slice (some ⟨b, off, none⟩) N capH), (21, .int .i64 (k : Int)), (22, .pointer (some ⟨b, off + k * 12, none⟩)), (23, .pointer (some ⟨b, off + k * 12 + 3, none⟩)), (24, .agg (aK x.key.1)), (25, .pointer (some ⟨p3, 3, none⟩)), (26, .agg (aK g.key.1)), (27, .bool true), (28, .bool true), (29, .pointer (some ⟨r, 0, none⟩)), (30, .pointer (some ⟨r, 0, none⟩)), (31, .pointer (some ⟨r, 1, none⟩)), (32, .slice (some ⟨b, off, none⟩) N capH), (33, .int .i64 (k : Int)), (34, .pointer (some ⟨b, off + k * 12, none⟩)), (35, .agg (bW x)), (36, .agg (bW g)), (37, .bool true), (38, .bool false), (39, .bool false)] (by kernel_rfl) rfl ?_ ?_
     ·intro i o hi A w1 hB hold hdeps
      have hlt : i < 23 := (Array.getElem?_eq_some_iff.1 hi).1
      have hc : i = 0 ∨ i = 1 ∨ i = 2 ∨ i = 3 ∨ i = 4 ∨ i = 5 ∨ i = 6 ∨ i = 7 ∨ i = 8 ∨ i = 9 ∨ i = 10 ∨ i = 11 ∨ i = 12 ∨ i = 13 ∨ i = 14 ∨ i = 15 ∨ i = 16 ∨ i = 17 ∨ i = 18 ∨ i = 19 ∨ i = 20 ∨ i = 21 ∨ i = 22 := by omega
      clear hlt
      rcases hc with rfl|rfl|rfl|rfl|rfl|rfl|rfl|rfl|rfl|rfl|rfl|rfl|rfl|rfl|rfl|rfl|rfl|rfl|rfl|rfl|rfl|rfl|rfl <;> obtain rfl := Option.some.inj hi
      ·have s0 : A.tmps.getD 0 undef = .pointer (some ⟨r, 0, none⟩) := hold 0 (by kernel_rfl)
       exact aD hi rfl rfl (aR _ s0)
      ·have s17 : A.tmps.getD 17 undef = .pointer (some ⟨r, 0, none⟩) := aB hdeps 0 (by kernel_rfl)
       exact aD hi rfl rfl (dY _ s17)
      ·have s18 : A.tmps.getD 18 undef = .pointer (some ⟨r, 0, none⟩) := aB hdeps 1 (by kernel_rfl)
       exact aD hi rfl rfl (k8 _ s18)
      ·have s19 : A.tmps.getD 19 undef = .pointer (some ⟨r, 1, none⟩) := aB hdeps 2 (by kernel_rfl)
       exact aD hi rfl rfl (dF _ s19 (HC.out w1 hB))
      ·have s5 : A.tmps.getD 5 undef = .int .i64 (k : Int) := hold 5 (by kernel_rfl)
       exact aD hi rfl rfl (aR _ s5)
      ·have s20 : A.tmps.getD 20 undef = .slice (some ⟨b, off, none⟩) N capH := aB hdeps 3 (by kernel_rfl)
       have s21 : A.tmps.getD 21 undef = .int .i64 (k : Int) := aB hdeps 4 (by kernel_rfl)
       exact aD hi rfl rfl (eQ _ _ s20 s21 hkN)
      ·have s22 : A.tmps.getD 22 undef = .pointer (some ⟨b, off + k * 12, none⟩) := aB hdeps 5 (by kernel_rfl)
       exact aD hi rfl rfl (fG _ s22)
      ·have s23 : A.tmps.getD 23 undef = .pointer (some ⟨b, off + k * 12 + 3, none⟩) := aB hdeps 6 (by kernel_rfl)
       exact aD hi rfl rfl (fQ (k := x.key) _ s23 (cT x (HRX.out w1 hB)))
      ·have s3 : A.tmps.getD 3 undef = .pointer (some ⟨p3, 0, none⟩) := hold 3 (by kernel_rfl)
       exact aD hi rfl rfl (fG _ s3)
      ·have s25 : A.tmps.getD 25 undef = .pointer (some ⟨p3, 3, none⟩) := aB hdeps 8 (by kernel_rfl)
       exact aD hi rfl rfl (fQ (k := g.key) _ s25 (by simpa using cT g (bE (HXq.out w1 hB))))
      ·have s24 : A.tmps.getD 24 undef = .agg (aK x.key.1) := aB hdeps 7 (by kernel_rfl)
       have s26 : A.tmps.getD 26 undef = .agg (aK g.key.1) := aB hdeps 9 (by kernel_rfl)
       exact aD hi rfl rfl (eE _ _ _ _ _ s24 s26 (hqk w1) (by kernel_rfl))
      ·have s27 : A.tmps.getD 27 undef = .bool true := aB hdeps 10 (by kernel_rfl)
       exact aD hi rfl rfl (aR _ s27)
      ·have g12 : A.tmps.getD 28 undef = .bool true := aB hdeps 11 (by kernel_rfl)
       have s0 : A.tmps.getD 0 undef = .pointer (some ⟨r, 0, none⟩) := hold 0 (by kernel_rfl)
       exact aD hi (aM rfl rfl g12) rfl (aR _ s0)
      ·have g13 : A.tmps.getD 28 undef = .bool true := aB hdeps 11 (by kernel_rfl)
       have s29 : A.tmps.getD 29 undef = .pointer (some ⟨r, 0, none⟩) := aB hdeps 12 (by kernel_rfl)
       exact aD hi (aM rfl rfl g13) rfl (dY _ s29)
      ·have g14 : A.tmps.getD 28 undef = .bool true := aB hdeps 11 (by kernel_rfl)
       have s30 : A.tmps.getD 30 undef = .pointer (some ⟨r, 0, none⟩) := aB hdeps 13 (by kernel_rfl)
       exact aD hi (aM rfl rfl g14) rfl (k8 _ s30)
      ·have g15 : A.tmps.getD 28 undef = .bool true := aB hdeps 11 (by kernel_rfl)
       have s31 : A.tmps.getD 31 undef = .pointer (some ⟨r, 1, none⟩) := aB hdeps 14 (by kernel_rfl)
       exact aD hi (aM rfl rfl g15) rfl (dF _ s31 (HC.out w1 hB))
      ·have g16 : A.tmps.getD 28 undef = .bool true := aB hdeps 11 (by kernel_rfl)
       have s5 : A.tmps.getD 5 undef = .int .i64 (k : Int) := hold 5 (by kernel_rfl)
       exact aD hi (aM rfl rfl g16) rfl (aR _ s5)
      ·have g17 : A.tmps.getD 28 undef = .bool true := aB hdeps 11 (by kernel_rfl)
       have s32 : A.tmps.getD 32 undef = .slice (some ⟨b, off, none⟩) N capH := aB hdeps 15 (by kernel_rfl)
       have s33 : A.tmps.getD 33 undef = .int .i64 (k : Int) := aB hdeps 16 (by kernel_rfl)
       exact aD hi (aM rfl rfl g17) rfl (eQ _ _ s32 s33 hkN)
      ·have g18 : A.tmps.getD 28 undef = .bool true := aB hdeps 11 (by kernel_rfl)
       have s34 : A.tmps.getD 34 undef = .pointer (some ⟨b, off + k * 12, none⟩) := aB hdeps 17 (by kernel_rfl)
       exact aD hi (aM rfl rfl g18) rfl (f9 (g := x) _ s34 (HRX.out w1 hB))
      ·have g19 : A.tmps.getD 28 undef = .bool true := aB hdeps 11 (by kernel_rfl)
       have s3 : A.tmps.getD 3 undef = .pointer (some ⟨p3, 0, none⟩) := hold 3 (by kernel_rfl)
       exact aD hi (aM rfl rfl g19) rfl (f9 (g := g) _ s3 (bE (HXq.out w1 hB)))
      ·have g20 : A.tmps.getD 28 undef = .bool true := aB hdeps 11 (by kernel_rfl)
       have s35 : A.tmps.getD 35 undef = .agg (bW x) := aB hdeps 18 (by kernel_rfl)
       have s36 : A.tmps.getD 36 undef = .agg (bW g) := aB hdeps 19 (by kernel_rfl)
       exact cF hi (aM rfl rfl g20) rfl (cC 85 _ #[.agg (bW x), .agg (bW g)] _ rfl (by simp only [List.map_toArray, List.map_cons, List.map_nil, show A.eval (.tmp 35) = .agg (bW x) from s35, show A.eval (.tmp 36) = .agg (bW g) from s36]; try rfl) en_togR) (CT.out w1)
      ·have g21 : A.tmps.getD 28 undef = .bool true := aB hdeps 11 (by kernel_rfl)
       have s37 : A.tmps.getD 37 undef = .bool true := aB hdeps 20 (by kernel_rfl)
       exact aD hi (aM rfl rfl g21) rfl (y_not (a := true) _ _ s37)
      ·have s28 : A.tmps.getD 28 undef = .bool true := aB hdeps 11 (by kernel_rfl)
       have s38 : A.tmps.getD 38 undef = .bool false := aB hdeps 21 (by kernel_rfl)
       exact aD hi rfl rfl (dT _ _ _ s28 s38)
     ·intro w10 hB10
      simp only [cA, Act.put, List.setIfInBounds_toArray, List.set_cons_succ, List.set_cons_zero]
      go_wp2_with fail
      go_roundg gf
      case measure => omega
      case rel => exact ⟨k + 1, by omega, by first | rfl | go_num, HNO2, aA (HBr.out.trans (hB10.mono HBr.out.size))⟩
    | false =>
     have HFA : Hid (B = false) := aA (HF0.out (HNF.out.2 (.inl ⟨x, HXM.out, ek, hT.symm⟩)))
     clear ek hT HST
     go_wp2_with fail
     refine bD (by kernel_rfl) [(17, .pointer (some ⟨r, 0, none⟩)), (18, .pointer (some ⟨r, 0, none⟩)), (19, .pointer (some ⟨r, 1, none⟩)), (20, .slice (some ⟨b, off, none⟩) N capH), (21, .int .i64 (k : Int)), (22, .pointer (some ⟨b, off + k * 12, none⟩)), (23, .pointer (some ⟨b, off + k * 12 + 3, none⟩)), (24, .agg (aK x.key.1)), (25, .pointer (some ⟨p3, 3, none⟩)), (26, .agg (aK g.key.1)), (27, .bool true), (28, .bool true), (29, .pointer (some ⟨r, 0, none⟩)), (30, .pointer (some ⟨r, 0, none⟩)), (31, .pointer (some ⟨r, 1, none⟩)), (32, .slice (some ⟨b, off, none⟩) N capH), (33, .int .i64 (k : Int)), (34, .pointer (some ⟨b, off + k * 12, none⟩)), (35, .agg (bW x)), (36, .agg (bW g)), (37, .bool false), (38, .bool true), (39, .bool true)] (by kernel_rfl) rfl ?_ ?_
     ·intro i o hi A w1 hB hold hdeps
      have hlt : i < 23 := (Array.getElem?_eq_some_iff.1 hi).1
      have hc : i = 0 ∨ i = 1 ∨ i = 2 ∨ i = 3 ∨ i = 4 ∨ i = 5 ∨ i = 6 ∨ i = 7 ∨ i = 8 ∨ i = 9 ∨ i = 10 ∨ i = 11 ∨ i = 12 ∨ i = 13 ∨ i = 14 ∨ i = 15 ∨ i = 16 ∨ i = 17 ∨ i = 18 ∨ i = 19 ∨ i = 20 ∨ i = 21 ∨ i = 22 := by omega
      clear hlt
      rcases hc with rfl|rfl|rfl|rfl|rfl|rfl|rfl|rfl|rfl|rfl|rfl|rfl|rfl|rfl|rfl|rfl|rfl|rfl|rfl|rfl|rfl|rfl|rfl <;> obtain rfl := Option.some.inj hi
      ·have s0 : A.tmps.getD 0 undef = .pointer (some ⟨r, 0, none⟩) := hold 0 (by kernel_rfl)
       exact aD hi rfl rfl (aR _ s0)
      ·have s17 : A.tmps.getD 17 undef = .pointer (some ⟨r, 0, none⟩) := aB hdeps 0 (by kernel_rfl)
       exact aD hi rfl rfl (dY _ s17)
      ·have s18 : A.tmps.getD 18 undef = .pointer (some ⟨r, 0, none⟩) := aB hdeps 1 (by kernel_rfl)
       exact aD hi rfl rfl (k8 _ s18)
      ·have s19 : A.tmps.getD 19 undef = .pointer (some ⟨r, 1, none⟩) := aB hdeps 2 (by kernel_rfl)
       exact aD hi rfl rfl (dF _ s19 (HC.out w1 hB))
      ·have s5 : A.tmps.getD 5 undef = .int .i64 (k : Int) := hold 5 (by kernel_rfl)
       exact aD hi rfl rfl (aR _ s5)
      ·have s20 : A.tmps.getD 20 undef = .slice (some ⟨b, off, none⟩) N capH := aB hdeps 3 (by kernel_rfl)
       have s21 : A.tmps.getD 21 undef = .int .i64 (k : Int) := aB hdeps 4 (by kernel_rfl)
       exact aD hi rfl rfl (eQ _ _ s20 s21 hkN)
      ·have s22 : A.tmps.getD 22 undef = .pointer (some ⟨b, off + k * 12, none⟩) := aB hdeps 5 (by kernel_rfl)
       exact aD hi rfl rfl (fG _ s22)
      ·have s23 : A.tmps.getD 23 undef = .pointer (some ⟨b, off + k * 12 + 3, none⟩) := aB hdeps 6 (by kernel_rfl)
       exact aD hi rfl rfl (fQ (k := x.key) _ s23 (cT x (HRX.out w1 hB)))
      ·have s3 : A.tmps.getD 3 undef = .pointer (some ⟨p3, 0, none⟩) := hold 3 (by kernel_rfl)
       exact aD hi rfl rfl (fG _ s3)
      ·have s25 : A.tmps.getD 25 undef = .pointer (some ⟨p3, 3, none⟩) := aB hdeps 8 (by kernel_rfl)
       exact aD hi rfl rfl (fQ (k := g.key) _ s25 (by simpa using cT g (bE (HXq.out w1 hB))))
      ·have s24 : A.tmps.getD 24 undef = .agg (aK x.key.1) := aB hdeps 7 (by kernel_rfl)
       have s26 : A.tmps.getD 26 undef = .agg (aK g.key.1) := aB hdeps 9 (by kernel_rfl)
       exact aD hi rfl rfl (eE _ _ _ _ _ s24 s26 (hqk w1) (by kernel_rfl))
      ·have s27 : A.tmps.getD 27 undef = .bool true := aB hdeps 10 (by kernel_rfl)
       exact aD hi rfl rfl (aR _ s27)
      ·have g12 : A.tmps.getD 28 undef = .bool true := aB hdeps 11 (by kernel_rfl)
       have s0 : A.tmps.getD 0 undef = .pointer (some ⟨r, 0, none⟩) := hold 0 (by kernel_rfl)
       exact aD hi (aM rfl rfl g12) rfl (aR _ s0)
      ·have g13 : A.tmps.getD 28 undef = .bool true := aB hdeps 11 (by kernel_rfl)
       have s29 : A.tmps.getD 29 undef = .pointer (some ⟨r, 0, none⟩) := aB hdeps 12 (by kernel_rfl)
       exact aD hi (aM rfl rfl g13) rfl (dY _ s29)
      ·have g14 : A.tmps.getD 28 undef = .bool true := aB hdeps 11 (by kernel_rfl)
       have s30 : A.tmps.getD 30 undef = .pointer (some ⟨r, 0, none⟩) := aB hdeps 13 (by kernel_rfl)
       exact aD hi (aM rfl rfl g14) rfl (k8 _ s30)
      ·have g15 : A.tmps.getD 28 undef = .bool true := aB hdeps 11 (by kernel_rfl)
       have s31 : A.tmps.getD 31 undef = .pointer (some ⟨r, 1, none⟩) := aB hdeps 14 (by kernel_rfl)
       exact aD hi (aM rfl rfl g15) rfl (dF _ s31 (HC.out w1 hB))
      ·have g16 : A.tmps.getD 28 undef = .bool true := aB hdeps 11 (by kernel_rfl)
       have s5 : A.tmps.getD 5 undef = .int .i64 (k : Int) := hold 5 (by kernel_rfl)
       exact aD hi (aM rfl rfl g16) rfl (aR _ s5)
      ·have g17 : A.tmps.getD 28 undef = .bool true := aB hdeps 11 (by kernel_rfl)
       have s32 : A.tmps.getD 32 undef = .slice (some ⟨b, off, none⟩) N capH := aB hdeps 15 (by kernel_rfl)
       have s33 : A.tmps.getD 33 undef = .int .i64 (k : Int) := aB hdeps 16 (by kernel_rfl)
       exact aD hi (aM rfl rfl g17) rfl (eQ _ _ s32 s33 hkN)
      ·have g18 : A.tmps.getD 28 undef = .bool true := aB hdeps 11 (by kernel_rfl)
       have s34 : A.tmps.getD 34 undef = .pointer (some ⟨b, off + k * 12, none⟩) := aB hdeps 17 (by kernel_rfl)
       exact aD hi (aM rfl rfl g18) rfl (f9 (g := x) _ s34 (HRX.out w1 hB))
      ·have g19 : A.tmps.getD 28 undef = .bool true := aB hdeps 11 (by kernel_rfl)
       have s3 : A.tmps.getD 3 undef = .pointer (some ⟨p3, 0, none⟩) := hold 3 (by kernel_rfl)
       exact aD hi (aM rfl rfl g19) rfl (f9 (g := g) _ s3 (bE (HXq.out w1 hB)))
      ·have g20 : A.tmps.getD 28 undef = .bool true := aB hdeps 11 (by kernel_rfl)
       have s35 : A.tmps.getD 35 undef = .agg (bW x) := aB hdeps 18 (by kernel_rfl)
       have s36 : A.tmps.getD 36 undef = .agg (bW g) := aB hdeps 19 (by kernel_rfl)
       exact cF hi (aM rfl rfl g20) rfl (cC 85 _ #[.agg (bW x), .agg (bW g)] _ rfl (by simp only [List.map_toArray, List.map_cons, List.map_nil, show A.eval (.tmp 35) = .agg (bW x) from s35, show A.eval (.tmp 36) = .agg (bW g) from s36]; try rfl) en_togR) (CT.out w1)
      ·have g21 : A.tmps.getD 28 undef = .bool true := aB hdeps 11 (by kernel_rfl)
       have s37 : A.tmps.getD 37 undef = .bool false := aB hdeps 20 (by kernel_rfl)
       exact aD hi (aM rfl rfl g21) rfl (y_not (a := false) _ _ s37)
      ·have s28 : A.tmps.getD 28 undef = .bool true := aB hdeps 11 (by kernel_rfl)
       have s38 : A.tmps.getD 38 undef = .bool true := aB hdeps 21 (by kernel_rfl)
       exact aD hi rfl rfl (dT _ _ _ s28 s38)
     ·intro w10 hB10
      simp only [cA, Act.put, List.setIfInBounds_toArray, List.set_cons_succ, List.set_cons_zero]
      go_wp2_with fail
      go_ret
      exact ⟨by rw [HFA.out]; rfl, HB.out.trans ((HBr.out.trans (hB10.mono HBr.out.size)).mono HB.out.size)⟩
   ·rw [decide_eq_false ek] at hqk
    have HNO2 := aA (HST.out (fun h => ek h.1))
    clear ek HST
    go_wp2_with fail
    refine bD (by kernel_rfl) [(17, .pointer (some ⟨r, 0, none⟩)), (18, .pointer (some ⟨r, 0, none⟩)), (19, .pointer (some ⟨r, 1, none⟩)), (20, .slice (some ⟨b, off, none⟩) N capH), (21, .int .i64 (k : Int)), (22, .pointer (some ⟨b, off + k * 12, none⟩)), (23, .pointer (some ⟨b, off + k * 12 + 3, none⟩)), (24, .agg (aK x.key.1)), (25, .pointer (some ⟨p3, 3, none⟩)), (26, .agg (aK g.key.1)), (27, .bool false), (28, .bool false), (29, undef), (30, undef), (31, undef), (32, undef), (33, undef), (34, undef), (35, undef), (36, undef), (37, undef), (38, undef), (39, .bool false)] (by kernel_rfl) rfl ?_ ?_
    ·intro i o hi A w1 hB hold hdeps
     have hlt : i < 23 := (Array.getElem?_eq_some_iff.1 hi).1
     have hc : i = 0 ∨ i = 1 ∨ i = 2 ∨ i = 3 ∨ i = 4 ∨ i = 5 ∨ i = 6 ∨ i = 7 ∨ i = 8 ∨ i = 9 ∨ i = 10 ∨ i = 11 ∨ i = 12 ∨ i = 13 ∨ i = 14 ∨ i = 15 ∨ i = 16 ∨ i = 17 ∨ i = 18 ∨ i = 19 ∨ i = 20 ∨ i = 21 ∨ i = 22 := by omega
     clear hlt
     rcases hc with rfl|rfl|rfl|rfl|rfl|rfl|rfl|rfl|rfl|rfl|rfl|rfl|rfl|rfl|rfl|rfl|rfl|rfl|rfl|rfl|rfl|rfl|rfl <;> obtain rfl := Option.some.inj hi
     ·have s0 : A.tmps.getD 0 undef = .pointer (some ⟨r, 0, none⟩) := hold 0 (by kernel_rfl)
      exact aD hi rfl rfl (aR _ s0)
     ·have s17 : A.tmps.getD 17 undef = .pointer (some ⟨r, 0, none⟩) := aB hdeps 0 (by kernel_rfl)
      exact aD hi rfl rfl (dY _ s17)
     ·have s18 : A.tmps.getD 18 undef = .pointer (some ⟨r, 0, none⟩) := aB hdeps 1 (by kernel_rfl)
      exact aD hi rfl rfl (k8 _ s18)
     ·have s19 : A.tmps.getD 19 undef = .pointer (some ⟨r, 1, none⟩) := aB hdeps 2 (by kernel_rfl)
      exact aD hi rfl rfl (dF _ s19 (HC.out w1 hB))
     ·have s5 : A.tmps.getD 5 undef = .int .i64 (k : Int) := hold 5 (by kernel_rfl)
      exact aD hi rfl rfl (aR _ s5)
     ·have s20 : A.tmps.getD 20 undef = .slice (some ⟨b, off, none⟩) N capH := aB hdeps 3 (by kernel_rfl)
      have s21 : A.tmps.getD 21 undef = .int .i64 (k : Int) := aB hdeps 4 (by kernel_rfl)
      exact aD hi rfl rfl (eQ _ _ s20 s21 hkN)
     ·have s22 : A.tmps.getD 22 undef = .pointer (some ⟨b, off + k * 12, none⟩) := aB hdeps 5 (by kernel_rfl)
      exact aD hi rfl rfl (fG _ s22)
     ·have s23 : A.tmps.getD 23 undef = .pointer (some ⟨b, off + k * 12 + 3, none⟩) := aB hdeps 6 (by kernel_rfl)
      exact aD hi rfl rfl (fQ (k := x.key) _ s23 (cT x (HRX.out w1 hB)))
     ·have s3 : A.tmps.getD 3 undef = .pointer (some ⟨p3, 0, none⟩) := hold 3 (by kernel_rfl)
      exact aD hi rfl rfl (fG _ s3)
     ·have s25 : A.tmps.getD 25 undef = .pointer (some ⟨p3, 3, none⟩) := aB hdeps 8 (by kernel_rfl)
      exact aD hi rfl rfl (fQ (k := g.key) _ s25 (by simpa using cT g (bE (HXq.out w1 hB))))
     ·have s24 : A.tmps.getD 24 undef = .agg (aK x.key.1) := aB hdeps 7 (by kernel_rfl)
      have s26 : A.tmps.getD 26 undef = .agg (aK g.key.1) := aB hdeps 9 (by kernel_rfl)
      exact aD hi rfl rfl (eE _ _ _ _ _ s24 s26 (hqk w1) (by kernel_rfl))
     ·have s27 : A.tmps.getD 27 undef = .bool false := aB hdeps 10 (by kernel_rfl)
      exact aD hi rfl rfl (aR _ s27)
     ·have g12 : A.tmps.getD 28 undef = .bool false := aB hdeps 11 (by kernel_rfl)
      exact aI hi rfl rfl (fun e => absurd (g12.symm.trans e) (by simp)) rfl
     ·have g13 : A.tmps.getD 28 undef = .bool false := aB hdeps 11 (by kernel_rfl)
      exact aI hi rfl rfl (fun e => absurd (g13.symm.trans e) (by simp)) rfl
     ·have g14 : A.tmps.getD 28 undef = .bool false := aB hdeps 11 (by kernel_rfl)
      exact aI hi rfl rfl (fun e => absurd (g14.symm.trans e) (by simp)) rfl
     ·have g15 : A.tmps.getD 28 undef = .bool false := aB hdeps 11 (by kernel_rfl)
      exact aI hi rfl rfl (fun e => absurd (g15.symm.trans e) (by simp)) rfl
     ·have g16 : A.tmps.getD 28 undef = .bool false := aB hdeps 11 (by kernel_rfl)
      exact aI hi rfl rfl (fun e => absurd (g16.symm.trans e) (by simp)) rfl
     ·have g17 : A.tmps.getD 28 undef = .bool false := aB hdeps 11 (by kernel_rfl)
      exact aI hi rfl rfl (fun e => absurd (g17.symm.trans e) (by simp)) rfl
     ·have g18 : A.tmps.getD 28 undef = .bool false := aB hdeps 11 (by kernel_rfl)
      exact aI hi rfl rfl (fun e => absurd (g18.symm.trans e) (by simp)) rfl
     ·have g19 : A.tmps.getD 28 undef = .bool false := aB hdeps 11 (by kernel_rfl)
      exact aI hi rfl rfl (fun e => absurd (g19.symm.trans e) (by simp)) rfl
     ·have g20 : A.tmps.getD 28 undef = .bool false := aB hdeps 11 (by kernel_rfl)
      exact aI hi rfl rfl (fun e => absurd (g20.symm.trans e) (by simp)) rfl
     ·have g21 : A.tmps.getD 28 undef = .bool false := aB hdeps 11 (by kernel_rfl)
      exact aI hi rfl rfl (fun e => absurd (g21.symm.trans e) (by simp)) rfl
     ·have s28 : A.tmps.getD 28 undef = .bool false := aB hdeps 11 (by kernel_rfl)
      exact aD hi rfl rfl (dB _ _ _ s28 rfl)
    ·intro w10 hB10
     simp only [cA, Act.put, List.setIfInBounds_toArray, List.set_cons_succ, List.set_cons_zero]
     go_wp2_with fail
     go_roundg gf
     case measure => omega
     case rel => exact ⟨k + 1, by omega, by first | rfl | go_num, HNO2, aA (HBr.out.trans (hB10.mono HBr.out.size))⟩
set_option maxHeartbeats 3200000 in
theorem rfirst_any15 (r : Nat) (vL vH vW : Value) (l : List (aS KeyT)) (H W : List (cD KeyT)) (a c : cD KeyT) (u v : aS KeyT) (w : World) (h : iU w r vL vH vW (l.map usR) H W) (hb : dD l) (hu : u ∈ l) (hv : v ∈ l) (e1 : u.tx = a.tx) (e2 : v.tx = c.tx) :
  Calls Tryz.prog 81 #[.pointer (some ⟨r, 0, none⟩), .agg (bW a), .agg (bW c)] w fun e w' => e = .returned (.bool (decide (cQ a.key c.key < 0 ∨ (a.key = c.key ∧ Old u v)))) ∧ Below w.heap.size w w' := by
 have hA0 := aE w (.cells (bW a) 62)
 have hA1 := aE (w.alloc (.cells (bW a) 62)) (.cells (bW c) 62)
 have hB0 := hA0
 have hB1 := hB0.trans (hA1.mono hB0.size)
 have HXp4 : Hid (bZ ((w.alloc (.cells (bW a) 62)).alloc (.cells (bW c) 62)) (w.heap.size) (bW a) 62) := aA ((aN w (bW a) 62).belowI hA1)
 have HXp5 : Hid (bZ ((w.alloc (.cells (bW a) 62)).alloc (.cells (bW c) 62)) (w.heap.size + 1) (bW c) 62) := aA (by have := aN (w.alloc (.cells (bW a) 62)) (bW c) 62; simpa using this)
 have HB := aA hB1
 have HR := aA (h.below HB.out)
 obtain ⟨Z, hZ⟩ : ∃ Z, Z = cQ a.key c.key := ⟨_, rfl⟩
 have CK : Hid (∀ V, Calls Tryz.prog 105 #[.agg (aK a.key.1), .agg (aK c.key.1)] V fun e w' => e = .returned (.int .i64 Z) ∧ Below V.heap.size V w') := aA (fun V => by
  have := rkeys_any a.key.1 c.key.1 V a.key.2.l c.key.2.l a.key.2.b c.key.2.b
  rw [lA a.key.2.l, lA c.key.2.l] at this
  rw [hZ]
  exact this)
 obtain ⟨B, hBo⟩ : ∃ B, B = decide (cQ a.key c.key < 0 ∨ (a.key = c.key ∧ Old u v)) := ⟨_, rfl⟩
 rw [← hBo]
 have HZ0 := aA (f8 a.key c.key)
 rw [← hZ] at HZ0 hBo
 have CO : Hid (∀ V, Below ((w.alloc (.cells (bW a) 62)).alloc (.cells (bW c) 62)).heap.size ((w.alloc (.cells (bW a) 62)).alloc (.cells (bW c) 62)) V → Calls Tryz.prog 38 #[.pointer (some ⟨r, 0, none⟩), aV a.tx, aV c.tx] V fun e w' => e = .returned (.bool (decide (Old u v))) ∧ Below V.heap.size V w') := aA (fun V hV => by
  have := gF r _ _ _ l H W u v V (HR.out.below hV) hb hu hv
  rw [e1, e2] at this
  exact this)
 rcases Int.lt_trichotomy Z 0 with hlt | hlt | hlt
 ·have HBT : Hid (B = true) := aA (by rw [hBo, decide_eq_true (.inl hlt)])
  have hz1 : decide (Z < 0) = true := decide_eq_true hlt
  clear h hb hu hv hZ hBo
  go_enter Tryz.func81, Tryz.ntmps81
  go_wp2_with (first | (refine aO rfl _ (t := 38) rfl (w.heap.size) (3) rfl (bP a.key.1) (by simpa using cT a (bE HXp4.out)) Tryz.underlying38 rfl cE ?_) | (refine aO rfl _ (t := 38) rfl (w.heap.size + 1) (3) rfl (bP c.key.1) (by simpa using cT c (bE HXp5.out)) Tryz.underlying38 rfl cE ?_) | (refine aO rfl _ (t := 34) rfl (w.heap.size) (0) rfl (txE3 a.tx) (fI a (bE HX4.out)) Tryz.underlying34 rfl dL ?_) | (refine aO rfl _ (t := 34) rfl (w.heap.size + 1) (0) rfl (txE3 c.tx) (fI c (bE HX5.out)) Tryz.underlying34 rfl dL ?_) | (go_at_call 105; refine (CK.out _).mono ?_; rintro e w4 ⟨rfl, hB4⟩; have HX4 := aA (HXp4.out.belowI hB4); have HX5 := aA (HXp5.out.belowI hB4); have HB4 := aA hB4; clear hB4))
  all_goals go_ret
  all_goals exact ⟨by rw [HBT.out]; rfl, HB.out.trans (HB4.out.mono HB.out.size)⟩
 ·obtain ⟨O, hO⟩ : ∃ O, O = decide (Old u v) := ⟨_, rfl⟩
  have HBT : Hid (B = O) := aA (by
   rw [hBo, hO]
   have e3 := (HZ0.out).1 hlt
   have e4 : ¬ Z < 0 := by omega
   rw [Bool.eq_iff_iff, decide_eq_true_eq, decide_eq_true_eq]
   exact ⟨fun h => (h.resolve_left e4).2, fun h => .inr ⟨e3, h⟩⟩)
  rw [← hO] at CO
  subst hlt
  clear h hb hu hv hZ hBo hO
  go_enter Tryz.func81, Tryz.ntmps81
  go_wp2_with (first | (refine aO rfl _ (t := 38) rfl (w.heap.size) (3) rfl (bP a.key.1) (by simpa using cT a (bE HXp4.out)) Tryz.underlying38 rfl cE ?_) | (refine aO rfl _ (t := 38) rfl (w.heap.size + 1) (3) rfl (bP c.key.1) (by simpa using cT c (bE HXp5.out)) Tryz.underlying38 rfl cE ?_) | (refine aO rfl _ (t := 34) rfl (w.heap.size) (0) rfl (txE3 a.tx) (fI a (bE HX4.out)) Tryz.underlying34 rfl dL ?_) | (refine aO rfl _ (t := 34) rfl (w.heap.size + 1) (0) rfl (txE3 c.tx) (fI c (bE HX5.out)) Tryz.underlying34 rfl dL ?_) | (go_at_call 105; refine (CK.out _).mono ?_; rintro e w4 ⟨rfl, hB4⟩; have HX4 := aA (HXp4.out.belowI hB4); have HX5 := aA (HXp5.out.belowI hB4); have HB4 := aA hB4; clear hB4) | (go_at_call 38; refine (CO.out _ HB4.out).mono ?_; rintro e w5 ⟨rfl, hB5⟩; have HB5 := aA (HB4.out.trans (hB5.mono HB4.out.size)); clear hB5))
  all_goals go_ret
  all_goals exact ⟨by rw [HBT.out]; rfl, HB.out.trans (HB5.out.mono HB.out.size)⟩
 ·have HBT : Hid (B = false) := aA (by
   rw [hBo, decide_eq_false]
   rintro (h | ⟨h, _⟩)
   ·omega
   ·have := HZ0.out.2 h
    omega)
  have hz1 : decide (Z < 0) = false := decide_eq_false (by omega)
  have hz2 : ¬ Z < 0 := by omega
  have hz3 : ¬ Z = 0 := by omega
  clear h hb hu hv hZ hBo
  go_enter Tryz.func81, Tryz.ntmps81
  go_wp2_with (first | (refine aO rfl _ (t := 38) rfl (w.heap.size) (3) rfl (bP a.key.1) (by simpa using cT a (bE HXp4.out)) Tryz.underlying38 rfl cE ?_) | (refine aO rfl _ (t := 38) rfl (w.heap.size + 1) (3) rfl (bP c.key.1) (by simpa using cT c (bE HXp5.out)) Tryz.underlying38 rfl cE ?_) | (refine aO rfl _ (t := 34) rfl (w.heap.size) (0) rfl (txE3 a.tx) (fI a (bE HX4.out)) Tryz.underlying34 rfl dL ?_) | (refine aO rfl _ (t := 34) rfl (w.heap.size + 1) (0) rfl (txE3 c.tx) (fI c (bE HX5.out)) Tryz.underlying34 rfl dL ?_) | (go_at_call 105; refine (CK.out _).mono ?_; rintro e w4 ⟨rfl, hB4⟩; have HX4 := aA (HXp4.out.belowI hB4); have HX5 := aA (HXp5.out.belowI hB4); have HB4 := aA hB4; clear hB4))
  all_goals go_ret
  all_goals exact ⟨by rw [HBT.out]; rfl, HB.out.trans (HB4.out.mono HB.out.size)⟩
end
section
open Go.RowKit
section
variable {α : Type} {t e : TypeId} {K : Nat} {enc : α → List Value}
structure InsR (t e : TypeId) (K : Nat) (enc : α → List Value) (W W0 : World) (vx vz : Value) (xs zs : List α) (y : α) (cs : Array Value) (t' : TypeId) (lit : Bool) (p : Nat) (a1 : Option Addr) (n1 c1 : Nat) (wA : World) (a2 : Option Addr) (n2 c2 : Nat) (wB : World) (a3 : Option Addr) (n3 c3 : Nat) (wC : World) : Prop where
 r1 : ∀ ty, (appH #[t, t] ty #[.slice none 0 0, vx]).run Tryz.prog W0 = .ok (.slice a1 n1 c1) wA
 r2 : ∀ ty, (appH #[t, t] ty #[.slice a1 n1 c1, .slice (some ⟨p, 0, none⟩) 1 1]).run Tryz.prog (if lit then wA.alloc (.cells cs t') else wA) = .ok (.slice a2 n2 c2) wB
 r3 : ∀ ty, (appH #[t, t] ty #[.slice a2 n2 c2, vz]).run Tryz.prog wB = .ok (.slice a3 n3 c3) wC
 n : n3 = (xs ++ [y] ++ zs).length
 own : wC.ownsRow W.heap.size e K (.slice a3 n3 c3) n3 (bR enc (xs ++ [y] ++ zs))
 b1 : Below W.heap.size W wA
 b2 : Below W.heap.size W wB
 b3 : Below W.heap.size W wC
theorem kH (R : Rec t e K enc) (W : World) (vx vz : Value) (xs zs : List α) (y : α) (cs : Array Value) (hcs : cs.toList = enc y) (t' : TypeId) (hx : bI enc W vx xs) (hz : bI enc W vz zs) (h1 : ∀ x, ∀ u ∈ enc x, u.oneCell' = true) (hb : xs.length + zs.length ≤ 900000) :
  ∃ a1 n1 c1 wA a2 n2 c2 wB a3 n3 c3 wC p, p = wA.heap.size ∧ InsR t e K enc W W.drew vx vz xs zs y cs t' true p a1 n1 c1 wA a2 n2 c2 wB a3 n3 c3 wC := by
 have hBd : Below W.heap.size W W.drew := (Below.refl _ _).drew
 obtain ⟨v1, wA, r1, o1, g1, _⟩ := dV R W.drew W.heap.size (.slice none 0 0) vx [] xs (World.ownsRow_nil _ _ _ _) (hx.below hBd) (fun x _ => h1 x) (by simp; omega) (Nat.le_refl _)
 rw [List.nil_append] at o1
 have hBA : Below W.heap.size W wA := hBd.grown g1 (Nat.le_refl _) (fun k hk => by cases hk)
 have hAL := aE wA (.cells cs t')
 have hB' := hBA.trans (hAL.mono hBA.size)
 obtain ⟨v2, wB, r2, o2, g2, _⟩ := dV R (wA.alloc (.cells cs t')) W.heap.size v1 (.slice (some ⟨wA.heap.size, 0, none⟩) 1 1) xs [y] (aJ o1 (aC.of_below (fun _ => False) hAL) (fun _ _ h => h)) (dK (enc := enc) wA y cs hcs t') (fun x _ => h1 x) (by simp; omega) hB'.size
 have hBB : Below W.heap.size W wB := hB'.grown g2 hB'.size (fun j hj => (o1.lt j hj).1)
 obtain ⟨v3, wC, r3, o3, g3, _⟩ := dV R wB W.heap.size v2 vz (xs ++ [y]) zs o2 (hz.below hBB) (fun x _ => h1 x) (by simp; omega) hBB.size
 have hBC : Below W.heap.size W wC := hBB.grown g3 hBB.size (fun j hj => (o2.lt j hj).1)
 obtain ⟨a1, c1, e1, _⟩ := aQ o1
 obtain ⟨a2, c2, e2, _⟩ := aQ o2
 obtain ⟨a3, c3, e3, _⟩ := aQ o3
 subst e1 e2 e3
 exact ⟨a1, _, c1, wA, a2, _, c2, wB, a3, _, c3, wC, _, rfl, ⟨r1, r2, r3, rfl, o3, hBA, hBB, hBC⟩⟩
theorem kI (R : Rec t e K enc) (W : World) (vx vz : Value) (xs zs : List α) (y : α) (cs : Array Value) (hcs : cs.toList = enc y) (t' : TypeId) (hx : bI enc W vx xs) (hz : bI enc W vz zs) (h1 : ∀ x, ∀ u ∈ enc x, u.oneCell' = true) (hb : xs.length + zs.length ≤ 900000) :
  ∃ a1 n1 c1 wA a2 n2 c2 wB a3 n3 c3 wC, InsR t e K enc W (W.alloc (.cells cs t')).drew vx vz xs zs y cs t' false W.heap.size a1 n1 c1 wA a2 n2 c2 wB a3 n3 c3 wC := by
 have hAL := aE W (.cells cs t')
 have hBd : Below W.heap.size W (W.alloc (.cells cs t')).drew := hAL.drew
 have hsz : W.heap.size < (W.alloc (.cells cs t')).drew.heap.size := by simp
 have hy : bI enc (W.alloc (.cells cs t')).drew (.slice (some ⟨W.heap.size, 0, none⟩) 1 1) [y] := (dK (enc := enc) W y cs hcs t').below (aG _)
 obtain ⟨v1, wA, r1, o1, g1, _⟩ := dV R (W.alloc (.cells cs t')).drew (W.alloc (.cells cs t')).drew.heap.size (.slice none 0 0) vx [] xs (World.ownsRow_nil _ _ _ _) (hx.below hBd) (fun x _ => h1 x) (by simp; omega) (Nat.le_refl _)
 rw [List.nil_append] at o1
 have hBA : Below W.heap.size W wA := hBd.grown g1 hBd.size (fun k hk => by cases hk)
 have hA2 : Below (W.alloc (.cells cs t')).drew.heap.size (W.alloc (.cells cs t')).drew wA := (Below.refl _ _).grown g1 (Nat.le_refl _) (fun k hk => by cases hk)
 have o1' := bQ o1 hBd.size
 obtain ⟨v2, wB, r2, o2, g2, _⟩ := dV R wA (W.alloc (.cells cs t')).drew.heap.size v1 (.slice (some ⟨W.heap.size, 0, none⟩) 1 1) xs [y] o1 (hy.below hA2) (fun x _ => h1 x) (by simp; omega) hA2.size
 have hBB : Below W.heap.size W wB := hBA.grown g2 hBA.size (fun j hj => (o1'.lt j hj).1)
 have hB2 : Below (W.alloc (.cells cs t')).drew.heap.size (W.alloc (.cells cs t')).drew wB := hA2.grown g2 hA2.size (fun j hj => (o1.lt j hj).1)
 obtain ⟨v3, wC, r3, o3, g3, _⟩ := dV R wB (W.alloc (.cells cs t')).drew.heap.size v2 vz (xs ++ [y]) zs o2 (hz.below hBB) (fun x _ => h1 x) (by simp; omega) hB2.size
 have hBC : Below W.heap.size W wC := hBB.grown g3 hBB.size (fun j hj => Nat.le_trans hBd.size (o2.lt j hj).1)
 obtain ⟨a1, c1, e1, _⟩ := aQ o1
 obtain ⟨a2, c2, e2, _⟩ := aQ o2
 obtain ⟨a3, c3, e3, _⟩ := aQ o3
 subst e1 e2 e3
 exact ⟨a1, _, c1, wA, a2, _, c2, wB, a3, _, c3, wC, ⟨r1, r2, r3, rfl, bQ o3 hBd.size, hBA, hBB, hBC⟩⟩
theorem del_run (R : Rec t e K enc) (W : World) (vx vz : Value) (xs zs : List α) (hx : bI enc W vx xs) (hz : bI enc W vz zs) (h1 : ∀ x, ∀ u ∈ enc x, u.oneCell' = true) (hb : xs.length + zs.length ≤ 900000) :
  ∃ a1 n1 c1 wA a2 n2 c2 wB, (∀ ty, (appH #[t, t] ty #[.slice none 0 0, vx]).run Tryz.prog W.drew = .ok (.slice a1 n1 c1) wA) ∧ (∀ ty, (appH #[t, t] ty #[.slice a1 n1 c1, vz]).run Tryz.prog wA = .ok (.slice a2 n2 c2) wB) ∧
   n2 = (xs ++ zs).length ∧ wB.ownsRow W.heap.size e K (.slice a2 n2 c2) n2 (bR enc (xs ++ zs)) ∧ Below W.heap.size W wA ∧ Below W.heap.size W wB := by
 have hBd : Below W.heap.size W W.drew := (Below.refl _ _).drew
 obtain ⟨v1, wA, r1, o1, g1, _⟩ := dV R W.drew W.heap.size (.slice none 0 0) vx [] xs (World.ownsRow_nil _ _ _ _) (hx.below hBd) (fun x _ => h1 x) (by simp; omega) (Nat.le_refl _)
 rw [List.nil_append] at o1
 have hBA : Below W.heap.size W wA := hBd.grown g1 (Nat.le_refl _) (fun k hk => by cases hk)
 obtain ⟨v2, wB, r2, o2, g2, _⟩ := dV R wA W.heap.size v1 vz xs zs o1 (hz.below hBA) (fun x _ => h1 x) (by omega) hBA.size
 have hBB : Below W.heap.size W wB := hBA.grown g2 hBA.size (fun j hj => (o1.lt j hj).1)
 obtain ⟨a1, c1, e1, _⟩ := aQ o1
 obtain ⟨a2, c2, e2, _⟩ := aQ o2
 subst e1 e2
 exact ⟨a1, _, c1, wA, a2, _, c2, wB, r1, r2, rfl, o2, hBA, hBB⟩
end
end
end Go.Proofs.YtiloagmkkhlfjaaGreat
