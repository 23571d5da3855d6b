/-
  Own texts put together: IdRef3, LrKit, LrRead. Own work.
-/
import Derived.Test.YtiloagmkkhlfjaaGreatG30
import Derived.Test.YtiloagmkkhlfjaaGreatG08
import Derived.Test.YtiloagmkkhlfjaaGreatG13
import Derived.BigRegion
import Derived.Deep.LoopGhost
import Derived.Deep.QuietTactic
import Derived.BigQuiet
import Derived.Deep.RegionHeld
namespace Go.Proofs.YtiloagmkkhlfjaaGreat
set_option maxRecDepth 100000
section
open Go.RowKit
theorem owns_lt' {w : World} {base e size n : Nat} {v : Value} {xs : List Value} (h : w.ownsRow base e size v n xs) {g : Nat} (hg : v.ownBlock = some g) : g < w.heap.size := (h.lt g hg).2
structure Rows2 (base : Nat) (w : World) (v1 v2 : Value) (xs ys : List Int) : Prop where
 o1 : w.ownsRow base 32 1 v1 xs.length (xs.map (Value.int .u32))
 o2 : w.ownsRow base 32 1 v2 ys.length (ys.map (Value.int .u32))
 ne : ∀ g, v1.ownBlock = some g → v2.ownBlock ≠ some g
theorem owns_kept_ne {w w' : World} {base e size n : Nat} {v : Value} {xs : List Value} {row : Option Nat} (h : w.ownsRow base e size v n xs) (hg : w.grownBy w' row) (hne : ∀ g, v.ownBlock = some g → row ≠ some g) : w'.ownsRow base e size v n xs := by
 obtain ⟨hl, h0 | ⟨g, cap, cur, rfl, hb, hh, r⟩⟩ := h
 ·exact ⟨hl, .inl h0⟩
 ·exact ⟨hl, .inr ⟨g, cap, cur, rfl, hb, (hg.block g (Array.getElem?_eq_some_iff.1 hh).1 (fun e => hne g rfl e.symm)).trans hh, r⟩⟩
set_option maxHeartbeats 1600000 in
theorem rkeys_any (a b : List Int) (w : World) (ha : a.length = 8) (hb : b.length = 8) (hx : ∀ c ∈ a, 0 ≤ c ∧ c < 256) (hy : ∀ c ∈ b, 0 ≤ c ∧ c < 256) : Calls Tryz.prog 105 #[.agg (aY a), .agg (aY b)] w fun e w' => e = .returned (.int .i64 (dW a b)) ∧ Below w.heap.size w w' := by
 obtain ⟨i0, hi, hz0, hz1, hz2⟩ := info_parts info32
 have HA0 : Hid (bZ ((w.alloc (.cells (aY a) 38)).alloc (.cells (aY b) 38)) w.heap.size (aY a) 38) := aA ((aN w _ _).belowI ((Below.refl _ _).alloc (Nat.le_refl _) _))
 have HB0 : Hid (bZ ((w.alloc (.cells (aY a) 38)).alloc (.cells (aY b) 38)) (w.heap.size + 1) (aY b) 38) := aA (by
  have := aN (w.alloc (.cells (aY a) 38)) (aY b) 38
  rw [World.size_alloc] at this
  exact this)
 have HW0 := aA (((Below.refl w.heap.size w).alloc (Nat.le_refl _) (.cells (aY a) 38)).alloc (by simp) (.cells (aY b) 38))
 have hs0 : ((w.alloc (.cells (aY a) 38)).alloc (.cells (aY b) 38)).heap.size = w.heap.size + 2 := by simp
 have HS0 := aA hs0
 have HX := aA hx
 have HY := aA hy
 have HA := aA ha
 have HB := aA hb
 have CF := aA (fun v1 v2 w h1 h2 => first_any a b v1 v2 w h1 h2 (by rw [ha, hb]) (by omega))
 clear hx hy ha hb hs0
 generalize hca : aY a = ca at *
 generalize hcb : aY b = cb at *
 have HCA := aA hca
 have HCB := aA hcb
 clear hca hcb
 go_enter Tryz.func105, Tryz.ntmps105
 go_wp2
 generalize hW0 : (w.alloc (.cells ca 38)).alloc (.cells cb 38) = W0 at *
 clear hW0
 go_loopw [5, 6, 7] (fun v1 v2 i wr => ∃ k : Nat, k ≤ 8 ∧ i = .int .i64 k ∧ Hid (Rows2 W0.heap.size wr v1 v2 (a.take k) (b.take k)) ∧ Hid (Below W0.heap.size W0 wr)) (fun _ _ i _ => 8 - (intOf i).toNat)
 case atStart => exact ⟨0, by omega, rfl, aA ⟨World.ownsRow_nil _ _ _ _, World.ownsRow_nil _ _ _ _, fun g hg => by cases hg⟩, aA (Below.refl _ _)⟩
 case round =>
  obtain ⟨k, hk, rfl, HR, HBW⟩ := hrel
  by_cases hlt : k < 8
  ·have hkI : (k : Int) < 8 := by omega
   have hla : k < a.length := by have := HA.out; omega
   have hlb : k < b.length := by have := HB.out; omega
   have c1 : wr.cell? ⟨w.heap.size, k, none⟩ = some (.int .u8 (a.getD k 0)) := (HA0.out.belowI HBW.out).cell k _ (by rw [← HCA.out]; simp [aY, List.getD, hla])
   have HYE : Hid (cb[k]? = some (.int .u8 (b.getD k 0))) := aA (by rw [← HCB.out]; simp [aY, List.getD, hlb])
   have hxa := HX.out (a.getD k 0) (by simp [List.getD, hla])
   have hyb := HY.out (b.getD k 0) (by simp [List.getD, hlb])
   have hv1 := wrap32_u8 hxa.1 hxa.2
   have hv2 := wrap32_u8 hyb.1 hyb.2
   have HT1 : Hid (a.take (k + 1) = a.take k ++ [a.getD k 0]) := aA (by rw [List.take_succ_eq_append_getElem hla]; simp [List.getD, hla])
   have HT2 : Hid (b.take (k + 1) = b.take k ++ [b.getD k 0]) := aA (by rw [List.take_succ_eq_append_getElem hlb]; simp [List.getD, hlb])
   have HLA : Hid ((a.take k).length = k) := aA (by simp; omega)
   have HLB : Hid ((b.take k).length = k) := aA (by simp; omega)
   have ho1 := HR.out.o1
   have ho2 := HR.out.o2
   rw [HLA.out] at ho1
   rw [HLB.out] at ho2
   have HO1 := aA ho1
   have HO2 := aA ho2
   have HNE := aA HR.out.ne
   have HSZ := aA HBW.out.size
   clear ho1 ho2 HR hxa hyb
   generalize a.getD k 0 = x at *
   generalize b.getD k 0 = y at *
   go_wp2_with (first
    | (at_builtin; refine wpList_append_own_at _ rfl _ _ 140 rfl W0.heap.size 32 i0 (.int .u32 0) 1 4 Tryz.underlying140 hi hz0 hz1 hz2 rfl (by decide) _ k _ rfl (HO1.out.alloc _) ⟨wr.heap.size, 0, none⟩ 1 1 [.int .u32 x] rfl rfl (cell_one_new _ _ _) (ints_oneCell .u32 [x]) (by unfold maxLen; omega) (by omega) (by have := HSZ.out; simp; omega) ?_; intro v1' w1 ho1' hg1 hn1 hat1; have hB1 := (HBW.out.alloc HSZ.out (.cells #[.int .u32 x] 32)).grown hg1 (by have := HSZ.out; simp; omega) (fun g hg => (HO1.out.lt g hg).1); have c2 := (HB0.out.belowI hB1).cell k _ HYE.out; have HO2' := aA (owns_kept_ne (HO2.out.alloc (.cells #[.int .u32 x] 32)) hg1 (fun g hg e => HNE.out g e hg)); have HO1' := aA ho1'; have HAT1 := aA hat1; have HB1 := aA hB1; have HSZ1 := aA hB1.size; have HLT1 := aA (fun g (hg : u5.ownBlock = some g) => Nat.lt_of_lt_of_le (owns_lt' HO1.out hg) (Nat.le_refl _)); have HG1 := aA hg1; clear ho1' hg1 hn1 hat1 HO1 hB1)
    | (at_builtin; refine wpList_append_own_at _ rfl _ _ 140 rfl W0.heap.size 32 i0 (.int .u32 0) 1 4 Tryz.underlying140 hi hz0 hz1 hz2 rfl (by decide) _ k _ rfl (HO2'.out.alloc _) ⟨w1.heap.size, 0, none⟩ 1 1 [.int .u32 y] rfl rfl (cell_one_new _ _ _) (ints_oneCell .u32 [y]) (by unfold maxLen; omega) (by omega) (by have := HSZ1.out; simp; omega) ?_; intro v2' w2 ho2' hg2 hn2 hat2; have HB2 := aA ((HB1.out.alloc HSZ1.out (.cells #[.int .u32 y] 32)).grown hg2 (by have := HSZ1.out; simp; omega) (fun g hg => (HO2'.out.lt g hg).1)); have HO2'' := aA ho2'; have HG2 := aA hg2; have HAT2 := aA hat2; clear ho2' hg2 hn2 hat2)
    | go_in)
   have h6lt : ∀ g, u6.ownBlock = some g → g < wr.heap.size := fun g hg => owns_lt' HO2.out hg
   have h1lt : ∀ g, v1'.ownBlock = some g → g < w1.heap.size := fun g hg => owns_lt' HO1'.out hg
   have hapart : ∀ g, v1'.ownBlock = some g → u6.ownBlock ≠ some g := fun g hg e => by
    rcases HAT1.out with h | h
    ·exact HNE.out g (h ▸ hg) e
    ·rw [h] at hg
     have := h6lt g e
     simp at hg
     omega
   have hR : Rows2 W0.heap.size w2 v1' v2' (a.take (k + 1)) (b.take (k + 1)) := by
    refine ⟨?_, ?_, fun g hg e => ?_⟩
    ·rw [HT1.out, List.map_append, List.length_append, HLA.out]
     exact owns_kept_ne (HO1'.out.alloc (.cells #[.int .u32 y] 32)) HG2.out (fun g hg e => hapart g hg e)
    ·rw [HT2.out, List.map_append, List.length_append, HLB.out]
     exact HO2''.out
    ·rcases HAT2.out with h | h
     ·exact hapart g hg (h ▸ e)
     ·rw [h] at e
      have := h1lt g hg
      simp at e
      omega
   go_roundw
   case rel => exact ⟨k + 1, by omega, by go_num, aA hR, HB2⟩
   case measure => simp [intOf]; omega
  ·have hge : decide ((k : Int) < 8) = false := decide_eq_false (by omega)
   obtain rfl : k = 8 := by omega
   have HL1 := aA (cX.of_own HR.out.o1)
   have HL2 := aA (cX.of_own HR.out.o2)
   rw [show a.take 8 = a from List.take_of_length_le (by have := HA.out; omega)] at HL1
   rw [show b.take 8 = b from List.take_of_length_le (by have := HB.out; omega)] at HL2
   have HBR := aA (HW0.out.trans (HBW.out.mono HW0.out.size))
   go_wp2_with (go_at_call 99; refine (CF.out _ _ _ HL1.out HL2.out).mono ?_; rintro e' w3 ⟨rfl, n3, rfl⟩)
   go_ret
   exact ⟨rfl, jP HBR.out⟩
end
section
open Go.RowKit Go.Maps Classical
abbrev urA (x : UsR) : Array Value := #[.int .u32 (x.tm : Int), .int .u8 (x.tx.1 : Int), .int .u32 (x.tx.2.1 : Int), .int .u32 (x.tx.2.2 : Int), .bool x.pr]
def urE (x : UsR) : List Value := (urA x).toList
theorem eJ : Rec 25 83 5 urE := ⟨Tryz.underlying25, jC (z := .agg #[.int .u32 0, .int .u8 0, .int .u32 0, .int .u32 0, .bool false]) (K := 5) (B := 20) (by kernel_rfl) rfl (by decide), by decide, fun _ => rfl⟩
abbrev zGR : Array Value := #[.int .u8 0, .int .u32 0, .int .u32 0, .int .u8 0, .int .u8 0, .int .u8 0, .int .u8 0, .int .u8 0, .int .u8 0, .int .u8 0, .int .u8 0, .int .u8 0]
theorem dJ : Rec 26 62 12 gtE := ⟨Tryz.underlying26, jC (z := .agg zGR) (K := 12) (B := 24) (by kernel_rfl) rfl (by decide), by decide, fun _ => rfl⟩
theorem jJ (x : cD KeyT) : List.foldl (fun (cs : Array Value) (x : Value × Nat) => cs.setIfInBounds x.snd x.fst) #[.int .u8 0, .int .u32 0, .int .u32 0, .int .u8 0, .int .u8 0, .int .u8 0, .int .u8 0, .int .u8 0, .int .u8 0, .int .u8 0, .int .u8 0, .int .u8 0] (gtE x).zipIdx = (gtE x).toArray := by kernel_rfl
theorem kY (x : cD KeyT) : (gtE x).length = 12 := rfl
abbrev txE3 (t : TxN) : List Value := txCs (txI t)
theorem dP : Rec 42 34 3 txE3 := ⟨Tryz.underlying42, jC (z := .agg #[.int .u8 0, .int .u32 0, .int .u32 0]) (K := 3) (B := 12) (by kernel_rfl) rfl (by decide), by decide, fun _ => rfl⟩
theorem ur_one (x : UsR) : ∀ u ∈ urE x, u.oneCell' = true := fun u hu => by
 unfold urE at hu
 simp only [List.mem_cons, List.not_mem_nil, or_false] at hu
 rcases hu with rfl | rfl | rfl | rfl | rfl <;> rfl
theorem gS (x : cD KeyT) : ∀ u ∈ gtE x, u.oneCell' = true := fun u hu => by
 unfold gtE at hu
 simp only [List.mem_cons, List.not_mem_nil, or_false] at hu
 rcases hu with rfl | rfl | rfl | rfl | rfl | rfl | rfl | rfl | rfl | rfl | rfl | rfl <;> rfl
theorem kZ (t : TxN) : ∀ u ∈ txE3 t, u.oneCell' = true := fun u hu => by
 simp only [List.mem_cons, List.not_mem_nil, or_false] at hu
 rcases hu with rfl | rfl | rfl <;> rfl
theorem dL : (Tryz.prog.info? 34).map (·.size) = some 3 := by kernel_rfl
theorem cE : (Tryz.prog.info? 38).map (·.size) = some 8 := by kernel_rfl
theorem infoStR : (Tryz.prog.info? 36).map (·.size) = some 4 := by kernel_rfl
theorem bS : (Tryz.prog.info? 62).map (·.size) = some 12 := by kernel_rfl
theorem bM : (Tryz.prog.info? 50).map (·.size) = some 2 := by kernel_rfl
theorem eql_txR (a b : TxN) (W : World) : (binOp .eql 34 (aV a) (aV b)).run Tryz.prog W = .ok (.bool (decide (a = b))) W := by
 refine (eql_tx _ _ _ _ _ _ W).trans ?_
 congr 2
 obtain ⟨a1, a2, a3⟩ := a
 obtain ⟨b1, b2, b3⟩ := b
 rw [Bool.eq_iff_iff]
 simp [and_assoc, Int.ofNat_inj]
theorem neq_txR (a b : TxN) (W : World) : (binOp .neq 34 (aV a) (aV b)).run Tryz.prog W = .ok (.bool (!decide (a = b))) W := by
 refine (neq_tx _ _ _ _ _ _ W).trans ?_
 congr 2
 obtain ⟨a1, a2, a3⟩ := a
 obtain ⟨b1, b2, b3⟩ := b
 congr 1
 rw [Bool.eq_iff_iff]
 simp [and_assoc, Int.ofNat_inj]
theorem jT {k : List Int} (h : k.length = 8) : [aZ k 0, aZ k 1, aZ k 2, aZ k 3, aZ k 4, aZ k 5, aZ k 6, aZ k 7] = k := by
 match k, h with
 | [_, _, _, _, _, _, _, _], _ => rfl
theorem kG (a b : KeyT) (W : World) : (binOp .eql 38 (.agg (aK a.1)) (.agg (aK b.1))).run Tryz.prog W = .ok (.bool (decide (a = b))) W := by
 refine (eqli_key _ _ _ _ _ _ _ _ _ _ _ _ _ _ _ _ W).trans ?_
 rw [jT a.2.l, jT b.2.l]
 congr 2
 rw [Bool.eq_iff_iff, decide_eq_true_eq, decide_eq_true_eq]
 exact ⟨Subtype.ext, fun h => congrArg _ h⟩
theorem neq_keyR (a b : KeyT) (W : World) : (binOp .neq 38 (.agg (aK a.1)) (.agg (aK b.1))).run Tryz.prog W = .ok (.bool (!decide (a = b))) W := by
 refine (neqi_key _ _ _ _ _ _ _ _ _ _ _ _ _ _ _ _ W).trans ?_
 rw [jT a.2.l, jT b.2.l]
 congr 2
 congr 1
 rw [Bool.eq_iff_iff, decide_eq_true_eq, decide_eq_true_eq]
 exact ⟨Subtype.ext, fun h => congrArg _ h⟩
section
variable {ρ : Operand → Value} {w : World} {dst : Option Tmp} {ty : TypeId} {pos : String} {aft : Array Edge} {gd : Option (Nat × Bool)}
theorem gV (x : Operand) {p o : Nat} (hx : ρ x = .pointer (some ⟨p, o, none⟩)) : (execOp ρ ⟨dst, .fieldAddr 28 x 0, ty, pos, aft, gd⟩).run Tryz.prog w = .ok (.value (.pointer (some ⟨p, o, none⟩))) w := by simp [go_sem, hx]
theorem k8 (x : Operand) {p o : Nat} (hx : ρ x = .pointer (some ⟨p, o, none⟩)) : (execOp ρ ⟨dst, .fieldAddr 28 x 1, ty, pos, aft, gd⟩).run Tryz.prog w = .ok (.value (.pointer (some ⟨p, o + 1, none⟩))) w := by simp [go_sem, hx]
theorem fU (x : Operand) {p o : Nat} (hx : ρ x = .pointer (some ⟨p, o, none⟩)) : (execOp ρ ⟨dst, .fieldAddr 28 x 2, ty, pos, aft, gd⟩).run Tryz.prog w = .ok (.value (.pointer (some ⟨p, o + 2, none⟩))) w := by simp [go_sem, hx]
theorem yr_us0 (x : Operand) {p o : Nat} (hx : ρ x = .pointer (some ⟨p, o, none⟩)) : (execOp ρ ⟨dst, .fieldAddr 83 x 0, ty, pos, aft, gd⟩).run Tryz.prog w = .ok (.value (.pointer (some ⟨p, o, none⟩))) w := by simp [go_sem, hx]
theorem yr_us1 (x : Operand) {p o : Nat} (hx : ρ x = .pointer (some ⟨p, o, none⟩)) : (execOp ρ ⟨dst, .fieldAddr 83 x 1, ty, pos, aft, gd⟩).run Tryz.prog w = .ok (.value (.pointer (some ⟨p, o + 4, none⟩))) w := by simp [go_sem, hx]
theorem yr_st1 (x : Operand) {p o : Nat} (hx : ρ x = .pointer (some ⟨p, o, none⟩)) : (execOp ρ ⟨dst, .fieldAddr 36 x 1, ty, pos, aft, gd⟩).run Tryz.prog w = .ok (.value (.pointer (some ⟨p, o + 1, none⟩))) w := by simp [go_sem, hx]
theorem iJ (x : Operand) {p o : Nat} (hx : ρ x = .pointer (some ⟨p, o, none⟩)) : (execOp ρ ⟨dst, .fieldAddr 62 x 0, ty, pos, aft, gd⟩).run Tryz.prog w = .ok (.value (.pointer (some ⟨p, o, none⟩))) w := by simp [go_sem, hx]
theorem fG (x : Operand) {p o : Nat} (hx : ρ x = .pointer (some ⟨p, o, none⟩)) : (execOp ρ ⟨dst, .fieldAddr 62 x 1, ty, pos, aft, gd⟩).run Tryz.prog w = .ok (.value (.pointer (some ⟨p, o + 3, none⟩))) w := by simp [go_sem, hx]
theorem yr_gt2 (x : Operand) {p o : Nat} (hx : ρ x = .pointer (some ⟨p, o, none⟩)) : (execOp ρ ⟨dst, .fieldAddr 62 x 2, ty, pos, aft, gd⟩).run Tryz.prog w = .ok (.value (.pointer (some ⟨p, o + 11, none⟩))) w := by simp [go_sem, hx]
theorem eY (x : Operand) {p o : Nat} {v : Value} (hx : ρ x = .pointer (some ⟨p, o, none⟩)) (hc : w.cell? ⟨p, o, none⟩ = some v) : (execOp ρ ⟨dst, .load 25 x, ty, pos, aft, gd⟩).run Tryz.prog w = .ok (.value v) w := by simp [go_sem, hx, hc]
theorem dF (x : Operand) {p o : Nat} {v : Value} (hx : ρ x = .pointer (some ⟨p, o, none⟩)) (hc : w.cell? ⟨p, o, none⟩ = some v) : (execOp ρ ⟨dst, .load 26 x, ty, pos, aft, gd⟩).run Tryz.prog w = .ok (.value v) w := by simp [go_sem, hx, hc]
theorem yc_bool (x : Operand) {p o : Nat} {v : Value} (hx : ρ x = .pointer (some ⟨p, o, none⟩)) (hc : w.cell? ⟨p, o, none⟩ = some v) : (execOp ρ ⟨dst, .load 4 x, ty, pos, aft, gd⟩).run Tryz.prog w = .ok (.value v) w := by simp [go_sem, hx, hc]
theorem yc_u8 (x : Operand) {p o : Nat} {v : Value} (hx : ρ x = .pointer (some ⟨p, o, none⟩)) (hc : w.cell? ⟨p, o, none⟩ = some v) : (execOp ρ ⟨dst, .load 5 x, ty, pos, aft, gd⟩).run Tryz.prog w = .ok (.value v) w := by simp [go_sem, hx, hc]
theorem k9 (x y : Operand) {b off n c j : Nat} (hx : ρ x = .slice (some ⟨b, off, none⟩) n c) (hy : ρ y = .int .i64 (j : Int)) (h : j < n) : (execOp ρ ⟨dst, .indexAddr 25 x y, ty, pos, aft, gd⟩).run Tryz.prog w = .ok (.value (.pointer (some ⟨b, off + j * 5, none⟩))) w := by
 have h1 : (0 : Int) ≤ (j : Int) := by omega
 have h2 : (j : Int) < (n : Int) := by omega
 simp [go_sem, hx, hy, h1, h2]
theorem eQ (x y : Operand) {b off n c j : Nat} (hx : ρ x = .slice (some ⟨b, off, none⟩) n c) (hy : ρ y = .int .i64 (j : Int)) (h : j < n) : (execOp ρ ⟨dst, .indexAddr 26 x y, ty, pos, aft, gd⟩).run Tryz.prog w = .ok (.value (.pointer (some ⟨b, off + j * 12, none⟩))) w := by
 have h1 : (0 : Int) ≤ (j : Int) := by omega
 have h2 : (j : Int) < (n : Int) := by omega
 simp [go_sem, hx, hy, h1, h2]
theorem yr_idxT (x y : Operand) {b off n c j : Nat} (hx : ρ x = .slice (some ⟨b, off, none⟩) n c) (hy : ρ y = .int .i64 (j : Int)) (h : j < n) : (execOp ρ ⟨dst, .indexAddr 42 x y, ty, pos, aft, gd⟩).run Tryz.prog w = .ok (.value (.pointer (some ⟨b, off + j * 3, none⟩))) w := by
 have h1 : (0 : Int) ≤ (j : Int) := by omega
 have h2 : (j : Int) < (n : Int) := by omega
 simp [go_sem, hx, hy, h1, h2]
end
theorem fH (a b : Int) (c : Bool) (h : decide (a < b) = c) (w : World) : (binOp .lss 3 (.int .i64 a) (.int .i64 b)).run Tryz.prog w = .ok (.bool c) w := by
 subst h
 simp [go_sem]
theorem neq_intR (a b : Int) (c : Bool) (h : (a != b) = c) (w : World) : (binOp .neq 3 (.int .i64 a) (.int .i64 b)).run Tryz.prog w = .ok (.bool c) w := by
 subst h
 simp [go_sem]
def dQ (vL vH vW : Value) (k : Nat) : Prop := vL.ownBlock = some k ∨ vH.ownBlock = some k ∨ vW.ownBlock = some k
structure iU (w : World) (r : Nat) (vL vH vW : Value) (L : List UsR) (H W : List (cD KeyT)) : Prop where
 box : bZ w r #[vL, vH, vW] 28
 sL : bI urE w vL L
 sH : bI gtE w vH H
 sW : bI gtE w vW W
 far : ∀ k, dQ vL vH vW k → k < w.heap.size ∧ k ≠ r
section
variable {w w' : World} {r : Nat} {vL vH vW : Value} {L : List UsR} {H W : List (cD KeyT)}
theorem iU.keep {S : Nat → Prop} (h : iU w r vL vH vW L H W) (hk : aC S w w') (hS : ∀ k, (k = r ∨ dQ vL vH vW k) → ¬ S k) : iU w' r vL vH vW L H W :=
 ⟨h.box.keep hk (hS r (.inl rfl)), h.sL.keep hk (fun g e => hS g (.inr (.inl e))), h.sH.keep hk (fun g e => hS g (.inr (.inr (.inl e)))), h.sW.keep hk (fun g e => hS g (.inr (.inr (.inr e)))), fun k hk' => ⟨Nat.lt_of_lt_of_le (h.far k hk').1 hk.size, (h.far k hk').2⟩⟩
theorem iU.below (h : iU w r vL vH vW L H W) (hB : Below w.heap.size w w') : iU w' r vL vH vW L H W := h.keep (aC.of_below (fun _ => False) hB) (fun _ _ h => h)
theorem iU.c0 (h : iU w r vL vH vW L H W) : w.cell? ⟨r, 0, none⟩ = some vL := h.box.cell 0 _ rfl
theorem iU.c1 (h : iU w r vL vH vW L H W) : w.cell? ⟨r, 1, none⟩ = some vH := h.box.cell 1 _ rfl
theorem iU.c2 (h : iU w r vL vH vW L H W) : w.cell? ⟨r, 2, none⟩ = some vW := h.box.cell 2 _ rfl
end
def dR (w : World) (r : Nat) (F : Nat → Prop) (C : Nat) (l : List (aS KeyT)) : Prop :=
 ∃ vL vH vW L H W, iU w r vL vH vW L H W ∧ eF l L H W ∧ dD l ∧ H.length + W.length ≤ C ∧ ∀ k, F k ↔ k = r ∨ dQ vL vH vW k
def plU : List UsR → TxN → Int
 | [], _ => -1
 | x :: l, t => if x.tx = t then 0 else if plU l t < 0 then -1 else plU l t + 1
theorem plU_none {l : List UsR} {t : TxN} (h : ∀ x ∈ l, x.tx ≠ t) : plU l t = -1 := by
 induction l with
 | nil => rfl
 | cons x l ih =>
  unfold plU
  rw [if_neg (h x List.mem_cons_self), ih (fun y hy => h y (List.mem_cons_of_mem _ hy))]
  rfl
theorem plU_at {l : List UsR} {t : TxN} : ∀ {k : Nat} (hk : k < l.length), l[k].tx = t → (∀ j (hj : j < k), (l[j]'(Nat.lt_trans hj hk)).tx ≠ t) → plU l t = (k : Int) := by
 induction l with
 | nil => intro k hk; simp at hk
 | cons x l ih =>
  intro k hk e hne
  unfold plU
  cases k with
  | zero => rw [if_pos (by simpa using e)]; rfl
  | succ k =>
   have h0 := hne 0 (by omega)
   rw [if_neg (by simpa using h0)]
   have := ih (k := k) (by simpa using hk) (by simpa using e) (fun j hj => by simpa using hne (j + 1) (by omega))
   rw [this, if_neg (by omega)]
   rfl
theorem plU_on {l : List (aS KeyT)} {t : TxN} {x : aS KeyT} : ∀ (_ : cM l t = some x), ∃ k : Nat, plU (l.map usR) t = (k : Int) ∧ ∃ hk : k < l.length, l[k] = x ∧ x.tx = t := by
 induction l with
 | nil => intro h; cases h
 | cons y l ih =>
  intro h
  rw [List.map_cons]
  unfold plU
  unfold cM at h ih
  by_cases e : y.tx = t
  ·rw [List.find?_cons_of_pos (by simpa using e)] at h
   cases h
   exact ⟨0, by rw [if_pos e]; rfl, by simp, rfl, e⟩
  ·rw [List.find?_cons_of_neg (by simpa using e)] at h
   obtain ⟨k, h1, hk, h2⟩ := ih h
   rw [if_neg e, h1, if_neg (by omega)]
   exact ⟨k + 1, by omega, by simp; omega, by simpa using h2⟩
theorem plU_no {l : List (aS KeyT)} {t : TxN} (h : cM l t = none) : plU (l.map usR) t = -1 := plU_none (fun x hx => by
 obtain ⟨y, hy, rfl⟩ := List.mem_map.1 hx
 exact eR.1 h y hy)
end
section
open Go.RowKit Go.Maps Classical
theorem en_findR : ∀ args w, (callFunc 41 args).run Tryz.prog w = .ok (.enter 41 args) w := enters_of Tryz.func41 (by kernel_rfl) rfl
theorem en_stampsR : ∀ args w, (callFunc 69 args).run Tryz.prog w = .ok (.enter 69 args) w := enters_of Tryz.func69 (by kernel_rfl) rfl
theorem iZ : ∀ args w, (callFunc 38 args).run Tryz.prog w = .ok (.enter 38 args) w := enters_of Tryz.func38 (by kernel_rfl) rfl
theorem en_togR : ∀ args w, (callFunc 85 args).run Tryz.prog w = .ok (.enter 85 args) w := enters_of Tryz.func85 (by kernel_rfl) rfl
theorem en_freeR : ∀ args w, (callFunc 80 args).run Tryz.prog w = .ok (.enter 80 args) w := enters_of Tryz.func80 (by kernel_rfl) rfl
theorem en_firstR : ∀ args w, (callFunc 81 args).run Tryz.prog w = .ok (.enter 81 args) w := enters_of Tryz.func81 (by kernel_rfl) rfl
set_option maxHeartbeats 1600000 in
theorem dZ (r : Nat) (vL vH vW : Value) (L : List UsR) (H W : List (cD KeyT)) (t : TxN) (w : World) (h : iU w r vL vH vW L H W) (hfew : L.length ≤ 100) :
  Calls Tryz.prog 41 #[.pointer (some ⟨r, 0, none⟩), aV t] w fun e w' => e = .returned (.int .i64 (plU L t)) ∧ Below w.heap.size w w' := by
 have hX0 := aN w #[.int .u8 (t.1 : Int), .int .u32 (t.2.1 : Int), .int .u32 (t.2.2 : Int)] 34
 have hA0 := aE w (.cells #[.int .u8 (t.1 : Int), .int .u32 (t.2.1 : Int), .int .u32 (t.2.2 : Int)] 34)
 obtain ⟨w1, hw1⟩ : ∃ w1, w1 = w.alloc (.cells #[.int .u8 (t.1 : Int), .int .u32 (t.2.1 : Int), .int .u32 (t.2.2 : Int)] 34) := ⟨_, rfl⟩
 rw [← hw1] at hX0 hA0
 have hW1 := hw1.symm
 have hR := h.below hA0
 obtain ⟨ao, cap, hvb, hcap, hcm⟩ := hR.sL.shape
 subst hvb
 have m1 : w1.cell? ⟨r, 0, none⟩ = some (.slice ao L.length cap) := hR.c0
 obtain ⟨x0, x1, x2⟩ := hX0.three
 have HSR := aA hR.sL
 have HB := aA hA0
 obtain ⟨N, hN⟩ : ∃ N, N = L.length := ⟨_, rfl⟩
 have HL := aA hN
 rw [← hN] at m1 hfew
 clear h hR hX0 hA0 hw1 hN hcap hcm
 go_enter Tryz.func41, Tryz.ntmps41
 go_wp2
 go_loopw [5] (fun i wr => ∃ k : Nat, k ≤ N ∧ i = .int .i64 k ∧ Hid (∀ j (hj : j < L.length), j < k → L[j].tx ≠ t) ∧ ∃ nd, wr = w1.drewN nd) (fun i _ => N - (intOf i).toNat)
 case atStart => exact ⟨0, Nat.zero_le _, rfl, aA (fun j _ hj => by omega), 0, rfl⟩
 case round =>
  obtain ⟨k, hk, rfl, HNO, nd, rfl⟩ := hrel
  by_cases hlt : k < N
  ·have hkn : k < L.length := by rw [← HL.out]; exact hlt
   obtain ⟨_, b, off, hao, _, hc⟩ := HSR.out.at eJ.len hkn
   cases hao
   have r1 := hc 1 _ rfl
   have r2 := hc 2 _ rfl
   have r3 := hc 3 _ rfl
   have hq := fun V => eql_txR L[k].tx t V
   have hltI : (k : Int) < (N : Int) := by omega
   by_cases e : L[k].tx = t
   ·have HP : Hid (plU L t = (k : Int)) := aA (plU_at hkn e (fun j hj => HNO.out j (Nat.lt_trans hj hkn) hj))
    rw [decide_eq_true e] at hq
    generalize L[k].tx = y at *
    clear hc e
    go_wp2
    go_quiet (fail)
    go_wp2
    go_ret
    exact ⟨jM HP.out.symm, HB.out.trans (((aU w1 nd).trans (aU (w1.drewN nd) nq)).mono HB.out.size)⟩
   ·have HNO2 : Hid (∀ j (hj : j < L.length), j < k + 1 → L[j].tx ≠ t) := aA (fun j hj hjk => by
     by_cases ej : j = k
     ·subst ej; exact e
     ·exact HNO.out j hj (by omega))
    rw [decide_eq_false e] at hq
    generalize L[k].tx = y at *
    clear hc e
    go_wp2
    go_quiet (fail)
    go_wp2
    go_roundw
    case rel => exact ⟨k + 1, by omega, by go_num, HNO2, nd + nq, by simp⟩
    case measure => simp [intOf]; omega
  ·have HP : Hid (plU L t = -1) := aA (plU_none (fun x hx => by
    obtain ⟨j, hj, rfl⟩ := List.getElem_of_mem hx
    exact HNO.out j hj (by have := HL.out; omega)))
   go_wp2
   go_ret
   exact ⟨jM HP.out.symm, HB.out.trans ((aU w1 _).mono HB.out.size)⟩
theorem plU_us {l : List (aS KeyT)} (hb : dD l) {u : aS KeyT} (hu : u ∈ l) : ∃ k : Nat, plU (l.map usR) u.tx = (k : Int) ∧ ∃ hk : k < (l.map usR).length, (l.map usR)[k] = usR u := by
 obtain ⟨k, h1, hk, h2, _⟩ := plU_on ((bT hb).2 ⟨hu, rfl⟩)
 exact ⟨k, h1, by rw [List.length_map]; exact hk, by rw [List.getElem_map, h2]⟩
set_option maxHeartbeats 1600000 in
theorem gF (r : Nat) (vL vH vW : Value) (l : List (aS KeyT)) (H W : List (cD KeyT)) (u v : aS KeyT) (w : World) (h : iU w r vL vH vW (l.map usR) H W) (hb : dD l) (hu : u ∈ l) (hv : v ∈ l) :
  Calls Tryz.prog 38 #[.pointer (some ⟨r, 0, none⟩), aV u.tx, aV v.tx] w fun e w' => e = .returned (.bool (decide (Old u v))) ∧ Below w.heap.size w w' := by
 have hA := aE w (.cells #[.int .u8 (u.tx.1 : Int), .int .u32 (u.tx.2.1 : Int), .int .u32 (u.tx.2.2 : Int)] 34)
 have hA2 := aE (w.alloc (.cells #[.int .u8 (u.tx.1 : Int), .int .u32 (u.tx.2.1 : Int), .int .u32 (u.tx.2.2 : Int)] 34)) (.cells #[.int .u8 (v.tx.1 : Int), .int .u32 (v.tx.2.1 : Int), .int .u32 (v.tx.2.2 : Int)] 34)
 have hB2 := hA.trans (hA2.mono hA.size)
 have HX4 := aA ((aN w #[.int .u8 (u.tx.1 : Int), .int .u32 (u.tx.2.1 : Int), .int .u32 (u.tx.2.2 : Int)] 34).belowI hA2)
 have HX5 : Hid (bZ ((w.alloc (.cells #[.int .u8 (u.tx.1 : Int), .int .u32 (u.tx.2.1 : Int), .int .u32 (u.tx.2.2 : Int)] 34)).alloc (.cells #[.int .u8 (v.tx.1 : Int), .int .u32 (v.tx.2.1 : Int), .int .u32 (v.tx.2.2 : Int)] 34)) (w.heap.size + 1) #[.int .u8 (v.tx.1 : Int), .int .u32 (v.tx.2.1 : Int), .int .u32 (v.tx.2.2 : Int)] 34) := aA (by have := aN (w.alloc (.cells #[.int .u8 (u.tx.1 : Int), .int .u32 (u.tx.2.1 : Int), .int .u32 (u.tx.2.2 : Int)] 34)) #[.int .u8 (v.tx.1 : Int), .int .u32 (v.tx.2.1 : Int), .int .u32 (v.tx.2.2 : Int)] 34; simpa using this)
 obtain ⟨W1, hw1⟩ : ∃ W1, W1 = (w.alloc (.cells #[.int .u8 (u.tx.1 : Int), .int .u32 (u.tx.2.1 : Int), .int .u32 (u.tx.2.2 : Int)] 34)).alloc (.cells #[.int .u8 (v.tx.1 : Int), .int .u32 (v.tx.2.1 : Int), .int .u32 (v.tx.2.2 : Int)] 34) := ⟨_, rfl⟩
 obtain ⟨p4, hp4⟩ : ∃ p4, p4 = w.heap.size := ⟨_, rfl⟩
 obtain ⟨p5, hp5⟩ : ∃ p5, p5 = p4 + 1 := ⟨_, rfl⟩
 rw [← hw1] at HX4 HX5 hB2
 rw [← hp4] at HX4 HX5
 rw [← hp5] at HX5
 have HW1 := aA hw1
 have HP4 := aA hp4
 have HP5 := aA hp5
 have HB := aA hB2
 have HR := aA (h.below hB2)
 have hlen : (l.map usR).length ≤ 100 := by rw [List.length_map]; have := hb.few; omega
 obtain ⟨ka, ea, hka, ga⟩ := plU_us hb hu
 obtain ⟨kb, eb, hkb, gb⟩ := plU_us hb hv
 obtain ⟨ao, cap, hvb, hcap, hcm⟩ := HR.out.sL.shape
 subst hvb
 have CA : Hid (∀ W', Below W1.heap.size W1 W' → Calls Tryz.prog 41 #[.pointer (some ⟨r, 0, none⟩), aV u.tx] W' fun e w' => e = .returned (.int .i64 (ka : Int)) ∧ Below W'.heap.size W' w') := aA (fun W' hW => by
  have := dZ r _ vH vW _ H W u.tx W' (HR.out.below hW) hlen
  rw [ea] at this
  exact this)
 have CB : Hid (∀ W', Below W1.heap.size W1 W' → Calls Tryz.prog 41 #[.pointer (some ⟨r, 0, none⟩), aV v.tx] W' fun e w' => e = .returned (.int .i64 (kb : Int)) ∧ Below W'.heap.size W' w') := aA (fun W' hW => by
  have := dZ r _ vH vW _ H W v.tx W' (HR.out.below hW) hlen
  rw [eb] at this
  exact this)
 obtain ⟨en, b, off, hao, hbl, hca⟩ := HR.out.sL.at eJ.len hka
 obtain ⟨en2, b2, off2, hao2, _, hcb⟩ := HR.out.sL.at eJ.len hkb
 cases hao
 cases hao2
 rw [ga] at hca
 rw [gb] at hcb
 obtain ⟨n, hn⟩ : ∃ n, n = (l.map usR).length := ⟨_, rfl⟩
 rw [← hn] at hka hkb
 have HC : Hid (∀ W', Below W1.heap.size W1 W' → W'.cell? ⟨r, 0, none⟩ = some (.slice (some ⟨b, off, none⟩) n cap)) := aA (fun W' hW => by rw [hn]; exact (HR.out.below hW).c0)
 have HRA : Hid (∀ W', Below W1.heap.size W1 W' → W'.rangeAt b (off + ka * 5) [.int .u32 (u.tm : Int), .int .u8 (u.tx.1 : Int), .int .u32 (u.tx.2.1 : Int), .int .u32 (u.tx.2.2 : Int)]) := aA (fun W' hW j x hx => by
  rw [hW.cell (p := ⟨b, off + ka * 5 + j, none⟩) hbl]
  refine hca j x ?_
  match j, hx with
  | 0, hx => exact hx
  | 1, hx => exact hx
  | 2, hx => exact hx
  | 3, hx => exact hx
  | j + 4, hx => simp at hx)
 have HRB : Hid (∀ W', Below W1.heap.size W1 W' → W'.rangeAt b (off + kb * 5) [.int .u32 (v.tm : Int), .int .u8 (v.tx.1 : Int), .int .u32 (v.tx.2.1 : Int), .int .u32 (v.tx.2.2 : Int)]) := aA (fun W' hW j x hx => by
  rw [hW.cell (p := ⟨b, off + kb * 5 + j, none⟩) hbl]
  refine hcb j x ?_
  match j, hx with
  | 0, hx => exact hx
  | 1, hx => exact hx
  | 2, hx => exact hx
  | 3, hx => exact hx
  | j + 4, hx => simp at hx)
 obtain ⟨Z, hZ⟩ : ∃ Z, Z = fO u.ag v.ag := ⟨_, rfl⟩
 obtain ⟨B, hBo⟩ : ∃ B, B = decide (Old u v) := ⟨_, rfl⟩
 have hlt := fH Z 0 B (by rw [hBo, hZ])
 have CS : Hid (∀ W', Calls Tryz.prog 69 #[.agg #[.int .u32 (u.tm : Int), .int .u8 (u.tx.1 : Int), .int .u32 (u.tx.2.1 : Int), .int .u32 (u.tx.2.2 : Int)], .agg #[.int .u32 (v.tm : Int), .int .u8 (v.tx.1 : Int), .int .u32 (v.tx.2.1 : Int), .int .u32 (v.tx.2.2 : Int)]] W' fun e w' => e = .returned (.int .i64 Z) ∧ Below W'.heap.size W' w') := aA (fun W' => by
  have := rstamps_any (u.tm : Int) (u.tx.1 : Int) (u.tx.2.1 : Int) (u.tx.2.2 : Int) (v.tm : Int) (v.tx.1 : Int) (v.tx.2.1 : Int) (v.tx.2.2 : Int) W' (by omega) (by have := (hb.oks u hu).1.1; omega) (by omega) (by have := (hb.oks v hv).1.1; omega)
  rw [hZ]
  exact this)
 rw [← hBo]
 clear h hA hA2 hB2 hw1 hp4 hp5 hlen ea eb ga gb hca hcb hn hbl hcap hcm hZ hBo en en2
 go_enter Tryz.func38, Tryz.ntmps38
 go_wp2_with fail
 rw [← HW1.out, ← HP4.out, ← HP5.out]
 refine bD (by kernel_rfl) [(7, .pointer (some ⟨r, 0, none⟩)), (8, .pointer (some ⟨r, 0, none⟩)), (9, .pointer (some ⟨r, 0, none⟩)), (10, .slice (some ⟨b, off, none⟩) n cap), (11, .pointer (some ⟨r, 0, none⟩)), (12, .agg #[.int .u8 (u.tx.1 : Int), .int .u32 (u.tx.2.1 : Int), .int .u32 (u.tx.2.2 : Int)]), (13, .int .i64 (ka : Int)), (14, .pointer (some ⟨b, off + ka * 5, none⟩)), (15, .pointer (some ⟨b, off + ka * 5, none⟩)), (16, .agg #[.int .u32 (u.tm : Int), .int .u8 (u.tx.1 : Int), .int .u32 (u.tx.2.1 : Int), .int .u32 (u.tx.2.2 : Int)]), (17, .pointer (some ⟨r, 0, none⟩)), (18, .pointer (some ⟨r, 0, none⟩)), (19, .pointer (some ⟨r, 0, none⟩)), (20, .slice (some ⟨b, off, none⟩) n cap), (21, .pointer (some ⟨r, 0, none⟩)), (22, .agg #[.int .u8 (v.tx.1 : Int), .int .u32 (v.tx.2.1 : Int), .int .u32 (v.tx.2.2 : Int)]), (23, .int .i64 (kb : Int)), (24, .pointer (some ⟨b, off + kb * 5, none⟩)), (25, .pointer (some ⟨b, off + kb * 5, none⟩)), (26, .agg #[.int .u32 (v.tm : Int), .int .u8 (v.tx.1 : Int), .int .u32 (v.tx.2.1 : Int), .int .u32 (v.tx.2.2 : Int)]), (27, .int .i64 Z), (28, .bool B), (6, .bool B)] (by kernel_rfl) rfl ?_ ?_
 ·intro i o hi A w1 hB hold hdeps
  have hlt : i < 23 := (Array.getElem?_eq_some_iff.1 hi).1
  have hc : i = 0 ∨ i = 1 ∨ i = 2 ∨ i = 3 ∨ i = 4 ∨ i = 5 ∨ i = 6 ∨ i = 7 ∨ i = 8 ∨ i = 9 ∨ i = 10 ∨ i = 11 ∨ i = 12 ∨ i = 13 ∨ i = 14 ∨ i = 15 ∨ i = 16 ∨ i = 17 ∨ i = 18 ∨ i = 19 ∨ i = 20 ∨ i = 21 ∨ i = 22 := by omega
  clear hlt
  rcases hc with rfl|rfl|rfl|rfl|rfl|rfl|rfl|rfl|rfl|rfl|rfl|rfl|rfl|rfl|rfl|rfl|rfl|rfl|rfl|rfl|rfl|rfl|rfl <;> obtain rfl := Option.some.inj hi
  ·have s0 : A.tmps.getD 0 undef = .pointer (some ⟨r, 0, none⟩) := hold 0 (by kernel_rfl)
   exact aD hi rfl rfl (aR _ s0)
  ·have s7 : A.tmps.getD 7 undef = .pointer (some ⟨r, 0, none⟩) := aB hdeps 0 (by kernel_rfl)
   exact aD hi rfl rfl (dY _ s7)
  ·have s8 : A.tmps.getD 8 undef = .pointer (some ⟨r, 0, none⟩) := aB hdeps 1 (by kernel_rfl)
   exact aD hi rfl rfl (gV _ s8)
  ·have s9 : A.tmps.getD 9 undef = .pointer (some ⟨r, 0, none⟩) := aB hdeps 2 (by kernel_rfl)
   exact aD hi rfl rfl (eY _ s9 (HC.out w1 hB))
  ·have s0 : A.tmps.getD 0 undef = .pointer (some ⟨r, 0, none⟩) := hold 0 (by kernel_rfl)
   exact aD hi rfl rfl (aR _ s0)
  ·have s4 : A.tmps.getD 4 undef = .pointer (some ⟨p4, 0, none⟩) := hold 4 (by kernel_rfl)
   exact aD hi rfl rfl (iI _ _ s4 (HX4.out.belowI hB) Tryz.underlying34 rfl dL)
  ·have s11 : A.tmps.getD 11 undef = .pointer (some ⟨r, 0, none⟩) := aB hdeps 4 (by kernel_rfl)
   have s12 : A.tmps.getD 12 undef = .agg #[.int .u8 (u.tx.1 : Int), .int .u32 (u.tx.2.1 : Int), .int .u32 (u.tx.2.2 : Int)] := aB hdeps 5 (by kernel_rfl)
   exact cF hi rfl rfl (cC 41 _ #[.pointer (some ⟨r, 0, none⟩), .agg #[.int .u8 (u.tx.1 : Int), .int .u32 (u.tx.2.1 : Int), .int .u32 (u.tx.2.2 : Int)]] _ rfl (by simp only [List.map_toArray, List.map_cons, List.map_nil, show A.eval (.tmp 11) = .pointer (some ⟨r, 0, none⟩) from s11, show A.eval (.tmp 12) = .agg #[.int .u8 (u.tx.1 : Int), .int .u32 (u.tx.2.1 : Int), .int .u32 (u.tx.2.2 : Int)] from s12]; try rfl) en_findR) (CA.out w1 hB)
  ·have s10 : A.tmps.getD 10 undef = .slice (some ⟨b, off, none⟩) n cap := aB hdeps 3 (by kernel_rfl)
   have s13 : A.tmps.getD 13 undef = .int .i64 (ka : Int) := aB hdeps 6 (by kernel_rfl)
   exact aD hi rfl rfl (k9 _ _ s10 s13 hka)
  ·have s14 : A.tmps.getD 14 undef = .pointer (some ⟨b, off + ka * 5, none⟩) := aB hdeps 7 (by kernel_rfl)
   exact aD hi rfl rfl (yr_us0 _ s14)
  ·have s15 : A.tmps.getD 15 undef = .pointer (some ⟨b, off + ka * 5, none⟩) := aB hdeps 8 (by kernel_rfl)
   exact aD hi rfl rfl (eI (cs := [.int .u32 (u.tm : Int), .int .u8 (u.tx.1 : Int), .int .u32 (u.tx.2.1 : Int), .int .u32 (u.tx.2.2 : Int)]) _ _ s15 (HRA.out w1 hB) Tryz.underlying36 rfl infoStR)
  ·have s0 : A.tmps.getD 0 undef = .pointer (some ⟨r, 0, none⟩) := hold 0 (by kernel_rfl)
   exact aD hi rfl rfl (aR _ s0)
  ·have s17 : A.tmps.getD 17 undef = .pointer (some ⟨r, 0, none⟩) := aB hdeps 10 (by kernel_rfl)
   exact aD hi rfl rfl (dY _ s17)
  ·have s18 : A.tmps.getD 18 undef = .pointer (some ⟨r, 0, none⟩) := aB hdeps 11 (by kernel_rfl)
   exact aD hi rfl rfl (gV _ s18)
  ·have s19 : A.tmps.getD 19 undef = .pointer (some ⟨r, 0, none⟩) := aB hdeps 12 (by kernel_rfl)
   exact aD hi rfl rfl (eY _ s19 (HC.out w1 hB))
  ·have s0 : A.tmps.getD 0 undef = .pointer (some ⟨r, 0, none⟩) := hold 0 (by kernel_rfl)
   exact aD hi rfl rfl (aR _ s0)
  ·have s5 : A.tmps.getD 5 undef = .pointer (some ⟨p5, 0, none⟩) := hold 5 (by kernel_rfl)
   exact aD hi rfl rfl (iI _ _ s5 (HX5.out.belowI hB) Tryz.underlying34 rfl dL)
  ·have s21 : A.tmps.getD 21 undef = .pointer (some ⟨r, 0, none⟩) := aB hdeps 14 (by kernel_rfl)
   have s22 : A.tmps.getD 22 undef = .agg #[.int .u8 (v.tx.1 : Int), .int .u32 (v.tx.2.1 : Int), .int .u32 (v.tx.2.2 : Int)] := aB hdeps 15 (by kernel_rfl)
   exact cF hi rfl rfl (cC 41 _ #[.pointer (some ⟨r, 0, none⟩), .agg #[.int .u8 (v.tx.1 : Int), .int .u32 (v.tx.2.1 : Int), .int .u32 (v.tx.2.2 : Int)]] _ rfl (by simp only [List.map_toArray, List.map_cons, List.map_nil, show A.eval (.tmp 21) = .pointer (some ⟨r, 0, none⟩) from s21, show A.eval (.tmp 22) = .agg #[.int .u8 (v.tx.1 : Int), .int .u32 (v.tx.2.1 : Int), .int .u32 (v.tx.2.2 : Int)] from s22]; try rfl) en_findR) (CB.out w1 hB)
  ·have s20 : A.tmps.getD 20 undef = .slice (some ⟨b, off, none⟩) n cap := aB hdeps 13 (by kernel_rfl)
   have s23 : A.tmps.getD 23 undef = .int .i64 (kb : Int) := aB hdeps 16 (by kernel_rfl)
   exact aD hi rfl rfl (k9 _ _ s20 s23 hkb)
  ·have s24 : A.tmps.getD 24 undef = .pointer (some ⟨b, off + kb * 5, none⟩) := aB hdeps 17 (by kernel_rfl)
   exact aD hi rfl rfl (yr_us0 _ s24)
  ·have s25 : A.tmps.getD 25 undef = .pointer (some ⟨b, off + kb * 5, none⟩) := aB hdeps 18 (by kernel_rfl)
   exact aD hi rfl rfl (eI (cs := [.int .u32 (v.tm : Int), .int .u8 (v.tx.1 : Int), .int .u32 (v.tx.2.1 : Int), .int .u32 (v.tx.2.2 : Int)]) _ _ s25 (HRB.out w1 hB) Tryz.underlying36 rfl infoStR)
  ·have s16 : A.tmps.getD 16 undef = .agg #[.int .u32 (u.tm : Int), .int .u8 (u.tx.1 : Int), .int .u32 (u.tx.2.1 : Int), .int .u32 (u.tx.2.2 : Int)] := aB hdeps 9 (by kernel_rfl)
   have s26 : A.tmps.getD 26 undef = .agg #[.int .u32 (v.tm : Int), .int .u8 (v.tx.1 : Int), .int .u32 (v.tx.2.1 : Int), .int .u32 (v.tx.2.2 : Int)] := aB hdeps 19 (by kernel_rfl)
   exact cF hi rfl rfl (cC 69 _ #[.agg #[.int .u32 (u.tm : Int), .int .u8 (u.tx.1 : Int), .int .u32 (u.tx.2.1 : Int), .int .u32 (u.tx.2.2 : Int)], .agg #[.int .u32 (v.tm : Int), .int .u8 (v.tx.1 : Int), .int .u32 (v.tx.2.1 : Int), .int .u32 (v.tx.2.2 : Int)]] _ rfl (by simp only [List.map_toArray, List.map_cons, List.map_nil, show A.eval (.tmp 16) = .agg #[.int .u32 (u.tm : Int), .int .u8 (u.tx.1 : Int), .int .u32 (u.tx.2.1 : Int), .int .u32 (u.tx.2.2 : Int)] from s16, show A.eval (.tmp 26) = .agg #[.int .u32 (v.tm : Int), .int .u8 (v.tx.1 : Int), .int .u32 (v.tx.2.1 : Int), .int .u32 (v.tx.2.2 : Int)] from s26]; try rfl) en_stampsR) (CS.out w1)
  ·have s27 : A.tmps.getD 27 undef = .int .i64 Z := aB hdeps 20 (by kernel_rfl)
   exact aD hi rfl rfl (eE _ _ _ _ _ s27 rfl (hlt w1) (by kernel_rfl))
  ·have s28 : A.tmps.getD 28 undef = .bool B := aB hdeps 21 (by kernel_rfl)
   exact aD hi rfl rfl (y_assign _ s28)
 ·intro w9 hB9
  simp only [cA, Act.put, List.setIfInBounds_toArray, List.set_cons_succ, List.set_cons_zero]
  go_wp2_with fail
  go_ret
  exact ⟨rfl, HB.out.trans (hB9.mono HB.out.size)⟩
set_option maxHeartbeats 1600000 in
theorem rtog_any15 (a c : cD KeyT) (w : World) : Calls Tryz.prog 85 #[.agg (bW a), .agg (bW c)] w fun e w' => e = .returned (.bool (togB a c)) ∧ Below w.heap.size w w' := by
 have hA := aE w (.cells (bW a) 62)
 have hA2 := aE (w.alloc (.cells (bW a) 62)) (.cells (bW c) 62)
 have hB2 := hA.trans (hA2.mono hA.size)
 have HX4 := aA ((aN w (bW a) 62).belowI hA2)
 have HX5 : Hid (bZ ((w.alloc (.cells (bW a) 62)).alloc (.cells (bW c) 62)) (w.heap.size + 1) (bW c) 62) := aA (by have := aN (w.alloc (.cells (bW a) 62)) (bW c) 62; simpa using this)
 obtain ⟨W1, hw1⟩ : ∃ W1, W1 = (w.alloc (.cells (bW a) 62)).alloc (.cells (bW c) 62) := ⟨_, rfl⟩
 obtain ⟨p4, hp4⟩ : ∃ p4, p4 = w.heap.size := ⟨_, rfl⟩
 obtain ⟨p5, hp5⟩ : ∃ p5, p5 = p4 + 1 := ⟨_, rfl⟩
 rw [← hw1] at HX4 HX5 hB2
 rw [← hp4] at HX4 HX5
 rw [← hp5] at HX5
 have HW1 := aA hw1
 have HP4 := aA hp4
 have HP5 := aA hp5
 have HB := aA hB2
 have a0 := HX4.out.cell 0 _ rfl
 have a1 := HX4.out.cell 1 _ rfl
 have a2 := HX4.out.cell 2 _ rfl
 have a11 := HX4.out.cell 11 _ rfl
 have c0 := HX5.out.cell 0 _ rfl
 have c1 := HX5.out.cell 1 _ rfl
 have c2 := HX5.out.cell 2 _ rfl
 have c11 := HX5.out.cell 11 _ rfl
 have hq := fun V => eql_txR a.tx c.tx V
 have hu1 : ∀ n : Nat, ((n : Int) == 1) = decide (n = 1) := fun n => by rw [Bool.eq_iff_iff]; simp; omega
 obtain ⟨B, hBo⟩ : ∃ B, B = togB a c := ⟨_, rfl⟩
 have hBt : B = (decide (a.tx = c.tx) || (decide (a.mode = 1) && decide (c.mode = 1))) := hBo
 rw [← hBo]
 have h1 := hu1 a.mode
 have h2 := hu1 c.mode
 generalize decide (a.tx = c.tx) = d0 at *
 generalize decide (a.mode = 1) = d1 at *
 generalize decide (c.mode = 1) = d2 at *
 have HBT := aA hBt
 clear hA hA2 hB2 hw1 hp4 hp5 hu1 hBo hBt
 go_enter Tryz.func85, Tryz.ntmps85
 cases d0 <;> cases d1 <;> cases d2
 all_goals go_wp2_with fail
 all_goals go_ret
 all_goals first | (rename_i hx; exact absurd hx (by simp)) | exact ⟨by rw [HBT.out]; rfl, by rw [← HW1.out]; exact HB.out⟩ | exact ⟨by rw [HBT.out]; rfl, by rw [HW1.out]; exact HB.out⟩
theorem filter_take {α : Type} (P : α → Bool) (l : List α) {k : Nat} (h : k < l.length) : (l.take (k + 1)).filter P = (l.take k).filter P ++ (if P l[k] = true then [l[k]] else []) := by
 rw [List.take_succ_eq_append_getElem h, List.filter_append]
 congr 1
 by_cases e : P l[k] = true
 ·rw [if_pos e, List.filter_cons_of_pos e]; rfl
 ·rw [if_neg e, List.filter_cons_of_neg e]; rfl
set_option maxHeartbeats 1600000 in
theorem rwithout_any15 (v : Value) (Hs : List (cD KeyT)) (t : TxN) (w : World) (h : bI gtE w v Hs) (hfew : Hs.length ≤ 10000) :
  Calls Tryz.prog 40 #[v, aV t] w fun e w' => ∃ u, e = .returned u ∧ w'.ownsRow w.heap.size 62 12 u (Hs.filter fun g => decide (g.tx ≠ t)).length (bR gtE (Hs.filter fun g => decide (g.tx ≠ t))) ∧ Below w.heap.size w w' := by
 have hX0 := aN w #[.int .u8 (t.1 : Int), .int .u32 (t.2.1 : Int), .int .u32 (t.2.2 : Int)] 34
 have hA0 := aE w (.cells #[.int .u8 (t.1 : Int), .int .u32 (t.2.1 : Int), .int .u32 (t.2.2 : Int)] 34)
 obtain ⟨w1, hw1⟩ : ∃ w1, w1 = w.alloc (.cells #[.int .u8 (t.1 : Int), .int .u32 (t.2.1 : Int), .int .u32 (t.2.2 : Int)] 34) := ⟨_, rfl⟩
 obtain ⟨p3, hp3⟩ : ∃ p3, p3 = w.heap.size := ⟨_, rfl⟩
 obtain ⟨base, hbs⟩ : ∃ base, base = w.heap.size := ⟨_, rfl⟩
 rw [← hw1] at hX0 hA0
 rw [← hp3] at hX0
 have hR := h.below hA0
 have HBS : Hid (base ≤ w1.heap.size) := aA (by rw [hbs]; exact hA0.size)
 rw [← hbs] at hA0 ⊢
 obtain ⟨ao, cap, hvb, hcap, hcm⟩ := hR.shape
 subst hvb
 have HX := aA hX0
 have HB := aA hA0
 obtain ⟨N, hN⟩ : ∃ N, N = Hs.length := ⟨_, rfl⟩
 have HL := aA hN
 rw [← hN] at hfew hR ⊢
 have HS := aA hR
 obtain ⟨P, hP⟩ : ∃ P : cD KeyT → Bool, P = fun g => decide (g.tx ≠ t) := ⟨_, rfl⟩
 have HP : Hid (∀ g, P g = decide (g.tx ≠ t)) := aA (fun g => by rw [hP])
 rw [← hP]
 have HW1 := aA hw1
 have HP3 := aA hp3
 clear h hR hX0 hA0 hw1 hN hcap hcm hP hp3 hbs
 go_enter Tryz.func40, Tryz.ntmps40
 go_wp2_with fail
 rw [← HW1.out, ← HP3.out]
 go_loopg [5, 6] N (fun g x i wr => ∃ (k n : Nat) (ys : List (cD KeyT)) (ax : Option Addr) (cx : Nat), k + g = N ∧ x = .slice ax n cx ∧ i = .int .i64 k ∧ Hid (ys = (Hs.take k).filter P) ∧ Hid (n = ys.length) ∧ n ≤ k ∧ Hid (wr.ownsRow w1.heap.size 62 12 (.slice ax n cx) n (bR gtE ys)) ∧ Hid (Below w1.heap.size w1 wr))
 case atStart => exact ⟨0, 0, [], none, 0, by omega, rfl, rfl, aA (by simp), aA rfl, Nat.zero_le _, aA (World.ownsRow_nil _ _ _ _), aA (Below.refl _ _)⟩
 case round =>
  obtain ⟨k, n, ys, ax, cx, hk, rfl, rfl, HY, HN, hnk, HO, HB2⟩ := hrel
  cases gk with
  | zero =>
   obtain rfl : k = N := by omega
   have hz : ¬ ((k : Int) < (k : Int)) := by omega
   have HE : Hid (Hs.filter P = ys) := aA (by rw [HY.out, HL.out, List.take_length])
   go_wp2_with fail
   go_ret
   refine ⟨_, rfl, ?_, HB.out.trans (HB2.out.mono HBS.out)⟩
   rw [HE.out, ← HN.out]
   exact bQ HO.out HBS.out
  | succ g =>
   have hkI : (k : Int) < (N : Int) := by omega
   have hkn : k < Hs.length := by rw [← HL.out]; omega
   have HBq := aA (fun m => HB2.out.trans ((aU wr m).mono HB2.out.size))
   obtain ⟨en, b, off, hao, hbl, hc⟩ := (HS.out.below HB2.out).at dJ.len hkn
   cases hao
   have r0 := hc 0 _ rfl
   have r1 := hc 1 _ rfl
   have r2 := hc 2 _ rfl
   rw [Nat.add_zero] at r0
   have hq := fun V => neq_txR Hs[k].tx t V
   have HRg : Hid (∀ m, (wr.drewN m).rangeAt b (off + k * 12) (gtE Hs[k])) := aA (fun m j v hv => ((aU wr m).cell (p := ⟨b, off + k * 12 + j, none⟩) hbl).trans (hc j v hv))
   obtain ⟨x0, x1, x2⟩ := (HX.out.belowI HB2.out).three
   have HFT := aA (filter_take P Hs hkn)
   have HPK := aA (HP.out Hs[k])
   generalize Hs[k] = x at *
   by_cases e : x.tx = t
   ·have HY2 : Hid (ys = (Hs.take (k + 1)).filter P) := aA (by rw [HFT.out, HPK.out, HY.out]; simp [e])
    have hd : (!decide (x.tx = t)) = false := by simp [e]
    rw [hd] at hq
    clear hc en hbl e hd
    go_wp2_with fail
    go_quiet (fail)
    go_wp2_with fail
    go_roundg g
    case measure => omega
    case rel => exact ⟨k + 1, n, ys, ax, cx, by omega, rfl, by first | rfl | go_num, HY2, HN, by omega, aA (aJ HO.out (aC.of_below (fun _ => False) (aU wr _)) (fun _ _ h => h)), aA (HBq.out _)⟩
   ·have HY2 : Hid (ys ++ [x] = (Hs.take (k + 1)).filter P) := aA (by rw [HFT.out, HPK.out, HY.out]; simp [e])
    have hd : (!decide (x.tx = t)) = true := by simp [e]
    rw [hd] at hq
    clear hc en hbl e hd
    go_wp2_with fail
    go_quiet (fail)
    have HRq := aA (HRg.out nq)
    replace HO := aA (aJ HO.out (aC.of_below (fun _ => False) (aU wr nq)) (fun _ _ h => h))
    replace HBq := aA (HBq.out nq)
    clear HRg r0 r1 r2 x0 x1 x2
    generalize wr.drewN nq = wq at *
    have HAL := aA (aE wq (.cells (gtE x).toArray 62))
    have HWS := aA HBq.out.size
    have hgl := kY x
    have HOW := aA (aJ HO.out (aC.of_below (fun _ => False) HAL.out) (fun _ _ h => h))
    go_wp2_with (first
     | (refine wpList_load_mid rfl 62 _ rfl b (off + k * 12) rfl (gtE x) _ HRq.out Tryz.underlying62 rfl bS ?_)
     | (at_builtin; rw [jJ]; refine dS dJ _ rfl _ _ rfl w1.heap.size (.slice ax n cx) _ ys [x] rfl (by rw [← HN.out]; exact HOW.out) rfl (dK (enc := gtE) wq x _ (by simp) 62) (fun z hz => by simp at hz; subst hz; exact gS _) (by rw [← HN.out]; simp; omega) (Nat.le_trans HWS.out HAL.out.size) ?_; intro v4 w4 ho4 hg4 _; rw [List.length_append, ← HN.out, List.length_singleton] at ho4; obtain ⟨a4, c4, hv4, _⟩ := aQ ho4; subst hv4; have HO4 := aA ho4; have HB4 : Hid (Below w1.heap.size w1 w4) := aA ((HBq.out.trans (HAL.out.mono HBq.out.size)).grown hg4 (Nat.le_trans HWS.out HAL.out.size) (fun j hj => (HOW.out.lt j hj).1)); clear ho4 hg4))
    go_roundg g
    case measure => omega
    case rel => exact ⟨k + 1, n + 1, ys ++ [x], a4, c4, by omega, rfl, by first | rfl | go_num, HY2, aA (by rw [List.length_append, ← HN.out]; rfl), by omega, HO4, HB4⟩
end
end Go.Proofs.YtiloagmkkhlfjaaGreat
