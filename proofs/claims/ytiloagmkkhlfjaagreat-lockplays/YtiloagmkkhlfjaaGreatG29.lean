/-
  Own texts put together: LkAlive. Own work.
-/
import Derived.Test.YtiloagmkkhlfjaaGreatG28
import Derived.Deep.RegionHeld
import Derived.Deep.DeepCutAuto
namespace Go.Proofs.YtiloagmkkhlfjaaGreat
section
open Go.RowKit Go.Maps Classical
def iH : KeyT := ⟨[97, 0, 0, 0, 0, 0, 0, 0], ⟨rfl, by decide⟩⟩
theorem build15k (w : World) : (Instr.build 38 #[(0, .int .u8 97)]).run Tryz.prog w = .ok (.agg #[.int .u8 97, .int .u8 0, .int .u8 0, .int .u8 0, .int .u8 0, .int .u8 0, .int .u8 0, .int .u8 0]) w := by kernel_rfl
theorem fldStamp (a b c d : Int) (w : World) : (Instr.field 36 (.agg #[.int .u32 a, .int .u8 b, .int .u32 c, .int .u32 d]) 1).run Tryz.prog w = .ok (.agg #[.int .u8 b, .int .u32 c, .int .u32 d]) w := by kernel_rfl
abbrev kaA : Array Value := #[.int .u8 97, .int .u8 0, .int .u8 0, .int .u8 0, .int .u8 0, .int .u8 0, .int .u8 0, .int .u8 0]
def u1K : aS KeyT := iL iH (bF iH 1 (kX (0, 1, 6) 5))
def u2K : aS KeyT := iL iH (bF iH 2 (kX (0, 1, 4) 3))
theorem may15a : dG 5 (0, 1, 6) iH 1 = true := by decide
theorem may15b : dG 3 (0, 1, 4) iH 2 = true := by decide
theorem kys_irr (k : KeyT) : ¬ cQ k k < 0 := by rw [kysF_self]; omega
theorem u1_h (k : KeyT) (h : k ≠ iH) : u1K.h k = 0 := by
 show (if k = iH then _ else (0 : Nat)) = 0
 rw [if_neg h]
theorem u1_ha : u1K.h iH = 1 := by
 show (if iH = iH then max 0 (if iH = iH then max 0 1 else 0) else 0) = 1
 rw [if_pos rfl, if_pos rfl]; rfl
theorem u1_w (k : KeyT) : u1K.w k = 0 := by
 show (if k = iH then 0 else (if k = iH then max 0 1 else 0)) = 0
 by_cases h : k = iH
 ·rw [if_pos h]
 ·rw [if_neg h, if_neg h]
theorem u2_ha : u2K.h iH = 2 := by
 show (if iH = iH then max 0 (if iH = iH then max 0 2 else 0) else 0) = 2
 rw [if_pos rfl, if_pos rfl]; rfl
section
variable {D : World → Nat → (Nat → Prop) → Nat → List (aS KeyT) → Prop}
theorem ask5 (H : eH D) {W : World} {q : Nat} {F : Nat → Prop} (h : D W q F 0 []) : Calls Tryz.prog 23 #[cG q, .agg #[.int .u32 5, .int .u8 0, .int .u32 1, .int .u32 6], .agg kaA, .int .u8 1] W fun e w' => ∃ aw cw ag cg, e = .returned (.tuple #[.agg #[.slice aw 0 cw, .slice ag 1 cg], .int .i64 0]) ∧ fP D W w' q F 1 [u1K] := by
 refine (H.ask 5 (0, 1, 6) iH 1 h (by omega) ⟨by decide, by decide, by decide⟩ (by decide) (by decide)).mono ?_
 rintro e w' ⟨vw, vg, er, wn, gr, l', rfl, hR, hd, how, hog⟩
 rw [may15a] at hR
 obtain ⟨rfl, rfl, hg, rfl⟩ := alone_ask kys_irr (by omega) hR
 obtain ⟨aw, cw, rfl, _⟩ := aQ how
 obtain ⟨ag, cg, rfl, _⟩ := aQ hog
 rw [hg]
 exact ⟨aw, cw, ag, cg, rfl, hd⟩
theorem ask3 (H : eH D) {W : World} {q : Nat} {F : Nat → Prop} (h : D W q F 1 [u1K]) : Calls Tryz.prog 23 #[cG q, .agg #[.int .u32 3, .int .u8 0, .int .u32 1, .int .u32 4], .agg kaA, .int .u8 2] W fun e w' => ∃ aw cw ag cg, e = .returned (.tuple #[.agg #[.slice aw 1 cw, .slice ag 1 cg], .int .i64 0]) ∧ fP D W w' q F 2 [u2K] := by
 refine (H.ask 3 (0, 1, 4) iH 2 h (by omega) ⟨by decide, by decide, by decide⟩ (by decide) (by decide)).mono ?_
 rintro e w' ⟨vw, vg, er, wn, gr, l', rfl, hR, hd, how, hog⟩
 rw [may15b] at hR
 obtain ⟨rfl, rfl, hg, rfl⟩ := alone_wound kys_irr (by omega) (show u1K.tx ≠ (0, 1, 4) by decide) rfl u1_h u1_w (by rw [u1_ha]; exact ⟨by decide, by decide, .inl rfl⟩) (show fO (agS 3 (0, 1, 4)) (agS 5 (0, 1, 6)) < 0 by decide) hR
 obtain ⟨aw, cw, rfl, _⟩ := aQ how
 obtain ⟨ag, cg, rfl, _⟩ := aQ hog
 rw [hg]
 exact ⟨aw, cw, ag, cg, rfl, hd⟩
structure BoxV where
 p : Nat
 cs : Array Value
 t : TypeId
structure Bes (D : World → Nat → (Nat → Prop) → Nat → List (aS KeyT) → Prop) (w : World) (q C : Nat) (bs : List BoxV) (F : Nat → Prop) (l : List (aS KeyT)) (W : World) : Prop where
 s : fA D w q F C l W
 k : ∀ x ∈ bs, bZ W x.p x.cs x.t ∧ ¬ F x.p
theorem Bes.below (H : eH D) {w W W' : World} {q C : Nat} {bs : List BoxV} {F : Nat → Prop} {l : List (aS KeyT)} (h : Bes D w q C bs F l W) (hB : Below W.heap.size W W') : Bes D w q C bs F l W' := ⟨h.s.below H hB, fun x hx => ⟨(h.k x hx).1.belowI hB, (h.k x hx).2⟩⟩
theorem Bes.did {w W W' : World} {q C C' : Nat} {bs : List BoxV} {F : Nat → Prop} {l l' : List (aS KeyT)} (h : Bes D w q C bs F l W) (hd : fP D W W' q F C' l') : ∃ F', Bes D w q C' bs F' l' W' ∧ aC F W W' ∧ ∀ k, F' k → F k ∨ W.heap.size ≤ k := by
 obtain ⟨F', h1, h2, h3⟩ := h.s.did hd
 exact ⟨F', ⟨h1, fun x hx => ⟨(h.k x hx).1.keep h2 (h.k x hx).2, fun e => (h3 x.p e).elim (h.k x hx).2 (fun e2 => by have := (h.k x hx).1.lt; omega)⟩⟩, h2, h3⟩
theorem Bes.alloc (H : eH D) {w W : World} {q C : Nat} {bs : List BoxV} {F : Nat → Prop} {l : List (aS KeyT)} (h : Bes D w q C bs F l W) (o : Obj) : Bes D w q C bs F l (W.alloc o) := h.below H (aE W o)
theorem Bes.key {w W : World} {q kp C : Nat} {bs : List BoxV} {F : Nat → Prop} {l : List (aS KeyT)} (h : Bes D w q C (⟨kp, kaA, 38⟩ :: bs) F l W) : W.cell? ⟨kp, 0, none⟩ = some (.int .u8 97) ∧ W.cell? ⟨kp, 1, none⟩ = some (.int .u8 0) ∧ W.cell? ⟨kp, 2, none⟩ = some (.int .u8 0) ∧ W.cell? ⟨kp, 3, none⟩ = some (.int .u8 0) ∧ W.cell? ⟨kp, 4, none⟩ = some (.int .u8 0) ∧ W.cell? ⟨kp, 5, none⟩ = some (.int .u8 0) ∧ W.cell? ⟨kp, 6, none⟩ = some (.int .u8 0) ∧ W.cell? ⟨kp, 7, none⟩ = some (.int .u8 0) :=
 have hk := (h.k _ List.mem_cons_self).1
 ⟨hk.cell 0 _ rfl, hk.cell 1 _ rfl, hk.cell 2 _ rfl, hk.cell 3 _ rfl, hk.cell 4 _ rfl, hk.cell 5 _ rfl, hk.cell 6 _ rfl, hk.cell 7 _ rfl⟩
structure iE (w : World) (bs : List BoxV) (F : Nat → Prop) (p : Nat) (W : World) : Prop where
 bx : bZ W p zO 45
 nf : ¬ F p
 ge : w.heap.size ≤ p
 ne : ∀ x ∈ bs, x.p ≠ p
theorem iE.new (H : eH D) {w W : World} {q C : Nat} {bs : List BoxV} {F : Nat → Prop} {l : List (aS KeyT)} (h : Bes D w q C bs F l W) : iE w bs F W.heap.size (W.alloc (.cells zO 45)) :=
 ⟨aN W zO 45, fun e => by have := H.lt h.s.d _ e; omega, h.s.b.size, fun x hx e => by have := (h.k x hx).1.lt; omega⟩
theorem iE.below {w W W' : World} {bs : List BoxV} {F : Nat → Prop} {p : Nat} (h : iE w bs F p W) (hB : Below W.heap.size W W') : iE w bs F p W' := ⟨h.bx.belowI hB, h.nf, h.ge, h.ne⟩
theorem iE.did {w W W' : World} {bs : List BoxV} {F F' : Nat → Prop} {p : Nat} (h : iE w bs F p W) (hk : aC F W W') (hf : ∀ k, F' k → F k ∨ W.heap.size ≤ k) : iE w bs F' p W' :=
 ⟨h.bx.keep hk h.nf, fun e => (hf p e).elim h.nf (fun e2 => by have := h.bx.lt; omega), h.ge, h.ne⟩
theorem keep_cellsO (W : World) (p : Nat) (vs : List Value) : aC (fun j => j = p) W (W.setCells p 0 vs) := aC.setCells (g := p) vs 0 W W (aC.refl _ W) (.inl rfl)
def stO (a v : Value) : Sem Unit := Instr.storeAt 45 a v
theorem stO_hide (a v : Value) : Instr.storeAt 45 a v = stO a v := rfl
structure AlvAt (D : World → Nat → (Nat → Prop) → Nat → List (aS KeyT) → Prop) (w : World) (q C : Nat) (bs : List BoxV) (l : List (aS KeyT)) (nw ng : Nat) (s3 s4 : Value) (W : World) : Prop where
 ex : ∃ F p aw cw ag cg, s3 = .pointer (some ⟨p, 0, none⟩) ∧ s4 = .int .i64 0 ∧ Bes D w q C (bs ++ [⟨p, #[.slice aw nw cw, .slice ag ng cg], 45⟩]) F l W
theorem Bes.store (H : eH D) {w W : World} {q C p kp : Nat} {bs : List BoxV} {F : Nat → Prop} {l : List (aS KeyT)} (h : Bes D w q C (⟨kp, kaA, 38⟩ :: bs) F l W) (ho : iE w (⟨kp, kaA, 38⟩ :: bs) F p W) (aw ag : Option Addr) (nw cw ng cg : Nat) :
  (stO (.pointer (some ⟨p, 0, none⟩)) (.agg #[.slice aw nw cw, .slice ag ng cg])).run Tryz.prog W = .ok () (W.setCells p 0 [.slice aw nw cw, .slice ag ng cg]) ∧
   Bes D w q C (⟨kp, kaA, 38⟩ :: bs) F l (W.setCells p 0 [.slice aw nw cw, .slice ag ng cg]) ∧ Hid (AlvAt D w q C (⟨kp, kaA, 38⟩ :: bs) l nw ng (.pointer (some ⟨p, 0, none⟩)) (.int .i64 0) (W.setCells p 0 [.slice aw nw cw, .slice ag ng cg])) := by
 have hth : W.there p 0 2 := fun j hj => by
  refine ⟨?_, ho.bx.frozen _⟩
  rw [Nat.zero_add]
  match j, hj with
  | 0, _ => rw [ho.bx.cell 0 _ rfl]; rfl
  | 1, _ => rw [ho.bx.cell 1 _ rfl]; rfl
 have hr := run_storeAt_mid (P := Tryz.prog) W p 0 45 #[.slice aw nw cw, .slice ag ng cg] hth bX (by simp [Value.oneCell'])
 have hk : aC (fun j => j = p) W (W.setCells p 0 [.slice aw nw cw, .slice ag ng cg]) := keep_cellsO W p _
 have hb := ho.bx.setCells [.slice aw nw cw, .slice ag ng cg] 0
 have h2 : Bes D w q C (⟨kp, kaA, 38⟩ :: bs) F l (W.setCells p 0 [.slice aw nw cw, .slice ag ng cg]) := ⟨h.s.keep H hk (fun k e1 e2 => ho.nf (e2 ▸ e1)) (fun k e => by rw [e]; exact ho.ge), fun x hx => ⟨(h.k x hx).1.keep hk (ho.ne x hx), (h.k x hx).2⟩⟩
 refine ⟨hr, h2, aA ⟨F, p, aw, cw, ag, cg, rfl, rfl, h2.s, fun x hx => ?_⟩⟩
 rcases List.mem_append.1 hx with hx | hx
 ·exact h2.k x hx
 ·rw [List.mem_singleton.1 hx]
  exact ⟨hb, ho.nf⟩
theorem mode3 (H : eH D) {W : World} {q : Nat} {F : Nat → Prop} (h : D W q F 2 [u2K]) : Calls Tryz.prog 17 #[cG q, .agg #[.int .u8 0, .int .u32 1, .int .u32 4], .agg kaA] W fun e w' => e = .returned (.int .u8 2) ∧ Below W.heap.size W w' := by
 have h1 := H.mode (0, 1, 4) iH h ⟨by decide, by decide, by decide⟩
 have hg : aT [u2K] (0, 1, 4) = u2K := getU_one u2K
 rw [hg, u2_ha] at h1
 exact h1
theorem mode5 (H : eH D) {W : World} {q : Nat} {F : Nat → Prop} (h : D W q F 2 [u2K]) : Calls Tryz.prog 17 #[cG q, .agg #[.int .u8 0, .int .u32 1, .int .u32 6], .agg kaA] W fun e w' => e = .returned (.int .u8 0) ∧ Below W.heap.size W w' := by
 have h1 := H.mode (0, 1, 6) iH h ⟨by decide, by decide, by decide⟩
 have hu : cM [u2K] (0, 1, 6) = none := by unfold cM; rw [List.find?_cons_of_neg (by decide), List.find?_nil]
 rw [dA hu] at h1
 exact h1
theorem bes_all {w W : World} {q kp p5 p6 C : Nat} {aw5 ag5 aw6 ag6 : Option Addr} {cw5 cg5 cw6 cg6 : Nat} {F : Nat → Prop} {l : List (aS KeyT)} (h : Bes D w q C [⟨kp, kaA, 38⟩, ⟨p5, #[.slice aw5 0 cw5, .slice ag5 1 cg5], 45⟩, ⟨p6, #[.slice aw6 1 cw6, .slice ag6 1 cg6], 45⟩] F l W) : W.cell? ⟨kp, 0, none⟩ = some (.int .u8 97) ∧ W.cell? ⟨kp, 1, none⟩ = some (.int .u8 0) ∧ W.cell? ⟨kp, 2, none⟩ = some (.int .u8 0) ∧ W.cell? ⟨kp, 3, none⟩ = some (.int .u8 0) ∧ W.cell? ⟨kp, 4, none⟩ = some (.int .u8 0) ∧ W.cell? ⟨kp, 5, none⟩ = some (.int .u8 0) ∧ W.cell? ⟨kp, 6, none⟩ = some (.int .u8 0) ∧ W.cell? ⟨kp, 7, none⟩ = some (.int .u8 0) ∧ W.cell? ⟨p5, 1, none⟩ = some (.slice ag5 1 cg5) ∧ W.cell? ⟨p6, 0, none⟩ = some (.slice aw6 1 cw6) ∧ W.cell? ⟨p6, 1, none⟩ = some (.slice ag6 1 cg6) :=
 have k := h.key
 ⟨k.1, k.2.1, k.2.2.1, k.2.2.2.1, k.2.2.2.2.1, k.2.2.2.2.2.1, k.2.2.2.2.2.2.1, k.2.2.2.2.2.2.2, (h.k _ (List.mem_cons_of_mem _ List.mem_cons_self)).1.cell 1 _ rfl, (h.k _ (List.mem_cons_of_mem _ (List.mem_cons_of_mem _ List.mem_cons_self))).1.cell 0 _ rfl, (h.k _ (List.mem_cons_of_mem _ (List.mem_cons_of_mem _ List.mem_cons_self))).1.cell 1 _ rfl⟩
attribute [local go_sem ↓] stO_hide
set_option maxRecDepth 100000 in
set_option maxHeartbeats 3200000 in
theorem alive_by15 (H : eH D) (w : World) : Calls Tryz.prog 6 #[] w fun e w' => e = .returned (.bool true) ∧ Below w.heap.size w w' := by
 have hbk := build15k
 have CS5 : Hid (∀ W, Calls Tryz.prog 24 #[.int .u32 5] W fun e w' => e = .returned (.agg #[.int .u32 5, .int .u8 0, .int .u32 1, .int .u32 6]) ∧ Below W.heap.size W w') := aA (fun W => stamp_any15 5 (by omega) W)
 have CS3 : Hid (∀ W, Calls Tryz.prog 24 #[.int .u32 3] W fun e w' => e = .returned (.agg #[.int .u32 3, .int .u8 0, .int .u32 1, .int .u32 4]) ∧ Below W.heap.size W w') := aA (fun W => stamp_any15 3 (by omega) W)
 have CA5 := aA (fun W F q (h : D W q F 0 []) => ask5 H h)
 have CA3 := aA (fun W F q (h : D W q F 1 [u1K]) => ask3 H h)
 go_enter Tryz.func6, Tryz.ntmps6
 go_wp2_with fail
 refine (H.new w).mono ?_
 rintro e w1 ⟨q, F1, rfl, hD1, hF1, hB1⟩
 have HS1 : Hid (fA D w q F1 0 [] w1) := aA ⟨hD1, hF1, hB1⟩
 have HNF : Hid (¬ F1 w1.heap.size) := aA (fun hf => Nat.lt_irrefl _ (H.lt hD1 _ hf))
 have hws := hB1.size
 have HZ := aA (aN w1 #[.int .u8 0, .int .u8 0, .int .u8 0, .int .u8 0, .int .u8 0, .int .u8 0, .int .u8 0, .int .u8 0] 38)
 have HZS := aA (HS1.out.below H (aE w1 (.cells #[.int .u8 0, .int .u8 0, .int .u8 0, .int .u8 0, .int .u8 0, .int .u8 0, .int .u8 0, .int .u8 0] 38)))
 clear hD1 hF1 hB1
 go_wp2_with (refine aP rfl rfl _ _ rfl w1.heap.size rfl (cs' := kaA) rfl HZ.out rfl infoKey15 (by simp [Value.oneCell']) ?_; intro w2 hb2 hk2; have HB2 : Hid (Bes D w q 0 [⟨w1.heap.size, kaA, 38⟩] F1 [] w2) := aA ⟨HZS.out.keep H hk2 (fun k hf e => HNF.out (by rw [← e]; exact hf)) (fun k e => by omega), fun x hx => by rw [List.mem_singleton.1 hx]; exact ⟨hb2, HNF.out⟩⟩; clear hb2 hk2)
 obtain ⟨kp, hkp⟩ : ∃ kp, kp = w1.heap.size := ⟨_, rfl⟩
 rw [← hkp] at HB2 ⊢
 clear HZ HZS HS1 HNF hws hkp
 obtain ⟨z0, z1, z2, z3, z4, z5, z6, z7⟩ := HB2.out.key
 go_upto_region 5 with fail
 go_cut [3, 4] (fun s3 s4 wx => AlvAt D w q 1 [⟨kp, kaA, 38⟩] [u1K] 0 1 s3 s4 wx)
 case first =>
  go_region_held (fun w' => w'.cell? ⟨kp, 0, none⟩ = some (.int .u8 97) ∧ w'.cell? ⟨kp, 1, none⟩ = some (.int .u8 0) ∧ w'.cell? ⟨kp, 2, none⟩ = some (.int .u8 0) ∧ w'.cell? ⟨kp, 3, none⟩ = some (.int .u8 0) ∧ w'.cell? ⟨kp, 4, none⟩ = some (.int .u8 0) ∧ w'.cell? ⟨kp, 5, none⟩ = some (.int .u8 0) ∧ w'.cell? ⟨kp, 6, none⟩ = some (.int .u8 0) ∧ w'.cell? ⟨kp, 7, none⟩ = some (.int .u8 0)) (go_keep) (first
   | (go_at_call 24; refine (CS5.out _).mono ?_; rintro e w3 ⟨rfl, hB3⟩; (first | (have HB3 := aA ((HB2.out.below H (aG w2)).below H hB3)) | (have HB3 := aA (((HB2.out.below H (aG w2)).alloc H _).below H hB3); have HO3 : Hid (iE w [⟨kp, kaA, 38⟩] F1 w2.heap.size w3) := aA ((iE.new H (HB2.out.below H (aG w2))).below hB3))); have ss : _ ∧ _ ∧ _ ∧ _ ∧ _ ∧ _ ∧ _ ∧ _ := HB3.out.key; clear hB3)
   | (go_at_call 23; first
      | (refine (CA5.out _ _ _ (HB3.out.s.d)).mono ?_; rintro e w4 ⟨aw, cw, ag, cg, rfl, hd4⟩; obtain ⟨F4, hb4, hk4, hf4⟩ := HB3.out.did hd4; obtain ⟨st, hb5, HV⟩ := Bes.store H (hb4) (HO3.out.did hk4 hf4) aw ag 0 cw 1 cg; have uu : _ ∧ _ ∧ _ ∧ _ ∧ _ ∧ _ ∧ _ ∧ _ := hb5.key; have tt : _ ∧ _ ∧ _ ∧ _ ∧ _ ∧ _ ∧ _ ∧ _ := hb4.key; clear hd4 hb4 hk4 hf4 hb5 ss)
      | (refine (CA5.out _ _ _ (HB3.out.s.d)).mono ?_; rintro e w4 ⟨aw, cw, ag, cg, rfl, hd4⟩; obtain ⟨F4, hb4, hk4, hf4⟩ := HB3.out.did hd4; obtain ⟨st, hb5, HV⟩ := Bes.store H (hb4.alloc H _) (iE.new H hb4) aw ag 0 cw 1 cg; have uu : _ ∧ _ ∧ _ ∧ _ ∧ _ ∧ _ ∧ _ ∧ _ := hb5.key; have tt : _ ∧ _ ∧ _ ∧ _ ∧ _ ∧ _ ∧ _ ∧ _ := hb4.key; clear hd4 hb4 hk4 hf4 hb5 ss)
      | (refine (CA5.out _ _ _ ((HB3.out.alloc H _).s.d)).mono ?_; rintro e w4 ⟨aw, cw, ag, cg, rfl, hd4⟩; obtain ⟨F4, hb4, hk4, hf4⟩ := (HB3.out.alloc H _).did hd4; obtain ⟨st, hb5, HV⟩ := Bes.store H (hb4) ((iE.new H HB3.out).did hk4 hf4) aw ag 0 cw 1 cg; have uu : _ ∧ _ ∧ _ ∧ _ ∧ _ ∧ _ ∧ _ ∧ _ := hb5.key; have tt : _ ∧ _ ∧ _ ∧ _ ∧ _ ∧ _ ∧ _ ∧ _ := hb4.key; clear hd4 hb4 hk4 hf4 hb5 ss)))
  all_goals go_wp2_with fail
  all_goals go_meet
  all_goals exact HV.out
 case rest =>
  clear z0 z1 z2 z3 z4 z5 z6 z7 HB2
  obtain ⟨F5, p5, aw5, cw5, ag5, cg5, rfl, rfl, hb5⟩ := hcut.ex
  have HB5 : Hid (Bes D w q 1 [⟨kp, kaA, 38⟩, ⟨p5, #[.slice aw5 0 cw5, .slice ag5 1 cg5], 45⟩] F5 [u1K] wc) := aA hb5
  clear hcut hb5
  obtain ⟨z0, z1, z2, z3, z4, z5, z6, z7⟩ := HB5.out.key
  go_upto_region 6 with fail
  go_cut [5, 6] (fun s3 s4 wx => AlvAt D w q 2 [⟨kp, kaA, 38⟩, ⟨p5, #[.slice aw5 0 cw5, .slice ag5 1 cg5], 45⟩] [u2K] 1 1 s3 s4 wx)
  case first =>
   go_region_held (fun w' => w'.cell? ⟨kp, 0, none⟩ = some (.int .u8 97) ∧ w'.cell? ⟨kp, 1, none⟩ = some (.int .u8 0) ∧ w'.cell? ⟨kp, 2, none⟩ = some (.int .u8 0) ∧ w'.cell? ⟨kp, 3, none⟩ = some (.int .u8 0) ∧ w'.cell? ⟨kp, 4, none⟩ = some (.int .u8 0) ∧ w'.cell? ⟨kp, 5, none⟩ = some (.int .u8 0) ∧ w'.cell? ⟨kp, 6, none⟩ = some (.int .u8 0) ∧ w'.cell? ⟨kp, 7, none⟩ = some (.int .u8 0)) (go_keep) (first
    | (go_at_call 24; refine (CS3.out _).mono ?_; rintro e w7 ⟨rfl, hB7⟩; (first | (have HB7 := aA ((HB5.out.below H (aG wc)).below H hB7)) | (have HB7 := aA (((HB5.out.below H (aG wc)).alloc H _).below H hB7); have HO7 : Hid (iE w [⟨kp, kaA, 38⟩, ⟨p5, #[.slice aw5 0 cw5, .slice ag5 1 cg5], 45⟩] F5 wc.heap.size w7) := aA ((iE.new H (HB5.out.below H (aG wc))).below hB7))); have ss : _ ∧ _ ∧ _ ∧ _ ∧ _ ∧ _ ∧ _ ∧ _ := HB7.out.key; clear hB7)
    | (go_at_call 23; first
       | (refine (CA3.out _ _ _ (HB7.out.s.d)).mono ?_; rintro e w8 ⟨aw, cw, ag, cg, rfl, hd8⟩; obtain ⟨F8, hb8, hk8, hf8⟩ := HB7.out.did hd8; obtain ⟨st, hb9, HV⟩ := Bes.store H (hb8) (HO7.out.did hk8 hf8) aw ag 1 cw 1 cg; have uu : _ ∧ _ ∧ _ ∧ _ ∧ _ ∧ _ ∧ _ ∧ _ := hb9.key; have tt : _ ∧ _ ∧ _ ∧ _ ∧ _ ∧ _ ∧ _ ∧ _ := hb8.key; clear hd8 hb8 hk8 hf8 hb9 ss)
       | (refine (CA3.out _ _ _ (HB7.out.s.d)).mono ?_; rintro e w8 ⟨aw, cw, ag, cg, rfl, hd8⟩; obtain ⟨F8, hb8, hk8, hf8⟩ := HB7.out.did hd8; obtain ⟨st, hb9, HV⟩ := Bes.store H (hb8.alloc H _) (iE.new H hb8) aw ag 1 cw 1 cg; have uu : _ ∧ _ ∧ _ ∧ _ ∧ _ ∧ _ ∧ _ ∧ _ := hb9.key; have tt : _ ∧ _ ∧ _ ∧ _ ∧ _ ∧ _ ∧ _ ∧ _ := hb8.key; clear hd8 hb8 hk8 hf8 hb9 ss)
       | (refine (CA3.out _ _ _ ((HB7.out.alloc H _).s.d)).mono ?_; rintro e w8 ⟨aw, cw, ag, cg, rfl, hd8⟩; obtain ⟨F8, hb8, hk8, hf8⟩ := (HB7.out.alloc H _).did hd8; obtain ⟨st, hb9, HV⟩ := Bes.store H (hb8) ((iE.new H HB7.out).did hk8 hf8) aw ag 1 cw 1 cg; have uu : _ ∧ _ ∧ _ ∧ _ ∧ _ ∧ _ ∧ _ ∧ _ := hb9.key; have tt : _ ∧ _ ∧ _ ∧ _ ∧ _ ∧ _ ∧ _ ∧ _ := hb8.key; clear hd8 hb8 hk8 hf8 hb9 ss)))
   all_goals go_wp2_with fail
   all_goals go_meet
   all_goals exact HV.out
  case rest =>
   clear z0 z1 z2 z3 z4 z5 z6 z7 HB5
   obtain ⟨F6, p6, aw6, cw6, ag6, cg6, rfl, rfl, hb6⟩ := hcut.ex
   have HB6 : Hid (Bes D w q 2 [⟨kp, kaA, 38⟩, ⟨p5, #[.slice aw5 0 cw5, .slice ag5 1 cg5], 45⟩, ⟨p6, #[.slice aw6 1 cw6, .slice ag6 1 cg6], 45⟩] F6 [u2K] wc) := aA hb6
   clear hcut hb6
   obtain ⟨z0, z1, z2, z3, z4, z5, z6, z7, z8, z9, z10⟩ := bes_all HB6.out
   have CM3 := aA (fun W F (h : D W q F 2 [u2K]) => mode3 H h)
   have CM5 := aA (fun W F (h : D W q F 2 [u2K]) => mode5 H h)
   have hfl := fldStamp
   clear CA5 CA3
   go_wp2_with fail
   go_region_held (fun w' => w'.cell? ⟨kp, 0, none⟩ = some (.int .u8 97) ∧ w'.cell? ⟨kp, 1, none⟩ = some (.int .u8 0) ∧ w'.cell? ⟨kp, 2, none⟩ = some (.int .u8 0) ∧ w'.cell? ⟨kp, 3, none⟩ = some (.int .u8 0) ∧ w'.cell? ⟨kp, 4, none⟩ = some (.int .u8 0) ∧ w'.cell? ⟨kp, 5, none⟩ = some (.int .u8 0) ∧ w'.cell? ⟨kp, 6, none⟩ = some (.int .u8 0) ∧ w'.cell? ⟨kp, 7, none⟩ = some (.int .u8 0) ∧ w'.cell? ⟨p5, 1, none⟩ = some (.slice ag5 1 cg5) ∧ w'.cell? ⟨p6, 0, none⟩ = some (.slice aw6 1 cw6) ∧ w'.cell? ⟨p6, 1, none⟩ = some (.slice ag6 1 cg6)) (go_keep) (first
    | (go_at_call 24; first
       | (refine (CS3.out _).mono ?_; rintro e w3 ⟨rfl, hB3⟩; have HB3 := aA ((HB6.out.below H (aG wc)).below H hB3); have ss : _ ∧ _ ∧ _ ∧ _ ∧ _ ∧ _ ∧ _ ∧ _ ∧ _ ∧ _ ∧ _ := bes_all HB3.out; clear hB3)
       | (refine (CS5.out _).mono ?_; rintro e w9 ⟨rfl, hB9⟩; have HB9 := aA (HB4.out.below H hB9); have ss : _ ∧ _ ∧ _ ∧ _ ∧ _ ∧ _ ∧ _ ∧ _ ∧ _ ∧ _ ∧ _ := bes_all HB9.out; clear hB9))
    | (go_at_call 17; first
       | (refine (CM3.out _ _ HB3.out.s.d).mono ?_; rintro e w4 ⟨rfl, hB4⟩; have HB4 := aA (HB3.out.below H hB4); clear ss; have ss : _ ∧ _ ∧ _ ∧ _ ∧ _ ∧ _ ∧ _ ∧ _ ∧ _ ∧ _ ∧ _ := bes_all HB4.out; clear hB4 HB3)
       | (refine (CM5.out _ _ HB9.out.s.d).mono ?_; rintro e w10 ⟨rfl, hB10⟩; have HB10 := aA (HB9.out.below H hB10); clear ss; have ss : _ ∧ _ ∧ _ ∧ _ ∧ _ ∧ _ ∧ _ ∧ _ ∧ _ ∧ _ ∧ _ := bes_all HB10.out; clear hB10)))
   go_wp2_with fail
   go_ret
   exact ⟨rfl, HB10.out.s.b⟩
end
end
end Go.Proofs.YtiloagmkkhlfjaaGreat
