/-
  Own texts put together: LrOurs, LrPar, LrPlK, LrLen. Own work.
-/
import Derived.Test.YtiloagmkkhlfjaaGreatG44
import Derived.Test.YtiloagmkkhlfjaaGreatG13
import Derived.Test.YtiloagmkkhlfjaaGreatG34
import Derived.Test.YtiloagmkkhlfjaaGreatG40
import Derived.Test.YtiloagmkkhlfjaaGreatG43
namespace Go.Proofs.YtiloagmkkhlfjaaGreat
section
open Go.RowKit Go.Maps Classical
theorem buildOursR (y : cD KeyT) (w : World) : (Instr.build 62 #[(0, .agg #[.int .u8 (y.tx.1 : Int), .int .u32 (y.tx.2.1 : Int), .int .u32 (y.tx.2.2 : Int)]), (1, .agg #[.int .u8 (aZ y.key.1 0), .int .u8 (aZ y.key.1 1), .int .u8 (aZ y.key.1 2), .int .u8 (aZ y.key.1 3), .int .u8 (aZ y.key.1 4), .int .u8 (aZ y.key.1 5), .int .u8 (aZ y.key.1 6), .int .u8 (aZ y.key.1 7)]), (2, .int .u8 (y.mode : Int))]).run Tryz.prog w = .ok (.agg (bW y)) w := by kernel_rfl
set_option maxRecDepth 100000 in
set_option maxHeartbeats 3200000 in
theorem ours_any15 (aw : Option Addr) (nw cw : Nat) (vg : Value) (gr : List (cD KeyT)) (w : World) (hs : bI gtE w vg gr) (hlen : gr.length ≤ 10000) :
  Calls Tryz.prog 11 #[.agg #[.slice aw nw cw, vg]] w fun e w' => ∃ v, e = .returned (.agg #[.slice aw nw cw, v]) ∧ w'.ownsRow w.heap.size 62 12 v gr.length (bR gtE gr) ∧ Below w.heap.size w w' := by
 obtain ⟨N, hN⟩ : ∃ N, N = gr.length := ⟨_, rfl⟩
 have HN := aA hN
 obtain ⟨ag, cg, eg, _, _⟩ := hs.shape
 subst eg
 rw [← hN] at hs hlen ⊢
 clear hN
 have hA0 := aE w (.cells #[.slice aw nw cw, .slice ag N cg] 45)
 have hA1 := aE (w.alloc (.cells #[.slice aw nw cw, .slice ag N cg] 45)) (.cells jL 50)
 have hA2 := aE ((w.alloc (.cells #[.slice aw nw cw, .slice ag N cg] 45)).alloc (.cells jL 50)) (.cells #[.slice aw nw cw, .slice none 0 0] 50)
 have hB0 := hA0
 have hB1 := hB0.trans (hA1.mono hB0.size)
 have hB2 := hB1.trans (hA2.mono hB1.size)
 have HXp1 : Hid (bZ (((w.alloc (.cells #[.slice aw nw cw, .slice ag N cg] 45)).alloc (.cells jL 50)).alloc (.cells #[.slice aw nw cw, .slice none 0 0] 50)) (w.heap.size) #[.slice aw nw cw, .slice ag N cg] 45) := aA ((aN w #[.slice aw nw cw, .slice ag N cg] 45).belowI (hA1.trans (hA2.mono hA1.size)))
 have HXp2 : Hid (bZ (((w.alloc (.cells #[.slice aw nw cw, .slice ag N cg] 45)).alloc (.cells jL 50)).alloc (.cells #[.slice aw nw cw, .slice none 0 0] 50)) (w.heap.size + 1) jL 50) := aA (by have := (aN (w.alloc (.cells #[.slice aw nw cw, .slice ag N cg] 45)) jL 50).belowI hA2; simpa using this)
 have HXp3 : Hid (bZ (((w.alloc (.cells #[.slice aw nw cw, .slice ag N cg] 45)).alloc (.cells jL 50)).alloc (.cells #[.slice aw nw cw, .slice none 0 0] 50)) (w.heap.size + 2) #[.slice aw nw cw, .slice none 0 0] 50) := aA (by have := aN ((w.alloc (.cells #[.slice aw nw cw, .slice ag N cg] 45)).alloc (.cells jL 50)) #[.slice aw nw cw, .slice none 0 0] 50; simpa using this)
 obtain ⟨W1, hw1⟩ : ∃ W1, W1 = (((w.alloc (.cells #[.slice aw nw cw, .slice ag N cg] 45)).alloc (.cells jL 50)).alloc (.cells #[.slice aw nw cw, .slice none 0 0] 50)) := ⟨_, rfl⟩
 obtain ⟨p1, hp1⟩ : ∃ p1, p1 = w.heap.size := ⟨_, rfl⟩
 obtain ⟨p2, hp2⟩ : ∃ p2, p2 = w.heap.size + 1 := ⟨_, rfl⟩
 obtain ⟨p3, hp3⟩ : ∃ p3, p3 = w.heap.size + 2 := ⟨_, rfl⟩
 rw [← hw1] at HXp1 HXp2 HXp3 hB2
 rw [← hp1] at HXp1
 rw [← hp2] at HXp2
 rw [← hp3] at HXp3
 have HW1 := aA hw1
 have HEp1 := aA hp1
 have HEp2 := aA hp2
 have HEp3 := aA hp3
 have HB := aA hB2
 have HNp1 : Hid (w.heap.size ≤ p1 ∧ p1 < W1.heap.size) := aA ⟨by omega, HXp1.out.lt⟩
 have HNp2 : Hid (w.heap.size ≤ p2 ∧ p2 < W1.heap.size) := aA ⟨by omega, HXp2.out.lt⟩
 have HNp3 : Hid (w.heap.size ≤ p3 ∧ p3 < W1.heap.size) := aA ⟨by omega, HXp3.out.lt⟩
 clear hw1 hA0 hB0 hA1 hB1 hA2 hB2 hp1 hp2 hp3
 have HS := aA hs
 obtain ⟨x0, x1⟩ := HXp1.out.two
 have hb2 := buildOut2R
 clear hs
 go_enter Tryz.func11, Tryz.ntmps11
 go_wp2_with fail
 rw [show w.heap.size + 1 + 1 = w.heap.size + 2 from rfl]
 rw [← HW1.out, ← HEp3.out, ← HEp2.out, ← HEp1.out]
 have HNUM : Hid (w.heap.size ≤ p2 ∧ p2 < p3 ∧ p3 < W1.heap.size) := aA ⟨HNp2.out.1, by have h1 := HEp2.out; have h2 := HEp3.out; omega, HNp3.out.2⟩
 go_loopg [12] N (fun gf i wr => ∃ (k : Nat) (ax : Option Addr) (cx : Nat), k + gf = N ∧ i = .int .i64 (k : Int) ∧ Hid (bZ wr p3 #[.slice aw nw cw, .slice ax k cx] 50) ∧ Hid (wr.ownsRow W1.heap.size 62 12 (.slice ax k cx) k (bR gtE (gr.take k))) ∧ Hid (Below w.heap.size w wr) ∧ Hid (bZ wr p2 jL 50) ∧ Hid (W1.heap.size ≤ wr.heap.size))
 case atStart => exact ⟨0, none, 0, by omega, rfl, HXp3, aA (World.ownsRow_nil _ _ _ _), HB, HXp2, aA (Nat.le_refl _)⟩
 case round =>
  obtain ⟨k, ax, cx, hk, rfl, HX3, HO, HBr, HX2, HSZ⟩ := hrel
  cases gk with
  | zero =>
   obtain rfl : k = N := by omega
   have hzk : ¬ ((k : Int) < (k : Int)) := by omega
   have y0 := HX3.out.cell 0 _ rfl
   have y1 := HX3.out.cell 1 _ rfl
   go_wp2_with (refine aP rfl rfl _ _ rfl p2 rfl (cs' := #[.slice aw nw cw, .slice ax k cx]) rfl HX2.out rfl bM (by simp [Value.oneCell']) ?_; intro w5 hb5 hk5; have HX9 := aA hb5; have HK9 := aA hk5; clear hb5 hk5)
   exact bodyPost_ret (v := .agg #[.slice aw nw cw, .slice ax k cx]) (eL Tryz.results11 _ _ p2 rfl HX9.out Tryz.underlying50 rfl bM) rfl ⟨_, rfl, by
    have h1 := bQ (aJ HO.out HK9.out (fun g hg e => by have h1 := (HO.out.lt g hg).1; have h2 := HNUM.out; have e : g = p2 := e; omega)) (by have h2 := HNUM.out; omega : w.heap.size ≤ W1.heap.size)
    rw [HN.out, List.take_length] at h1
    rw [HN.out]
    exact h1, HBr.out.trans (HK9.out.below HBr.out.size (fun g e => by rw [e]; exact HNUM.out.1))⟩
  | succ gi =>
   have hkI : (k : Int) < (N : Int) := by omega
   have hkN : k < N := by omega
   have hkn : k < gr.length := by rw [← HN.out]; omega
   have HTK : Hid (gr.take (k + 1) = gr.take k ++ [gr[k]]) := aA (List.take_succ_eq_append_getElem hkn)
   obtain ⟨en, b, off, hao, hbl, hc⟩ := (HS.out.below HBr.out).at recGt15.len hkn
   subst hao
   have HRX : Hid (∀ j u, (gtE gr[k])[j]? = some u → wr.cell? ⟨b, off + k * 12 + j, none⟩ = some u) := aA hc
   have HTL : Hid ((gr.take k).length = k) := aA (by rw [List.length_take]; omega)
   clear hc hbl en
   generalize gr[k] = y at *
   have hbo := buildOursR y
   have HZ := aA (aN wr #[.int .u8 0, .int .u32 0, .int .u32 0, .int .u8 0, .int .u8 0, .int .u8 0, .int .u8 0, .int .u8 0, .int .u8 0, .int .u8 0, .int .u8 0, .int .u8 0] 73)
   have HZB := aA (aE wr (.cells #[.int .u8 0, .int .u32 0, .int .u32 0, .int .u8 0, .int .u8 0, .int .u8 0, .int .u8 0, .int .u8 0, .int .u8 0, .int .u8 0, .int .u8 0, .int .u8 0] 73))
   go_wp2_with (first
    | (refine aO rfl _ (t := 73) rfl (b) (off + k * 12) rfl (gtE y) HRX.out Tryz.underlying73 rfl infoGt15 ?_)
    | (refine aP rfl rfl _ _ rfl wr.heap.size rfl (cs' := bW y) rfl HZ.out rfl infoGt15 (by simp [Value.oneCell']) ?_; intro W5 hb3 hk3; have HX5 := aA hb3; have HB5 : Hid (Below wr.heap.size wr W5) := aA (HZB.out.trans (hk3.below HZB.out.size (fun k hk => by omega))); have r0 := HX5.out.cell 0 _ rfl; have r1 := HX5.out.cell 1 _ rfl; have r2 := HX5.out.cell 2 _ rfl; have r3 := HX5.out.cell 3 _ rfl; have r4 := HX5.out.cell 4 _ rfl; have r5 := HX5.out.cell 5 _ rfl; have r6 := HX5.out.cell 6 _ rfl; have r7 := HX5.out.cell 7 _ rfl; have r8 := HX5.out.cell 8 _ rfl; have r9 := HX5.out.cell 9 _ rfl; have r10 := HX5.out.cell 10 _ rfl; have r11 := HX5.out.cell 11 _ rfl; have y1 := (HX3.out.belowI HB5.out).cell 1 _ rfl; clear hb3 hk3)
    | (at_builtin; refine dS dJ _ rfl _ _ rfl W1.heap.size (.slice ax k cx) _ (gr.take k) [y] rfl (by rw [HTL.out]; exact aJ HO.out (aC.of_below (fun _ => False) (HB5.out.trans ((aE W5 (.cells (bW y) 62)).mono HB5.out.size))) (fun _ _ h => h)) rfl (dK (enc := gtE) W5 y (bW y) rfl 62) (fun z hz => by simp at hz; subst hz; exact gS _) (by rw [HTL.out]; simp; omega) (Nat.le_trans (Nat.le_trans HSZ.out HB5.out.size) (aE W5 (.cells (bW y) 62)).size) ?_; intro v4 W6 ho4 hg4 _; rw [List.length_append, HTL.out, List.length_singleton, ← HTK.out] at ho4; obtain ⟨a4, c4, hv4, _⟩ := aQ ho4; subst hv4; have HO4 := aA ho4; have HB4 : Hid (Below W1.heap.size W5 W6) := aA (((aE W5 (.cells (bW y) 62)).mono (Nat.le_trans HSZ.out HB5.out.size)).grown hg4 (Nat.le_trans (Nat.le_trans HSZ.out HB5.out.size) (aE W5 (.cells (bW y) 62)).size) (fun j hj => (HO.out.lt j hj).1)); have HX36 : Hid (bZ W6 p3 #[.slice aw nw cw, .slice ax k cx] 50) := aA ((HB4.out.block p3 HNUM.out.2.2).trans (HX3.out.belowI HB5.out)); have z1 := HX36.out.cell 1 _ rfl; have zf := HX36.out.frozen 1; have zl := HX36.out.lt; clear ho4 hg4))
   have HKY : Hid (aC (fun g => g = p3) W6 (W6.setCell ⟨p3, 1, none⟩ (.slice a4 (k + 1) c4))) := aA ((aC.refl (fun g => g = p3) W6).setCell (p := ⟨p3, 1, none⟩) (.inl rfl) _)
   have HX37 : Hid (bZ (W6.setCell ⟨p3, 1, none⟩ (.slice a4 (k + 1) c4)) p3 #[.slice aw nw cw, .slice a4 (k + 1) c4] 50) := aA (HX36.out.set (i := 1) (v := .slice a4 (k + 1) c4))
   have HO7 := aA (aJ HO4.out HKY.out (fun g hg e => by have h1 := (HO4.out.lt g hg).1; have h2 := HNUM.out; have e : g = p3 := e; omega))
   have hB06 : Below w.heap.size w W6 := (HBr.out.trans (HB5.out.mono HBr.out.size)).trans (HB4.out.mono (by have h2 := HNUM.out; omega))
   have HBY := aA (hB06.trans (HKY.out.below hB06.size (fun g e => by have h2 := HNUM.out; have e : g = p3 := e; omega)))
   have HX27 : Hid (bZ (W6.setCell ⟨p3, 1, none⟩ (.slice a4 (k + 1) c4)) p2 jL 50) := aA (bZ.keep (show bZ W6 p2 jL 50 from (HB4.out.block p2 (by have h2 := HNUM.out; omega)).trans (HX2.out.belowI HB5.out)) HKY.out (fun e => by have h2 := HNUM.out; have e : p2 = p3 := e; omega))
   have HSY : Hid (W1.heap.size ≤ (W6.setCell ⟨p3, 1, none⟩ (.slice a4 (k + 1) c4)).heap.size) := aA (by have h1 := HB4.out.size; have h2 := HB5.out.size; have h3 := HSZ.out; have h4 := HKY.out.size; omega)
   clear hB06
   go_roundg gi
   all_goals first
    | (case measure => omega)
    | (case rel => exact ⟨k + 1, a4, c4, by omega, by first | rfl | go_num, HX37, HO7, HBY, HX27, HSY⟩)
end
section
open Go.RowKit
section
variable {P : Program} {ops : Array Oper} {Q : Exit → Act → World → Prop}
theorem wp_region_pars {β : Type} {id : Nat} {a0 : Act} {w : World} (hm : P.follows .mixedOrders = true) (ps : β → List (Option Tmp × Value)) (qs : β → List (Nat × Value)) (I : Nat → Value → World → Prop) (J : β → World → Prop) (hok : eachOk3 ops a0.tmps.size = true)
  (hI : ∀ i v w w', I i v w → Below w.heap.size w w' → I i v w')
  (hds : ∀ b, (ps b).map (·.1) = (List.range ops.size).map (dst? ops)) (hq : ∀ b, jK (ps b) = qs b)
  (hstep : ∀ (i : Nat) (o : Oper), ops[i]? = some o → ∀ (a : Act) (w1 : World), Below w.heap.size w w1 → (∀ t, lB ops t = true → a.tmps.getD t undef = a0.tmps.getD t undef) →
   (∀ e ∈ o.after, Region.binds .any e = true → I e.on (iN ops a e.on) w1) →
   wpOp P ops Q i (fun a' w' => Below w.heap.size w w' ∧ Below w1.heap.size w1 w' ∧ ∃ v, I i v w' ∧ a' = a.put o.dst v ∧ (o.dst = none → v = undef)) a w1)
  (hconv : ∀ (f : Nat → Value) (w1 : World), (∀ i, i < ops.size → I i (f i) w1) → ∃ b, (∀ i, i < ops.size → f i = pvO (ps b) i) ∧ J b w1)
  (hend : ∀ (b : β) (w1 : World), Below w.heap.size w w1 → J b w1 → Q .normal (cA a0 (qs b)) w1) :
  (Code.region id ops true).wp P Q a0 w := by
 refine wp_region_each3 hm I (fun _ W => Below w.heap.size w W) (fun _ W W' => Below W.heap.size W W') hok (fun i j v w w' _ h hB => hI j v w w' h hB) (Below.refl w.heap.size w).drew (fun i o hi listed a w1 _ _ hS hold hdeps => hstep i o hi a w1 hS hold hdeps) (fun listed a w1 hall hS1 hs hd hold hnew2 => ?_)
 obtain ⟨pb, hpb, hJ⟩ := hconv (iN ops a) w1 hnew2
 have hds := hds pb
 have hq := hq pb
 have hnew : ∀ i, i < ops.size → InvO (ps pb) i (iN ops a i) w1 := fun i hi => hpb i hi
 have hend := hend pb w1 hS1 hJ
 generalize qs pb = qs at *
 generalize ps pb = ps at *
 subst hq
 have hlen : ps.length = ops.size := by
  have := congrArg List.length hds
  simpa using this
 obtain ⟨k1, k2, _⟩ := eachOk3_spec hok
 have hat : ∀ i, i < ops.size → ps[i]? = some (dst? ops i, pvO ps i) := by
  intro i hi
  have h1 : i < ps.length := by omega
  have h2 : (ps.map (·.1))[i]? = some (dst? ops i) := by rw [hds]; simp [hi]
  have h3 : ps[i]? = some (ps[i]) := by simp [h1]
  rw [List.getElem?_map, h3] at h2
  simp only [Option.map_some, Option.some.injEq] at h2
  have h4 : pvO ps i = (ps[i]).2 := by simp [pvO, h1]
  rw [h3, h4, ← h2]
 have hpi : ∀ i d, i < ops.size → dst? ops i = some d → (d, pvO ps i) ∈ jK ps := by
  intro i d hi hd
  unfold jK
  rw [List.mem_filterMap]
  exact ⟨_, List.mem_of_getElem? (hat i hi), by rw [hd]; rfl⟩
 have hfst : (jK ps).map (·.1) = (List.range ops.size).filterMap (dst? ops) := by
  have h1 : (jK ps).map (·.1) = (ps.map (·.1)).filterMap (fun x => x) := by
   unfold jK
   rw [List.map_filterMap, List.filterMap_map]
   congr 1
   funext x
   cases hx : x.1 <;> simp [hx]
  rw [h1, hds, List.filterMap_map]
  rfl
 have hnd : ((jK ps).map (·.1)).Nodup := by
  rw [hfst]
  unfold List.Nodup
  rw [List.pairwise_filterMap]
  refine (List.nodup_range (n := ops.size)).imp_of_mem (fun {i j} hi hj hne b hb b' hb' e => ?_)
  subst e
  exact hne (k2 i j b (by simpa using hi) (by simpa using hj) hb hb')
 have e : a = cA a0 (jK ps) := by
  have ht : a.tmps = (cA a0 (jK ps)).tmps := by
   refine Array.ext (by rw [hs, putAll_size]) (fun t h1 h2 => ?_)
   have key : a.tmps.getD t undef = (cA a0 (jK ps)).tmps.getD t undef := by
    by_cases hoff : lB ops t = true
    ·rw [hold t hoff, kN t (jK ps) a0 (fun x hx e => ?_)]
     have hm : x.1 ∈ (jK ps).map (·.1) := List.mem_map_of_mem hx
     rw [hfst, List.mem_filterMap] at hm
     obtain ⟨j, hj, hj2⟩ := hm
     exact lC hoff j (by simpa using hj) (by rw [hj2, e])
    ·unfold lB at hoff
     rw [List.all_eq_true] at hoff
     have hex : ∃ j, j < ops.size ∧ dst? ops j = some t := by
      refine Classical.byContradiction fun hno => hoff (fun j hj => ?_)
      by_cases e : dst? ops j = some t
      ·exact absurd ⟨j, by simpa using hj, e⟩ hno
      ·simpa using e
     obtain ⟨j, hj, hjt⟩ := hex
     have hv := hnew j hj
     unfold InvO iN at hv
     rw [hjt] at hv
     simp only at hv
     rw [hv, putAll_at _ (pvO ps j) (jK ps) a0 (by omega) hnd (hpi j t hj hjt)]
   simpa [Array.getD_eq_getD_getElem?, h1, h2] using key
  have hd2 := jW (jK ps) a0
  cases a with
  | mk t d =>
   cases hp : cA a0 (jK ps) with
   | mk t2 d2 =>
    rw [hp] at ht hd2
    simp only at ht hd hd2
    rw [ht, hd, hd2]
 rw [e]
 exact hend
theorem eK {w : World} {i : Nat} {o : Oper} {a : Act} {w1 : World} {v : Value} {I : Nat → Value → World → Prop} (hi : ops[i]? = some o) (hw : Region.wanted o (yielded ops a.tmps) = true) {d : Tmp} (hd : o.dst = some d)
  (hr : (execOp a.eval o).run P w1 = .ok (.value v) w1) (hB : Below w.heap.size w w1) (hv : I i v w1) : wpOp P ops Q i (fun a' w' => Below w.heap.size w w' ∧ Below w1.heap.size w1 w' ∧ ∃ v, I i v w' ∧ a' = a.put o.dst v ∧ (o.dst = none → v = undef)) a w1 :=
 eA (S := fun W => Below w.heap.size w W) (R := fun W => Below w1.heap.size w1 W) hi hw hd hr hB (Below.refl _ _) hv
theorem jV {w : World} {i : Nat} {o : Oper} {a : Act} {w1 : World} {f : FuncId} {args : Array Value} {I : Nat → Value → World → Prop} (hi : ops[i]? = some o) (hw : Region.wanted o (yielded ops a.tmps) = true) {d : Tmp} (hd : o.dst = some d)
  (hr : (execOp a.eval o).run P w1 = .ok (.enter f args) w1) (hB : Below w.heap.size w w1) (h : Calls P f args w1 fun e w' => ∃ v, e = .returned v ∧ I i v w' ∧ Below w1.heap.size w1 w') : wpOp P ops Q i (fun a' w' => Below w.heap.size w w' ∧ Below w1.heap.size w1 w' ∧ ∃ v, I i v w' ∧ a' = a.put o.dst v ∧ (o.dst = none → v = undef)) a w1 :=
 t_enter (S := fun W => Below w.heap.size w W) (R := fun W => Below w1.heap.size w1 W) hi hw hd hr (h.mono fun _ _ ⟨v, he, hI, hB2⟩ => ⟨v, he, hB.trans (hB2.mono hB.size), hB2, hI⟩)
end
end
section
open Go.RowKit Go.Maps Classical
theorem flat_rowT {l : List TxN} : bR txE3 l = bV (l.map txI) := by
 unfold bR bV
 rw [List.flatMap_map]
structure RowW where
 aw : Option Value
 e : TypeId
 sz : Nat
 n : Nat
 xs : List Value
abbrev RowW.row (e : TypeId) (sz n : Nat) (xs : List Value) : RowW := ⟨none, e, sz, n, xs⟩
abbrev RowW.out (aw : Value) (e : TypeId) (sz n : Nat) (xs : List Value) : RowW := ⟨some aw, e, sz, n, xs⟩
def RowW.is (B : Nat) (p : RowW) (v : Value) (W : World) : Prop :=
 match p.aw with
 | none => W.ownsRow B p.e p.sz v p.n p.xs
 | some aw => ∃ v', v = .agg #[aw, v'] ∧ W.ownsRow B p.e p.sz v' p.n p.xs
theorem RowW.keep {B : Nat} (p : RowW) (v : Value) (w w' : World) (h : p.is B v w) (hB : Below w.heap.size w w') : p.is B v w' := by
 obtain ⟨aw, e, sz, n, xs⟩ := p
 cases aw with
 | none => exact aJ (show w.ownsRow B e sz v n xs from h) (aC.of_below (fun _ => False) hB) (fun _ _ h => h)
 | some aw =>
  obtain ⟨v', e1, h1⟩ := h
  exact ⟨v', e1, aJ h1 (aC.of_below (fun _ => False) hB) (fun _ _ h => h)⟩
def ExI (B : Nat) (exs : List (Option RowW)) (vals : List Value) (i : Nat) (v : Value) (W : World) : Prop :=
 match exs.getD i none with
 | some p => p.is B v W
 | none => v = vals.getD i undef
theorem exI_keep {B : Nat} {exs : List (Option RowW)} {vals : List Value} (i : Nat) (v : Value) (w w' : World) (h : ExI B exs vals i v w) (hB : Below w.heap.size w w') : ExI B exs vals i v w' := by
 unfold ExI at h ⊢
 cases he : exs.getD i none with
 | none => rw [he] at h; exact h
 | some p => rw [he] at h; exact p.keep v w w' h hB
theorem en_ours15 : ∀ args w, (callFunc 11 args).run Tryz.prog w = .ok (.enter 11 args) w := enters_of Tryz.func11 (by kernel_rfl) rfl
theorem en_same15 : ∀ args w, (callFunc 10 args).run Tryz.prog w = .ok (.enter 10 args) w := enters_of Tryz.func10 (by kernel_rfl) rfl
theorem en_same5 : ∀ args w, (callFunc 12 args).run Tryz.prog w = .ok (.enter 12 args) w := enters_of Tryz.func12 (by kernel_rfl) rfl
theorem en_lusers : ∀ args w, (callFunc 13 args).run Tryz.prog w = .ok (.enter 13 args) w := enters_of Tryz.func13 (by kernel_rfl) rfl
theorem en_rusers : ∀ args w, (callFunc 14 args).run Tryz.prog w = .ok (.enter 14 args) w := enters_of Tryz.func14 (by kernel_rfl) rfl
theorem en_lqueue : ∀ args w, (callFunc 15 args).run Tryz.prog w = .ok (.enter 15 args) w := enters_of Tryz.func15 (by kernel_rfl) rfl
theorem en_rqueue : ∀ args w, (callFunc 16 args).run Tryz.prog w = .ok (.enter 16 args) w := enters_of Tryz.func16 (by kernel_rfl) rfl
theorem en_lmode : ∀ args w, (callFunc 17 args).run Tryz.prog w = .ok (.enter 17 args) w := enters_of Tryz.func17 (by kernel_rfl) rfl
theorem en_rmode : ∀ args w, (callFunc 18 args).run Tryz.prog w = .ok (.enter 18 args) w := enters_of Tryz.func18 (by kernel_rfl) rfl
theorem en_lwaits : ∀ args w, (callFunc 19 args).run Tryz.prog w = .ok (.enter 19 args) w := enters_of Tryz.func19 (by kernel_rfl) rfl
theorem en_rwaits : ∀ args w, (callFunc 20 args).run Tryz.prog w = .ok (.enter 20 args) w := enters_of Tryz.func20 (by kernel_rfl) rfl
theorem en_lprep : ∀ args w, (callFunc 21 args).run Tryz.prog w = .ok (.enter 21 args) w := enters_of Tryz.func21 (by kernel_rfl) rfl
theorem en_rprep : ∀ args w, (callFunc 22 args).run Tryz.prog w = .ok (.enter 22 args) w := enters_of Tryz.func22 (by kernel_rfl) rfl
theorem neq_boolS (b : Bool) (w : World) : (binOp .neq 4 (.bool b) (.bool b)).run Tryz.prog w = .ok (.bool false) w := by cases b <;> kernel_rfl
theorem neq_u8S (R : Int) (w : World) : (binOp .neq 5 (.int .u8 R) (.int .u8 R)).run Tryz.prog w = .ok (.bool false) w := by simp [go_sem]
theorem yla_key {ρ : Operand → Value} {w : World} {dst : Option Tmp} {ty : TypeId} {pos : String} {aft : Array Edge} {gd : Option (Nat × Bool)} (x : Operand) {p : Nat} (hx : ρ x = .pointer (some ⟨p, 0, none⟩)) : (execOp ρ ⟨dst, .fieldAddr 41 x 2, ty, pos, aft, gd⟩).run Tryz.prog w = .ok (.value (.pointer (some ⟨p, 5, none⟩))) w := by simp [go_sem, hx]
section
variable {r C : Nat} {G : Nat → Prop} {l : List (aS KeyT)} {w : World}
theorem rl_users (h : dR w r G C l) : Calls Tryz.prog 14 #[.pointer (some ⟨r, 0, none⟩)] w fun e w' => ∃ v, e = .returned v ∧ w'.ownsRow w.heap.size 34 3 v l.length (bV (l.map fun x => txI x.tx)) ∧ Below w.heap.size w w' := by
 obtain ⟨vL, vH, vW, L, H, W, hT, hr, hb, hc, _⟩ := h
 have h1 := rusers_any15 r vL vH vW L H W w hT (by rw [hr.us, List.length_map]; have := hb.few; omega)
 rw [hr.us, List.length_map, List.map_map] at h1
 exact h1
theorem rl_queue (h : dR w r G C l) (hC : C ≤ 10000) (k : KeyT) : Calls Tryz.prog 16 #[.pointer (some ⟨r, 0, none⟩), .agg (aK k.1)] w fun e w' => ∃ v, e = .returned v ∧ w'.ownsRow w.heap.size 34 3 v (cS l k).length (bV ((cS l k).map txI)) ∧ Below w.heap.size w w' := by
 obtain ⟨vL, vH, vW, L, H, W, hT, hr, hb, hc, _⟩ := h
 exact rque_any15 r vL vH vW L l H W k w hT hr hb (by omega)
theorem rl_mode (h : dR w r G C l) (hC : C ≤ 10000) (t : TxN) (k : KeyT) : Calls Tryz.prog 18 #[.pointer (some ⟨r, 0, none⟩), aV t, .agg (aK k.1)] w fun e w' => e = .returned (.int .u8 ((aT l t).h k : Int)) ∧ Below w.heap.size w w' := by
 obtain ⟨vL, vH, vW, L, H, W, hT, hr, hb, hc, _⟩ := h
 exact rmode_any15 r vL vH vW L l H W t k w hT hr.h hb (by omega)
theorem rl_waits (h : dR w r G C l) (hC : C ≤ 10000) (t : TxN) : Calls Tryz.prog 20 #[.pointer (some ⟨r, 0, none⟩), aV t] w fun e w' => ∃ B, e = .returned (.bool B) ∧ (B = true ↔ ∃ k, (aT l t).w k ≠ 0) ∧ Below w.heap.size w w' := by
 obtain ⟨vL, vH, vW, L, H, W, hT, hr, hb, hc, _⟩ := h
 exact rwaits_any15 r vL vH vW L l H W t w hT hr.w hb (by omega)
theorem rl_prep (h : dR w r G C l) (t : TxN) : Calls Tryz.prog 22 #[.pointer (some ⟨r, 0, none⟩), aV t] w fun e w' => e = .returned (.bool (aT l t).pr) ∧ Below w.heap.size w w' := by
 obtain ⟨vL, vH, vW, L, H, W, hT, hr, hb, hc, _⟩ := h
 obtain rfl := hr.us
 exact rprep_any15 r vL vH vW l H W t w hT hb
end
abbrev tx3R (t : TxN) : List Value := [.int .u8 (t.1 : Int), .int .u32 (t.2.1 : Int), .int .u32 (t.2.2 : Int)]
theorem got_txR {w : World} {p : Nat} {g : cD KeyT} (h : bZ w p (bW g) 62) : w.rangeAt p 0 (tx3R g.tx) := fun j v hv => by
 have hj : j < 3 := (List.getElem?_eq_some_iff.1 hv).1
 refine h.cell (0 + j) v ?_
 match j, hj with
 | 0, _ => exact hv
 | 1, _ => exact hv
 | 2, _ => exact hv
theorem got_keyR {w : World} {p : Nat} {g : cD KeyT} (h : bZ w p (bW g) 62) : w.rangeAt p (0 + 3) (bP g.key.1) := fun j v hv => by
 have hj : j < 8 := (List.getElem?_eq_some_iff.1 hv).1
 refine h.cell (0 + 3 + j) v ?_
 match j, hj with
 | 0, _ => exact hv
 | 1, _ => exact hv
 | 2, _ => exact hv
 | 3, _ => exact hv
 | 4, _ => exact hv
 | 5, _ => exact hv
 | 6, _ => exact hv
 | 7, _ => exact hv
end
section
theorem onr_len : ∀ {gr : List (cD KeyT)} {l l' : List (aS KeyT)}, OnR cQ l gr l' → ∀ {W : List (cD KeyT)}, LsR l aS.w W → gr.length ≤ W.length
 | [], _, _, _, _, _ => Nat.zero_le _
 | ⟨t, k, _⟩ :: gr, l, l', h, W, hW => by
  have hR : OnR cQ (bG l t (iL k)) gr l' := h.2.2
  have hP : Pick cQ l t k := h.1
  obtain ⟨u, hu, htx, hw, _, _⟩ := hP
  have hin : (⟨t, k, u.w k⟩ : cD KeyT) ∈ W := (hW.m t k (u.w k)).2 ⟨hw, u, hu, htx, rfl⟩
  have hless := hW.less (g := ⟨t, k, u.w k⟩) (φ := iL k) (fun _ => rfl) (fun u => by show (iL k u).w k = 0; unfold iL; simp) (fun u k' hk => by show (iL k u).w k' = u.w k'; unfold iL; exact if_neg hk) (H' := W.filter fun x => decide (¬ (x.tx = t ∧ x.key = k))) (hW.u.filter _) (fun x => by rw [List.mem_filter, decide_eq_true_eq])
  have h1 := onr_len hR hless
  have h2 : (W.filter fun x => decide (¬ (x.tx = t ∧ x.key = k))).length < W.length := List.length_filter_lt_length_iff_exists.2 ⟨_, hin, by simp⟩
  rw [List.length_cons]
  omega
theorem less_ls {l : List (aS KeyT)} {W : List (cD KeyT)} (h : LsR l aS.w W) (ts : List TxN) : ∀ n, n ≤ ts.length → ∃ W', LsR (cY l (ts.take n)) aS.w W' ∧ W'.length ≤ W.length
 | 0, _ => ⟨W, by rw [List.take_zero, less_nilR]; exact h, Nat.le_refl _⟩
 | n + 1, hn => by
  obtain ⟨W', h1, h2⟩ := less_ls h ts n (by omega)
  have h3 := h1.drop (ts[n]'(by omega))
  rw [less_next (by omega)] at h3
  exact ⟨_, h3, Nat.le_trans (List.length_filter_le _ _) h2⟩
theorem would_len {a : LAct} {w : World} {r C : Nat} {F : Nat → Prop} {l l' : List (aS KeyT)} {e : Int} {wn : List TxN} {gr : List (cD KeyT)} (h : dR w r F C l) (ht : kJ a.t) (htm : a.tm < 4294967296) (hR : WouldR a l e l' wn gr) : gr.length ≤ C + 1 := by
 obtain ⟨vL, vH, vW, L, H, W, hT, hr, hb, hc, _⟩ := h
 rcases hR with ⟨_, h1, _⟩ | ⟨_, h1, _⟩ | ⟨_, _, _, rfl⟩ | ⟨_, h1⟩
 ·rcases h1 with ⟨_, rfl, _⟩ | ⟨x, _, _, _, ho⟩
  ·exact Nat.zero_le _
  ·have := onr_len ho (hr.w.upd a.t (φ := cK) (fun _ => rfl) (fun _ _ => rfl))
   omega
 ·rcases h1 with ⟨_, rfl, _⟩ | ⟨x, _, _, ho⟩
  ·exact Nat.zero_le _
  ·have := onr_len ho (hr.w.drop a.t)
   have := List.length_filter_le (fun g : cD KeyT => decide (g.tx ≠ a.t)) W
   omega
 ·exact Nat.zero_le _
 ·rcases h1 with ⟨_, _, rfl, _⟩ | ⟨hm, hp, hf, hh, _, _, ho⟩
  ·exact Nat.zero_le _
  ·have hA : eF (cZ l a.t a.tm) ((cZ l a.t a.tm).map usR) H W := by
    cases hu : cM l a.t with
    | none =>
     unfold cZ
     rw [hu, Option.isSome_none, if_neg (by simp)]
     exact ⟨rfl, hr.h.ins (fun _ => rfl), hr.w.ins (fun _ => rfl)⟩
    | some x =>
     unfold cZ
     rw [hu, Option.isSome_some, if_pos rfl]
     exact ⟨rfl, hr.h, hr.w⟩
   have hB := ask_bR hb (tm := a.tm) ht htm hf
   have hm0 : a.m ≠ 0 := by omega
   have hW : ∃ W', LsR (bG (cZ l a.t a.tm) a.t (bF a.k a.m)) aS.w W' ∧ W'.length ≤ W.length + 1 := by
    by_cases hi : ∃ i, ∃ hi : i < W.length, W[i].tx = a.t ∧ W[i].key = a.k
    ·obtain ⟨i, hi, e1, e2⟩ := hi
     obtain ⟨h1, _, _, _, h2⟩ := wait_rep (k := a.k) hA hB.1 hB.2 hm0 (.inl ⟨i, hi, e1, e2, rfl, rfl⟩)
     exact ⟨_, h1.w, h2⟩
    ·obtain ⟨h1, _, _, _, h2⟩ := wait_rep (k := a.k) hA hB.1 hB.2 hm0 (.inr ⟨fun x hx e => by
      obtain ⟨i, hi2, rfl⟩ := List.getElem_of_mem hx
      exact hi ⟨i, hi2, e⟩, rfl, rfl⟩)
     exact ⟨_, h1.w, h2⟩
   obtain ⟨W', h2, h3⟩ := hW
   obtain ⟨W2, h4, h5⟩ := less_ls h2 wn wn.length (Nat.le_refl _)
   rw [List.take_length] at h4
   have := onr_len ho h4
   omega
end
end Go.Proofs.YtiloagmkkhlfjaaGreat
