/-
  Own texts put together: IdBox, IdIter, IdColl, TxKit, TbIter, TbColl, CopyAt, IdCmp, IdCmp3, TbSort. Own work.
-/
import Derived.Test.YtiloagmkkhlfjaaGreatG01
import Derived.Test.YtiloagmkkhlfjaaGreatG07
import Derived.Test.YtiloagmkkhlfjaaGreatG05
import Derived.Test.YtiloagmkkhlfjaaGreatG04
import Derived.RangeFuncNested
import Derived.RangeFuncLeaves
import Derived.RangeFuncBox
import Derived.Sort.MapsRangeIn
import Derived.Sort.KeysCollected
import Derived.Shelf.Abstract
import Derived.OwnWalkIn
import Derived.TacticsInMore
import Derived.LoopNIn
import Derived.LoopIn
import Derived.Laws.CopyRow
import Derived.Laws.IdiomCopy
import Derived.Lib.BufferWrite
import Derived.Lib.BytesEntry
import Derived.Deep.RegionHeldLaw
import Derived.Deep.QuietTactic
import Derived.BigQuiet
import Derived.Sort.Grow
import Derived.Test.YtiloagmkkhlfjaaGreatIdLayK
import Derived.Shelf.SlSortCmp.NoneTotal
import Derived.Sort.OwnSorted
namespace Go.Proofs.YtiloagmkkhlfjaaGreat
set_option maxRecDepth 100000
section
open Go.RowKit
theorem bZ.two {w : World} {p : Nat} {a b : Value} {t : TypeId} (h : bZ w p #[a, b] t) : w.cell? ⟨p, 0, none⟩ = some a ∧ w.cell? ⟨p, 1, none⟩ = some b := ⟨h.cell 0 _ rfl, h.cell 1 _ rfl⟩
theorem bZ.three {w : World} {p : Nat} {a b c : Value} {t : TypeId} (h : bZ w p #[a, b, c] t) : w.cell? ⟨p, 0, none⟩ = some a ∧ w.cell? ⟨p, 1, none⟩ = some b ∧ w.cell? ⟨p, 2, none⟩ = some c := ⟨h.cell 0 _ rfl, h.cell 1 _ rfl, h.cell 2 _ rfl⟩
theorem bZ.four {w : World} {p : Nat} {a b c d : Value} {t : TypeId} (h : bZ w p #[a, b, c, d] t) : w.cell? ⟨p, 0, none⟩ = some a ∧ w.cell? ⟨p, 1, none⟩ = some b ∧ w.cell? ⟨p, 2, none⟩ = some c ∧ w.cell? ⟨p, 3, none⟩ = some d := ⟨h.cell 0 _ rfl, h.cell 1 _ rfl, h.cell 2 _ rfl, h.cell 3 _ rfl⟩
theorem bZ.eight {w : World} {p : Nat} {a b c d e f g i : Value} {t : TypeId} (h : bZ w p #[a, b, c, d, e, f, g, i] t) : w.cell? ⟨p, 0, none⟩ = some a ∧ w.cell? ⟨p, 1, none⟩ = some b ∧ w.cell? ⟨p, 2, none⟩ = some c ∧ w.cell? ⟨p, 3, none⟩ = some d ∧ w.cell? ⟨p, 4, none⟩ = some e ∧ w.cell? ⟨p, 5, none⟩ = some f ∧ w.cell? ⟨p, 6, none⟩ = some g ∧ w.cell? ⟨p, 7, none⟩ = some i :=
 ⟨h.cell 0 _ rfl, h.cell 1 _ rfl, h.cell 2 _ rfl, h.cell 3 _ rfl, h.cell 4 _ rfl, h.cell 5 _ rfl, h.cell 6 _ rfl, h.cell 7 _ rfl⟩
theorem bZ.belowI {w w' : World} {p : Nat} {cs : Array Value} {t : TypeId} (h : bZ w p cs t) (hB : Below w.heap.size w w') : bZ w' p cs t := h.keep (aC.of_below (fun _ => False) hB) id
theorem jP {B n : Nat} {w w' : World} (h : Below B w w') : Below B w (w'.drewN n) := ⟨h.os, h.tape, h.output, h.size, h.block⟩
theorem drewN2 (w : World) (a b : Nat) : (w.drewN a).drewN b = w.drewN (a + b) := by simp [World.drewN, Nat.add_assoc]
theorem drewN3 (w : World) (a b c : Nat) : ((w.drewN a).drewN b).drewN c = w.drewN (a + b + c) := by simp [World.drewN, Nat.add_assoc]
theorem new_at (W : World) (cs : Array Value) (t : TypeId) (B i : Nat) (v : Value) (hb : B = W.heap.size) (hv : cs[i]? = some v) : (W.alloc (.cells cs t)).cell? ⟨B, i, none⟩ = some v := by
 subst hb
 exact (aN W cs t).cell i v hv
theorem new_cell (W : World) (cs : Array Value) (t : TypeId) (B i : Nat) (v : Value) (hb : B = W.heap.size) (hv : cs[i]? = some v) : (W.alloc (.cells cs t)).drew.cell? ⟨B, i, none⟩ = some v := by
 subst hb
 exact (aN W cs t).cell i v hv
end
section
open Go.RowKit Go.Maps Go.Shelf
attribute [local go_sem] Oper.semAt_some
section StoreIn
variable {P : Program} {F : Fence} {n : Nat} {ops : Array Oper} {rest : List Oper} {op : Oper} {a : Act} {w : World} {Q : Exit → Act → World → Prop}
theorem wpIn_store_box {t t0 : TypeId} (hgd : op.guard = none) (hdst : op.dst = none) (x y : Operand) (ho : op.op = .store t x y)
  (p : Nat) (hx : a.eval x = .pointer (some ⟨p, 0, none⟩)) {cs cs' : Array Value} (hy : a.eval y = .agg cs') (hb : bZ w p cs t0) (hsz : cs.size = cs'.size) (hi : (P.info? t).map (·.size) = some cs'.size) (h1 : cs'.all (·.oneCell') = true)
  (h : ∀ w', bZ w' p cs' t0 → aC (fun k => k = p) w w' → wpListIn F n P ops Q rest a w') : wpListIn F n P ops Q (op :: rest) a w := by
 refine wpListIn_plain hgd fun K hK => ?_
 have hr := run_storeVar_row (P := P) w p t0 t cs cs' hb hi hsz h1
 unfold Oper.wpIn
 refine ⟨by simp [Oper.about, ho], ?_⟩
 rw [Oper.semAt_plain F _ _ (by rw [ho]; intro c hc'; cases hc')]
 unfold execOp
 simp only [ho, hx, hy, Instr.storeAt, Instr.sureAddr, Sem.run_bind, Sem.run_pure, Result.andThen_ok, hr]
 show K (a.put op.dst undef) _
 rw [hdst]
 refine hK _ _ (h _ ?_ ?_)
 ·exact setRow_heap w p cs cs' t0 (0, 0) hb
 ·exact ⟨rfl, rfl, rfl, by simp [World.setRow], fun k _ hS => setRow_other w p k cs' hS⟩
end StoreIn
theorem infoTx3 : (Tryz.prog.info? 34).map (·.size) = some 3 := by kernel_rfl
theorem grown_new {w w' : World} (o : Obj) (hk : aC (fun k => k = w.heap.size) (w.alloc o) w') : w.grownBy w' none :=
 ⟨hk.os, hk.tape, hk.output, by have := hk.size; simp at this; omega, fun k hlt _ => (hk.block k (by simp; omega) (by omega)).trans (Below.heap_alloc _ _ k hlt)⟩
def Met (D0 : DataW Unit) (left : Lit → Bool) (ss : List TxP) : Prop := ss.Nodup ∧ (∀ t ∈ ss, jY t) ∧ ∀ t, jY t → (t ∈ ss ↔ (has D0 (cV t) = true ∧ left (cV t) = false))
theorem Met.start (D0 : DataW Unit) : Met D0 (has D0) [] := ⟨List.nodup_nil, by simp, fun t _ => by cases has D0 (cV t) <;> simp⟩
theorem Met.step {D0 : DataW Unit} {left : Lit → Bool} {ss : List TxP} (h : Met D0 left ss) {t : TxP} (ht : jY t) {y : DataW Unit} (hlk : left (cV t) = true) (hat : ∀ zd, D0.atKey (cV t) zd = y) : Met D0 (fun z => left z && !z.sameKey (cV t)) (ss ++ [t]) := by
 have hhas : has D0 (cV t) = true := has_true_of_atKey hat
 have hnew : t ∉ ss := fun hx => by have := ((h.2.2 t ht).1 hx).2; rw [hlk] at this; cases this
 refine ⟨List.nodup_append.2 ⟨h.1, by simp, fun a ha b hb => by simp at hb; subst hb; exact fun e => hnew (e ▸ ha)⟩, fun u hu => ?_, fun u hu => ?_⟩
 ·rcases List.mem_append.1 hu with hu | hu
  ·exact h.2.1 u hu
  ·simp at hu; subst hu; exact ht
 ·by_cases hy : u = t
  ·subst hy
   have hss : (cV u).sameKey (cV u) = true := by unfold cV; simp [Lit.sameKey]
   simp [hhas, hss]
  ·have hne : cV u ≠ cV t := fun e => hy (txKey_inj hu ht e)
   have hsk : (cV u).sameKey (cV t) = false := by
    unfold cV at hne ⊢
    simp [Lit.sameKey]
    intro e
    exact hne (by rw [e])
   simp [h.2.2 u hu, hy, hsk]
def NamesOf (D : DataW Unit) (ss : List TxP) : Prop := ss.Nodup ∧ (∀ t ∈ ss, jY t) ∧ ∀ t, jY t → (t ∈ ss ↔ has D (cV t) = true)
theorem Met.done {D0 : DataW Unit} {left : Lit → Bool} {ss : List TxP} (h : Met D0 left ss) (hl : ∀ kl, left kl = false) : NamesOf D0 ss := ⟨h.1, h.2.1, fun t ht => by rw [h.2.2 t ht, hl]; simp⟩
end
section
open Go.RowKit Go.Maps Go.Shelf
attribute [local go_sem] Oper.semAt_some
abbrev txCs (t : TxP) : List Value := [.int .u8 t.1, .int .u32 t.2.1, .int .u32 t.2.2]
def bV (ss : List TxP) : List Value := ss.flatMap txCs
theorem iR (ss : List TxP) : (bV ss).length = ss.length * 3 := by
 induction ss with
 | nil => rfl
 | cons t r ih => unfold bV at *; simp [List.flatMap_cons, ih]; omega
theorem rowOf_append (ss ts : List TxP) : bV (ss ++ ts) = bV ss ++ bV ts := by unfold bV; simp
theorem infoTxs : (Tryz.prog.info? 34).map (fun i => (i.zero, i.size, i.bytes)) = some (some (.agg #[.int .u8 0, .int .u32 0, .int .u32 0]), 3, 12) := by kernel_rfl
theorem bZ.grownI {W W' : World} {row : Option Nat} {B : Nat} {cs : Array Value} {t : TypeId} (h : bZ W B cs t) (hg : W.grownBy W' row) (hr : ∀ r, row = some r → ∃ o : Obj, W.heap[r]? = some o ∧ o.isCells = false) : bZ W' B cs t :=
 (hg.block B h.lt (fun e => by
  obtain ⟨o, ho, hc⟩ := hr B e.symm
  have hb : W.heap[B]? = _ := h
  rw [hb] at ho; cases ho; cases hc)).trans h
theorem cells_news (W : World) (x : TxP) (o : Obj) (ho : o = .cells #[.int .u8 x.1, .int .u32 x.2.1, .int .u32 x.2.2] 34) : ∀ j u, (txCs x)[j]? = some u → (W.alloc o).cell? (Addr.add ⟨W.heap.size, 0, none⟩ j) = some u := by
 intro j u hu
 subst ho
 rw [Addr.add_lit, Nat.zero_add]
 exact (aN W _ _).cell j u (by simpa using hu)
set_option maxHeartbeats 2000000 in
theorem appendSeq_in (n : Nat) (hn : 2 ≤ n) (g : Nat) (lb : Array Value) (eg : ∀ args w, (callFunc g args).run Tryz.prog w = .ok (.enter g args) w) (S : List TxP → Prop) (N : Nat) (hN : N ≤ 1000000) (w : World)
  (hseq : SeqStopsK Fence.wide (n - 1) Tryz.prog g lb (fun x : TxP => #[txV x]) KeepsWalks S (fun _ => True) N w) :
  CallsIn Fence.wide n Tryz.prog 86 #[.slice none 0 0, .func (.func g) #[] lb] w fun e w' => ∃ (v : Value) (ss : List TxP), e = .returned v ∧ S ss ∧ w'.ownsRow w.heap.size 34 3 v ss.length (bV ss) ∧ Below w.heap.size w w' := by
 have h1 : 1 ≤ n := by omega
 have HI := aA infoTx3
 obtain ⟨i0, hi, hz0, hz1, hz2⟩ := info_parts infoTxs
 have hF : Fence.wide.fn 86 := trivial
 refine callsIn_of_wp_marks Tryz.func86 rfl hF ?_ rfl
 simp only [Tryz.ntmps86, List.size_toArray, List.length_cons, List.length_nil, Nat.reduceAdd, Nat.reduceSub, Array.replicate_succ, Array.replicate_zero, List.push_toArray, List.append_toArray, List.nil_append, List.cons_append]
 gi_wp2
 have bO := Boxed.new w 42 (.slice none 0 0)
 have hB0 : Below w.heap.size w (w.alloc (.cells #[.slice none 0 0] 42)) := (Below.refl _ w).alloc (Nat.le_refl _) _
 have hI : OwnFrom (w.alloc (.cells #[.slice none 0 0] 42)).heap.size (fun (pre : List TxP) W => (∃ v, Boxed W w.heap.size 42 v ∧ W.ownsRow w.heap.size 34 3 v pre.length (bV pre) ∧ True) ∧ Below w.heap.size w W) :=
  OwnFrom.and (Own.from (holdsRow_own w.heap.size w.heap.size 42 34 3 (fun pre : List TxP => pre.length) bV (fun _ _ => True)) _) (ownFrom_below (Nat.le_refl _) (by simp))
 refine wpIn_rangeFunc_ownH rfl h1 (gf := g) (lb := lb) rfl trivial eg hseq walksK_t walksK_b hB0 (fun _ => rfl)
  (fun pre W => (∃ v, Boxed W w.heap.size 42 v ∧ W.ownsRow w.heap.size 34 3 v pre.length (bV pre) ∧ True) ∧ Below w.heap.size w W)
  (fun _ _ _ => False) hI (fun _ _ _ _ _ hs _ _ => hs) ⟨⟨_, bO, World.ownsRow_nil _ _ _ _, trivial⟩, hB0⟩
  (fun x a' W => ∃ q, a' = { tmps := #[.slice none 0 0, .func (.func g) #[] lb, .pointer (some ⟨w.heap.size, 0, none⟩), undef, .slice none 0 0, .pointer (some ⟨q, 0, none⟩), .func (.func g) #[] lb, txV x, undef, undef, undef, undef, undef], defers := [] } ∧ bZ W q #[.int .u8 x.1, .int .u32 x.2.1, .int .u32 x.2.2] 34)
  (fun x a' s X Y row hs hg hr => by
   obtain ⟨q, e, hb⟩ := hs
   exact ⟨q, e, hb.grownI hg (fun r e => (hr r e).2)⟩) ?assign ?body ?done ?stop
 case assign =>
  rintro l pre ⟨xa, xb, xc⟩ W K hi2 hK
  have HX := aA (aN W #[.int .u8 0, .int .u32 0, .int .u32 0] 34)
  gi_wp2_with (refine wpIn_store_box (cs' := #[.int .u8 xa, .int .u32 xb, .int .u32 xc]) rfl rfl _ _ rfl _ rfl rfl HX.out rfl HI.out (by simp [Value.oneCell']) ?_; intro w3 hb3 hk3; have HB3 := aA hb3; have HK3 := aA hk3; clear hb3 hk3)
  have hg3 := grown_new _ HK3.out
  exact hK _ _ (KeepsFrom.of_grownBy hg3 (fun j e => by cases e)) (KeepsWalks.of_grownBy hg3 (fun j o e => by cases e)) (hI pre W w3 none hi2 hg3 (fun r e => by cases e)) ⟨_, rfl, HB3.out⟩
 case body =>
  rintro l pre ⟨xa, xb, xc⟩ a' W hl hrec ⟨⟨v, hv, hrow, _⟩, hB⟩ ⟨q, rfl, hbx⟩ hlt
  have hc := hv.cell
  obtain ⟨z0, z1, z2⟩ := hbx.three
  have zl := hbx.lt
  have HBX := aA hbx
  have HN := aA (cells_news W (xa, xb, xc) _ rfl)
  clear hbx hrec
  gi_wp2_with (gi_at_builtin; refine wpListIn_append_own _ rfl _ _ 42 rfl w.heap.size 34 i0 _ 3 12 Tryz.underlying42 hi hz0 hz1 hz2 rfl (by decide) _ _ _ rfl (hrow.alloc _) ⟨W.heap.size, 0, none⟩ 1 1 (txCs (xa, xb, xc)) rfl rfl HN.out (by simp [Value.oneCell']) (by unfold maxLen; omega) (by omega) (by have := hB.size; simp; omega) ?_; intro v' w1 hown' hgrow _; obtain ⟨g', cap', rfl⟩ := ownsRow_succ hown'; obtain ⟨hv1, hv2, hr2, hk2, hb2⟩ := hv.appended (by decide) hrow hB.size (Nat.le_refl _) hown' hgrow; have hc1 := hv1.cell; have hf1 := hv1.frozen; have HR2 := aA hr2; have HK2 := aA hk2; have HB2 := aA hb2; have HV2 := aA hv2; clear hr2 hk2 hb2 hv2 hown' hgrow)
  have hro : bV (pre ++ [(xa, xb, xc)]) = bV pre ++ txCs (xa, xb, xc) := by rw [rowOf_append]; simp [bV]
  have hle : (pre ++ [(xa, xb, xc)]).length = pre.length + 1 := by simp
  refine ⟨HK2.out.from _, HK2.out.walks, ⟨_, HV2.out, ?_⟩, hB.trans HB2.out⟩
  rw [hro, hle]
  exact HR2.out
 case done =>
  rintro D ys W hD hS ⟨⟨v, hv, hrow, _⟩, hB⟩ hK
  have hc := hv.cell
  gi_wp2
  refine ⟨by simp, .inl ⟨_, _, rfl, run_takeDeferred hK, ?_⟩⟩
  exact ⟨_, results_tmp rfl _ _ _, v, ys, rfl, hS, ownsRow_putObj hrow _ hK rfl, hB.trans (belowK_b (w := w) (Nat.le_refl _) W D _ _ (by simp at hD; omega) hK rfl rfl)⟩
 case stop =>
  rintro D c pre W _ _ h _
  exact h.elim
theorem collect_in (n : Nat) (hn : 3 ≤ n) (g : Nat) (lb : Array Value) (eg : ∀ args w, (callFunc g args).run Tryz.prog w = .ok (.enter g args) w) (S : List TxP → Prop) (N : Nat) (hN : N ≤ 1000000) (w : World)
  (hseq : SeqStopsK Fence.wide (n - 1 - 1) Tryz.prog g lb (fun x : TxP => #[txV x]) KeepsWalks S (fun _ => True) N w) :
  CallsIn Fence.wide n Tryz.prog 61 #[.func (.func g) #[] lb] w fun e w' => ∃ (v : Value) (ss : List TxP), e = .returned v ∧ S ss ∧ w'.ownsRow w.heap.size 34 3 v ss.length (bV ss) ∧ Below w.heap.size w w' := by
 have h1 : 1 ≤ n := by omega
 have hF : Fence.wide.fn 61 := trivial
 refine callsIn_of_wp Tryz.func61 rfl hF ?_ rfl
 simp only [Tryz.ntmps61, List.size_toArray, List.length_cons, List.length_nil, Nat.reduceAdd, Nat.reduceSub, Array.replicate_succ, Array.replicate_zero, List.push_toArray, List.append_toArray, List.nil_append, List.cons_append]
 gi_wp2_with (refine ⟨trivial, ?_⟩; gi_at_call 86; refine (appendSeq_in (n - 1) (by omega) g lb eg S N hN _ hseq).mono ?_; rintro e w' ⟨v, ss, rfl, hS, hrow, hb⟩)
 go_ret
 exact ⟨v, ss, rfl, hS, hrow, hb⟩
end
section
open Go.RowKit Go.Maps Classical
abbrev aV (t : TxN) : Value := .agg #[.int .u8 (t.1 : Int), .int .u32 (t.2.1 : Int), .int .u32 (t.2.2 : Int)]
def kJ (t : TxN) : Prop := t.1 < 256 ∧ t.2.1 < 4294967296 ∧ t.2.2 < 4294967296
abbrev TxT : Type := {t : TxN // kJ t}
theorem txI_ok {t : TxN} (h : kJ t) : jY (txI t) := by
 obtain ⟨h1, h2, h3⟩ := h
 unfold jY txI
 simp only
 omega
theorem txI_inj {t u : TxN} (h : txI t = txI u) : t = u := by
 obtain ⟨a, b, c⟩ := t
 obtain ⟨d, e, f⟩ := u
 simp only [txI, Prod.mk.injEq] at h
 have h1 : a = d := by omega
 have h2 : b = e := by omega
 have h3 : c = f := by omega
 rw [h1, h2, h3]
theorem tx_back {x : TxP} (h : jY x) : ∃ t : TxT, x = txI t.1 := by
 obtain ⟨a, b, c⟩ := x
 unfold jY at h
 simp only at h
 refine ⟨⟨(a.toNat, b.toNat, c.toNat), ?_⟩, ?_⟩
 ·unfold kJ
  simp only
  omega
 ·simp only [txI, Prod.mk.injEq]
  omega
theorem aG (w : World) : Below w.heap.size w w.drew := (Below.refl _ _).drew
theorem aE (w : World) (o : Obj) : Below w.heap.size w (w.alloc o) := (Below.refl _ _).alloc (Nat.le_refl _) _
theorem bN {W : World} {b : Nat} {k : List Int} {t : TypeId} (h : bZ W b (aK k) t) : W.cell? ⟨b, 0, none⟩ = some (.int .u8 (aZ k 0)) ∧ W.cell? ⟨b, 1, none⟩ = some (.int .u8 (aZ k 1)) ∧ W.cell? ⟨b, 2, none⟩ = some (.int .u8 (aZ k 2)) ∧ W.cell? ⟨b, 3, none⟩ = some (.int .u8 (aZ k 3)) ∧ W.cell? ⟨b, 4, none⟩ = some (.int .u8 (aZ k 4)) ∧ W.cell? ⟨b, 5, none⟩ = some (.int .u8 (aZ k 5)) ∧ W.cell? ⟨b, 6, none⟩ = some (.int .u8 (aZ k 6)) ∧ W.cell? ⟨b, 7, none⟩ = some (.int .u8 (aZ k 7)) :=
 ⟨h.cell 0 _ rfl, h.cell 1 _ rfl, h.cell 2 _ rfl, h.cell 3 _ rfl, h.cell 4 _ rfl, h.cell 5 _ rfl, h.cell 6 _ rfl, h.cell 7 _ rfl⟩
section
theorem bB {P : Program} {fn : Func} {p : Tmp} {t t0 : TypeId} {q : Tmp} {d : TypeDesc} (h : fn.results = #[.cell p t, .tmp q]) (tmps : Array Value) (w : World) (b : Nat) (hp : tmps.getD p undef = .pointer (some ⟨b, 0, none⟩)) {v : Value} (hq : tmps.getD q undef = v) {cs : Array Value} (hb : bZ w b cs t0)
  (hu : P.underlying t = some d) (hd : d.isRow = true) (hi : (P.info? t).map (·.size) = some cs.size) : (results fn tmps).run P w = .ok (.tuple #[.agg cs, v]) w := by
 have hr : w.rangeAt b 0 cs.toList := fun j v hv => by
  rw [Nat.zero_add]; exact hb.cell j v (by simpa using hv)
 have hl := run_loadVar_mid (P := P) w b 0 t cs.toList d hr hu hd (by simpa using hi)
 have hp' : tmps[p]?.getD undef = .pointer (some ⟨b, 0, none⟩) := by rw [← Array.getD_eq_getD_getElem?]; exact hp
 have hq' : tmps[q]?.getD undef = v := by rw [← Array.getD_eq_getD_getElem?]; exact hq
 simp only [results, h]
 simp [hp', hq', asAddr, hl]
end
theorem aU (w : World) (n : Nat) : Below w.heap.size w (w.drewN n) := ⟨rfl, rfl, rfl, Nat.le_refl _, fun _ _ => rfl⟩
end
section
open Go.RowKit Go.Maps Go.Shelf Classical
attribute [local go_sem] Oper.semAt_some
section StoreIn
variable {P : Program} {F : Fence} {n : Nat} {ops : Array Oper} {rest : List Oper} {op : Oper} {a : Act} {w : World} {Q : Exit → Act → World → Prop}
end StoreIn
def MetK (D0 : DataW ItP) (left : Lit → Bool) (ss : List KeyT) : Prop := ss.Nodup ∧ ∀ t : KeyT, (t ∈ ss ↔ (has D0 (eD t.1) = true ∧ left (eD t.1) = false))
theorem MetK.start (D0 : DataW ItP) : MetK D0 (has D0) [] := ⟨List.nodup_nil, fun t => by cases has D0 (eD t.1) <;> simp⟩
theorem MetK.step {D0 : DataW ItP} {left : Lit → Bool} {ss : List KeyT} (h : MetK D0 left ss) {t : KeyT} {y : DataW ItP} (hlk : left (eD t.1) = true) (hat : ∀ zd, D0.atKey (eD t.1) zd = y) : MetK D0 (fun z => left z && !z.sameKey (eD t.1)) (ss ++ [t]) := by
 have hhas : has D0 (eD t.1) = true := has_true_of_atKey hat
 have hnew : t ∉ ss := fun hx => by have := ((h.2 t).1 hx).2; rw [hlk] at this; cases this
 refine ⟨List.nodup_append.2 ⟨h.1, by simp, fun a ha b hb => by simp at hb; subst hb; exact fun e => hnew (e ▸ ha)⟩, fun u => ?_⟩
 by_cases hy : u = t
 ·subst hy
  have hss : (eD u.1).sameKey (eD u.1) = true := by unfold eD; simp [Lit.sameKey]
  simp [hhas, hss]
 ·have hne : eD u.1 ≠ eD t.1 := fun e => hy (Subtype.ext (kyKey_inj u.2 t.2 e))
  have hsk : (eD u.1).sameKey (eD t.1) = false := by
   unfold eD at hne ⊢
   simp [Lit.sameKey]
   intro e
   exact hne (by rw [e])
  simp [h.2 u, hy, hsk]
def KeysOf (D : DataW ItP) (ss : List KeyT) : Prop := ss.Nodup ∧ ∀ t : KeyT, (t ∈ ss ↔ has D (eD t.1) = true)
theorem MetK.done {D0 : DataW ItP} {left : Lit → Bool} {ss : List KeyT} (h : MetK D0 left ss) (hl : ∀ kl, left kl = false) : KeysOf D0 ss := ⟨h.1, fun t => by rw [h.2 t, hl]; simp⟩
end
section
open Go.RowKit Go.Maps Go.Shelf Classical
attribute [local go_sem] Oper.semAt_some
abbrev kyCs (t : KeyT) : List Value := bP t.1
def gI (ss : List KeyT) : List Value := ss.flatMap kyCs
theorem jQ (ss : List KeyT) : (gI ss).length = ss.length * 8 := by
 induction ss with
 | nil => rfl
 | cons t r ih =>
  unfold gI at ih ⊢
  have e1 : (kyCs t).length = 8 := rfl
  have e2 : (t :: r).length = r.length + 1 := rfl
  rw [List.flatMap_cons, List.length_append, ih, e1, e2]
  omega
end
section
open Go.RowKit
def aY (xs : List Int) : Array Value := (xs.map (Value.int .u8)).toArray
theorem jR (xs : List Int) : (aY xs).size = xs.length := by simp [aY]
theorem cells8_one (xs : List Int) : (aY xs).all (·.oneCell') = true := by simp [aY, Value.oneCell']
theorem wp_copy_str {ops : Array Oper} {rest : List Oper} {o : Oper} {a : Act} {Q : Exit → Act → World → Prop} (w : World) (hgd : o.guard = none) (d s : Operand)
  (ho : o.op = .call { callee := .builtin .copy, args := #[d, s], argTypes := #[144, 9] }) (p off n cap : Nat) (t : TypeId) (cs zs : List Int) (hb : bZ w p (aY cs) t) (hd : a.eval d = .slice (some ⟨p, off, none⟩) n cap)
  (st : ByteArray) (hs : a.eval s = .string st) (hle : st.size ≤ n) (hfit : off + st.size ≤ cs.length) (hz : zs = cs.take off ++ (st.data.toList.map fun b => (b.toNat : Int)) ++ cs.drop (off + st.size))
  (h : ∀ w', bZ w' p (aY zs) t → aC (fun k => k = p) w w' → wpList Tryz.prog ops Q rest (a.put o.dst (.int .i64 st.size)) w') : wpList Tryz.prog ops Q (o :: rest) a w := by
 obtain ⟨i0, hi, hz0, hz1, hz2⟩ := info_parts info5
 have hr := Lib.run_copy_row_string (P := Tryz.prog) w 144 9 o.type 5 p off n cap st (aY cs) t Tryz.underlying144 (by simp [hi, hz1]) hb hle (by rw [jR]; exact hfit)
 have e : ((aY cs).toList.take off ++ Lib.byteCells st.data.toList ++ (aY cs).toList.drop (off + st.size)).toArray = aY zs := by
  rw [hz]; simp [aY, Lib.byteCells]
 rw [e] at hr
 refine wpList_plain hgd fun K hK => ?_
 unfold Oper.wp execOp
 simp only [ho, resolve, invoke, builtin, Sem.run_bind, Sem.run_pure, Result.andThen_ok, List.map_toArray, List.map_cons, List.map_nil, hd, hs, hr]
 exact hK _ _ (h _ (setRow_heap w p _ _ t (0, 0) hb) ⟨rfl, rfl, rfl, by simp [World.setRow], fun k _ hS => setRow_other w p k _ hS⟩)
end
section
open Go.RowKit
def dN (w w' : World) : Prop := ∃ q os, w' = Sort.grow (w.drewN q) os
theorem dN.refl (w : World) : dN w w := ⟨0, #[], by rw [Sort.grow_empty]; rfl⟩
theorem dN.alloc {w w' : World} (h : dN w w') (o : Obj) : dN w (w'.alloc o) := by
 obtain ⟨q, os, rfl⟩ := h
 exact ⟨q, os ++ #[o], by rw [Sort.alloc_eq_grow, Sort.grow_grow]⟩
theorem dN.drew {w w' : World} (h : dN w w') : dN w w'.drew := by
 obtain ⟨q, os, rfl⟩ := h
 exact ⟨q + 1, os, rfl⟩
theorem dN.trans {a b c : World} (h : dN a b) (h' : dN b c) : dN a c := by
 obtain ⟨q, os, rfl⟩ := h
 obtain ⟨q', os', rfl⟩ := h'
 refine ⟨q + q', os ++ os', ?_⟩
 simp only [Sort.grow, World.drewN, Array.append_assoc, Nat.add_assoc]
theorem dN.below {w w' : World} (h : dN w w') : Below w.heap.size w w' := by
 obtain ⟨q, os, rfl⟩ := h
 refine ⟨rfl, rfl, rfl, by simp [Sort.grow, World.drewN], fun k hk => ?_⟩
 simp only [Sort.grow, World.drewN]
 rw [Array.getElem?_append_left hk]
theorem nan8_any (x : Int) (w : World) : Calls Tryz.prog 87 #[.int .u8 x] w fun e w' => e = .returned (.bool false) ∧ w' = w := by
 go_enter Tryz.func87, Tryz.ntmps87
 go_wp2
 go_ret
 exact ⟨rfl, rfl⟩
theorem nan32_any (x : Int) (w : World) : Calls Tryz.prog 88 #[.int .u32 x] w fun e w' => e = .returned (.bool false) ∧ w' = w := by
 go_enter Tryz.func88, Tryz.ntmps88
 go_wp2
 go_ret
 exact ⟨rfl, rfl⟩
theorem cmp8_any (x y : Int) (w : World) : Calls Tryz.prog 64 #[.int .u8 x, .int .u8 y] w fun e w' => e = .returned (.int .i64 (gJ x y)) ∧ w' = w := by
 rcases i7 x y with ⟨h, h2⟩ | ⟨h, h2⟩ | ⟨h, h2⟩
 ·rw [h]
  go_enter Tryz.func64, Tryz.ntmps64
  go_wp2_with (go_at_call 87; refine (nan8_any _ _).mono ?_; rintro e w' ⟨rfl, rfl⟩)
  go_ret
  exact ⟨rfl, rfl⟩
 ·rw [h]
  clear h
  subst h2
  go_enter Tryz.func64, Tryz.ntmps64
  go_wp2_with (go_at_call 87; refine (nan8_any _ _).mono ?_; rintro e w' ⟨rfl, rfl⟩)
  go_ret
  exact ⟨rfl, rfl⟩
 ·rw [h]
  have h3 : ¬ x < y := by omega
  clear h
  go_enter Tryz.func64, Tryz.ntmps64
  go_wp2_with (go_at_call 87; refine (nan8_any _ _).mono ?_; rintro e w' ⟨rfl, rfl⟩)
  go_ret
  exact ⟨rfl, rfl⟩
theorem cmp32_any (x y : Int) (w : World) : Calls Tryz.prog 65 #[.int .u32 x, .int .u32 y] w fun e w' => e = .returned (.int .i64 (gJ x y)) ∧ w' = w := by
 rcases i7 x y with ⟨h, h2⟩ | ⟨h, h2⟩ | ⟨h, h2⟩
 ·rw [h]
  go_enter Tryz.func65, Tryz.ntmps65
  go_wp2_with (go_at_call 88; refine (nan32_any _ _).mono ?_; rintro e w' ⟨rfl, rfl⟩)
  go_ret
  exact ⟨rfl, rfl⟩
 ·rw [h]
  clear h
  subst h2
  go_enter Tryz.func65, Tryz.ntmps65
  go_wp2_with (go_at_call 88; refine (nan32_any _ _).mono ?_; rintro e w' ⟨rfl, rfl⟩)
  go_ret
  exact ⟨rfl, rfl⟩
 ·rw [h]
  have h3 : ¬ x < y := by omega
  clear h
  go_enter Tryz.func65, Tryz.ntmps65
  go_wp2_with (go_at_call 88; refine (nan32_any _ _).mono ?_; rintro e w' ⟨rfl, rfl⟩)
  go_ret
  exact ⟨rfl, rfl⟩
def orL : List Int → Int
 | [] => 0
 | x :: r => orF x (orL r)
theorem or_any (xs : List Int) (v : Value) (w : World) (h : cX .i64 w v xs) (hn : xs.length ≤ 100) : Calls Tryz.prog 63 #[v] w fun e w' => e = .returned (.int .i64 (orL xs)) ∧ w' = w := by
 rcases h with ⟨rfl, ao, cap, rfl, _⟩ | ⟨hx, b, off, cap, rfl, hb, hl, hm, hc⟩
 ·go_enter Tryz.func63, Tryz.ntmps63
  go_wp2
  refine wp_loop_rounds 1 ?_
  rw [rounds_succ]
  go_wp2
  go_ret
  exact ⟨rfl, rfl⟩
 ·have HO : Hid (orL xs = orL (xs.drop 0)) := aA rfl
  have HC := aA hc
  clear hc
  go_enter Tryz.func63, Tryz.ntmps63
  go_wp2
  go_loop [8] (fun i => ∃ k : Nat, k ≤ xs.length ∧ i = .int .i64 k ∧ Hid (orL xs = orL (xs.drop k))) (fun i => xs.length - (intOf i).toNat)
  case atStart => exact ⟨0, Nat.zero_le _, rfl, HO⟩
  case round =>
   obtain ⟨k, hk, rfl, HK⟩ := hrel
   by_cases hlt : k < xs.length
   ·have hcell := HC.out k hlt
    have HD : Hid (xs.drop k = xs.getD k 0 :: xs.drop (k + 1)) := aA (by
     rw [List.drop_eq_getElem_cons hlt]; simp [List.getD, hlt])
    generalize xs.getD k 0 = c at *
    by_cases h0 : c = 0
    ·subst h0
     go_wp2
     go_round
     case rel => exact ⟨k + 1, by omega, by go_num, aA (by rw [HK.out, HD.out]; rfl)⟩
     case measure => simp [intOf]; omega
    ·have h0' : (c != 0) = true := bne_iff_ne.2 h0
     go_wp2
     go_ret
     exact ⟨jM (by rw [HK.out, HD.out]; unfold orL orF; rw [if_neg h0]), rfl⟩
   ·go_wp2
    go_ret
    exact ⟨jM (by rw [HK.out, List.drop_eq_nil_of_le (by omega)]; rfl), rfl⟩
end
section
open Go.RowKit
theorem load_bytes (w : World) (b off : Nat) (xs : List Int) (hc : ∀ t, t < xs.length → w.cell? ⟨b, off + t, none⟩ = some (.int .u8 (xs.getD t 0))) :
  (Extern.Bytes.loadBytes ⟨b, off, none⟩ xs.length .empty).run Tryz.prog w = .ok ⟨(Lib.bytesOf xs).toArray⟩ w := by
 have hl := Lib.run_loadBytesX (P := Tryz.prog) w xs ⟨b, off, none⟩ .empty (fun j x hj => by
  have hjl : j < xs.length := (List.getElem?_eq_some_iff.1 hj).1
  have e : (⟨b, off, none⟩ : Addr).add j = ⟨b, off + j, none⟩ := by unfold Addr.add; split <;> simp_all
  rw [e, hc j (by omega), List.getD_eq_getElem?_getD, hj]
  rfl)
 rw [hl]
 congr 1
 apply ByteArray.ext
 show (#[] : Array UInt8) ++ (Lib.bytesOf xs).toArray = (Lib.bytesOf xs).toArray
 simp
theorem run_compareSlice (w : World) (b1 o1 c1 b2 o2 c2 : Nat) (xs ys : List Int) (h1 : ∀ t, t < xs.length → w.cell? ⟨b1, o1 + t, none⟩ = some (.int .u8 (xs.getD t 0))) (h2 : ∀ t, t < ys.length → w.cell? ⟨b2, o2 + t, none⟩ = some (.int .u8 (ys.getD t 0))) :
  (Extern.BytealgCompare.compare #[.slice (some ⟨b1, o1, none⟩) xs.length c1, .slice (some ⟨b2, o2, none⟩) ys.length c2]).run Tryz.prog w = .ok (.int .i64 (Lib.compareBytes (Lib.bytesOf xs) (Lib.bytesOf ys))) w := by
 have l1 := load_bytes w b1 o1 xs h1
 have l2 := load_bytes w b2 o2 ys h2
 change Sem.run Tryz.prog (do pure (goInt (Extern.BytealgCompare.cmp (← Extern.Bytes.bytesOf (.slice (some ⟨b1, o1, none⟩) xs.length c1)) (← Extern.Bytes.bytesOf (.slice (some ⟨b2, o2, none⟩) ys.length c2))))) w = _
 simp only [Extern.Bytes.bytesOf, Sem.run_bind, Sem.run_pure, l1, l2, Result.andThen]
 rw [Lib.cmp_eq]
 rfl
theorem bcompare_any (w : World) (b1 o1 c1 b2 o2 c2 : Nat) (xs ys : List Int) (h1 : ∀ t, t < xs.length → w.cell? ⟨b1, o1 + t, none⟩ = some (.int .u8 (xs.getD t 0))) (h2 : ∀ t, t < ys.length → w.cell? ⟨b2, o2 + t, none⟩ = some (.int .u8 (ys.getD t 0)))
  (hl : xs.length = ys.length) (hx : ∀ c ∈ xs, 0 ≤ c ∧ c < 256) (hy : ∀ c ∈ ys, 0 ≤ c ∧ c < 256) :
  Calls Tryz.prog 102 #[.slice (some ⟨b1, o1, none⟩) xs.length c1, .slice (some ⟨b2, o2, none⟩) ys.length c2] w fun e w' => e = .returned (.int .i64 (dW xs ys)) ∧ w' = w := by
 have hr := run_compareSlice w b1 o1 c1 b2 o2 c2 xs ys h1 h2
 rw [compare_lex xs ys hl hx hy] at hr
 generalize dW xs ys = r at *
 generalize xs.length = n1 at *
 generalize ys.length = n2 at *
 clear h1 h2 hx hy hl
 go_enter Tryz.func102, Tryz.ntmps102
 go_wp2
 rw [run_callFunc_extern Tryz.func119 (by kernel_rfl) (by kernel_rfl) (by kernel_rfl) (e := Extern.BytealgCompare.compare) (by kernel_rfl), hr]
 simp only [Result.andThen]
 rw [Oper.upon_value]
 go_wp2
 go_ret
 exact ⟨rfl, rfl⟩
end
section
open Go.RowKit Go.Maps Go.Shelf Go.Sort Classical
def cQ (a b : KeyT) : Int := dW a.1 b.1
theorem fD (a b : KeyT) : cQ b a = - cQ a b := lexF_neg _ _
theorem kR (a b c : KeyT) (h : cQ a b ≤ 0) (h' : cQ b c ≤ 0) : cQ a c ≤ 0 := fW a.1 b.1 c.1 (by rw [a.2.l, b.2.l]) (by rw [b.2.l, c.2.l]) h h'
theorem f8 (a b : KeyT) : cQ a b = 0 ↔ a = b := ⟨fun h => Subtype.ext ((gK _ _ (by rw [a.2.l, b.2.l])).1 h), fun h => by subst h; exact (gK _ _ rfl).2 rfl⟩
theorem kysF_self (a : KeyT) : cQ a a = 0 := (f8 a a).2 rfl
theorem kysSWO : SWO (ltOf cQ) := by
 refine ⟨fun x => by simp [ltOf, kysF_self], fun x y z h1 h2 => ?_, fun x y z h1 h2 => ?_⟩
 ·simp only [ltOf, decide_eq_true_eq] at *
  have h3 := kR x y z (by omega) (by omega)
  rcases Int.lt_or_eq_of_le h3 with h | h
  ·exact h
  ·have := (f8 x z).1 h
   subst this
   have := fD x y
   omega
 ·simp only [ltOf, decide_eq_false_iff_not] at *
  have e1 := fD x y
  have e2 := fD y z
  have e3 := fD x z
  have h3 := kR z y x (by omega) (by omega)
  omega
theorem kysTotal (x y : KeyT) (h1 : ltOf cQ x y = false) (h2 : ltOf cQ y x = false) : x = y := by
 simp only [ltOf, decide_eq_false_iff_not] at *
 have := fD x y
 exact (f8 x y).1 (by omega)
def dU (ss : List KeyT) : List KeyT := ss.mergeSort fun x y => !(ltOf cQ) y x
theorem sortK_nil : dU [] = [] := by simp [dU]
def RisingK (ss : List KeyT) : Prop := ss.Pairwise (fun a b => cQ a b < 0)
theorem RisingK.nodup {ss : List KeyT} (h : RisingK ss) : ss.Nodup := h.imp (fun {a b} hab e => by subst e; rw [kysF_self] at hab; omega)
theorem rowK_get [Inhabited KeyT] : ∀ (ss : List KeyT) (t : Nat), t < ss.length * 8 → (gI ss)[t]? = some ((kyCs ss[t / 8]!)[t % 8]!)
 | [], t, h => by simp at h
 | x :: r, t, h => by
  have e : gI (x :: r) = kyCs x ++ gI r := by simp [gI]
  rw [e]
  by_cases h3 : t < 8
  ·have : t = 0 ∨ t = 1 ∨ t = 2 ∨ t = 3 ∨ t = 4 ∨ t = 5 ∨ t = 6 ∨ t = 7 := by omega
   rcases this with rfl | rfl | rfl | rfl | rfl | rfl | rfl | rfl <;> simp
  ·obtain ⟨s, rfl⟩ : ∃ s, t = s + 8 := ⟨t - 8, by omega⟩
   rw [List.getElem?_append_right (by simp)]
   have ih := rowK_get r s (by simp at h; omega)
   have e1 : (s + 8) / 8 = s / 8 + 1 := by omega
   have e2 : (s + 8) % 8 = s % 8 := by omega
   rw [e1, e2]
   simpa using ih
theorem flat_rowK [Inhabited KeyT] (ss : List KeyT) : flatK kyCs 8 ss.toArray = (gI ss).toArray := by
 apply Array.ext
 ·simp [jQ]
 ·intro i h1 h2
  have hi : i < ss.length * 8 := by simpa using h1
  have e := rowK_get ss i hi
  have h3 : i < (gI ss).length := by rw [jQ]; exact hi
  rw [List.getElem?_eq_getElem h3] at e
  have e' := Option.some.inj e
  simp only [List.getElem_toArray, e']
  simp [flatK]
theorem holds_rowK [Inhabited KeyT] {w : World} {g : Nat} {cur : Array Value} {e : TypeId} {ss : List KeyT} (hb : w.heap[g]? = some (.cells cur e (0, 0))) (ht : cur.toList.take (ss.length * 8) = gI ss) : HoldsK kyCs 8 w g 0 ss.toArray := by
 unfold HoldsK
 rw [flat_rowK]
 intro j hj
 have hj' : j < (gI ss).length := by simpa using hj
 refine ⟨?_, by simp [World.frozen?, hb]⟩
 have h1 : (cur.toList.take (ss.length * 8))[j]? = (gI ss)[j]? := by rw [ht]
 rw [List.getElem?_take_of_lt (by rw [jQ] at hj'; exact hj')] at h1
 simp only [World.cell?, hb, Nat.zero_add]
 simp only [Option.isSome_none, Bool.false_eq_true, if_false]
 rw [← Array.getElem?_toList, h1]
 simp [hj']
theorem heap_sortWK [Inhabited KeyT] {w : World} {g n : Nat} {os : Array Obj} {cur : Array Value} {e : TypeId} (ts : List KeyT) (hb : w.heap[g]? = some (.cells cur e (0, 0))) :
  (sortWorldK kyCs 8 w g 0 n ts.toArray os).heap[g]? = some (.cells (putCells id 0 (gI ts).toArray cur) e (0, 0)) := by
 have hg : g < w.heap.size := (Array.getElem?_eq_some_iff.1 hb).1
 unfold sortWorldK putRowK
 rw [flat_rowK, heap_grow_old _ _ (by simpa using hg)]
 simp [putRow, mapBlock, Sort.ahead, Array.getElem?_modify, hb, onCells]
theorem grown_sortWK [Inhabited KeyT] {w : World} {g n : Nat} {os : Array Obj} (d : Array KeyT) : w.grownBy (sortWorldK kyCs 8 w g 0 n d os) (some g) := by
 unfold sortWorldK putRowK
 refine ⟨rfl, rfl, rfl, by simp, fun k hk hne => ?_⟩
 rw [heap_grow_old _ _ (by simpa using hk)]
 have : g ≠ k := fun e => hne (by rw [e])
 simp [putRow, mapBlock, Sort.ahead, Array.getElem?_modify, this]
theorem take_putIdsK (cur : Array Value) (ts : List Value) (h : ts.length ≤ cur.size) : (putCells id 0 ts.toArray cur).toList.take ts.length = ts := by
 apply List.ext_getElem?
 intro j
 by_cases hj : j < ts.length
 ·rw [List.getElem?_take_of_lt hj, Array.getElem?_toList]
  simp [putCells, hj, show j < cur.size by omega]
 ·rw [List.getElem?_take_eq_none (by omega), List.getElem?_eq_none (by omega)]
theorem kS (ss : List KeyT) : (dU ss).length = ss.length := by simp [dU]
theorem owns_sortedK [Inhabited KeyT] {w : World} {base g cap n : Nat} {e : TypeId} {os : Array Obj} {cur : Array Value} {ss : List KeyT} (hbase : base ≤ g) (hb : w.heap[g]? = some (.cells cur e (0, 0)))
  (h1 : ss.length ≤ cap) (h2 : cap ≤ maxLen) (h3 : cur.size = cap * 8) :
  (sortWorldK kyCs 8 w g 0 n (dU ss).toArray os).ownsRow base e 8 (.slice (some ⟨g, 0, none⟩) ss.length cap) ss.length (gI (dU ss)) := by
 have hl : (gI (dU ss)).length = ss.length * 8 := by rw [jQ, kS]
 refine ⟨hl, .inr ⟨g, cap, _, rfl, hbase, heap_sortWK _ hb, h1, h2, by simp [putCells, h3], ?_⟩⟩
 have := take_putIdsK cur (gI (dU ss)) (by rw [hl]; omega)
 rw [hl] at this
 exact this
theorem dN.drewN {w w' : World} (h : dN w w') (n : Nat) : dN w (w'.drewN n) := by
 obtain ⟨q, os, rfl⟩ := h
 exact ⟨q + n, os, by simp only [Sort.grow, World.drewN, Nat.add_assoc]⟩
set_option maxHeartbeats 1600000 in
theorem keysG0 (a b : List Int) (w : World) (ha : a.length = 8) (hb : b.length = 8) (hx : ∀ c ∈ a, 0 ≤ c ∧ c < 256) (hy : ∀ c ∈ b, 0 ≤ c ∧ c < 256) : Calls Tryz.prog 73 #[.agg (aY a), .agg (aY b)] w fun e w' => e = .returned (.int .i64 (dW a b)) ∧ dN w w' := by
 have hA : bZ ((w.alloc (.cells (aY a) 38)).alloc (.cells (aY b) 38)) w.heap.size (aY a) 38 := (aN w _ _).belowI ((Below.refl _ _).alloc (Nat.le_refl _) _)
 have hB : bZ ((w.alloc (.cells (aY a) 38)).alloc (.cells (aY b) 38)) (w.heap.size + 1) (aY b) 38 := by
  have := aN (w.alloc (.cells (aY a) 38)) (aY b) 38
  rw [World.size_alloc] at this
  exact this
 have hc1 : ∀ n t, t < a.length → (((w.alloc (.cells (aY a) 38)).alloc (.cells (aY b) 38)).drewN n).cell? ⟨w.heap.size, 0 + t, none⟩ = some (.int .u8 (a.getD t 0)) := fun n t ht => by
  rw [Nat.zero_add]; exact hA.cell t _ (by simp [aY, List.getD, ht])
 have hc2 : ∀ n t, t < b.length → (((w.alloc (.cells (aY a) 38)).alloc (.cells (aY b) 38)).drewN n).cell? ⟨w.heap.size + 1, 0 + t, none⟩ = some (.int .u8 (b.getD t 0)) := fun n t ht => by
  rw [Nat.zero_add]; exact hB.cell t _ (by simp [aY, List.getD, ht])
 have HC : Hid (∀ n, Calls Tryz.prog 102 #[.slice (some ⟨w.heap.size, 0, none⟩) 8 8, .slice (some ⟨w.heap.size + 1, 0, none⟩) 8 8] (((w.alloc (.cells (aY a) 38)).alloc (.cells (aY b) 38)).drewN n) fun e w' => e = .returned (.int .i64 (dW a b)) ∧ w' = (((w.alloc (.cells (aY a) 38)).alloc (.cells (aY b) 38)).drewN n)) := aA (fun n => by
  have h := bcompare_any _ w.heap.size 0 8 (w.heap.size + 1) 0 8 a b (hc1 n) (hc2 n) (by omega) hx hy
  rw [ha, hb] at h
  exact h)
 clear hA hB hc1 hc2 hx hy
 generalize dW a b = r at *
 generalize aY a = ca at *
 generalize aY b = cb at *
 go_enter Tryz.func73, Tryz.ntmps73
 go_wp2
 go_quiet ((go_at_call 102; exact Calls.quiet_of_same (HC.out _)))
 go_wp2
 go_ret
 exact ⟨rfl, (((dN.refl w).alloc _).alloc _).drewN _⟩
theorem keysG_any (x y : KeyT) (w : World) : Calls Tryz.prog 73 #[.agg (aK x.1), .agg (aK y.1)] w fun e w' => e = .returned (.int .i64 (cQ x y)) ∧ dN w w' := by
 have h := keysG0 x.1 y.1 w x.2.l y.2.l x.2.b y.2.b
 have e1 : aY x.1 = aK x.1 := by unfold aY; rw [← fY x.2.l]
 have e2 : aY y.1 = aK y.1 := by unfold aY; rw [← fY y.2.l]
 rw [e1, e2] at h
 exact h
theorem cmpLaysK [Inhabited KeyT] (blk off size : Nat) (w : World) : CmpLays Tryz.prog 73 #[] kyCs 8 cQ blk off size w := by
 intro m os dk _ x y
 refine (keysG_any x y _).mono ?_
 rintro e' w' ⟨rfl, q, os', h⟩
 exact ⟨rfl, q, os', h⟩
theorem sortF_anyK [Inhabited KeyT] (g cap : Nat) (cur : Array Value) (ss : List KeyT) (w : World) (hb : w.heap[g]? = some (.cells cur 38 (0, 0))) (h1 : ss.length ≤ cap) (h2 : cap ≤ maxLen) (h3 : cur.size = cap * 8) (h4 : cur.toList.take (ss.length * 8) = gI ss) (base : Nat) (hbase : base ≤ g) (hss : ss.length ≤ 1000000) :
  Calls Tryz.prog 72 #[.slice (some ⟨g, 0, none⟩) ss.length cap, .func (.func 73) #[] #[]] w fun e w' => e = .returned (.tuple #[]) ∧ w'.ownsRow base 38 8 (.slice (some ⟨g, 0, none⟩) ss.length cap) ss.length (gI (dU ss)) ∧ w.grownBy w' (some g) := by
 have hg : g < w.heap.size := (Array.getElem?_eq_some_iff.1 hb).1
 have h := AnyQ.slices_SortFunc_total Tryz.sortKL 8 Tryz.isAgg38 Tryz.sizeOf38 kyCs (fun _ => rfl) (fun x v hv => by simp at hv; rcases hv with rfl | rfl | rfl | rfl | rfl | rfl | rfl | rfl <;> rfl) cQ kysSWO 73 #[] g 0 cap ss.toArray w
  (enters_of Tryz.func73 (by kernel_rfl) rfl) (cmpLaysK _ _ _ _) (holds_rowK hb h4) hg (by simp; omega) kysTotal
 refine Calls.mono h ?_
 rintro e w' ⟨rfl, n, os, rfl⟩
 exact ⟨rfl, owns_sortedK hbase hb h1 h2 h3, grown_sortWK _⟩
theorem sortF_noneK (p : Option Addr) (cap : Nat) (fv : Value) (w : World) :
  Calls Tryz.prog 72 #[.slice p 0 cap, fv] w fun e w' => e = .returned (.tuple #[]) ∧ w' = w := AnyF.slices_SortFunc_none Tryz.sortKL p cap fv w
end
end Go.Proofs.YtiloagmkkhlfjaaGreat
