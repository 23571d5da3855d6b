/-
  Own texts put together: IdSet, IdBox, IdIter, IdColl, TxKit, TbIter, TbColl, CopyAt, IdCmp. Own work.
-/
import Derived.Test.YtddflccjmigloaaGreatG09
import Derived.Test.YtddflccjmigloaaGreatG01
import Derived.Test.YtddflccjmigloaaGreatG06
import Derived.Test.YtddflccjmigloaaGreatG05
import Derived.Deep.RegionHeldLaw
import Derived.Deep.QuietTactic
import Derived.BigQuiet
import Derived.Carry
import Derived.RangeFuncNested
import Derived.RangeFuncLeaves
import Derived.RangeFuncBox
import Derived.Sort.MapsRangeIn
import Derived.Sort.KeysCollected
import Derived.Shelf.Abstract
import Derived.OwnWalkIn
import Derived.TacticsInMore
import Derived.LoopNIn
import Derived.LoopIn
import Derived.Laws.CopyRow
import Derived.Laws.IdiomCopy
import Derived.Lib.BufferWrite
import Derived.Lib.BytesEntry
import Derived.Sort.Grow
namespace Go.Proofs.YtddflccjmigloaaGreat
section
open Go.RowKit

theorem Box.two {w : World} {p : Nat} {a b : Value} {t : TypeId} (h : Box w p #[a, b] t) : w.cell? ⟨p, 0, none⟩ = some a ∧ w.cell? ⟨p, 1, none⟩ = some b := ⟨h.cell 0 _ rfl, h.cell 1 _ rfl⟩
theorem Box.three {w : World} {p : Nat} {a b c : Value} {t : TypeId} (h : Box w p #[a, b, c] t) : w.cell? ⟨p, 0, none⟩ = some a ∧ w.cell? ⟨p, 1, none⟩ = some b ∧ w.cell? ⟨p, 2, none⟩ = some c := ⟨h.cell 0 _ rfl, h.cell 1 _ rfl, h.cell 2 _ rfl⟩
theorem Box.four {w : World} {p : Nat} {a b c d : Value} {t : TypeId} (h : Box w p #[a, b, c, d] t) : w.cell? ⟨p, 0, none⟩ = some a ∧ w.cell? ⟨p, 1, none⟩ = some b ∧ w.cell? ⟨p, 2, none⟩ = some c ∧ w.cell? ⟨p, 3, none⟩ = some d := ⟨h.cell 0 _ rfl, h.cell 1 _ rfl, h.cell 2 _ rfl, h.cell 3 _ rfl⟩
theorem Box.eight {w : World} {p : Nat} {a b c d e f g i : Value} {t : TypeId} (h : Box w p #[a, b, c, d, e, f, g, i] t) : w.cell? ⟨p, 0, none⟩ = some a ∧ w.cell? ⟨p, 1, none⟩ = some b ∧ w.cell? ⟨p, 2, none⟩ = some c ∧ w.cell? ⟨p, 3, none⟩ = some d ∧ w.cell? ⟨p, 4, none⟩ = some e ∧ w.cell? ⟨p, 5, none⟩ = some f ∧ w.cell? ⟨p, 6, none⟩ = some g ∧ w.cell? ⟨p, 7, none⟩ = some i :=
  ⟨h.cell 0 _ rfl, h.cell 1 _ rfl, h.cell 2 _ rfl, h.cell 3 _ rfl, h.cell 4 _ rfl, h.cell 5 _ rfl, h.cell 6 _ rfl, h.cell 7 _ rfl⟩
theorem Box.belowI {w w' : World} {p : Nat} {cs : Array Value} {t : TypeId} (h : Box w p cs t) (hB : Below w.heap.size w w') : Box w' p cs t := h.keep (KeepBut.of_below (fun _ => False) hB) id
theorem below_drewN {B n : Nat} {w w' : World} (h : Below B w w') : Below B w (w'.drewN n) := ⟨h.os, h.tape, h.output, h.size, h.block⟩
theorem drewN2 (w : World) (a b : Nat) : (w.drewN a).drewN b = w.drewN (a + b) := by simp [World.drewN, Nat.add_assoc]
theorem drewN3 (w : World) (a b c : Nat) : ((w.drewN a).drewN b).drewN c = w.drewN (a + b + c) := by simp [World.drewN, Nat.add_assoc]
theorem new_at (W : World) (cs : Array Value) (t : TypeId) (B i : Nat) (v : Value) (hb : B = W.heap.size) (hv : cs[i]? = some v) : (W.alloc (.cells cs t)).cell? ⟨B, i, none⟩ = some v := by
  subst hb
  exact (box_new W cs t).cell i v hv
/-- A cell of the block that was made last. -/
theorem new_cell (W : World) (cs : Array Value) (t : TypeId) (B i : Nat) (v : Value) (hb : B = W.heap.size) (hv : cs[i]? = some v) : (W.alloc (.cells cs t)).drew.cell? ⟨B, i, none⟩ = some v := by
  subst hb
  exact (box_new W cs t).cell i v hv
end
section
open Go.RowKit Go.Maps Go.Shelf
attribute [local go_sem] Oper.semAt_some

section StoreIn
variable {P : Program} {F : Fence} {n : Nat} {ops : Array Oper} {rest : List Oper} {op : Oper} {a : Act} {w : World} {Q : Exit → Act → World → Prop}
/-- A whole variable is stored, inside a fence. -/
theorem wpIn_store_box {t t0 : TypeId} (hgd : op.guard = none) (hdst : op.dst = none) (x y : Operand) (ho : op.op = .store t x y)
    (p : Nat) (hx : a.eval x = .pointer (some ⟨p, 0, none⟩)) {cs cs' : Array Value} (hy : a.eval y = .agg cs') (hb : Box w p cs t0) (hsz : cs.size = cs'.size) (hi : (P.info? t).map (·.size) = some cs'.size) (h1 : cs'.all (·.oneCell') = true)
    (h : ∀ w', Box w' p cs' t0 → KeepBut (fun k => k = p) w w' → wpListIn F n P ops Q rest a w') : wpListIn F n P ops Q (op :: rest) a w := by
  refine wpListIn_plain hgd fun K hK => ?_
  have hr := run_storeVar_row (P := P) w p t0 t cs cs' hb hi hsz h1
  unfold Oper.wpIn
  refine ⟨by simp [Oper.about, ho], ?_⟩
  rw [Oper.semAt_plain F _ _ (by rw [ho]; intro c hc'; cases hc')]
  unfold execOp
  simp only [ho, hx, hy, Instr.storeAt, Instr.sureAddr, Sem.run_bind, Sem.run_pure, Result.andThen_ok, hr]
  show K (a.put op.dst undef) _
  rw [hdst]
  refine hK _ _ (h _ ?_ ?_)
  · exact setRow_heap w p cs cs' t0 (0, 0) hb
  · exact ⟨rfl, rfl, rfl, by simp [World.setRow], fun k _ hS => setRow_other w p k cs' hS⟩
end StoreIn
theorem infoTx3 : (Tryz.prog.info? 34).map (·.size) = some 3 := by kernel_rfl
/-- A new block, then written: nothing that lay has turned. -/
theorem grown_new {w w' : World} (o : Obj) (hk : KeepBut (fun k => k = w.heap.size) (w.alloc o) w') : w.grownBy w' none :=
  ⟨hk.os, hk.tape, hk.output, by have := hk.size; simp at this; omega, fun k hlt _ => (hk.block k (by simp; omega) (by omega)).trans (Below.heap_alloc _ _ k hlt)⟩

/-- What was met so far of a map's names. -/
def Met (D0 : DataW Unit) (left : Lit → Bool) (ss : List TxP) : Prop := ss.Nodup ∧ (∀ t ∈ ss, txOk t) ∧ ∀ t, txOk t → (t ∈ ss ↔ (has D0 (txKey t) = true ∧ left (txKey t) = false))
theorem Met.start (D0 : DataW Unit) : Met D0 (has D0) [] := ⟨List.nodup_nil, by simp, fun t _ => by cases has D0 (txKey t) <;> simp⟩
theorem Met.step {D0 : DataW Unit} {left : Lit → Bool} {ss : List TxP} (h : Met D0 left ss) {t : TxP} (ht : txOk t) {y : DataW Unit} (hlk : left (txKey t) = true) (hat : ∀ zd, D0.atKey (txKey t) zd = y) : Met D0 (fun z => left z && !z.sameKey (txKey t)) (ss ++ [t]) := by
  have hhas : has D0 (txKey t) = true := has_true_of_atKey hat
  have hnew : t ∉ ss := fun hx => by have := ((h.2.2 t ht).1 hx).2; rw [hlk] at this; cases this
  refine ⟨List.nodup_append.2 ⟨h.1, by simp, fun a ha b hb => by simp at hb; subst hb; exact fun e => hnew (e ▸ ha)⟩, fun u hu => ?_, fun u hu => ?_⟩
  · rcases List.mem_append.1 hu with hu | hu
    · exact h.2.1 u hu
    · simp at hu; subst hu; exact ht
  · by_cases hy : u = t
    · subst hy
      have hss : (txKey u).sameKey (txKey u) = true := by unfold txKey; simp [Lit.sameKey]
      simp [hhas, hss]
    · have hne : txKey u ≠ txKey t := fun e => hy (txKey_inj hu ht e)
      have hsk : (txKey u).sameKey (txKey t) = false := by
        unfold txKey at hne ⊢
        simp [Lit.sameKey]
        intro e
        exact hne (by rw [e])
      simp [h.2.2 u hu, hy, hsk]
/-- The names of a set. -/
def NamesOf (D : DataW Unit) (ss : List TxP) : Prop := ss.Nodup ∧ (∀ t ∈ ss, txOk t) ∧ ∀ t, txOk t → (t ∈ ss ↔ has D (txKey t) = true)
theorem Met.done {D0 : DataW Unit} {left : Lit → Bool} {ss : List TxP} (h : Met D0 left ss) (hl : ∀ kl, left kl = false) : NamesOf D0 ss := ⟨h.1, h.2.1, fun t ht => by rw [h.2.2 t ht, hl]; simp⟩
end
section
open Go.RowKit Go.Maps Go.Shelf
attribute [local go_sem] Oper.semAt_some

/-- A name's cells; a row of names. -/
abbrev txCs (t : TxP) : List Value := [.int .u8 t.1, .int .u32 t.2.1, .int .u32 t.2.2]
def rowOf (ss : List TxP) : List Value := ss.flatMap txCs
theorem rowOf_length (ss : List TxP) : (rowOf ss).length = ss.length * 3 := by
  induction ss with
  | nil => rfl
  | cons t r ih => unfold rowOf at *; simp [List.flatMap_cons, ih]; omega
theorem rowOf_append (ss ts : List TxP) : rowOf (ss ++ ts) = rowOf ss ++ rowOf ts := by unfold rowOf; simp
theorem infoTxs : (Tryz.prog.info? 34).map (fun i => (i.zero, i.size, i.bytes)) = some (some (.agg #[.int .u8 0, .int .u32 0, .int .u32 0]), 3, 12) := by kernel_rfl
theorem Box.grownI {W W' : World} {row : Option Nat} {B : Nat} {cs : Array Value} {t : TypeId} (h : Box W B cs t) (hg : W.grownBy W' row) (hr : ∀ r, row = some r → ∃ o : Obj, W.heap[r]? = some o ∧ o.isCells = false) : Box W' B cs t :=
  (hg.block B h.lt (fun e => by
    obtain ⟨o, ho, hc⟩ := hr B e.symm
    have hb : W.heap[B]? = _ := h
    rw [hb] at ho; cases ho; cases hc)).trans h
theorem cells_news (W : World) (x : TxP) (o : Obj) (ho : o = .cells #[.int .u8 x.1, .int .u32 x.2.1, .int .u32 x.2.2] 34) : ∀ j u, (txCs x)[j]? = some u → (W.alloc o).cell? (Addr.add ⟨W.heap.size, 0, none⟩ j) = some u := by
  intro j u hu
  subst ho
  rw [Addr.add_lit, Nat.zero_add]
  exact (box_new W _ _).cell j u (by simpa using hu)

set_option maxRecDepth 100000 in
set_option maxHeartbeats 2000000 in
theorem appendSeq_in (n : Nat) (hn : 2 ≤ n) (g : Nat) (lb : Array Value) (eg : ∀ args w, (callFunc g args).run Tryz.prog w = .ok (.enter g args) w) (S : List TxP → Prop) (N : Nat) (hN : N ≤ 1000000) (w : World)
    (hseq : SeqStopsK Fence.wide (n - 1) Tryz.prog g lb (fun x : TxP => #[txV x]) KeepsWalks S (fun _ => True) N w) :
    CallsIn Fence.wide n Tryz.prog 91 #[.slice none 0 0, .func (.func g) #[] lb] w fun e w' => ∃ (v : Value) (ss : List TxP), e = .returned v ∧ S ss ∧ w'.ownsRow w.heap.size 34 3 v ss.length (rowOf ss) ∧ Below w.heap.size w w' := by
  have h1 : 1 ≤ n := by omega
  have HI := hide infoTx3
  obtain ⟨i0, hi, hz0, hz1, hz2⟩ := info_parts infoTxs
  have hF : Fence.wide.fn 91 := trivial
  refine callsIn_of_wp_marks Tryz.func91 rfl hF ?_ rfl
  simp only [Tryz.ntmps91, List.size_toArray, List.length_cons, List.length_nil, Nat.reduceAdd, Nat.reduceSub, Array.replicate_succ, Array.replicate_zero, List.push_toArray, List.append_toArray, List.nil_append, List.cons_append]
  gi_wp2
  have bO := Boxed.new w 42 (.slice none 0 0)
  have hB0 : Below w.heap.size w (w.alloc (.cells #[.slice none 0 0] 42)) := (Below.refl _ w).alloc (Nat.le_refl _) _
  have hI : OwnFrom (w.alloc (.cells #[.slice none 0 0] 42)).heap.size (fun (pre : List TxP) W => (∃ v, Boxed W w.heap.size 42 v ∧ W.ownsRow w.heap.size 34 3 v pre.length (rowOf pre) ∧ True) ∧ Below w.heap.size w W) :=
    OwnFrom.and (Own.from (holdsRow_own w.heap.size w.heap.size 42 34 3 (fun pre : List TxP => pre.length) rowOf (fun _ _ => True)) _) (ownFrom_below (Nat.le_refl _) (by simp))
  refine wpIn_rangeFunc_ownH rfl h1 (gf := g) (lb := lb) rfl trivial eg hseq walksK_t walksK_b hB0 (fun _ => rfl)
    (fun pre W => (∃ v, Boxed W w.heap.size 42 v ∧ W.ownsRow w.heap.size 34 3 v pre.length (rowOf pre) ∧ True) ∧ Below w.heap.size w W)
    (fun _ _ _ => False) hI (fun _ _ _ _ _ hs _ _ => hs) ⟨⟨_, bO, World.ownsRow_nil _ _ _ _, trivial⟩, hB0⟩
    (fun x a' W => ∃ q, a' = { tmps := #[.slice none 0 0, .func (.func g) #[] lb, .pointer (some ⟨w.heap.size, 0, none⟩), undef, .slice none 0 0, .pointer (some ⟨q, 0, none⟩), .func (.func g) #[] lb, txV x, undef, undef, undef, undef, undef], defers := [] } ∧ Box W q #[.int .u8 x.1, .int .u32 x.2.1, .int .u32 x.2.2] 34)
    (fun x a' s X Y row hs hg hr => by
      obtain ⟨q, e, hb⟩ := hs
      exact ⟨q, e, hb.grownI hg (fun r e => (hr r e).2)⟩) ?assign ?body ?done ?stop
  case assign =>
    rintro l pre ⟨xa, xb, xc⟩ W K hi2 hK
    have HX := hide (box_new W #[.int .u8 0, .int .u32 0, .int .u32 0] 34)
    gi_wp2_with (refine wpIn_store_box (cs' := #[.int .u8 xa, .int .u32 xb, .int .u32 xc]) rfl rfl _ _ rfl _ rfl rfl HX.out rfl HI.out (by simp [Value.oneCell']) ?_; intro w3 hb3 hk3; have HB3 := hide hb3; have HK3 := hide hk3; clear hb3 hk3)
    have hg3 := grown_new _ HK3.out
    exact hK _ _ (KeepsFrom.of_grownBy hg3 (fun j e => by cases e)) (KeepsWalks.of_grownBy hg3 (fun j o e => by cases e)) (hI pre W w3 none hi2 hg3 (fun r e => by cases e)) ⟨_, rfl, HB3.out⟩
  case body =>
    rintro l pre ⟨xa, xb, xc⟩ a' W hl hrec ⟨⟨v, hv, hrow, _⟩, hB⟩ ⟨q, rfl, hbx⟩ hlt
    have hc := hv.cell
    obtain ⟨z0, z1, z2⟩ := hbx.three
    have zl := hbx.lt
    have HBX := hide hbx
    have HN := hide (cells_news W (xa, xb, xc) _ rfl)
    clear hbx hrec
    gi_wp2_with (gi_at_builtin; refine wpListIn_append_own _ rfl _ _ 42 rfl w.heap.size 34 i0 _ 3 12 Tryz.underlying42 hi hz0 hz1 hz2 rfl (by decide) _ _ _ rfl (hrow.alloc _) ⟨W.heap.size, 0, none⟩ 1 1 (txCs (xa, xb, xc)) rfl rfl HN.out (by simp [Value.oneCell']) (by unfold maxLen; omega) (by omega) (by have := hB.size; simp; omega) ?_; intro v' w1 hown' hgrow _; obtain ⟨g', cap', rfl⟩ := ownsRow_succ hown'; obtain ⟨hv1, hv2, hr2, hk2, hb2⟩ := hv.appended (by decide) hrow hB.size (Nat.le_refl _) hown' hgrow; have hc1 := hv1.cell; have hf1 := hv1.frozen; have HR2 := hide hr2; have HK2 := hide hk2; have HB2 := hide hb2; have HV2 := hide hv2; clear hr2 hk2 hb2 hv2 hown' hgrow)
    have hro : rowOf (pre ++ [(xa, xb, xc)]) = rowOf pre ++ txCs (xa, xb, xc) := by rw [rowOf_append]; simp [rowOf]
    have hle : (pre ++ [(xa, xb, xc)]).length = pre.length + 1 := by simp
    refine ⟨HK2.out.from _, HK2.out.walks, ⟨_, HV2.out, ?_⟩, hB.trans HB2.out⟩
    rw [hro, hle]
    exact HR2.out
  case done =>
    rintro D ys W hD hS ⟨⟨v, hv, hrow, _⟩, hB⟩ hK
    have hc := hv.cell
    gi_wp2
    refine ⟨by simp, .inl ⟨_, _, rfl, run_takeDeferred hK, ?_⟩⟩
    exact ⟨_, results_tmp rfl _ _ _, v, ys, rfl, hS, ownsRow_putObj hrow _ hK rfl, hB.trans (belowK_b (w := w) (Nat.le_refl _) W D _ _ (by simp at hD; omega) hK rfl rfl)⟩
  case stop =>
    rintro D c pre W _ _ h _
    exact h.elim
set_option maxRecDepth 100000 in
theorem collect_in (n : Nat) (hn : 3 ≤ n) (g : Nat) (lb : Array Value) (eg : ∀ args w, (callFunc g args).run Tryz.prog w = .ok (.enter g args) w) (S : List TxP → Prop) (N : Nat) (hN : N ≤ 1000000) (w : World)
    (hseq : SeqStopsK Fence.wide (n - 1 - 1) Tryz.prog g lb (fun x : TxP => #[txV x]) KeepsWalks S (fun _ => True) N w) :
    CallsIn Fence.wide n Tryz.prog 67 #[.func (.func g) #[] lb] w fun e w' => ∃ (v : Value) (ss : List TxP), e = .returned v ∧ S ss ∧ w'.ownsRow w.heap.size 34 3 v ss.length (rowOf ss) ∧ Below w.heap.size w w' := by
  have h1 : 1 ≤ n := by omega
  have hF : Fence.wide.fn 67 := trivial
  refine callsIn_of_wp Tryz.func67 rfl hF ?_ rfl
  simp only [Tryz.ntmps67, List.size_toArray, List.length_cons, List.length_nil, Nat.reduceAdd, Nat.reduceSub, Array.replicate_succ, Array.replicate_zero, List.push_toArray, List.append_toArray, List.nil_append, List.cons_append]
  gi_wp2_with (refine ⟨trivial, ?_⟩; gi_at_call 91; refine (appendSeq_in (n - 1) (by omega) g lb eg S N hN _ hseq).mono ?_; rintro e w' ⟨v, ss, rfl, hS, hrow, hb⟩)
  go_ret
  exact ⟨v, ss, rfl, hS, hrow, hb⟩
end
section
open Go.RowKit Go.Maps Classical

abbrev txVN (t : TxN) : Value := .agg #[.int .u8 (t.1 : Int), .int .u32 (t.2.1 : Int), .int .u32 (t.2.2 : Int)]
def TxB (t : TxN) : Prop := t.1 < 256 ∧ t.2.1 < 4294967296 ∧ t.2.2 < 4294967296
abbrev TxT : Type := {t : TxN // TxB t}
theorem txI_ok {t : TxN} (h : TxB t) : txOk (txI t) := by
  obtain ⟨h1, h2, h3⟩ := h
  unfold txOk txI
  simp only
  omega
theorem txI_inj {t u : TxN} (h : txI t = txI u) : t = u := by
  obtain ⟨a, b, c⟩ := t
  obtain ⟨d, e, f⟩ := u
  simp only [txI, Prod.mk.injEq] at h
  have h1 : a = d := by omega
  have h2 : b = e := by omega
  have h3 : c = f := by omega
  rw [h1, h2, h3]
theorem tx_back {x : TxP} (h : txOk x) : ∃ t : TxT, x = txI t.1 := by
  obtain ⟨a, b, c⟩ := x
  unfold txOk at h
  simp only at h
  refine ⟨⟨(a.toNat, b.toNat, c.toNat), ?_⟩, ?_⟩
  · unfold TxB
    simp only
    omega
  · simp only [txI, Prod.mk.injEq]
    omega
theorem below_drew14 (w : World) : Below w.heap.size w w.drew := (Below.refl _ _).drew
theorem alloc_below14 (w : World) (o : Obj) : Below w.heap.size w (w.alloc o) := (Below.refl _ _).alloc (Nat.le_refl _) _
theorem box_eight14 {W : World} {b : Nat} {k : List Int} {t : TypeId} (h : Box W b (eightA k) t) : W.cell? ⟨b, 0, none⟩ = some (.int .u8 (at8 k 0)) ∧ W.cell? ⟨b, 1, none⟩ = some (.int .u8 (at8 k 1)) ∧ W.cell? ⟨b, 2, none⟩ = some (.int .u8 (at8 k 2)) ∧ W.cell? ⟨b, 3, none⟩ = some (.int .u8 (at8 k 3)) ∧ W.cell? ⟨b, 4, none⟩ = some (.int .u8 (at8 k 4)) ∧ W.cell? ⟨b, 5, none⟩ = some (.int .u8 (at8 k 5)) ∧ W.cell? ⟨b, 6, none⟩ = some (.int .u8 (at8 k 6)) ∧ W.cell? ⟨b, 7, none⟩ = some (.int .u8 (at8 k 7)) :=
  ⟨h.cell 0 _ rfl, h.cell 1 _ rfl, h.cell 2 _ rfl, h.cell 3 _ rfl, h.cell 4 _ rfl, h.cell 5 _ rfl, h.cell 6 _ rfl, h.cell 7 _ rfl⟩
section
/-- A result in a variable, and one beside. -/
theorem results_box2s {P : Program} {fn : Func} {p : Tmp} {t t0 : TypeId} {q : Tmp} {d : TypeDesc} (h : fn.results = #[.cell p t, .tmp q]) (tmps : Array Value) (w : World) (b : Nat) (hp : tmps.getD p undef = .pointer (some ⟨b, 0, none⟩)) {v : Value} (hq : tmps.getD q undef = v) {cs : Array Value} (hb : Box w b cs t0)
    (hu : P.underlying t = some d) (hd : d.isRow = true) (hi : (P.info? t).map (·.size) = some cs.size) : (results fn tmps).run P w = .ok (.tuple #[.agg cs, v]) w := by
  have hr : w.rangeAt b 0 cs.toList := fun j v hv => by
    rw [Nat.zero_add]; exact hb.cell j v (by simpa using hv)
  have hl := run_loadVar_mid (P := P) w b 0 t cs.toList d hr hu hd (by simpa using hi)
  have hp' : tmps[p]?.getD undef = .pointer (some ⟨b, 0, none⟩) := by rw [← Array.getD_eq_getD_getElem?]; exact hp
  have hq' : tmps[q]?.getD undef = v := by rw [← Array.getD_eq_getD_getElem?]; exact hq
  simp only [results, h]
  simp [hp', hq', asAddr, hl]
end
end
section
open Go.RowKit Go.Maps Go.Shelf Classical
attribute [local go_sem] Oper.semAt_some

section StoreIn
variable {P : Program} {F : Fence} {n : Nat} {ops : Array Oper} {rest : List Oper} {op : Oper} {a : Act} {w : World} {Q : Exit → Act → World → Prop}
end StoreIn
/-- What was met so far of a map's keys. -/
def MetK (D0 : DataW ItP) (left : Lit → Bool) (ss : List KeyT) : Prop := ss.Nodup ∧ ∀ t : KeyT, (t ∈ ss ↔ (has D0 (kyKey t.1) = true ∧ left (kyKey t.1) = false))
theorem MetK.start (D0 : DataW ItP) : MetK D0 (has D0) [] := ⟨List.nodup_nil, fun t => by cases has D0 (kyKey t.1) <;> simp⟩
theorem MetK.step {D0 : DataW ItP} {left : Lit → Bool} {ss : List KeyT} (h : MetK D0 left ss) {t : KeyT} {y : DataW ItP} (hlk : left (kyKey t.1) = true) (hat : ∀ zd, D0.atKey (kyKey t.1) zd = y) : MetK D0 (fun z => left z && !z.sameKey (kyKey t.1)) (ss ++ [t]) := by
  have hhas : has D0 (kyKey t.1) = true := has_true_of_atKey hat
  have hnew : t ∉ ss := fun hx => by have := ((h.2 t).1 hx).2; rw [hlk] at this; cases this
  refine ⟨List.nodup_append.2 ⟨h.1, by simp, fun a ha b hb => by simp at hb; subst hb; exact fun e => hnew (e ▸ ha)⟩, fun u => ?_⟩
  by_cases hy : u = t
  · subst hy
    have hss : (kyKey u.1).sameKey (kyKey u.1) = true := by unfold kyKey; simp [Lit.sameKey]
    simp [hhas, hss]
  · have hne : kyKey u.1 ≠ kyKey t.1 := fun e => hy (Subtype.ext (kyKey_inj u.2 t.2 e))
    have hsk : (kyKey u.1).sameKey (kyKey t.1) = false := by
      unfold kyKey at hne ⊢
      simp [Lit.sameKey]
      intro e
      exact hne (by rw [e])
    simp [h.2 u, hy, hsk]
/-- The keys of a map. -/
def KeysOf (D : DataW ItP) (ss : List KeyT) : Prop := ss.Nodup ∧ ∀ t : KeyT, (t ∈ ss ↔ has D (kyKey t.1) = true)
theorem MetK.done {D0 : DataW ItP} {left : Lit → Bool} {ss : List KeyT} (h : MetK D0 left ss) (hl : ∀ kl, left kl = false) : KeysOf D0 ss := ⟨h.1, fun t => by rw [h.2 t, hl]; simp⟩
end
section
open Go.RowKit Go.Maps Go.Shelf Classical
attribute [local go_sem] Oper.semAt_some

/-- A key's cells; a row of keys. -/
abbrev kyCs (t : KeyT) : List Value := eightE t.1
def rowK (ss : List KeyT) : List Value := ss.flatMap kyCs
theorem rowK_length (ss : List KeyT) : (rowK ss).length = ss.length * 8 := by
  induction ss with
  | nil => rfl
  | cons t r ih =>
    unfold rowK at ih ⊢
    have e1 : (kyCs t).length = 8 := rfl
    have e2 : (t :: r).length = r.length + 1 := rfl
    rw [List.flatMap_cons, List.length_append, ih, e1, e2]
    omega
end
section
open Go.RowKit

def cells8 (xs : List Int) : Array Value := (xs.map (Value.int .u8)).toArray
theorem cells8_size (xs : List Int) : (cells8 xs).size = xs.length := by simp [cells8]
theorem cells8_one (xs : List Int) : (cells8 xs).all (·.oneCell') = true := by simp [cells8, Value.oneCell']
/-- 'copy(x, s)' of a text that fits. -/
theorem wp_copy_str {ops : Array Oper} {rest : List Oper} {o : Oper} {a : Act} {Q : Exit → Act → World → Prop} (w : World) (hgd : o.guard = none) (d s : Operand)
    (ho : o.op = .call { callee := .builtin .copy, args := #[d, s], argTypes := #[147, 9] }) (p off n cap : Nat) (t : TypeId) (cs zs : List Int) (hb : Box w p (cells8 cs) t) (hd : a.eval d = .slice (some ⟨p, off, none⟩) n cap)
    (st : ByteArray) (hs : a.eval s = .string st) (hle : st.size ≤ n) (hfit : off + st.size ≤ cs.length) (hz : zs = cs.take off ++ (st.data.toList.map fun b => (b.toNat : Int)) ++ cs.drop (off + st.size))
    (h : ∀ w', Box w' p (cells8 zs) t → KeepBut (fun k => k = p) w w' → wpList Tryz.prog ops Q rest (a.put o.dst (.int .i64 st.size)) w') : wpList Tryz.prog ops Q (o :: rest) a w := by
  obtain ⟨i0, hi, hz0, hz1, hz2⟩ := info_parts info5
  have hr := Lib.run_copy_row_string (P := Tryz.prog) w 147 9 o.type 5 p off n cap st (cells8 cs) t Tryz.underlying147 (by simp [hi, hz1]) hb hle (by rw [cells8_size]; exact hfit)
  have e : ((cells8 cs).toList.take off ++ Lib.byteCells st.data.toList ++ (cells8 cs).toList.drop (off + st.size)).toArray = cells8 zs := by
    rw [hz]; simp [cells8, Lib.byteCells]
  rw [e] at hr
  refine wpList_plain hgd fun K hK => ?_
  unfold Oper.wp execOp
  simp only [ho, resolve, invoke, builtin, Sem.run_bind, Sem.run_pure, Result.andThen_ok, List.map_toArray, List.map_cons, List.map_nil, hd, hs, hr]
  exact hK _ _ (h _ (setRow_heap w p _ _ t (0, 0) hb) ⟨rfl, rfl, rfl, by simp [World.setRow], fun k _ hS => setRow_other w p k _ hS⟩)
end
section
open Go.RowKit

/-- New blocks and draws, nothing else. -/
def Grown (w w' : World) : Prop := ∃ q os, w' = Sort.grow (w.drewN q) os
theorem Grown.refl (w : World) : Grown w w := ⟨0, #[], by rw [Sort.grow_empty]; rfl⟩
theorem Grown.alloc {w w' : World} (h : Grown w w') (o : Obj) : Grown w (w'.alloc o) := by
  obtain ⟨q, os, rfl⟩ := h
  exact ⟨q, os ++ #[o], by rw [Sort.alloc_eq_grow, Sort.grow_grow]⟩
theorem Grown.drew {w w' : World} (h : Grown w w') : Grown w w'.drew := by
  obtain ⟨q, os, rfl⟩ := h
  exact ⟨q + 1, os, rfl⟩
theorem Grown.trans {a b c : World} (h : Grown a b) (h' : Grown b c) : Grown a c := by
  obtain ⟨q, os, rfl⟩ := h
  obtain ⟨q', os', rfl⟩ := h'
  refine ⟨q + q', os ++ os', ?_⟩
  simp only [Sort.grow, World.drewN, Array.append_assoc, Nat.add_assoc]
theorem Grown.below {w w' : World} (h : Grown w w') : Below w.heap.size w w' := by
  obtain ⟨q, os, rfl⟩ := h
  refine ⟨rfl, rfl, rfl, by simp [Sort.grow, World.drewN], fun k hk => ?_⟩
  simp only [Sort.grow, World.drewN]
  rw [Array.getElem?_append_left hk]

theorem nan8_any (x : Int) (w : World) : Calls Tryz.prog 92 #[.int .u8 x] w fun e w' => e = .returned (.bool false) ∧ w' = w := by
  go_enter Tryz.func92, Tryz.ntmps92
  go_wp2
  go_ret
  exact ⟨rfl, rfl⟩
theorem nan32_any (x : Int) (w : World) : Calls Tryz.prog 93 #[.int .u32 x] w fun e w' => e = .returned (.bool false) ∧ w' = w := by
  go_enter Tryz.func93, Tryz.ntmps93
  go_wp2
  go_ret
  exact ⟨rfl, rfl⟩
theorem cmp8_any (x y : Int) (w : World) : Calls Tryz.prog 70 #[.int .u8 x, .int .u8 y] w fun e w' => e = .returned (.int .i64 (cmpF x y)) ∧ w' = w := by
  rcases cmpF_rng x y with ⟨h, h2⟩ | ⟨h, h2⟩ | ⟨h, h2⟩
  · rw [h]
    go_enter Tryz.func70, Tryz.ntmps70
    go_wp2_with (go_at_call 92; refine (nan8_any _ _).mono ?_; rintro e w' ⟨rfl, rfl⟩)
    go_ret
    exact ⟨rfl, rfl⟩
  · rw [h]
    clear h
    subst h2
    go_enter Tryz.func70, Tryz.ntmps70
    go_wp2_with (go_at_call 92; refine (nan8_any _ _).mono ?_; rintro e w' ⟨rfl, rfl⟩)
    go_ret
    exact ⟨rfl, rfl⟩
  · rw [h]
    have h3 : ¬ x < y := by omega
    clear h
    go_enter Tryz.func70, Tryz.ntmps70
    go_wp2_with (go_at_call 92; refine (nan8_any _ _).mono ?_; rintro e w' ⟨rfl, rfl⟩)
    go_ret
    exact ⟨rfl, rfl⟩
theorem cmp32_any (x y : Int) (w : World) : Calls Tryz.prog 71 #[.int .u32 x, .int .u32 y] w fun e w' => e = .returned (.int .i64 (cmpF x y)) ∧ w' = w := by
  rcases cmpF_rng x y with ⟨h, h2⟩ | ⟨h, h2⟩ | ⟨h, h2⟩
  · rw [h]
    go_enter Tryz.func71, Tryz.ntmps71
    go_wp2_with (go_at_call 93; refine (nan32_any _ _).mono ?_; rintro e w' ⟨rfl, rfl⟩)
    go_ret
    exact ⟨rfl, rfl⟩
  · rw [h]
    clear h
    subst h2
    go_enter Tryz.func71, Tryz.ntmps71
    go_wp2_with (go_at_call 93; refine (nan32_any _ _).mono ?_; rintro e w' ⟨rfl, rfl⟩)
    go_ret
    exact ⟨rfl, rfl⟩
  · rw [h]
    have h3 : ¬ x < y := by omega
    clear h
    go_enter Tryz.func71, Tryz.ntmps71
    go_wp2_with (go_at_call 93; refine (nan32_any _ _).mono ?_; rintro e w' ⟨rfl, rfl⟩)
    go_ret
    exact ⟨rfl, rfl⟩
/-- The first that is not 0, of many. -/
def orL : List Int → Int
  | [] => 0
  | x :: r => orF x (orL r)
theorem or_any (xs : List Int) (v : Value) (w : World) (h : Lies .i64 w v xs) (hn : xs.length ≤ 100) : Calls Tryz.prog 69 #[v] w fun e w' => e = .returned (.int .i64 (orL xs)) ∧ w' = w := by
  rcases h with ⟨rfl, ao, cap, rfl, _⟩ | ⟨hx, b, off, cap, rfl, hb, hl, hm, hc⟩
  · go_enter Tryz.func69, Tryz.ntmps69
    go_wp2
    refine wp_loop_rounds 1 ?_
    rw [rounds_succ]
    go_wp2
    go_ret
    exact ⟨rfl, rfl⟩
  · have HO : Hid (orL xs = orL (xs.drop 0)) := hide rfl
    have HC := hide hc
    clear hc
    go_enter Tryz.func69, Tryz.ntmps69
    go_wp2
    go_loop [8] (fun i => ∃ k : Nat, k ≤ xs.length ∧ i = .int .i64 k ∧ Hid (orL xs = orL (xs.drop k))) (fun i => xs.length - (intOf i).toNat)
    case atStart => exact ⟨0, Nat.zero_le _, rfl, HO⟩
    case round =>
      obtain ⟨k, hk, rfl, HK⟩ := hrel
      by_cases hlt : k < xs.length
      · have hcell := HC.out k hlt
        have HD : Hid (xs.drop k = xs.getD k 0 :: xs.drop (k + 1)) := hide (by
          rw [List.drop_eq_getElem_cons hlt]; simp [List.getD, hlt])
        generalize xs.getD k 0 = c at *
        by_cases h0 : c = 0
        · subst h0
          go_wp2
          go_round
          case rel => exact ⟨k + 1, by omega, by go_num, hide (by rw [HK.out, HD.out]; rfl)⟩
          case measure => simp [intOf]; omega
        · have h0' : (c != 0) = true := bne_iff_ne.2 h0
          go_wp2
          go_ret
          exact ⟨ret_int (by rw [HK.out, HD.out]; unfold orL orF; rw [if_neg h0]), rfl⟩
      · go_wp2
        go_ret
        exact ⟨ret_int (by rw [HK.out, List.drop_eq_nil_of_le (by omega)]; rfl), rfl⟩
end
end Go.Proofs.YtddflccjmigloaaGreat
