/-
  slices.AppendSeq and slices.Collect of names, against whatever iterator. Own work.
-/
import Derived.Test.YtkdccigcpcchlaaIdIter
namespace Go.Proofs.Ytkdccigcpcchlaa
open Go.RowKit Go.Maps Go.Shelf
attribute [local go_sem] Oper.semAt_some

/-- A name's cells; a row of names. -/
abbrev txCs (t : TxP) : List Value := [.int .u8 t.1, .int .u32 t.2.1, .int .u32 t.2.2]
def rowOf (ss : List TxP) : List Value := ss.flatMap txCs
theorem rowOf_length (ss : List TxP) : (rowOf ss).length = ss.length * 3 := by
  induction ss with
  | nil => rfl
  | cons t r ih => unfold rowOf at *; simp [List.flatMap_cons, ih]; omega
theorem rowOf_append (ss ts : List TxP) : rowOf (ss ++ ts) = rowOf ss ++ rowOf ts := by unfold rowOf; simp
theorem infoTxs : (Try.prog.info? 35).map (fun i => (i.zero, i.size, i.bytes)) = some (some (.agg #[.int .u8 0, .int .u32 0, .int .u32 0]), 3, 12) := by kernel_rfl
theorem Box.grownI {W W' : World} {row : Option Nat} {B : Nat} {cs : Array Value} {t : TypeId} (h : Box W B cs t) (hg : W.grownBy W' row) (hr : ∀ r, row = some r → ∃ o : Obj, W.heap[r]? = some o ∧ o.isCells = false) : Box W' B cs t :=
  (hg.block B h.lt (fun e => by
    obtain ⟨o, ho, hc⟩ := hr B e.symm
    have hb : W.heap[B]? = _ := h
    rw [hb] at ho; cases ho; cases hc)).trans h
theorem cells_news (W : World) (x : TxP) (o : Obj) (ho : o = .cells #[.int .u8 x.1, .int .u32 x.2.1, .int .u32 x.2.2] 35) : ∀ j u, (txCs x)[j]? = some u → (W.alloc o).cell? (Addr.add ⟨W.heap.size, 0, none⟩ j) = some u := by
  intro j u hu
  subst ho
  rw [Addr.add_lit, Nat.zero_add]
  exact (box_new W _ _).cell j u (by simpa using hu)

set_option maxRecDepth 100000 in
set_option maxHeartbeats 2000000 in
theorem appendSeq_in (n : Nat) (hn : 2 ≤ n) (g : Nat) (lb : Array Value) (eg : ∀ args w, (callFunc g args).run Try.prog w = .ok (.enter g args) w) (S : List TxP → Prop) (N : Nat) (hN : N ≤ 1000000) (w : World)
    (hseq : SeqStopsK Fence.wide (n - 1) Try.prog g lb (fun x : TxP => #[txV x]) KeepsWalks S (fun _ => True) N w) :
    CallsIn Fence.wide n Try.prog 103 #[.slice none 0 0, .func (.func g) #[] lb] w fun e w' => ∃ (v : Value) (ss : List TxP), e = .returned v ∧ S ss ∧ w'.ownsRow w.heap.size 35 3 v ss.length (rowOf ss) ∧ Below w.heap.size w w' := by
  have h1 : 1 ≤ n := by omega
  have HI := hide infoTx3
  obtain ⟨i0, hi, hz0, hz1, hz2⟩ := info_parts infoTxs
  have hF : Fence.wide.fn 103 := trivial
  refine callsIn_of_wp_marks Try.func103 rfl hF ?_ rfl
  simp only [Try.ntmps103, List.size_toArray, List.length_cons, List.length_nil, Nat.reduceAdd, Nat.reduceSub, Array.replicate_succ, Array.replicate_zero, List.push_toArray, List.append_toArray, List.nil_append, List.cons_append]
  gi_wp2
  have bO := Boxed.new w 83 (.slice none 0 0)
  have hB0 : Below w.heap.size w (w.alloc (.cells #[.slice none 0 0] 83)) := (Below.refl _ w).alloc (Nat.le_refl _) _
  have hI : OwnFrom (w.alloc (.cells #[.slice none 0 0] 83)).heap.size (fun (pre : List TxP) W => (∃ v, Boxed W w.heap.size 83 v ∧ W.ownsRow w.heap.size 35 3 v pre.length (rowOf pre) ∧ True) ∧ Below w.heap.size w W) :=
    OwnFrom.and (Own.from (holdsRow_own w.heap.size w.heap.size 83 35 3 (fun pre : List TxP => pre.length) rowOf (fun _ _ => True)) _) (ownFrom_below (Nat.le_refl _) (by simp))
  refine wpIn_rangeFunc_ownH rfl h1 (gf := g) (lb := lb) rfl trivial eg hseq walksK_t walksK_b hB0 (fun _ => rfl)
    (fun pre W => (∃ v, Boxed W w.heap.size 83 v ∧ W.ownsRow w.heap.size 35 3 v pre.length (rowOf pre) ∧ True) ∧ Below w.heap.size w W)
    (fun _ _ _ => False) hI (fun _ _ _ _ _ hs _ _ => hs) ⟨⟨_, bO, World.ownsRow_nil _ _ _ _, trivial⟩, hB0⟩
    (fun x a' W => ∃ q, a' = { tmps := #[.slice none 0 0, .func (.func g) #[] lb, .pointer (some ⟨w.heap.size, 0, none⟩), undef, .slice none 0 0, .pointer (some ⟨q, 0, none⟩), .func (.func g) #[] lb, txV x, undef, undef, undef, undef, undef], defers := [] } ∧ Box W q #[.int .u8 x.1, .int .u32 x.2.1, .int .u32 x.2.2] 35)
    (fun x a' s X Y row hs hg hr => by
      obtain ⟨q, e, hb⟩ := hs
      exact ⟨q, e, hb.grownI hg (fun r e => (hr r e).2)⟩) ?assign ?body ?done ?stop
  case assign =>
    rintro l pre ⟨xa, xb, xc⟩ W K hi2 hK
    have HX := hide (box_new W #[.int .u8 0, .int .u32 0, .int .u32 0] 35)
    gi_wp2_with (refine wpIn_store_box (cs' := #[.int .u8 xa, .int .u32 xb, .int .u32 xc]) rfl rfl _ _ rfl _ rfl rfl HX.out rfl HI.out (by simp [Value.oneCell']) ?_; intro w3 hb3 hk3; have HB3 := hide hb3; have HK3 := hide hk3; clear hb3 hk3)
    have hg3 := grown_new _ HK3.out
    exact hK _ _ (KeepsFrom.of_grownBy hg3 (fun j e => by cases e)) (KeepsWalks.of_grownBy hg3 (fun j o e => by cases e)) (hI pre W w3 none hi2 hg3 (fun r e => by cases e)) ⟨_, rfl, HB3.out⟩
  case body =>
    rintro l pre ⟨xa, xb, xc⟩ a' W hl hrec ⟨⟨v, hv, hrow, _⟩, hB⟩ ⟨q, rfl, hbx⟩ hlt
    have hc := hv.cell
    obtain ⟨z0, z1, z2⟩ := hbx.three
    have zl := hbx.lt
    have HBX := hide hbx
    have HN := hide (cells_news W (xa, xb, xc) _ rfl)
    clear hbx hrec
    gi_wp2_with (gi_at_builtin; refine wpListIn_append_own _ rfl _ _ 83 rfl w.heap.size 35 i0 _ 3 12 Try.underlying83 hi hz0 hz1 hz2 rfl (by decide) _ _ _ rfl (hrow.alloc _) ⟨W.heap.size, 0, none⟩ 1 1 (txCs (xa, xb, xc)) rfl rfl HN.out (by simp [Value.oneCell']) (by unfold maxLen; omega) (by omega) (by have := hB.size; simp; omega) ?_; intro v' w1 hown' hgrow _; obtain ⟨g', cap', rfl⟩ := ownsRow_succ hown'; obtain ⟨hv1, hv2, hr2, hk2, hb2⟩ := hv.appended (by decide) hrow hB.size (Nat.le_refl _) hown' hgrow; have hc1 := hv1.cell; have hf1 := hv1.frozen; have HR2 := hide hr2; have HK2 := hide hk2; have HB2 := hide hb2; have HV2 := hide hv2; clear hr2 hk2 hb2 hv2 hown' hgrow)
    have hro : rowOf (pre ++ [(xa, xb, xc)]) = rowOf pre ++ txCs (xa, xb, xc) := by rw [rowOf_append]; simp [rowOf]
    have hle : (pre ++ [(xa, xb, xc)]).length = pre.length + 1 := by simp
    refine ⟨HK2.out.from _, HK2.out.walks, ⟨_, HV2.out, ?_⟩, hB.trans HB2.out⟩
    rw [hro, hle]
    exact HR2.out
  case done =>
    rintro D ys W hD hS ⟨⟨v, hv, hrow, _⟩, hB⟩ hK
    have hc := hv.cell
    gi_wp2
    refine ⟨by simp, .inl ⟨_, _, rfl, run_takeDeferred hK, ?_⟩⟩
    exact ⟨_, results_tmp rfl _ _ _, v, ys, rfl, hS, ownsRow_putObj hrow _ hK rfl, hB.trans (belowK_b (w := w) (Nat.le_refl _) W D _ _ (by simp at hD; omega) hK rfl rfl)⟩
  case stop =>
    rintro D c pre W _ _ h _
    exact h.elim
set_option maxRecDepth 100000 in
theorem collect_in (n : Nat) (hn : 3 ≤ n) (g : Nat) (lb : Array Value) (eg : ∀ args w, (callFunc g args).run Try.prog w = .ok (.enter g args) w) (S : List TxP → Prop) (N : Nat) (hN : N ≤ 1000000) (w : World)
    (hseq : SeqStopsK Fence.wide (n - 1 - 1) Try.prog g lb (fun x : TxP => #[txV x]) KeepsWalks S (fun _ => True) N w) :
    CallsIn Fence.wide n Try.prog 90 #[.func (.func g) #[] lb] w fun e w' => ∃ (v : Value) (ss : List TxP), e = .returned v ∧ S ss ∧ w'.ownsRow w.heap.size 35 3 v ss.length (rowOf ss) ∧ Below w.heap.size w w' := by
  have h1 : 1 ≤ n := by omega
  have hF : Fence.wide.fn 90 := trivial
  refine callsIn_of_wp Try.func90 rfl hF ?_ rfl
  simp only [Try.ntmps90, List.size_toArray, List.length_cons, List.length_nil, Nat.reduceAdd, Nat.reduceSub, Array.replicate_succ, Array.replicate_zero, List.push_toArray, List.append_toArray, List.nil_append, List.cons_append]
  gi_wp2_with (refine ⟨trivial, ?_⟩; gi_at_call 103; refine (appendSeq_in (n - 1) (by omega) g lb eg S N hN _ hseq).mono ?_; rintro e w' ⟨v, ss, rfl, hS, hrow, hb⟩)
  go_ret
  exact ⟨v, ss, rfl, hS, hrow, hb⟩
end Go.Proofs.Ytkdccigcpcchlaa
