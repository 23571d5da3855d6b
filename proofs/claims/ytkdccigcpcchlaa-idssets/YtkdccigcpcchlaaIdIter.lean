/-
  maps.Keys over a map of names: the iterator gives each name once. Own work.
-/
import Derived.Test.YtkdccigcpcchlaaIdSet
import Derived.Test.YtkdccigcpcchlaaIdBox
import Derived.RangeFuncNested
import Derived.RangeFuncLeaves
import Derived.RangeFuncBox
import Derived.Sort.MapsRangeIn
import Derived.Sort.KeysCollected
import Derived.Shelf.Abstract
import Derived.OwnWalkIn
import Derived.TacticsInMore
import Derived.LoopNIn
import Derived.LoopIn
namespace Go.Proofs.Ytkdccigcpcchlaa
open Go.RowKit Go.Maps Go.Shelf
attribute [local go_sem] Oper.semAt_some

section StoreIn
variable {P : Program} {F : Fence} {n : Nat} {ops : Array Oper} {rest : List Oper} {op : Oper} {a : Act} {w : World} {Q : Exit → Act → World → Prop}
/-- A whole variable is stored, inside a fence. -/
theorem wpIn_store_box {t t0 : TypeId} (hgd : op.guard = none) (hdst : op.dst = none) (x y : Operand) (ho : op.op = .store t x y)
    (p : Nat) (hx : a.eval x = .pointer (some ⟨p, 0, none⟩)) {cs cs' : Array Value} (hy : a.eval y = .agg cs') (hb : Box w p cs t0) (hsz : cs.size = cs'.size) (hi : (P.info? t).map (·.size) = some cs'.size) (h1 : cs'.all (·.oneCell') = true)
    (h : ∀ w', Box w' p cs' t0 → KeepBut (fun k => k = p) w w' → wpListIn F n P ops Q rest a w') : wpListIn F n P ops Q (op :: rest) a w := by
  refine wpListIn_plain hgd fun K hK => ?_
  have hr := run_storeVar_row (P := P) w p t0 t cs cs' hb hi hsz h1
  unfold Oper.wpIn
  refine ⟨by simp [Oper.about, ho], ?_⟩
  rw [Oper.semAt_plain F _ _ (by rw [ho]; intro c hc'; cases hc')]
  unfold execOp
  simp only [ho, hx, hy, Instr.storeAt, Instr.sureAddr, Sem.run_bind, Sem.run_pure, Result.andThen_ok, hr]
  show K (a.put op.dst undef) _
  rw [hdst]
  refine hK _ _ (h _ ?_ ?_)
  · exact setRow_heap w p cs cs' t0 (0, 0) hb
  · exact ⟨rfl, rfl, rfl, by simp [World.setRow], fun k _ hS => setRow_other w p k cs' hS⟩
end StoreIn
theorem infoTx3 : (Try.prog.info? 35).map (·.size) = some 3 := by kernel_rfl
/-- A new block, then written: nothing that lay has turned. -/
theorem grown_new {w w' : World} (o : Obj) (hk : KeepBut (fun k => k = w.heap.size) (w.alloc o) w') : w.grownBy w' none :=
  ⟨hk.os, hk.tape, hk.output, by have := hk.size; simp at this; omega, fun k hlt _ => (hk.block k (by simp; omega) (by omega)).trans (Below.heap_alloc _ _ k hlt)⟩

/-- What was met so far of a map's names. -/
def Met (D0 : DataW Unit) (left : Lit → Bool) (ss : List TxP) : Prop := ss.Nodup ∧ (∀ t ∈ ss, txOk t) ∧ ∀ t, txOk t → (t ∈ ss ↔ (has D0 (txKey t) = true ∧ left (txKey t) = false))
theorem Met.start (D0 : DataW Unit) : Met D0 (has D0) [] := ⟨List.nodup_nil, by simp, fun t _ => by cases has D0 (txKey t) <;> simp⟩
theorem Met.step {D0 : DataW Unit} {left : Lit → Bool} {ss : List TxP} (h : Met D0 left ss) {t : TxP} (ht : txOk t) {y : DataW Unit} (hlk : left (txKey t) = true) (hat : ∀ zd, D0.atKey (txKey t) zd = y) : Met D0 (fun z => left z && !z.sameKey (txKey t)) (ss ++ [t]) := by
  have hhas : has D0 (txKey t) = true := has_true_of_atKey hat
  have hnew : t ∉ ss := fun hx => by have := ((h.2.2 t ht).1 hx).2; rw [hlk] at this; cases this
  refine ⟨List.nodup_append.2 ⟨h.1, by simp, fun a ha b hb => by simp at hb; subst hb; exact fun e => hnew (e ▸ ha)⟩, fun u hu => ?_, fun u hu => ?_⟩
  · rcases List.mem_append.1 hu with hu | hu
    · exact h.2.1 u hu
    · simp at hu; subst hu; exact ht
  · by_cases hy : u = t
    · subst hy
      have hss : (txKey u).sameKey (txKey u) = true := by unfold txKey; simp [Lit.sameKey]
      simp [hhas, hss]
    · have hne : txKey u ≠ txKey t := fun e => hy (txKey_inj hu ht e)
      have hsk : (txKey u).sameKey (txKey t) = false := by
        unfold txKey at hne ⊢
        simp [Lit.sameKey]
        intro e
        exact hne (by rw [e])
      simp [h.2.2 u hu, hy, hsk]
/-- The names of a set. -/
def NamesOf (D : DataW Unit) (ss : List TxP) : Prop := ss.Nodup ∧ (∀ t ∈ ss, txOk t) ∧ ∀ t, txOk t → (t ∈ ss ↔ has D (txKey t) = true)
theorem Met.done {D0 : DataW Unit} {left : Lit → Bool} {ss : List TxP} (h : Met D0 left ss) (hl : ∀ kl, left kl = false) : NamesOf D0 ss := ⟨h.1, h.2.1, fun t ht => by rw [h.2.2 t ht, hl]; simp⟩

set_option maxRecDepth 100000 in
set_option maxHeartbeats 2000000 in
theorem keys1_in (n : Nat) (hn : 1 ≤ n) (l Bm b nn : Nat) (D0 : DataW Unit) (J Jx : List TxP → World → Prop)
    (hY : ∀ pre x W, J pre W → pre.length < Maps.size D0 → YieldAt Fence.wide (n - 1) Try.prog l #[txV x] W fun e W' => (e = .returned (.bool true) ∧ J (pre ++ [x]) W' ∧ KeepsWalks W W') ∨ (e = .returned (.bool false) ∧ Jx (pre ++ [x]) W'))
    (W : World) (hJ : AbidesFrom W.heap.size J) (hm : W.cell? ⟨Bm, 0, none⟩ = some (.map (some b))) (hown : W.ownsMap Try.prog 35 unitElem b nn D0) (h0 : J [] W) :
    CallsIn Fence.wide n Try.prog 92 #[.func (.yield l) #[] #[], .pointer (some ⟨Bm, 0, none⟩)] W fun e W' => (∃ v, e = .returned v) ∧ ((∃ ss : List TxP, (NamesOf D0 ss ∧ ss.length ≤ Maps.size D0) ∧ J ss W') ∨ (∃ pre : List TxP, True ∧ Jx pre W')) := by
  have hF : Fence.wide.fn 92 := trivial
  have HI := hide infoTx3
  refine callsIn_of_wp Try.func92 rfl hF ?_ rfl
  simp only [Try.ntmps92, List.size_toArray, List.length_cons, List.length_nil, Nat.reduceAdd, Nat.reduceSub, Array.replicate_succ, Array.replicate_zero, List.push_toArray, List.append_toArray, List.nil_append, List.cons_append]
  gi_wp2_with (gi_at_range; refine wpListIn_range_own _ rfl _ 90 rfl 35 119 txKeyed Try.underlying90 _ b nn _ rfl hown ?_; intro w0 hrg0 hg0 hs0)
  go_frame
  gi_loopw [3] (fun _ wr => ∃ (left : Lit → Bool) (cnt : Nat) (ss : List TxP), wr.ranges Try.prog 35 unitElem b W.heap.size nn D0 left cnt ∧ ss.length + cnt ≤ Maps.size D0 ∧ Met D0 left ss ∧ J ss wr)
    (fun _ wr => wr.rangeLeft b W.heap.size)
  case atStart =>
    exact ⟨_, _, [], hrg0, by simp, Met.start D0, hJ [] W w0 none h0 hg0 (fun r e => by cases e)⟩
  case round =>
    obtain ⟨left, cnt, ss, hrg, hcs, hC, hJs⟩ := hrel
    gi_wp2_with (gi_at_next; refine wpListIn_next_ranges _ rfl _ rfl 35 txKeyed unitElem txV id (fun key kl hk => by obtain ⟨x, _, hx, _⟩ := keyOf_tx_inv hk; exact ⟨x, hx⟩) (fun v _ _ => ⟨v, rfl⟩) b W.heap.size nn _ _ _ rfl hrg ?_ ?_)
    · intro hc0 hl0
      gi_wp2
      go_end0
      exact ⟨⟨_, rfl⟩, .inl ⟨ss, ⟨hC.done hl0, by omega⟩, hJs⟩⟩
    · intro xa xb xc c kl yd yp w2 cnt2 hkey hlk hv hat hrg2 hlt hg2 hs2 hen
      obtain ⟨x', hok, ex, rfl⟩ := keyOf_tx_inv hkey
      obtain rfl : (xa, xb, xc) = x' := by
        obtain ⟨d, e, f⟩ := x'
        simp [txV] at ex
        obtain ⟨rfl, rfl, rfl⟩ := ex
        rfl
      have hJ2 : J ss w2 := hJ ss wr w2 (some W.heap.size) hJs hg2 (fun r e => by cases e; exact ⟨Nat.le_refl _, hrg.iter_walk⟩)
      have HX := hide (box_new w2 #[.int .u8 0, .int .u32 0, .int .u32 0] 35)
      clear hs2 ex
      gi_wp2_with (refine wpIn_store_box (cs' := #[.int .u8 xa, .int .u32 xb, .int .u32 xc]) rfl rfl _ _ rfl _ rfl rfl HX.out rfl HI.out (by simp [Value.oneCell']) ?_; intro w3 hb3 hk3; have HB3 := hide hb3; have HK3 := hide hk3; clear hb3 hk3; obtain ⟨z0, z1, z2⟩ := HB3.out.three; have zl := HB3.out.lt; have hg3 := grown_new _ HK3.out; have hJ3 : J ss w3 := hJ ss w2 w3 none hJ2 hg3 (fun r e => by cases e); have hrg3 := hrg2.of_walks (KeepsWalks.of_grownBy hg3 (fun j o e => by cases e)); obtain ⟨fn, tmps, assign, body, hy, hR⟩ := hY ss (xa, xb, xc) w3 hJ3 (by omega); have HR := hide hR; have HG3 := hide hg3; clear hg3 hR)
      refine HR.out.mono ?_
      rintro e W4 (⟨rfl, hJ4, hk4⟩ | ⟨rfl, hJx4⟩)
      · have hrg4 := hrg3.of_walks hk4
        gi_wp2
        go_roundw
        case rel => exact ⟨_, cnt2, ss ++ [(xa, xb, xc)], hrg4, by simp; omega, hC.step hok hlk hat, hJ4⟩
        case measure => rw [hrg4.left_eq, hrg.left_eq]; exact hlt
      · gi_wp2
        refine bodyPost_ret (results_none rfl _ _ _) rfl ?_
        exact ⟨⟨_, rfl⟩, .inr ⟨_, trivial, hJx4⟩⟩
theorem keys_in (n : Nat) (mb : Option Nat) (w : World) :
    CallsIn Fence.wide n Try.prog 76 #[.map mb] w fun e w' => e = .returned (.func (.func 92) #[] #[.pointer (some ⟨w.heap.size, 0, none⟩)]) ∧ w' = w.alloc (.cells #[.map mb] 90) := by
  have hF : Fence.wide.fn 76 := trivial
  refine callsIn_of_wp Try.func76 rfl hF ?_ rfl
  simp only [Try.ntmps76, List.size_toArray, List.length_cons, List.length_nil, Nat.reduceAdd, Nat.reduceSub, Array.replicate_succ, Array.replicate_zero, List.push_toArray, List.append_toArray, List.nil_append, List.cons_append]
  gi_wp2
  go_ret
  exact ⟨rfl, rfl⟩
theorem keys_stops (n : Nat) (hn : 1 ≤ n) (Bm b nn : Nat) (D0 : DataW Unit) (w : World) (hBm : Bm < w.heap.size) (hm : w.cell? ⟨Bm, 0, none⟩ = some (.map (some b))) (hown : w.ownsMap Try.prog 35 unitElem b nn D0) :
    SeqStopsK Fence.wide n Try.prog 92 #[.pointer (some ⟨Bm, 0, none⟩)] (fun x : TxP => #[txV x]) KeepsWalks (fun ss => NamesOf D0 ss ∧ ss.length ≤ Maps.size D0) (fun _ => True) (Maps.size D0) w := fun l J Jx W hW hJ _ hY h0 =>
  keys1_in n hn l Bm b nn D0 J Jx hY W hJ ((hW.cell (p := ⟨Bm, 0, none⟩) hBm).trans hm) (owns_block hown (hW.block b hown.lt)) h0
set_option maxRecDepth 100000 in
theorem keys1_nil_in (n : Nat) (l Bm : Nat) (J Jx : List TxP → World → Prop) (W : World) (hJ : AbidesFrom W.heap.size J) (hm : W.cell? ⟨Bm, 0, none⟩ = some (.map none)) (h0 : J [] W) :
    CallsIn Fence.wide n Try.prog 92 #[.func (.yield l) #[] #[], .pointer (some ⟨Bm, 0, none⟩)] W fun e W' => (∃ v, e = .returned v) ∧ ((∃ ss : List TxP, ss = [] ∧ J ss W') ∨ (∃ pre : List TxP, True ∧ Jx pre W')) := by
  have hF : Fence.wide.fn 92 := trivial
  refine callsIn_of_wp Try.func92 rfl hF ?_ rfl
  simp only [Try.ntmps92, List.size_toArray, List.length_cons, List.length_nil, Nat.reduceAdd, Nat.reduceSub, Array.replicate_succ, Array.replicate_zero, List.push_toArray, List.append_toArray, List.nil_append, List.cons_append]
  have hrg := run_range_nilMap (P := Try.prog) W 90 35 119 Try.underlying90
  have hnx : ∀ ty, (Instr.next (.pointer (some ⟨W.heap.size, 0, none⟩)) false ty).run Try.prog (W.alloc (.mapIter none 0 #[] 0)) = _ := fun ty => run_next_nilMap _ ty 0 0 #[]
  gi_wp2
  refine wpIn_loop_rounds 1 ?_
  rw [roundsIn_succ]
  gi_wp2
  go_end0
  exact ⟨⟨_, rfl⟩, .inl ⟨[], rfl, hJ [] W _ none h0 (World.grownBy_alloc W _ none) (fun r e => by cases e)⟩⟩
theorem keys_stops_nil (n : Nat) (Bm : Nat) (w : World) (hBm : Bm < w.heap.size) (hm : w.cell? ⟨Bm, 0, none⟩ = some (.map none)) :
    SeqStopsK Fence.wide n Try.prog 92 #[.pointer (some ⟨Bm, 0, none⟩)] (fun x : TxP => #[txV x]) KeepsWalks (fun ss => ss = []) (fun _ => True) 0 w := fun l J Jx W hW hJ _ _ h0 =>
  keys1_nil_in n l Bm J Jx W hJ ((hW.cell (p := ⟨Bm, 0, none⟩) hBm).trans hm) h0
end Go.Proofs.Ytkdccigcpcchlaa
