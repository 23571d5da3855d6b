/-
  Own texts put together: E10One, TbIns, TbIns2, TbColl. Own work.
-/
import Derived.Test.YtlngejmojpkdkaaG09
import Derived.Test.YtlngejmojpkdkaaG15
namespace Go.Proofs.Ytlngejmojpkdkaa
section
open Go.RowKit Classical

/-- A whole variable is loaded, behind a guard that lets it by. -/
theorem wp_load_box_g {ops : Array Oper} {rest : List Oper} {op : Oper} {a : Act} {w : World} {Q : Exit → Act → World → Prop} {t t0 : TypeId} {d : TypeDesc} (hgd : Region.wanted op (yielded ops a.tmps) = true) (x : Operand) (ho : op.op = .load t x)
    (p : Nat) (hx : a.eval x = .pointer (some ⟨p, 0, none⟩)) {cs : Array Value} (hb : Box w p cs t0) (hu : Try.prog.underlying t = some d) (hd : d.isRow = true) (hi : (Try.prog.info? t).map (·.size) = some cs.size)
    (h : wpList Try.prog ops Q rest (a.put op.dst (.agg cs)) w) : wpList Try.prog ops Q (op :: rest) a w := by
  have hr : w.rangeAt p 0 cs.toList := fun j v hv => by
    rw [Nat.zero_add]; exact hb.cell j v (by simpa using hv)
  exact wpList_wanted hgd fun _ hK => wp_load_mid t x ho p 0 hx cs.toList d hr hu hd (by simpa using hi) (hK _ _ (by simpa using h))
end
section
open Go.RowKit Go.Maps Classical

/-- Why an item that may be is refused. -/
def refA (t : List WrP) (k : List Int) (i : ItP) : Int := match getT t k with
  | none => if 64 ≤ t.length then 5 else 0
  | some o => if i.ver < o.ver then 13 else if o.ver = i.ver ∧ itEqB o i = false then 7 else 0
theorem insA_ref (t : List WrP) (k : List Int) (i : ItP) : insA t k i = if ((nameF k).2 && itMayB i) = false then 1 else refA t k i := rfl
theorem neq_it13 {a b : ItP} (ha : ItOk a) (hb : ItOk b) (w : World) : (binOp .neq 36 (.agg (itA a)) (.agg (itA b))).run Try.prog w = .ok (.bool (!decide (a = b))) w := by
  rw [run_neq_struct, show (10000 : Nat) = 9996 + 4 from rfl, eq_it 9996 ha hb]
  rfl
set_option maxRecDepth 100000 in
set_option maxHeartbeats 1600000 in
theorem refusal_none (q b : Nat) (t : List WrP) (k : List Int) (i : ItP) (w : World) (h : PTb w q b t) (hk : KeyOk k) (hg : getT t k = none) :
    Calls Try.prog 27 #[.pointer (some ⟨q, 0, none⟩), .agg (eightA k), .agg (itA i)] w fun e w' => e = .returned (.int .i64 (refA t k i)) ∧ Below w.heap.size w w' := by
  have HR : Hid (refA t k i = if 64 ≤ t.length then 5 else 0) := hide (by unfold refA; rw [hg])
  rw [HR.out]
  have HG := hide hg
  have hA := alloc_below13 w (.cells (eightA k) 31)
  have hA2 := alloc_below13 (w.alloc (.cells (eightA k) 31)) (.cells (itA i) 36)
  have hB2 : Below w.heap.size w ((w.alloc (.cells (eightA k) 31)).alloc (.cells (itA i) 36)) := hA.trans (hA2.mono hA.size)
  have H2 := hide (h.below hB2)
  have HXK := hide ((box_new w (eightA k) 31).belowI hA2)
  have HXI : Hid (Box ((w.alloc (.cells (eightA k) 31)).alloc (.cells (itA i) 36)) (w.heap.size + 1) (itA i) 36) := hide (by have := box_new (w.alloc (.cells (eightA k) 31)) (itA i) 36; simpa using this)
  have HB2 := hide hB2
  clear hA hA2 hB2 h
  clear hg
  by_cases hl : 64 ≤ t.length
  · rw [if_pos hl]
    have dl : decide ((t.length : Int) ≥ 64) = true := decide_eq_true (by omega)
    have dl2 : (64 : Int) ≤ (t.length : Int) := by omega
    go_enter Try.func27, Try.ntmps27
    go_wp2_with fail
    generalize (w.alloc (.cells (eightA k) 31)).alloc (.cells (itA i) 36) = w1 at *
    have h0 : w1.cell? ⟨q, 0, none⟩ = some (.map (some b)) := H2.out.box.cell 0 _ rfl
    obtain ⟨k0, k1, k2, k3, k4, k5, k6, k7⟩ := box_eight HXK.out
    have L1 := (H2.out.map.below (below_drew13 w1)).look hk
    have L2 := fun o => ((H2.out.map.below (alloc_below13 w1 o)).below (below_drew13 _)).look hk
    rw [HG.out] at L1
    simp only [HG.out] at L2
    simp only [Option.getD_none, Option.isSome_none] at L1 L2
    have hlt := HXK.out.lt
    have hqt := H2.out.box.lt
    go_region
    have hA3 := (alloc_below13 w1 (.cells (itA zeroIt) 36)).trans ((below_drew13 (w1.alloc (.cells (itA zeroIt) 36))).mono (by simp))
    have HX3 := hide ((box_new w1 (itA zeroIt) 36).belowI (below_drew13 _))
    have HI3 := hide (HXI.out.belowI hA3)
    have HT3 := hide (H2.out.below hA3)
    have HB3 := hide (HB2.out.trans (hA3.mono HB2.out.size))
    clear hA3 L1 L2 HXK HXI HB2 H2 h0 k0 k1 k2 k3 k4 k5 k6 k7 hlt hqt
    generalize (w1.alloc (.cells (itA zeroIt) 36)).drew = w3 at *
    have g0 : w3.cell? ⟨q, 0, none⟩ = some (.map (some b)) := HT3.out.box.cell 0 _ rfl
    have gl := HT3.out.map.len
    go_wp2_with fail
    go_ret
    exact ⟨rfl, HB3.out⟩
  · rw [if_neg hl]
    have dl : decide ((t.length : Int) ≥ 64) = false := decide_eq_false (by omega)
    have dl2 : ¬ (64 : Int) ≤ (t.length : Int) := by omega
    go_enter Try.func27, Try.ntmps27
    go_wp2_with fail
    generalize (w.alloc (.cells (eightA k) 31)).alloc (.cells (itA i) 36) = w1 at *
    have h0 : w1.cell? ⟨q, 0, none⟩ = some (.map (some b)) := H2.out.box.cell 0 _ rfl
    obtain ⟨k0, k1, k2, k3, k4, k5, k6, k7⟩ := box_eight HXK.out
    have L1 := (H2.out.map.below (below_drew13 w1)).look hk
    have L2 := fun o => ((H2.out.map.below (alloc_below13 w1 o)).below (below_drew13 _)).look hk
    rw [HG.out] at L1
    simp only [HG.out] at L2
    simp only [Option.getD_none, Option.isSome_none] at L1 L2
    have hlt := HXK.out.lt
    have hqt := H2.out.box.lt
    go_region
    have hA3 := (alloc_below13 w1 (.cells (itA zeroIt) 36)).trans ((below_drew13 (w1.alloc (.cells (itA zeroIt) 36))).mono (by simp))
    have HX3 := hide ((box_new w1 (itA zeroIt) 36).belowI (below_drew13 _))
    have HI3 := hide (HXI.out.belowI hA3)
    have HT3 := hide (H2.out.below hA3)
    have HB3 := hide (HB2.out.trans (hA3.mono HB2.out.size))
    clear hA3 L1 L2 HXK HXI HB2 H2 h0 k0 k1 k2 k3 k4 k5 k6 k7 hlt hqt
    generalize (w1.alloc (.cells (itA zeroIt) 36)).drew = w3 at *
    have g0 : w3.cell? ⟨q, 0, none⟩ = some (.map (some b)) := HT3.out.box.cell 0 _ rfl
    have gl := HT3.out.map.len
    go_wp2_with fail
    go_ret
    exact ⟨rfl, HB3.out⟩
set_option maxRecDepth 100000 in
set_option maxHeartbeats 1600000 in
theorem refusal_old (q b : Nat) (t : List WrP) (k : List Int) (i o : ItP) (w : World) (h : PTb w q b t) (hk : KeyOk k) (hg : getT t k = some o) (hv : i.ver < o.ver) :
    Calls Try.prog 27 #[.pointer (some ⟨q, 0, none⟩), .agg (eightA k), .agg (itA i)] w fun e w' => e = .returned (.int .i64 (13)) ∧ Below w.heap.size w w' := by
  have HG := hide hg
  have HC : Hid (cmpF (o.ver : Int) (i.ver : Int) = 1) := hide (by rcases cmpF_rng (o.ver : Int) (i.ver : Int) with ⟨e, h2⟩ | ⟨e, h2⟩ | ⟨e, h2⟩ <;> first | exact e | omega)
  have C := hide (fun W => byVersion_any o i W)
  rw [HC.out] at C
  have hA := alloc_below13 w (.cells (eightA k) 31)
  have hA2 := alloc_below13 (w.alloc (.cells (eightA k) 31)) (.cells (itA i) 36)
  have hB2 : Below w.heap.size w ((w.alloc (.cells (eightA k) 31)).alloc (.cells (itA i) 36)) := hA.trans (hA2.mono hA.size)
  have H2 := hide (h.below hB2)
  have HXK := hide ((box_new w (eightA k) 31).belowI hA2)
  have HXI : Hid (Box ((w.alloc (.cells (eightA k) 31)).alloc (.cells (itA i) 36)) (w.heap.size + 1) (itA i) 36) := hide (by have := box_new (w.alloc (.cells (eightA k) 31)) (itA i) 36; simpa using this)
  have HB2 := hide hB2
  clear hA hA2 hB2 h
  clear hg
  go_enter Try.func27, Try.ntmps27
  go_wp2_with fail
  generalize (w.alloc (.cells (eightA k) 31)).alloc (.cells (itA i) 36) = w1 at *
  have h0 : w1.cell? ⟨q, 0, none⟩ = some (.map (some b)) := H2.out.box.cell 0 _ rfl
  obtain ⟨k0, k1, k2, k3, k4, k5, k6, k7⟩ := box_eight HXK.out
  have L1 := (H2.out.map.below (below_drew13 w1)).look hk
  have L2 := fun o => ((H2.out.map.below (alloc_below13 w1 o)).below (below_drew13 _)).look hk
  rw [HG.out] at L1
  simp only [HG.out] at L2
  simp only [Option.getD_some, Option.isSome_some] at L1 L2
  have hlt := HXK.out.lt
  have hqt := H2.out.box.lt
  go_region
  have hA3 := (alloc_below13 w1 (.cells (itA o) 36)).trans ((below_drew13 (w1.alloc (.cells (itA o) 36))).mono (by simp))
  have HX3 := hide ((box_new w1 (itA o) 36).belowI (below_drew13 _))
  have HI3 := hide (HXI.out.belowI hA3)
  have HT3 := hide (H2.out.below hA3)
  have HB3 := hide (HB2.out.trans (hA3.mono HB2.out.size))
  clear hA3 L1 L2 HXK HXI HB2 H2 h0 k0 k1 k2 k3 k4 k5 k6 k7 hlt hqt
  generalize (w1.alloc (.cells (itA o) 36)).drew = w3 at *
  go_wp2_with (first | (refine wp_load_box rfl _ rfl w1.heap.size rfl HX3.out Try.underlying36 rfl infoIt13 ?_) | (refine wp_load_box rfl _ rfl (w.heap.size + 1) rfl HI3.out Try.underlying36 rfl infoIt13 ?_))
  refine (C.out w3).mono ?_
  rintro e w4 ⟨rfl, hB4⟩
  have HB4 := hide (HB3.out.trans (hB4.mono HB3.out.size))
  clear hB4
  go_wp2_with fail
  go_ret
  exact ⟨rfl, HB4.out⟩
set_option maxRecDepth 100000 in
set_option maxHeartbeats 1600000 in
theorem refusal_other (q b : Nat) (t : List WrP) (k : List Int) (i o : ItP) (w : World) (h : PTb w q b t) (hk : KeyOk k) (hg : getT t k = some o) (hv : o.ver = i.ver) (ho : ItOk o) (hi : ItOk i) (hne : o ≠ i) :
    Calls Try.prog 27 #[.pointer (some ⟨q, 0, none⟩), .agg (eightA k), .agg (itA i)] w fun e w' => e = .returned (.int .i64 (7)) ∧ Below w.heap.size w w' := by
  have HG := hide hg
  have HC : Hid (cmpF (o.ver : Int) (i.ver : Int) = 0) := hide (by rcases cmpF_rng (o.ver : Int) (i.ver : Int) with ⟨e, h2⟩ | ⟨e, h2⟩ | ⟨e, h2⟩ <;> first | exact e | omega)
  have C := hide (fun W => byVersion_any o i W)
  rw [HC.out] at C
  have hq : ∀ W, (binOp .neq 36 (.agg (itA o)) (.agg (itA i))).run Try.prog W = .ok (.bool true) W := fun W => by rw [neq_it13 ho hi W, decide_eq_false hne]; rfl
  clear hv ho hi hne
  have hA := alloc_below13 w (.cells (eightA k) 31)
  have hA2 := alloc_below13 (w.alloc (.cells (eightA k) 31)) (.cells (itA i) 36)
  have hB2 : Below w.heap.size w ((w.alloc (.cells (eightA k) 31)).alloc (.cells (itA i) 36)) := hA.trans (hA2.mono hA.size)
  have H2 := hide (h.below hB2)
  have HXK := hide ((box_new w (eightA k) 31).belowI hA2)
  have HXI : Hid (Box ((w.alloc (.cells (eightA k) 31)).alloc (.cells (itA i) 36)) (w.heap.size + 1) (itA i) 36) := hide (by have := box_new (w.alloc (.cells (eightA k) 31)) (itA i) 36; simpa using this)
  have HB2 := hide hB2
  clear hA hA2 hB2 h
  clear hg
  go_enter Try.func27, Try.ntmps27
  go_wp2_with fail
  generalize (w.alloc (.cells (eightA k) 31)).alloc (.cells (itA i) 36) = w1 at *
  have h0 : w1.cell? ⟨q, 0, none⟩ = some (.map (some b)) := H2.out.box.cell 0 _ rfl
  obtain ⟨k0, k1, k2, k3, k4, k5, k6, k7⟩ := box_eight HXK.out
  have L1 := (H2.out.map.below (below_drew13 w1)).look hk
  have L2 := fun o => ((H2.out.map.below (alloc_below13 w1 o)).below (below_drew13 _)).look hk
  rw [HG.out] at L1
  simp only [HG.out] at L2
  simp only [Option.getD_some, Option.isSome_some] at L1 L2
  have hlt := HXK.out.lt
  have hqt := H2.out.box.lt
  go_region
  have hA3 := (alloc_below13 w1 (.cells (itA o) 36)).trans ((below_drew13 (w1.alloc (.cells (itA o) 36))).mono (by simp))
  have HX3 := hide ((box_new w1 (itA o) 36).belowI (below_drew13 _))
  have HI3 := hide (HXI.out.belowI hA3)
  have HT3 := hide (H2.out.below hA3)
  have HB3 := hide (HB2.out.trans (hA3.mono HB2.out.size))
  clear hA3 L1 L2 HXK HXI HB2 H2 h0 k0 k1 k2 k3 k4 k5 k6 k7 hlt hqt
  generalize (w1.alloc (.cells (itA o) 36)).drew = w3 at *
  go_wp2_with (first | (refine wp_load_box rfl _ rfl w1.heap.size rfl HX3.out Try.underlying36 rfl infoIt13 ?_) | (refine wp_load_box rfl _ rfl (w.heap.size + 1) rfl HI3.out Try.underlying36 rfl infoIt13 ?_))
  refine (C.out w3).mono ?_
  rintro e w4 ⟨rfl, hB4⟩
  replace HX3 := hide (HX3.out.belowI hB4)
  replace HI3 := hide (HI3.out.belowI hB4)
  have HB4 := hide (HB3.out.trans (hB4.mono HB3.out.size))
  clear hB4 HB3
  go_wp2_with (first | (refine wp_load_box rfl _ rfl w1.heap.size rfl HX3.out Try.underlying36 rfl infoIt13 ?_) | (refine wp_load_box rfl _ rfl (w.heap.size + 1) rfl HI3.out Try.underlying36 rfl infoIt13 ?_))
  refine (C.out w4).mono ?_
  rintro e w5 ⟨rfl, hB5⟩
  have HX5 := hide (HX3.out.belowI hB5)
  have HI5 := hide (HI3.out.belowI hB5)
  have HB5 := hide (HB4.out.trans (hB5.mono HB4.out.size))
  clear hB5 HB4 HX3 HI3
  go_wp2_with (first | (refine wp_load_box_g rfl _ rfl w1.heap.size rfl HX5.out Try.underlying36 rfl infoIt13 ?_) | (refine wp_load_box_g rfl _ rfl (w.heap.size + 1) rfl HI5.out Try.underlying36 rfl infoIt13 ?_))
  go_ret
  exact ⟨rfl, HB5.out⟩
set_option maxRecDepth 100000 in
set_option maxHeartbeats 1600000 in
theorem refusal_same (q b : Nat) (t : List WrP) (k : List Int) (i o : ItP) (w : World) (h : PTb w q b t) (hk : KeyOk k) (hg : getT t k = some o) (hv : o.ver = i.ver) (ho : ItOk o) (hi : ItOk i) (hne : o = i) :
    Calls Try.prog 27 #[.pointer (some ⟨q, 0, none⟩), .agg (eightA k), .agg (itA i)] w fun e w' => e = .returned (.int .i64 (0)) ∧ Below w.heap.size w w' := by
  have HG := hide hg
  have HC : Hid (cmpF (o.ver : Int) (i.ver : Int) = 0) := hide (by rcases cmpF_rng (o.ver : Int) (i.ver : Int) with ⟨e, h2⟩ | ⟨e, h2⟩ | ⟨e, h2⟩ <;> first | exact e | omega)
  have C := hide (fun W => byVersion_any o i W)
  rw [HC.out] at C
  have hq : ∀ W, (binOp .neq 36 (.agg (itA o)) (.agg (itA i))).run Try.prog W = .ok (.bool false) W := fun W => by rw [neq_it13 ho hi W, decide_eq_true hne]; rfl
  clear hv ho hi hne
  have hA := alloc_below13 w (.cells (eightA k) 31)
  have hA2 := alloc_below13 (w.alloc (.cells (eightA k) 31)) (.cells (itA i) 36)
  have hB2 : Below w.heap.size w ((w.alloc (.cells (eightA k) 31)).alloc (.cells (itA i) 36)) := hA.trans (hA2.mono hA.size)
  have H2 := hide (h.below hB2)
  have HXK := hide ((box_new w (eightA k) 31).belowI hA2)
  have HXI : Hid (Box ((w.alloc (.cells (eightA k) 31)).alloc (.cells (itA i) 36)) (w.heap.size + 1) (itA i) 36) := hide (by have := box_new (w.alloc (.cells (eightA k) 31)) (itA i) 36; simpa using this)
  have HB2 := hide hB2
  clear hA hA2 hB2 h
  clear hg
  go_enter Try.func27, Try.ntmps27
  go_wp2_with fail
  generalize (w.alloc (.cells (eightA k) 31)).alloc (.cells (itA i) 36) = w1 at *
  have h0 : w1.cell? ⟨q, 0, none⟩ = some (.map (some b)) := H2.out.box.cell 0 _ rfl
  obtain ⟨k0, k1, k2, k3, k4, k5, k6, k7⟩ := box_eight HXK.out
  have L1 := (H2.out.map.below (below_drew13 w1)).look hk
  have L2 := fun o => ((H2.out.map.below (alloc_below13 w1 o)).below (below_drew13 _)).look hk
  rw [HG.out] at L1
  simp only [HG.out] at L2
  simp only [Option.getD_some, Option.isSome_some] at L1 L2
  have hlt := HXK.out.lt
  have hqt := H2.out.box.lt
  go_region
  have hA3 := (alloc_below13 w1 (.cells (itA o) 36)).trans ((below_drew13 (w1.alloc (.cells (itA o) 36))).mono (by simp))
  have HX3 := hide ((box_new w1 (itA o) 36).belowI (below_drew13 _))
  have HI3 := hide (HXI.out.belowI hA3)
  have HT3 := hide (H2.out.below hA3)
  have HB3 := hide (HB2.out.trans (hA3.mono HB2.out.size))
  clear hA3 L1 L2 HXK HXI HB2 H2 h0 k0 k1 k2 k3 k4 k5 k6 k7 hlt hqt
  generalize (w1.alloc (.cells (itA o) 36)).drew = w3 at *
  go_wp2_with (first | (refine wp_load_box rfl _ rfl w1.heap.size rfl HX3.out Try.underlying36 rfl infoIt13 ?_) | (refine wp_load_box rfl _ rfl (w.heap.size + 1) rfl HI3.out Try.underlying36 rfl infoIt13 ?_))
  refine (C.out w3).mono ?_
  rintro e w4 ⟨rfl, hB4⟩
  replace HX3 := hide (HX3.out.belowI hB4)
  replace HI3 := hide (HI3.out.belowI hB4)
  have HB4 := hide (HB3.out.trans (hB4.mono HB3.out.size))
  clear hB4 HB3
  go_wp2_with (first | (refine wp_load_box rfl _ rfl w1.heap.size rfl HX3.out Try.underlying36 rfl infoIt13 ?_) | (refine wp_load_box rfl _ rfl (w.heap.size + 1) rfl HI3.out Try.underlying36 rfl infoIt13 ?_))
  refine (C.out w4).mono ?_
  rintro e w5 ⟨rfl, hB5⟩
  have HX5 := hide (HX3.out.belowI hB5)
  have HI5 := hide (HI3.out.belowI hB5)
  have HB5 := hide (HB4.out.trans (hB5.mono HB4.out.size))
  clear hB5 HB4 HX3 HI3
  go_wp2_with (first | (refine wp_load_box_g rfl _ rfl w1.heap.size rfl HX5.out Try.underlying36 rfl infoIt13 ?_) | (refine wp_load_box_g rfl _ rfl (w.heap.size + 1) rfl HI5.out Try.underlying36 rfl infoIt13 ?_))
  go_ret
  exact ⟨rfl, HB5.out⟩
set_option maxRecDepth 100000 in
set_option maxHeartbeats 1600000 in
theorem refusal_newer (q b : Nat) (t : List WrP) (k : List Int) (i o : ItP) (w : World) (h : PTb w q b t) (hk : KeyOk k) (hg : getT t k = some o) (hv : o.ver < i.ver) :
    Calls Try.prog 27 #[.pointer (some ⟨q, 0, none⟩), .agg (eightA k), .agg (itA i)] w fun e w' => e = .returned (.int .i64 (0)) ∧ Below w.heap.size w w' := by
  have HG := hide hg
  have HC : Hid (cmpF (o.ver : Int) (i.ver : Int) = -1) := hide (by rcases cmpF_rng (o.ver : Int) (i.ver : Int) with ⟨e, h2⟩ | ⟨e, h2⟩ | ⟨e, h2⟩ <;> first | exact e | omega)
  have C := hide (fun W => byVersion_any o i W)
  rw [HC.out] at C
  have hA := alloc_below13 w (.cells (eightA k) 31)
  have hA2 := alloc_below13 (w.alloc (.cells (eightA k) 31)) (.cells (itA i) 36)
  have hB2 : Below w.heap.size w ((w.alloc (.cells (eightA k) 31)).alloc (.cells (itA i) 36)) := hA.trans (hA2.mono hA.size)
  have H2 := hide (h.below hB2)
  have HXK := hide ((box_new w (eightA k) 31).belowI hA2)
  have HXI : Hid (Box ((w.alloc (.cells (eightA k) 31)).alloc (.cells (itA i) 36)) (w.heap.size + 1) (itA i) 36) := hide (by have := box_new (w.alloc (.cells (eightA k) 31)) (itA i) 36; simpa using this)
  have HB2 := hide hB2
  clear hA hA2 hB2 h
  clear hg
  go_enter Try.func27, Try.ntmps27
  go_wp2_with fail
  generalize (w.alloc (.cells (eightA k) 31)).alloc (.cells (itA i) 36) = w1 at *
  have h0 : w1.cell? ⟨q, 0, none⟩ = some (.map (some b)) := H2.out.box.cell 0 _ rfl
  obtain ⟨k0, k1, k2, k3, k4, k5, k6, k7⟩ := box_eight HXK.out
  have L1 := (H2.out.map.below (below_drew13 w1)).look hk
  have L2 := fun o => ((H2.out.map.below (alloc_below13 w1 o)).below (below_drew13 _)).look hk
  rw [HG.out] at L1
  simp only [HG.out] at L2
  simp only [Option.getD_some, Option.isSome_some] at L1 L2
  have hlt := HXK.out.lt
  have hqt := H2.out.box.lt
  go_region
  have hA3 := (alloc_below13 w1 (.cells (itA o) 36)).trans ((below_drew13 (w1.alloc (.cells (itA o) 36))).mono (by simp))
  have HX3 := hide ((box_new w1 (itA o) 36).belowI (below_drew13 _))
  have HI3 := hide (HXI.out.belowI hA3)
  have HT3 := hide (H2.out.below hA3)
  have HB3 := hide (HB2.out.trans (hA3.mono HB2.out.size))
  clear hA3 L1 L2 HXK HXI HB2 H2 h0 k0 k1 k2 k3 k4 k5 k6 k7 hlt hqt
  generalize (w1.alloc (.cells (itA o) 36)).drew = w3 at *
  go_wp2_with (first | (refine wp_load_box rfl _ rfl w1.heap.size rfl HX3.out Try.underlying36 rfl infoIt13 ?_) | (refine wp_load_box rfl _ rfl (w.heap.size + 1) rfl HI3.out Try.underlying36 rfl infoIt13 ?_))
  refine (C.out w3).mono ?_
  rintro e w4 ⟨rfl, hB4⟩
  replace HX3 := hide (HX3.out.belowI hB4)
  replace HI3 := hide (HI3.out.belowI hB4)
  have HB4 := hide (HB3.out.trans (hB4.mono HB3.out.size))
  clear hB4 HB3
  go_wp2_with (first | (refine wp_load_box rfl _ rfl w1.heap.size rfl HX3.out Try.underlying36 rfl infoIt13 ?_) | (refine wp_load_box rfl _ rfl (w.heap.size + 1) rfl HI3.out Try.underlying36 rfl infoIt13 ?_))
  refine (C.out w4).mono ?_
  rintro e w5 ⟨rfl, hB5⟩
  have HX5 := hide (HX3.out.belowI hB5)
  have HI5 := hide (HI3.out.belowI hB5)
  have HB5 := hide (HB4.out.trans (hB5.mono HB4.out.size))
  clear hB5 HB4 HX3 HI3
  go_wp2_with fail
  go_ret
  exact ⟨rfl, HB5.out⟩
theorem refusal_any (q b : Nat) (t : List WrP) (k : List Int) (i : ItP) (w : World) (h : PTb w q b t) (hk : KeyOk k) (hi : ItOk i) :
    Calls Try.prog 27 #[.pointer (some ⟨q, 0, none⟩), .agg (eightA k), .agg (itA i)] w fun e w' => e = .returned (.int .i64 (refA t k i)) ∧ Below w.heap.size w w' := by
  cases hg : getT t k with
  | none => exact refusal_none q b t k i w h hk hg
  | some o =>
    have ho := getT_ok h.map.oks h.map.ok hg
    by_cases h1 : i.ver < o.ver
    · have e : refA t k i = 13 := by unfold refA; rw [hg]; simp only; rw [if_pos h1]
      rw [e]
      exact refusal_old q b t k i o w h hk hg h1
    · by_cases h2 : o.ver = i.ver
      · by_cases h3 : o = i
        · have e : refA t k i = 0 := by
            unfold refA
            rw [hg]
            simp only
            rw [if_neg h1, if_neg (fun h4 => by have := (itEqB_iff o i).2 h3; rw [h4.2] at this; cases this)]
          rw [e]
          exact refusal_same q b t k i o w h hk hg h2 ho hi h3
        · have e : refA t k i = 7 := by
            unfold refA
            rw [hg]
            simp only
            rw [if_neg h1, if_pos ⟨h2, by cases h4 : itEqB o i with
              | false => rfl
              | true => exact absurd ((itEqB_iff o i).1 h4) h3⟩]
          rw [e]
          exact refusal_other q b t k i o w h hk hg h2 ho hi h3
      · have e : refA t k i = 0 := by
          unfold refA
          rw [hg]
          simp only
          rw [if_neg h1, if_neg (fun h4 => h2 h4.1)]
        rw [e]
        exact refusal_newer q b t k i o w h hk hg (by omega)
end
section
open Go.RowKit Go.Maps Classical

theorem box_item {W : World} {q : Nat} {i : ItP} {t : TypeId} (h : Box W q (itA i) t) : W.cell? ⟨q, 0, none⟩ = some (.int .u32 (i.ver : Int)) ∧ W.cell? ⟨q, 1, none⟩ = some (.string (strOfNums i.val)) ∧ W.cell? ⟨q, 2, none⟩ = some (.int .u32 (i.cf.e : Int)) ∧ W.cell? ⟨q, 3, none⟩ = some (.int .u8 (i.cf.r : Int)) ∧ W.cell? ⟨q, 4, none⟩ = some (.int .u8 (i.cf.w : Int)) ∧ W.cell? ⟨q, 5, none⟩ = some (.int .u8 (atN i.cf.vs 0)) ∧ W.cell? ⟨q, 6, none⟩ = some (.int .u8 (atN i.cf.vs 1)) ∧ W.cell? ⟨q, 7, none⟩ = some (.int .u8 (atN i.cf.vs 2)) ∧ W.cell? ⟨q, 8, none⟩ = some (.int .u8 (atN i.cf.vs 3)) ∧ W.cell? ⟨q, 9, none⟩ = some (.int .u8 (atN i.cf.vs 4)) ∧ W.cell? ⟨q, 10, none⟩ = some (.int .u8 (atN i.cf.vs 5)) ∧ W.cell? ⟨q, 11, none⟩ = some (.int .u8 (atN i.cf.vs 6)) ∧ W.cell? ⟨q, 12, none⟩ = some (.int .u8 (atN i.cf.vs 7)) :=
  ⟨h.cell 0 _ rfl, h.cell 1 _ rfl, h.cell 2 _ rfl, h.cell 3 _ rfl, h.cell 4 _ rfl, h.cell 5 _ rfl, h.cell 6 _ rfl, h.cell 7 _ rfl, h.cell 8 _ rfl, h.cell 9 _ rfl, h.cell 10 _ rfl, h.cell 11 _ rfl, h.cell 12 _ rfl⟩
theorem name13 (k : List Int) (hk : KeyOk k) (w : World) : ∃ s : ByteArray, Calls Try.prog 25 #[.agg (eightA k)] w fun e w' => e = .returned (.tuple #[.string s, .bool (nameF k).2]) ∧ Below w.heap.size w w' := by
  have C := name_any k hk.l hk.b w
  have hc8 : cells8 k = eightA k := by unfold cells8; rw [← eightE_map hk.l]
  rw [hc8] at C
  exact ⟨_, C⟩
set_option maxRecDepth 100000 in
set_option maxHeartbeats 1600000 in
theorem ptIns_any (q b : Nat) (t : List WrP) (k : List Int) (i : ItP) (w : World) (h : PTb w q b t) (hk : KeyOk k) (hi : ItOk i) :
    Calls Try.prog 12 #[.pointer (some ⟨q, 0, none⟩), .agg (eightA k), .agg (itA i)] w fun e w' => e = .returned (.int .i64 (insA t k i)) ∧ PTb w' q b (insD t k i) ∧ KeepBut (fun j => j = b) w w' := by
  have hA := alloc_below13 w (.cells (eightA k) 31)
  have hA2 := alloc_below13 (w.alloc (.cells (eightA k) 31)) (.cells (itA i) 36)
  have hB2 : Below w.heap.size w ((w.alloc (.cells (eightA k) 31)).alloc (.cells (itA i) 36)) := hA.trans (hA2.mono hA.size)
  have H2 := hide (h.below hB2)
  have C := hide (made_any q b _ H2.out.box)
  have HXK := hide ((box_new w (eightA k) 31).belowI hA2)
  have HXI : Hid (Box ((w.alloc (.cells (eightA k) 31)).alloc (.cells (itA i) 36)) (w.heap.size + 1) (itA i) 36) := hide (by have := box_new (w.alloc (.cells (eightA k) 31)) (itA i) 36; simpa using this)
  have HB2 := hide hB2
  have HNE := hide h.ne
  have HLB := hide h.map.lt
  have HLQ := hide h.box.lt
  have HKK := hide hk
  have HII := hide hi
  have HIA := hide (insA_ref t k i)
  have CN := hide (fun W => name13 k hk W)
  have CI := hide (fun W => itemMay_any i hi W)
  have CR := hide (fun W (hW : PTb W q b t) => refusal_any q b t k i W hW hk hi)
  clear hA hA2 hB2 h hk hi
  go_enter Try.func12, Try.ntmps12
  go_wp2_with fail
  refine C.out.mono ?_
  rintro e w1 ⟨rfl, hw1⟩
  replace H2 : Hid (PTb w1 q b t) := hide (by rw [hw1]; exact H2.out)
  replace HXK : Hid (Box w1 w.heap.size (eightA k) 31) := hide (by rw [hw1]; exact HXK.out)
  replace HXI : Hid (Box w1 (w.heap.size + 1) (itA i) 36) := hide (by rw [hw1]; exact HXI.out)
  replace HB2 : Hid (Below w.heap.size w w1) := hide (by rw [hw1]; exact HB2.out)
  clear hw1 C
  obtain ⟨s, CN1⟩ := CN.out w1
  have CN := hide CN1
  clear CN1
  go_wp2_with (refine wp_load_box rfl _ rfl w.heap.size rfl HXK.out Try.underlying31 rfl infoKey13 ?_)
  obtain ⟨N, hN⟩ : ∃ N, N = (nameF k).2 := ⟨_, rfl⟩
  rw [← hN] at CN HIA
  clear hN
  cases N with
  | false =>
    have HE : Hid (insA t k i = 1) := hide (by rw [HIA.out]; simp)
    refine CN.out.mono ?_
    rintro e w3 ⟨rfl, hB3⟩
    have HB3 := hide (HB2.out.trans (hB3.mono HB2.out.size))
    have H3 := hide (H2.out.below hB3)
    clear hB3
    go_wp2_with fail
    go_ret
    refine ⟨by rw [HE.out]; rfl, ?_, KeepBut.of_below _ HB3.out⟩
    unfold insD
    rw [HE.out, if_neg (by decide)]
    exact H3.out
  | true =>
    refine CN.out.mono ?_
    rintro e w3 ⟨rfl, hB3⟩
    replace HB2 := hide (HB2.out.trans (hB3.mono HB2.out.size))
    replace H2 := hide (H2.out.below hB3)
    replace HXK := hide (HXK.out.belowI hB3)
    replace HXI := hide (HXI.out.belowI hB3)
    clear hB3 CN
    go_wp2_with (first | (refine wp_load_box_g rfl _ rfl (w.heap.size + 1) rfl HXI.out Try.underlying36 rfl infoIt13 ?_))
    obtain ⟨M, hM⟩ : ∃ M, M = itMayB i := ⟨_, rfl⟩
    rw [← hM] at CI HIA
    clear hM
    cases M with
    | false =>
      have HE : Hid (insA t k i = 1) := hide (by rw [HIA.out]; simp)
      refine (CI.out w3).mono ?_
      rintro e w4 ⟨rfl, hB4⟩
      have HB3 := hide (HB2.out.trans (hB4.mono HB2.out.size))
      have H3 := hide (H2.out.below hB4)
      clear hB4
      go_wp2_with fail
      go_ret
      refine ⟨by rw [HE.out]; rfl, ?_, KeepBut.of_below _ HB3.out⟩
      unfold insD
      rw [HE.out, if_neg (by decide)]
      exact H3.out
    | true =>
      have HE : Hid (insA t k i = refA t k i) := hide (by rw [HIA.out]; simp)
      refine (CI.out w3).mono ?_
      rintro e w4 ⟨rfl, hB4⟩
      replace HB2 := hide (HB2.out.trans (hB4.mono HB2.out.size))
      replace H2 := hide (H2.out.below hB4)
      replace HXK := hide (HXK.out.belowI hB4)
      replace HXI := hide (HXI.out.belowI hB4)
      have CR1 := hide (CR.out w4 H2.out)
      clear hB4 CI CR
      go_wp2_with (first | (refine wp_load_box rfl _ rfl w.heap.size rfl HXK.out Try.underlying31 rfl infoKey13 ?_) | (refine wp_load_box rfl _ rfl (w.heap.size + 1) rfl HXI.out Try.underlying36 rfl infoIt13 ?_))
      refine CR1.out.mono ?_
      rintro e w5 ⟨rfl, hB5⟩
      replace HB2 := hide (HB2.out.trans (hB5.mono HB2.out.size))
      replace H2 := hide (H2.out.below hB5)
      replace HXK := hide (HXK.out.belowI hB5)
      replace HXI := hide (HXI.out.belowI hB5)
      clear hB5 CR1
      obtain ⟨R, hR⟩ : ∃ R, R = refA t k i := ⟨_, rfl⟩
      rw [← hR] at HE ⊢
      clear hR
      by_cases h0 : R = 0
      · subst h0
        obtain ⟨w6, hrun, hm6, hk6⟩ := (H2.out.map.below (below_drew13 w5)).put HKK.out HII.out HE.out
        have g0 : w5.cell? ⟨q, 0, none⟩ = some (.map (some b)) := H2.out.box.cell 0 _ rfl
        obtain ⟨k0, k1, k2, k3, k4, k5, k6, k7⟩ := box_eight HXK.out
        obtain ⟨i0, i1, i2, i3, i4, i5, i6, i7, i8, i9, i10, i11, i12⟩ := box_item HXI.out
        have HM6 := hide hm6
        have HK6 := hide hk6
        have HBX := hide H2.out.box
        clear hm6 hk6 H2 HXK HXI
        go_wp2_with fail
        go_region
        go_wp2_with fail
        go_ret
        have hk9 := (KeepBut.of_below (fun j => j = b) HB2.out).trans ((KeepBut.refl (fun k => k = b) w5).drew.trans HK6.out (fun _ _ h => h)) (fun _ _ h => h)
        refine ⟨by rw [HE.out]; rfl, ?_, hk9⟩
        unfold insD
        rw [HE.out, if_pos rfl]
        exact ⟨HBX.out.keep ((KeepBut.refl (fun k => k = b) w5).drew.trans HK6.out (fun _ _ h => h)) HNE.out, HM6.out⟩
      · have hne : (R == 0) = false := by simpa using h0
        go_wp2_with fail
        go_ret
        refine ⟨by rw [HE.out]; rfl, ?_, KeepBut.of_below _ HB2.out⟩
        unfold insD
        rw [HE.out, if_neg h0]
        exact H2.out
end
section
open Go.RowKit Go.Maps Go.Shelf Classical
attribute [local go_sem] Oper.semAt_some

/-- A key's cells; a row of keys. -/
abbrev kyCs (t : KeyT) : List Value := eightE t.1
def rowK (ss : List KeyT) : List Value := ss.flatMap kyCs
theorem rowK_length (ss : List KeyT) : (rowK ss).length = ss.length * 8 := by
  induction ss with
  | nil => rfl
  | cons t r ih =>
    unfold rowK at ih ⊢
    have e1 : (kyCs t).length = 8 := rfl
    have e2 : (t :: r).length = r.length + 1 := rfl
    rw [List.flatMap_cons, List.length_append, ih, e1, e2]
    omega
theorem rowK_append (ss ts : List KeyT) : rowK (ss ++ ts) = rowK ss ++ rowK ts := by unfold rowK; simp
theorem infoKys : (Try.prog.info? 31).map (fun i => (i.zero, i.size, i.bytes)) = some (some (.agg (eightA [0, 0, 0, 0, 0, 0, 0, 0])), 8, 8) := by kernel_rfl
theorem Box.grownK {W W' : World} {row : Option Nat} {B : Nat} {cs : Array Value} {t : TypeId} (h : Box W B cs t) (hg : W.grownBy W' row) (hr : ∀ r, row = some r → ∃ o : Obj, W.heap[r]? = some o ∧ o.isCells = false) : Box W' B cs t :=
  (hg.block B h.lt (fun e => by
    obtain ⟨o, ho, hc⟩ := hr B e.symm
    have hb : W.heap[B]? = _ := h
    rw [hb] at ho; cases ho; cases hc)).trans h
theorem cells_newsK (W : World) (x : KeyT) (o : Obj) (ho : o = .cells (eightA x.1) 31) : ∀ j u, (kyCs x)[j]? = some u → (W.alloc o).cell? (Addr.add ⟨W.heap.size, 0, none⟩ j) = some u := by
  intro j u hu
  subst ho
  rw [Addr.add_lit, Nat.zero_add]
  exact (box_new W _ _).cell j u (by simpa using hu)

set_option maxRecDepth 100000 in
set_option maxHeartbeats 2000000 in
theorem kappendSeq_in (n : Nat) (hn : 2 ≤ n) (g : Nat) (lb : Array Value) (eg : ∀ args w, (callFunc g args).run Try.prog w = .ok (.enter g args) w) (S : List KeyT → Prop) (N : Nat) (hN : N ≤ 1000000) (w : World)
    (hseq : SeqStopsK Fence.wide (n - 1) Try.prog g lb (fun x : KeyT => #[kyV x.1]) KeepsWalks S (fun _ => True) N w) :
    CallsIn Fence.wide n Try.prog 53 #[.slice none 0 0, .func (.func g) #[] lb] w fun e w' => ∃ (v : Value) (ss : List KeyT), e = .returned v ∧ S ss ∧ w'.ownsRow w.heap.size 31 8 v ss.length (rowK ss) ∧ Below w.heap.size w w' := by
  have h1 : 1 ≤ n := by omega
  have HI := hide infoKy8
  obtain ⟨i0, hi, hz0, hz1, hz2⟩ := info_parts infoKys
  have hF : Fence.wide.fn 53 := trivial
  refine callsIn_of_wp_marks Try.func53 rfl hF ?_ rfl
  simp only [Try.ntmps53, List.size_toArray, List.length_cons, List.length_nil, Nat.reduceAdd, Nat.reduceSub, Array.replicate_succ, Array.replicate_zero, List.push_toArray, List.append_toArray, List.nil_append, List.cons_append]
  gi_wp2
  have bO := Boxed.new w 66 (.slice none 0 0)
  have hB0 : Below w.heap.size w (w.alloc (.cells #[.slice none 0 0] 66)) := (Below.refl _ w).alloc (Nat.le_refl _) _
  have hI : OwnFrom (w.alloc (.cells #[.slice none 0 0] 66)).heap.size (fun (pre : List KeyT) W => (∃ v, Boxed W w.heap.size 66 v ∧ W.ownsRow w.heap.size 31 8 v pre.length (rowK pre) ∧ True) ∧ Below w.heap.size w W) :=
    OwnFrom.and (Own.from (holdsRow_own w.heap.size w.heap.size 66 31 8 (fun pre : List KeyT => pre.length) rowK (fun _ _ => True)) _) (ownFrom_below (Nat.le_refl _) (by simp))
  refine wpIn_rangeFunc_ownH rfl h1 (gf := g) (lb := lb) rfl trivial eg hseq walksK_t walksK_b hB0 (fun _ => rfl)
    (fun pre W => (∃ v, Boxed W w.heap.size 66 v ∧ W.ownsRow w.heap.size 31 8 v pre.length (rowK pre) ∧ True) ∧ Below w.heap.size w W)
    (fun _ _ _ => False) hI (fun _ _ _ _ _ hs _ _ => hs) ⟨⟨_, bO, World.ownsRow_nil _ _ _ _, trivial⟩, hB0⟩
    (fun x a' W => ∃ q, a' = { tmps := #[.slice none 0 0, .func (.func g) #[] lb, .pointer (some ⟨w.heap.size, 0, none⟩), undef, .slice none 0 0, .pointer (some ⟨q, 0, none⟩), .func (.func g) #[] lb, kyV x.1, undef, undef, undef, undef, undef], defers := [] } ∧ Box W q (eightA x.1) 31)
    (fun x a' s X Y row hs hg hr => by
      obtain ⟨q, e, hb⟩ := hs
      exact ⟨q, e, hb.grownK hg (fun r e => (hr r e).2)⟩) ?assign ?body ?done ?stop
  case assign =>
    rintro l pre x W K hi2 hK
    have HX := hide (box_new W (eightA [0, 0, 0, 0, 0, 0, 0, 0]) 31)
    gi_wp2_with (refine wpIn_store_boxK (cs' := eightA x.1) rfl rfl _ _ rfl _ rfl rfl HX.out rfl HI.out (by simp [Value.oneCell']) ?_; intro w3 hb3 hk3; have HB3 := hide hb3; have HK3 := hide hk3; clear hb3 hk3)
    have hg3 := grown_newK _ HK3.out
    exact hK _ _ (KeepsFrom.of_grownBy hg3 (fun j e => by cases e)) (KeepsWalks.of_grownBy hg3 (fun j o e => by cases e)) (hI pre W w3 none hi2 hg3 (fun r e => by cases e)) ⟨_, rfl, HB3.out⟩
  case body =>
    rintro l pre x a' W hl hrec ⟨⟨v, hv, hrow, _⟩, hB⟩ ⟨q, rfl, hbx⟩ hlt
    have hc := hv.cell
    obtain ⟨z0, z1, z2, z3, z4, z5, z6, z7⟩ := box_eight hbx
    have zl := hbx.lt
    have HBX := hide hbx
    have HN := hide (cells_newsK W x _ rfl)
    clear hbx hrec
    gi_wp2_with (gi_at_builtin; refine wpListIn_append_own _ rfl _ _ 66 rfl w.heap.size 31 i0 _ 8 8 Try.underlying66 hi hz0 hz1 hz2 rfl (by decide) _ _ _ rfl (hrow.alloc _) ⟨W.heap.size, 0, none⟩ 1 1 (kyCs x) rfl rfl HN.out (by simp [Value.oneCell']) (by unfold maxLen; omega) (by omega) (by have := hB.size; simp; omega) ?_; intro v' w1 hown' hgrow _; obtain ⟨g', cap', rfl⟩ := ownsRow_succ hown'; obtain ⟨hv1, hv2, hr2, hk2, hb2⟩ := hv.appended (by decide) hrow hB.size (Nat.le_refl _) hown' hgrow; have hc1 := hv1.cell; have hf1 := hv1.frozen; have HR2 := hide hr2; have HK2 := hide hk2; have HB2 := hide hb2; have HV2 := hide hv2; clear hr2 hk2 hb2 hv2 hown' hgrow)
    have hro : rowK (pre ++ [x]) = rowK pre ++ kyCs x := by rw [rowK_append]; simp [rowK]
    have hle : (pre ++ [x]).length = pre.length + 1 := by simp
    refine ⟨HK2.out.from _, HK2.out.walks, ⟨_, HV2.out, ?_⟩, hB.trans HB2.out⟩
    rw [hro, hle]
    exact ⟨HR2.out, trivial⟩
  case done =>
    rintro D ys W hD hS ⟨⟨v, hv, hrow, _⟩, hB⟩ hK
    have hc := hv.cell
    gi_wp2
    refine ⟨by simp, .inl ⟨_, _, rfl, run_takeDeferred hK, ?_⟩⟩
    exact ⟨_, results_tmp rfl _ _ _, v, ys, rfl, hS, ownsRow_putObj hrow _ hK rfl, hB.trans (belowK_b (w := w) (Nat.le_refl _) W D _ _ (by simp at hD; omega) hK rfl rfl)⟩
  case stop =>
    rintro D c pre W _ _ h _
    exact h.elim
set_option maxRecDepth 100000 in
theorem kcollect_in (n : Nat) (hn : 3 ≤ n) (g : Nat) (lb : Array Value) (eg : ∀ args w, (callFunc g args).run Try.prog w = .ok (.enter g args) w) (S : List KeyT → Prop) (N : Nat) (hN : N ≤ 1000000) (w : World)
    (hseq : SeqStopsK Fence.wide (n - 1 - 1) Try.prog g lb (fun x : KeyT => #[kyV x.1]) KeepsWalks S (fun _ => True) N w) :
    CallsIn Fence.wide n Try.prog 43 #[.func (.func g) #[] lb] w fun e w' => ∃ (v : Value) (ss : List KeyT), e = .returned v ∧ S ss ∧ w'.ownsRow w.heap.size 31 8 v ss.length (rowK ss) ∧ Below w.heap.size w w' := by
  have h1 : 1 ≤ n := by omega
  have hF : Fence.wide.fn 43 := trivial
  refine callsIn_of_wp Try.func43 rfl hF ?_ rfl
  simp only [Try.ntmps43, List.size_toArray, List.length_cons, List.length_nil, Nat.reduceAdd, Nat.reduceSub, Array.replicate_succ, Array.replicate_zero, List.push_toArray, List.append_toArray, List.nil_append, List.cons_append]
  gi_wp2_with (refine ⟨trivial, ?_⟩; gi_at_call 53; refine (kappendSeq_in (n - 1) (by omega) g lb eg S N hN _ hseq).mono ?_; rintro e w' ⟨v, ss, rfl, hS, hrow, hb⟩)
  go_ret
  exact ⟨v, ss, rfl, hS, hrow, hb⟩
end
end Go.Proofs.Ytlngejmojpkdkaa
